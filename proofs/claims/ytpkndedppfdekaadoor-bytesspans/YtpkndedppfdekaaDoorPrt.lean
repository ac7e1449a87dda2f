/- Parts of package bytes: split by each set, then sorted. -/
import Derived.Test.YtpkndedppfdekaaDoorSort
namespace Go.Proofs.YtpkndedppfdekaaDoor
open Go.RowKit

theorem OwnS.shape1 {w : World} {B : Nat} {v : Value} {l : List W4} (h : OwnS w B v l) (h0 : 0 < l.length) : ∃ g cap, v = .slice (some ⟨g, 0, none⟩) l.length cap := by
  rcases h.2 with ⟨_, e⟩ | ⟨g, cap, cur, rfl, _⟩
  · omega
  · exact ⟨g, cap, rfl⟩
theorem Good.pos {l ps : List W4} (h : Good l ps) : 0 < ps.length := List.length_pos_of_mem (h.all 0 (by omega))
theorem all_fit : Fit4 (notB noneB) := not_fit _

set_option maxHeartbeats 4000000 in
theorem partsC (v : Value) (l : List W4) (w : World) (hl : l.length ≤ 1000) (hA : Sets w v l) (hT : Tab w) :
    Calls Tryd.prog 24 #[v] w fun e w' => ∃ v', e = .returned v' ∧ OwnS w' w.heap.size v' (partsB l) ∧ Below w.heap.size w w' := by
  have hB0 : 0 < w.heap.size := by
    have := World.block_lt_of_cell? w _ (hT 0 (by decide))
    exact this
  have GZ : Hid (∀ u, Calls Tryd.prog 16 #[.agg #[.int .u64 0, .int .u64 0, .int .u64 0, .int .u64 0]] u fun e w' => e = .returned (valB (notB noneB)) ∧ Below u.heap.size u w') := hid (fun u => notW noneB u noneB_fit)
  have GS : Hid (∀ v' ps S u, w.heap.size ≤ u.heap.size → 0 < ps.length → ps.length ≤ 256 → (∀ P ∈ ps, Fit4 P) → Fit4 S → OwnS u w.heap.size v' ps → Calls Tryd.prog 30 #[v', valB S] u fun e w' => ∃ v', e = .returned v' ∧ OwnS w' w.heap.size v' (splitL S ps) ∧ Below w.heap.size u w') := hid (fun v' ps S u h1 h2 h3 h4 h5 h6 => splitC v' ps S.a S.b S.c S.d u w.heap.size h1 h2 h3 h4 h5 h6)
  have GQ : Hid (∀ g cap ps u, w.heap.size ≤ u.heap.size → ps.length ≤ 256 → (∀ P ∈ ps, Fit4 P) → OwnS u w.heap.size (.slice (some ⟨g, 0, none⟩) ps.length cap) ps → Below w.heap.size w u → Calls Tryd.prog 31 #[.slice (some ⟨g, 0, none⟩) ps.length cap, .func (.func 32) #[] #[]] u fun e w' =>
      e = .returned (.tuple #[]) ∧ ∃ l', l'.Perm ps ∧ l'.Pairwise (fun P Q => leastB P ≤ leastB Q) ∧ OwnS w' w.heap.size (.slice (some ⟨g, 0, none⟩) ps.length cap) l' ∧ Below w.heap.size u w') := hid (fun g cap ps u h1 h2 h3 h4 h5 => sortC g cap ps u w.heap.size hB0 h1 h2 h3 h4 (hT.keep h5))
  obtain ⟨av, cv, rfl, hx1, _, hFl, hAt⟩ := id hA
  have hFl := hid hFl
  have hAt := hid hAt
  have hg0 : Hid (Good (l.take 0) [notB noneB]) := hid (by rw [List.take_zero]; exact good_nil)
  have hend : Hid (∀ k ps qs, l.length ≤ k → Good (l.take k) ps → qs.Perm ps → qs.Pairwise (fun P Q => leastB P ≤ leastB Q) → qs = partsB l) := hid (fun k ps qs hk hg hp hs => by rw [List.take_of_length_le hk] at hg; exact hg.sorted hp hs)
  have hstep : Hid (∀ k (hk : k < l.length) ps, Good (l.take k) ps → Good (l.take (k + 1)) (splitL l[k] ps)) := hid (fun k hk ps hg => by rw [List.take_succ_eq_append_getElem hk]; exact hg.split (hFl.out _ (List.getElem_mem hk)))
  have hZf := all_fit
  clear hA hT hx1
  generalize partsB l = R at hend ⊢
  generalize notB noneB = Z at GZ hg0 hZf
  obtain ⟨za, zb, zc, zd⟩ := Z
  go_enter Tryd.func24, Tryd.ntmps24
  go_wp2_with (go_at_call 16; refine (GZ.out _).mono ?_; rintro e w1 ⟨rfl, hb1⟩)
  have hs1 := hb1.size
  have hO1 : OwnS (w1.alloc (.cells #[.int .u64 (za : Int), .int .u64 (zb : Int), .int .u64 (zc : Int), .int .u64 (zd : Int)] 25)) w.heap.size (.slice (some ⟨w1.heap.size, 0, none⟩) 1 1) [⟨za, zb, zc, zd⟩] := by
    unfold OwnS
    exact World.ownsRow_lit w1 #[.int .u64 (za : Int), .int .u64 (zb : Int), .int .u64 (zc : Int), .int .u64 (zd : Int)] 1 hs1 (by unfold maxLen; omega) (by simp)
  have hO1 := hid hO1
  have hb1a := bl_step hb1 (al' w1 (.cells #[.int .u64 (za : Int), .int .u64 (zb : Int), .int .u64 (zc : Int), .int .u64 (zd : Int)] 25))
  go_loopw [3, 11] (fun o i wr => ∃ (k : Nat) (ps : List W4), k ≤ l.length ∧ i = .int .i64 k ∧ Hid (Good (l.take k) ps) ∧ Hid (OwnS wr w.heap.size o ps) ∧ Below w.heap.size w wr) (fun _ i _ => l.length - (intOf i).toNat)
  case atStart => exact ⟨0, [⟨za, zb, zc, zd⟩], Nat.zero_le _, rfl, hg0, hO1, hb1a⟩
  case round =>
    obtain ⟨k, ps, hk, rfl, hG, hO, hbl⟩ := hrel
    have hps0 := hG.out.pos
    have hps := hG.out.len
    have hpf := hid hG.out.fit
    by_cases hlt : k < l.length
    · have hltz : (k : Int) < (l.length : Int) := by omega
      obtain ⟨b', o', rfl, hb', hat'⟩ := hAt.out k hlt
      have hat' := hat'.keep hbl
      have hSf := hid (hFl.out _ (List.getElem_mem hlt))
      have hGn := hid (hstep.out k hlt ps hG.out)
      generalize l[k] = S at hat' hSf hGn
      have hal := al' wr (.cells #[.int .u64 (S.a : Int), .int .u64 (S.b : Int), .int .u64 (S.c : Int), .int .u64 (S.d : Int)] 25)
      have hbl1 := bl_step hbl hal
      have hO2 := hid (own_below hO.out hal)
      have GS0 := hid (GS.out u3 ps S _ hbl1.size hps0 hps hpf.out hSf.out hO2.out)
      obtain ⟨sa, sb, sc, sd⟩ := S
      obtain ⟨d0, d1, d2, d3⟩ := hat'
      simp only at d0 d1 d2 d3
      go_wp2_with (go_at_call 30; refine GS0.out.mono ?_; rintro e w2 ⟨v2, rfl, hO3, hb2⟩)
      exact ⟨⟨k + 1, _, by omega, by go_num, hGn, hid hO3, hbl1.trans hb2⟩, by simp [intOf]; omega⟩
    · have hltz : ¬ (k : Int) < (l.length : Int) := by omega
      obtain ⟨g, cap, rfl⟩ := OwnS.shape1 (l := ps) hO.out hps0
      have GQ0 := hid (GQ.out g cap ps wr hbl.size hps hpf.out hO.out hbl)
      go_wp2_with (go_at_call 31; refine GQ0.out.mono ?_; rintro e w2 ⟨rfl, qs, hp, hs, hO2, hb2⟩)
      go_ret
      have e := hend.out k ps qs (by omega) hG.out hp hs
      subst e
      exact ⟨_, rfl, hO2, hbl.trans hb2⟩

end Go.Proofs.YtpkndedppfdekaaDoor
