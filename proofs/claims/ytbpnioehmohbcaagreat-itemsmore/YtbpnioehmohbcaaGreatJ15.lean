/- topiaryref12.Sym: a name's symbol. What is asked of package gram; topiarylaw12.wakes. What is asked of layer 4's reference, kept; right rules are told to be right. gram.sides, side, keyword. -/
import Derived.Test.YtbpnioehmohbcaaGreatJ14
namespace Go.Proofs.YtbpnioehmohbcaaGreat
open Go.RowKit Go.Maps Go.Sort
def Gm.all (g:Gm):Nat:=g.terms + g.nonts.length
end Go.Proofs.YtbpnioehmohbcaaGreat
namespace Go.Proofs.YtbpnioehmohbcaaGreat
open Go.RowKit Go.Maps Go.Sort
structure SoundG (g:Gm):Prop where
 levels:g.levels.length = g.terms + 1
 start:0 < g.nonts.length → (g.terms:Int) < g.start ∧ g.start ≤ (g.all:Int)
 names:∀ i j:Nat,1 ≤ i → i < j → j ≤ g.all → g.name (i:Int) ≠ g.name (j:Int)
 prods:∀ p ∈ g.prods,(g.terms:Int) < p.left ∧ p.left ≤ (g.all:Int) ∧ 0 ≤ p.prec ∧ p.prec ≤ (g.terms:Int) ∧ p.right.length ≤ 8 ∧ ∀ k ∈ p.right,1 ≤ k ∧ k ≤ (g.all:Int)
structure BndG (g:Gm):Prop where
 rules:g.rules.length ≤ 1000
 nonts:g.nonts.length ≤ 1000
 levels:g.levels.length ≤ 1000
 prods:g.prods.length ≤ 1000
 re:∀ r ∈ g.rules,r.re.length ≤ 1000
 right:∀ p ∈ g.prods,p.right.length ≤ 1000
def ex1:Txt:=[116,111,107,101,110,32,97,32,47,120,47,59,32,115,58,32,97,32,115,32,124,32,59]
def ex2:Txt:=[115,58,32,98,59]
structure PrsOK (prs:Txt → Option Gm):Prop where
 yes:∀ (s:Txt) (g:Gm) (u:World),s.length ≤ 1000000 → prs s = some g → Calls Tryz.prog 24 #[.string (strT s)] u fun e w' => ∃ rv nv lv pv,e = .returned (.tuple #[gmA rv nv lv pv g.start,.int .i64 0,.int .i64 0]) ∧ GmV w' rv nv lv pv g ∧ Below u.heap.size u w'
 no:∀ (s:Txt) (u:World),s.length ≤ 1000000 → prs s = none → Calls Tryz.prog 24 #[.string (strT s)] u fun e w' => ∃ (ra na la pa:Option Addr) (rc nc lc pc:Nat) (st n er:Int),e = .returned (.tuple #[gmA (.slice ra 0 rc) (.slice na 0 nc) (.slice la 0 lc) (.slice pa 0 pc) st,.int .i64 n,.int .i64 er]) ∧ er ≠ 0 ∧ Below u.heap.size u w'
 ex:∃ g,prs ex1 = some g ∧ g.start = 2 ∧ g.prods.length = 2 ∧ ∀ h:0 < g.prods.length,g.prods[0].right = [1,2]
 bad:∀ u:World,Calls Tryz.prog 24 #[.string (strT ex2)] u fun e w' => ∃ (ra na la pa:Option Addr) (rc nc lc pc:Nat) (st:Int),e = .returned (.tuple #[gmA (.slice ra 0 rc) (.slice na 0 nc) (.slice la 0 lc) (.slice pa 0 pc) st,.int .i64 3,.int .i64 5]) ∧ Below u.heap.size u w'
 bnd:∀ s g,prs s = some g → BndG g
theorem cells5m {w:World} {b t:Nat} {x0 x1 x2 x3 x4:Value} (h:w.heap[b]? = some (.cells #[x0,x1,x2,x3,x4] t (0,0))):w.cell? ⟨b,0,none⟩ = some x0 ∧ w.cell? ⟨b,1,none⟩ = some x1 ∧ w.cell? ⟨b,2,none⟩ = some x2 ∧ w.cell? ⟨b,3,none⟩ = some x3 ∧ w.cell? ⟨b,4,none⟩ = some x4:=
 ⟨blk_cell h rfl,blk_cell h rfl,blk_cell h rfl,blk_cell h rfl,blk_cell h rfl⟩
end Go.Proofs.YtbpnioehmohbcaaGreat
namespace Go.Proofs.YtbpnioehmohbcaaGreat
open Go.RowKit
end Go.Proofs.YtbpnioehmohbcaaGreat
namespace Go.Proofs.YtbpnioehmohbcaaGreat
open Go.RowKit Go.Maps Go.Sort
abbrev sidesV:Value:=.agg #[.string ⟨#[]⟩,.string ⟨#[108,101,102,116]⟩,.string ⟨#[114,105,103,104,116]⟩,.string ⟨#[110,111,110,101]⟩]
set_option maxRecDepth 20000 in
theorem sidesC (w:World):Calls Tryz.prog 93 #[] w fun e w' => e = .returned sidesV ∧ Below w.heap.size w w':=by
 have hb:=hid (al' w (.cells #[.string ⟨#[]⟩,.string ⟨#[108,101,102,116]⟩,.string ⟨#[114,105,103,104,116]⟩,.string ⟨#[110,111,110,101]⟩] 125))
 go_enter Tryz.func93,Tryz.ntmps93
 go_wp2
 refine bodyPost_ret (v:=sidesV) (by simp [results,Tryz.results93,go_sem]) rfl ⟨rfl,?_⟩
 exact hb.out
set_option maxRecDepth 20000 in
theorem ixS (w:World):(Instr.index 125 sidesV (.int .i64 0)).run Tryz.prog w = .ok (.string ⟨#[]⟩) w ∧ (Instr.index 125 sidesV (.int .i64 1)).run Tryz.prog w = .ok (.string ⟨#[108,101,102,116]⟩) w ∧ (Instr.index 125 sidesV (.int .i64 2)).run Tryz.prog w = .ok (.string ⟨#[114,105,103,104,116]⟩) w ∧ (Instr.index 125 sidesV (.int .i64 3)).run Tryz.prog w = .ok (.string ⟨#[110,111,110,101]⟩) w:=by
 refine ⟨?_,?_,?_,?_⟩
 all_goals
  simp [Instr.index,run_underlying Tryz.underlying125,asIntOf,go_sem,part,isAgg,run_underlying Tryz.underlying9]
theorem strT_is {t u:Txt} (h:t = u):((strT t).toList == u) = true:=by rw [h,strT_toL,beq_self_eq_true]
theorem strT_isnt {t u:Txt} (h:¬ t = u):((strT t).toList == u) = false:=by rw [strT_toL,beq_eq_false_iff_ne];exact h
theorem strT_is' {t u:Txt} (h:t = u):(u == (strT t).toList) = true:=by rw [h,strT_toL,beq_self_eq_true]
theorem strT_isnt' {t u:Txt} (h:¬ t = u):(u == (strT t).toList) = false:=by rw [strT_toL,beq_eq_false_iff_ne];exact fun e => h e.symm
theorem strT_emp {t:Txt} (h:t = []):(strT t).toList.isEmpty = true:=by rw [h,strT_toL];rfl
theorem strT_nemp {t:Txt} (h:¬ t = []):(strT t).toList.isEmpty = false:=by rw [strT_toL];cases t with | nil => exact absurd rfl h | cons _ _ => rfl
set_option maxRecDepth 20000 in
set_option maxHeartbeats 4000000 in
theorem sideC (t:Txt) (w:World):Calls Tryz.prog 63 #[.string (strT t)] w fun e w' => e = .returned (.int .i64 (sdN t:Int)) ∧ Below w.heap.size w w':=by
 have GC:=hid (sidesC w)
 have hI:=hid (fun x => ixS x)
 have h0:Hid (t = [] → sdN t = 0):=hid (fun h => by rw [h];rfl)
 have h1:Hid (t = kLeft → sdN t = 1):=hid (fun h => by rw [h];rfl)
 have h2:Hid (t = kRight → sdN t = 2):=hid (fun h => by rw [h];rfl)
 have h3:Hid (t = kNone → sdN t = 3):=hid (fun h => by rw [h];rfl)
 have h4:Hid (¬ t = kLeft → ¬ t = kRight → ¬ t = kNone → sdN t = 0):=hid (fun a b c => by unfold sdN;rw [if_neg a,if_neg b,if_neg c])
 generalize sdN t = n at *
 go_enter Tryz.func63,Tryz.ntmps63
 go_wp2_with (go_at_call 93;refine GC.out.mono ?_;clear GC;rintro e w2 ⟨rfl,hc2⟩;have hc2:=hid hc2)
 go_loopw [6] (fun x wr => ∃ k:Nat,k ≤ 4 ∧ x = .int .i64 (k:Int) ∧ Hid ((1 < k → ¬ t = kLeft) ∧ (2 < k → ¬ t = kRight) ∧ (3 < k → ¬ t = kNone)) ∧ Hid (Below w.heap.size w wr)) (fun x _ => 4 - (intOf x).toNat)
 case atStart => exact ⟨0,by omega,rfl,hid ⟨fun h => absurd h (by omega),fun h => absurd h (by omega),fun h => absurd h (by omega)⟩,hc2⟩
 case round =>
  obtain ⟨k,hk,rfl,hn,hw⟩:=hrel
  by_cases hlt:k < 4
  · obtain ⟨i0,i1,i2,i3⟩:=hI.out wr
    have hk4:k = 0 ∨ k = 1 ∨ k = 2 ∨ k = 3:=by omega
    rcases hk4 with rfl | rfl | rfl | rfl
    · clear i1 i2 i3
      by_cases ht:t = []
      · have hb:=strT_emp ht
        have:=h0.out ht
        subst this
        generalize strT t = S at *
        go_wp2
        go_ret
        exact ⟨rfl,hw.out⟩
      · have hb:=strT_nemp ht
        have hs2:Hid (Below w.heap.size w wr):=hw
        generalize strT t = S at *
        go_wp2
        go_roundw
        case rel => exact ⟨1,by omega,by go_num,hid ⟨fun h => absurd h (by omega),fun h => absurd h (by omega),fun h => absurd h (by omega)⟩,hs2⟩
        case measure => simp [intOf]
    · clear i0 i2 i3
      by_cases ht:t = kLeft
      · have hb:(([108,101,102,116]:Txt) == (strT t).toList) = true:=strT_is' ht
        have:=h1.out ht
        subst this
        generalize strT t = S at *
        go_wp2
        go_ret
        exact ⟨rfl,hw.out⟩
      · have hb:(([108,101,102,116]:Txt) == (strT t).toList) = false:=strT_isnt' ht
        have hs2:Hid (Below w.heap.size w wr):=hw
        generalize strT t = S at *
        go_wp2
        go_roundw
        case rel => exact ⟨2,by omega,by go_num,hid ⟨fun _ => ht,fun h => absurd h (by omega),fun h => absurd h (by omega)⟩,hs2⟩
        case measure => simp [intOf]
    · clear i0 i1 i3
      by_cases ht:t = kRight
      · have hb:(([114,105,103,104,116]:Txt) == (strT t).toList) = true:=strT_is' ht
        have:=h2.out ht
        subst this
        generalize strT t = S at *
        go_wp2
        go_ret
        exact ⟨rfl,hw.out⟩
      · have hb:(([114,105,103,104,116]:Txt) == (strT t).toList) = false:=strT_isnt' ht
        have hs2:Hid (Below w.heap.size w wr):=hw
        generalize strT t = S at *
        go_wp2
        go_roundw
        case rel => exact ⟨3,by omega,by go_num,hid ⟨fun _ => hn.out.1 (by omega),fun _ => ht,fun h => absurd h (by omega)⟩,hs2⟩
        case measure => simp [intOf]
    · clear i0 i1 i2
      by_cases ht:t = kNone
      · have hb:(([110,111,110,101]:Txt) == (strT t).toList) = true:=strT_is' ht
        have:=h3.out ht
        subst this
        generalize strT t = S at *
        go_wp2
        go_ret
        exact ⟨rfl,hw.out⟩
      · have hb:(([110,111,110,101]:Txt) == (strT t).toList) = false:=strT_isnt' ht
        have hs2:Hid (Below w.heap.size w wr):=hw
        generalize strT t = S at *
        go_wp2
        go_roundw
        case rel => exact ⟨4,by omega,by go_num,hid ⟨fun _ => hn.out.1 (by omega),fun _ => hn.out.2.1 (by omega),fun _ => ht⟩,hs2⟩
        case measure => simp [intOf]
  · have:k = 4:=by omega
    subst this
    have:=h4.out (hn.out.1 (by omega)) (hn.out.2.1 (by omega)) (hn.out.2.2 (by omega))
    subst this
    go_wp2
    go_ret
    exact ⟨rfl,hw.out⟩
set_option maxRecDepth 20000 in
set_option maxHeartbeats 4000000 in
theorem keywordC (t:Txt) (w:World):Calls Tryz.prog 126 #[.string (strT t)] w fun e w' => e = .returned (.bool (kwB t)) ∧ Below w.heap.size w w':=by
 have GS:=hid (fun u => sideC t u)
 obtain ⟨R,hR⟩:∃ R,Hid (kwB t = R):=⟨_,hid rfl⟩
 rw [hR.out]
 unfold kwB at hR
 generalize sdN t = n at *
 by_cases h1:t = kTok
 · have hb1:((strT t).toList == ([116,111,107,101,110]:Txt)) = true:=strT_is h1
   rw [decide_eq_true h1,Bool.true_or,Bool.true_or,Bool.true_or] at hR
   obtain rfl:=hR.out
   generalize strT t = S at *
   clear h1 hR
   go_enter Tryz.func126,Tryz.ntmps126
   go_wp2_with fail
   go_ret
   exact ⟨rfl,Below.refl _ _⟩
 have hb1:((strT t).toList == ([116,111,107,101,110]:Txt)) = false:=strT_isnt h1
 rw [decide_eq_false h1,Bool.false_or] at hR
 by_cases h2:t = kSkip
 · have hb2:((strT t).toList == ([115,107,105,112]:Txt)) = true:=strT_is h2
   rw [decide_eq_true h2,Bool.true_or,Bool.true_or] at hR
   obtain rfl:=hR.out
   generalize strT t = S at *
   clear h1 h2 hR
   go_enter Tryz.func126,Tryz.ntmps126
   go_wp2_with fail
   go_ret
   exact ⟨rfl,Below.refl _ _⟩
 have hb2:((strT t).toList == ([115,107,105,112]:Txt)) = false:=strT_isnt h2
 rw [decide_eq_false h2,Bool.false_or] at hR
 by_cases h3:t = kStart
 · have hb3:((strT t).toList == ([115,116,97,114,116]:Txt)) = true:=strT_is h3
   rw [decide_eq_true h3,Bool.true_or] at hR
   obtain rfl:=hR.out
   generalize strT t = S at *
   clear h1 h2 h3 hR
   go_enter Tryz.func126,Tryz.ntmps126
   go_wp2_with fail
   go_ret
   exact ⟨rfl,Below.refl _ _⟩
 have hb3:((strT t).toList == ([115,116,97,114,116]:Txt)) = false:=strT_isnt h3
 rw [decide_eq_false h3,Bool.false_or] at hR
 clear h1 h2 h3
 generalize strT t = S at *
 rcases Nat.eq_zero_or_pos n with h4 | h4
 · subst h4
   obtain rfl:false = R:=hR.out
   clear hR
   go_enter Tryz.func126,Tryz.ntmps126
   go_wp2_with (go_at_call 63;refine (GS.out _).mono ?_;clear GS;rintro e w2 ⟨rfl,hc2⟩;have hc2:=hid hc2)
   go_ret
   exact ⟨rfl,hc2.out⟩
 · rw [decide_eq_true h4] at hR
   obtain rfl:=hR.out
   clear hR
   have h4z:(0:Int) < (n:Int):=by omega
   go_enter Tryz.func126,Tryz.ntmps126
   go_wp2_with (go_at_call 63;refine (GS.out _).mono ?_;clear GS;rintro e w2 ⟨rfl,hc2⟩;have hc2:=hid hc2)
   go_ret
   exact ⟨by simp,hc2.out⟩
end Go.Proofs.YtbpnioehmohbcaaGreat
