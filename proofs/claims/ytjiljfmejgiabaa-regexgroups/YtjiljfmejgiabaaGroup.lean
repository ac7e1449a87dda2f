/- The walk of RegexGroups where both texts are rules and nothing is too long. -/
import Derived.Test.YtjiljfmejgiabaaGroups
namespace Go.Proofs.Ytjiljfmejgiabaa
open Go.RowKit

theorem bytesA (S : Txt) : (⟨#[40]⟩ ++ strT S ++ ⟨#[41]⟩ : ByteArray) = strT (40 :: (S ++ [41])) := by
  rw [show (⟨#[40]⟩ : ByteArray) = strT [40] from rfl, show (⟨#[41]⟩ : ByteArray) = strT [41] from rfl, strT_app, strT_app]
  rfl
theorem bytesB (S T : Txt) : (⟨#[40]⟩ ++ strT S ++ ⟨#[41, 124, 40]⟩ ++ strT T ++ ⟨#[41]⟩ : ByteArray) = strT ((40 :: (S ++ [41])) ++ (124 :: (40 :: (T ++ [41])))) := by
  rw [show (⟨#[40]⟩ : ByteArray) = strT [40] from rfl, show (⟨#[41]⟩ : ByteArray) = strT [41] from rfl, show (⟨#[41, 124, 40]⟩ : ByteArray) = strT [41, 124, 40] from rfl, strT_app, strT_app, strT_app, strT_app]
  simp
theorem bytesC (S T : Txt) : (⟨#[40]⟩ ++ strT S ++ ⟨#[41, 40]⟩ ++ strT T ++ ⟨#[41]⟩ : ByteArray) = strT ((40 :: (S ++ [41])) ++ (40 :: (T ++ [41]))) := by
  rw [show (⟨#[40]⟩ : ByteArray) = strT [40] from rfl, show (⟨#[41]⟩ : ByteArray) = strT [41] from rfl, show (⟨#[41, 40]⟩ : ByteArray) = strT [41, 40] from rfl, strT_app, strT_app, strT_app, strT_app]
  simp

set_option maxRecDepth 8000 in
set_option maxHeartbeats 8000000 in
theorem groupsMain {OK : World → Prop} (H : RegexOK OK) (S T : Txt) (w : World) (hw : OK w) (t1 t2 : Rx) (h1 : rowsP S = some (t1, [])) (c1 : (post t1).length ≤ 60) (h2 : rowsP T = some (t2, [])) (c2 : (post t2).length ≤ 60)
    (hl : S.length + T.length ≤ 190) (hc : (post t1).length + (post t2).length < 60) :
    Calls Try.prog 4 #[.string (strT S), .string (strT T)] w fun e w' => e = .returned (.bool true) ∧ Below w.heap.size w w' := by
  have hf1 := post_fit (rowsP_good h1).2
  have hf2 := post_fit (rowsP_good h2).2
  have GW := hid (wakesC H w hw)
  have GP := hid (fun u (hb : Below w.heap.size w u) => H.good S t1 u (by omega) h1 c1 (H.keep w u hw hb))
  have GQ := hid (fun u (hb : Below w.heap.size w u) => H.good T t2 u (by omega) h2 c2 (H.keep w u hw hb))
  have po : post (Rx.or t1 t2) = (post t1 ++ post t2) ++ [⟨4, noneB⟩] := by simp [post]
  have pc : post (Rx.cat t1 t2) = (post t1 ++ post t2) ++ [⟨3, noneB⟩] := by simp [post]
  have GA := hid (fun u (hb : Below w.heap.size w u) => H.good (40 :: (S ++ [41])) t1 u (by simp; omega) (group_one h1) c1 (H.keep w u hw hb))
  have GB := hid (fun u (hb : Below w.heap.size w u) => H.good ((40 :: (S ++ [41])) ++ (124 :: (40 :: (T ++ [41])))) (.or t1 t2) u (by simp; omega) (group_or h1 h2) (by rw [po]; simp; omega) (H.keep w u hw hb))
  have GC := hid (fun u (hb : Below w.heap.size w u) => H.good ((40 :: (S ++ [41])) ++ (40 :: (T ++ [41]))) (.cat t1 t2) u (by simp; omega) (group_cat h1 h2) (by rw [pc]; simp; omega) (H.keep w u hw hb))
  rw [← bytesA] at GA
  rw [← bytesB, po] at GB
  rw [← bytesC, pc] at GC
  have hfo := hid (show ∀ c ∈ (post t1 ++ post t2) ++ [⟨4, noneB⟩], FitC c from fun c h => by
    simp only [List.mem_append, List.mem_singleton] at h
    rcases h with (h | h) | rfl
    · exact hf1 c h
    · exact hf2 c h
    · exact fit_lit (by decide) (by decide))
  have hfc := hid (show ∀ c ∈ (post t1 ++ post t2) ++ [⟨3, noneB⟩], FitC c from fun c h => by
    simp only [List.mem_append, List.mem_singleton] at h
    rcases h with (h | h) | rfl
    · exact hf1 c h
    · exact hf2 c h
    · exact fit_lit (by decide) (by decide))
  have z1 := strT_size S
  have z2 := strT_size T
  have zs : (strT S).size ≤ 190 := by omega
  have zt : (strT T).size ≤ 190 := by omega
  have zl : (strT S).size + (strT T).size ≤ 190 := by omega
  generalize strT S = s at GP GA GB GC z1 zs zl
  generalize strT T = t at GQ GB GC z2 zt zl
  generalize post t1 = L at GP GA GB GC hfo hfc c1 hc
  generalize post t2 = M at GQ GB GC hfo hfc c2 hc
  clear hw h1 h2 hf1 hf2 po pc z1 z2 hl
  have q1 : (⟨#[40]⟩ : ByteArray).size = 1 := rfl
  have q2 : (⟨#[41]⟩ : ByteArray).size = 1 := rfl
  have q3 : (⟨#[41, 124, 40]⟩ : ByteArray).size = 3 := rfl
  have q4 : (⟨#[41, 40]⟩ : ByteArray).size = 2 := rfl
  have k1 := fun u => run_cat ⟨#[40]⟩ s u (by omega)
  have k2 := fun u => run_cat (⟨#[40]⟩ ++ s) ⟨#[41]⟩ u (by rw [ByteArray.size_append]; omega)
  have k3 := fun u => run_cat (⟨#[40]⟩ ++ s) ⟨#[41, 124, 40]⟩ u (by rw [ByteArray.size_append]; omega)
  have k4 := fun u => run_cat (⟨#[40]⟩ ++ s ++ ⟨#[41, 124, 40]⟩) t u (by rw [ByteArray.size_append, ByteArray.size_append]; omega)
  have k5 := fun u => run_cat (⟨#[40]⟩ ++ s ++ ⟨#[41, 124, 40]⟩ ++ t) ⟨#[41]⟩ u (by rw [ByteArray.size_append, ByteArray.size_append, ByteArray.size_append]; omega)
  have k6 := fun u => run_cat (⟨#[40]⟩ ++ s) ⟨#[41, 40]⟩ u (by rw [ByteArray.size_append]; omega)
  have k7 := fun u => run_cat (⟨#[40]⟩ ++ s ++ ⟨#[41, 40]⟩) t u (by rw [ByteArray.size_append, ByteArray.size_append]; omega)
  have k8 := fun u => run_cat (⟨#[40]⟩ ++ s ++ ⟨#[41, 40]⟩ ++ t) ⟨#[41]⟩ u (by rw [ByteArray.size_append, ByteArray.size_append, ByteArray.size_append]; omega)
  have hlz : ¬ (190 : Int) < (s.size : Int) + (t.size : Int) := by omega
  have hcz : ¬ (60 : Int) ≤ (L.length : Int) + (M.length : Int) := by omega
  have GD := hid (fun v' u (h : Cels u v' L) => copiedC v' L u (by omega) h)
  have GE : Hid (∀ (v' v'' : Value) (l : List Cel) (u : World), l.length ≤ 1000000 → Cels u v' l → Cels u v'' l → Calls Try.prog 12 #[v', v''] u fun e w' => e = .returned (.bool true) ∧ Below u.heap.size u w') := hid (fun v' v'' l u hle h h' => by
    have := sameC v' v'' l l u hle h h'
    rwa [decide_eq_true (rfl : l = l)] at this)
  have hlo : ((L ++ M) ++ [⟨4, noneB⟩] : List Cel).length ≤ 1000000 := by simp; omega
  have hlc : ((L ++ M) ++ [⟨3, noneB⟩] : List Cel).length ≤ 1000000 := by simp; omega
  generalize hO4 : ((L ++ M) ++ [⟨4, noneB⟩] : List Cel) = L4 at GB hfo hlo
  generalize hO3 : ((L ++ M) ++ [⟨3, noneB⟩] : List Cel) = L3 at GC hfc hlc
  have hO4 := hid hO4
  have hO3 := hid hO3
  go_enter Try.func4, Try.ntmps4
  go_wp2_with (first
    | (go_at_call 5; refine GW.out.mono ?_; rintro e w1 ⟨rfl, hb1⟩)
    | (go_at_call 11; refine (GC.out w5 hb5).mono ?_; rintro e w6 ⟨v6, rfl, hC6', hb6'⟩; have hb6 := bl_step hb5 hb6'; have hC6 := hid hC6'; clear hC6'; have hC26 := hid (hC25.out.keep hb6'); have hC36 := hid (hC35.out.keep hb6'); have hC46 := hid (hC45.out.keep hb6'); have hC56 := hid (hC5.out.keep hb6'))
    | (go_at_call 11; refine (GB.out w4 hb4).mono ?_; rintro e w5 ⟨v5, rfl, hC5', hb5'⟩; have hb5 := bl_step hb4 hb5'; have hC5 := hid hC5'; clear hC5'; have hC25 := hid (hC24.out.keep hb5'); have hC35 := hid (hC34.out.keep hb5'); have hC45 := hid (hC4.out.keep hb5'))
    | (go_at_call 11; refine (GA.out w3 hb3).mono ?_; rintro e w4 ⟨v4, rfl, hC4', hb4'⟩; have hb4 := bl_step hb3 hb4'; have hC4 := hid hC4'; clear hC4'; have hC24 := hid (hC23.out.keep hb4'); have hC34 := hid (hC3.out.keep hb4'))
    | (go_at_call 11; refine (GQ.out w2 hb2).mono ?_; rintro e w3 ⟨v3, rfl, hC3', hb3'⟩; have hb3 := bl_step hb2 hb3'; obtain ⟨a3, d3, rfl⟩ := hC3'.shape; have hC3 := hid hC3'; clear hC3'; have hC23 := hid (hC2.out.keep hb3'))
    | (go_at_call 11; refine (GP.out w1 hb1).mono ?_; rintro e w2 ⟨v2, rfl, hC2', hb2'⟩; have hb2 := bl_step hb1 hb2'; obtain ⟨a2, d2, rfl⟩ := hC2'.shape; have hC2 := hid hC2'; clear hC2')
    | (go_at_call 7; refine (GD.out _ w9 hC29.out).mono ?_; rintro e w10 ⟨v10, rfl, hO10', -, hb10'⟩; have hO10 := hid hO10'; clear hO10'; have hC310 := hid (hC39.out.keep hb10'))
    | (go_at_call 7; refine (GD.out _ w6 hC26.out).mono ?_; rintro e w7 ⟨v7, rfl, hO7', -, hb7'⟩; have hO7 := hid hO7'; clear hO7'; have hC37 := hid (hC36.out.keep hb7'))
    | (at_builtin; refine wp_app5 _ rfl _ _ rfl w9.heap.size (L ++ M) [⟨3, noneB⟩] _ _ rfl rfl (own_below hO11.out (al' w11 (.cells #[.int .i64 3, .int .u64 0, .int .u64 0, .int .u64 0, .int .u64 0] 33))) (cels_lit w11 3 (by decide) (by decide)) (by (simp; omega)) (by (have := hb911.size; simp; omega)) ?_; intro v12 w12 hO12' hb12'; have hb912 := (hb911.trans ((al' w11 (.cells #[.int .i64 3, .int .u64 0, .int .u64 0, .int .u64 0, .int .u64 0] 33)).mono hb911.size)).trans hb12'; have hC12 : Hid (Cels w12 v12 L3) := hid (Cels.of_own (l := L3) (by (rw [← hO3.out]; exact hO12')) hfc.out); clear hO12'; have hb12 := bl_step hb9 hb912; have hC212 := hid (hC29.out.keep hb912); have hC412 := hid (hC49.out.keep hb912); have hC512 := hid (hC59.out.keep hb912); have hC612 := hid (hC69.out.keep hb912); have hC912 := hid (hC9.out.keep hb912))
    | (at_builtin; refine wp_app5 _ rfl _ _ rfl w9.heap.size L M _ _ rfl rfl hO10.out hC310.out (by omega) (by (have := hb10'.size; omega)) ?_; intro v11 w11 hO11' hb11'; have hO11 := hid hO11'; clear hO11'; have hb911 := hb10'.trans hb11')
    | (at_builtin; refine wp_app5 _ rfl _ _ rfl w6.heap.size (L ++ M) [⟨4, noneB⟩] _ _ rfl rfl (own_below hO8.out (al' w8 (.cells #[.int .i64 4, .int .u64 0, .int .u64 0, .int .u64 0, .int .u64 0] 33))) (cels_lit w8 4 (by decide) (by decide)) (by (simp; omega)) (by (have := hb68.size; simp; omega)) ?_; intro v9 w9 hO9' hb9'; have hb69 := (hb68.trans ((al' w8 (.cells #[.int .i64 4, .int .u64 0, .int .u64 0, .int .u64 0, .int .u64 0] 33)).mono hb68.size)).trans hb9'; have hC9 : Hid (Cels w9 v9 L4) := hid (Cels.of_own (l := L4) (by (rw [← hO4.out]; exact hO9')) hfo.out); clear hO9'; have hb9 := bl_step hb6 hb69; have hC29 := hid (hC26.out.keep hb69); have hC39 := hid (hC36.out.keep hb69); have hC49 := hid (hC46.out.keep hb69); have hC59 := hid (hC56.out.keep hb69); have hC69 := hid (hC6.out.keep hb69))
    | (at_builtin; refine wp_app5 _ rfl _ _ rfl w6.heap.size L M _ _ rfl rfl hO7.out hC37.out (by omega) (by (have := hb7'.size; omega)) ?_; intro v8 w8 hO8' hb8'; have hO8 := hid hO8'; clear hO8'; have hb68 := hb7'.trans hb8')
    | (go_at_call 12; refine (GE.out _ _ L3 w14 hlc (((hC612.out.keep hb13').keep hb14')) ((hC12.out.keep hb13').keep hb14')).mono ?_; rintro e w15 ⟨rfl, hb15'⟩; have hb15 := bl_step hb14 hb15')
    | (go_at_call 12; refine (GE.out _ _ L4 w13 hlo (hC512.out.keep hb13') (hC912.out.keep hb13')).mono ?_; rintro e w14 ⟨rfl, hb14'⟩; have hb14 := bl_step hb13 hb14')
    | (go_at_call 12; refine (GE.out _ _ L w12 (by omega) hC412.out hC212.out).mono ?_; rintro e w13 ⟨rfl, hb13'⟩; have hb13 := bl_step hb12 hb13'))
  go_ret
  exact ⟨by first | rfl | simp, hb15⟩

theorem groupsWalk {OK : World → Prop} (H : RegexOK OK) (s t : ByteArray) (w : World) (hw : OK w) :
    Calls Try.prog 4 #[.string s, .string t] w fun e w' => e = .returned (.bool true) ∧ Below w.heap.size w w' := by
  rw [← strT_list s, ← strT_list t]
  generalize s.data.toList = S
  generalize t.data.toList = T
  rcases parse_ways H S with ⟨z, z0, z1, z2, G⟩ | ⟨t1, h1, l1, c1⟩
  · exact groupsErr H S T w hw z z0 z1 z2 G
  · rcases parse_ways H T with ⟨z, z0, z1, z2, G⟩ | ⟨t2, h2, l2, c2⟩
    · exact groupsErr2 H S T w hw t1 h1 l1 c1 z z0 z1 z2 G
    · by_cases hc : 190 < S.length + T.length ∨ 60 ≤ (post t1).length + (post t2).length
      · exact groupsLong H S T w hw t1 t2 h1 l1 c1 h2 l2 c2 hc
      · exact groupsMain H S T w hw t1 t2 h1 c1 h2 c2 (by omega) (by omega)

end Go.Proofs.Ytjiljfmejgiabaa
