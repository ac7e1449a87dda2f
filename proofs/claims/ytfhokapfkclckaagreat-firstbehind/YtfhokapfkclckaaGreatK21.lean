/- slices.Concat of any lists, first.together, sets.Has. first.join. A rule's cells, gone through with a stack of rules. Right of package regex. -/
import Derived.Test.YtfhokapfkclckaaGreatK4
import Derived.Test.YtfhokapfkclckaaGreatK20
import Derived.Test.YtfhokapfkclckaaGreatK2
import Derived.Test.YtfhokapfkclckaaGreatK9
import Derived.Test.YtfhokapfkclckaaGreatK7
import Derived.Laws.OwnMore
namespace Go.Proofs.YtfhokapfkclckaaGreat
open Go.RowKit Go.Maps Go.Sort
set_option maxRecDepth 20000 in
theorem setsHas (v:Value) (l:List Int) (n:Int) (w:World) (hl:l.length ≤ 1000000) (hA:Nums w v l) :
 Calls Tryz.prog 58 #[v,.int .i64 n] w fun e w' => e = .returned (.bool (l.contains n)) ∧ w' = w:=by
 have G:Hid (Calls Tryz.prog 78 #[v,.int .i64 n] w fun e w' => e = .returned (.bool (l.contains n)) ∧ w' = w):=by
  by_cases h0:l = []
  · subst h0
    obtain ⟨aa,ca,rfl,_,_,hA⟩:=hA
    exact (Tryz.slices_Contains_int_empty aa ca n w).mono fun e w' ⟨he,hw⟩ => ⟨he,hw⟩
  · obtain ⟨b,o,cap,rfl,hcap,hb,hc⟩:=hA.at (List.length_pos_iff.2 h0)
    have:=Tryz.slices_Contains_int b o l.length cap l n w (Nat.le_refl _) (by omega) (Nums.getD hc)
    rwa [List.take_of_length_le (Nat.le_refl _)] at this
 generalize l.contains n = r at G ⊢
 clear hA
 go_enter Tryz.func58,Tryz.ntmps58
 go_wp2_with (go_at_call 78;refine (G.out).mono ?_;rintro e w1 ⟨rfl,hw1⟩;subst w1)
 go_ret
 exact ⟨rfl,rfl⟩
def sumK (ls:List (List Int)) (k:Nat):Nat:=((ls.take k).map List.length).sum
def catK (ls:List (List Int)) (k:Nat):List Int:=(ls.take k).flatten
theorem catK_len (ls:List (List Int)) (k:Nat):(catK ls k).length = sumK ls k:=by
 unfold catK sumK
 rw [List.length_flatten]
theorem catK_succ {ls:List (List Int)} {k:Nat} (hk:k < ls.length):catK ls (k + 1) = catK ls k ++ ls[k]:=by
 unfold catK
 rw [List.take_succ_eq_append_getElem hk,List.flatten_append]
 simp
theorem sumK_succ {ls:List (List Int)} {k:Nat} (hk:k < ls.length):sumK ls (k + 1) = sumK ls k + ls[k].length:=by
 rw [← catK_len,← catK_len,catK_succ hk,List.length_append]
theorem sumK_le {ls:List (List Int)} (h:∀ l ∈ ls,l.length ≤ 1000):∀ k,k ≤ ls.length → sumK ls k ≤ 1000 * k
 | 0,_ => by unfold sumK;simp
 | k + 1,hk => by
  have:=sumK_le h k (by omega)
  rw [sumK_succ (by omega)]
  have:=h _ (List.getElem_mem (show k < ls.length by omega))
  omega
theorem rowS.at {w:World} {v:Value} {xs:List Value} (h:rowS w v xs) {k:Nat} {x:Value} (hk:xs[k]? = some x):∃ b o cap,v = .slice (some ⟨b,o,none⟩) xs.length cap ∧ w.cell? ⟨b,o + k,none⟩ = some x ∧ b < w.heap.size:=by
 have hlt:k < xs.length:=(List.getElem?_eq_some_iff.1 hk).1
 rcases h with ⟨rfl,rfl⟩ | ⟨g,o,cap,cur,rfl,h2,h3,h4,h5,h6⟩
 · exact absurd hlt (Nat.not_lt_zero _)
 · refine ⟨g,o,cap,rfl,blk_cell h2 ?_,blk_lt h2⟩
   have e:=congrArg (fun l => l[k]?) h6
   simp only [List.getElem?_take,if_pos hlt,List.getElem?_drop] at e
   rw [Array.getElem?_toList] at e
   rw [e]
   exact hk
set_option maxRecDepth 20000 in
set_option maxHeartbeats 8000000 in
theorem concatL (v:Value) (xs:List Value) (ls:List (List Int)) (w:World) (hv:rowS w v xs) (hx:NumsL w xs ls) (hn:ls.length ≤ 1000) (hl:∀ l ∈ ls,l.length ≤ 1000) :
 Calls Tryz.prog 74 #[v] w fun e w' => ∃ v',e = .returned v' ∧ Own w' w.heap.size v' ls.flatten ∧ Below w.heap.size w w':=by
 obtain ⟨a,c,rfl⟩:=hv.form
 have hlen:=hx.len
 have hAt:Hid (∀ k (hk:k < ls.length),∃ b o x,a = some ⟨b,o,none⟩ ∧ w.cell? ⟨b,o + k,none⟩ = some x ∧ Nums w x ls[k] ∧ b < w.heap.size):=hid (fun k hk => by
  obtain ⟨x,e1,e2,-⟩:=hx.at k hk
  obtain ⟨b,o,cap,e,hc,hb⟩:=hv.at e1
  injection e with e3 _ _
  exact ⟨b,o,x,e3,hc,e2,hb⟩)
 rw [hlen] at hv ⊢
 have hS0:Hid (sumK ls 0 = 0):=hid rfl
 have hSs:Hid (∀ k (hk:k < ls.length),sumK ls (k + 1) = sumK ls k + ls[k].length):=hid (fun k hk => sumK_succ hk)
 have hSb:Hid (∀ k,k ≤ ls.length → sumK ls k ≤ 1000000):=hid (fun k hk => by
  have:=sumK_le hl k hk
  have:1000 * k ≤ 1000 * 1000:=Nat.mul_le_mul_left _ (by omega)
  omega)
 have hC0:Hid (catK ls 0 = []):=hid rfl
 have hCs:Hid (∀ k (hk:k < ls.length),catK ls (k + 1) = catK ls k ++ ls[k]):=hid (fun k hk => catK_succ hk)
 have hCb:Hid (∀ k,k ≤ ls.length → (catK ls k).length ≤ 1000000):=hid (fun k hk => by rw [catK_len];exact hSb.out k hk)
 have hCn:Hid (catK ls ls.length = ls.flatten):=hid (by unfold catK;rw [List.take_length])
 have hlb:Hid (∀ k (hk:k < ls.length),ls[k].length ≤ 1000):=hid (fun k hk => hl _ (List.getElem_mem hk))
 have G:Hid (∀ u,Calls Tryz.prog 94 #[.slice none 0 0,.int .i64 (sumK ls ls.length:Int)] u fun e w' => ∃ v,e = .returned v ∧ Own w' u.heap.size v [] ∧ Below u.heap.size u w'):=hid (fun u => growOwn _ u (by have:=hSb.out ls.length (Nat.le_refl _);omega))
 rw [← hCn.out]
 clear hv hx hl hCn hlen
 generalize sumK ls = S at *
 generalize catK ls = C at *
 obtain ⟨n,hn9⟩:∃ n,Hid (ls.length = n):=⟨_,hid rfl⟩
 rw [hn9.out] at hn hSb hCb G ⊢
 go_enter Tryz.func74,Tryz.ntmps74
 go_wp2
 go_loopw [3,11] (fun s i wr => ∃ k:Nat,k ≤ n ∧ i = .int .i64 (k:Int) ∧ s = .int .i64 (S k:Int) ∧ wr = w) (fun _ i _ => n - (intOf i).toNat)
 case atStart => exact ⟨0,Nat.zero_le _,rfl,by rw [hS0.out];rfl,rfl⟩
 case round =>
  obtain ⟨k,hk,rfl,rfl,rfl⟩:=hrel
  by_cases hlt:k < n
  · have hltz:(k:Int) < (n:Int):=by omega
    have hkl:k < ls.length:=by rw [hn9.out];exact hlt
    obtain ⟨b,o,x,rfl,c0,hN,-⟩:=hAt.out k hkl
    obtain ⟨xa,xc,rfl,-⟩:=hN
    have hs9:=hid (hSs.out k hkl)
    have hb9:=hSb.out k (by omega)
    have hl9:=hlb.out k hkl
    clear hAt hSs hSb hlb hCs hCb
    generalize ls[k].length = z at *
    obtain ⟨y,hy⟩:∃ y,Hid (S k = y):=⟨_,hid rfl⟩
    rw [hy.out] at hb9 hs9 ⊢
    have hw1:IntKind.i64.wrap ((y:Int) + (z:Int)) = ((y + z:Nat):Int):=by rw [IntKind.wrap_i64];omega
    have hz:¬ (((y + z:Nat):Int) < 0):=by omega
    go_wp2
    go_roundw
    case rel => exact ⟨k + 1,by omega,by go_num,by rw [hs9.out,Int.natCast_add],by first | rfl | trivial⟩
    case measure => simp [intOf];omega
  · have hltz:¬ (k:Int) < (n:Int):=by omega
    obtain rfl:k = n:=by omega
    clear hSs hSb
    obtain ⟨w0,hw0⟩:∃ x,x = wr:=⟨_,rfl⟩
    subst hw0
    generalize S k = y at *
    go_wp2_with (go_at_call 94;refine (G.out _).mono ?_;rintro e w1 ⟨v1,rfl,hO1,hb1⟩;have hO1:=hid hO1;have hb1:=hid hb1)
    go_loopw [6,27] (fun v i wi => ∃ k9:Nat,k9 ≤ k ∧ i = .int .i64 (k9:Int) ∧ Hid (Own wi w0.heap.size v (C k9)) ∧ Hid (Below w0.heap.size w0 wi)) (fun _ i _ => k - (intOf i).toNat)
    case atStart => exact ⟨0,Nat.zero_le _,rfl,hid (by rw [hC0.out];exact hO1.out),hb1⟩
    case round =>
     clear hO1 hb1
     obtain ⟨k9,hk9,rfl,hO,hbl⟩:=hrel
     by_cases hlt:k9 < k
     · have hltz:(k9:Int) < (k:Int):=by omega
       have hkl:k9 < ls.length:=by rw [hn9.out];exact hlt
       obtain ⟨b,o,x,rfl,c0,hN,hbs⟩:=hAt.out k9 hkl
       have d0:=(hbl.out.cell (p:=⟨b,o + k9,none⟩) hbs).trans c0
       have hN9:=hid (hN.keep hbl.out)
       have hc9:=hid (hCs.out k9 hkl)
       have hb9:=hCb.out k9 (by omega)
       have hl9:=hlb.out k9 hkl
       obtain ⟨xa,xc,rfl,-⟩:=hN
       clear hAt hCs hCb hlb c0
       generalize ls[k9] = L at *
       go_wp2_with (at_builtin;refine wp_app _ rfl _ _ rfl w0.heap.size (C k9) L _ _ rfl rfl hO.out hN9.out (by omega) hbl.out.size ?_;intro v' w2 hO2 hb2;have hO2:=hid hO2;have hb2:=hid hb2)
       go_roundw
       case rel => exact ⟨k9 + 1,by omega,by go_num,hid (by rw [hc9.out];exact hO2.out),hid (hbl.out.trans hb2.out)⟩
       case measure => simp [intOf];omega
     · have hltz:¬ (k9:Int) < (k:Int):=by omega
       obtain rfl:k9 = k:=by omega
       clear hAt hCs hCb hlb
       go_wp2
       go_ret
       exact ⟨_,rfl,hO.out,hbl.out⟩
set_option maxRecDepth 20000 in
set_option maxHeartbeats 2000000 in
theorem togetherC (v:Value) (xs:List Value) (ls:List (List Int)) (w:World) (hv:rowS w v xs) (hx:NumsL w xs ls) (hn:ls.length ≤ 1000) (hl:∀ l ∈ ls,l.length ≤ 1000) :
 Calls Tryz.prog 53 #[v] w fun e w' => ∃ v',e = .returned v' ∧ Own w' w.heap.size v' (ofL ls.flatten) ∧ Below w.heap.size w w':=by
 have G1:=hid (concatL v xs ls w hv hx hn hl)
 have hlen:ls.flatten.length ≤ 1000000:=by
  have h1:=sumK_le hl ls.length (Nat.le_refl _)
  have h2:=catK_len ls ls.length
  have h3:catK ls ls.length = ls.flatten:=by unfold catK;rw [List.take_length]
  rw [h3] at h2
  have:1000 * ls.length ≤ 1000 * 1000:=Nat.mul_le_mul_left _ hn
  omega
 have G2:=hid (fun v u (h:Nums u v ls.flatten) => setsOf v _ u hlen h)
 obtain ⟨a,c,rfl⟩:=hv.form
 generalize xs.length = n at *
 generalize ls.flatten = L at *
 clear hv hx hn hl hlen
 go_enter Tryz.func53,Tryz.ntmps53
 go_wp2_with (first
  | (go_at_call 74;refine G1.out.mono ?_;rintro e w1 ⟨v1,rfl,hO1,hb1⟩;have hb1:=hid hb1;have hN1:=hid (Nums.of_row hO1);clear hO1)
  | (go_at_call 73;refine (G2.out _ _ hN1.out).mono ?_;rintro e w2 ⟨v2,rfl,hO2,hb2⟩;have hO2:=hid hO2;have hb2:=hid hb2))
 go_ret
 exact ⟨_,rfl,own_base hO2.out hb1.out.size,bl_step hb1.out hb2.out⟩
theorem two_row (w:World) (x y:Value):rowS (w.alloc (.cells #[x,y] 30)) (.slice (some ⟨w.heap.size,0,none⟩) 2 2) [x,y]:=
 .inr ⟨w.heap.size,0,2,#[x,y],rfl,heap_new w _,Nat.le_refl _,by unfold maxLen;omega,Nat.le_refl _,rfl⟩
set_option maxRecDepth 20000 in
theorem togetherTwo (x y:Value) (l m:List Int) (w:World) (hx:Nums w x l) (hy:Nums w y m) (hl:l.length ≤ 1000) (hm:m.length ≤ 1000) :
 Calls Tryz.prog 53 #[.slice (some ⟨w.heap.size,0,none⟩) 2 2] (w.alloc (.cells #[x,y] 30)) fun e w' => ∃ v',e = .returned v' ∧ Own w' w.heap.size v' (ofL (l ++ m)) ∧ Below w.heap.size w w':=by
 have hb:=al' w (.cells #[x,y] 30)
 refine (togetherC _ [x,y] [l,m] _ (two_row w x y) ⟨⟨hx.keep hb,by omega⟩,⟨hy.keep hb,by omega⟩,trivial⟩ (by simp) (fun q hq => ?_)).mono ?_
 · rcases List.mem_cons.1 hq with rfl | hq
   · exact hl
   · rw [List.mem_singleton] at hq
     subst hq
     exact hm
 · rintro e w' ⟨v',rfl,hO,hbl⟩
   have e:[l,m].flatten = l ++ m:=by simp
   rw [e] at hO
   exact ⟨v',rfl,own_base hO hb.size,bl_step hb hbl⟩
set_option maxRecDepth 20000 in
set_option maxHeartbeats 4000000 in
theorem joinC (mb:Nat) (B:List (List Int)) (s:Int) (v:Value) (m:List Int) (w:World) (hB:RowsL w mb B) (hs:0 ≤ s) (hl:s.toNat < B.length) (hv:Nums w v m) (hm:m.length ≤ 1000) (hb:(atB B s).length ≤ 1000) :
 Calls Tryz.prog 52 #[.slice (some ⟨mb,0,none⟩) B.length B.length,.int .i64 s,v] w fun e w' => e = .returned (.bool (decide ((atB B s).length < (ofL (atB B s ++ m)).length))) ∧ RowsL w' mb (jnB B s m) ∧ Kept (oneBlk mb) w w':=by
 obtain ⟨x,c0,hx,-⟩:=hB.at hl
 have G:=hid (togetherTwo x v (atB B s) m w hx hv hb hm)
 have hR:=hid (fun (u:World) (y:Value) (hu:Below w.heap.size w u) (hy:Own u w.heap.size y (ofL (atB B s ++ m))) => (by
  have h1:=(hB.keep hu).put s.toNat (Nums.of_row hy) (by have:=ofL_len (atB B s ++ m);rw [List.length_append] at this;omega)
  exact h1:RowsL (u.setCell ⟨mb,s.toNat,none⟩ y) mb (jnB B s m)))
 have hfz:=hid (fun (u:World) (hu:Below w.heap.size w u) => (hB.keep hu).free s.toNat)
 have hcl:=hid (fun (u:World) (hu:Below w.heap.size w u) => (hu.cell (p:=⟨mb,s.toNat,none⟩) hB.lt).trans c0)
 have hmb:=hB.lt
 obtain ⟨j,hj⟩:∃ j:Nat,s.toNat = j:=⟨_,rfl⟩
 obtain rfl:s = (j:Int):=by omega
 rw [hj] at c0 hR hfz hcl hl
 have e0:Hid (jnB B (j:Int) m = jnB B (j:Int) m):=hid rfl
 obtain ⟨a0,b0,rfl,-⟩:=id hx
 obtain ⟨a9,b9,rfl,-⟩:=id hv
 clear hB hx hv hj hs
 generalize m.length = ml at *
 generalize hAL:(atB B (j:Int)).length = al at *
 generalize hNL:(ofL (atB B (j:Int) ++ m)) = NL at *
 generalize jnB B (j:Int) m = RB at *
 generalize B.length = N at *
 clear hAL hNL e0
 go_enter Tryz.func52,Tryz.ntmps52
 go_wp2_with (go_at_call 53;refine G.out.mono ?_;clear G;rintro e w1 ⟨v1,rfl,hO1,hb1⟩;have hb1:=hid hb1;have hf:=hfz.out w1 hb1.out;have hc:=hcl.out w1 hb1.out;have hR1:=hid (hR.out w1 v1 hb1.out hO1);obtain ⟨a1,c1,e1⟩:=shapeN15 (Nums.of_row hO1);subst e1;clear hO1)
 go_ret
 refine ⟨rfl,hR1.out,(Kept.of_below hb1.out).setCell (fun _ => rfl)⟩
end Go.Proofs.YtfhokapfkclckaaGreat
namespace Go.Proofs.YtfhokapfkclckaaGreat
open Go.RowKit
set_option maxRecDepth 20000 in
theorem operandsC (op:Int) (w:World):Calls Tryz.prog 87 #[.int .i64 op] w fun e w' => e = .returned (.int .i64 (wants op)) ∧ w' = w:=by
 by_cases h1:op = 1
 · subst h1;rw [show wants 1 = 0 by decide];go_enter Tryz.func87,Tryz.ntmps87;go_wp2;go_ret;exact ⟨rfl,rfl⟩
 by_cases h2:op = 2
 · subst h2;rw [show wants 2 = 0 by decide];go_enter Tryz.func87,Tryz.ntmps87;go_wp2;go_ret;exact ⟨rfl,rfl⟩
 by_cases h3:op = 3
 · subst h3;rw [show wants 3 = 2 by decide];go_enter Tryz.func87,Tryz.ntmps87;go_wp2;go_ret;exact ⟨rfl,rfl⟩
 by_cases h4:op = 4
 · subst h4;rw [show wants 4 = 2 by decide];go_enter Tryz.func87,Tryz.ntmps87;go_wp2;go_ret;exact ⟨rfl,rfl⟩
 by_cases h5:op = 5
 · subst h5;rw [show wants 5 = 1 by decide];go_enter Tryz.func87,Tryz.ntmps87;go_wp2;go_ret;exact ⟨rfl,rfl⟩
 by_cases h6:op = 6
 · subst h6;rw [show wants 6 = 1 by decide];go_enter Tryz.func87,Tryz.ntmps87;go_wp2;go_ret;exact ⟨rfl,rfl⟩
 by_cases h7:op = 7
 · subst h7;rw [show wants 7 = 1 by decide];go_enter Tryz.func87,Tryz.ntmps87;go_wp2;go_ret;exact ⟨rfl,rfl⟩
 have c1:(op == 1) = false:=beq_eq_false_iff_ne.2 h1
 have c2:(op == 2) = false:=beq_eq_false_iff_ne.2 h2
 have c3:(op == 3) = false:=beq_eq_false_iff_ne.2 h3
 have c4:(op == 4) = false:=beq_eq_false_iff_ne.2 h4
 have c5:(op == 5) = false:=beq_eq_false_iff_ne.2 h5
 have c6:(op == 6) = false:=beq_eq_false_iff_ne.2 h6
 have c7:(op == 7) = false:=beq_eq_false_iff_ne.2 h7
 have e:wants op = -1:=by unfold wants;rw [if_neg (by omega),if_neg (by omega),if_neg (by omega)]
 rw [e]
 clear h1 h2 h3 h4 h5 h6 h7
 go_enter Tryz.func87,Tryz.ntmps87;go_wp2;go_ret;exact ⟨rfl,rfl⟩
abbrev celV (op:Int) (a b c d:Nat):Value:=.agg #[.int .i64 op,.int .u64 (a:Int),.int .u64 (b:Int),.int .u64 (c:Int),.int .u64 (d:Int)]
set_option maxRecDepth 20000 in
set_option maxHeartbeats 1000000 in
theorem rightSetC (op:Int) (a b c d:Nat) (w:World):Calls Tryz.prog 88 #[celV op a b c d] w fun e w' => e = .returned (.bool (!(decide ((⟨a,b,c,d⟩:W4) = noneB) == (op == 1)))) ∧ Below w.heap.size w w':=by
 have he:∀ u,(Op.equalIn 10000 115 (.agg #[.int .u64 (a:Int),.int .u64 (b:Int),.int .u64 (c:Int),.int .u64 (d:Int)]) (.agg #[.int .u64 0,.int .u64 0,.int .u64 0,.int .u64 0])).run Tryz.prog u = .ok (decide ((⟨a,b,c,d⟩:W4) = noneB)) u:=fun u => equal4 9998 a b c d 0 0 0 0 u
 generalize decide ((⟨a,b,c,d⟩:W4) = noneB) = E at he ⊢
 have hb:∀ x y:Bool,∀ u,(binOp .eql 4 (.bool x) (.bool y)).run Tryz.prog u = .ok (.bool (x == y)) u:=fun x y u => by cases x <;> cases y <;> kernel_rfl
 go_enter Tryz.func88,Tryz.ntmps88
 go_wp2_with fail
 go_quiet (fail)
 go_wp2
 go_ret
 refine ⟨?_,?_⟩
 · cases E <;> cases (op == 1) <;> rfl
 · exact (al' w _).trans ⟨rfl,rfl,rfl,Nat.le_refl _,fun _ _ => rfl⟩
set_option maxRecDepth 20000 in
set_option maxHeartbeats 4000000 in
theorem rightP (v:Value) (l:List Cel) (w:World) (hA:Cels w v l):Calls Tryz.prog 64 #[v] w fun e w' => e = .returned (.bool (rightB l)) ∧ Below w.heap.size w w':=by
 obtain ⟨av,cv,rfl,_,_,hFl,hAt⟩:=hA
 have hAt:=hid hAt
 by_cases h60:60 < l.length
 · have e:rightB l = false:=by unfold rightB;rw [decide_eq_false (by omega:¬ l.length ≤ 60)];simp
   rw [e]
   have h60z:(60:Int) < (l.length:Int):=by omega
   go_enter Tryz.func64,Tryz.ntmps64;go_wp2;go_ret;exact ⟨rfl,Below.refl _ _⟩
 have h60z:¬ (60:Int) < (l.length:Int):=by omega
 have hend:=hid (fun (h:1 ≤ l.length) d => @right_end l h (by omega) d)
 have hnil:Hid (l.length = 0 → rightB l = false):=hid (fun h => by unfold rightB;rw [decide_eq_false (by omega:¬ 1 ≤ l.length)];rfl)
 have hbad:=hid (fun k (hk:k ≤ l.length) (h:depthN l k = none) => right_bad (depth_none l h l.length hk))
 have hsucc:=hid (fun k d => @depth_succ l k d)
 have GW:=hid operandsC
 have GS:=hid rightSetC
 generalize rightB l = R at hend hbad hnil ⊢
 go_enter Tryz.func64,Tryz.ntmps64
 go_wp2
 go_loopw [3,12] (fun d i wr => ∃ (k:Nat) (z:Int),k ≤ l.length ∧ i = .int .i64 k ∧ d = .int .i64 z ∧ Hid (depthN l k = some z) ∧ 0 ≤ z ∧ z ≤ k ∧ Below w.heap.size w wr) (fun _ i _ => l.length - (intOf i).toNat)
 case atStart => exact ⟨0,0,Nat.zero_le _,rfl,rfl,hid rfl,Int.le_refl _,by omega,Below.refl _ _⟩
 case round =>
  obtain ⟨k,z,hk,rfl,rfl,hdep,hz0,hzk,hbl⟩:=hrel
  by_cases hlt:k < l.length
  · have hltz:(k:Int) < (l.length:Int):=by omega
    obtain ⟨b',o',rfl,hb',hat0⟩:=hAt.out k hlt
    have hat:=hat0.keep hbl
    clear hat0
    have hs:=hid (hsucc.out k z hdep.out hlt)
    have hbk:=hid (hbad.out (k + 1) (by omega))
    generalize l[k] = c at hat hs
    obtain ⟨op,S⟩:=c
    obtain ⟨sa,sb,sc,sd⟩:=S
    obtain ⟨d0,d1,d2,d3,d4⟩:=hat
    simp only at d0 d1 d2 d3 d4
    have GW0:=hid (fun u => GW.out op u)
    have GS0:=hid (fun u => GS.out op sa sb sc sd u)
    have hwl:=wants_le op
    have hbb:=hid (al' wr (.cells #[.int .i64 op,.int .u64 (sa:Int),.int .u64 (sb:Int),.int .u64 (sc:Int),.int .u64 (sd:Int)] 117))
    unfold badC at hs
    simp only at hs
    generalize wants op = q at GW0 hs hwl
    have hop:decide (op = 1) = (op == 1):=by rw [Bool.eq_iff_iff];simp
    rw [hop] at hs
    clear hop
    generalize (decide ((⟨sa,sb,sc,sd⟩:W4) = noneB) == (op == 1)) = E at GS0 hs
    by_cases hq:q < 0
    · have hR:R = false:=hbk.out (by rw [hs.out,decide_eq_true hq];rfl)
      subst hR
      go_wp2_with (go_at_call 87;refine (GW0.out _).mono ?_;rintro e u1 ⟨rfl,hu⟩;subst u1)
      go_ret
      exact ⟨rfl,bl_step hbl hbb.out⟩
    · by_cases hd:z < q
      · have hR:R = false:=hbk.out (by rw [hs.out,decide_eq_true hd,Bool.or_true];rfl)
        subst hR
        go_wp2_with (go_at_call 87;refine (GW0.out _).mono ?_;rintro e u1 ⟨rfl,hu⟩;subst u1)
        go_ret
        exact ⟨rfl,bl_step hbl hbb.out⟩
      · rw [decide_eq_false hq,decide_eq_false hd,Bool.false_or,Bool.false_or] at hs
        cases E with
        | true =>
         have hR:R = false:=hbk.out (by rw [hs.out];rfl)
         subst hR
         clear hs
         go_wp2_with (first
          | (go_at_call 87;refine (GW0.out _).mono ?_;rintro e u1 ⟨rfl,hu⟩;subst u1)
          | (go_at_call 88;refine (GS0.out _).mono ?_;rintro e w1 ⟨rfl,hb1⟩))
         go_ret
         exact ⟨rfl,bl_step (bl_step hbl hbb.out) hb1⟩
        | false =>
         rw [if_neg Bool.false_ne_true] at hs
         go_wp2_with (first
          | (go_at_call 87;refine (GW0.out _).mono ?_;rintro e u1 ⟨rfl,hu⟩;subst u1)
          | (go_at_call 88;refine (GS0.out _).mono ?_;rintro e w1 ⟨rfl,hb1⟩))
         go_roundw
         case rel => exact ⟨k + 1,z - q + 1,by omega,by go_num,by go_num,hs,by omega,by omega,bl_step (bl_step hbl hbb.out) hb1⟩
         case measure => simp [intOf];omega
  · have hltz:¬ (k:Int) < (l.length:Int):=by omega
    have e:k = l.length:=by omega
    subst e
    by_cases hl0:l.length = 0
    · have hR:=hnil.out hl0
      have hz:z = 0:=by omega
      subst hz
      subst hR
      go_wp2
      go_ret
      exact ⟨rfl,hbl⟩
    · have hR:=hend.out (by omega) z hdep.out
      clear hl0
      go_wp2
      go_ret
      exact ⟨by first | rfl | rw [hR],hbl⟩
end Go.Proofs.YtfhokapfkclckaaGreat
