/- The reference of layer 15: Of. Layer 15: what may stand behind a symbol: the reference's loops, and what they find. The reference of layer 15: what Behind holds in memory. Layer 15: how long the reference's lists get. -/
import Derived.Test.YtfhokapfkclckaaGreatK18
namespace Go.Proofs.YtfhokapfkclckaaGreat
open Go.RowKit Go.Maps Go.Sort
def nulL (g:Gm):List Int:=ofL (vanL g)
theorem nulL_mem {g:Gm} (hg:SndG g) (n:Int):n ∈ nulL g ↔ Van g n:=by
 unfold nulL
 rw [ofL_mem,vanL_mem hg]
def firL (g:Gm) (t:List Int):List Int:=ofL ((begS g (nulL g) t).out.filter fun x => decide (x ≤ (g.terms:Int)))
theorem firL_mem {g:Gm} (hg:SndG g) (t:List Int) (x:Int):x ∈ firL g t ↔ Beg g t x ∧ x ≤ (g.terms:Int):=by
 unfold firL
 rw [ofL_mem,List.mem_filter,begS_mem (nulL_mem hg),decide_eq_true_iff]
theorem begS_short {g:Gm} (hg:SndG g) {t:List Int} (ht:∀ n ∈ t,1 ≤ n ∧ n ≤ (g.all:Int)):(begS g (nulL g) t).out.length ≤ g.all:=
 nodup_le g.all _ 0 (begS_good (fun n hn => (nulL_mem hg n).1 hn)).one (fun n hn => by
  have:=((begS_mem (nulL_mem hg) n).1 hn).range hg ht
  omega)
theorem terms_le15 (g:Gm):g.terms ≤ g.rules.length:=trmK_le _ _
theorem all_le {g:Gm} (hg:SndG g):g.all ≤ 100:=by
 have h1:=hg.rules
 have h2:=hg.nonts
 have h3:=terms_le15 g
 unfold Gm.all
 omega
theorem nulL_len {g:Gm} (hg:SndG g):(nulL g).length ≤ 16:=by
 have h1:=(vaN_good g (g.nonts.length + 1)).len hg
 have h2:=hg.nonts
 exact Nat.le_trans (ofL_len _) (Nat.le_trans h1 h2)
theorem filter_take {l:List Int} {p:Int → Bool} {k:Nat} (hk:k < l.length):(l.take (k + 1)).filter p = (l.take k).filter p ++ (if p l[k] = true then [l[k]] else []):=by
 rw [List.take_succ_eq_append_getElem hk,List.filter_append,List.filter_cons]
 rfl
set_option maxRecDepth 20000 in
set_option maxHeartbeats 4000000 in
theorem refOf15 (g:Gm) (rv nv lv pv tv:Value) (t:List Int) (w:World) (hV:GmV w rv nv lv pv g) (hb:BndG g) (hg:SndG g) (hlt:t.length ≤ 1000000) (htx:Nums w tv t) (hts:∀ n ∈ t,1 ≤ n ∧ n ≤ (g.all:Int)) :
 Calls Tryz.prog 16 #[gmA rv nv lv pv g.start,tv] w fun e w' => ∃ v,e = .returned (.tuple #[v,.bool (goneB (nulL g) t)]) ∧ (∃ B,Own w' B v (firL g t)) ∧ Below w.heap.size w w':=by
 have hB1:=al' w (.cells #[rv,nv,lv,pv,.int .i64 g.start] 27)
 have k1:=heap_new w (.cells #[rv,nv,lv,pv,.int .i64 g.start] 27)
 obtain ⟨W,hW⟩:∃ x,w.alloc (.cells #[rv,nv,lv,pv,.int .i64 g.start] 27) = x:=⟨_,rfl⟩
 rw [hW] at hB1 k1
 have hk1:=hid (fun u (hu:Below W.heap.size W u) => cells5m (hs_keep k1 hu))
 have hB:=hid hB1
 have hal:=all_le hg
 have hnl:=nulL_len hg
 have hsh:=begS_short hg hts
 have GV:=hid (fun u (hu:Below W.heap.size W u) => refVanish g rv nv lv pv u (hV.keep (bl_step hB1 hu)) hb hg)
 have GT:=hid (fun u (hu:Below W.heap.size W u) => refTermsC rv nv lv pv g u (hV.keep (bl_step hB1 hu)) (by have:=hg.rules;omega))
 have GS:=hid (fun u (hu:Below W.heap.size W u) vn (hn:Nums u vn (nulL g)) => refStarts g rv nv lv pv vn tv (nulL g) t u (hV.keep (bl_step hB1 hu)) (by have:=hg.prods;omega) (fun p hp => Nat.le_trans (hb.right p hp) (by decide)) (by omega) hlt hn (htx.keep (bl_step hB1 hu)) (by omega))
 have htk:=hid (fun u (hu:Below W.heap.size W u) => htx.keep (bl_step hB1 hu))
 have hf9:Hid (firL g t = ofL ((begS g (nulL g) t).out.filter fun x => decide (x ≤ (g.terms:Int)))):=hid rfl
 have hn9:Hid (ofL (vanL g) = nulL g):=hid rfl
 rw [hf9.out]
 rw [hn9.out] at GV
 have htm:g.terms ≤ 16:=Nat.le_trans (terms_le15 g) hg.rules
 clear hV hB1 k1 hb hg hts hf9 hn9 htx
 generalize (begS g (nulL g) t).out = L at *
 generalize nulL g = NL at *
 generalize g.terms = tm at *
 generalize g.start = st at *
 obtain ⟨ln,hln⟩:∃ y,Hid (L.length = y):=⟨_,hid rfl⟩
 obtain ⟨FL,hFL⟩:∃ f:Nat → List Int,∀ k,f k = (L.take k).filter fun x => decide (x ≤ (tm:Int)):=⟨_,fun _ => rfl⟩
 have hF0:Hid (FL 0 = []):=hid (by rw [hFL];rfl)
 have hFs:Hid (∀ k (hk:k < L.length),FL (k + 1) = FL k ++ if decide (L[k] ≤ (tm:Int)) = true then [L[k]] else []):=hid (fun k hk => by rw [hFL,hFL,filter_take hk])
 have hFn:Hid (FL ln = L.filter fun x => decide (x ≤ (tm:Int))):=hid (by rw [hFL,← hln.out,List.take_length])
 have hFb:Hid (∀ k,(FL k).length ≤ ln):=hid (fun k => by
  rw [hFL,← hln.out]
  exact Nat.le_trans (List.length_filter_le _ _) (List.length_take_le' ..))
 clear hFL
 rw [← hFn.out]
 rw [hln.out] at hsh
 have h0:=hid (Below.refl W.heap.size W)
 obtain ⟨y0,y1,y2,y3,y4⟩:=hk1.out W h0.out
 go_enter Tryz.func16,Tryz.ntmps16
 go_wp2_with (first
  | (go_at_call 13;refine (GV.out W h0.out).mono ?_;clear GV;rintro e w1 ⟨v1,rfl,⟨B1,hO1⟩,hc1⟩;have h1:=hid (bl_step h0.out hc1);obtain ⟨z0,z1,z2,z3,z4⟩:=hk1.out w1 h1.out;have hN1:=hid (Nums.of_row hO1);clear hO1 hc1)
  | (go_at_call 21;refine (GT.out w1 h1.out).mono ?_;clear GT;rintro e w2 ⟨rfl,hc2⟩;have h2:=hid (bl_step h1.out hc2);obtain ⟨x0,x1,x2,x3,x4⟩:=hk1.out w2 h2.out;have hN2:=hid (hN1.out.keep hc2);clear hc2)
  | (go_at_call 35;refine (GS.out w2 h2.out v1 hN2.out).mono ?_;clear GS;rintro e w3 ⟨v3,rfl,hO3,hc3⟩;have h3:=hid (bl_step h2.out hc3);have hN3:=hid (hN2.out.keep hc3);have hL3:=hid (Nums.of_row hO3);clear hO3 hc3;obtain ⟨a3,c3,rfl,hL4⟩:=hL3.out;have hL4:=hid hL4.2.2;rw [hln.out]))
 clear hW y0 y1 y2 y3 y4 z0 z1 z2 z3 z4 x0 x1 x2 x3 x4 hL3
 go_loopw [8,10] (fun vo i wr => ∃ k:Nat,k ≤ ln ∧ i = .int .i64 (k:Int) ∧ Hid (Own wr w3.heap.size vo (FL k)) ∧ Hid (Below w3.heap.size w3 wr)) (fun _ i _ => ln - (intOf i).toNat)
 case atStart => exact ⟨0,Nat.zero_le _,rfl,hid (by rw [hF0.out];exact World.ownsRow_nil _ _ _ _),hid (Below.refl _ _)⟩
 case round =>
  obtain ⟨k,hk,rfl,hO,hbl⟩:=hrel
  by_cases hlk:k < ln
  · have hlkz:(k:Int) < (ln:Int):=by omega
    have hkl:k < L.length:=by rw [hln.out];exact hlk
    obtain ⟨b,o,rfl,-,hc⟩:=hL4.out k hkl
    have hc:=keep_cell hbl.out hc
    have hs:=hFs.out k hkl
    have hlF:=hFb.out k
    clear hL4 hFs
    generalize L[k] = x at *
    by_cases hx:x ≤ (tm:Int)
    · rw [if_pos (decide_eq_true hx)] at hs
      have hs:=hid hs
      have hal:=al' wr (.cells #[.int .i64 x] 3)
      have hOa:=hid (own_below hO.out hal)
      have hDa:=hid (Nums.of_row (Own.lit1 wr x))
      have hBa:=hid (bl_step hbl.out hal)
      clear hO hal
      go_wp2_with (at_builtin;refine wp_app _ rfl _ _ rfl w3.heap.size (FL k) [x] _ _ rfl rfl hOa.out hDa.out (by simp;omega) hBa.out.size ?_;intro v4 w4 hO4 hb4;have hO9:=hid hO4;have hb9:=hid (hBa.out.trans hb4);clear hO4 hb4)
      go_roundw
      case rel => exact ⟨k + 1,by omega,by go_num,hid (by rw [hs.out];exact hO9.out),hb9⟩
      case measure => simp [intOf];omega
    · rw [if_neg (by rw [decide_eq_false hx];decide),List.append_nil] at hs
      have hO9:=hid hO.out
      rw [← hs] at hO9
      clear hs hO
      go_wp2
      go_roundw
      case rel => exact ⟨k + 1,by omega,by go_num,hO9,hbl⟩
      case measure => simp [intOf];omega
  · have hlkz:¬ (k:Int) < (ln:Int):=by omega
    obtain rfl:k = ln:=by omega
    have hl9:=hFb.out k
    have G:=hid (refOf _ (FL k) wr (by omega) (Nums.of_row hO.out))
    have hb4:=hid (bl_step h3.out hbl.out)
    have hnn:=hid (fun u (hu:Below wr.heap.size wr u) => refGone v1 tv NL t u (by omega) hlt ((hN3.out.keep hbl.out).keep hu) (htk.out u (bl_step hb4.out hu)))
    clear hO hL4
    go_wp2_with (first
     | (go_at_call 29;refine G.out.mono ?_;clear G;rintro e w5 ⟨v5,rfl,hO5,hc5⟩;have hO5:=hid hO5;have hc5:=hid hc5)
     | (go_at_call 27;refine (hnn.out w5 hc5.out).mono ?_;clear hnn;rintro e w6 ⟨rfl,hc6⟩;subst w6))
    refine bodyPost_ret (v:=.tuple #[v5,.bool (goneB NL t)]) (by simp [results,Tryz.results16,go_sem]) rfl ?_
    exact ⟨_,rfl,⟨_,hO5.out⟩,bl_step hB.out (bl_step hb4.out hc5.out)⟩
end Go.Proofs.YtfhokapfkclckaaGreat
namespace Go.Proofs.YtfhokapfkclckaaGreat
structure BhS where
 ends:List Int
 all:List Int
section
variable (g:Gm) (null live:List Int) (fir:List Int → List Int)
def bhJ (p:Pd) (n:Int) (s:BhS) (j:Nat):BhS:=
 if p.right.getD j 0 = n then ⟨if (goneB null (p.right.drop (j + 1)) && !s.ends.contains p.left) = true then s.ends ++ [p.left] else s.ends,s.all ++ fir (p.right.drop (j + 1))⟩ else s
def bhQ (p:Pd) (n:Int) (s:BhS) (k:Nat):BhS:=(List.range k).foldl (bhJ null fir p n) s
def bhP (n:Int) (s:BhS) (p:Pd):BhS:=if live.contains p.left = true then bhQ null fir p n s p.right.length else s
def bhI (n:Int) (s:BhS):BhS:=g.prods.foldl (bhP null live fir n) ⟨s.ends,s.all ++ if n = g.start then [0] else []⟩
def bhN:Nat → Nat → BhS → BhS
 | 0,_,s => s
 | f + 1,i,s =>
  match s.ends[i]? with
  | none => s
  | some n => bhN f (i + 1) (bhI g null live fir n s)
inductive EndB (s0:Int):Int → Prop
 | self:EndB s0 s0
 | step (p:Pd) (j:Nat):p ∈ g.prods → p.left ∈ live → j < p.right.length → EndB s0 (p.right.getD j 0) → goneB null (p.right.drop (j + 1)) = true → EndB s0 p.left
def Behd (s0 x:Int):Prop:=(x = 0 ∧ EndB g null live s0 g.start) ∨ ∃ p ∈ g.prods,p.left ∈ live ∧ ∃ j,j < p.right.length ∧ EndB g null live s0 (p.right.getD j 0) ∧ x ∈ fir (p.right.drop (j + 1))
end
def BLe (s s':BhS):Prop:=(∃ r,s'.ends = s.ends ++ r) ∧ ∀ x ∈ s.all,x ∈ s'.all
theorem BLe.refl (s:BhS):BLe s s:=⟨⟨[],(List.append_nil _).symm⟩,fun _ h => h⟩
theorem BLe.trans {a b c:BhS} (h1:BLe a b) (h2:BLe b c):BLe a c:=by
 obtain ⟨⟨r1,e1⟩,k1⟩:=h1
 obtain ⟨⟨r2,e2⟩,k2⟩:=h2
 exact ⟨⟨r1 ++ r2,by rw [e2,e1,List.append_assoc]⟩,fun x hx => k2 x (k1 x hx)⟩
theorem BLe.ends {a b:BhS} (h:BLe a b) {x:Int} (hx:x ∈ a.ends):x ∈ b.ends:=by
 obtain ⟨⟨r,e⟩,-⟩:=h
 rw [e]
 exact List.mem_append_left _ hx
theorem fold_leB {α:Type} {f:BhS → α → BhS} (hf:∀ s x,BLe s (f s x)):∀ (l:List α) (s:BhS),BLe s (l.foldl f s)
 | [],s => .refl s
 | x :: l,s => (hf s x).trans (fold_leB hf l (f s x))
theorem fold_atB {α:Type} {f:BhS → α → BhS} {Q:α → BhS → Prop} (hf:∀ s x,BLe s (f s x)) (hQ:∀ s x,Q x (f s x)) (hm:∀ x s s',BLe s s' → Q x s → Q x s'):∀ (l:List α) (s:BhS) (x:α),x ∈ l → Q x (l.foldl f s)
 | [],_,_,h => absurd h List.not_mem_nil
 | y :: l,s,x,h => by
  rcases List.mem_cons.1 h with rfl | h
  · exact hm _ _ _ (fold_leB hf l (f s x)) (hQ s x)
  · exact fold_atB hf hQ hm l (f s y) x h
theorem fold_keepB {α:Type} {f:BhS → α → BhS} {P:BhS → Prop}:∀ (l:List α) (s:BhS),(∀ s x,x ∈ l → P s → P (f s x)) → P s → P (l.foldl f s)
 | [],_,_,h => h
 | x :: l,s,hf,h => fold_keepB l _ (fun s' y hy => hf s' y (List.mem_cons_of_mem _ hy)) (hf s x List.mem_cons_self h)
section
variable {g:Gm} {null live:List Int} {fir:List Int → List Int} {s0:Int}
theorem bhJ_le (p:Pd) (n:Int) (s:BhS) (j:Nat):BLe s (bhJ null fir p n s j):=by
 unfold bhJ
 split
 · refine ⟨?_,fun x hx => List.mem_append_left _ hx⟩
   split
   · exact ⟨_,rfl⟩
   · exact ⟨[],(List.append_nil _).symm⟩
 · exact .refl s
theorem bhP_le (n:Int) (s:BhS) (p:Pd):BLe s (bhP null live fir n s p):=by
 unfold bhP
 split
 · exact fold_leB (bhJ_le p n) _ s
 · exact .refl s
theorem bhI_le (n:Int) (s:BhS):BLe s (bhI g null live fir n s):=
 BLe.trans (b:=⟨s.ends,s.all ++ if n = g.start then [0] else []⟩) ⟨⟨[],(List.append_nil _).symm⟩,fun _ h => List.mem_append_left _ h⟩ (fold_leB (bhP_le n) _ _)
def DoneB (g:Gm) (null live:List Int) (fir:List Int → List Int) (n:Int) (s:BhS):Prop:=(n = g.start → 0 ∈ s.all) ∧ ∀ p ∈ g.prods,p.left ∈ live → ∀ j,j < p.right.length → p.right.getD j 0 = n → (∀ x ∈ fir (p.right.drop (j + 1)),x ∈ s.all) ∧ (goneB null (p.right.drop (j + 1)) = true → p.left ∈ s.ends)
theorem DoneB.le {n:Int} {s s':BhS} (h:DoneB g null live fir n s) (hl:BLe s s'):DoneB g null live fir n s':=
 ⟨fun e => hl.2 _ (h.1 e),fun p hp hv j hj e => ⟨fun x hx => hl.2 _ ((h.2 p hp hv j hj e).1 x hx),fun k => hl.ends ((h.2 p hp hv j hj e).2 k)⟩⟩
theorem bhI_done (n:Int) (s:BhS):DoneB g null live fir n (bhI g null live fir n s):=by
 refine ⟨fun e => ?_,fun p hp hv => ?_⟩
 · refine (fold_leB (bhP_le n) g.prods ⟨s.ends,s.all ++ if n = g.start then [0] else []⟩).2 0 ?_
   rw [if_pos e]
   exact List.mem_append_right _ (List.mem_singleton.2 rfl)
 · refine fold_atB (f:=bhP null live fir n) (Q:=fun p s => p.left ∈ live → ∀ j,j < p.right.length → p.right.getD j 0 = n → (∀ x ∈ fir (p.right.drop (j + 1)),x ∈ s.all) ∧ (goneB null (p.right.drop (j + 1)) = true → p.left ∈ s.ends)) (bhP_le n) (fun s p hv j hj => ?_) (fun p s s' hl h hv j hj e => ⟨fun x hx => hl.2 _ ((h hv j hj e).1 x hx),fun k => hl.ends ((h hv j hj e).2 k)⟩) g.prods _ p hp hv
   unfold bhP
   rw [if_pos (List.contains_iff_mem.2 hv)]
   refine fold_atB (f:=bhJ null fir p n) (Q:=fun j s => p.right.getD j 0 = n → (∀ x ∈ fir (p.right.drop (j + 1)),x ∈ s.all) ∧ (goneB null (p.right.drop (j + 1)) = true → p.left ∈ s.ends)) (bhJ_le p n) (fun s j e => ?_) (fun j s s' hl h e => ⟨fun x hx => hl.2 _ ((h e).1 x hx),fun k => hl.ends ((h e).2 k)⟩) _ s j (List.mem_range.2 hj)
   unfold bhJ
   rw [if_pos e]
   refine ⟨fun x hx => List.mem_append_right _ hx,fun k => ?_⟩
   by_cases hc:s.ends.contains p.left = true
   · rw [if_neg (by rw [k,hc];decide)]
     exact List.contains_iff_mem.1 hc
   · rw [if_pos (by rw [k];simpa using hc)]
     exact List.mem_append_right _ (List.mem_singleton.2 rfl)
structure BhI (g:Gm) (null live:List Int) (fir:List Int → List Int) (s0:Int) (s:BhS):Prop where
 ends:∀ n ∈ s.ends,EndB g null live s0 n
 once:s.ends.Nodup
 all:∀ x ∈ s.all,Behd g null live fir s0 x
theorem BhI.place {p:Pd} {n:Int} {s:BhS} (h:BhI g null live fir s0 s) (hn:EndB g null live s0 n) (hp:p ∈ g.prods) (hv:p.left ∈ live) {j:Nat} (hj:j < p.right.length):BhI g null live fir s0 (bhJ null fir p n s j):=by
 unfold bhJ
 split
 · rename_i e
   rw [← e] at hn
   have ha:∀ x ∈ s.all ++ fir (p.right.drop (j + 1)),Behd g null live fir s0 x:=fun x hx => by
    rcases List.mem_append.1 hx with hx | hx
    · exact h.all x hx
    · exact .inr ⟨p,hp,hv,j,hj,hn,hx⟩
   split
   · rename_i hc
     rw [Bool.and_eq_true,Bool.not_eq_true',Bool.eq_false_iff] at hc
     have hno:p.left ∉ s.ends:=fun k => hc.2 (List.contains_iff_mem.2 k)
     refine ⟨fun m hm => ?_,?_,ha⟩
     · rcases List.mem_append.1 hm with hm | hm
       · exact h.ends m hm
       · rw [List.mem_singleton] at hm
         subst hm
         exact .step p j hp hv hj hn hc.1
     · show (s.ends ++ [p.left]).Nodup
       rw [List.nodup_append]
       refine ⟨h.once,List.pairwise_singleton _ _,fun a ha b hb => ?_⟩
       rw [List.mem_singleton] at hb
       subst hb
       exact fun k => hno (k ▸ ha)
   · exact ⟨h.ends,h.once,ha⟩
 · exact h
theorem BhI.prod {p:Pd} {n:Int} {s:BhS} (h:BhI g null live fir s0 s) (hn:EndB g null live s0 n) (hp:p ∈ g.prods):BhI g null live fir s0 (bhP null live fir n s p):=by
 unfold bhP
 split
 · rename_i hv
   exact fold_keepB _ s (fun s j hj h => h.place hn hp (List.contains_iff_mem.1 hv) (List.mem_range.1 hj)) h
 · exact h
theorem BhI.start {n:Int} {s:BhS} (h:BhI g null live fir s0 s) (hn:EndB g null live s0 n):BhI g null live fir s0 ⟨s.ends,s.all ++ if n = g.start then [0] else []⟩:=by
 refine ⟨h.ends,h.once,fun x hx => ?_⟩
 rcases List.mem_append.1 hx with hx | hx
 · exact h.all x hx
 · split at hx
   · rename_i e
     rw [List.mem_singleton] at hx
     exact .inl ⟨hx,e ▸ hn⟩
   · exact absurd hx List.not_mem_nil
theorem BhI.sym {n:Int} {s:BhS} (h:BhI g null live fir s0 s) (hn:EndB g null live s0 n):BhI g null live fir s0 (bhI g null live fir n s):=
 fold_keepB g.prods _ (fun _ _ hp h => h.prod hn hp) (h.start hn)
theorem bhN_good:∀ (f i:Nat) {s:BhS},BhI g null live fir s0 s → BhI g null live fir s0 (bhN g null live fir f i s)
 | 0,_,_,h => h
 | f + 1,i,s,h => by
  unfold bhN
  split
  · exact h
  · rename_i n e
    exact bhN_good f (i + 1) (h.sym (h.ends n (List.mem_of_getElem? e)))
theorem bhN_le:∀ (f i:Nat) (s:BhS),BLe s (bhN g null live fir f i s)
 | 0,_,s => .refl s
 | f + 1,i,s => by
  unfold bhN
  split
  · exact .refl s
  · rename_i n e
    exact (bhI_le n s).trans (bhN_le f (i + 1) _)
theorem bhN_done {N:Nat} (hN:∀ s,BhI g null live fir s0 s → s.ends.length ≤ N):∀ (f i:Nat) {s:BhS},BhI g null live fir s0 s → N < f + i → (∀ n ∈ s.ends.take i,DoneB g null live fir n s) → ∀ n ∈ (bhN g null live fir f i s).ends,DoneB g null live fir n (bhN g null live fir f i s)
 | 0,i,s,h,hf,hd => fun n hn => hd n (by
  have:=hN s h
  rw [List.take_of_length_le (by omega)]
  exact hn)
 | f + 1,i,s,h,hf,hd => by
  unfold bhN
  split
  · rename_i e
    rw [List.getElem?_eq_none_iff] at e
    intro n hn
    exact hd n (by rw [List.take_of_length_le e];exact hn)
  · rename_i n e
    refine bhN_done hN f (i + 1) (h.sym (h.ends n (List.mem_of_getElem? e))) (by omega) (fun m hm => ?_)
    obtain ⟨hi,en⟩:=List.getElem?_eq_some_iff.1 e
    obtain ⟨⟨r,er⟩,-⟩:=bhI_le (g:=g) (null:=null) (live:=live) (fir:=fir) n s
    rw [er,List.take_append_of_le_length (by omega),List.take_succ_eq_append_getElem hi,en] at hm
    rcases List.mem_append.1 hm with hm | hm
    · exact (hd m hm).le (bhI_le n s)
    · rw [List.mem_singleton] at hm
      subst hm
      exact bhI_done _ s
theorem bh_mem {N:Nat} {a:Int} (hr:∀ n,EndB g null live s0 n → a < n ∧ n ≤ a + (N:Int)) (x:Int):x ∈ (bhN g null live fir (N + 1) 0 ⟨[s0],[]⟩).all ↔ Behd g null live fir s0 x:=by
 have h0:BhI g null live fir s0 ⟨[s0],[]⟩:=⟨fun n hn => by
  rw [List.mem_singleton] at hn
  subst hn
  exact .self,List.pairwise_singleton _ _,fun _ h => absurd h List.not_mem_nil⟩
 have hI:=bhN_good (N + 1) 0 h0
 refine ⟨fun h => hI.all x h,fun h => ?_⟩
 have hD:=bhN_done (fun s hs => nodup_le N _ a hs.once fun n hn => hr n (hs.ends n hn)) (N + 1) 0 h0 (by omega) (fun n hn => absurd hn List.not_mem_nil)
 have hE:∀ n,EndB g null live s0 n → n ∈ (bhN g null live fir (N + 1) 0 ⟨[s0],[]⟩).ends:=fun n hn => by
  induction hn with
  | self => exact (bhN_le (N + 1) 0 ⟨[s0],[]⟩).ends (List.mem_singleton.2 rfl)
  | step p j hp hv hj _ hg ih => exact ((hD _ ih).2 p hp hv j hj rfl).2 hg
 rcases h with ⟨rfl,h⟩ | ⟨p,hp,hv,j,hj,h,hx⟩
 · exact (hD _ (hE _ h)).1 rfl
 · exact ((hD _ (hE _ h)).2 p hp hv j hj rfl).1 x hx
end
end Go.Proofs.YtfhokapfkclckaaGreat
namespace Go.Proofs.YtfhokapfkclckaaGreat
open Go.RowKit Go.Maps Go.Sort
structure EaV (W u:World) (ve va:Value) (E A:List Int):Prop where
 ends:Own u W.heap.size ve E
 all:Own u W.heap.size va A
 low:Below W.heap.size W u
 dis:∀ k,ve.ownBlock = some k → va.ownBlock ≠ some k
section
variable {W u:World} {ve va:Value} {E A:List Int}
theorem EaV.start (W:World):EaV W W (.slice none 0 0) (.slice none 0 0) [] []:=
 ⟨World.ownsRow_nil _ _ _ _,World.ownsRow_nil _ _ _ _,Below.refl _ _,fun k h => (by cases h)⟩
theorem EaV.swap (h:EaV W u ve va E A):EaV W u va ve A E:=⟨h.all,h.ends,h.low,fun k h1 h2 => h.dis k h2 h1⟩
theorem EaV.keep (h:EaV W u ve va E A) {u':World} (hb:Below u.heap.size u u'):EaV W u' ve va E A:=
 ⟨own_below h.ends hb,own_below h.all hb,bl_step h.low hb,h.dis⟩
set_option maxRecDepth 20000 in
theorem EaV.addL (h:EaV W u ve va E A) {vl:Value} {l:List Int} (hl:Nums u vl l) (hn:A.length + l.length ≤ 10000000) :
 ∃ v' u',(Builtin.append_ #[30,30] 30 #[va,vl]).run Tryz.prog u = .ok v' u' ∧ EaV W u' ve v' E (A ++ l):=by
 obtain ⟨i0,hi,hz0,hz1,hz2⟩:=info_parts Tryz.info3
 rcases hl.parts with ⟨rfl,rfl⟩ | ⟨ad,cap,rfl,hnews⟩
 · exact ⟨va,u,run_append_owned_none u W.heap.size 30 30 3 i0 1 Tryz.underlying30 hi va _ _ h.all,by rw [List.append_nil];exact h⟩
 · obtain ⟨v',u',hap,hown,hgr,-,hloc⟩:=run_append_own_at (P:=Tryz.prog) u W.heap.size 30 30 3 i0 (.int .i64 0) 1 8 Tryz.underlying30 hi hz0 hz1 hz2 rfl (by decide) _ _ _ h.all ad l.length cap (numCells l) (by rw [numCells_len,Nat.mul_one]) hnews (numCells_one l) (by unfold maxLen;omega) (by omega) h.low.size
   refine ⟨v',u',hap,own_keep h.ends (fun k hk => hgr.block k (h.ends.lt k hk).2 (fun e => h.dis k hk e.symm)),?_,h.low.grown hgr h.low.size (fun j hj => (h.all.lt j hj).1),fun k hk e => ?_⟩
   · unfold Own
     rw [numCells_app,List.length_append]
     exact hown
   · rcases hloc with h9 | h9
     · rw [h9] at e
       exact h.dis k hk e
     · rw [h9] at e
       injection e with e
       have:=(h.ends.lt k hk).2
       omega
set_option maxRecDepth 20000 in
theorem EaV.addA (h:EaV W u ve va E A) (x:Int) (hn:A.length ≤ 5000000) :
 ∃ v' u',(Builtin.append_ #[30,30] 30 #[va,.slice (some ⟨u.heap.size,0,none⟩) 1 1]).run Tryz.prog (u.alloc (.cells #[.int .i64 x] 3)) = .ok v' u' ∧ EaV W u' ve v' E (A ++ [x]):=
 (h.keep (al' u _)).addL (Nums.of_row (Own.lit1 u x)) (by rw [List.length_singleton];omega)
set_option maxRecDepth 20000 in
theorem EaV.addE (h:EaV W u ve va E A) (x:Int) (hn:E.length ≤ 100000) :
 ∃ v' u',(Builtin.append_ #[30,30] 30 #[ve,.slice (some ⟨u.heap.size,0,none⟩) 1 1]).run Tryz.prog (u.alloc (.cells #[.int .i64 x] 3)) = .ok v' u' ∧ EaV W u' v' va (E ++ [x]) A:=by
 obtain ⟨v',u',h1,h2⟩:=h.swap.addA x (by omega)
 exact ⟨v',u',h1,h2.swap⟩
end
end Go.Proofs.YtfhokapfkclckaaGreat
namespace Go.Proofs.YtfhokapfkclckaaGreat
section
variable {g:Gm} {null live:List Int} {fir:List Int → List Int}
def BPre (s s':BhS):Prop:=s.ends.length ≤ s'.ends.length ∧ s.all.length ≤ s'.all.length
theorem BPre.trans {a b c:BhS} (h1:BPre a b) (h2:BPre b c):BPre a c:=⟨Nat.le_trans h1.1 h2.1,Nat.le_trans h1.2 h2.2⟩
theorem bhJ_pre (p:Pd) (n:Int) (s:BhS) (j:Nat):BPre s (bhJ null fir p n s j):=by
 unfold bhJ
 split
 · refine ⟨?_,by show s.all.length ≤ (s.all ++ _).length;rw [List.length_append];omega⟩
   split
   · show s.ends.length ≤ (s.ends ++ _).length
     rw [List.length_append]
     omega
   · exact Nat.le_refl _
 · exact ⟨Nat.le_refl _,Nat.le_refl _⟩
theorem fold_pre {α:Type} {f:BhS → α → BhS} (hf:∀ s x,BPre s (f s x)):∀ (l:List α) (s:BhS),BPre s (l.foldl f s)
 | [],_ => ⟨Nat.le_refl _,Nat.le_refl _⟩
 | x :: l,s => (hf s x).trans (fold_pre hf l (f s x))
theorem bhP_pre (n:Int) (s:BhS) (p:Pd):BPre s (bhP null live fir n s p):=by
 unfold bhP
 split
 · exact fold_pre (bhJ_pre p n) _ s
 · exact ⟨Nat.le_refl _,Nat.le_refl _⟩
theorem bhN_pre:∀ (f i:Nat) (s:BhS),BPre s (bhN g null live fir f i s)
 | 0,_,_ => ⟨Nat.le_refl _,Nat.le_refl _⟩
 | f + 1,i,s => by
  unfold bhN
  split
  · exact ⟨Nat.le_refl _,Nat.le_refl _⟩
  · rename_i n e
    refine BPre.trans (BPre.trans (b:=⟨s.ends,s.all ++ if n = g.start then [0] else []⟩) ⟨Nat.le_refl _,?_⟩ (fold_pre (bhP_pre n) _ _)) (bhN_pre f (i + 1) _)
    show s.all.length ≤ (s.all ++ _).length
    rw [List.length_append]
    omega
theorem fold_len {α:Type} {f:BhS → α → BhS} {c:Nat}:∀ (l:List α) (s:BhS),(∀ s x,x ∈ l → (f s x).all.length ≤ s.all.length + c) → (l.foldl f s).all.length ≤ s.all.length + c * l.length
 | [],_,_ => Nat.le_refl _
 | x :: l,s,hf => by
  have h1:=fold_len l (f s x) (fun s y hy => hf s y (List.mem_cons_of_mem _ hy))
  have h2:=hf s x List.mem_cons_self
  rw [List.foldl_cons,List.length_cons,Nat.mul_succ]
  omega
theorem bhN_len (hf:∀ p ∈ g.prods,∀ j,(fir (p.right.drop (j + 1))).length ≤ 16) (hp:g.prods.length ≤ 40) (hr:∀ p ∈ g.prods,p.right.length ≤ 30):∀ (f i:Nat) (s:BhS),(bhN g null live fir f i s).all.length ≤ s.all.length + 19201 * f
 | 0,_,_ => Nat.le_refl _
 | f + 1,i,s => by
  unfold bhN
  split
  · omega
  · rename_i n e
    have h1:=bhN_len hf hp hr f (i + 1) (bhI g null live fir n s)
    have h2:(bhI g null live fir n s).all.length ≤ (s.all ++ if n = g.start then [0] else []).length + 480 * g.prods.length:=fold_len (f:=bhP null live fir n) g.prods ⟨s.ends,s.all ++ if n = g.start then [0] else []⟩ (fun s p hpm => by
     unfold bhP
     split
     · have h3:=fold_len (f:=bhJ null fir p n) (c:=16) (List.range p.right.length) s (fun s j _ => by
        unfold bhJ
        split
        · show (s.all ++ fir (p.right.drop (j + 1))).length ≤ _
          rw [List.length_append]
          have:=hf p hpm j
          omega
        · omega)
       have h4:=hr p hpm
       rw [List.length_range] at h3
       show ((List.range p.right.length).foldl (bhJ null fir p n) s).all.length ≤ _
       omega
     · omega)
    have h5:(if n = g.start then [(0:Int)] else []).length ≤ 1:=by split <;> decide
    rw [List.length_append] at h2
    omega
end
theorem firL_len {g:Gm} (hg:SndG g) {t:List Int} (ht:∀ n ∈ t,1 ≤ n ∧ n ≤ (g.all:Int)):(firL g t).length ≤ 16:=by
 have h1:((begS g (nulL g) t).out.filter fun x => decide (x ≤ (g.terms:Int))).length ≤ g.terms:=nodup_le g.terms _ 0 ((begS_good (fun n hn => (nulL_mem hg n).1 hn)).one.filter _) (fun n hn => by
  rw [List.mem_filter,decide_eq_true_iff] at hn
  have:=((begS_mem (nulL_mem hg) n).1 hn.1).range hg ht
  omega)
 exact Nat.le_trans (ofL_len _) (Nat.le_trans h1 (Nat.le_trans (terms_le15 g) hg.rules))
theorem right_sym {g:Gm} (hg:SndG g) {p:Pd} (hp:p ∈ g.prods):∀ n ∈ p.right,1 ≤ n ∧ n ≤ (g.all:Int):=by
 have:=hg.prod p hp
 unfold pdB at this
 simp only [Bool.and_eq_true,decide_eq_true_eq,List.all_eq_true] at this
 exact this.2
theorem left_sym {g:Gm} (hg:SndG g) {p:Pd} (hp:p ∈ g.prods):(g.terms:Int) < p.left ∧ p.left ≤ (g.all:Int):=by
 have:=hg.prod p hp
 unfold pdB at this
 simp only [Bool.and_eq_true,decide_eq_true_eq,List.all_eq_true] at this
 exact ⟨this.1.1.1.1.1,this.1.1.1.1.2⟩
def livL (g:Gm):List Int:=ofL (rcN g (g.nonts.length + 1))
def bhL (g:Gm) (s:Int):List Int:=ofL (bhN g (nulL g) (livL g) (firL g) (g.all + 1) 0 ⟨[s],[]⟩).all
theorem bhL_mem {g:Gm} (hg:SndG g) {s:Int} (h1:1 ≤ s) (h2:s ≤ (g.all:Int)) (x:Int):x ∈ bhL g s ↔ Behd g (nulL g) (livL g) (firL g) s x:=by
 unfold bhL
 rw [ofL_mem]
 refine bh_mem (a:=0) (fun n hn => ?_) x
 cases hn with
 | self => omega
 | step p j hp _ _ _ _ =>
  have:=left_sym hg hp
  omega
end Go.Proofs.YtfhokapfkclckaaGreat
