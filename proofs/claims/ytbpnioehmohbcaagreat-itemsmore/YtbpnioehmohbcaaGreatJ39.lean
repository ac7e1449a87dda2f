/- Package check: soundName. Package check: the map of names met; soundNames' inner function. Package check: soundNames. Package check: soundNames. -/
import Derived.Test.YtbpnioehmohbcaaGreatJ38
import Derived.Test.YtbpnioehmohbcaaGreatJ13
import Derived.Test.YtbpnioehmohbcaaGreatJ23
namespace Go.Proofs.YtbpnioehmohbcaaGreat
open Go.RowKit Go.Maps Go.Sort
set_option maxRecDepth 20000 in
set_option maxHeartbeats 16000000 in
theorem snameC (s:Txt) (w:World) (hs:s.length ≤ 1000000):Calls Tryz.prog 68 #[.string (strT s)] w fun e w' => e = .returned (.bool (namB s)) ∧ Below w.heap.size w w':=by
 have hsz:=strT_size s
 rw [namB_one]
 by_cases hl:(16:Int) < ((strT s).size:Int)
 · rw [decide_eq_false (show ¬ s.length ≤ 16 by omega)]
   clear hsz
   generalize strT s = S at *
   go_enter Tryz.func68,Tryz.ntmps68
   go_wp2_with fail
   go_ret
   exact ⟨rfl,Below.refl _ _⟩
 · rw [decide_eq_true (show s.length ≤ 16 by omega)]
   have GK:=hid (ckwC s w)
   cases hk:kwB s with
   | true =>
    rw [hk] at GK
    clear hsz hk
    generalize strT s = S at *
    go_enter Tryz.func68,Tryz.ntmps68
    go_wp2_with (go_at_call 101;refine GK.out.mono ?_;clear GK;rintro e w1 ⟨rfl,hc1⟩;subst w1)
    go_ret
    exact ⟨rfl,Below.refl _ _⟩
   | false =>
    rw [hk] at GK
    have GA:=hid (allC s w (by omega))
    unfold oneB
    obtain ⟨ws,hws⟩:∃ x,(wrdA s).1 = x:=⟨_,rfl⟩
    obtain ⟨pp,hpp⟩:∃ x,(wrdA s).2.1 = x:=⟨_,rfl⟩
    obtain ⟨er,her⟩:∃ x,(wrdA s).2.2 = x:=⟨_,rfl⟩
    rw [hws,hpp,her] at GA
    rw [hws,her]
    clear hws hpp her hk
    by_cases he:er = 0
    · subst he
      match ws,GA with
      | [],GA =>
       clear hsz
       generalize strT s = S at *
       go_enter Tryz.func68,Tryz.ntmps68
       go_wp2_with (first
        | (go_at_call 101;refine GK.out.mono ?_;clear GK;rintro e w1 ⟨rfl,hc1⟩;subst w1)
        | (go_at_call 35;refine GA.out.mono ?_;clear GA;rintro e w2 ⟨v,rfl,hM⟩;have h2:=hid hM.low;obtain ⟨a,c,rfl⟩:=(Wds.of_own hM.own).shape;clear hM))
       go_ret
       exact ⟨rfl,h2.out⟩
      | [x],GA =>
       have hbe:=strT_beq2 x.2.2 s
       obtain ⟨xt,hxt⟩:∃ y,Hid (strT x.2.2 = y):=⟨_,hid rfl⟩
       rw [hxt.out] at hbe
       by_cases h1:x.1 = 1
       · have h1z:((x.1:Int) == 1) = true:=by rw [beq_iff_eq];omega
         show Calls _ _ _ _ fun e w' => e = .returned (.bool (true && !false && (decide ((0:Int) = 0) && (decide (x.1 = 1) && decide (x.2.2 = s))))) ∧ _
         rw [decide_eq_true h1]
         generalize decide (x.2.2 = s) = D at *
         clear hsz
         generalize strT s = S at *
         go_enter Tryz.func68,Tryz.ntmps68
         go_wp2_with (first
          | (go_at_call 101;refine GK.out.mono ?_;clear GK;rintro e w1 ⟨rfl,hc1⟩;subst w1)
          | (go_at_call 35;refine GA.out.mono ?_;clear GA;rintro e w2 ⟨v,rfl,hM⟩;have h2:=hid hM.low;have hW:=Wds.of_own hM.own;obtain ⟨a,c,rfl⟩:=hW.shape;obtain ⟨b,o,rfl,z0,z1,z2⟩:=hW.at (j:=0) (by simp);rw [Nat.zero_mul,Nat.add_zero] at z0 z2;have q0:w2.cell? ⟨b,o,none⟩ = some (.int .i64 (x.1:Int)):=z0;have q2:w2.cell? ⟨b,o + 2,none⟩ = some (.string (strT x.2.2)):=z2;rw [hxt.out] at q2;clear hM z0 z1 z2 hW))
         go_ret
         exact ⟨by cases D <;> rfl,h2.out⟩
       · have h1z:((x.1:Int) == 1) = false:=by rw [beq_eq_false_iff_ne];omega
         show Calls _ _ _ _ fun e w' => e = .returned (.bool (true && !false && (decide ((0:Int) = 0) && (decide (x.1 = 1) && decide (x.2.2 = s))))) ∧ _
         rw [decide_eq_false h1]
         clear hsz
         generalize strT s = S at *
         go_enter Tryz.func68,Tryz.ntmps68
         go_wp2_with (first
          | (go_at_call 101;refine GK.out.mono ?_;clear GK;rintro e w1 ⟨rfl,hc1⟩;subst w1)
          | (go_at_call 35;refine GA.out.mono ?_;clear GA;rintro e w2 ⟨v,rfl,hM⟩;have h2:=hid hM.low;have hW:=Wds.of_own hM.own;obtain ⟨a,c,rfl⟩:=hW.shape;obtain ⟨b,o,rfl,z0,z1,z2⟩:=hW.at (j:=0) (by simp);rw [Nat.zero_mul,Nat.add_zero] at z0;have q0:w2.cell? ⟨b,o,none⟩ = some (.int .i64 (x.1:Int)):=z0;clear hM z0 z1 z2 hW))
         go_ret
         exact ⟨rfl,h2.out⟩
      | x :: y :: r,GA =>
       have hnz:(((r.length + 1 + 1:Nat):Int) == 1) = false:=by rw [beq_eq_false_iff_ne];omega
       show Calls _ _ _ _ fun e w' => e = .returned (.bool (true && !false && (decide ((0:Int) = 0) && false))) ∧ _
       clear hsz
       generalize strT s = S at *
       go_enter Tryz.func68,Tryz.ntmps68
       go_wp2_with (first
        | (go_at_call 101;refine GK.out.mono ?_;clear GK;rintro e w1 ⟨rfl,hc1⟩;subst w1)
        | (go_at_call 35;refine GA.out.mono ?_;clear GA;rintro e w2 ⟨v,rfl,hM⟩;have h2:=hid hM.low;obtain ⟨a,c,rfl⟩:=(Wds.of_own hM.own).shape;rw [List.length_map,List.length_cons,List.length_cons];generalize r.length + 1 + 1 = rr at *;clear hM))
       go_ret
       exact ⟨rfl,h2.out⟩
    · have hez:(er == 0) = false:=by rw [beq_eq_false_iff_ne];exact he
      rw [decide_eq_false he,Bool.false_and]
      clear hsz
      generalize strT s = S at *
      go_enter Tryz.func68,Tryz.ntmps68
      go_wp2_with (first
       | (go_at_call 101;refine GK.out.mono ?_;clear GK;rintro e w1 ⟨rfl,hc1⟩;subst w1)
       | (go_at_call 35;refine GA.out.mono ?_;clear GA;rintro e w2 ⟨v,rfl,hM⟩;have h2:=hid hM.low;clear hM))
      go_ret
      exact ⟨rfl,h2.out⟩
end Go.Proofs.YtbpnioehmohbcaaGreat
namespace Go.Proofs.YtbpnioehmohbcaaGreat
open Go.RowKit Go.Maps Go.Sort
def cntD (n:Nat):DataW Unit:=.lit (.int .i64 (n:Int))
def cntR:Value → Option (DataW Unit × List MemPlace)
 | .int .i64 a => some (.lit (.int .i64 a),[])
 | _ => none
theorem cntR_of (n:Nat):cntR (.int .i64 (n:Int)) = some (cntD n,[]):=rfl
set_option maxRecDepth 20000 in
theorem cntR_inv {v:Value} {n:Nat} {ps:List MemPlace} (h:cntR v = some (cntD n,ps)):v = .int .i64 (n:Int):=by
 unfold cntR at h
 split at h
 · rename_i a
   injection h with h
   injection h with h _
   unfold cntD at h
   injection h with h
   injection h with _ h
   subst h
   rfl
 · cases h
structure MapC (D:DataW Unit) (M:Txt → Nat):Prop where
 map:IsMap D
 at_:∀ t,D.atKey (.string t) (cntD 0) = cntD (M t)
def OwnMc (w:World) (m n:Nat) (M:Txt → Nat):Prop:=∃ D,w.ownsMap Tryz.prog 9 cntR m n D ∧ MapC D M
set_option maxRecDepth 20000 in
theorem zeroCnt (w:World):(zeroValue 3).run Tryz.prog w = .ok (.int .i64 ((0:Nat):Int)) w:=by kernel_rfl
set_option maxRecDepth 20000 in
theorem OwnMc.look1 {w:World} {m n:Nat} {M:Txt → Nat} (h:OwnMc w m n M) (t:Txt) (ht:t.length ≤ 1000000) :
 (Instr.lookup 105 (.map (some m)) (.string (strT t)) false).run Tryz.prog w = .ok (.int .i64 (M t:Int)) w:=by
 obtain ⟨D,h1,h2⟩:=h
 obtain ⟨v,ps,hrun,hR⟩:=h1.lookup keyS Tryz.underlying105 (zeroCnt w) (cntR_of 0) (keyT t ht)
 rw [h2.at_ t] at hR
 rw [hrun,cntR_inv hR]
set_option maxRecDepth 20000 in
theorem OwnMc.put {w:World} {m n:Nat} {M:Txt → Nat} (h:OwnMc w m n M) (t:Txt) (o:Nat) (ht:t.length ≤ 1000000) (hn:n ≤ 1000000) :
 ∃ w',(Instr.mapUpdate 105 (.map (some m)) (.string (strT t)) (.int .i64 (o:Int))).run Tryz.prog w = .ok () w' ∧ OwnMc w' m (n + 1) (fun x => if x = t then o else M x) ∧ Kept (oneBlk m) w w':=by
 obtain ⟨D,h1,h2⟩:=h
 obtain ⟨w',hrun,hO,hg⟩:=h1.update keyS Tryz.underlying105 (by unfold maxLen;omega) (keyT t ht) (cntR_of o)
 have hk:WideAt.IsKeyLit (.string t):=trivial
 refine ⟨w',hrun,⟨D.put (.string t) (cntD o),hO,⟨?_,fun x => ?_⟩⟩,(Kept.of_grown hg).mono (fun k _ e => by injection e with e;exact e.symm)⟩
 · obtain ⟨es,rfl⟩:=h2.map
   exact ⟨_,rfl⟩
 · by_cases e:x = t
   · subst e
     rw [if_pos rfl,atKey_put_same h2.map hk]
   · rw [if_neg e,atKey_put_other (fun e9 => e (by injection e9)),h2.at_]
set_option maxRecDepth 20000 in
theorem OwnMc.made (w:World):OwnMc (w.alloc (.map #[] 0)) w.heap.size 0 (fun _ => 0):=⟨.map [],World.ownsMap_made w Tryz.prog 9 cntR,⟨⟨[],rfl⟩,fun _ => rfl⟩⟩
theorem OwnMc.keep {w w':World} {m n:Nat} {M:Txt → Nat} {F:Nat → Prop} (h:OwnMc w m n M) (hk:Kept F w w') (hF:¬ F m):OwnMc w' m n M:=by
 obtain ⟨D,h1,h2⟩:=h
 have hlt:=h1.lt
 obtain ⟨es,clock,e1,e2,e3,e4⟩:=h1
 exact ⟨D,⟨es,clock,(hk.block m hlt hF).trans e1,e2,e3,e4⟩,h2⟩
def addM (M:Txt → Nat) (t:Txt):Txt → Nat:=fun x => if x = t then M t + 1 else M x
set_option maxRecDepth 20000 in
set_option maxHeartbeats 16000000 in
theorem onceC13 (t:Txt) (p m n:Nat) (M:Txt → Nat) (w:World) (hp:w.cell? ⟨p,0,none⟩ = some (.map (some m))) (hplt:p < w.heap.size) (hpm:p ≠ m) (hM:OwnMc w m n M) (ht:t.length ≤ 1000000) (hn:n ≤ 1000) (hb:M t ≤ 1000) :
 Calls Tryz.prog 67 #[.string (strT t),ptr0 p] w fun e w' => (namB t = false → e = .returned (.bool false) ∧ Below w.heap.size w w') ∧ (namB t = true → e = .returned (.bool (decide (M t = 0))) ∧ OwnMc w' m (n + 1) (addM M t) ∧ Kept (oneBlk m) w w'):=by
 have GS:=hid (snameC t w ht)
 cases hb1:namB t with
 | false =>
  rw [hb1] at GS
  generalize strT t = S at *
  clear hM hb
  go_enter Tryz.func67,Tryz.ntmps67
  go_wp2_with (go_at_call 68;refine GS.out.mono ?_;clear GS;rintro e w1 ⟨rfl,hc1⟩;have h1:=hid hc1;clear hc1)
  go_ret
  exact ⟨fun _ => ⟨rfl,h1.out⟩,fun h => absurd h (by decide)⟩
 | true =>
  rw [hb1] at GS
  have H1:Hid (∀ u,Below w.heap.size w u → u.cell? ⟨p,0,none⟩ = some (.map (some m)) ∧ (Instr.lookup 105 (.map (some m)) (.string (strT t)) false).run Tryz.prog u = .ok (.int .i64 (M t:Int)) u ∧ ∃ w',(Instr.mapUpdate 105 (.map (some m)) (.string (strT t)) (.int .i64 ((M t:Int) + 1))).run Tryz.prog u = .ok () w' ∧ w'.cell? ⟨p,0,none⟩ = some (.map (some m)) ∧ (Instr.lookup 105 (.map (some m)) (.string (strT t)) false).run Tryz.prog w' = .ok (.int .i64 ((M t:Int) + 1)) w' ∧ OwnMc w' m (n + 1) (addM M t) ∧ Kept (oneBlk m) w w'):=hid (fun u hu => by
   have hMu:=hM.keep (F:=noBlk) (Kept.of_below hu) id
   have hpu:=keep_cell hu hp
   obtain ⟨w',hr,hO,hk⟩:=hMu.put t (M t + 1) ht (by omega)
   have hk':Kept (oneBlk m) w w':=(Kept.of_below hu (F:=oneBlk m)).trans hk
   refine ⟨hpu,hMu.look1 t ht,w',hr,hk'.cell hp hplt hpm,?_,hO,hk'⟩
   have:=hO.look1 t ht
   rw [if_pos rfl] at this
   exact this)
  have hz:((M t:Int) + 1 == 1) = decide (M t = 0):=by
   by_cases h:M t = 0
   · rw [h];rfl
   · rw [decide_eq_false h,beq_eq_false_iff_ne];omega
  have hbz:(M t:Int) ≤ 1000:=by omega
  have hb0:(0:Int) ≤ (M t:Int):=by omega
  clear hM hp
  generalize addM M t = M' at *
  generalize strT t = S at *
  generalize decide (M t = 0) = D at *
  generalize (M t:Int) = c at *
  go_enter Tryz.func67,Tryz.ntmps67
  go_wp2_with (first
   | (go_at_call 68;refine GS.out.mono ?_;clear GS;rintro e w1 ⟨rfl,hc1⟩;obtain ⟨z0,z1,w2,z2,z3,z4,hO,hk⟩:=H1.out w1 hc1;have hO:=hid hO;have hk:=hid hk;clear hc1 H1))
  go_ret
  exact ⟨fun h => absurd h (by decide),fun _ => ⟨by first | rfl | (rw [hz];rfl),hO.out,hk.out⟩⟩
end Go.Proofs.YtbpnioehmohbcaaGreat
namespace Go.Proofs.YtbpnioehmohbcaaGreat
open Go.RowKit Go.Maps Go.Sort
def cntM (l:List Txt) (k:Nat):Txt → Nat:=fun x => (l.take k).count x
theorem cntM_succ {l:List Txt} {k:Nat} (hk:k < l.length):cntM l (k + 1) = addM (cntM l k) l[k]:=by
 funext x
 unfold cntM addM
 rw [List.take_add_one,List.getElem?_eq_getElem hk,Option.toList_some,List.count_append]
 by_cases e:x = l[k]
 · rw [if_pos e,e]
   simp
 · rw [if_neg e]
   rw [List.count_eq_zero_of_not_mem (show x ∉ [l[k]] by simpa using e),Nat.add_zero]
theorem cntM_zero (l:List Txt):cntM l 0 = fun _ => 0:=by funext x;unfold cntM;simp
theorem cntM_le (l:List Txt) (k:Nat) (t:Txt):cntM l k t ≤ k:=Nat.le_trans List.count_le_length (by rw [List.length_take];omega)
theorem cntM_pos {l:List Txt} {k:Nat} (hk:k < l.length) (h:cntM l k l[k] ≠ 0):∃ j,∃ hj:j < k,l[j]'(by omega) = l[k]:=by
 unfold cntM at h
 have hm:l[k] ∈ l.take k:=List.count_pos_iff.1 (by omega)
 obtain ⟨j,hj,e⟩:=List.getElem_of_mem hm
 rw [List.length_take] at hj
 refine ⟨j,by omega,?_⟩
 rw [← e,List.getElem_take]
theorem cntM_none {l:List Txt} {k:Nat} (hk:k < l.length) (h:cntM l k l[k] = 0):∀ j (hj:j < k),l[j]'(by omega) ≠ l[k]:=fun j hj e => by
 unfold cntM at h
 have hm:l[k] ∈ l.take k:=by
  rw [← e]
  rw [List.mem_take_iff_getElem]
  exact ⟨j,by omega,rfl⟩
 have:=List.count_pos_iff.2 hm
 omega
def nms2B (g:Gm):Bool:=g.allN.all namB && decide g.allN.Nodup
theorem nms2_named {g:Gm} {k:Nat} (hk:k < g.allN.length) (h:namB g.allN[k] = false):nms2B g = false:=by
 unfold nms2B
 have:g.allN.all namB = false:=by
  rw [List.all_eq_false]
  exact ⟨_,List.getElem_mem hk,by rw [h];decide⟩
 rw [this,Bool.false_and]
theorem nms2_twice {g:Gm} {k i:Nat} (hi:i < g.allN.length) (hk:k < i) (h:g.allN[k]'(by omega) = g.allN[i]):nms2B g = false:=by
 unfold nms2B
 have:decide g.allN.Nodup = false:=decide_eq_false fun hn => by
  have:=List.pairwise_iff_getElem.1 hn k i (by omega) hi hk
  exact this h
 rw [this,Bool.and_false]
theorem nms2_yes {g:Gm} (h2:∀ k (hk:k < g.allN.length),namB g.allN[k] = true) (h3:∀ k i (hi:i < g.allN.length) (hk:k < i),g.allN[k]'(by omega) ≠ g.allN[i]):nms2B g = true:=by
 unfold nms2B
 have e2:g.allN.all namB = true:=by
  rw [List.all_eq_true]
  intro r hr
  obtain ⟨k,hk,rfl⟩:=List.getElem_of_mem hr
  exact h2 k hk
 have e3:decide g.allN.Nodup = true:=decide_eq_true (List.pairwise_iff_getElem.2 fun k i hk hi hki => h3 k i hi hki)
 rw [e2,e3];rfl
structure NmI3 (g:Gm) (k:Nat):Prop where
 named:∀ j (hj:j < g.allN.length),j < k → namB g.allN[j] = true
 once:∀ i j (hj:j < g.allN.length) (hi:i < j),j < k → g.allN[i]'(by omega) ≠ g.allN[j]
theorem NmI3.succ {g:Gm} {k:Nat} (h:NmI3 g k) (hk:k < g.allN.length) (h1:namB g.allN[k] = true) (h2:cntM g.allN k g.allN[k] = 0):NmI3 g (k + 1) where
 named j hj h9:=by
  rcases Nat.lt_or_ge j k with h8 | h8
  · exact h.named j hj h8
  · obtain rfl:j = k:=by omega
    exact h1
 once i j hj hi h9:=by
  rcases Nat.lt_or_ge j k with h8 | h8
  · exact h.once i j hj hi h8
  · obtain rfl:j = k:=by omega
    exact cntM_none hk h2 i hi
theorem NmI3.all {g:Gm} (h:NmI3 g g.allN.length):nms2B g = true:=nms2_yes (fun k hk => h.named k hk hk) (fun k i hi hk => h.once k i hi hk hi)
def newB (g:Gm) (k:Nat):Bool:=namB (g.allN.getD k []) && decide (cntM g.allN k (g.allN.getD k []) = 0)
set_option maxRecDepth 20000 in
theorem onceR (g:Gm) (k:Nat) (hk:k < g.allN.length) (hl:g.allN.length ≤ 1000) (p m:Nat) (w:World) (hp:w.cell? ⟨p,0,none⟩ = some (.map (some m))) (hplt:p < w.heap.size) (hpm:p ≠ m) (hM:OwnMc w m k (cntM g.allN k)) (ht:g.allN[k].length ≤ 1000000) (hI:NmI3 g k) :
 Calls Tryz.prog 67 #[.string (strT g.allN[k]),ptr0 p] w fun e w' => e = .returned (.bool (newB g k)) ∧ Kept (oneBlk m) w w' ∧ (newB g k = false → nms2B g = false) ∧ (newB g k = true → OwnMc w' m (k + 1) (cntM g.allN (k + 1)) ∧ NmI3 g (k + 1)):=by
 have hle:=cntM_le g.allN k g.allN[k]
 refine (onceC13 g.allN[k] p m k (cntM g.allN k) w hp hplt hpm hM ht (by omega) (by omega)).mono (fun e w' h => ?_)
 have hg:g.allN.getD k [] = g.allN[k]:=by rw [List.getD_eq_getElem?_getD,List.getElem?_eq_getElem hk];rfl
 unfold newB
 rw [hg]
 cases hb:namB g.allN[k] with
 | false =>
  obtain ⟨h1,h2⟩:=h.1 hb
  exact ⟨h1,Kept.of_below h2,fun _ => nms2_named hk hb,fun h => absurd h (by rw [Bool.false_and];decide)⟩
 | true =>
  obtain ⟨h1,h2,h3⟩:=h.2 hb
  rw [Bool.true_and]
  refine ⟨h1,h3,fun h9 => ?_,fun h9 => ?_⟩
  · obtain ⟨j,hj,e⟩:=cntM_pos hk (of_decide_eq_false h9)
    exact nms2_twice hk hj e
  · rw [cntM_succ hk]
    exact ⟨h2,hI.succ hk hb (of_decide_eq_true h9)⟩
end Go.Proofs.YtbpnioehmohbcaaGreat
namespace Go.Proofs.YtbpnioehmohbcaaGreat
open Go.RowKit Go.Maps Go.Sort
theorem allN_rule {g:Gm} {k:Nat} (hk:k < g.rules.length):∃ h:k < g.allN.length,g.allN[k] = g.rules[k].name:=by
 have h:k < g.allN.length:=by unfold Gm.allN;rw [List.length_append,List.length_map];omega
 have e:g.allN[k]? = some g.rules[k].name:=by
  unfold Gm.allN
  rw [List.getElem?_append_left (by rw [List.length_map];exact hk),List.getElem?_map,List.getElem?_eq_getElem hk]
  rfl
 exact ⟨h,Option.some.inj ((List.getElem?_eq_getElem h).symm.trans e)⟩
theorem allN_nont {g:Gm} {k r:Nat} (hk:k < g.nonts.length) (hr:g.rules.length = r):∃ h:r + k < g.allN.length,g.allN[r + k] = g.nonts[k]:=by
 subst hr
 have h:g.rules.length + k < g.allN.length:=by unfold Gm.allN;rw [List.length_append,List.length_map];omega
 have e:g.allN[g.rules.length + k]? = some g.nonts[k]:=by
  unfold Gm.allN
  rw [List.getElem?_append_right (by rw [List.length_map];omega),List.length_map,Nat.add_sub_cancel_left,List.getElem?_eq_getElem hk]
 exact ⟨h,Option.some.inj ((List.getElem?_eq_getElem h).symm.trans e)⟩
theorem allN_len (g:Gm):g.allN.length = g.rules.length + g.nonts.length:=by unfold Gm.allN;rw [List.length_append,List.length_map]
set_option maxRecDepth 20000 in
set_option maxHeartbeats 16000000 in
theorem namesP (rv nv lv pv:Value) (g:Gm) (st:Int) (w:World) (hV:GmV w rv nv lv pv g) (hl:g.rules.length ≤ 400) (hl2:g.nonts.length ≤ 400) (hnl:∀ t ∈ g.allN,t.length ≤ 1000000) :
 Calls Tryz.prog 49 #[gmA rv nv lv pv st] w fun e w' => e = .returned (.bool (nms2B g)) ∧ Below w.heap.size w w':=by
 obtain ⟨ra,rc,rfl⟩:=hV.rules.shape
 obtain ⟨na,nc,rfl⟩:=hV.nonts.shape
 obtain ⟨W1,hW1⟩:∃ x,w.alloc (.cells #[.slice ra g.rules.length rc,.slice na g.nonts.length nc,lv,pv,.int .i64 st] 27) = x:=⟨_,rfl⟩
 have hB1:Below w.heap.size w W1:=by rw [← hW1];exact al' w _
 have k1:W1.heap[w.heap.size]? = some (.cells #[.slice ra g.rules.length rc,.slice na g.nonts.length nc,lv,pv,.int .i64 st] 27):=by rw [← hW1];exact heap_new w _
 have z1:W1.heap.size = w.heap.size + 1:=by rw [← hW1];exact World.size_alloc ..
 obtain ⟨W2,hW2⟩:∃ x,W1.alloc (.map #[] 0) = x:=⟨_,rfl⟩
 have hmm:(Instr.makeMap 105 none).run Tryz.prog W1 = .ok (.map (some W1.heap.size)) W2:=by rw [← hW2];rfl
 have hB2:Below W1.heap.size W1 W2:=by rw [← hW2];exact al' W1 _
 have z2:W2.heap.size = W1.heap.size + 1:=by rw [← hW2];exact World.size_alloc ..
 have hM2:OwnMc W2 W1.heap.size 0 (fun _ => 0):=by rw [← hW2];exact OwnMc.made W1
 obtain ⟨W,hW⟩:∃ x,W2.alloc (.cells #[.map (some W1.heap.size)] 105) = x:=⟨_,rfl⟩
 have hB3:Below W2.heap.size W2 W:=by rw [← hW];exact al' W2 _
 have z3:W.heap.size = W2.heap.size + 1:=by rw [← hW];exact World.size_alloc ..
 have c3:W.cell? ⟨W2.heap.size,0,none⟩ = some (.map (some W1.heap.size)):=blk_cell (by rw [← hW];exact heap_new W2 _) rfl
 have hB:Hid (Below w.heap.size w W):=hid (bl_step (bl_step hB1 hB2) hB3)
 have k3:=hs_keep k1 (bl_step hB2 hB3)
 have hM0:Hid (OwnMc W W1.heap.size 0 (cntM g.allN 0)):=hid (by rw [cntM_zero];exact hM2.keep (F:=noBlk) (Kept.of_below hB3) id)
 have x0:W.cell? ⟨w.heap.size,0,none⟩ = some (.slice ra g.rules.length rc):=blk_cell k3 rfl
 have x1:W.cell? ⟨w.heap.size,1,none⟩ = some (.slice na g.nonts.length nc):=blk_cell k3 rfl
 have hlow:Hid (∀ u,Kept (oneBlk W1.heap.size) W u → Below w.heap.size w u):=hid (fun u hu => hB.out.trans (hu.below (fun k e => by rw [show k = W1.heap.size from e];omega) (by omega)))
 have hKr:Hid (∀ u,Kept (oneBlk W1.heap.size) W u → ∀ k (hk:k < g.rules.length),∃ b o q1 q2 q3,ra = some ⟨b,o,none⟩ ∧ u.cell? ⟨b,o + k * 3,none⟩ = some (.string (strT g.rules[k].name)) ∧ u.cell? ⟨b,o + k * 3 + 1,none⟩ = some (.slice q1 q2 q3) ∧ u.cell? ⟨b,o + k * 3 + 2,none⟩ = some (.bool g.rules[k].skip)):=hid (fun u hu k hk => by
  obtain ⟨b,o,e,-,v,h0,h1,h2,hN⟩:=(hV.keep (hlow.out u hu)).rules.at hk
  obtain ⟨q1,q3,rfl,-⟩:=id hN
  exact ⟨b,o,q1,_,q3,e,h0,h1,h2⟩)
 have hKn:Hid (∀ u,Kept (oneBlk W1.heap.size) W u → ∀ k (hk:k < g.nonts.length),∃ b o,na = some ⟨b,o,none⟩ ∧ u.cell? ⟨b,o + k,none⟩ = some (.string (strT g.nonts[k]))):=hid (fun u hu k hk => by
  obtain ⟨b,o,e,-,h0⟩:=(hV.keep (hlow.out u hu)).nonts.at hk
  rw [Nat.mul_one] at h0
  exact ⟨b,o,e,h0⟩)
 have hx1:Hid (∀ u,Kept (oneBlk W1.heap.size) W u → u.cell? ⟨w.heap.size,1,none⟩ = some (.slice na g.nonts.length nc)):=hid (fun u hu => hu.cell x1 (by omega) (fun e => by have:w.heap.size = W1.heap.size:=e;omega))
 have hcall:Hid (∀ u,Kept (oneBlk W1.heap.size) W u → ∀ k (hk:k < g.allN.length),OwnMc u W1.heap.size k (cntM g.allN k) → NmI3 g k → ∀ u',Below u.heap.size u u' → Calls Tryz.prog 67 #[.string (strT g.allN[k]),ptr0 W2.heap.size] u' fun e w' => e = .returned (.bool (newB g k)) ∧ Kept (oneBlk W1.heap.size) W w' ∧ (newB g k = false → nms2B g = false) ∧ (newB g k = true → OwnMc w' W1.heap.size (k + 1) (cntM g.allN (k + 1)) ∧ NmI3 g (k + 1))):=hid (fun u hu k hk hO hI u' hu' => by
  have hk':Kept (oneBlk W1.heap.size) W u':=hu.trans (Kept.of_below hu')
  have hc:u'.cell? ⟨W2.heap.size,0,none⟩ = some (.map (some W1.heap.size)):=hk'.cell c3 (by omega) (fun e => by have:W2.heap.size = W1.heap.size:=e;omega)
  refine (onceR g k hk (by rw [allN_len];omega) W2.heap.size W1.heap.size u' hc (Nat.lt_of_lt_of_le (by omega) hk'.size) (by omega) (hO.keep (F:=noBlk) (Kept.of_below hu') id) (hnl _ (List.getElem_mem hk)) hI).mono (fun e w' => ?_)
  rintro ⟨h1,h2,h3,h4⟩
  exact ⟨h1,hk'.trans h2,h3,h4⟩)
 have hI0:Hid (NmI3 g 0):=hid ⟨fun _ _ h => absurd h (Nat.not_lt_zero _),fun _ _ _ _ h => absurd h (Nat.not_lt_zero _)⟩
 have hall:=hid (fun h => NmI3.all (g:=g) h)
 have hln:=hid (allN_len g)
 generalize nms2B g = R at *
 obtain ⟨rn,hrn⟩:∃ n,Hid (g.rules.length = n):=⟨_,hid rfl⟩
 obtain ⟨nn,hnn⟩:∃ n,Hid (g.nonts.length = n):=⟨_,hid rfl⟩
 rw [hrn.out] at hl hW1 x0 ⊢
 rw [hnn.out] at hl2 hW1 x1 hx1 ⊢
 generalize W1.heap.size = m at *
 clear hV hB1 k1 hB2 hB3 hM2 z1 z2 z3 c3 k3 hnl hW2
 go_enter Tryz.func49,Tryz.ntmps49
 go_wp2
 clear hW hW1 hmm x0 x1
 go_loopw [14] (fun i wr => ∃ k:Nat,k ≤ rn ∧ i = .int .i64 (k:Int) ∧ Hid (OwnMc wr m k (cntM g.allN k)) ∧ Hid (NmI3 g k) ∧ Hid (Kept (oneBlk m) W wr)) (fun i _ => rn - (intOf i).toNat)
 case atStart => exact ⟨0,Nat.zero_le _,rfl,hM0,hI0,hid (Kept.refl _ _)⟩
 case round =>
  obtain ⟨k,hk,rfl,hO,hI,hbl⟩:=hrel
  by_cases hlt:k < rn
  · have hltz:(k:Int) < (rn:Int):=by omega
    have hkl:k < g.rules.length:=by rw [hrn.out];exact hlt
    obtain ⟨b,o,q1,q2,q3,rfl,c0,c1,c2⟩:=hKr.out wr hbl.out k hkl
    obtain ⟨hka,hke⟩:=allN_rule hkl
    have G:=hcall.out wr hbl.out k hka hO.out hI.out _ (al' wr (.cells #[.string (strT g.rules[k].name),.slice q1 q2 q3,.bool g.rules[k].skip] 50))
    rw [hke] at G
    clear hka hke hO hI hbl
    generalize strT g.rules[k].name = v1 at *
    generalize g.rules[k].skip = v3 at *
    cases hb:newB g (k) with
    | true =>
     rw [hb] at G
     have G:=hid G
     clear hb
     go_wp2_with (go_at_call 67;refine G.out.mono ?_;clear G;rintro e w4 ⟨rfl,hk4,-,ht4⟩;obtain ⟨hO4,hI4⟩:=ht4 rfl;have hk4:=hid hk4;have hO4:=hid hO4;have hI4:=hid hI4;clear ht4)
     go_roundw
     case rel => exact ⟨k + 1,by omega,by go_num,hO4,hI4,hk4⟩
     case measure => simp [intOf];omega
    | false =>
     rw [hb] at G
     have G:=hid G
     clear hb
     go_wp2_with (go_at_call 67;refine G.out.mono ?_;clear G;rintro e w4 ⟨rfl,hk4,hf4,-⟩;obtain rfl:=hf4 rfl;have hk4:=hid hk4;clear hf4)
     go_ret
     exact ⟨rfl,hlow.out _ hk4.out⟩
  · have hltz:¬ (k:Int) < (rn:Int):=by omega
    obtain rfl:k = rn:=by omega
    have y1:=hx1.out wr hbl.out
    go_wp2
    clear hltz hlt hk y1 hKr
    obtain ⟨wo,hwo⟩:∃ x,x = wr:=⟨_,rfl⟩
    subst hwo
    go_loopw [27] (fun i wr => ∃ j:Nat,j ≤ nn ∧ i = .int .i64 (j:Int) ∧ Hid (OwnMc wr m (k + j) (cntM g.allN (k + j))) ∧ Hid (NmI3 g (k + j)) ∧ Hid (Kept (oneBlk m) W wr)) (fun i _ => nn - (intOf i).toNat)
    case atStart => exact ⟨0,Nat.zero_le _,rfl,hO,hI,hbl⟩
    case round =>
     obtain ⟨j,hj,rfl,hO',hI',hbl'⟩:=hrel
     by_cases hlt:j < nn
     · have hltz:(j:Int) < (nn:Int):=by omega
       have hjl:j < g.nonts.length:=by rw [hnn.out];exact hlt
       obtain ⟨b,o,rfl,c0⟩:=hKn.out wr hbl'.out j hjl
       obtain ⟨hka,hke⟩:=allN_nont hjl hrn.out
       have G:=hcall.out wr hbl'.out (k + j) hka hO'.out hI'.out _ (Below.refl _ _)
       rw [hke] at G
       clear hka hke hO' hI' hbl'
       generalize strT g.nonts[j] = v1 at *
       cases hb:newB g (k + j) with
       | true =>
        rw [hb] at G
        have G:=hid G
        clear hb
        go_wp2_with (go_at_call 67;refine G.out.mono ?_;clear G;rintro e w4 ⟨rfl,hk4,-,ht4⟩;obtain ⟨hO4,hI4⟩:=ht4 rfl;have hk4:=hid hk4;have hO4:=hid hO4;have hI4:=hid hI4;clear ht4)
        go_roundw
        case rel => exact ⟨j + 1,by omega,by go_num,hO4,hI4,hk4⟩
        case measure => simp [intOf];omega
       | false =>
        rw [hb] at G
        have G:=hid G
        clear hb
        go_wp2_with (go_at_call 67;refine G.out.mono ?_;clear G;rintro e w4 ⟨rfl,hk4,hf4,-⟩;obtain rfl:=hf4 rfl;have hk4:=hid hk4;clear hf4)
        go_ret
        exact ⟨rfl,hlow.out _ hk4.out⟩
     · have hltz:¬ (j:Int) < (nn:Int):=by omega
       obtain rfl:j = nn:=by omega
       obtain rfl:=hall.out (by rw [hln.out,hrn.out,hnn.out];exact hI'.out)
       go_wp2
       go_ret
       exact ⟨rfl,hlow.out _ hbl'.out⟩
end Go.Proofs.YtbpnioehmohbcaaGreat
