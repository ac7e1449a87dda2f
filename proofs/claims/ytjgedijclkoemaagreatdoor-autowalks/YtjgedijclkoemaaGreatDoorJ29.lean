/- What the five laws of layer 17 share, part 29: no statement of its own. -/
import Derived.Test.YtjgedijclkoemaaGreatDoorJ28
namespace Go.Proofs.YtjgedijclkoemaaGreatDoor
open Go.RowKit Go.Maps Go.Sort
set_option maxRecDepth 20000 in
set_option maxHeartbeats 16000000 in
theorem c1k (s:Txt) (w:World) (hs:s.length≤1000000):Calls Tryz.prog 142 #[.string (e_ s)] w fun e w'=>e=.returned (.bool (a0V s))∧Below w.heap.size w w':=by
 have hsz:=o_ s;rw [b6s];by_cases hl:(16:Int)<((e_ s).size:Int)
 · rw [decide_eq_false (show ¬ s.length≤16 by omega)]
   clear hsz;generalize e_ s=S at *;go_enter Tryz.func142,Tryz.ntmps142
   go_wp2_with fail
   go_ret;exact ⟨rfl,Below.refl _ _⟩
 · rw [decide_eq_true (show s.length≤16 by omega)]
   have GK:=hid (c4W s w);cases hk:kwB s with
   | true =>
    rw [hk] at GK;clear hsz hk;generalize e_ s=S at *;go_enter Tryz.func142,Tryz.ntmps142
    go_wp2_with (go_at_call 179;refine GK.out.mono ?_;clear GK;rintro e w1 ⟨rfl,hc1⟩;subst w1)
    go_ret;exact ⟨rfl,Below.refl _ _⟩
   | false =>
    rw [hk] at GK;have GA:=hid (c3k s w (by omega));unfold b9q;obtain ⟨ws,hws⟩:∃ x,(a0w s).1=x:=⟨_,rfl⟩;obtain ⟨pp,hpp⟩:∃ x,(a0w s).2.1=x:=⟨_,rfl⟩;obtain ⟨er,her⟩:∃ x,(a0w s).2.2=x:=⟨_,rfl⟩;rw [hws,hpp,her] at GA;rw [hws,her];clear hws hpp her hk;by_cases he:er=0
    · subst he
      match ws,GA with
      | [],GA =>
       clear hsz;generalize e_ s=S at *;go_enter Tryz.func142,Tryz.ntmps142
       go_wp2_with (first
        | (go_at_call 179;refine GK.out.mono ?_;clear GK;rintro e w1 ⟨rfl,hc1⟩;subst w1)
        | (go_at_call 38;refine GA.out.mono ?_;clear GA;rintro e w2 ⟨v,rfl,hM⟩;have h2:=hid hM.low;obtain ⟨a,c,rfl⟩:=(Wds.of_own hM.own).shape;clear hM))
       go_ret;exact ⟨rfl,h2.out⟩
      | [x],GA =>
       have hbe:=a1p x.2.2 s;obtain ⟨xt,hxt⟩:∃ y,Hid (e_ x.2.2=y):=⟨_,hid rfl⟩;rw [hxt.out] at hbe;by_cases h1:x.1=1
       · have h1z:((x.1:Int) == 1)=true:=by rw [beq_iff_eq];omega
         show Calls _ _ _ _ fun e w'=>e=.returned (.bool (true && !false && (decide ((0:Int)=0) && (decide (x.1=1) && decide (x.2.2=s)))))∧_
         rw [decide_eq_true h1];generalize decide (x.2.2=s)=D at *;clear hsz;generalize e_ s=S at *;go_enter Tryz.func142,Tryz.ntmps142
         go_wp2_with (first
          | (go_at_call 179;refine GK.out.mono ?_;clear GK;rintro e w1 ⟨rfl,hc1⟩;subst w1)
          | (go_at_call 38;refine GA.out.mono ?_;clear GA;rintro e w2 ⟨v,rfl,hM⟩;have h2:=hid hM.low;have hW:=Wds.of_own hM.own;obtain ⟨a,c,rfl⟩:=hW.shape;obtain ⟨b,o,rfl,z0,z1,z2⟩:=hW.at (j:=0) (by simp);rw [Nat.zero_mul,Nat.add_zero] at z0 z2;have q0:w2.cell? ⟨b,o,none⟩=some (.int .i64 (x.1:Int)):=z0;have q2:w2.cell? ⟨b,o+2,none⟩=some (.string (e_ x.2.2)):=z2;rw [hxt.out] at q2;clear hM z0 z1 z2 hW))
         go_ret;exact ⟨by cases D <;> rfl,h2.out⟩
       · have h1z:((x.1:Int) == 1)=false:=by rw [beq_eq_false_iff_ne];omega
         show Calls _ _ _ _ fun e w'=>e=.returned (.bool (true && !false && (decide ((0:Int)=0) && (decide (x.1=1) && decide (x.2.2=s)))))∧_
         rw [decide_eq_false h1];clear hsz;generalize e_ s=S at *;go_enter Tryz.func142,Tryz.ntmps142
         go_wp2_with (first
          | (go_at_call 179;refine GK.out.mono ?_;clear GK;rintro e w1 ⟨rfl,hc1⟩;subst w1)
          | (go_at_call 38;refine GA.out.mono ?_;clear GA;rintro e w2 ⟨v,rfl,hM⟩;have h2:=hid hM.low;have hW:=Wds.of_own hM.own;obtain ⟨a,c,rfl⟩:=hW.shape;obtain ⟨b,o,rfl,z0,z1,z2⟩:=hW.at (j:=0) (by simp);rw [Nat.zero_mul,Nat.add_zero] at z0;have q0:w2.cell? ⟨b,o,none⟩=some (.int .i64 (x.1:Int)):=z0;clear hM z0 z1 z2 hW))
         go_ret;exact ⟨rfl,h2.out⟩
      | x :: y :: r,GA =>
       have hnz:(((r.length+1+1:Nat):Int) == 1)=false:=by rw [beq_eq_false_iff_ne];omega
       show Calls _ _ _ _ fun e w'=>e=.returned (.bool (true && !false && (decide ((0:Int)=0) && false)))∧_
       clear hsz;generalize e_ s=S at *;go_enter Tryz.func142,Tryz.ntmps142
       go_wp2_with (first
        | (go_at_call 179;refine GK.out.mono ?_;clear GK;rintro e w1 ⟨rfl,hc1⟩;subst w1)
        | (go_at_call 38;refine GA.out.mono ?_;clear GA;rintro e w2 ⟨v,rfl,hM⟩;have h2:=hid hM.low;obtain ⟨a,c,rfl⟩:=(Wds.of_own hM.own).shape;rw [List.length_map,List.length_cons,List.length_cons];generalize r.length+1+1=rr at *;clear hM))
       go_ret;exact ⟨rfl,h2.out⟩
    · have hez:(er == 0)=false:=by rw [beq_eq_false_iff_ne];exact he
      rw [decide_eq_false he,Bool.false_and];clear hsz;generalize e_ s=S at *;go_enter Tryz.func142,Tryz.ntmps142
      go_wp2_with (first
       | (go_at_call 179;refine GK.out.mono ?_;clear GK;rintro e w1 ⟨rfl,hc1⟩;subst w1)
       | (go_at_call 38;refine GA.out.mono ?_;clear GA;rintro e w2 ⟨v,rfl,hM⟩;have h2:=hid hM.low;clear hM))
      go_ret;exact ⟨rfl,h2.out⟩
def c0Q (n:Nat):DataW Unit:=.lit (.int .i64 (n:Int))
def c2K:Value→Option (DataW Unit×List MemPlace)
 | .int .i64 a=>some (.lit (.int .i64 a),[])
 | _=>none
theorem b4D (n:Nat):c2K (.int .i64 (n:Int))=some (c0Q n,[]):=rfl
set_option maxRecDepth 20000 in
theorem b7k {v:Value} {n:Nat} {ps:List MemPlace} (h:c2K v=some (c0Q n,ps)):v=.int .i64 (n:Int):=by
 unfold c2K at h;split at h
 · rename_i a
   injection h with h;injection h with h _;unfold c0Q at h;injection h with h;injection h with _ h;subst h;rfl
 · cases h
structure MapC (D:DataW Unit) (M:Txt→Nat):Prop where
 map:IsMap D
 at_:∀ t,D.atKey (.string t) (c0Q 0)=c0Q (M t)
def OwnMc (w:World) (m n:Nat) (M:Txt→Nat):Prop:=∃ D,w.ownsMap Tryz.prog 9 c2K m n D∧MapC D M
set_option maxRecDepth 20000 in
theorem b8x (w:World):(zeroValue 3).run Tryz.prog w=.ok (.int .i64 ((0:Nat):Int)) w:=by kernel_rfl
set_option maxRecDepth 20000 in
theorem OwnMc.look1 {w:World} {m n:Nat} {M:Txt→Nat} (h:OwnMc w m n M) (t:Txt) (ht:t.length≤1000000) :
 (Instr.lookup 70 (.map (some m)) (.string (e_ t)) false).run Tryz.prog w=.ok (.int .i64 (M t:Int)) w:=by
 obtain ⟨D,h1,h2⟩:=h;obtain ⟨v,ps,hrun,hR⟩:=h1.lookup b9Q Tryz.underlying70 (b8x w) (b4D 0) (b9P t ht);rw [h2.at_ t] at hR;rw [hrun,b7k hR]
set_option maxRecDepth 20000 in
theorem OwnMc.put {w:World} {m n:Nat} {M:Txt→Nat} (h:OwnMc w m n M) (t:Txt) (o:Nat) (ht:t.length≤1000000) (hn:n≤1000000) :
 ∃ w',(Instr.mapUpdate 70 (.map (some m)) (.string (e_ t)) (.int .i64 (o:Int))).run Tryz.prog w=.ok () w'∧OwnMc w' m (n+1) (fun x=>if x=t then o else M x)∧Kept (f_ m) w w':=by
 obtain ⟨D,h1,h2⟩:=h;obtain ⟨w',hrun,hO,hg⟩:=h1.update b9Q Tryz.underlying70 (by unfold maxLen;omega) (b9P t ht) (b4D o);have hk:WideAt.IsKeyLit (.string t):=trivial;refine ⟨w',hrun,⟨D.put (.string t) (c0Q o),hO,⟨?_,fun x=>?_⟩⟩,(Kept.of_grown hg).mono (fun k _ e=>by injection e with e;exact e.symm)⟩
 · obtain ⟨es,rfl⟩:=h2.map
   exact ⟨_,rfl⟩
 · by_cases e:x=t
   · subst e
     rw [if_pos rfl,atKey_put_same h2.map hk]
   · rw [if_neg e,atKey_put_other (fun e9=>e (by injection e9)),h2.at_]
set_option maxRecDepth 20000 in
theorem OwnMc.made (w:World):OwnMc (w.alloc (.map #[] 0)) w.heap.size 0 (fun _=>0):=⟨.map [],World.ownsMap_made w Tryz.prog 9 c2K,⟨⟨[],rfl⟩,fun _=>rfl⟩⟩
theorem OwnMc.keep {w w':World} {m n:Nat} {M:Txt→Nat} {F:Nat→Prop} (h:OwnMc w m n M) (hk:Kept F w w') (hF:¬ F m):OwnMc w' m n M:=by
 obtain ⟨D,h1,h2⟩:=h;have hlt:=h1.lt;obtain ⟨es,clock,e1,e2,e3,e4⟩:=h1;exact ⟨D,⟨es,clock,(hk.block m hlt hF).trans e1,e2,e3,e4⟩,h2⟩
def c3b (M:Txt→Nat) (t:Txt):Txt→Nat:=fun x=>if x=t then M t+1 else M x
set_option maxRecDepth 20000 in
set_option maxHeartbeats 16000000 in
theorem b9r (t:Txt) (p m n:Nat) (M:Txt→Nat) (w:World) (hp:w.cell? ⟨p,0,none⟩=some (.map (some m))) (hplt:p<w.heap.size) (hpm:p≠m) (hM:OwnMc w m n M) (ht:t.length≤1000000) (hn:n≤1000) (hb:M t≤1000) :
 Calls Tryz.prog 141 #[.string (e_ t),r_ p] w fun e w'=>(a0V t=false→e=.returned (.bool false)∧Below w.heap.size w w')∧(a0V t=true→e=.returned (.bool (decide (M t=0)))∧OwnMc w' m (n+1) (c3b M t)∧Kept (f_ m) w w'):=by
 have GS:=hid (c1k t w ht);cases hb1:a0V t with
 | false =>
  rw [hb1] at GS;generalize e_ t=S at *;clear hM hb;go_enter Tryz.func141,Tryz.ntmps141
  go_wp2_with (go_at_call 142;refine GS.out.mono ?_;clear GS;rintro e w1 ⟨rfl,hc1⟩;have h1:=hid hc1;clear hc1)
  go_ret;exact ⟨fun _=>⟨rfl,h1.out⟩,fun h=>absurd h (by decide)⟩
 | true =>
  rw [hb1] at GS
  have H1:Hid (∀ u,Below w.heap.size w u→u.cell? ⟨p,0,none⟩=some (.map (some m))∧(Instr.lookup 70 (.map (some m)) (.string (e_ t)) false).run Tryz.prog u=.ok (.int .i64 (M t:Int)) u∧∃ w',(Instr.mapUpdate 70 (.map (some m)) (.string (e_ t)) (.int .i64 ((M t:Int)+1))).run Tryz.prog u=.ok () w'∧w'.cell? ⟨p,0,none⟩=some (.map (some m))∧(Instr.lookup 70 (.map (some m)) (.string (e_ t)) false).run Tryz.prog w'=.ok (.int .i64 ((M t:Int)+1)) w'∧OwnMc w' m (n+1) (c3b M t)∧Kept (f_ m) w w'):=hid (fun u hu=>by
   have hMu:=hM.keep (F:=a7z) (Kept.of_below hu) id;have hpu:=d_ hu hp;obtain ⟨w',hr,hO,hk⟩:=hMu.put t (M t+1) ht (by omega);have hk':Kept (f_ m) w w':=(Kept.of_below hu (F:=f_ m)).trans hk;refine ⟨hpu,hMu.look1 t ht,w',hr,hk'.cell hp hplt hpm,?_,hO,hk'⟩
   have:=hO.look1 t ht
   rw [if_pos rfl] at this;exact this)
  have hz:((M t:Int)+1 == 1)=decide (M t=0):=by
   by_cases h:M t=0
   · rw [h];rfl
   · rw [decide_eq_false h,beq_eq_false_iff_ne];omega
  have hbz:(M t:Int)≤1000:=by omega
  have hb0:(0:Int)≤(M t:Int):=by omega
  clear hM hp;generalize c3b M t=M' at *;generalize e_ t=S at *;generalize decide (M t=0)=D at *;generalize (M t:Int)=c at *;go_enter Tryz.func141,Tryz.ntmps141
  go_wp2_with (first
   | (go_at_call 142;refine GS.out.mono ?_;clear GS;rintro e w1 ⟨rfl,hc1⟩;obtain ⟨z0,z1,w2,z2,z3,z4,hO,hk⟩:=H1.out w1 hc1;have hO:=hid hO;have hk:=hid hk;clear hc1 H1))
  go_ret;exact ⟨fun h=>absurd h (by decide),fun _=>⟨by first | rfl | (rw [hz];rfl),hO.out,hk.out⟩⟩
def a5u (l:List Txt) (k:Nat):Txt→Nat:=fun x=>(l.take k).count x
theorem b4F {l:List Txt} {k:Nat} (hk:k<l.length):a5u l (k+1)=c3b (a5u l k) l[k]:=by
 funext x
 unfold a5u c3b;rw [List.take_add_one,List.getElem?_eq_getElem hk,Option.toList_some,List.count_append];by_cases e:x=l[k]
 · rw [if_pos e,e]
   simp
 · rw [if_neg e]
   rw [List.count_eq_zero_of_not_mem (show x ∉ [l[k]] by simpa using e),Nat.add_zero]
theorem b4E (l:List Txt):a5u l 0=fun _=>0:=by funext x;unfold a5u;simp
theorem c0t (l:List Txt) (k:Nat) (t:Txt):a5u l k t≤k:=Nat.le_trans List.count_le_length (by rw [List.length_take];omega)
theorem b7l {l:List Txt} {k:Nat} (hk:k<l.length) (h:a5u l k l[k]≠0):∃ j,∃ hj:j<k,l[j]'(by omega)=l[k]:=by
 unfold a5u at h;have hm:l[k]∈l.take k:=List.count_pos_iff.1 (by omega);obtain ⟨j,hj,e⟩:=List.getElem_of_mem hm;rw [List.length_take] at hj;refine ⟨j,by omega,?_⟩;rw [← e,List.getElem_take]
theorem b4G {l:List Txt} {k:Nat} (hk:k<l.length) (h:a5u l k l[k]=0):∀ j (hj:j<k),l[j]'(by omega)≠l[k]:=fun j hj e=>by
 unfold a5u at h
 have hm:l[k]∈l.take k:=by
  rw [← e];rw [List.mem_take_iff_getElem];exact ⟨j,by omega,rfl⟩
 have:=List.count_pos_iff.2 hm
 omega
def a1O (g:Gm):Bool:=g.allN.all a0V && decide g.allN.Nodup
theorem b1p {g:Gm} {k:Nat} (hk:k<g.allN.length) (h:a0V g.allN[k]=false):a1O g=false:=by
 unfold a1O
 have:g.allN.all a0V=false:=by
  rw [List.all_eq_false];exact ⟨_,List.getElem_mem hk,by rw [h];decide⟩
 rw [this,Bool.false_and]
theorem b1o {g:Gm} {k i:Nat} (hi:i<g.allN.length) (hk:k<i) (h:g.allN[k]'(by omega)=g.allN[i]):a1O g=false:=by
 unfold a1O
 have:decide g.allN.Nodup=false:=decide_eq_false fun hn=>by
  have:=List.pairwise_iff_getElem.1 hn k i (by omega) hi hk
  exact this h
 rw [this,Bool.and_false]
theorem b6o {g:Gm} (h2:∀ k (hk:k<g.allN.length),a0V g.allN[k]=true) (h3:∀ k i (hi:i<g.allN.length) (hk:k<i),g.allN[k]'(by omega)≠g.allN[i]):a1O g=true:=by
 unfold a1O
 have e2:g.allN.all a0V=true:=by
  rw [List.all_eq_true];intro r hr;obtain ⟨k,hk,rfl⟩:=List.getElem_of_mem hr;exact h2 k hk
 have e3:decide g.allN.Nodup=true:=decide_eq_true (List.pairwise_iff_getElem.2 fun k i hk hi hki=>h3 k i hi hki);rw [e2,e3];rfl
structure NmI3 (g:Gm) (k:Nat):Prop where
 named:∀ j (hj:j<g.allN.length),j<k→a0V g.allN[j]=true
 once:∀ i j (hj:j<g.allN.length) (hi:i<j),j<k→g.allN[i]'(by omega)≠g.allN[j]
theorem NmI3.succ {g:Gm} {k:Nat} (h:NmI3 g k) (hk:k<g.allN.length) (h1:a0V g.allN[k]=true) (h2:a5u g.allN k g.allN[k]=0):NmI3 g (k+1) where
 named j hj h9:=by
  rcases Nat.lt_or_ge j k with h8 | h8
  · exact h.named j hj h8
  · obtain rfl:j=k:=by omega
    exact h1
 once i j hj hi h9:=by
  rcases Nat.lt_or_ge j k with h8 | h8
  · exact h.once i j hj hi h8
  · obtain rfl:j=k:=by omega
    exact b4G hk h2 i hi
theorem NmI3.all {g:Gm} (h:NmI3 g g.allN.length):a1O g=true:=b6o (fun k hk=>h.named k hk hk) (fun k i hi hk=>h.once k i hi hk hi)
def b6q (g:Gm) (k:Nat):Bool:=a0V (g.allN.getD k []) && decide (a5u g.allN k (g.allN.getD k [])=0)
set_option maxRecDepth 20000 in
theorem c3N (g:Gm) (k:Nat) (hk:k<g.allN.length) (hl:g.allN.length≤1000) (p m:Nat) (w:World) (hp:w.cell? ⟨p,0,none⟩=some (.map (some m))) (hplt:p<w.heap.size) (hpm:p≠m) (hM:OwnMc w m k (a5u g.allN k)) (ht:g.allN[k].length≤1000000) (hI:NmI3 g k) :
 Calls Tryz.prog 141 #[.string (e_ g.allN[k]),r_ p] w fun e w'=>e=.returned (.bool (b6q g k))∧Kept (f_ m) w w'∧(b6q g k=false→a1O g=false)∧(b6q g k=true→OwnMc w' m (k+1) (a5u g.allN (k+1))∧NmI3 g (k+1)):=by
 have hle:=c0t g.allN k g.allN[k];refine (b9r g.allN[k] p m k (a5u g.allN k) w hp hplt hpm hM ht (by omega) (by omega)).mono (fun e w' h=>?_);have hg:g.allN.getD k []=g.allN[k]:=by rw [List.getD_eq_getElem?_getD,List.getElem?_eq_getElem hk];rfl
 unfold b6q;rw [hg];cases hb:a0V g.allN[k] with
 | false =>
  obtain ⟨h1,h2⟩:=h.1 hb;exact ⟨h1,Kept.of_below h2,fun _=>b1p hk hb,fun h=>absurd h (by rw [Bool.false_and];decide)⟩
 | true =>
  obtain ⟨h1,h2,h3⟩:=h.2 hb;rw [Bool.true_and];refine ⟨h1,h3,fun h9=>?_,fun h9=>?_⟩
  · obtain ⟨j,hj,e⟩:=b7l hk (of_decide_eq_false h9)
    exact b1o hk hj e
  · rw [b4F hk]
    exact ⟨h2,hI.succ hk hb (of_decide_eq_true h9)⟩
theorem b5c {g:Gm} {k:Nat} (hk:k<g.rules.length):∃ h:k<g.allN.length,g.allN[k]=g.rules[k].name:=by
 have h:k<g.allN.length:=by unfold Gm.allN;rw [List.length_append,List.length_map];omega
 have e:g.allN[k]?=some g.rules[k].name:=by
  unfold Gm.allN;rw [List.getElem?_append_left (by rw [List.length_map];exact hk),List.getElem?_map,List.getElem?_eq_getElem hk];rfl
 exact ⟨h,Option.some.inj ((List.getElem?_eq_getElem h).symm.trans e)⟩
theorem b5d {g:Gm} {k r:Nat} (hk:k<g.nonts.length) (hr:g.rules.length=r):∃ h:r+k<g.allN.length,g.allN[r+k]=g.nonts[k]:=by
 subst hr;have h:g.rules.length+k<g.allN.length:=by unfold Gm.allN;rw [List.length_append,List.length_map];omega
 have e:g.allN[g.rules.length+k]?=some g.nonts[k]:=by
  unfold Gm.allN;rw [List.getElem?_append_right (by rw [List.length_map];omega),List.length_map,Nat.add_sub_cancel_left,List.getElem?_eq_getElem hk]
 exact ⟨h,Option.some.inj ((List.getElem?_eq_getElem h).symm.trans e)⟩
theorem b0M (g:Gm):g.allN.length=g.rules.length+g.nonts.length:=by unfold Gm.allN;rw [List.length_append,List.length_map]
set_option maxRecDepth 20000 in
set_option maxHeartbeats 16000000 in
theorem c1K (rv nv lv pv:Value) (g:Gm) (st:Int) (w:World) (hV:GmV w rv nv lv pv g) (hl:g.rules.length≤400) (hl2:g.nonts.length≤400) (hnl:∀ t∈g.allN,t.length≤1000000) :
 Calls Tryz.prog 93 #[gmA rv nv lv pv st] w fun e w'=>e=.returned (.bool (a1O g))∧Below w.heap.size w w':=by
 obtain ⟨ra,rc,rfl⟩:=hV.rules.shape;obtain ⟨na,nc,rfl⟩:=hV.nonts.shape;obtain ⟨W1,hW1⟩:∃ x,w.alloc (.cells #[.slice ra g.rules.length rc,.slice na g.nonts.length nc,lv,pv,.int .i64 st] 27)=x:=⟨_,rfl⟩;have hB1:Below w.heap.size w W1:=by rw [← hW1];exact al' w _
 have k1:W1.heap[w.heap.size]?=some (.cells #[.slice ra g.rules.length rc,.slice na g.nonts.length nc,lv,pv,.int .i64 st] 27):=by rw [← hW1];exact b_ w _
 have z1:W1.heap.size=w.heap.size+1:=by rw [← hW1];exact World.size_alloc ..
 obtain ⟨W2,hW2⟩:∃ x,W1.alloc (.map #[] 0)=x:=⟨_,rfl⟩;have hmm:(Instr.makeMap 70 none).run Tryz.prog W1=.ok (.map (some W1.heap.size)) W2:=by rw [← hW2];rfl
 have hB2:Below W1.heap.size W1 W2:=by rw [← hW2];exact al' W1 _
 have z2:W2.heap.size=W1.heap.size+1:=by rw [← hW2];exact World.size_alloc ..
 have hM2:OwnMc W2 W1.heap.size 0 (fun _=>0):=by rw [← hW2];exact OwnMc.made W1
 obtain ⟨W,hW⟩:∃ x,W2.alloc (.cells #[.map (some W1.heap.size)] 70)=x:=⟨_,rfl⟩;have hB3:Below W2.heap.size W2 W:=by rw [← hW];exact al' W2 _
 have z3:W.heap.size=W2.heap.size+1:=by rw [← hW];exact World.size_alloc ..
 have c3:W.cell? ⟨W2.heap.size,0,none⟩=some (.map (some W1.heap.size)):=c_ (by rw [← hW];exact b_ W2 _) rfl;have hB:Hid (Below w.heap.size w W):=hid (a_ (a_ hB1 hB2) hB3);have k3:=g_ k1 (a_ hB2 hB3);have hM0:Hid (OwnMc W W1.heap.size 0 (a5u g.allN 0)):=hid (by rw [b4E];exact hM2.keep (F:=a7z) (Kept.of_below hB3) id);have x0:W.cell? ⟨w.heap.size,0,none⟩=some (.slice ra g.rules.length rc):=c_ k3 rfl;have x1:W.cell? ⟨w.heap.size,1,none⟩=some (.slice na g.nonts.length nc):=c_ k3 rfl;have hlow:Hid (∀ u,Kept (f_ W1.heap.size) W u→Below w.heap.size w u):=hid (fun u hu=>hB.out.trans (hu.below (fun k e=>by rw [show k=W1.heap.size from e];omega) (by omega)))
 have hKr:Hid (∀ u,Kept (f_ W1.heap.size) W u→∀ k (hk:k<g.rules.length),∃ b o q1 q2 q3,ra=some ⟨b,o,none⟩∧u.cell? ⟨b,o+k * 3,none⟩=some (.string (e_ g.rules[k].name))∧u.cell? ⟨b,o+k * 3+1,none⟩=some (.slice q1 q2 q3)∧u.cell? ⟨b,o+k * 3+2,none⟩=some (.bool g.rules[k].skip)):=hid (fun u hu k hk=>by
  obtain ⟨b,o,e,-,v,h0,h1,h2,hN⟩:=(hV.keep (hlow.out u hu)).rules.at hk;obtain ⟨q1,q3,rfl,-⟩:=id hN;exact ⟨b,o,q1,_,q3,e,h0,h1,h2⟩)
 have hKn:Hid (∀ u,Kept (f_ W1.heap.size) W u→∀ k (hk:k<g.nonts.length),∃ b o,na=some ⟨b,o,none⟩∧u.cell? ⟨b,o+k,none⟩=some (.string (e_ g.nonts[k]))):=hid (fun u hu k hk=>by
  obtain ⟨b,o,e,-,h0⟩:=(hV.keep (hlow.out u hu)).nonts.at hk;rw [Nat.mul_one] at h0;exact ⟨b,o,e,h0⟩)
 have hx1:Hid (∀ u,Kept (f_ W1.heap.size) W u→u.cell? ⟨w.heap.size,1,none⟩=some (.slice na g.nonts.length nc)):=hid (fun u hu=>hu.cell x1 (by omega) (fun e=>by have:w.heap.size=W1.heap.size:=e;omega))
 have hcall:Hid (∀ u,Kept (f_ W1.heap.size) W u→∀ k (hk:k<g.allN.length),OwnMc u W1.heap.size k (a5u g.allN k)→NmI3 g k→∀ u',Below u.heap.size u u'→Calls Tryz.prog 141 #[.string (e_ g.allN[k]),r_ W2.heap.size] u' fun e w'=>e=.returned (.bool (b6q g k))∧Kept (f_ W1.heap.size) W w'∧(b6q g k=false→a1O g=false)∧(b6q g k=true→OwnMc w' W1.heap.size (k+1) (a5u g.allN (k+1))∧NmI3 g (k+1))):=hid (fun u hu k hk hO hI u' hu'=>by
  have hk':Kept (f_ W1.heap.size) W u':=hu.trans (Kept.of_below hu');have hc:u'.cell? ⟨W2.heap.size,0,none⟩=some (.map (some W1.heap.size)):=hk'.cell c3 (by omega) (fun e=>by have:W2.heap.size=W1.heap.size:=e;omega);refine (c3N g k hk (by rw [b0M];omega) W2.heap.size W1.heap.size u' hc (Nat.lt_of_lt_of_le (by omega) hk'.size) (by omega) (hO.keep (F:=a7z) (Kept.of_below hu') id) (hnl _ (List.getElem_mem hk)) hI).mono (fun e w'=>?_);rintro ⟨h1,h2,h3,h4⟩;exact ⟨h1,hk'.trans h2,h3,h4⟩)
 have hI0:Hid (NmI3 g 0):=hid ⟨fun _ _ h=>absurd h (Nat.not_lt_zero _),fun _ _ _ _ h=>absurd h (Nat.not_lt_zero _)⟩;have hall:=hid (fun h=>NmI3.all (g:=g) h);have hln:=hid (b0M g);generalize a1O g=R at *;obtain ⟨rn,hrn⟩:∃ n,Hid (g.rules.length=n):=⟨_,hid rfl⟩;obtain ⟨nn,hnn⟩:∃ n,Hid (g.nonts.length=n):=⟨_,hid rfl⟩;rw [hrn.out] at hl hW1 x0 ⊢;rw [hnn.out] at hl2 hW1 x1 hx1 ⊢;generalize W1.heap.size=m at *;clear hV hB1 k1 hB2 hB3 hM2 z1 z2 z3 c3 k3 hnl hW2;go_enter Tryz.func93,Tryz.ntmps93
 go_wp2;clear hW hW1 hmm x0 x1;go_loopw [14] (fun i wr=>∃ k:Nat,k≤rn∧i=.int .i64 (k:Int)∧Hid (OwnMc wr m k (a5u g.allN k))∧Hid (NmI3 g k)∧Hid (Kept (f_ m) W wr)) (fun i _=>rn - (intOf i).toNat)
 case atStart=>exact ⟨0,Nat.zero_le _,rfl,hM0,hI0,hid (Kept.refl _ _)⟩
 case round =>
  obtain ⟨k,hk,rfl,hO,hI,hbl⟩:=hrel;by_cases hlt:k<rn
  · have hltz:(k:Int)<(rn:Int):=by omega
    have hkl:k<g.rules.length:=by rw [hrn.out];exact hlt
    obtain ⟨b,o,q1,q2,q3,rfl,c0,c1,c2⟩:=hKr.out wr hbl.out k hkl;obtain ⟨hka,hke⟩:=b5c hkl;have G:=hcall.out wr hbl.out k hka hO.out hI.out _ (al' wr (.cells #[.string (e_ g.rules[k].name),.slice q1 q2 q3,.bool g.rules[k].skip] 62));rw [hke] at G;clear hka hke hO hI hbl;generalize e_ g.rules[k].name=v1 at *;generalize g.rules[k].skip=v3 at *;cases hb:b6q g (k) with
    | true =>
     rw [hb] at G;have G:=hid G;clear hb;go_wp2_with (go_at_call 141;refine G.out.mono ?_;clear G;rintro e w4 ⟨rfl,hk4,-,ht4⟩;obtain ⟨hO4,hI4⟩:=ht4 rfl;have hk4:=hid hk4;have hO4:=hid hO4;have hI4:=hid hI4;clear ht4)
     go_roundw
     case rel=>exact ⟨k+1,by omega,by go_num,hO4,hI4,hk4⟩
     case measure=>simp [intOf];omega
    | false =>
     rw [hb] at G;have G:=hid G;clear hb;go_wp2_with (go_at_call 141;refine G.out.mono ?_;clear G;rintro e w4 ⟨rfl,hk4,hf4,-⟩;obtain rfl:=hf4 rfl;have hk4:=hid hk4;clear hf4)
     go_ret;exact ⟨rfl,hlow.out _ hk4.out⟩
  · have hltz:¬ (k:Int)<(rn:Int):=by omega
    obtain rfl:k=rn:=by omega
    have y1:=hx1.out wr hbl.out;go_wp2;clear hltz hlt hk y1 hKr;obtain ⟨wo,hwo⟩:∃ x,x=wr:=⟨_,rfl⟩;subst hwo;go_loopw [27] (fun i wr=>∃ j:Nat,j≤nn∧i=.int .i64 (j:Int)∧Hid (OwnMc wr m (k+j) (a5u g.allN (k+j)))∧Hid (NmI3 g (k+j))∧Hid (Kept (f_ m) W wr)) (fun i _=>nn - (intOf i).toNat)
    case atStart=>exact ⟨0,Nat.zero_le _,rfl,hO,hI,hbl⟩
    case round =>
     obtain ⟨j,hj,rfl,hO',hI',hbl'⟩:=hrel;by_cases hlt:j<nn
     · have hltz:(j:Int)<(nn:Int):=by omega
       have hjl:j<g.nonts.length:=by rw [hnn.out];exact hlt
       obtain ⟨b,o,rfl,c0⟩:=hKn.out wr hbl'.out j hjl;obtain ⟨hka,hke⟩:=b5d hjl hrn.out;have G:=hcall.out wr hbl'.out (k+j) hka hO'.out hI'.out _ (Below.refl _ _);rw [hke] at G;clear hka hke hO' hI' hbl';generalize e_ g.nonts[j]=v1 at *;cases hb:b6q g (k+j) with
       | true =>
        rw [hb] at G;have G:=hid G;clear hb;go_wp2_with (go_at_call 141;refine G.out.mono ?_;clear G;rintro e w4 ⟨rfl,hk4,-,ht4⟩;obtain ⟨hO4,hI4⟩:=ht4 rfl;have hk4:=hid hk4;have hO4:=hid hO4;have hI4:=hid hI4;clear ht4)
        go_roundw
        case rel=>exact ⟨j+1,by omega,by go_num,hO4,hI4,hk4⟩
        case measure=>simp [intOf];omega
       | false =>
        rw [hb] at G;have G:=hid G;clear hb;go_wp2_with (go_at_call 141;refine G.out.mono ?_;clear G;rintro e w4 ⟨rfl,hk4,hf4,-⟩;obtain rfl:=hf4 rfl;have hk4:=hid hk4;clear hf4)
        go_ret;exact ⟨rfl,hlow.out _ hk4.out⟩
     · have hltz:¬ (j:Int)<(nn:Int):=by omega
       obtain rfl:j=nn:=by omega
       obtain rfl:=hall.out (by rw [hln.out,hrn.out,hnn.out];exact hI'.out);go_wp2;go_ret;exact ⟨rfl,hlow.out _ hbl'.out⟩
theorem a4b (g:Gm):SndG g↔a7g g=true∧(g.rules.all fun r=>v_ r.re)=true∧a1O g=true∧a4L g=true∧a3Z g=true∧g.prods.all (pdB g)=true:=by
 have hlv:a4L g=true↔LevOK g:=⟨fun h=>Classical.byContradiction fun hn=>(by rw [b0c hn] at h;cases h),a7G⟩;rw [hlv];unfold a7g a1O;simp only [Bool.and_eq_true,decide_eq_true_eq,List.all_eq_true]
 constructor
 · intro h
   refine ⟨⟨⟨h.rules,h.nonts⟩,h.prods⟩,h.right,⟨h.named,h.once⟩,⟨h.levels,h.lev⟩,?_,h.prod⟩;unfold a3Z;split
   · rename_i h0
     exact decide_eq_true (h.none h0)
   · rename_i h0
     have:=h.start (by omega)
     unfold b1n;rw [decide_eq_true this.1,decide_eq_true this.2];rfl
 · rintro ⟨⟨⟨h1,h2⟩,h3⟩,h4,⟨h5,h6⟩,h7,h8,h9⟩
   unfold a3Z at h8;refine ⟨h1,h2,h3,h4,h5,h6,h7.len,h7.lev,fun h0=>?_,fun h0=>?_,h9⟩
   · rw [if_pos h0] at h8
     exact of_decide_eq_true h8
   · rw [if_neg (by omega)] at h8
     unfold b1n at h8;rw [Bool.and_eq_true] at h8;exact ⟨of_decide_eq_true h8.1,of_decide_eq_true h8.2⟩
theorem b2q (g:Gm):a1q g=(a7g g && (g.rules.all fun r=>v_ r.re) && a1O g && a4L g && a3Z g && g.prods.all (pdB g)):=by
 by_cases h:SndG g
 · rw [a2P h]
   obtain ⟨h1,h2,h3,h4,h5,h6⟩:=(a4b g).1 h;rw [h1,h2,h3,h4,h5,h6];rfl
 · rw [Q_ h]
   symm
   refine Bool.eq_false_iff.2 fun h9=>h ((a4b g).2 ?_)
   simp only [Bool.and_eq_true] at h9;exact ⟨h9.1.1.1.1.1,h9.1.1.1.1.2,h9.1.1.1.2,h9.1.1.2,h9.1.2,h9.2⟩
set_option maxRecDepth 20000 in
set_option maxHeartbeats 16000000 in
theorem c1h (g:Gm) (rv nv lv pv:Value) (w:World) (hV:GmV w rv nv lv pv g) (hb:BndG g) (hnl:∀ t∈g.allN,t.length≤1000000) :
 Calls Tryz.prog 67 #[gmA rv nv lv pv g.start] w fun e w'=>e=.returned (.bool (a1q g))∧Below w.heap.size w w':=by
 have hB1:=al' w (.cells #[rv,nv,lv,pv,.int .i64 g.start] 27);have k1:=b_ w (.cells #[rv,nv,lv,pv,.int .i64 g.start] 27);obtain ⟨W,hW⟩:∃ x,w.alloc (.cells #[rv,nv,lv,pv,.int .i64 g.start] 27)=x:=⟨_,rfl⟩;rw [hW] at hB1 k1;have hB:=hid hB1;have hk1:=hid (fun u (hu:Below W.heap.size W u)=>l_ (g_ k1 hu));have hr:=hb.rules;have hn:=hb.nonts;have hlv:=hb.levels;have hpr:=hb.prods;have G0:=hid (fun u (hu:Below W.heap.size W u)=>c3x rv nv lv pv g g.start u (hV.keep (a_ hB1 hu)));have G1:=hid (fun u (hu:Below W.heap.size W u)=>c1p rv nv lv pv g g.start u (hV.keep (a_ hB1 hu)) hr)
 have G2:Hid (a7g g=true→∀ u (_:Below W.heap.size W u),Calls Tryz.prog 93 #[gmA rv nv lv pv g.start] u fun e w'=>e=.returned (.bool (a1O g))∧Below u.heap.size u w'):=hid (fun hs u hu=>by
  unfold a7g at hs;simp only [Bool.and_eq_true,decide_eq_true_eq] at hs;exact c1K rv nv lv pv g g.start u (hV.keep (a_ hB1 hu)) (by omega) (by omega) hnl)
 have G3:=hid (fun u (hu:Below W.heap.size W u)=>b9J rv nv lv pv g g.start u (hV.keep (a_ hB1 hu)) hr hlv);have G4:=hid (fun u (hu:Below W.heap.size W u)=>b8H rv nv lv pv g u (hV.keep (a_ hB1 hu)) hr hn);have G5:=hid (fun u (hu:Below W.heap.size W u)=>c1z rv nv lv pv g g.start u (hV.keep (a_ hB1 hu)) hb hr hn hpr);obtain ⟨x0,x1,x2,x3,x4⟩:=hk1.out W (Below.refl _ _);rw [b2q];have hcells:Hid (Below W.heap.size W W):=hid (Below.refl _ _);clear hV hB1 k1 hb hnl hr hn hlv hpr;generalize g.start=st at *;generalize a7g g=B0 at *;generalize (g.rules.all fun r=>v_ r.re)=B1 at *;generalize a1O g=B2 at *;generalize a4L g=B3 at *;generalize a3Z g=B4 at *;generalize g.prods.all (pdB g)=B5 at *;cases B0 with
 | false =>
  go_enter Tryz.func67,Tryz.ntmps67
  go_wp2_with (first
   | (go_at_call 91;refine (G0.out _ hcells.out).mono ?_;clear G0;rintro e w1 ⟨rfl,hc1⟩;have h1:=hid (a_ hcells.out hc1);obtain ⟨y0a,y0b,y0c,y0d,y0e⟩:=hk1.out w1 h1.out;clear hc1))
  go_ret;exact ⟨by simp,a_ hB.out h1.out⟩
 | true =>
  have GX:=hid (fun u (hu:Below W.heap.size W u)=>G2.out rfl u hu);clear G2;cases B1 with
  | false =>
   go_enter Tryz.func67,Tryz.ntmps67
   go_wp2_with (first
    | (go_at_call 91;refine (G0.out _ hcells.out).mono ?_;clear G0;rintro e w1 ⟨rfl,hc1⟩;have h1:=hid (a_ hcells.out hc1);obtain ⟨y0a,y0b,y0c,y0d,y0e⟩:=hk1.out w1 h1.out;clear hc1)
    | (go_at_call 92;refine (G1.out _ h1.out).mono ?_;clear G1;rintro e w2 ⟨rfl,hc2⟩;have h2:=hid (a_ h1.out hc2);obtain ⟨y1a,y1b,y1c,y1d,y1e⟩:=hk1.out w2 h2.out;clear hc2))
   go_ret;exact ⟨by simp,a_ hB.out h2.out⟩
  | true =>
   cases B2 with
   | false =>
    go_enter Tryz.func67,Tryz.ntmps67
    go_wp2_with (first
     | (go_at_call 91;refine (G0.out _ hcells.out).mono ?_;clear G0;rintro e w1 ⟨rfl,hc1⟩;have h1:=hid (a_ hcells.out hc1);obtain ⟨y0a,y0b,y0c,y0d,y0e⟩:=hk1.out w1 h1.out;clear hc1)
     | (go_at_call 92;refine (G1.out _ h1.out).mono ?_;clear G1;rintro e w2 ⟨rfl,hc2⟩;have h2:=hid (a_ h1.out hc2);obtain ⟨y1a,y1b,y1c,y1d,y1e⟩:=hk1.out w2 h2.out;clear hc2)
     | (go_at_call 93;refine (GX.out _ h2.out).mono ?_;clear GX;rintro e w3 ⟨rfl,hc3⟩;have h3:=hid (a_ h2.out hc3);obtain ⟨y2a,y2b,y2c,y2d,y2e⟩:=hk1.out w3 h3.out;clear hc3))
    go_ret;exact ⟨by simp,a_ hB.out h3.out⟩
   | true =>
    cases B3 with
    | false =>
     go_enter Tryz.func67,Tryz.ntmps67
     go_wp2_with (first
      | (go_at_call 91;refine (G0.out _ hcells.out).mono ?_;clear G0;rintro e w1 ⟨rfl,hc1⟩;have h1:=hid (a_ hcells.out hc1);obtain ⟨y0a,y0b,y0c,y0d,y0e⟩:=hk1.out w1 h1.out;clear hc1)
      | (go_at_call 92;refine (G1.out _ h1.out).mono ?_;clear G1;rintro e w2 ⟨rfl,hc2⟩;have h2:=hid (a_ h1.out hc2);obtain ⟨y1a,y1b,y1c,y1d,y1e⟩:=hk1.out w2 h2.out;clear hc2)
      | (go_at_call 93;refine (GX.out _ h2.out).mono ?_;clear GX;rintro e w3 ⟨rfl,hc3⟩;have h3:=hid (a_ h2.out hc3);obtain ⟨y2a,y2b,y2c,y2d,y2e⟩:=hk1.out w3 h3.out;clear hc3)
      | (go_at_call 94;refine (G3.out _ h3.out).mono ?_;clear G3;rintro e w4 ⟨rfl,hc4⟩;have h4:=hid (a_ h3.out hc4);obtain ⟨y3a,y3b,y3c,y3d,y3e⟩:=hk1.out w4 h4.out;clear hc4))
     go_ret;exact ⟨by simp,a_ hB.out h4.out⟩
    | true =>
     cases B4 with
     | false =>
      go_enter Tryz.func67,Tryz.ntmps67
      go_wp2_with (first
       | (go_at_call 91;refine (G0.out _ hcells.out).mono ?_;clear G0;rintro e w1 ⟨rfl,hc1⟩;have h1:=hid (a_ hcells.out hc1);obtain ⟨y0a,y0b,y0c,y0d,y0e⟩:=hk1.out w1 h1.out;clear hc1)
       | (go_at_call 92;refine (G1.out _ h1.out).mono ?_;clear G1;rintro e w2 ⟨rfl,hc2⟩;have h2:=hid (a_ h1.out hc2);obtain ⟨y1a,y1b,y1c,y1d,y1e⟩:=hk1.out w2 h2.out;clear hc2)
       | (go_at_call 93;refine (GX.out _ h2.out).mono ?_;clear GX;rintro e w3 ⟨rfl,hc3⟩;have h3:=hid (a_ h2.out hc3);obtain ⟨y2a,y2b,y2c,y2d,y2e⟩:=hk1.out w3 h3.out;clear hc3)
       | (go_at_call 94;refine (G3.out _ h3.out).mono ?_;clear G3;rintro e w4 ⟨rfl,hc4⟩;have h4:=hid (a_ h3.out hc4);obtain ⟨y3a,y3b,y3c,y3d,y3e⟩:=hk1.out w4 h4.out;clear hc4)
       | (go_at_call 95;refine (G4.out _ h4.out).mono ?_;clear G4;rintro e w5 ⟨rfl,hc5⟩;have h5:=hid (a_ h4.out hc5);obtain ⟨y4a,y4b,y4c,y4d,y4e⟩:=hk1.out w5 h5.out;clear hc5))
      go_ret;exact ⟨by simp,a_ hB.out h5.out⟩
     | true =>
      cases B5 with
      | false =>
       go_enter Tryz.func67,Tryz.ntmps67
       go_wp2_with (first
        | (go_at_call 91;refine (G0.out _ hcells.out).mono ?_;clear G0;rintro e w1 ⟨rfl,hc1⟩;have h1:=hid (a_ hcells.out hc1);obtain ⟨y0a,y0b,y0c,y0d,y0e⟩:=hk1.out w1 h1.out;clear hc1)
        | (go_at_call 92;refine (G1.out _ h1.out).mono ?_;clear G1;rintro e w2 ⟨rfl,hc2⟩;have h2:=hid (a_ h1.out hc2);obtain ⟨y1a,y1b,y1c,y1d,y1e⟩:=hk1.out w2 h2.out;clear hc2)
        | (go_at_call 93;refine (GX.out _ h2.out).mono ?_;clear GX;rintro e w3 ⟨rfl,hc3⟩;have h3:=hid (a_ h2.out hc3);obtain ⟨y2a,y2b,y2c,y2d,y2e⟩:=hk1.out w3 h3.out;clear hc3)
        | (go_at_call 94;refine (G3.out _ h3.out).mono ?_;clear G3;rintro e w4 ⟨rfl,hc4⟩;have h4:=hid (a_ h3.out hc4);obtain ⟨y3a,y3b,y3c,y3d,y3e⟩:=hk1.out w4 h4.out;clear hc4)
        | (go_at_call 95;refine (G4.out _ h4.out).mono ?_;clear G4;rintro e w5 ⟨rfl,hc5⟩;have h5:=hid (a_ h4.out hc5);obtain ⟨y4a,y4b,y4c,y4d,y4e⟩:=hk1.out w5 h5.out;clear hc5)
        | (go_at_call 96;refine (G5.out _ h5.out).mono ?_;clear G5;rintro e w6 ⟨rfl,hc6⟩;have h6:=hid (a_ h5.out hc6);obtain ⟨y5a,y5b,y5c,y5d,y5e⟩:=hk1.out w6 h6.out;clear hc6))
       go_ret;exact ⟨by simp,a_ hB.out h6.out⟩
      | true =>
       go_enter Tryz.func67,Tryz.ntmps67
       go_wp2_with (first
        | (go_at_call 91;refine (G0.out _ hcells.out).mono ?_;clear G0;rintro e w1 ⟨rfl,hc1⟩;have h1:=hid (a_ hcells.out hc1);obtain ⟨y0a,y0b,y0c,y0d,y0e⟩:=hk1.out w1 h1.out;clear hc1)
        | (go_at_call 92;refine (G1.out _ h1.out).mono ?_;clear G1;rintro e w2 ⟨rfl,hc2⟩;have h2:=hid (a_ h1.out hc2);obtain ⟨y1a,y1b,y1c,y1d,y1e⟩:=hk1.out w2 h2.out;clear hc2)
        | (go_at_call 93;refine (GX.out _ h2.out).mono ?_;clear GX;rintro e w3 ⟨rfl,hc3⟩;have h3:=hid (a_ h2.out hc3);obtain ⟨y2a,y2b,y2c,y2d,y2e⟩:=hk1.out w3 h3.out;clear hc3)
        | (go_at_call 94;refine (G3.out _ h3.out).mono ?_;clear G3;rintro e w4 ⟨rfl,hc4⟩;have h4:=hid (a_ h3.out hc4);obtain ⟨y3a,y3b,y3c,y3d,y3e⟩:=hk1.out w4 h4.out;clear hc4)
        | (go_at_call 95;refine (G4.out _ h4.out).mono ?_;clear G4;rintro e w5 ⟨rfl,hc5⟩;have h5:=hid (a_ h4.out hc5);obtain ⟨y4a,y4b,y4c,y4d,y4e⟩:=hk1.out w5 h5.out;clear hc5)
        | (go_at_call 96;refine (G5.out _ h5.out).mono ?_;clear G5;rintro e w6 ⟨rfl,hc6⟩;have h6:=hid (a_ h5.out hc6);obtain ⟨y5a,y5b,y5c,y5d,y5e⟩:=hk1.out w6 h6.out;clear hc6))
       go_ret;exact ⟨by simp,a_ hB.out h6.out⟩
end Go.Proofs.YtjgedijclkoemaaGreatDoor
