/- What the five laws of layer 17 share, part 31: no statement of its own. -/
import Derived.Test.YtjgedijclkoemaaGreatDoorJ23
namespace Go.Proofs.YtjgedijclkoemaaGreatDoor
open Go.RowKit Go.Maps Go.Sort
theorem StpV.shape {T:Nat→Nat} {w:World} {rb:Nat} {v:Value} {s:Stp} (h:StpV T w rb v s):∃ fn cp,v=.func fn #[] cp:=by
 rcases h with ⟨_,p,q,rfl,_⟩ | ⟨_,p,q,l,rfl,_⟩ | ⟨_,l,rfl,_⟩ | ⟨_,p,q,rfl,_⟩ | ⟨_,p,l,q,rfl,_⟩ | ⟨_,p,q,l,rfl,_⟩ <;> exact ⟨_,_,rfl⟩
set_option maxRecDepth 20000 in
set_option maxHeartbeats 4000000 in
theorem c0K {B rb:Nat} {T:Nat→Nat} {w:World} {X:RX} {st:RS} (h:RdV B T w rb X st) (s:Stp) (fv:Value) (hs:StpV T w rb fv s) (hn:st.later.length≤100000) :
 Calls Tryz.prog 130 #[r_ rb,wdA s.w,fv] w fun r w'=>r=.returned (.tuple #[])∧RdP B T w rb (st.thn s) w':=by
 obtain ⟨fn,cp,rfl⟩:=hs.shape;have hB1:=al' w (s_ s.w);have hv1:(w.alloc (s_ s.w)).heap[w.heap.size]?=some (s_ s.w):=b_ w _;obtain ⟨W,hW⟩:∃ x,w.alloc (s_ s.w)=x:=⟨_,rfl⟩;rw [hW] at hB1 hv1;have h1:=h.keep hB1;have hs1:=hs.keep (Chg.of_below hB1);have hbd:Below W.heap.size W W.drew:=(Below.refl _ W).drew;obtain ⟨a,c,w5,hrun,hbk,T',X',hR,hC⟩:=(h1.keep hbd).app_later s (.func fn #[] cp) (hs1.keep (Chg.of_below hbd)) hn;have hP:Hid (RdP B T w rb (st.thn s) (w5.setCell ⟨rb,15,none⟩ (.slice a (st.later.length+1) c))):=hid ⟨T',X',hR,(Chg.of_below (a_ hB1 hbd)).trans hC⟩;have hbl:W.drew.heap[rb]?=some (rdO X st.levels st.starts st.pl st.err):=g_ h1.blk hbd;have hb5:=hbk.trans hbl;have c5:w5.cell? ⟨rb,15,none⟩=some X.la:=c_ hb5 rfl;have f5:w5.frozen? ⟨rb,15,none⟩=false:=i_ hb5 15;have cd:W.drew.cell? ⟨rb,15,none⟩=some X.la:=c_ hbl rfl;have vd:=(rd3 (g_ hv1 hbd)).2.1;have hsd:W.drew.heap.size=W.heap.size:=rfl;rw [hsd] at hrun;have hwa:W.drew.alloc (.cells #[.int .i64 (s.w.2.1:Int),.func fn #[] cp] 131)=(W.alloc (.cells #[.int .i64 (s.w.2.1:Int),.func fn #[] cp] 131)).drew:=rfl;rw [hwa] at hrun;have hba:Below W.drew.heap.size W.drew (W.alloc (.cells #[.int .i64 (s.w.2.1:Int),.func fn #[] cp] 131)).drew:=al' W.drew _;have ca:=d_ hba cd;have va:=d_ hba vd;clear hba hwa hsd hb5 hbl hR hC hbk hbd hs1 h1 hB1 hs h hv1;generalize st.later.length=n at *;generalize st.thn s=st2 at *;generalize X.la=la at *;generalize s.w=H at *
 obtain ⟨hk,hp,ht⟩:=H;dsimp only at *;go_enter Tryz.func130,Tryz.ntmps130
 go_wp2_with fail
 apply S_
 case h =>
  intro rest
  go_region_law ((first
   | (refine M_ (by rfl) (.tmp 10) (.tmp 15) 106 (by rfl) _ _ (by rfl) (by rfl) hrun ?_)
   | fail))
  all_goals exact rest.out
 case pf =>
  go_wp2;go_end0
  exact ⟨rfl,hP.out⟩
set_option maxRecDepth 20000 in
set_option maxHeartbeats 4000000 in
theorem c4l {B rb:Nat} {T:Nat→Nat} {w:World} {X:RX} {st:RS} (h:RdV B T w rb X st) (x:Wd) (hn:st.skips.length≤100000) :
 Calls Tryz.prog 128 #[.pointer (some ⟨rb,8,none⟩),wdA x,.bool true] w fun r w'=>r=.returned (.tuple #[])∧RdP B T w rb (st.addW x true) w':=by
 have hB1:=al' w (s_ x);have hv1:(w.alloc (s_ x)).heap[w.heap.size]?=some (s_ x):=b_ w _;obtain ⟨W,hW⟩:∃ y,w.alloc (s_ x)=y:=⟨_,rfl⟩;rw [hW] at hB1 hv1;have h1:=h.keep hB1;have hbd:Below W.heap.size W W.drew:=(Below.refl _ W).drew;obtain ⟨a,c,w5,hrun,hbk,T',X',hR,hC⟩:=(h1.keep hbd).app_skips x hn;have hP:Hid (RdP B T w rb (st.addW x true) (w5.setCell ⟨rb,8,none⟩ (.slice a (st.skips.length+1) c))):=hid ⟨T',X',hR,(Chg.of_below (a_ hB1 hbd)).trans hC⟩;have hbl:W.drew.heap[rb]?=some (rdO X st.levels st.starts st.pl st.err):=g_ h1.blk hbd;have hb5:=hbk.trans hbl;have c5:w5.cell? ⟨rb,8,none⟩=some X.sk:=c_ hb5 rfl;have f5:w5.frozen? ⟨rb,8,none⟩=false:=i_ hb5 8;have cd:W.drew.cell? ⟨rb,8,none⟩=some X.sk:=c_ hbl rfl;obtain ⟨v0,v1,v2,-,-⟩:=rd3 (g_ hv1 hbd);have hsd:W.drew.heap.size=W.heap.size:=rfl;rw [hsd] at hrun;have hwa:W.drew.alloc (s_ x)=(W.alloc (s_ x)).drew:=rfl;rw [hwa] at hrun;have hba:Below W.drew.heap.size W.drew (W.alloc (s_ x)).drew:=al' W.drew _;have ca:=d_ hba cd;have a0:=d_ hba v0;have a1:=d_ hba v1;have a2:=d_ hba v2;clear hba hwa hsd hb5 hbl hR hC hbk hbd h1 hB1 h hv1;generalize st.skips.length=n at *;generalize st.addW x true=st2 at *;generalize X.sk=la at *;obtain ⟨hk,hp,ht⟩:=x;dsimp only at *;go_enter Tryz.func128,Tryz.ntmps128
 go_wp2_with fail
 apply S_
 case h =>
  intro rest
  go_region_law ((first
   | (refine M_ (by rfl) (.tmp 11) (.tmp 13) 86 (by rfl) _ _ (by rfl) (by rfl) hrun ?_)
   | fail))
  all_goals exact rest.out
 case pf =>
  go_wp2;go_end0
  exact ⟨rfl,hP.out⟩
set_option maxRecDepth 20000 in
set_option maxHeartbeats 4000000 in
theorem c4m {B rb:Nat} {T:Nat→Nat} {w:World} {X:RX} {st:RS} (h:RdV B T w rb X st) (x:Wd) (hn:st.terms.length≤100000) :
 Calls Tryz.prog 128 #[.pointer (some ⟨rb,8,none⟩),wdA x,.bool false] w fun r w'=>r=.returned (.tuple #[])∧RdP B T w rb (st.addW x false) w':=by
 have hB1:=al' w (s_ x);have hv1:(w.alloc (s_ x)).heap[w.heap.size]?=some (s_ x):=b_ w _;obtain ⟨W,hW⟩:∃ y,w.alloc (s_ x)=y:=⟨_,rfl⟩;rw [hW] at hB1 hv1;have h1:=h.keep hB1;have hbd:Below W.heap.size W W.drew:=(Below.refl _ W).drew;obtain ⟨a,c,w5,hrun,hbk,T',X',hR,hC⟩:=(h1.keep hbd).app_terms x hn;have hP:Hid (RdP B T w rb (st.addW x false) (w5.setCell ⟨rb,9,none⟩ (.slice a (st.terms.length+1) c))):=hid ⟨T',X',hR,(Chg.of_below (a_ hB1 hbd)).trans hC⟩;have hbl:W.drew.heap[rb]?=some (rdO X st.levels st.starts st.pl st.err):=g_ h1.blk hbd;have hb5:=hbk.trans hbl;have c5:w5.cell? ⟨rb,9,none⟩=some X.te:=c_ hb5 rfl;have f5:w5.frozen? ⟨rb,9,none⟩=false:=i_ hb5 9;have cd:W.drew.cell? ⟨rb,9,none⟩=some X.te:=c_ hbl rfl;obtain ⟨v0,v1,v2,-,-⟩:=rd3 (g_ hv1 hbd);have hsd:W.drew.heap.size=W.heap.size:=rfl;rw [hsd] at hrun;have hwa:W.drew.alloc (s_ x)=(W.alloc (s_ x)).drew:=rfl;rw [hwa] at hrun;have hba:Below W.drew.heap.size W.drew (W.alloc (s_ x)).drew:=al' W.drew _;have ca:=d_ hba cd;have a0:=d_ hba v0;have a1:=d_ hba v1;have a2:=d_ hba v2;clear hba hwa hsd hb5 hbl hR hC hbk hbd h1 hB1 h hv1;generalize st.terms.length=n at *;generalize st.addW x false=st2 at *;generalize X.te=la at *;obtain ⟨hk,hp,ht⟩:=x;dsimp only at *;go_enter Tryz.func128,Tryz.ntmps128
 go_wp2_with fail
 apply S_
 case h =>
  intro rest
  go_region_law ((first
   | (refine M_ (by rfl) (.tmp 21) (.tmp 23) 86 (by rfl) _ _ (by rfl) (by rfl) hrun ?_)
   | fail))
  all_goals exact rest.out
 case pf =>
  go_wp2;go_end0
  exact ⟨rfl,hP.out⟩
set_option maxRecDepth 20000 in
set_option maxHeartbeats 4000000 in
theorem c4o {B rb:Nat} {T:Nat→Nat} {w:World} {X:RX} {st:RS} (h:RdV B T w rb X st) (x:Wd) (hn:st.nons.length≤100000) :
 Calls Tryz.prog 137 #[.pointer (some ⟨rb,8,none⟩),wdA x] w fun r w'=>r=.returned (.tuple #[])∧RdP B T w rb (st.addO x) w':=by
 have hB1:=al' w (s_ x);have hv1:(w.alloc (s_ x)).heap[w.heap.size]?=some (s_ x):=b_ w _;obtain ⟨W,hW⟩:∃ y,w.alloc (s_ x)=y:=⟨_,rfl⟩;rw [hW] at hB1 hv1;have h1:=h.keep hB1;have hbd:Below W.heap.size W W.drew:=(Below.refl _ W).drew;obtain ⟨a,c,w5,hrun,hbk,T',X',hR,hC⟩:=(h1.keep hbd).app_nons x hn;have hP:Hid (RdP B T w rb (st.addO x) (w5.setCell ⟨rb,10,none⟩ (.slice a (st.nons.length+1) c))):=hid ⟨T',X',hR,(Chg.of_below (a_ hB1 hbd)).trans hC⟩;have hbl:W.drew.heap[rb]?=some (rdO X st.levels st.starts st.pl st.err):=g_ h1.blk hbd;have hb5:=hbk.trans hbl;have c5:w5.cell? ⟨rb,10,none⟩=some X.no:=c_ hb5 rfl;have f5:w5.frozen? ⟨rb,10,none⟩=false:=i_ hb5 10;have cd:W.drew.cell? ⟨rb,10,none⟩=some X.no:=c_ hbl rfl;obtain ⟨v0,v1,v2,-,-⟩:=rd3 (g_ hv1 hbd);have hsd:W.drew.heap.size=W.heap.size:=rfl;rw [hsd] at hrun;have hwa:W.drew.alloc (s_ x)=(W.alloc (s_ x)).drew:=rfl;rw [hwa] at hrun;have hba:Below W.drew.heap.size W.drew (W.alloc (s_ x)).drew:=al' W.drew _;have ca:=d_ hba cd;have a0:=d_ hba v0;have a1:=d_ hba v1;have a2:=d_ hba v2;clear hba hwa hsd hb5 hbl hR hC hbk hbd h1 hB1 h hv1;generalize st.nons.length=n at *;generalize st.addO x=st2 at *;generalize X.no=la at *;obtain ⟨hk,hp,ht⟩:=x;dsimp only at *;go_enter Tryz.func137,Tryz.ntmps137
 go_wp2_with fail
 apply S_
 case h =>
  intro rest
  go_region_law ((first
   | (refine M_ (by rfl) (.tmp 8) (.tmp 10) 86 (by rfl) _ _ (by rfl) (by rfl) hrun ?_)
   | fail))
  all_goals exact rest.out
 case pf =>
  go_wp2;go_end0
  exact ⟨rfl,hP.out⟩
set_option maxRecDepth 20000 in
theorem c4n {B rb:Nat} {T:Nat→Nat} {w:World} {X:RX} {st:RS} (h:RdV B T w rb X st) (x:Wd) (sk:Bool) (h1:st.skips.length≤100000) (h2:st.terms.length≤100000) :
 Calls Tryz.prog 128 #[.pointer (some ⟨rb,8,none⟩),wdA x,.bool sk] w fun r w'=>r=.returned (.tuple #[])∧RdP B T w rb (st.addW x sk) w':=by
 cases sk
 · exact c4m h x h2
 · exact c4l h x h1
theorem RdV.im {B rb b:Nat} {T:Nat→Nat} {w u:World} {X:RX} {st:RS} {o:Obj} (h:RdV B T w rb X st) (hb:w.heap.size≤b) (hu:u.heap[b]?=some o):Im T u b o:=⟨h.fresh hb,hu⟩
set_option maxRecDepth 20000 in
set_option maxHeartbeats 4000000 in
theorem c1H {B rb:Nat} {T:Nat→Nat} {w:World} {X:RX} {st:RS} (h:RdV B T w rb X st) (x:Wd) (hn:st.later.length≤100000) :
 Calls Tryz.prog 129 #[r_ rb,wdA x] w fun r w'=>r=.returned (.tuple #[])∧RdP B T w rb (st.once x) w':=by
 have hmf:∀ (fn:Fn) (first cap:Array Value) (w:World),(Instr.makeFunc fn first cap).run Tryz.prog w=.ok (.func fn first cap) w:=fun _ _ _ _=>rfl
 obtain ⟨W1,hW1⟩:∃ y,w.alloc (a3a rb)=y:=⟨_,rfl⟩;have hz1:W1.heap.size=w.heap.size+1:=by rw [← hW1];exact World.size_alloc ..
 have hB1:Below w.heap.size w W1:=by rw [← hW1];exact al' w _
 have hp1:W1.heap[w.heap.size]?=some (a3a rb):=by rw [← hW1];exact b_ w _
 obtain ⟨W2,hW2⟩:∃ y,W1.alloc (s_ x)=y:=⟨_,rfl⟩;have hB2:Below W1.heap.size W1 W2:=by rw [← hW2];exact al' W1 _
 have hq2:W2.heap[w.heap.size+1]?=some (s_ x):=by rw [← hW2,← hz1];exact b_ W1 _
 have hB:=a_ hB1 hB2;have hp2:=g_ hp1 hB2;have h2:=h.keep hB;have G:=c0K h2 ⟨1,x,0,0⟩ (.func (.func 169) #[] #[r_ w.heap.size,r_ (w.heap.size+1)]) (.inl ⟨rfl,_,_,rfl,h.im (Nat.le_refl _) hp2,h.im (by omega) hq2⟩) hn;have G:=hid (G.mono (R':=fun r w'=>r=.returned (.tuple #[])∧RdP B T w rb (st.once x) w') (fun r w' ⟨e,T',X',hr,hc⟩=>⟨e,T',X',hr,(Chg.of_below hB).trans hc⟩));have y0:W2.cell? ⟨w.heap.size,0,none⟩=some (r_ rb):=c_ hp2 rfl;obtain ⟨v0,v1,v2,-,-⟩:=rd3 hq2;clear h2 hB hB1 hB2 hp1 hp2 hq2 h;generalize st.once x=st2 at *;obtain ⟨hk,hp,ht⟩:=x
 try dsimp only at *
 go_enter Tryz.func129,Tryz.ntmps129
 go_wp2_with (go_at_call 130;refine G.out.mono ?_;clear G;rintro e w3 ⟨rfl,hP⟩;have hP:=hid hP)
 go_end0
 exact ⟨rfl,hP.out⟩
set_option maxRecDepth 20000 in
set_option maxHeartbeats 4000000 in
theorem c4x {B rb:Nat} {T:Nat→Nat} {w:World} {X:RX} {st:RS} (h:RdV B T w rb X st) (p s:Nat) (hn:st.later.length≤100000) :
 Calls Tryz.prog 135 #[r_ rb,.agg #[.int .i64 (p:Int),.int .i64 (s:Int)]] w fun r w'=>r=.returned (.tuple #[])∧RdP B T w rb (st.lvd p s) w':=by
 have hmf:∀ (fn:Fn) (first cap:Array Value) (w:World),(Instr.makeFunc fn first cap).run Tryz.prog w=.ok (.func fn first cap) w:=fun _ _ _ _=>rfl
 obtain ⟨W1,hW1⟩:∃ y,w.alloc (a3a rb)=y:=⟨_,rfl⟩;have hz1:W1.heap.size=w.heap.size+1:=by rw [← hW1];exact World.size_alloc ..
 have hB1:Below w.heap.size w W1:=by rw [← hW1];exact al' w _
 have hp1:W1.heap[w.heap.size]?=some (a3a rb):=by rw [← hW1];exact b_ w _
 obtain ⟨W2,hW2⟩:∃ y,W1.alloc (a8f p s)=y:=⟨_,rfl⟩;have hB2:Below W1.heap.size W1 W2:=by rw [← hW2];exact al' W1 _
 have hq2:W2.heap[w.heap.size+1]?=some (a8f p s):=by rw [← hW2,← hz1];exact b_ W1 _
 have hB:=a_ hB1 hB2;have hp2:=g_ hp1 hB2;have h2:=h.keep hB;have G1:=hid (b8E h2)
 have G2:Hid (∀ u,(∃ wv,Mov B T W2 rb X st.tkN u wv)→u.cell? ⟨w.heap.size,0,none⟩=some (r_ rb)∧(u.alloc (s_ st.hd)).cell? ⟨w.heap.size,0,none⟩=some (r_ rb)∧Calls Tryz.prog 130 #[r_ rb,wdA st.hd,.func (.func 172) #[] #[r_ w.heap.size,r_ u.heap.size,r_ (w.heap.size+1)]] (u.alloc (s_ st.hd)) fun r w'=>r=.returned (.tuple #[])∧RdP B T w rb (st.lvd p s) w'):=hid (fun u hu=>by
  obtain ⟨wv,hu⟩:=hu;have hal:=al' u (s_ st.hd);have hc:=hu.chg.trans (Chg.of_below (T:=T) hal);have iR0:=(h.im (Nat.le_refl _) hp2).keep hu.chg;have iR:=(h.im (Nat.le_refl _) hp2).keep hc;have iL:=(h.im (by omega) hq2).keep hc;have iW:Im T (u.alloc (s_ st.hd)) u.heap.size (s_ st.hd):=hu.rd.im (Nat.le_refl _) (b_ u _)
  have hl:st.tkN.later.length≤100000:=by
   have:st.tkN.later=st.later:=by unfold RS.tkN RS.take RS.give;split <;> (try split) <;> rfl
   rw [this];exact hn
  refine ⟨iR0.cell rfl,iR.cell rfl,(c0K (hu.rd.keep hal) ⟨2,st.hd,p,s⟩ _ (.inr (.inl ⟨rfl,_,_,_,rfl,iR,iW,iL⟩)) hl).mono ?_⟩;rintro r w' ⟨e,T',X',hr,hc'⟩;exact ⟨e,T',X',hr,((Chg.of_below hB).trans hc).trans hc'⟩)
 have y0:W2.cell? ⟨w.heap.size,0,none⟩=some (r_ rb):=c_ hp2 rfl;clear h2 hB hB1 hB2 hp1 hp2 hq2 h;generalize st.tkN=st1 at *;generalize st.lvd p s=st2 at *;generalize st.hd=H at *;obtain ⟨hk,hp,ht⟩:=H
 try dsimp only at *
 go_enter Tryz.func135,Tryz.ntmps135
 go_wp2_with (first
  | (go_at_call 125;refine G1.out.mono ?_;clear G1;rintro e u ⟨rfl,hu⟩;obtain ⟨z0,z1,G3⟩:=G2.out u hu;clear G2 hu;have G3:=hid G3;have z2:=b_ u (s_ (hk,hp,ht));obtain ⟨v0,v1,v2,-,-⟩:=rd3 z2;clear z2;obtain ⟨W4,hW4⟩:∃ y,u.alloc (s_ (hk,hp,ht))=y:=⟨_,rfl⟩;rw [hW4] at z1 G3 v0 v1 v2;try dsimp only at hW4 v0 v1 v2)
  | (go_at_call 130;refine G3.out.mono ?_;clear G3;rintro e w3 ⟨rfl,hP⟩;have hP:=hid hP))
 go_end0
 exact ⟨rfl,hP.out⟩
set_option maxRecDepth 20000 in
set_option maxHeartbeats 4000000 in
theorem c1c {B rb:Nat} {T:Nat→Nat} {w:World} {X:RX} {st:RS} (h:RdV B T w rb X st) (pr:Nat) (hn:st.later.length≤100000) :
 Calls Tryz.prog 175 #[r_ rb,.int .i64 (pr:Int)] w fun r w'=>r=.returned (.tuple #[])∧RdP B T w rb (st.symb pr) w':=by
 have hmf:∀ (fn:Fn) (first cap:Array Value) (w:World),(Instr.makeFunc fn first cap).run Tryz.prog w=.ok (.func fn first cap) w:=fun _ _ _ _=>rfl
 obtain ⟨W1,hW1⟩:∃ y,w.alloc (a3a rb)=y:=⟨_,rfl⟩;have hz1:W1.heap.size=w.heap.size+1:=by rw [← hW1];exact World.size_alloc ..
 have hB1:Below w.heap.size w W1:=by rw [← hW1];exact al' w _
 have hp1:W1.heap[w.heap.size]?=some (a3a rb):=by rw [← hW1];exact b_ w _
 obtain ⟨W2,hW2⟩:∃ y,W1.alloc (b8s pr)=y:=⟨_,rfl⟩;have hB2:Below W1.heap.size W1 W2:=by rw [← hW2];exact al' W1 _
 have hq2:W2.heap[w.heap.size+1]?=some (b8s pr):=by rw [← hW2,← hz1];exact b_ W1 _
 have hB:=a_ hB1 hB2;have hp2:=g_ hp1 hB2;have h2:=h.keep hB;have G1:=hid (b8E h2)
 have G2:Hid (∀ u,(∃ wv,Mov B T W2 rb X st.tkN u wv)→u.cell? ⟨w.heap.size,0,none⟩=some (r_ rb)∧(u.alloc (s_ st.hd)).cell? ⟨w.heap.size,0,none⟩=some (r_ rb)∧Calls Tryz.prog 130 #[r_ rb,wdA st.hd,.func (.func 196) #[] #[r_ w.heap.size,r_ (w.heap.size+1),r_ u.heap.size]] (u.alloc (s_ st.hd)) fun r w'=>r=.returned (.tuple #[])∧RdP B T w rb (st.symb pr) w'):=hid (fun u hu=>by
  obtain ⟨wv,hu⟩:=hu;have hal:=al' u (s_ st.hd);have hc:=hu.chg.trans (Chg.of_below (T:=T) hal);have iR0:=(h.im (Nat.le_refl _) hp2).keep hu.chg;have iR:=(h.im (Nat.le_refl _) hp2).keep hc;have iL:=(h.im (by omega) hq2).keep hc;have iW:Im T (u.alloc (s_ st.hd)) u.heap.size (s_ st.hd):=hu.rd.im (Nat.le_refl _) (b_ u _)
  have hl:st.tkN.later.length≤100000:=by
   have:st.tkN.later=st.later:=by unfold RS.tkN RS.take RS.give;split <;> (try split) <;> rfl
   rw [this];exact hn
  refine ⟨iR0.cell rfl,iR.cell rfl,(c0K (hu.rd.keep hal) ⟨5,st.hd,pr,0⟩ _ (.inr (.inr (.inr (.inr (.inl ⟨rfl,_,_,_,rfl,iR,iW,iL⟩))))) hl).mono ?_⟩;rintro r w' ⟨e,T',X',hr,hc'⟩;exact ⟨e,T',X',hr,((Chg.of_below hB).trans hc).trans hc'⟩)
 have y0:W2.cell? ⟨w.heap.size,0,none⟩=some (r_ rb):=c_ hp2 rfl;clear h2 hB hB1 hB2 hp1 hp2 hq2 h;generalize st.tkN=st1 at *;generalize st.symb pr=st2 at *;generalize st.hd=H at *;obtain ⟨hk,hp,ht⟩:=H
 try dsimp only at *
 go_enter Tryz.func175,Tryz.ntmps175
 go_wp2_with (first
  | (go_at_call 125;refine G1.out.mono ?_;clear G1;rintro e u ⟨rfl,hu⟩;obtain ⟨z0,z1,G3⟩:=G2.out u hu;clear G2 hu;have G3:=hid G3;have z2:=b_ u (s_ (hk,hp,ht));obtain ⟨v0,v1,v2,-,-⟩:=rd3 z2;clear z2;obtain ⟨W4,hW4⟩:∃ y,u.alloc (s_ (hk,hp,ht))=y:=⟨_,rfl⟩;rw [hW4] at z1 G3 v0 v1 v2;try dsimp only at hW4 v0 v1 v2)
  | (go_at_call 130;refine G3.out.mono ?_;clear G3;rintro e w3 ⟨rfl,hP⟩;have hP:=hid hP))
 go_end0
 exact ⟨rfl,hP.out⟩
set_option maxRecDepth 20000 in
set_option maxHeartbeats 4000000 in
theorem c3I {B rb:Nat} {T:Nat→Nat} {w:World} {X:RX} {st:RS} (h:RdV B T w rb X st) (pr:Nat) (hn:st.later.length≤100000) :
 Calls Tryz.prog 176 #[r_ rb,.int .i64 (pr:Int)] w fun r w'=>r=.returned (.tuple #[])∧RdP B T w rb (st.prec pr) w':=by
 have hmf:∀ (fn:Fn) (first cap:Array Value) (w:World),(Instr.makeFunc fn first cap).run Tryz.prog w=.ok (.func fn first cap) w:=fun _ _ _ _=>rfl
 obtain ⟨W1,hW1⟩:∃ y,w.alloc (a3a rb)=y:=⟨_,rfl⟩;have hz1:W1.heap.size=w.heap.size+1:=by rw [← hW1];exact World.size_alloc ..
 have hB1:Below w.heap.size w W1:=by rw [← hW1];exact al' w _
 have hp1:W1.heap[w.heap.size]?=some (a3a rb):=by rw [← hW1];exact b_ w _
 obtain ⟨W2,hW2⟩:∃ y,W1.alloc (b8s pr)=y:=⟨_,rfl⟩;have hB2:Below W1.heap.size W1 W2:=by rw [← hW2];exact al' W1 _
 have hq2:W2.heap[w.heap.size+1]?=some (b8s pr):=by rw [← hW2,← hz1];exact b_ W1 _
 have hB:=a_ hB1 hB2;have hp2:=g_ hp1 hB2;have h2:=h.keep hB;have G1:=hid (b8E h2)
 have G2:Hid (∀ u,(∃ wv,Mov B T W2 rb X st.tkN u wv)→u.cell? ⟨w.heap.size,0,none⟩=some (r_ rb)∧(u.alloc (s_ st.hd)).cell? ⟨w.heap.size,0,none⟩=some (r_ rb)∧Calls Tryz.prog 130 #[r_ rb,wdA st.hd,.func (.func 197) #[] #[r_ w.heap.size,r_ u.heap.size,r_ (w.heap.size+1)]] (u.alloc (s_ st.hd)) fun r w'=>r=.returned (.tuple #[])∧RdP B T w rb (st.prec pr) w'):=hid (fun u hu=>by
  obtain ⟨wv,hu⟩:=hu;have hal:=al' u (s_ st.hd);have hc:=hu.chg.trans (Chg.of_below (T:=T) hal);have iR0:=(h.im (Nat.le_refl _) hp2).keep hu.chg;have iR:=(h.im (Nat.le_refl _) hp2).keep hc;have iL:=(h.im (by omega) hq2).keep hc;have iW:Im T (u.alloc (s_ st.hd)) u.heap.size (s_ st.hd):=hu.rd.im (Nat.le_refl _) (b_ u _)
  have hl:st.tkN.later.length≤100000:=by
   have:st.tkN.later=st.later:=by unfold RS.tkN RS.take RS.give;split <;> (try split) <;> rfl
   rw [this];exact hn
  refine ⟨iR0.cell rfl,iR.cell rfl,(c0K (hu.rd.keep hal) ⟨6,st.hd,pr,0⟩ _ (.inr (.inr (.inr (.inr (.inr ⟨rfl,_,_,_,rfl,iR,iW,iL⟩))))) hl).mono ?_⟩;rintro r w' ⟨e,T',X',hr,hc'⟩;exact ⟨e,T',X',hr,((Chg.of_below hB).trans hc).trans hc'⟩)
 have y0:W2.cell? ⟨w.heap.size,0,none⟩=some (r_ rb):=c_ hp2 rfl;clear h2 hB hB1 hB2 hp1 hp2 hq2 h;generalize st.tkN=st1 at *;generalize st.prec pr=st2 at *;generalize st.hd=H at *;obtain ⟨hk,hp,ht⟩:=H
 try dsimp only at *
 go_enter Tryz.func176,Tryz.ntmps176
 go_wp2_with (first
  | (go_at_call 125;refine G1.out.mono ?_;clear G1;rintro e u ⟨rfl,hu⟩;obtain ⟨z0,z1,G3⟩:=G2.out u hu;clear G2 hu;have G3:=hid G3;have z2:=b_ u (s_ (hk,hp,ht));obtain ⟨v0,v1,v2,-,-⟩:=rd3 z2;clear z2;obtain ⟨W4,hW4⟩:∃ y,u.alloc (s_ (hk,hp,ht))=y:=⟨_,rfl⟩;rw [hW4] at z1 G3 v0 v1 v2;try dsimp only at hW4 v0 v1 v2)
  | (go_at_call 130;refine G3.out.mono ?_;clear G3;rintro e w3 ⟨rfl,hP⟩;have hP:=hid hP))
 go_end0
 exact ⟨rfl,hP.out⟩
theorem RS.tkN_later (st:RS):st.tkN.later=st.later:=by unfold RS.tkN RS.take RS.give;split <;> (try split) <;> rfl
theorem RS.tkS_later (st:RS) (t:Txt):(st.tkS t).later=st.later:=by unfold RS.tkS RS.take RS.give;split <;> (try split) <;> rfl
set_option maxRecDepth 20000 in
set_option maxHeartbeats 8000000 in
theorem c1f {B rb:Nat} {T:Nat→Nat} {w:World} {X:RX} {st:RS} (h:RdV B T w rb X st) (hm:st.hd.1≠0) (hn:st.later.length≤99990) (hs:st.starts≤100000) :
 Calls Tryz.prog 87 #[r_ rb] w fun r w'=>r=.returned (.tuple #[])∧RdP B T w rb st.start w':=by
 have hmf:∀ (fn:Fn) (first cap:Array Value) (w:World),(Instr.makeFunc fn first cap).run Tryz.prog w=.ok (.func fn first cap) w:=fun _ _ _ _=>rfl
 obtain ⟨W1,hW1⟩:∃ y,w.alloc (a3a rb)=y:=⟨_,rfl⟩;have hz1:W1.heap.size=w.heap.size+1:=by rw [← hW1];exact World.size_alloc ..
 have hB1:Below w.heap.size w W1:=by rw [← hW1];exact al' w _
 have hp1:W1.heap[w.heap.size]?=some (a3a rb):=by rw [← hW1];exact b_ w _
 have h1:=h.keep hB1;obtain ⟨W2,hW2⟩:∃ y,W1.setCell ⟨rb,7,none⟩ (.int .i64 ((st.starts:Int)+1))=y:=⟨_,rfl⟩;have hk2:Kept (f_ rb) W1 W2:=by rw [← hW2];exact (Kept.refl (f_ rb) W1).setCell (a:=⟨rb,7,none⟩) (fun _=>rfl)
 have hb2:W2.heap[rb]?=some (rdO X st.levels (st.starts+1) st.pl st.err):=by rw [← hW2];exact heap_setCell h1.blk
 have h2:RdV B T W2 rb X st.st1:=h1.put (hk2.mono (fun _ _ e=>.inl e)) hb2 (h1.ws1 hk2) h1.wf rfl rfl rfl rfl rfl rfl rfl id rfl rfl rfl rfl rfl rfl rfl rfl rfl;have c2:=(Chg.of_below (T:=T) hB1).trans (h1.chg1 hk2);have hz2:W2.heap.size=w.heap.size+1:=by rw [← hW2];simpa using hz1
 have i1:Im T W1 w.heap.size (a3a rb):=h.im (Nat.le_refl _) hp1;have i2:=i1.keep (h1.chg1 hk2);obtain ⟨bb,hbb⟩:∃ b:Bool,decide (1<st.starts+1)=b:=⟨_,rfl⟩;obtain ⟨W3,hW3⟩:∃ y,W2.alloc (c2T bb)=y:=⟨_,rfl⟩;have hB3:Below W2.heap.size W2 W3:=by rw [← hW3];exact al' W2 _
 have hq3:W3.heap[W2.heap.size]?=some (c2T bb):=by rw [← hW3];exact b_ W2 _
 have h3:=(h2.keep hB3).keep ((Below.refl _ W3).drew);have c3:=c2.trans (Chg.of_below (T:=T) (a_ hB3 ((Below.refl _ W3).drew)));have i3:=i2.keep (Chg.of_below (T:=T) hB3);have i3d:=i3.keep (Chg.of_below (T:=T) ((Below.refl _ W3).drew));have j3:Im T W3.drew W2.heap.size (c2T bb):=⟨h.fresh (by omega),g_ hq3 ((Below.refl _ W3).drew)⟩
 have hsa:(decide ((if 1<st.starts+1 then 1 else 0:Nat)≠0))=bb:=by
  rw [← hbb];split
  · rename_i h9;rw [decide_eq_true h9];rfl
  · rename_i h9;rw [decide_eq_false h9];rfl
 have GT:Hid (Calls Tryz.prog 124 #[r_ rb,.bool true] W3.drew fun r w'=>r=.returned (wdA st.hd)∧∃ wv,Mov B T W3.drew rb X (st.st1.take true) w' wv):=hid (a7d h3 true (fun _=>hm))
 have GA:Hid (∀ u,(∃ wv,Mov B T W3.drew rb X (st.st1.take true) u wv)→u.cell? ⟨w.heap.size,0,none⟩=some (r_ rb)∧Calls Tryz.prog 130 #[r_ rb,wdA st.hd,.func (.func 131) #[] #[r_ W2.heap.size]] u fun r w'=>r=.returned (.tuple #[])∧∃ T' X',RdV B T' w' rb X' ((st.st1.take true).thn ⟨3,st.hd,if 1<st.starts+1 then 1 else 0,0⟩)∧Chg T T' w w'∧w'.cell? ⟨w.heap.size,0,none⟩=some (r_ rb)∧Im T' w' w.heap.size (a3a rb)):=hid (fun u hu=>by
  obtain ⟨wv,hu⟩:=hu;have iu:=i3d.keep hu.chg;have ju:=j3.keep hu.chg;refine ⟨iu.cell rfl,(c0K hu.rd ⟨3,st.hd,if 1<st.starts+1 then 1 else 0,0⟩ _ (.inr (.inr (.inl ⟨rfl,_,rfl,by rw [hsa];exact ju⟩))) (by show st.later.length≤_;omega)).mono ?_⟩;rintro r w' ⟨e,T',X',hr,hc'⟩;have i9:=iu.keep hc';exact ⟨e,T',X',hr,(c3.trans hu.chg).trans hc',i9.cell rfl,i9⟩)
 have y1:W1.cell? ⟨w.heap.size,0,none⟩=some (r_ rb):=i1.cell rfl;have y2:W2.cell? ⟨w.heap.size,0,none⟩=some (r_ rb):=i2.cell rfl;have y3:W3.cell? ⟨w.heap.size,0,none⟩=some (r_ rb):=i3.cell rfl;have y3d:W3.drew.cell? ⟨w.heap.size,0,none⟩=some (r_ rb):=i3d.cell rfl;have x7:W1.cell? ⟨rb,7,none⟩=some (.int .i64 (st.starts:Int)):=c_ h1.blk rfl;have f7:W1.frozen? ⟨rb,7,none⟩=false:=i_ h1.blk 7;have x7b:W2.cell? ⟨rb,7,none⟩=some (.int .i64 ((st.starts:Int)+1)):=c_ hb2 rfl;have hfin:Hid (st.start=((((st.st1.take true).thn ⟨3,st.hd,if 1<st.starts+1 then 1 else 0,0⟩).tkN.tkS [59]).thn ⟨4,((st.st1.take true).thn ⟨3,st.hd,if 1<st.starts+1 then 1 else 0,0⟩).hd,0,0⟩)):=hid rfl
 have hln:((st.st1.take true).thn ⟨3,st.hd,if 1<st.starts+1 then 1 else 0,0⟩).later.length≤99999:=by
  show (st.later++[_]).length≤_
  rw [List.length_append,List.length_singleton];omega
 have hstz:(st.starts:Int)≤100000:=by omega
 have hbz:decide ((1:Int)<(st.starts:Int)+1)=bb:=by
  rw [← hbb,Bool.eq_iff_iff,decide_eq_true_iff,decide_eq_true_iff];omega
 clear hsa hbb i1 i2 i3 i3d j3 h3 h2 h1 hB3 hq3 hb2 hk2 hp1 hB1 hz1 hz2 c2 c3 h hn hs;rw [hfin.out];clear hfin;generalize (st.st1.take true).thn ⟨3,st.hd,if 1<st.starts+1 then 1 else 0,0⟩=sA at *;generalize st.st1.take true=sB at *;generalize st.starts=ns at *;generalize hH:st.hd=H at *;obtain ⟨hk,hp,ht⟩:=H
 try dsimp only at *
 clear hH hm;have HL:Hid (∀ T1 X1 v,RdV B T1 v rb X1 sA→Chg T T1 w v→Im T1 v w.heap.size (a3a rb)→Calls Tryz.prog 125 #[r_ rb] v fun r u=>r=.returned (wdA sA.hd)∧u.cell? ⟨w.heap.size,0,none⟩=some (r_ rb)∧∃ wv,RdV B T1 u rb { X1 with wv:=wv } sA.tkN∧Chg T T1 w u∧Im T1 u w.heap.size (a3a rb)):=hid (fun T1 X1 v hr hc iv=>(b8E hr).mono (fun r u ⟨e,wv,hM⟩=>⟨e,(iv.keep hM.chg).cell rfl,wv,hM.rd,hc.trans hM.chg,iv.keep hM.chg⟩))
 have HS:Hid (∀ T1 X1 v,RdV B T1 v rb X1 sA.tkN→Chg T T1 w v→Im T1 v w.heap.size (a3a rb)→(v.alloc (s_ sA.hd)).cell? ⟨w.heap.size,0,none⟩=some (r_ rb)∧Calls Tryz.prog 127 #[r_ rb,.string ⟨#[59]⟩] (v.alloc (s_ sA.hd)) fun r u=>r=.returned (.tuple #[])∧(u.cell? ⟨w.heap.size,0,none⟩=some (r_ rb)∧u.heap[v.heap.size]?=some (s_ sA.hd))∧Calls Tryz.prog 130 #[r_ rb,wdA sA.hd,.func (.func 132) #[] #[r_ w.heap.size,r_ v.heap.size]] u fun r w'=>r=.returned (.tuple #[])∧RdP B T w rb ((sA.tkN.tkS [59]).thn ⟨4,sA.hd,0,0⟩) w'):=hid (fun T1 X1 v hr hc iv=>by
  have hal:=al' v (s_ sA.hd);have i5:=iv.keep (Chg.of_below (T:=T1) hal);refine ⟨i5.cell rfl,(b8D (hr.keep hal) [59]).mono ?_⟩;rintro r u ⟨e,wv,hM⟩;have i6:=i5.keep hM.chg;have j6:Im T1 u v.heap.size (s_ sA.hd):=(Im.keep (T:=T1) ⟨hr.fresh (Nat.le_refl _),b_ v _⟩ hM.chg);refine ⟨e,⟨i6.cell rfl,j6.2⟩,(c0K hM.rd ⟨4,sA.hd,0,0⟩ _ (.inr (.inr (.inr (.inl ⟨rfl,_,_,rfl,i6,j6⟩)))) (by rw [RS.tkS_later,RS.tkN_later];omega)).mono ?_⟩;rintro r w' ⟨e',T',X',hr',hc'⟩;exact ⟨e',T',X',hr',((hc.trans (Chg.of_below hal)).trans hM.chg).trans hc'⟩)
 clear hln;generalize (sA.tkN.tkS [59]).thn ⟨4,sA.hd,0,0⟩=sF at *;generalize sA.tkN=sC at *;generalize hH:sA.hd=H at *;obtain ⟨jk,jp,jt⟩:=H;clear hH;cases bb
 all_goals
  first
   | (have hlt:(1:Int)<(ns:Int)+1:=of_decide_eq_true hbz)
   | (have hlt:¬ (1:Int)<(ns:Int)+1:=of_decide_eq_false hbz)
  clear hbz;subst hW3;go_enter Tryz.func87,Tryz.ntmps87
  go_wp2_with fail
  clear hW1 hW2;generalize W2.alloc _=W3 at *
  go_region_held3 (fun w'=>w'.cell? ⟨w.heap.size,0,none⟩=some (r_ rb)) (go_keep) ((first
   | (go_at_call 124;refine GT.out.mono ?_;rintro e u ⟨rfl,hu⟩;obtain ⟨z0,G2⟩:=GA.out u hu;have G2:=hid G2;clear hu)
   | (go_at_call 130;refine G2.out.mono ?_;clear G2;rintro e v ⟨rfl,T1,X1,hr,hc,z1,iv⟩;have hr:=hid hr;have hc:=hid hc;have iv:=hid iv)))
  all_goals
   go_wp2_with (first
    | (go_at_call 125;refine (HL.out _ _ _ hr.out hc.out iv.out).mono ?_;clear HL;rintro e u2 ⟨rfl,z2,wv,hr2,hc2,iv2⟩;obtain ⟨z3,G3⟩:=HS.out _ _ _ hr2 hc2 iv2;clear HS hr2 hc2 iv2;have G3:=hid G3;obtain ⟨W5,hW5⟩:∃ y,u2.alloc (s_ (jk,jp,jt))=y:=⟨_,rfl⟩;rw [hW5] at z3 G3)
    | (go_at_call 127;refine G3.out.mono ?_;clear G3;rintro e u3 ⟨rfl,⟨z4,z5⟩,G4⟩;have G4:=hid G4;obtain ⟨v0,v1,v2,-,-⟩:=rd3 z5;clear z5)
    | (go_at_call 130;refine G4.out.mono ?_;clear G4;rintro e u4 ⟨rfl,hP⟩;have hP:=hid hP))
   go_end0
   exact ⟨rfl,hP.out⟩
theorem b4B {R F:World→Nat→Prop} {G:Prop} (h:(∀ V q,F V q→R V q)→G) (pf:∀ V q,F V q→R V q):G:=h pf
def wsN (w:World) (rb:Nat):Nat:=match w.cell? ⟨rb,0,none⟩ with
 | some (.slice _ n _)=>n
 | _=>0
theorem RdV.wsN {B rb:Nat} {T:Nat→Nat} {w:World} {X:RX} {st:RS} (h:RdV B T w rb X st):wsN w rb=st.ws.length:=by
 obtain ⟨b,o,cap,e,-⟩:=h.words;have h0:=(c0N h.blk).1;unfold Go.Proofs.YtjgedijclkoemaaGreatDoor.wsN;rw [h0,e]
theorem RS.tkN_ws {st:RS} (h:st.atN=true):st.tkN.ws=st.ws.tail:=by unfold RS.tkN RS.take;rw [h,if_pos rfl]
theorem RS.tkS_ws {st:RS} {t:Txt} (h:st.atS t=true):(st.tkS t).ws=st.ws.tail:=by unfold RS.tkS RS.take;rw [h,if_pos rfl]
theorem b6w {p s:Nat} {st:RS} (h:st.atN=true) (hn:st.ws≠[]):RS.lvds p s st.ws.length st=RS.lvds p s (st.lvd p s).ws.length (st.lvd p s):=by
 have e:(st.lvd p s).ws=st.ws.tail:=RS.tkN_ws h;rw [e];cases hw:st.ws with
 | nil=>exact absurd hw hn
 | cons x l=>rw [List.length_cons,RS.lvds,h,if_pos rfl];rfl
theorem b9F {p s:Nat} {st:RS} (h:st.atN=false):RS.lvds p s st.ws.length st=st:=by
 cases st.ws.length with
 | zero=>rfl
 | succ n=>rw [RS.lvds,h];rfl
abbrev a4w:Obj:=.cells #[.int .i64 0,.int .i64 0] 143
theorem RdV.boxed {B rb:Nat} {T:Nat→Nat} {u u2:World} {X:RX} {st:RS} (hr:RdV B T u rb X st) (hu:Below (u.alloc a4w).heap.size (u.alloc a4w) u2) (p s:Nat) :
 RdV B T ((u2.setCell ⟨u.heap.size,0,none⟩ (.int .i64 (p:Int))).setCell ⟨u.heap.size,1,none⟩ (.int .i64 (s:Int))) rb X st∧Chg T T u ((u2.setCell ⟨u.heap.size,0,none⟩ (.int .i64 (p:Int))).setCell ⟨u.heap.size,1,none⟩ (.int .i64 (s:Int)))∧Im T ((u2.setCell ⟨u.heap.size,0,none⟩ (.int .i64 (p:Int))).setCell ⟨u.heap.size,1,none⟩ (.int .i64 (s:Int))) u.heap.size (a8f p s):=by
 have hal:=al' u a4w;have hz:u.heap.size<(u.alloc a4w).heap.size:=by rw [World.size_alloc];omega
 have hF:Kept (f_ u.heap.size) u2 ((u2.setCell ⟨u.heap.size,0,none⟩ (.int .i64 (p:Int))).setCell ⟨u.heap.size,1,none⟩ (.int .i64 (s:Int))):=((Kept.refl (f_ u.heap.size) u2).setCell (a:=⟨u.heap.size,0,none⟩) (fun _=>rfl)).setCell (a:=⟨u.heap.size,1,none⟩) (fun _=>rfl);have h0:=hr.fresh (Nat.le_refl _);refine ⟨(((hr.aside hal (Nat.le_refl _) hz).1.keep hu).wrote hF h0),⟨((Kept.of_below (a_ hal hu)).step hF (fun k hk e=>absurd hk (by rw [show k=u.heap.size from e];exact Nat.lt_irrefl _))),fun _ _=>rfl⟩,h0,?_⟩;exact heap_setCell (heap_setCell (g_ (b_ u a4w) hu))
theorem RdV.boxed1 {B rb:Nat} {T:Nat→Nat} {W u u2:World} {X:RX} {st st':RS} {wv:Value} (h:RdV B T W rb X st) (hM:Mov B (a0x T W.heap.size 77) (W.alloc a4w) rb X st' u wv) (hu:Below u.heap.size u u2) (p s:Nat) :
 RdV B T ((u2.setCell ⟨W.heap.size,0,none⟩ (.int .i64 (p:Int))).setCell ⟨W.heap.size,1,none⟩ (.int .i64 (s:Int))) rb { X with wv:=wv } st'∧Chg T T W ((u2.setCell ⟨W.heap.size,0,none⟩ (.int .i64 (p:Int))).setCell ⟨W.heap.size,1,none⟩ (.int .i64 (s:Int)))∧Im T ((u2.setCell ⟨W.heap.size,0,none⟩ (.int .i64 (p:Int))).setCell ⟨W.heap.size,1,none⟩ (.int .i64 (s:Int))) W.heap.size (a8f p s)∧u2.heap[W.heap.size]?=some a4w:=by
 have hal:=al' W a4w;have hrb:=u_ h.blk;have hne:¬ f_ rb W.heap.size:=fun e=>absurd hrb (by rw [← show W.heap.size=rb from e];exact Nat.lt_irrefl _)
 have hF:Kept (f_ W.heap.size) u2 ((u2.setCell ⟨W.heap.size,0,none⟩ (.int .i64 (p:Int))).setCell ⟨W.heap.size,1,none⟩ (.int .i64 (s:Int))):=((Kept.refl (f_ W.heap.size) u2).setCell (a:=⟨W.heap.size,0,none⟩) (fun _=>rfl)).setCell (a:=⟨W.heap.size,1,none⟩) (fun _=>rfl);have h0:=h.fresh (Nat.le_refl _);have hb2:=g_ (hM.kept.blk (b_ W a4w) hne) hu;refine ⟨(hM.rd.keep hu).wrote hF h0,⟨?_,fun _ _=>rfl⟩,⟨h0,heap_setCell (heap_setCell hb2)⟩,hb2⟩;have k1:Kept (f_ rb) W u2:=((Kept.of_below hal).step hM.kept (fun _ _ h=>h)).step (Kept.of_below hu (F:=f_ rb)) (fun _ _ h=>h);exact (k1.mono (fun k _ e=>by rw [show k=rb from e,h.rt];decide)).step hF (fun k hk e=>absurd hk (by rw [show k=W.heap.size from e];exact Nat.lt_irrefl _))
set_option maxRecDepth 20000 in
theorem c4U (x:Wd) (u:World):(Instr.field 90 (wdA x) 2).run Tryz.prog u=.ok (.string (e_ x.2.2)) u:=by
 kernel_rfl
set_option maxRecDepth 20000 in
set_option maxHeartbeats 8000000 in
theorem c1R {B rb:Nat} {T:Nat→Nat} {w:World} {X:RX} {st:RS} (h:RdV B T w rb X st) (hm:st.hd.1≠0) (hn:st.later.length+st.ws.length≤99000) (hl:st.levels≤100000) :
 Calls Tryz.prog 89 #[r_ rb] w fun r w'=>r=.returned (.tuple #[])∧RdP B T w rb st.level w':=by
 have h1:=h;obtain ⟨W,hW⟩:∃ y,w.setCell ⟨rb,6,none⟩ (.int .i64 ((st.levels:Int)+1))=y:=⟨_,rfl⟩;have hk2:Kept (f_ rb) w W:=by rw [← hW];exact (Kept.refl (f_ rb) w).setCell (a:=⟨rb,6,none⟩) (fun _=>rfl)
 have hb2:W.heap[rb]?=some (rdO X (st.levels+1) st.starts st.pl st.err):=by rw [← hW];exact heap_setCell h1.blk
 have h2:RdV B T W rb X st.lv1:=h1.put (hk2.mono (fun _ _ e=>.inl e)) hb2 (h1.ws1 hk2) h1.wf rfl rfl rfl rfl rfl rfl rfl id rfl rfl rfl rfl rfl rfl rfl rfl rfl;have hbd:Below W.heap.size W W.drew:=(Below.refl _ W).drew;have h3:=h2.keep hbd;have c3:Chg T T w W.drew:=(h1.chg1 hk2).trans (Chg.of_below hbd);have x6:w.cell? ⟨rb,6,none⟩=some (.int .i64 (st.levels:Int)):=c_ h1.blk rfl;have f6:w.frozen? ⟨rb,6,none⟩=false:=i_ h1.blk 6;have y6:W.drew.cell? ⟨rb,6,none⟩=some (.int .i64 ((st.levels:Int)+1)):=c_ h3.blk rfl;have hsz:W.drew.heap.size=W.heap.size:=rfl;have hwa:W.drew.alloc a4w=(W.alloc a4w).drew:=rfl;have y6a:(W.alloc a4w).drew.cell? ⟨rb,6,none⟩=some (.int .i64 ((st.levels:Int)+1)):=d_ (show Below W.drew.heap.size W.drew (W.alloc a4w).drew from al' W.drew _) y6;obtain ⟨h4,-⟩:=h3.aside (q:=W.drew.heap.size) (al' W.drew a4w) (Nat.le_refl _) (by rw [World.size_alloc];omega);obtain ⟨p,hp⟩:∃ p:Nat,st.levels+1=p:=⟨_,rfl⟩;have hpz:(st.levels:Int)+1=(p:Int):=by omega
 have hle:st.levels+1=p:=hp;have hlv:st.level=(RS.lvds p (sdN st.hd.2.2) ((st.lv1.take true).lvd p (sdN st.hd.2.2)).ws.length ((st.lv1.take true).lvd p (sdN st.hd.2.2))).tkS [59]:=by rw [← hp];rfl
 rw [hlv];have GS:=hid (fun u=>b8L st.hd.2.2 u);have hs3:=b7M st.hd.2.2;have GT0:Hid (Calls Tryz.prog 124 #[r_ rb,.bool true] W.drew fun r w'=>r=.returned (wdA st.hd)∧∃ wv,Mov B T W.drew rb X (st.lv1.take true) w' wv):=hid (a7d h3 true (fun _=>hm));have GT1:Hid (Calls Tryz.prog 124 #[r_ rb,.bool true] (W.alloc a4w).drew fun r w'=>r=.returned (wdA st.hd)∧∃ wv,Mov B (a0x T W.drew.heap.size 77) (W.drew.alloc a4w) rb X (st.lv1.take true) w' wv):=hid (a7d h4 true (fun _=>hm));have HZ:Hid (∀ T' V X',RdV B T' V rb X' (st.lv1.take true)→V.cell? ⟨rb,6,none⟩=some (.int .i64 (p:Int))):=hid (fun T' V X' hr=>by rw [← hle];exact c_ hr.blk rfl);have hsa:(st.lv1.take true).later=st.later:=rfl
 have hsb:(st.lv1.take true).ws.length+1=st.ws.length:=by
  have:=h.wf.two hm
  show st.ws.tail.length+1=_
  rw [List.length_tail];omega
 have hsb:(st.lv1.take true).later.length+(st.lv1.take true).ws.length≤98999:=by rw [hsa];omega
 rw [hpz] at y6 y6a hW
 have F1:Hid (∀ u u2 wv,Mov B T W.drew rb X (st.lv1.take true) u wv→Below (u.alloc a4w).heap.size (u.alloc a4w) u2→∃ T1 X1,RdV B T1 ((u2.setCell ⟨u.heap.size,0,none⟩ (.int .i64 (p:Int))).setCell ⟨u.heap.size,1,none⟩ (.int .i64 (sdN st.hd.2.2:Int))) rb X1 (st.lv1.take true)∧Chg T T1 w ((u2.setCell ⟨u.heap.size,0,none⟩ (.int .i64 (p:Int))).setCell ⟨u.heap.size,1,none⟩ (.int .i64 (sdN st.hd.2.2:Int)))∧Im T1 ((u2.setCell ⟨u.heap.size,0,none⟩ (.int .i64 (p:Int))).setCell ⟨u.heap.size,1,none⟩ (.int .i64 (sdN st.hd.2.2:Int))) u.heap.size (a8f p (sdN st.hd.2.2))):=hid (fun u u2 wv hM hu=>by
  obtain ⟨a1,a2,a3⟩:=hM.rd.boxed hu p (sdN st.hd.2.2);exact ⟨T,_,a1,(c3.trans hM.chg).trans a2,a3⟩)
 have F2:Hid (∀ u u2 wv,Mov B (a0x T W.drew.heap.size 77) (W.drew.alloc a4w) rb X (st.lv1.take true) u wv→Below u.heap.size u u2→(∃ T1 X1,RdV B T1 ((u2.setCell ⟨W.heap.size,0,none⟩ (.int .i64 (p:Int))).setCell ⟨W.heap.size,1,none⟩ (.int .i64 (sdN st.hd.2.2:Int))) rb X1 (st.lv1.take true)∧Chg T T1 w ((u2.setCell ⟨W.heap.size,0,none⟩ (.int .i64 (p:Int))).setCell ⟨W.heap.size,1,none⟩ (.int .i64 (sdN st.hd.2.2:Int)))∧Im T1 ((u2.setCell ⟨W.heap.size,0,none⟩ (.int .i64 (p:Int))).setCell ⟨W.heap.size,1,none⟩ (.int .i64 (sdN st.hd.2.2:Int))) W.heap.size (a8f p (sdN st.hd.2.2)))∧u2.heap[W.heap.size]?=some a4w):=hid (fun u u2 wv hM hu=>by
  obtain ⟨a1,a2,a3,a4⟩:=h3.boxed1 hM hu p (sdN st.hd.2.2);exact ⟨⟨T,_,a1,c3.trans a2,a3⟩,a4⟩)
 have F3:Hid (∀ u u2 wv,Mov B T W.drew rb X (st.lv1.take true) u wv→Below u.heap.size u u2→∃ T1 X1,RdV B T1 (u2.alloc (a8f p (sdN st.hd.2.2))) rb X1 (st.lv1.take true)∧Chg T T1 w (u2.alloc (a8f p (sdN st.hd.2.2)))∧Im T1 (u2.alloc (a8f p (sdN st.hd.2.2))) u2.heap.size (a8f p (sdN st.hd.2.2))):=hid (fun u u2 wv hM hu=>by
  have hal:=al' u2 (a8f p (sdN st.hd.2.2));have h9:=hM.rd.keep hu;exact ⟨T,_,h9.keep hal,(c3.trans hM.chg).trans (Chg.of_below (a_ hu hal)),h9.fresh (Nat.le_refl _),b_ u2 _⟩)
 clear h h1 h2 h3 h4 hk2 hb2 hbd c3 hn hlv hp hsa hwa hsz hm;generalize st.lv1.take true=sB at *;generalize hH:st.hd=H at *;obtain ⟨hk,hp,ht⟩:=H
 try dsimp only at *
 clear hH;generalize sdN ht=sd at *;generalize st.levels=ls at *;obtain ⟨R,hR⟩:∃ R,Hid (RS.lvds p sd (sB.lvd p sd).ws.length (sB.lvd p sd)=R):=⟨_,hid rfl⟩;rw [hR.out];have hfd:∀ u:World,(Instr.field 90 (wdA (hk,hp,ht)) 2).run Tryz.prog u=.ok (.string (e_ ht)) u:=fun u=>c4U (hk,hp,ht) u
 go_enter Tryz.func89,Tryz.ntmps89
 go_wp2_with fail
 clear hW x6 f6;apply b4B (F:=fun V q=>∃ T1 X1,RdV B T1 V rb X1 sB∧Chg T T1 w V∧Im T1 V q (a8f p sd))
 case h =>
  intro rest
  go_region_with (first
   | (go_at_call 124;refine GT0.out.mono ?_;rintro e u ⟨rfl,wv,hM⟩;have z6:=HZ.out _ _ _ hM.rd;have z6b:=d_ (al' u a4w) z6;have hM0:=hid hM;clear hM)
   | (go_at_call 124;refine GT1.out.mono ?_;rintro e u ⟨rfl,wv,hM⟩;have z6:=HZ.out _ _ _ hM.rd;have hM1:=hid hM;clear hM)
   | (go_at_call 88;have hq1:=F2.out u;have hq2:=hM1.out;refine (GS.out u).mono ?_;rintro e u2 ⟨rfl,hu⟩;have z7:=d_ hu z6;clear z6;obtain ⟨hf9,hb9⟩:=hq1 u2 wv hq2 hu;have hf9:=hid hf9;have m0:=c_ (o:=0) hb9 rfl;have m1:=i_ hb9 0;have hb8:=heap_setCell (o:=0) (v:=.int .i64 (p:Int)) hb9;have m2:=c_ (o:=1) hb8 rfl;have m3:=i_ hb8 1;clear hb8 hb9 hq1 hq2)
   | (go_at_call 88;have hq2:=hM0.out;refine (GS.out u).mono ?_;rintro e u2 ⟨rfl,hu⟩;have z7:=d_ hu z6;have z7b:=d_ (al' u2 a4w) z7;clear z6;have hf9:=hid (F3.out u u2 wv hq2 hu);clear hq2)
   | (go_at_call 88;refine (GS.out _).mono ?_;rintro e u2 ⟨rfl,hu⟩;have z7:=d_ hu z6b;clear z6;have hb9:=g_ (b_ u a4w) hu;have m0:=c_ (o:=0) hb9 rfl;have m1:=i_ hb9 0;have hb8:=heap_setCell (o:=0) (v:=.int .i64 (p:Int)) hb9;have m2:=c_ (o:=1) hb8 rfl;have m3:=i_ hb8 1;clear hb8 hb9;have hf9:=hid (F1.out u u2 wv hM0.out hu)))
  all_goals
   have hf:=hf9.out;clear hf9
   first
    | (generalize (u2.setCell ⟨u.heap.size,0,none⟩ (.int .i64 (p:Int))).setCell ⟨u.heap.size,1,none⟩ (.int .i64 (sd:Int))=V at hf ⊢;generalize u.heap.size=q at hf ⊢;exact rest V q hf)
    | (generalize (u2.setCell ⟨W.heap.size,0,none⟩ (.int .i64 (p:Int))).setCell ⟨W.heap.size,1,none⟩ (.int .i64 (sd:Int))=V at hf ⊢;generalize W.heap.size=q at hf ⊢;exact rest V q hf)
    | (generalize u2.alloc (a8f p sd)=V at hf ⊢;generalize u2.heap.size=q at hf ⊢;exact rest V q hf)
 case pf =>
  rintro V q ⟨T1,X1,hr,hc,hi⟩;have hr:=hid hr;have hc:=hid hc;have hi:=hid hi;have l0:=hi.out.cell (o:=0) rfl;have l1:=hi.out.cell (o:=1) rfl;have hlt:sB.later.length≤100000:=by omega
  clear GT0 GT1 F1 F2 F3 HZ y6 y6a GS hfd
  have hB2:Hid ((sB.lvd p sd).later.length+(sB.lvd p sd).ws.length≤99000):=hid (by
   have e1:(sB.lvd p sd).later.length=sB.later.length+1:=by show (sB.tkN.later++[_]).length=_;rw [RS.tkN_later,List.length_append];rfl
   have e2:(sB.lvd p sd).ws.length≤sB.ws.length:=by
    show sB.tkN.ws.length≤_
    unfold RS.tkN RS.take;split
    · show sB.ws.tail.length≤_;rw [List.length_tail];omega
    · rw [RS.give_ws];omega
   omega)
  go_wp2_with (go_at_call 135;refine (c4x hr.out p sd hlt).mono ?_;rintro e w3 ⟨rfl,T3,X3,hr3,hc3⟩;have hi3:=hid (hi.out.keep hc3);have hr3:=hid hr3;have hc4:=hid (hc.out.trans hc3);clear hr hc hi hc3 l0 l1)
  clear hsb hlt;go_loopw [] (fun wr=>∃ T1 X1 st1,Hid (RdV B T1 wr rb X1 st1)∧Hid (Chg T T1 w wr)∧Hid (Im T1 wr q (a8f p sd))∧Hid (RS.lvds p sd st1.ws.length st1=R)∧Hid (st1.later.length+st1.ws.length≤99000)) (fun wr=>wsN wr rb)
  case atStart=>exact ⟨T3,X3,_,hr3,hc4,hi3,hR,hB2⟩
  case round =>
   obtain ⟨T1,X1,st1,hr,hc,hi,hL,hb⟩:=hrel;clear hr3 hc4 hi3 hR hB2;have GA:=hid (c0S hr.out);have hm0:=hr.out.wsN;cases ha:st1.atN with
   | false =>
    rw [ha] at GA;have e9:=hL.out;rw [b9F ha] at e9;subst e9;clear hL ha hm0;have GG:Hid (∀ u,Below wr.heap.size wr u→Calls Tryz.prog 127 #[r_ rb,.string ⟨#[59]⟩] u fun r w'=>r=.returned (.tuple #[])∧RdP B T w rb (st1.tkS [59]) w'):=hid (fun u hu=>(b8D (hr.out.keep hu) [59]).mono (fun r w' ⟨e,wv,hM⟩=>⟨e,T1,_,hM.rd,(hc.out.trans (Chg.of_below hu)).trans hM.chg⟩));clear hr hc hi hb
    go_wp2_with (first
     | (go_at_call 136;refine GA.out.mono ?_;clear GA;rintro e u ⟨rfl,hu⟩;have hu:=hid hu)
     | (go_at_call 127;refine (GG.out u hu.out).mono ?_;clear GG;rintro e u4 ⟨rfl,hP⟩;have hP:=hid hP))
    go_end0
    exact ⟨rfl,hP.out⟩
   | true =>
    rw [ha] at GA;have hw2:=hr.out.wf.two (RS.atN_hd ha);have e9:=hL.out;rw [b6w ha hr.out.wf.ne] at e9;have e9:=hid e9
    have hws:Hid ((st1.lvd p sd).ws.length+1=st1.ws.length∧(st1.lvd p sd).later.length=st1.later.length+1):=hid ⟨by
     have e:(st1.lvd p sd).ws=st1.ws.tail:=RS.tkN_ws ha;rw [e,List.length_tail];omega,by show (st1.tkN.later++[_]).length=_;rw [RS.tkN_later,List.length_append];rfl⟩
    have GG:Hid (∀ u,Below wr.heap.size wr u→u.cell? ⟨q,0,none⟩=some (.int .i64 (p:Int))∧u.cell? ⟨q,1,none⟩=some (.int .i64 (sd:Int))∧Calls Tryz.prog 135 #[r_ rb,.agg #[.int .i64 (p:Int),.int .i64 (sd:Int)]] u fun r w'=>r=.returned (.tuple #[])∧∃ T' X',RdV B T' w' rb X' (st1.lvd p sd)∧Chg T T' w w'∧Im T' w' q (a8f p sd)):=hid (fun u hu=>by
     have iu:=hi.out.keep (Chg.of_below (T:=T1) hu);refine ⟨iu.cell rfl,iu.cell rfl,(c4x (hr.out.keep hu) p sd (by have:=hb.out;omega)).mono ?_⟩;rintro r w' ⟨e,T',X',hr',hc'⟩;exact ⟨e,T',X',hr',(hc.out.trans (Chg.of_below hu)).trans hc',iu.keep hc'⟩)
    clear hL ha hr hc hi
    go_wp2_with (first
     | (go_at_call 136;refine GA.out.mono ?_;clear GA;rintro e u ⟨rfl,hu⟩;obtain ⟨l0,l1,GL⟩:=GG.out u hu;have GL:=hid GL;clear GG hu)
     | (go_at_call 135;refine GL.out.mono ?_;clear GL;rintro e u4 ⟨rfl,T4,X4,hr4,hc4,hi4⟩;have hm4:=hr4.wsN;have hr4:=hid hr4;have hc4:=hid hc4;have hi4:=hid hi4))
    go_roundw
    case rel=>exact ⟨T4,X4,_,hr4,hc4,hi4,e9,hid (by have:=hws.out;have:=hb.out;omega)⟩
    case measure=>rw [hm4,hm0];have:=hws.out;omega
end Go.Proofs.YtjgedijclkoemaaGreatDoor
namespace Go.Proofs.YtjgedijclkoemaaGreatDoor
open Go.RowKit
theorem b2Y {w:World} {B C n size:Nat} {e:TypeId} {v:Value} {xs:List Value} (h:w.ownsRow C e size v n xs) (hB:B≤C):w.ownsRow B e size v n xs:=by
 refine ⟨h.1,?_⟩;rcases h.2 with h1 | ⟨g,cap,cur,h1,h2,h3⟩
 · exact .inl h1
 · exact .inr ⟨g,cap,cur,h1,Nat.le_trans hB h2,h3⟩
set_option maxRecDepth 20000 in
set_option maxHeartbeats 2000000 in
theorem b8Y (s:Txt) (t:Rx) (w:World) (hs:s.length≤200) (hr:a0M s=some (t,[])) :
 Calls Tryz.prog 192 #[.string (e_ s)] w fun e w'=>∃ v,e=.returned (.tuple #[v,.int .i64 0,.int .i64 0])∧(b0S w' w.heap.size v (post t)∧∀ c∈post t,FitC c)∧Below w.heap.size w w':=by
 have hmf:∀ (fn:Fn) (first cap:Array Value) (w:World),(Instr.makeFunc fn first cap).run Tryz.prog w=.ok (.func fn first cap) w:=fun _ _ _ _=>rfl
 have G:=b8P (M:=400) (a5Z w s) hs (by simp;omega) (by omega);rw [hr] at G;have G:=hid G;obtain ⟨h0,h1,h2,h3⟩:=a1g w (.cells #[.slice none 0 0] 60) (.cells #[.int .i64 0] 3) (.cells #[.int .i64 0] 31) (.cells #[.string (e_ s),.int .i64 0,.slice none 0 0] 241);have hsz:(a1W w s).heap.size=w.heap.size+4:=by simp [a1W]
 have hpl:plc s []=(s.length:Int):=by simp [plc]
 have hS:=o_ s
 have HE:Hid (∀ w1,Red (some (t,[])) (a1W w s) (w.heap.size+3) s [] 400 (.returned (.tuple #[])) w1→∃ ad cap,(w1.cell? ⟨w.heap.size+3,1,none⟩=some (.int .i64 (s.length:Int))∧w1.cell? ⟨w.heap.size+3,2,none⟩=some (.slice ad (post t).length cap)∧w1.heap[w.heap.size]?=some (.cells #[.slice none 0 0] 60 (0,0))∧w1.heap[w.heap.size+1]?=some (.cells #[.int .i64 0] 3 (0,0))∧w1.heap[w.heap.size+2]?=some (.cells #[.int .i64 0] 31 (0,0)))∧(∀ c∈post t,FitC c)∧b0S w1 (w.heap.size+3) (.slice ad (post t).length cap) (post t)∧Below w.heap.size w w1):=hid (fun w1 hw=>by
  obtain ⟨-,hrd,-,hb⟩:=hw.yes;have hp:=hrd.place;rw [hpl] at hp;obtain ⟨v,hat,ho,hf⟩:=hrd;obtain ⟨k,hbk⟩:=hat.blk;have hC:=Cels.of_own (l:=post t) ho hf;obtain ⟨ad,cap,rfl⟩:∃ ad cap,v=.slice ad (post t).length cap:=by obtain ⟨a,c,e,_⟩:=hC;exact ⟨a,c,e⟩
  refine ⟨ad,cap,⟨hp,(rd3 hbk).2.2.1,(hb.block _ (by omega)).trans h0,(hb.block _ (by omega)).trans h1,(hb.block _ (by omega)).trans h2⟩,hf,ho,?_⟩;exact (a1V w s).trans (hb.mono (by omega)))
 unfold a1W at G HE;generalize e_ s=S at G HE hS;clear h0 h1 h2 h3 hsz hpl hr;go_enter_defers Tryz.func192,Tryz.ntmps192
 go_wp2_with (go_at_call 205;refine G.out.mono ?_;intro e w1 hw1;obtain ⟨he1,-,-,-⟩:=hw1.yes;subst he1;obtain ⟨ad,cap,⟨c1,c2,k0,k1,k2⟩,hC,hO,hb⟩:=HE.out w1 hw1;have hC:=hid hC;have hO:=hid hO;have d0:=c_ (o:=0) (v:=.slice none 0 0) k0 rfl;have d1:=c_ (o:=0) (v:=.int .i64 0) k1 rfl;have d2:=c_ (o:=0) (v:=.int .i64 0) k2 rfl;have f0:=i_ k0 0;have f1:=i_ k1 0;have f2:=i_ k2 0;clear k0 k1 k2)
 refine leaves_cons (f:=204) (args:=#[.pointer (some ⟨w.heap.size,0,none⟩),.pointer (some ⟨w.heap.size+1,0,none⟩),.pointer (some ⟨w.heap.size+2,0,none⟩)]) (by simp) (by simp [go_sem]) ?_;refine (a5w _ _ _ _).mono ?_;rintro e u' w'' ⟨rfl,rfl,rfl⟩
 have hO':b0S (((w1.setCell ⟨w.heap.size,0,none⟩ (.slice ad (post t).length cap)).setCell ⟨w.heap.size+1,0,none⟩ (.int .i64 0)).setCell ⟨w.heap.size+2,0,none⟩ (.int .i64 0)) (w.heap.size+3) (.slice ad (post t).length cap) (post t):=y_ hO.out fun k hk=>by
  have:=(hO.out.lt k hk).1
  rw [Below.heap_setCell _ _ _ _ (by simp;omega),Below.heap_setCell _ _ _ _ (by simp;omega),Below.heap_setCell _ _ _ _ (by simp;omega)]
 refine ⟨.tuple #[.slice ad (post t).length cap,.int .i64 0,.int .i64 0],by simp [results,Tryz.results192,go_sem,d0,d1,d2],_,rfl,⟨b2Y hO' (by omega),hC.out⟩,?_⟩;exact x_ (x_ (x_ hb _ 0 _ (Nat.le_refl _)) _ 0 _ (by omega)) _ 0 _ (by omega)
set_option maxRecDepth 20000 in
theorem b1i (s:Txt) (t:Rx) (w:World) (hs:s.length≤200) (hr:a0M s=some (t,[])) (hl:(post t).length≤60):Calls Tryz.prog 168 #[.string (e_ s)] w fun e w'=>∃ v,e=.returned (.tuple #[v,.int .i64 0,.int .i64 0])∧(b0S w' w.heap.size v (post t)∧∀ c∈post t,FitC c)∧Below w.heap.size w w':=by
 have G0:=b8Y s t w hs hr;have hS:=o_ s;have hz:¬ (200:Int)<((e_ s).size:Int):=by omega
 have hzz:(e_ s).size≤200:=by omega
 have G:Hid (Calls Tryz.prog 192 #[.string (e_ s)] w fun e w'=>∃ a c,e=.returned (.tuple #[.slice a (post t).length c,.int .i64 0,.int .i64 0])∧Hid (b0S w' w.heap.size (.slice a (post t).length c) (post t)∧∀ c∈post t,FitC c)∧Below w.heap.size w w'):=hid (G0.mono fun e w' ⟨v,he,hc,hb⟩=>by
  have hc':=hc;obtain ⟨a,c,hv⟩:=p_ hc.1;subst hv;exact ⟨a,c,he,hid hc',hb⟩)
 generalize e_ s=S at hS hz G hzz;have hlz:¬ (60:Int)<((post t).length:Int):=by omega
 clear hr hS G0;go_enter Tryz.func168,Tryz.ntmps168
 go_wp2_with (go_at_call 192;refine G.out.mono ?_;rintro e w1 ⟨a,c,rfl,hC,hb⟩)
 refine bodyPost_ret (v:=.tuple #[.slice a (post t).length c,.int .i64 0,.int .i64 0]) (by simp [results,Tryz.results168,go_sem]) rfl ⟨_,rfl,hC.out,hb⟩
set_option maxRecDepth 20000 in
theorem rxC (t:Txt) (w:World):Calls Tryz.prog 168 #[.string (e_ t)] w fun e w'=>∃ a m c n,e=.returned (.tuple #[.slice a m c,.int .i64 n,.int .i64 (rxA t).2])∧((rxA t).2=0→Cels w' (.slice a m c) (rxA t).1∧OffP (fun b=>b<w.heap.size) (.slice a m c))∧Below w.heap.size w w':=by
 by_cases h200:200<t.length
 · have e:rxA t=([],3):=if_pos h200
   rw [e];refine (b2V t w h200).mono ?_;rintro e w' ⟨a,c,rfl,hb⟩;exact ⟨a,0,c,0,rfl,fun h=>(by cases h),hb⟩
 · have h2:t.length≤200:=by omega
   by_cases hg:∃ r,a0M t=some (r,[])
   · obtain ⟨r,hr⟩:=hg
     by_cases h60:60<(post r).length
     · have e:rxA t=([],3):=by unfold rxA;rw [if_neg h200,hr];exact if_pos h60
       rw [e];refine (b2W t r w h2 hr h60).mono ?_;rintro e w' ⟨a,c,rfl,hb⟩;exact ⟨a,0,c,0,rfl,fun h=>(by cases h),hb⟩
     · have e:rxA t=(post r,0):=by unfold rxA;rw [if_neg h200,hr];exact if_neg h60
       rw [e];refine (b1i t r w h2 hr (by omega)).mono ?_;rintro e w' ⟨v,rfl,⟨hO,hF⟩,hb⟩;have hC:=Cels.of_own (l:=post r) hO hF;have hof:OffP (fun b=>b<w.heap.size) v:=b9h hO (fun b hb hb2=>by omega);obtain ⟨a,c,rfl⟩:=p_ hO;exact ⟨a,_,c,0,rfl,fun _=>⟨hC,hof⟩,hb⟩
   · have hn:∀ r,a0M t≠some (r,[]):=fun r hr=>hg ⟨r,hr⟩
     have e:rxA t=([],1):=by
      unfold rxA;rw [if_neg h200];split
      · rename_i r hr;exact absurd hr (hn r)
      · rfl
     rw [e];refine (b6c t w h2 hn).mono ?_;rintro e w' ⟨a,c,n,rfl,-,hb⟩;exact ⟨a,0,c,n,rfl,fun h=>(by cases h),hb⟩
end Go.Proofs.YtjgedijclkoemaaGreatDoor
