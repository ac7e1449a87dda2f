/- What AutoBuilds alone needs of layer 17: no statement of its own. -/
import Derived.Test.YtjgedijclkoemaaGreatDoorJ22
namespace Go.Proofs.YtjgedijclkoemaaGreatDoor
open Go.RowKit Go.Maps Go.Sort
def c4q (g:Gm) (w:World) (e:Ending) (w':World):Prop:=∃ v,e=.returned (.tuple #[v,.int .i64 (eB g)])∧Sts w' v (lB g)∧Below w.heap.size w w'
set_option maxRecDepth 20000 in
theorem b2N (g:Gm) (rv nv lv pv:Value) (w:World) (hV:GmV w rv nv lv pv g) (hb:BndG g) (hnl:∀ t∈g.allN,t.length≤1000000):Calls Tryz.prog 11 #[gmA rv nv lv pv g.start] w (c4q g w):=
 (a7o g rv nv lv pv w hV hb hnl).mono fun e w' h=>by
  by_cases h1:UsG g
  · by_cases h2:a0A g
    · obtain ⟨v,rfl,hS⟩:=h.1 h1 h2
      exact ⟨v,by rw [a2y ⟨h1,h2⟩],by rw [a1S ⟨h1,h2⟩];exact hS,h.2.2.2⟩
    · exact ⟨_,by rw [a8Y h1 h2];exact h.2.1 h1 h2,by rw [a7J fun h=>h2 h.2];exact Lst.nil w',h.2.2.2⟩
  · exact ⟨_,by rw [b4q h1];exact h.2.2.1 h1,by rw [a7J fun h=>h1 h.1];exact Lst.nil w',h.2.2.2⟩
set_option maxRecDepth 100000 in
set_option maxHeartbeats 8000000 in
theorem a4S (rv nv lv pv:Value) (g:Gm) (w:World) (HA:AutOK w) (HW:WkOK17 w) (h:GmV w rv nv lv pv g):Calls Tryz.prog 3 #[gmA rv nv lv pv g.start] w fun e w'=>e=.returned (.bool true)∧Below w.heap.size w w':=by
 have hKp:=hid (fun u (hu:Below w.heap.size w u)=>h.keep hu);have hB1:=al' w (.cells #[rv,nv,lv,pv,.int .i64 g.start] 27);have k1:=b_ w (.cells #[rv,nv,lv,pv,.int .i64 g.start] 27);obtain ⟨W,hW⟩:∃ x,w.alloc (.cells #[rv,nv,lv,pv,.int .i64 g.start] 27)=x:=⟨_,rfl⟩;rw [hW] at hB1 k1;have hk1:=hid (fun u (hu:Below W.heap.size W u)=>l_ (g_ k1 hu));have hB:=hid hB1;have GW:=hid (HW.wakes W hB1);by_cases hf:FitsH g
 · have GL:=hid (fun u (hu:Below w.heap.size w u)=>a0N _ _ _ _ g u (hKp.out u hu) hf)
   have GA:=hid (fun u (hu:Below w.heap.size w u)=>HA.build g rv nv lv pv u hu hf (hKp.out u hu));have GB:=hid (fun u (hu:Below w.heap.size w u)=>b2N g rv nv lv pv u (hKp.out u hu) hf.fits.bnd hf.fits.names);have GS:=hid (fun u va vb (ha:Sts u va (lB g)) (hb:Sts u vb (lB g))=>a5c va vb (lB g) (lB g) u ha hb (by have:=a5j g;omega) (by have:=a5j g;omega) (fun x hx=>by have:=a5k g x hx;omega) (fun x hx=>by have:=a5k g x hx;omega));rw [decide_eq_true rfl] at GS;clear h hB1 k1 HA HW hf;have GB:=hid (fun u hu=>(GB.out u hu).mono fun e w' (h:c4q g u e w')=>h);unfold c4q at GB;generalize lB g=L at *;generalize eB g=ez at *;generalize g.start=st at *;go_enter Tryz.func3,Tryz.ntmps3
   go_wp2_with (first
    | (go_at_call 8;refine GW.out.mono ?_;rintro e w1 ⟨rfl,hc1⟩;have h1:=hid hc1;obtain ⟨x0,x1,x2,x3,x4⟩:=hk1.out w1 h1.out;clear hc1)
    | (go_at_call 9;refine (GL.out _ (a_ hB.out h1.out)).mono ?_;rintro e w2 ⟨rfl,hc2⟩;have h2:=hid (a_ h1.out hc2);clear hc2;clear x0 x1 x2 x3 x4;obtain ⟨x0,x1,x2,x3,x4⟩:=hk1.out w2 h2.out)
    | (go_at_call 10;refine (GA.out _ (a_ hB.out h2.out)).mono ?_;rintro e w3 ⟨va,rfl,hS,hc3⟩;have h3:=hid (a_ h2.out hc3);have hS:=hid hS;clear hc3;clear x0 x1 x2 x3 x4;obtain ⟨x0,x1,x2,x3,x4⟩:=hk1.out w3 h3.out)
    | (go_at_call 11;refine (GB.out _ (a_ hB.out h3.out)).mono ?_;rintro e w4 ⟨vb,rfl,hM,hc4⟩;have h4:=hid (a_ h3.out hc4);have hM:=hid hM;have hS4:=hid (hS.out w4 hc4).1;clear hc4;clear x0 x1 x2 x3 x4)
    | (go_at_call 12;refine (GS.out _ va vb hS4.out hM.out).mono ?_;rintro e w5 ⟨rfl,hc5⟩;have h5:=hid (a_ h4.out hc5);clear hc5))
   go_ret;exact ⟨rfl,a_ hB.out h5.out⟩
 · have GL:=hid (fun u (hu:Below w.heap.size w u)=>a1L _ _ _ _ g u (hKp.out u hu) hf)
   clear h hB1 k1 HA HW hf;generalize g.start=st at *;go_enter Tryz.func3,Tryz.ntmps3
   go_wp2_with (first
    | (go_at_call 8;refine GW.out.mono ?_;rintro e w1 ⟨rfl,hc1⟩;have h1:=hid hc1;obtain ⟨x0,x1,x2,x3,x4⟩:=hk1.out w1 h1.out;clear hc1)
    | (go_at_call 9;refine (GL.out _ (a_ hB.out h1.out)).mono ?_;rintro e w2 ⟨rfl,hc2⟩;have h2:=hid (a_ h1.out hc2);clear hc2))
   go_ret;exact ⟨rfl,a_ hB.out h2.out⟩
end Go.Proofs.YtjgedijclkoemaaGreatDoor
