/- What the five laws of layer 17 share, part 7: no statement of its own. -/
import Derived.Test.YtjgedijclkoemaaGreatDoorJ6
namespace Go.Proofs.YtjgedijclkoemaaGreatDoor
open Go.RowKit
def a1k (q:Txt):Option (Nat×Nat×Txt):=
 match a0C a4M q with
 | none=>none
 | some (a,s1) =>
  if s1.head? == some 45 then
   match a0C a4M s1.tail with
   | none=>none
   | some (b,s2)=>if b<a then none else some (a,b,s2)
  else some (a,a,s1)
theorem a0F (n:Nat) (first:Bool) (acc:W4) (s:Txt):G_ (n+1) first acc s =
 if !first && s.head? == some 93 then some (acc,s.tail) else
 match a1k s with
 | none=>none
 | some (a,b,r)=>G_ n false (orB acc (H_ a b)) r:=by
 rw [G_];split
 · rfl
 unfold a1k;cases a0C a4M s with
 | none=>rfl
 | some x =>
  obtain ⟨a,s1⟩:=x;simp only
  split
  · cases a0C a4M s1.tail with
    | none=>rfl
    | some y =>
     obtain ⟨b,s2⟩:=y;simp only
     split <;> rfl
  · rfl
theorem a6v {q r:Txt} {a b:Nat} (h:a1k q=some (a,b,r)):r.length<q.length:=by
 unfold a1k at h;split at h
 · cases h
 rename_i a' s1 hs
 have h1:=a1E hs;split at h
 · split at h
   · cases h
   rename_i b' s2 hs2
   have h2:=a1E hs2;have h3:s1.tail.length≤s1.length:=by simp
   split at h
   · cases h
   · injection h with h;injection h with _ h;injection h with _ h;subst h;omega
 · injection h with h;injection h with _ h;injection h with _ h;subst h;exact h1
theorem a5q:∀ (n:Nat) (first:Bool) (acc:W4) (s:Txt),s.length+1≤n→G_ n first acc s=G_ (n+1) first acc s
 | 0,_,_,_,h=>by omega
 | n+1,first,acc,s,h=>by
  rw [a0F,a0F (n+1)];split
  · rfl
  cases e:a1k s with
  | none=>rfl
  | some x =>
   obtain ⟨a,b,r⟩:=x
   have:=a6v e
   exact a5q n false _ r (by omega)
theorem a5p {n m:Nat} {first:Bool} {acc:W4} {s:Txt} (h:s.length+1≤n) (h':n≤m):G_ n first acc s=G_ m first acc s:=by
 induction h' with
 | refl=>rfl
 | step hm ih =>
  rename_i m
  have hm':n≤m:=hm;exact ih.trans (a5q m first acc s (by omega))
theorem a4c {left:UInt8→Bool} {q r:Txt} {b:Nat} (h:a0C left q=some (b,r)):b<256:=by
 cases q with
 | nil=>cases h
 | cons c q =>
  simp only [a0C] at h;have hc:=c.toNat_lt;split at h
  · cases h
  split at h
  · cases q with
    | nil=>cases h
    | cons d q =>
     have hd:=d.toNat_lt;by_cases h4:d=120
     · subst h4
       rw [b0y] at h;cases e1:b1y q with
       | none=>rw [e1] at h;cases h
       | some x =>
        obtain ⟨a,r1⟩:=x
        have:=a6x e1
        rw [e1] at h;simp only at h
        cases e2:b1y r1 with
        | none=>rw [e2] at h;cases h
        | some y =>
         obtain ⟨b',r2⟩:=y
         have:=a6x e2
         rw [e2] at h;injection h with h;injection h with h _
         omega
     · simp only [a6W] at h
       rw [if_neg h4] at h;split at h
       · injection h with h;injection h with h _;omega
       split at h
       · injection h with h;injection h with h _;omega
       split at h
       · injection h with h;injection h with h _;omega
       split at h
       · injection h with h;injection h with h _;omega
       · cases h
  split at h
  · cases h
  · injection h with h;injection h with h _;omega
abbrev a2w (n:Int):Ending:=.panicked [{ v:=.iface 239 (.int .i64 n),recovered:=false }]
def b7G (res:Option (Nat×Nat×Txt)) (w:World) (rb:Nat) (v:Value) (s:Txt):Ending→World→Prop:=fun e w' =>
 (match res with
  | some (a,b,q)=>e=.returned (a5E (H_ a b))∧At w' rb v s q
  | none=>∃ n,e=a2w n)∧Kept (f_ rb) w w'
theorem c0I {w u:World} {F:Nat→Prop} (h:Kept F w u) (o:Obj):Kept F w (u.alloc o):=h.trans (Kept.of_below (al' u o))
theorem a0H {F:Nat→Prop} {w u:World} (h:Kept F w u) {b:Nat} (S:W4) (hb:b<w.heap.size→F b):Kept F w (put4 u b S):=by
 unfold put4;exact (((h.setCell (a:=⟨b,0,none⟩) hb).setCell (a:=⟨b,1,none⟩) hb).setCell (a:=⟨b,2,none⟩) hb).setCell (a:=⟨b,3,none⟩) hb
theorem At.put4 {w:World} {rb b:Nat} {v:Value} {s q:Txt} (h:At w rb v s q) (S:W4) (hne:rb≠b):At (Go.Proofs.YtjgedijclkoemaaGreatDoor.put4 w b S) rb v s q:=by
 obtain ⟨pre,h1,h2⟩:=h;refine ⟨pre,h1,?_⟩
 show (World.setCell (World.setCell (World.setCell (World.setCell w _ _) _ _) _ _) _ _).heap[rb]?=_
 rw [Below.heap_setCell _ _ _ _ hne,Below.heap_setCell _ _ _ _ hne,Below.heap_setCell _ _ _ _ hne,Below.heap_setCell _ _ _ _ hne];exact h2
theorem Blk.kept {F:Nat→Prop} {w w':World} {b:Nat} {S:W4} (h:Blk w b S) (hk:Kept F w w') (hn:¬ F b):Blk w' b S:=hk.blk h hn
set_option maxRecDepth 20000 in
set_option maxHeartbeats 2000000 in
theorem c4b {w:World} {rb:Nat} {v:Value} {s q:Txt} (h:At w rb v s q) (hs:s.length≤200) :
 Calls Tryz.prog 255 #[.pointer (some ⟨rb,0,none⟩)] w (b7G (a1k q) w rb v s):=by
 have hrb:rb<w.heap.size:=by obtain ⟨_,_,hb⟩:=h;exact u_ hb
 have hpl:=h.place;have h1:=h.keep (al' w (.cells #[.int .u64 0,.int .u64 0,.int .u64 0,.int .u64 0] 202));have GT:=hid (fun u q (hat:At u rb v s q)=>c0W hat hs b4L a4M a8w);have b0:Hid (Blk (w.alloc (.cells #[.int .u64 0,.int .u64 0,.int .u64 0,.int .u64 0] 202)) w.heap.size n_):=hid (b_ w _);have k0:Hid (Kept (f_ rb) w (w.alloc (.cells #[.int .u64 0,.int .u64 0,.int .u64 0,.int .u64 0] 202))):=hid (Kept.of_below (al' w _));have hne:¬ f_ rb w.heap.size:=fun e=>by have:w.heap.size=rb:=e;omega
 have hpl1:=h1.place;have h1:=hid h1;generalize plc s q=p at hpl hpl1;cases e1:a0C a4M q with
 | none =>
  have GT1:=hid (fun u (hat:At u rb v s q)=>(show Calls _ _ _ _ (Said (plc s q) none u rb v s) by have:=GT.out u q hat;rwa [e1] at this));have hi:a1k q=none:=by unfold a1k;rw [e1]
  rw [hi];clear e1 GT hi h;go_enter Tryz.func255,Tryz.ntmps255
  go_wp2_with (first
   | (go_at_call 254;refine (GT1.out _ h1.out).mono ?_;intro e w1 hw1;obtain ⟨he1,hk1⟩:=hw1.no;subst he1))
  exact ⟨rfl,⟨_,rfl⟩,k0.out.trans hk1⟩
 | some x =>
  obtain ⟨a,s1⟩:=x;have ha:=a4c e1;have GT1:=hid (fun u (hat:At u rb v s q)=>(show Calls _ _ _ _ (Said (plc s q) (some (a,s1)) u rb v s) by have:=GT.out u q hat;rwa [e1] at this));by_cases h45:s1.head?=some 45
  · obtain ⟨s1',rfl⟩:∃ s1',s1=45 :: s1':=by
     cases s1 with
     | nil=>cases h45
     | cons c t=>injection h45 with h;subst h;exact ⟨t,rfl⟩
    have GK:=hid (fun u (hat:At u rb v s (45 :: s1'))=>a5K hat hs);rw [show ((45:UInt8).toNat:Int)=45 from rfl] at GK;cases e2:a0C a4M s1' with
    | none =>
     have GT2:=hid (fun u (hat:At u rb v s s1')=>(show Calls _ _ _ _ (Said (plc s s1') none u rb v s) by have:=GT.out u s1' hat;rwa [e2] at this));have hi:a1k q=none:=by unfold a1k;rw [e1];simp [e2]
     rw [hi];clear e1 e2 GT hi h h45;go_enter Tryz.func255,Tryz.ntmps255
     go_wp2_with (first
      | (go_at_call 254;refine (GT2.out _ hat2.out).mono ?_;intro e w3 hw3;obtain ⟨he3,hk3⟩:=hw3.no;subst he3)
      | (go_at_call 254;refine (GT1.out _ h1.out).mono ?_;intro e w1 hw1;obtain ⟨he1,hat1,hk1⟩:=hw1.yes;subst he1;have hat1:=hid hat1)
      | (go_at_call 220;refine (GK.out _ hat1.out).mono ?_;rintro e w2 ⟨rfl,hat2,hk2⟩;have hat2:=hid hat2))
     exact ⟨rfl,⟨_,rfl⟩,((k0.out.trans hk1).trans hk2).trans hk3⟩
    | some y =>
     obtain ⟨b,s2⟩:=y;have hb:=a4c e2;have GT2:=hid (fun u (hat:At u rb v s s1')=>(show Calls _ _ _ _ (Said (plc s s1') (some (b,s2)) u rb v s) by have:=GT.out u s1' hat;rwa [e2] at this));by_cases hlt:b<a
     · have hi:a1k q=none:=by unfold a1k;rw [e1];simp [e2,hlt]
       have hltz:(b:Int)<(a:Int):=by omega
       rw [hi];clear e1 e2 GT hi h h45;go_enter Tryz.func255,Tryz.ntmps255
       go_wp2_with (first
        | (go_at_call 254;refine (GT2.out _ hat2.out).mono ?_;intro e w3 hw3;obtain ⟨he3,hat3,hk3⟩:=hw3.yes;subst he3)
        | (go_at_call 254;refine (GT1.out _ h1.out).mono ?_;intro e w1 hw1;obtain ⟨he1,hat1,hk1⟩:=hw1.yes;subst he1;have hat1:=hid hat1)
        | (go_at_call 220;refine (GK.out _ hat1.out).mono ?_;rintro e w2 ⟨rfl,hat2,hk2⟩;have hat2:=hid hat2))
       exact ⟨rfl,⟨_,rfl⟩,((k0.out.trans hk1).trans hk2).trans hk3⟩
     · have hi:a1k q=some (a,b,s2):=by unfold a1k;rw [e1];simp [e2,hlt]
       have hltz:¬ (b:Int)<(a:Int):=by omega
       have GS:=hid (fun u=>c1g a b u ha hb);rw [hi]
       show Calls _ _ _ _ fun e w'=>(e=.returned (a5E (H_ a b))∧At w' rb v s s2)∧Kept (f_ rb) w w'
       clear e1 e2 GT hi h h45;generalize H_ a b=R at GS ⊢;obtain ⟨r0,r1,r2,r3⟩:=R;go_enter Tryz.func255,Tryz.ntmps255
       go_wp2_with (first
        | (go_at_call 254;refine (GT2.out _ hat2.out).mono ?_;intro e w3 hw3;obtain ⟨he3,hat3,hk3⟩:=hw3.yes;subst he3;have hat3:=hid hat3;have b3:=hid (((b0.out.kept hk1 hne).kept hk2 hne).kept hk3 hne))
        | (go_at_call 254;refine (GT1.out _ h1.out).mono ?_;intro e w1 hw1;obtain ⟨he1,hat1,hk1⟩:=hw1.yes;subst he1;have hat1:=hid hat1)
        | (go_at_call 220;refine (GK.out _ hat1.out).mono ?_;rintro e w2 ⟨rfl,hat2,hk2⟩;have hat2:=hid hat2)
        | (go_at_call 262;refine (GS.out _).mono ?_;rintro e w4 ⟨rfl,hb4⟩;have b4:=hid (b3.out.keep hb4);have hat4:=hid (hat3.out.keep hb4);obtain ⟨z0,z1,z2,z3,z4,z5,z6,z7⟩:=Blk.cells (sa:=0) (sb:=0) (sc:=0) (sd:=0) b4.out))
       refine bodyPost_ret (v:=.agg #[.int .u64 r0,.int .u64 r1,.int .u64 r2,.int .u64 r3]) (by simp [results,Tryz.results255,go_sem,z0,z1,z2,z3]) rfl ⟨⟨rfl,?_⟩,?_⟩
       · exact hat4.out.put4 ⟨r0,r1,r2,r3⟩ (by omega)
       · exact a0H ((((k0.out.trans hk1).trans hk2).trans hk3).trans (Kept.of_below hb4)) ⟨r0,r1,r2,r3⟩ (fun h=>by omega)
  · have hno:(s1.head? == some 45)=false:=by simpa using h45
    have GK:=hid (fun u (hat:At u rb v s s1)=>a9q hat hs 45 hno);rw [show ((45:UInt8).toNat:Int)=45 from rfl] at GK;have hi:a1k q=some (a,a,s1):=by unfold a1k;rw [e1];simp [h45]
    have GS:=hid (fun u=>c1g a a u ha ha);rw [hi]
    show Calls _ _ _ _ fun e w'=>(e=.returned (a5E (H_ a a))∧At w' rb v s s1)∧Kept (f_ rb) w w'
    clear e1 GT hi h h45 hno;generalize H_ a a=R at GS ⊢;obtain ⟨r0,r1,r2,r3⟩:=R;go_enter Tryz.func255,Tryz.ntmps255
    go_wp2_with (first
     | (go_at_call 254;refine (GT1.out _ h1.out).mono ?_;intro e w1 hw1;obtain ⟨he1,hat1,hk1⟩:=hw1.yes;subst he1;have hat1:=hid hat1;have b1:=hid (b0.out.kept hk1 hne))
     | (go_at_call 220;refine (GK.out _ hat1.out).mono ?_;rintro e w2 ⟨rfl,hb2⟩)
     | (go_at_call 262;refine (GS.out _).mono ?_;rintro e w4 ⟨rfl,hb4⟩;have b4:=hid ((b1.out.keep hb2).keep hb4);have hat4:=hid ((hat1.out.keep hb2).keep hb4);obtain ⟨z0,z1,z2,z3,z4,z5,z6,z7⟩:=Blk.cells (sa:=0) (sb:=0) (sc:=0) (sd:=0) b4.out))
    refine bodyPost_ret (v:=.agg #[.int .u64 r0,.int .u64 r1,.int .u64 r2,.int .u64 r3]) (by simp [results,Tryz.results255,go_sem,z0,z1,z2,z3]) rfl ⟨⟨rfl,?_⟩,?_⟩
    · exact hat4.out.put4 ⟨r0,r1,r2,r3⟩ (by omega)
    · exact a0H (((k0.out.trans hk1).trans (Kept.of_below hb2)).trans (Kept.of_below hb4)) ⟨r0,r1,r2,r3⟩ (fun h=>by omega)
def b6b (w:World) (rb:Nat) (n:Nat):Nat:=match w.cell? ⟨rb,1,none⟩ with
 | some (.int _ z)=>n - z.toNat
 | _=>0
theorem At.left {w:World} {rb:Nat} {v:Value} {s q:Txt} (h:At w rb v s q):b6b w rb s.length=q.length:=by
 unfold b6b;rw [h.place];obtain ⟨pre,hp,_⟩:=h;unfold plc;rw [hp];simp
theorem b9n {S:W4} (h:Fit4 S):orB n_ S=S:=(a7E h fun x _=>by rw [a0t];simp).symm
theorem a2h (a b:Nat):Fit4 (H_ a b):=a1b _
theorem b7X (S T:W4):Fit4 (orB S T):=a1b _
def SaidS (res:Option (W4×Txt)) (w:World) (rb:Nat) (v:Value) (s:Txt):Ending→World→Prop:=fun e w' =>
 (match res with
  | some (S,q)=>e=.returned (a5E S)∧At w' rb v s q
  | none=>∃ n,e=a2w n)∧Kept (f_ rb) w w'
theorem SaidS.mk_no {res:Option (W4×Txt)} {w w':World} {rb:Nat} {v:Value} {s:Txt} (h:res=none) (n:Int) (hk:Kept (f_ rb) w w'):SaidS res w rb v s (a2w n) w':=by subst h;exact ⟨⟨n,rfl⟩,hk⟩
theorem SaidS.mk_yes {res:Option (W4×Txt)} {w w':World} {rb:Nat} {v:Value} {s q:Txt} {S:W4} (h:res=some (S,q)) (hat:At w' rb v s q) (hk:Kept (f_ rb) w w'):SaidS res w rb v s (.returned (a5E S)) w':=by subst h;exact ⟨⟨rfl,hat⟩,hk⟩
def c0h (oth:Bool) (R:Option (W4×Txt)):Option (W4×Txt):=match R with
 | none=>none
 | some (S,r)=>if (if oth then a4I S else S)=n_ then none else some (if oth then a4I S else S,r)
theorem a5v (n:Nat) (q:Txt):a0K n q=c0h (q.head? == some 94) (G_ n true n_ (if q.head? == some 94 then q.tail else q)):=by
 unfold a0K c0h;cases q.head? == some 94
 · simp only [Bool.false_eq_true,if_false]
   cases G_ n true n_ q with
   | none=>rfl
   | some x=>rfl
 · simp only [if_true]
   cases G_ n true n_ q.tail with
   | none=>rfl
   | some x=>rfl
set_option maxRecDepth 20000 in
theorem b0z (a b c d:Nat) {r:Bool} (h:decide ((⟨a,b,c,d⟩:W4)=n_)=r) (w:World):(Op.equalIn 10000 202 (.agg #[.int .u64 (a:Int),.int .u64 (b:Int),.int .u64 (c:Int),.int .u64 (d:Int)]) (.agg #[.int .u64 0,.int .u64 0,.int .u64 0,.int .u64 0])).run Tryz.prog w=.ok r w:=by
 rw [← h];exact b4o 9998 a b c d 0 0 0 0 w
set_option maxRecDepth 20000 in
set_option maxHeartbeats 4000000 in
theorem c2P {w:World} {rb:Nat} {v:Value} {s q:Txt} (h:At w rb v s q) (hs:s.length≤200) (p:Int) :
 Calls Tryz.prog 251 #[.pointer (some ⟨rb,0,none⟩),.int .i64 p] w (SaidS (a0K (q.length+1) q) w rb v s):=by
 have hrb:rb<w.heap.size:=by obtain ⟨_,_,hb⟩:=h;exact u_ hb
 rw [a5v];have GI:=hid (fun u q (hat:At u rb v s q)=>c4b hat hs);have h1:=hid (h.keep (al' w (.cells #[.int .u64 0,.int .u64 0,.int .u64 0,.int .u64 0] 202)));have b0:Hid (Blk (w.alloc (.cells #[.int .u64 0,.int .u64 0,.int .u64 0,.int .u64 0] 202)) w.heap.size n_):=hid (b_ w _);have k0:Hid (Kept (f_ rb) w (w.alloc (.cells #[.int .u64 0,.int .u64 0,.int .u64 0,.int .u64 0] 202))):=hid (Kept.of_below (al' w _));have hne:¬ f_ rb w.heap.size:=fun e=>by have:w.heap.size=rb:=e;omega
 have GT:Hid (Calls Tryz.prog 220 #[.pointer (some ⟨rb,0,none⟩),.int .u8 94] (w.alloc (.cells #[.int .u64 0,.int .u64 0,.int .u64 0,.int .u64 0] 202)) fun e w'=>e=.returned (.bool (q.head? == some 94))∧At w' rb v s (if q.head? == some 94 then q.tail else q)∧Kept (f_ rb) (w.alloc (.cells #[.int .u64 0,.int .u64 0,.int .u64 0,.int .u64 0] 202)) w'):=hid (by
  by_cases h94:q.head?=some 94
  · obtain ⟨q',rfl⟩:∃ q',q=94 :: q':=by
     cases q with
     | nil=>cases h94
     | cons c t=>injection h94 with h;subst h;exact ⟨t,rfl⟩
    exact (a5K h1.out hs).mono fun e w' hh=>hh
  · have hno:(q.head? == some 94)=false:=by simpa using h94
    rw [hno];exact (a9q h1.out hs 94 hno).mono fun e w' hh=>⟨hh.1,h1.out.keep hh.2,Kept.of_below hh.2⟩)
 have hlen:(if q.head? == some 94 then q.tail else q).length+1≤q.length+1:=by split <;> simp
 generalize (q.head? == some 94)=oth at GT hlen ⊢;generalize hn0:q.length+1=n0 at hlen ⊢;generalize (if oth=true then q.tail else q)=q1 at GT hlen ⊢;cases n0 with
 | zero=>omega
 | succ n0 =>
 rw [a0F];simp only [Bool.not_true,Bool.false_and,Bool.false_eq_true,if_false];cases e1:a1k q1 with
 | none =>
  have GI1:=hid (fun u (hat:At u rb v s q1)=>(show Calls _ _ _ _ (b7G none u rb v s) by have:=GI.out u q1 hat;rwa [e1] at this))
  show Calls _ _ _ _ (SaidS none w rb v s)
  clear e1 GI h hn0;go_enter Tryz.func251,Tryz.ntmps251
  go_wp2_with (first
   | (go_at_call 220;refine GT.out.mono ?_;rintro e w1 ⟨rfl,hat1,hk1⟩;have hat1:=hid hat1)
   | (go_at_call 255;refine (GI1.out _ hat1.out).mono ?_;rintro e w2 ⟨⟨n,he⟩,hk2⟩;subst he))
  exact ⟨rfl,⟨_,rfl⟩,(k0.out.trans hk1).trans hk2⟩
 | some x =>
  obtain ⟨a,b,r1⟩:=x;have hr1:=a6v e1;have GI1:=hid (fun u (hat:At u rb v s q1)=>(show Calls _ _ _ _ (b7G (some (a,b,r1)) u rb v s) by have:=GI.out u q1 hat;rwa [e1] at this))
  show Calls _ _ _ _ (SaidS (c0h oth (G_ n0 false (orB n_ (H_ a b)) r1)) w rb v s)
  rw [b9n (a2h a b)];obtain ⟨R,hR⟩:∃ R,Hid (G_ n0 false (H_ a b) r1=R):=⟨_,hid rfl⟩;rw [hR.out];have hR1:Hid (G_ (r1.length+1) false (H_ a b) r1=R):=hid ((a5p (Nat.le_refl _) (by omega)).trans hR.out);have hS1:=hid (a2h a b);clear e1 h hn0 hR;have GI2:Hid (∀ u (hat:At u rb v s q1),Calls Tryz.prog 255 #[.pointer (some ⟨rb,0,none⟩)] u fun e w'=>(e=.returned (a5E (H_ a b))∧At w' rb v s r1)∧Kept (f_ rb) u w'):=GI1;clear GI1;generalize H_ a b=S1 at GI2 hR1 hS1;obtain ⟨x0,x1,x2,x3⟩:=S1;have GK1:=hid (fun u q (hat:At u rb v s q) (hq:(q.head? == some 93)=false)=>a9q hat hs 93 hq);have GK2:=hid (fun u r (hat:At u rb v s (93 :: r))=>a5K hat hs);rw [show ((93:UInt8).toNat:Int)=93 from rfl] at GK1 GK2;go_enter Tryz.func251,Tryz.ntmps251
  go_wp2_with (first
   | (go_at_call 220;refine GT.out.mono ?_;rintro e w1 ⟨rfl,hat1,hk1⟩;have hat1:=hid hat1)
   | (go_at_call 255;refine (GI2.out _ hat1.out).mono ?_;rintro e w2 ⟨⟨he,hat2⟩,hk2⟩;subst he;have hat2:=hid hat2;have hsz2:w.heap.size<w2.heap.size:=Nat.lt_of_lt_of_le (by simp) (Nat.le_trans hk1.size hk2.size)))
  go_loopw [] (fun wr=>∃ S q',Fit4 S∧Hid (At wr rb v s q')∧Hid (Blk wr w2.heap.size S)∧Hid (Blk wr w.heap.size n_)∧Kept (f_ rb) w wr∧Hid (G_ (q'.length+1) false S q'=R)) (fun wr=>b6b wr rb s.length)
  case atStart =>
   exact ⟨⟨x0,x1,x2,x3⟩,r1,hS1.out,hid (hat2.out.keep (al' w2 _)),hid (b_ w2 _),hid ((((b0.out.kept hk1 hne).kept hk2 hne)).keep (al' w2 _)),c0I ((k0.out.trans hk1).trans hk2) _,hR1⟩
  case round =>
   obtain ⟨S,q',hfS,hat,bS,bN,hkw,hRq⟩:=hrel;have hne2:¬ f_ rb w2.heap.size:=fun e=>by have:w2.heap.size=rb:=e;omega
   have hmu:=hat.out.left;by_cases h93:q'.head?=some 93
   · obtain ⟨r,rfl⟩:∃ r,q'=93 :: r:=by
      cases q' with
      | nil=>cases h93
      | cons c t=>injection h93 with h;subst h;exact ⟨t,rfl⟩
     have hRv:R=some (S,r):=by rw [← hRq.out,a0F];rfl
     have GT':=hid (GK2.out wr r hat.out);have hRv':=hid hRv;clear h93 hRv hRq hmu hR1 GI GI2 GK1 GK2 GT hat;cases oth with
     | false =>
      have hfin:Hid (c0h false R=if S=n_ then none else some (S,r)):=hid (by rw [hRv'.out];rfl);obtain ⟨a0,a1,a2,a3⟩:=S;by_cases hz:(⟨a0,a1,a2,a3⟩:W4)=n_
      · have hfin:=hid (hfin.out.trans (if_pos hz))
        have hq:=b0z a0 a1 a2 a3 (decide_eq_true hz);clear hz
        go_wp2_with (first
         | (go_at_call 220;refine GT'.out.mono ?_;rintro e w3 ⟨rfl,hat3,hk3⟩;have b3:=hid (bS.out.kept hk3 hne2);obtain ⟨s0,s1,s2,s3,s4,s5,s6,s7⟩:=b3.out.cells))
        exact ⟨rfl,SaidS.mk_no hfin.out _ (hkw.trans hk3)⟩
      · have hfin:=hid (hfin.out.trans (if_neg hz))
        have hq:=b0z a0 a1 a2 a3 (decide_eq_false hz);clear hz
        go_wp2_with (first
         | (go_at_call 220;refine GT'.out.mono ?_;rintro e w3 ⟨rfl,hat3,hk3⟩;have hat3:=hid hat3;have b3:=hid (bS.out.kept hk3 hne2);have c3:=hid (bN.out.kept hk3 hne);obtain ⟨s0,s1,s2,s3,s4,s5,s6,s7⟩:=b3.out.cells;obtain ⟨z0,z1,z2,z3,z4,z5,z6,z7⟩:=Blk.cells (sa:=0) (sb:=0) (sc:=0) (sd:=0) c3.out))
        refine bodyPost_ret (v:=.agg #[.int .u64 a0,.int .u64 a1,.int .u64 a2,.int .u64 a3]) (by simp [results,Tryz.results251,go_sem,z0,z1,z2,z3]) rfl (SaidS.mk_yes (S:=⟨a0,a1,a2,a3⟩) hfin.out (hat3.out.put4 ⟨a0,a1,a2,a3⟩ (by omega)) (a0H (hkw.trans hk3) ⟨a0,a1,a2,a3⟩ (fun h=>by omega)))
     | true =>
      have hfin:Hid (c0h true R=if a4I S=n_ then none else some (a4I S,r)):=hid (by rw [hRv'.out];rfl);obtain ⟨a0,a1,a2,a3⟩:=S;have GN:=hid (fun u=>c4v a0 a1 a2 a3 u hfS);generalize a4I ⟨a0,a1,a2,a3⟩=T at GN hfin;obtain ⟨t0,t1,t2,t3⟩:=T;by_cases hz:(⟨t0,t1,t2,t3⟩:W4)=n_
      · have hfin:=hid (hfin.out.trans (if_pos hz))
        have hq:=b0z t0 t1 t2 t3 (decide_eq_true hz);clear hz
        go_wp2_with (first
         | (go_at_call 220;refine GT'.out.mono ?_;rintro e w3 ⟨rfl,hat3,hk3⟩;have b3:=hid (bS.out.kept hk3 hne2);obtain ⟨s0,s1,s2,s3,s4,s5,s6,s7⟩:=b3.out.cells)
         | (go_at_call 257;refine (GN.out _).mono ?_;rintro e w4 ⟨rfl,hb4⟩;have b4:=hid (b3.out.keep hb4);obtain ⟨m0,m1,m2,m3,m4,m5,m6,m7⟩:=b4.out.cells))
        exact ⟨rfl,SaidS.mk_no hfin.out _ (a0H (b:=w2.heap.size) ((hkw.trans hk3).trans (Kept.of_below hb4)) ⟨t0,t1,t2,t3⟩ (fun h=>by omega))⟩
      · have hfin:=hid (hfin.out.trans (if_neg hz))
        have hq:=b0z t0 t1 t2 t3 (decide_eq_false hz);clear hz;have hnn:¬ w.heap.size=w2.heap.size:=by omega
        go_wp2_with (first
         | (go_at_call 220;refine GT'.out.mono ?_;rintro e w3 ⟨rfl,hat3,hk3⟩;have hat3:=hid hat3;have b3:=hid (bS.out.kept hk3 hne2);have c3:=hid (bN.out.kept hk3 hne);obtain ⟨s0,s1,s2,s3,s4,s5,s6,s7⟩:=b3.out.cells)
         | (go_at_call 257;refine (GN.out _).mono ?_;rintro e w4 ⟨rfl,hb4⟩;have hat4:=hid (hat3.out.keep hb4);have b4:=hid (b3.out.keep hb4);have c4:=hid (c3.out.keep hb4);obtain ⟨m0,m1,m2,m3,m4,m5,m6,m7⟩:=b4.out.cells;obtain ⟨z0,z1,z2,z3,z4,z5,z6,z7⟩:=Blk.cells (sa:=0) (sb:=0) (sc:=0) (sd:=0) c4.out))
        refine bodyPost_ret (v:=.agg #[.int .u64 t0,.int .u64 t1,.int .u64 t2,.int .u64 t3]) (by simp [results,Tryz.results251,go_sem,z0,z1,z2,z3]) rfl (SaidS.mk_yes (S:=⟨t0,t1,t2,t3⟩) hfin.out ((hat4.out.put4 ⟨t0,t1,t2,t3⟩ (by omega)).put4 ⟨t0,t1,t2,t3⟩ (by omega)) (a0H (a0H ((hkw.trans hk3).trans (Kept.of_below hb4)) ⟨t0,t1,t2,t3⟩ (fun h=>by omega)) ⟨t0,t1,t2,t3⟩ (fun h=>by omega)))
   · have hno:(q'.head? == some 93)=false:=by simpa using h93
     have GT':=hid (GK1.out wr q' hat.out hno);have hit:=a0F q'.length false S q';rw [hRq.out,hno] at hit;simp only [Bool.and_false,Bool.false_eq_true,if_false] at hit;cases e2:a1k q' with
     | none =>
      rw [e2] at hit;have GI':=hid (fun u (hat:At u rb v s q')=>(show Calls _ _ _ _ (b7G none u rb v s) by have:=GI.out u q' hat;rwa [e2] at this));have hfin:Hid (c0h oth R=none):=hid (by rw [hit];rfl);clear h93 hRq hmu hR1 GI GI2 GK1 GK2 GT hit e2 hno;obtain ⟨a0,a1,a2,a3⟩:=S
      go_wp2_with (first
       | (go_at_call 220;refine GT'.out.mono ?_;rintro e w3 ⟨rfl,hb3⟩;have hd3:Below w3.heap.size w3 w3.drew:=(Below.refl _ _).drew;have hat3:=hid ((hat.out.keep hb3).keep hd3);have b3:=hid ((bS.out.keep hb3).keep hd3);obtain ⟨s0,s1,s2,s3,s4,s5,s6,s7⟩:=b3.out.cells))
      have HI:Hid (∀ (Q:Exit→Act→World→Prop) (a:Act) (R':Ending→World→Prop),(∀ n w4,Kept (f_ rb) w3.drew w4→R' (a2w n) w4)→Calls Tryz.prog 255 #[.pointer (some ⟨rb,0,none⟩)] w3.drew R'):=hid (fun Q a R' hR'=>(GI'.out _ hat3.out).mono (by rintro e w4 ⟨⟨n,he⟩,hk4⟩;subst he;exact hR' n w4 hk4));refine wp_region_any (by kernel_rfl) ?_
      change wpAny _ _ _ _ _ _ _ (World.drew _)
      refine wpAny_take (i:=1) (v:=.pointer (some ⟨rb,0,none⟩)) rfl (by kernel_rfl) (by kernel_rfl) (by kernel_rfl) (fun _ _ _ h=>h) (Or.inl ⟨by rfl,fun w=>by go_simp⟩) ?_;refine wpAny_ready (rs:=[0,2]) (by kernel_rfl) (by simp) ?_;refine AllReady.cons rfl (fun K hK=>?_) (AllReady.cons rfl (fun K hK=>?_) AllReady.nil)
      · go_simp
        refine hK _ _ ?_;clear hK K;refine wpAny_ready (rs:=[2]) (by kernel_rfl) (by simp) ?_;refine AllReady.cons rfl (fun K hK=>?_) AllReady.nil;go_simp
        refine HI.out (fun _ _ _=>True) ⟨#[],[]⟩ _ ?_;intro n w4 hk4;exact ⟨rfl,SaidS.mk_no hfin.out _ (((hkw.trans (Kept.of_below hb3)).trans (Kept.of_below hd3)).trans hk4)⟩
      · go_simp
        refine HI.out (fun _ _ _=>True) ⟨#[],[]⟩ _ ?_;intro n w4 hk4;exact ⟨rfl,SaidS.mk_no hfin.out _ (((hkw.trans (Kept.of_below hb3)).trans (Kept.of_below hd3)).trans hk4)⟩
     | some y =>
      obtain ⟨a',b',r2⟩:=y;rw [e2] at hit;have hlt2:=a6v e2;have hit2:R=G_ q'.length false (orB S (H_ a' b')) r2:=hit;have hR2:Hid (G_ (r2.length+1) false (orB S (H_ a' b')) r2=R):=hid ((a5p (Nat.le_refl _) (by omega)).trans hit2.symm);have GI':Hid (∀ u (hat:At u rb v s q'),Calls Tryz.prog 255 #[.pointer (some ⟨rb,0,none⟩)] u fun e w'=>(e=.returned (a5E (H_ a' b'))∧At w' rb v s r2)∧Kept (f_ rb) u w'):=hid (fun u hat=>by have:=GI.out u q' hat;rw [e2] at this;exact this);obtain ⟨a0,a1,a2,a3⟩:=S;have hfp:=a2h a' b';have hf2:=hid (b7X ⟨a0,a1,a2,a3⟩ (H_ a' b'));generalize H_ a' b'=P at GI' hR2 hfp hf2;obtain ⟨p0,p1,p2,p3⟩:=P;have GO:=hid (fun u=>orC a0 a1 a2 a3 p0 p1 p2 p3 u hfS hfp);generalize orB ⟨a0,a1,a2,a3⟩ ⟨p0,p1,p2,p3⟩=T at GO hR2 hf2;obtain ⟨t0,t1,t2,t3⟩:=T;have hmu:=hid hmu;have hlt2:=hid hlt2;clear h93 hRq hR1 GI GI2 GK1 GK2 GT hit hit2 e2 hno
      go_wp2_with (first
       | (go_at_call 220;refine GT'.out.mono ?_;rintro e w3 ⟨rfl,hb3⟩;have hd3:Below w3.heap.size w3 w3.drew:=(Below.refl _ _).drew;have hat3:=hid ((hat.out.keep hb3).keep hd3);have b3:=hid ((bS.out.keep hb3).keep hd3);have c3:=hid ((bN.out.keep hb3).keep hd3);obtain ⟨s0,s1,s2,s3,s4,s5,s6,s7⟩:=b3.out.cells))
      go_region_with (first
       | (go_at_call 255;refine (GI'.out _ hat3.out).mono ?_;rintro e w4 ⟨⟨he,hat4⟩,hk4⟩;subst he;have hat4:=hid hat4;have b4:=hid (b3.out.kept hk4 hne2);have c4:=hid (c3.out.kept hk4 hne);obtain ⟨m0,m1,m2,m3,m4,m5,m6,m7⟩:=b4.out.cells)
       | (go_at_call 256;refine (GO.out _).mono ?_;rintro e w5 ⟨rfl,hb5⟩;have hat5:=hid (hat4.out.keep hb5);have b5:=hid (b4.out.keep hb5);have c5:=hid (c4.out.keep hb5);obtain ⟨n0',n1,n2,n3,n4,n5,n6,n7⟩:=b5.out.cells)
       | fail)
      all_goals
       go_wp2;have hat6:=hat5.out.put4 (b:=w2.heap.size) ⟨t0,t1,t2,t3⟩ (by omega);have hm6:=hat6.left;refine ⟨⟨⟨t0,t1,t2,t3⟩,r2,hf2.out,hid hat6,hid (b5.out.put (S':=⟨t0,t1,t2,t3⟩)),hid (c5.out.other (S':=⟨t0,t1,t2,t3⟩) (by omega)),a0H ((((hkw.trans (Kept.of_below hb3)).trans (Kept.of_below hd3)).trans hk4).trans (Kept.of_below hb5)) ⟨t0,t1,t2,t3⟩ (fun h=>by omega),hR2⟩,?_⟩;have hl2:=hlt2.out;have hm:=hmu.out
       show b6b _ rb s.length<b6b wr rb s.length
       rw [hm];exact Nat.lt_of_le_of_lt (Nat.le_of_eq hm6) hl2
set_option maxRecDepth 20000 in
set_option maxHeartbeats 1000000 in
theorem c1A (w:World):Calls Tryz.prog 252 #[] w fun e w'=>e=.returned (a5E (a4I (H_ 10 10)))∧Below w.heap.size w w':=by
 have G1:=hid (fun u=>c4u 10 u (by omega));have hf:=a2h 10 10;generalize H_ 10 10=P at G1 hf ⊢;obtain ⟨p0,p1,p2,p3⟩:=P;have G2:=hid (fun u=>c4v p0 p1 p2 p3 u hf);generalize a4I ⟨p0,p1,p2,p3⟩=T at G2 ⊢;obtain ⟨t0,t1,t2,t3⟩:=T;have b0:Hid (Blk (w.alloc (.cells #[.int .u64 0,.int .u64 0,.int .u64 0,.int .u64 0] 202)) w.heap.size n_):=hid (b_ w _);go_enter Tryz.func252,Tryz.ntmps252
 go_wp2_with (first
  | (go_at_call 253;refine (G1.out _).mono ?_;rintro e w1 ⟨rfl,hb1⟩)
  | (go_at_call 257;refine (G2.out _).mono ?_;rintro e w2 ⟨rfl,hb2⟩;have b2:=hid ((b0.out.keep hb1).keep hb2);obtain ⟨z0,z1,z2,z3,z4,z5,z6,z7⟩:=Blk.cells (sa:=0) (sb:=0) (sc:=0) (sd:=0) b2.out))
 refine bodyPost_ret (v:=.agg #[.int .u64 t0,.int .u64 t1,.int .u64 t2,.int .u64 t3]) (by simp [results,Tryz.results252,go_sem,z0,z1,z2,z3]) rfl ⟨rfl,b0I (a_ (a_ (al' w _) hb1) hb2) ⟨t0,t1,t2,t3⟩ (Nat.le_refl _)⟩
end Go.Proofs.YtjgedijclkoemaaGreatDoor
