/- What the five laws of layer 17 share, part 9: no statement of its own. -/
import Derived.Test.YtjgedijclkoemaaGreatDoorJ8
import Derived.Defers
import Derived.Lib.SlicesCompact
import Derived.Recover
namespace Go.Proofs.YtjgedijclkoemaaGreatDoor
open Go.RowKit
theorem Rd.lt {w:World} {rb:Nat} {s q:Txt} {l:List Cel} (h:Rd w rb s q l):rb<w.heap.size:=by
 obtain ⟨v,h,_,_⟩:=h;obtain ⟨k,hb⟩:=h.blk;exact u_ hb
theorem Rd.suf {w:World} {rb:Nat} {s q:Txt} {l:List Cel} (h:Rd w rb s q l):∃ pre,s=pre++q:=by
 obtain ⟨v,⟨pre,hp,_⟩,_,_⟩:=h;exact ⟨pre,hp⟩
theorem Rd.place {w:World} {rb:Nat} {s q:Txt} {l:List Cel} (h:Rd w rb s q l):w.cell? ⟨rb,1,none⟩=some (.int .i64 (plc s q)):=by
 obtain ⟨v,h,_,_⟩:=h;exact h.place
theorem Rd.left {w:World} {rb:Nat} {s q:Txt} {l:List Cel} (h:Rd w rb s q l):b6b w rb s.length=q.length:=by
 obtain ⟨v,h,_,_⟩:=h;exact h.left
theorem low {w w':World} {rb:Nat} (hrb:rb<w.heap.size) (hb:Below w.heap.size w w'):Below rb w w':=hb.mono (Nat.le_of_lt hrb)
set_option maxRecDepth 20000 in
theorem a5M {w:World} {rb:Nat} {s q:Txt} {l:List Cel} (h:Rd w rb s q l) (hs:s.length≤200) (c:UInt8) (hc:(q.head? == some c)=false) :
 Calls Tryz.prog 220 #[.pointer (some ⟨rb,0,none⟩),.int .u8 (c.toNat:Int)] w fun e w'=>e=.returned (.bool false)∧Rd w' rb s q l∧Below rb w w':=by
 have hlt:=h.lt;have h':=h;obtain ⟨v,h1,h2,h3⟩:=h;exact (a9q h1 hs c hc).mono fun e w' hh=>⟨hh.1,h'.keep hh.2,low hlt hh.2⟩
set_option maxRecDepth 20000 in
theorem a5L {w:World} {rb:Nat} {s r:Txt} {c:UInt8} {l:List Cel} (h:Rd w rb s (c :: r) l) (hs:s.length≤200) :
 Calls Tryz.prog 220 #[.pointer (some ⟨rb,0,none⟩),.int .u8 (c.toNat:Int)] w fun e w'=>e=.returned (.bool true)∧Rd w' rb s r l∧Below rb w w':=by
 have hlt:=h.lt;obtain ⟨v,h1,h2,h3⟩:=h;exact (a5K h1 hs).mono fun e w' hh=>⟨hh.1,⟨v,hh.2.1,a4j h1 h2 hh.2.2,h3⟩,a6q hlt hh.2.2⟩
def Red (res:Option (Rx×Txt)) (w:World) (rb:Nat) (s:Txt) (l:List Cel) (M:Nat):Ending→World→Prop:=fun e w' =>
 (match res with
  | some (t,q)=>e=.returned (.tuple #[])∧Rd w' rb s q (l++post t)∧(l++post t).length+1+2 * q.length≤M
  | none=>∃ n,e=a2w n∧(s=[40,97]→n=2))∧Below rb w w'
theorem Red.yes {t:Rx} {q:Txt} {w w':World} {rb:Nat} {s:Txt} {l:List Cel} {M:Nat} {e:Ending} (h:Red (some (t,q)) w rb s l M e w'):e=.returned (.tuple #[])∧Rd w' rb s q (l++post t)∧(l++post t).length+1+2 * q.length≤M∧Below rb w w':=⟨h.1.1,h.1.2.1,h.1.2.2,h.2⟩
set_option maxRecDepth 20000 in
theorem Red.no {w w':World} {rb:Nat} {s:Txt} {l:List Cel} {M:Nat} {e:Ending} (h:Red none w rb s l M e w'):(∃ n,e=a2w n∧(s=[40,97]→n=2))∧Below rb w w':=h
def a5A (n:Nat):Prop:=∀ (w:World) (rb:Nat) (s q:Txt) (l:List Cel) (M:Nat),Rd w rb s q l→s.length≤200→q.length<n→l.length+2 * q.length≤M→M≤1000 →
 Calls Tryz.prog 205 #[.pointer (some ⟨rb,0,none⟩)] w (Red (a0M q) w rb s l M)
theorem c3u {pre q:Txt} (h:([40,97]:Txt)=pre++q):q=[40,97]∨q=[97]∨q=[]:=by
 match pre,h with
 | [],h=>exact Or.inl h.symm
 | [a],h=>injection h with _ h;exact Or.inr (Or.inl h.symm)
 | [a,b],h=>injection h with _ h;injection h with _ h;exact Or.inr (Or.inr h.symm)
 | a :: b :: c :: r,h=>injection h with _ h;injection h with _ h;cases h
def a5r (r:Txt):Option (Rx×Txt):=
 if r.head? == some 41 then some (.eps,r.tail) else
 match a0M r with
 | some (t,q)=>if q.head? == some 41 then some (t,q.tail) else none
 | none=>none
theorem a1f {q:Txt} {c:UInt8} (h:q.head?=some c):∃ r,q=c :: r:=by
 cases q with
 | nil=>cases h
 | cons d t=>injection h with h;subst h;exact ⟨t,rfl⟩
set_option maxRecDepth 20000 in
set_option maxHeartbeats 2000000 in
theorem c2g {n:Nat} (H:a5A n) {w:World} {rb:Nat} {s r:Txt} {l:List Cel} {M:Nat} (h:Rd w rb s r l) (hs:s.length≤200) (hn:r.length<n) (hM:l.length+2 * r.length+2≤M) (hM1:M≤1000) (hfst:s=[40,97]→r=[97]) :
 Calls Tryz.prog 249 #[.pointer (some ⟨rb,0,none⟩)] w (Red (a5r r) w rb s l M):=by
 by_cases h41:r.head?=some 41
 · obtain ⟨r',rfl⟩:=a1f h41
   have G1:=hid (a5L h hs);rw [show ((41:UInt8).toNat:Int)=41 from rfl] at G1;have G2:=hid (fun u (hu:Rd u rb s r' l)=>c0O hu (by simp at hM;omega) 2 (by decide) (by decide));rw [show a5r (41 :: r')=some (.eps,r') from rfl];clear h h41;go_enter Tryz.func249,Tryz.ntmps249
   go_wp2_with (first
    | (go_at_call 220;refine G1.out.mono ?_;rintro e w1 ⟨rfl,hr1,hb1⟩;have hr1:=hid hr1)
    | (go_at_call 221;refine (G2.out _ hr1.out).mono ?_;rintro e w2 ⟨rfl,hr2,hb2⟩;have hr2:=hid hr2))
   first | go_end0 | refine bodyPost_ret (results_none rfl _ _ _) rfl ?_
   refine ⟨⟨rfl,hr2.out,?_⟩,hb1.trans hb2⟩;simp at hM ⊢
   simp [post]
   omega
 · have hno:(r.head? == some 41)=false:=by simpa using h41
   have G1:=hid (a5M h hs 41 hno);rw [show ((41:UInt8).toNat:Int)=41 from rfl] at G1;have G2:=hid (fun u (hu:Rd u rb s r l)=>H u rb s r l (M - 2) hu hs hn (by omega) (by omega))
   have eg:a5r r=match a0M r with
    | some (t,q)=>if q.head? == some 41 then some (t,q.tail) else none
    | none=>none:=by unfold a5r;rw [hno];rfl
   rw [eg];cases e1:a0M r with
   | none =>
    rw [e1] at G2
    show Calls _ _ _ _ (Red none w rb s l M)
    clear h h41 hno eg e1;go_enter Tryz.func249,Tryz.ntmps249
    go_wp2_with (first
     | (go_at_call 220;refine G1.out.mono ?_;rintro e w1 ⟨rfl,hr1,hb1⟩;have hr1:=hid hr1)
     | (go_at_call 205;refine (G2.out _ hr1.out).mono ?_;intro e w2 hw2;obtain ⟨⟨n2,he2,hn2⟩,hb2⟩:=hw2.no;subst he2))
    exact ⟨rfl,⟨_,rfl,hn2⟩,hb1.trans hb2⟩
   | some x =>
    obtain ⟨t,q⟩:=x;rw [e1] at G2
    show Calls _ _ _ _ (Red (if q.head? == some 41 then some (t,q.tail) else none) w rb s l M)
    by_cases h2:q.head?=some 41
    · obtain ⟨q',rfl⟩:=a1f h2
      have G3:=hid (fun u (hu:Rd u rb s (41 :: q') (l++post t))=>a5L hu hs);rw [show ((41:UInt8).toNat:Int)=41 from rfl] at G3
      show Calls _ _ _ _ (Red (some (t,q')) w rb s l M)
      clear h h41 hno eg e1 h2;go_enter Tryz.func249,Tryz.ntmps249
      go_wp2_with (first
       | (go_at_call 220;refine (G3.out _ hr2.out).mono ?_;rintro e w3 ⟨rfl,hr3,hb3⟩;have hr3:=hid hr3)
       | (go_at_call 220;refine G1.out.mono ?_;rintro e w1 ⟨rfl,hr1,hb1⟩;have hr1:=hid hr1)
       | (go_at_call 205;refine (G2.out _ hr1.out).mono ?_;intro e w2 hw2;obtain ⟨he2,hr2,hm2,hb2⟩:=hw2.yes;subst he2;have hr2:=hid hr2;have hm2:=hid hm2))
      first | go_end0 | refine bodyPost_ret (results_none rfl _ _ _) rfl ?_
      refine ⟨⟨rfl,hr3.out,?_⟩,(hb1.trans hb2).trans hb3⟩
      have:=hm2.out
      simp at this ⊢
      omega
    · have hno2:(q.head? == some 41)=false:=by simpa using h2
      have G3:=hid (fun u (hu:Rd u rb s q (l++post t))=>a5M hu hs 41 hno2);rw [show ((41:UInt8).toNat:Int)=41 from rfl] at G3;rw [hno2]
      have hpl:s=[40,97]→plc s q=2:=fun he=>by
       have:=hfst he
       subst this;rw [show a0M [97]=some (.set (H_ 97 97),[]) from rfl] at e1;injection e1 with e1;injection e1 with _ e1;subst e1;subst he;rfl
      show Calls _ _ _ _ (Red none w rb s l M)
      clear h h41 hno eg e1 h2;have HP:=hid (fun u (hu:Rd u rb s q (l++post t))=>hu.place);generalize plc s q=p at HP hpl;go_enter Tryz.func249,Tryz.ntmps249
      go_wp2_with (first
       | (go_at_call 220;refine (G3.out _ hr2.out).mono ?_;rintro e w3 ⟨rfl,hr3,hb3⟩;have hp3:=HP.out _ hr3)
       | (go_at_call 220;refine G1.out.mono ?_;rintro e w1 ⟨rfl,hr1,hb1⟩;have hr1:=hid hr1)
       | (go_at_call 205;refine (G2.out _ hr1.out).mono ?_;intro e w2 hw2;obtain ⟨he2,hr2,hm2,hb2⟩:=hw2.yes;subst he2;have hr2:=hid hr2;have hm2:=hid hm2))
      exact ⟨rfl,⟨_,rfl,hpl⟩,(hb1.trans hb2).trans hb3⟩
theorem a9K:∀ (n:Nat) (first:Bool) (acc:W4) (s:Txt) (S:W4) (q:Txt),Fit4 acc→G_ n first acc s=some (S,q)→Fit4 S
 | 0,_,_,_,_,_,_,h=>by simp [G_] at h
 | n+1,first,acc,s,S,q,hf,h=>by
  rw [a0F] at h;split at h
  · injection h with h;injection h with h _;subst h;exact hf
  split at h
  · cases h
  · exact a9K n false _ _ S q (b7X _ _) h
theorem b2O {n:Nat} {q r:Txt} {S:W4} (h:a0K n q=some (S,r)):Fit4 S:=by
 rw [a5v] at h;generalize (q.head? == some 94)=oth at h;cases e:G_ n true n_ (if oth=true then q.tail else q) with
 | none=>rw [e] at h;cases h
 | some x =>
  obtain ⟨S',r'⟩:=x;have hf:=a9K _ _ _ _ _ _ a0j e
  have hT:Fit4 (if oth=true then a4I S' else S'):=by
   split
   · exact b3w _
   · exact hf
  rw [e] at h;simp only [c0h] at h;generalize (if oth=true then a4I S' else S')=T at h hT;by_cases hz:T=n_
  · rw [if_pos hz] at h;cases h
  · rw [if_neg hz] at h;injection h with h;injection h with h _;subst h;exact hT
set_option maxRecDepth 20000 in
theorem c3q {w:World} {rb:Nat} {s q:Txt} {l:List Cel} (h:Rd w rb s q l) (hs:s.length≤200) :
 Calls Tryz.prog 254 #[.pointer (some ⟨rb,0,none⟩),.string b7z] w fun e w'=>(match a0C a7I q with | some (b,r)=>e=.returned (.int .u8 (b:Int))∧Rd w' rb s r l | none=>e=a2w (plc s q))∧Below rb w w':=by
 have hlt:=h.lt;obtain ⟨v,h1,h2,h3⟩:=h;refine (c0W h1 hs b7z a7I b0U).mono fun e w' hh=>?_
 obtain ⟨hh1,hk⟩:=hh;refine ⟨?_,a6q hlt hk⟩;cases e1:a0C a7I q with
 | none=>rw [e1] at hh1;exact hh1
 | some x=>rw [e1] at hh1;exact ⟨hh1.1,v,hh1.2,a4j h1 h2 hk,h3⟩
set_option maxRecDepth 20000 in
theorem c2O {w:World} {rb:Nat} {s q:Txt} {l:List Cel} (h:Rd w rb s q l) (hs:s.length≤200) (p:Int) :
 Calls Tryz.prog 251 #[.pointer (some ⟨rb,0,none⟩),.int .i64 p] w fun e w'=>(match a0K (q.length+1) q with | some (S,r)=>e=.returned (a5E S)∧Rd w' rb s r l | none=>∃ n,e=a2w n)∧Below rb w w':=by
 have hlt:=h.lt;obtain ⟨v,h1,h2,h3⟩:=h;refine (c2P h1 hs p).mono fun e w' hh=>?_
 obtain ⟨hh1,hk⟩:=hh;refine ⟨?_,a6q hlt hk⟩;cases e1:a0K (q.length+1) q with
 | none=>rw [e1] at hh1;exact hh1
 | some x=>rw [e1] at hh1;exact ⟨hh1.1,v,hh1.2,a4j h1 h2 hk,h3⟩
set_option maxRecDepth 20000 in
set_option maxHeartbeats 4000000 in
theorem c4j {n:Nat} (H:a5A n) {w:World} {rb:Nat} {s q:Txt} {l:List Cel} {M:Nat} (h:Rd w rb s q l) (hs:s.length≤200) (hn:q.length≤n) (hM:l.length+2 * q.length≤M) (hM1:M≤1000) :
 Calls Tryz.prog 241 #[.pointer (some ⟨rb,0,none⟩)] w (Red (a1B q) w rb s l M):=by
 have hpl:=h.place;obtain ⟨pre,hpre⟩:=h.suf;have hlt:=h.lt;by_cases c1:q.head?=some 40
 · obtain ⟨r,rfl⟩:=a1f c1
   have G1:=hid (a5L h hs);rw [show ((40:UInt8).toNat:Int)=40 from rfl] at G1
   have hfst:s=[40,97]→r=[97]:=fun he=>by
    rcases c3u (he▸hpre) with h' | h' | h'
    · injection h' with _ h'
    · injection h' with h' _;exact absurd h' (by decide)
    · cases h'
   have G2:=hid (fun u (hu:Rd u rb s r l)=>c2g H hu hs (by simp at hn;omega) (M:=M) (by simp at hM;omega) hM1 hfst);rw [show a1B (40 :: r)=a5r r by rw [a3Q,if_pos rfl];rfl];clear h c1 hfst hpre;generalize plc s (40 :: r)=p at hpl;cases e1:a5r r with
   | none =>
    rw [e1] at G2;clear e1;go_enter Tryz.func241,Tryz.ntmps241
    go_wp2_with (first
     | (go_at_call 220;refine G1.out.mono ?_;rintro e w1 ⟨rfl,hr1,hb1⟩;have hr1:=hid hr1)
     | (go_at_call 249;refine (G2.out _ hr1.out).mono ?_;intro e w2 hw2;obtain ⟨⟨n2,he2,hn2⟩,hb2⟩:=hw2.no;subst he2))
    exact ⟨rfl,⟨_,rfl,hn2⟩,hb1.trans hb2⟩
   | some x =>
    obtain ⟨t,q'⟩:=x;rw [e1] at G2;clear e1;go_enter Tryz.func241,Tryz.ntmps241
    go_wp2_with (first
     | (go_at_call 220;refine G1.out.mono ?_;rintro e w1 ⟨rfl,hr1,hb1⟩;have hr1:=hid hr1)
     | (go_at_call 249;refine (G2.out _ hr1.out).mono ?_;intro e w2 hw2;obtain ⟨he2,hr2,hm2,hb2⟩:=hw2.yes;subst he2;have hr2:=hid hr2;have hm2:=hid hm2))
    first | go_end0 | refine bodyPost_ret (results_none rfl _ _ _) rfl ?_
    exact ⟨⟨rfl,hr2.out,hm2.out⟩,hb1.trans hb2⟩
 have n1:(q.head? == some 40)=false:=by simpa using c1
 have N1:=hid (fun u (hu:Rd u rb s q l)=>a5M hu hs 40 n1);rw [show ((40:UInt8).toNat:Int)=40 from rfl] at N1;by_cases c2:q.head?=some 91
 · obtain ⟨r,rfl⟩:=a1f c2
   have hno:s=[40,97]→False:=fun he=>by
    rcases c3u (he▸hpre) with h' | h' | h'
    · injection h' with h' _;exact absurd h' (by decide)
    · injection h' with h' _;exact absurd h' (by decide)
    · cases h'
   have G1:=hid (fun u (hu:Rd u rb s (91 :: r) l)=>a5L hu hs);rw [show ((91:UInt8).toNat:Int)=91 from rfl] at G1
   have ea:a1B (91 :: r)=match a0K (r.length+1) r with
    | some (S,q)=>some (.set S,q)
    | none=>none:=by rw [a3Q,if_neg (by decide),if_neg (by decide),if_pos rfl];rfl
   rw [ea];generalize plc s (91 :: r)=p at hpl;have G2:=hid (fun u (hu:Rd u rb s r l)=>c2O hu hs p);have h0:=hid h;clear h c1 c2 n1 hpre ea;cases e1:a0K (r.length+1) r with
   | none =>
    rw [e1] at G2;clear e1
    show Calls _ _ _ _ (Red none w rb s l M)
    go_enter Tryz.func241,Tryz.ntmps241
    go_wp2_with (first
     | (go_at_call_of 220 (Value.int .u8 40);refine (N1.out _ h0.out).mono ?_;rintro e w1 ⟨rfl,hr1,hb1⟩;have hr1:=hid hr1)
     | (go_at_call_of 220 (Value.int .u8 91);refine (G1.out _ hr1.out).mono ?_;rintro e w2 ⟨rfl,hr2,hb2⟩;have hr2:=hid hr2)
     | (go_at_call 251;refine (G2.out _ hr2.out).mono ?_;rintro e w3 ⟨⟨n3,he3⟩,hb3⟩;subst he3))
    exact ⟨rfl,⟨_,rfl,fun he=>(hno he).elim⟩,(hb1.trans hb2).trans hb3⟩
   | some x =>
    obtain ⟨⟨a0,a1,a2,a3⟩,q'⟩:=x;have hf:=b2O e1;have hq':=b0E e1;rw [e1] at G2;have G3:=hid (fun u (hu:Rd u rb s q' l)=>a8E hu (by omega) a0 a1 a2 a3 hf);clear e1
    show Calls _ _ _ _ (Red (some (.set ⟨a0,a1,a2,a3⟩,q')) w rb s l M)
    go_enter Tryz.func241,Tryz.ntmps241
    go_wp2_with (first
     | (go_at_call_of 220 (Value.int .u8 40);refine (N1.out _ h0.out).mono ?_;rintro e w1 ⟨rfl,hr1,hb1⟩;have hr1:=hid hr1)
     | (go_at_call_of 220 (Value.int .u8 91);refine (G1.out _ hr1.out).mono ?_;rintro e w2 ⟨rfl,hr2,hb2⟩;have hr2:=hid hr2)
     | (go_at_call 251;refine (G2.out _ hr2.out).mono ?_;rintro e w3 ⟨⟨he3,hr3⟩,hb3⟩;subst he3;have hr3:=hid hr3)
     | (go_at_call 250;refine (G3.out _ hr3.out).mono ?_;rintro e w4 ⟨rfl,hr4,hb4⟩;have hr4:=hid hr4))
    first | go_end0 | refine bodyPost_ret (results_none rfl _ _ _) rfl ?_
    refine ⟨⟨rfl,hr4.out,?_⟩,((hb1.trans hb2).trans hb3).trans hb4⟩;simp at hM ⊢
    simp [post]
    omega
 have n2:(q.head? == some 91)=false:=by simpa using c2
 have N2:=hid (fun u (hu:Rd u rb s q l)=>a5M hu hs 91 n2);rw [show ((91:UInt8).toNat:Int)=91 from rfl] at N2;by_cases c3:q.head?=some 46
 · obtain ⟨r,rfl⟩:=a1f c3
   have G1:=hid (fun u (hu:Rd u rb s (46 :: r) l)=>a5L hu hs);rw [show ((46:UInt8).toNat:Int)=46 from rfl] at G1;have ea:a1B (46 :: r)=some (.set (a4I (H_ 10 10)),r):=by rw [a3Q,if_neg (by decide),if_pos rfl]
   rw [ea];generalize plc s (46 :: r)=p at hpl;have G2:=hid c1A;have hf:=b3w (H_ 10 10);generalize a4I (H_ 10 10)=T at G2 hf ⊢;obtain ⟨a0,a1,a2,a3⟩:=T;have G3:=hid (fun u (hu:Rd u rb s r l)=>a8E hu (by omega) a0 a1 a2 a3 hf);have h0:=hid h;clear h c1 c2 c3 n1 n2 hpre ea;go_enter Tryz.func241,Tryz.ntmps241
   go_wp2_with (first
    | (go_at_call_of 220 (Value.int .u8 40);refine (N1.out _ h0.out).mono ?_;rintro e w1 ⟨rfl,hr1,hb1⟩;have hr1:=hid hr1)
    | (go_at_call_of 220 (Value.int .u8 91);refine (N2.out _ hr1.out).mono ?_;rintro e w2 ⟨rfl,hr2,hb2⟩;have hr2:=hid hr2)
    | (go_at_call_of 220 (Value.int .u8 46);refine (G1.out _ hr2.out).mono ?_;rintro e w3 ⟨rfl,hr3,hb3⟩;have hlt3:=hr3.lt;have hr3:=hid hr3)
    | (go_at_call 252;refine (G2.out _).mono ?_;rintro e w4 ⟨rfl,hb4⟩;have hr4:=hid (hr3.out.keep hb4);have hb4':=low hlt3 hb4)
    | (go_at_call 250;refine (G3.out _ hr4.out).mono ?_;rintro e w5 ⟨rfl,hr5,hb5⟩;have hr5:=hid hr5))
   first | go_end0 | refine bodyPost_ret (results_none rfl _ _ _) rfl ?_
   refine ⟨⟨rfl,hr5.out,?_⟩,(((hb1.trans hb2).trans hb3).trans hb4').trans hb5⟩;simp at hM ⊢
   simp [post]
   omega
 have n3:(q.head? == some 46)=false:=by simpa using c3
 have N3:=hid (fun u (hu:Rd u rb s q l)=>a5M hu hs 46 n3);rw [show ((46:UInt8).toNat:Int)=46 from rfl] at N3
 have ea:a1B q=match a0C a7I q with
  | some (b,r)=>some (.set (H_ b b),r)
  | none=>none:=by
  cases q with
  | nil=>rfl
  | cons c r =>
   rw [a3Q,if_neg (fun e=>c1 (by rw [e];rfl)),if_neg (fun e=>c3 (by rw [e];rfl)),if_neg (fun e=>c2 (by rw [e];rfl))];rfl
 rw [ea];have G2:=hid (fun u (hu:Rd u rb s q l)=>c3q hu hs);have h0:=hid h;cases e1:a0C a7I q with
 | none =>
  rw [e1] at G2
  have hp2:s=[40,97]→plc s q=2:=fun he=>by
   rcases c3u (he▸hpre) with h' | h' | h'
   · subst h';exact absurd rfl c1
   · subst h';cases e1
   · subst h';subst he;rfl
  clear e1 h c1 c2 c3 n1 n2 n3 hpre ea;generalize plc s q=p at hpl G2 hp2
  show Calls _ _ _ _ (Red none w rb s l M)
  go_enter Tryz.func241,Tryz.ntmps241
  go_wp2_with (first
   | (go_at_call_of 220 (Value.int .u8 40);refine (N1.out _ h0.out).mono ?_;rintro e w1 ⟨rfl,hr1,hb1⟩;have hr1:=hid hr1)
   | (go_at_call_of 220 (Value.int .u8 91);refine (N2.out _ hr1.out).mono ?_;rintro e w2 ⟨rfl,hr2,hb2⟩;have hr2:=hid hr2)
   | (go_at_call_of 220 (Value.int .u8 46);refine (N3.out _ hr2.out).mono ?_;rintro e w3 ⟨rfl,hr3,hb3⟩;have hr3:=hid hr3)
   | (go_at_call 254;refine (G2.out _ hr3.out).mono ?_;rintro e w4 ⟨he4,hb4⟩;subst he4))
  exact ⟨rfl,⟨_,rfl,hp2⟩,((hb1.trans hb2).trans hb3).trans hb4⟩
 | some x =>
  obtain ⟨b,r⟩:=x;have hb:=a4c e1;have hr:=a1E e1;rw [e1] at G2;have G3:=hid (fun u=>c4u b u hb);have hf:=a2h b b
  show Calls _ _ _ _ (Red (some (.set (H_ b b),r)) w rb s l M)
  generalize H_ b b=T at G3 hf ⊢;obtain ⟨a0,a1,a2,a3⟩:=T;have G4:=hid (fun u (hu:Rd u rb s r l)=>a8E hu (by omega) a0 a1 a2 a3 hf);clear e1 h c1 c2 c3 n1 n2 n3 hpre ea;generalize plc s q=p at hpl;go_enter Tryz.func241,Tryz.ntmps241
  go_wp2_with (first
   | (go_at_call_of 220 (Value.int .u8 40);refine (N1.out _ h0.out).mono ?_;rintro e w1 ⟨rfl,hr1,hb1⟩;have hr1:=hid hr1)
   | (go_at_call_of 220 (Value.int .u8 91);refine (N2.out _ hr1.out).mono ?_;rintro e w2 ⟨rfl,hr2,hb2⟩;have hr2:=hid hr2)
   | (go_at_call_of 220 (Value.int .u8 46);refine (N3.out _ hr2.out).mono ?_;rintro e w3 ⟨rfl,hr3,hb3⟩;have hr3:=hid hr3)
   | (go_at_call 254;refine (G2.out _ hr3.out).mono ?_;rintro e w4 ⟨⟨he4,hr4⟩,hb4⟩;subst he4;have hlt4:=hr4.lt;have hr4:=hid hr4)
   | (go_at_call 253;refine (G3.out _).mono ?_;rintro e w5 ⟨rfl,hb5⟩;have hr5:=hid (hr4.out.keep hb5);have hb5':=low hlt4 hb5)
   | (go_at_call 250;refine (G4.out _ hr5.out).mono ?_;rintro e w6 ⟨rfl,hr6,hb6⟩;have hr6:=hid hr6))
  first | go_end0 | refine bodyPost_ret (results_none rfl _ _ _) rfl ?_
  refine ⟨⟨rfl,hr6.out,?_⟩,((((hb1.trans hb2).trans hb3).trans hb4).trans hb5').trans hb6⟩;simp [post]
  omega
def a1t (q:Txt):Option (Rx×Txt):=match a1B q with
 | some (t,r)=>some (E_ t r)
 | none=>none
theorem b1b (q:Txt):b1P q=match a1t q with
 | some (t,r)=>a3o t r
 | none=>none:=by
 rw [b8Q];unfold a1t;cases a1B q with
 | none=>rfl
 | some x=>rfl
theorem a8M (a:Rx) (q:Txt):a3o a q=if a3f q then some (a,q) else match a1t q with
 | some (t,r)=>a3o (.cat a t) r
 | none=>none:=by
 rw [b6v];unfold a1t;cases a1B q with
 | none=>rfl
 | some x=>rfl
theorem Red.mk_no {res:Option (Rx×Txt)} {w w':World} {rb:Nat} {s:Txt} {l:List Cel} {M:Nat} (h:res=none) {n:Int} (hn:s=[40,97]→n=2) (hb:Below rb w w'):Red res w rb s l M (a2w n) w':=by subst h;exact ⟨⟨n,rfl,hn⟩,hb⟩
theorem Red.mk_yes {res:Option (Rx×Txt)} {t:Rx} {q:Txt} {w w':World} {rb:Nat} {s:Txt} {l:List Cel} {M:Nat} (h:res=some (t,q)) (hr:Rd w' rb s q (l++post t)) (hm:(l++post t).length+1+2 * q.length≤M) (hb:Below rb w w'):Red res w rb s l M (.returned (.tuple #[])) w':=by subst h;exact ⟨⟨rfl,hr,hm⟩,hb⟩
set_option maxRecDepth 20000 in
set_option maxHeartbeats 4000000 in
theorem b7U {n:Nat} (H:a5A n) {w:World} {rb:Nat} {s q:Txt} {l:List Cel} {M:Nat} (h:Rd w rb s q l) (hs:s.length≤200) (hn:q.length≤n) (hM:l.length+2 * q.length≤M) (hM1:M≤1000) :
 Calls Tryz.prog 229 #[.pointer (some ⟨rb,0,none⟩)] w (Red (a1t q) w rb s l M):=by
 have GA:=hid (c4j H h hs hn hM hM1);unfold a1t;cases e1:a1B q with
 | none =>
  rw [e1] at GA
  show Calls _ _ _ _ (Red none w rb s l M)
  clear h e1;go_enter Tryz.func229,Tryz.ntmps229
  go_wp2_with (go_at_call 241;refine GA.out.mono ?_;intro e w1 hw1;obtain ⟨⟨n1,he1,hn1⟩,hb1⟩:=hw1.no;subst he1)
  exact ⟨rfl,⟨_,rfl,hn1⟩,hb1⟩
 | some x =>
  obtain ⟨t,r⟩:=x;rw [e1] at GA
  show Calls _ _ _ _ (Red (some (E_ t r)) w rb s l M)
  obtain ⟨R,hR⟩:∃ R,Hid (E_ t r=R):=⟨_,hid rfl⟩;rw [hR.out];clear h e1;go_enter Tryz.func229,Tryz.ntmps229
  go_wp2_with (go_at_call 241;refine GA.out.mono ?_;intro e w1 hw1;obtain ⟨he1,hr1,hm1,hb1⟩:=hw1.yes;subst he1;have hr1:=hid hr1;have hm1:=hid hm1)
  go_loopw [] (fun wr=>∃ t' q',Hid (Rd wr rb s q' (l++post t'))∧Hid (E_ t' q'=R)∧Hid ((l++post t').length+1+2 * q'.length≤M)∧Below rb w wr) (fun wr=>b6b wr rb s.length)
  case atStart=>exact ⟨t,r,hr1,hR,hm1,hb1⟩
  case round =>
   obtain ⟨t',q',hrd,hst,hmm,hbw⟩:=hrel;have hlen:(l++post t').length≤1000:=by have:=hmm.out;omega
   have hmu:=hid hrd.out.left;clear hR hr1 hm1 GA;by_cases c1:q'.head?=some 42
   · obtain ⟨r',rfl⟩:=a1f c1
     have G1:=hid (a5L hrd.out hs);rw [show ((42:UInt8).toNat:Int)=42 from rfl] at G1;have G2:=hid (fun u (hu:Rd u rb s r' (l++post t'))=>c0O hu (by omega) 5 (by decide) (by decide));have hst':Hid (E_ (.star t') r'=R):=hid (by rw [← hst.out];simp [E_]);clear c1 hlen
     go_wp2_with (first
      | (go_at_call_of 220 (Value.int .u8 42);refine G1.out.mono ?_;rintro e w2 ⟨rfl,hr2,hb2⟩;have hr2:=hid hr2)
      | (go_at_call 221;refine (G2.out _ hr2.out).mono ?_;rintro e w3 ⟨rfl,hr3,hb3⟩;have hr3:=hid hr3))
     have hr4:Rd w3 rb s r' (l++post (.star t')):=by rw [show l++post (.star t')=(l++post t')++[⟨5,n_⟩] by simp [post]];exact hr3.out
     go_roundw
     case rel =>
      refine ⟨.star t',r',hid hr4,hst',hid ?_,(hbw.trans hb2).trans hb3⟩
      have:=hmm.out
      simp [post] at this ⊢
      omega
     case measure =>
      rw [hmu.out,hr4.left];simp
   have n1:(q'.head? == some 42)=false:=by simpa using c1
   have N1:=hid (fun u (hu:Rd u rb s q' (l++post t'))=>a5M hu hs 42 n1);rw [show ((42:UInt8).toNat:Int)=42 from rfl] at N1;by_cases c2:q'.head?=some 43
   · obtain ⟨r',rfl⟩:=a1f c2
     have G1:=hid (fun u (hu:Rd u rb s (43 :: r') (l++post t'))=>a5L hu hs);rw [show ((43:UInt8).toNat:Int)=43 from rfl] at G1;have G2:=hid (fun u (hu:Rd u rb s r' (l++post t'))=>c0O hu (by omega) 6 (by decide) (by decide));have hst':Hid (E_ (.plus t') r'=R):=hid (by rw [← hst.out];simp [E_]);clear c1 c2 hlen n1
     go_wp2_with (first
      | (go_at_call_of 220 (Value.int .u8 42);refine (N1.out _ hrd.out).mono ?_;rintro e w1' ⟨rfl,hr1,hb1'⟩;have hr1:=hid hr1)
      | (go_at_call_of 220 (Value.int .u8 43);refine (G1.out _ hr1.out).mono ?_;rintro e w2 ⟨rfl,hr2,hb2⟩;have hr2:=hid hr2)
      | (go_at_call 221;refine (G2.out _ hr2.out).mono ?_;rintro e w3 ⟨rfl,hr3,hb3⟩;have hr3:=hid hr3))
     have hr4:Rd w3 rb s r' (l++post (.plus t')):=by rw [show l++post (.plus t')=(l++post t')++[⟨6,n_⟩] by simp [post]];exact hr3.out
     go_roundw
     case rel =>
      refine ⟨.plus t',r',hid hr4,hst',hid ?_,((hbw.trans hb1').trans hb2).trans hb3⟩
      have:=hmm.out
      simp [post] at this ⊢
      omega
     case measure =>
      rw [hmu.out,hr4.left];simp
   have n2:(q'.head? == some 43)=false:=by simpa using c2
   have N2:=hid (fun u (hu:Rd u rb s q' (l++post t'))=>a5M hu hs 43 n2);rw [show ((43:UInt8).toNat:Int)=43 from rfl] at N2;by_cases c3:q'.head?=some 63
   · obtain ⟨r',rfl⟩:=a1f c3
     have G1:=hid (fun u (hu:Rd u rb s (63 :: r') (l++post t'))=>a5L hu hs);rw [show ((63:UInt8).toNat:Int)=63 from rfl] at G1;have G2:=hid (fun u (hu:Rd u rb s r' (l++post t'))=>c0O hu (by omega) 7 (by decide) (by decide));have hst':Hid (E_ (.opt t') r'=R):=hid (by rw [← hst.out];simp [E_]);clear c1 c2 c3 hlen n1 n2
     go_wp2_with (first
      | (go_at_call_of 220 (Value.int .u8 42);refine (N1.out _ hrd.out).mono ?_;rintro e w1' ⟨rfl,hr1,hb1'⟩;have hr1:=hid hr1)
      | (go_at_call_of 220 (Value.int .u8 43);refine (N2.out _ hr1.out).mono ?_;rintro e w2' ⟨rfl,hr2',hb2'⟩;have hr2':=hid hr2')
      | (go_at_call_of 220 (Value.int .u8 63);refine (G1.out _ hr2'.out).mono ?_;rintro e w2 ⟨rfl,hr2,hb2⟩;have hr2:=hid hr2)
      | (go_at_call 221;refine (G2.out _ hr2.out).mono ?_;rintro e w3 ⟨rfl,hr3,hb3⟩;have hr3:=hid hr3))
     have hr4:Rd w3 rb s r' (l++post (.opt t')):=by rw [show l++post (.opt t')=(l++post t')++[⟨7,n_⟩] by simp [post]];exact hr3.out
     go_roundw
     case rel =>
      refine ⟨.opt t',r',hid hr4,hst',hid ?_,(((hbw.trans hb1').trans hb2').trans hb2).trans hb3⟩
      have:=hmm.out
      simp [post] at this ⊢
      omega
     case measure =>
      rw [hmu.out,hr4.left];simp
   have n3:(q'.head? == some 63)=false:=by simpa using c3
   have N3:=hid (fun u (hu:Rd u rb s q' (l++post t'))=>a5M hu hs 63 n3);rw [show ((63:UInt8).toNat:Int)=63 from rfl] at N3
   have hst':Hid (R=(t',q')):=hid (by
    rw [← hst.out];cases q' with
    | nil=>rfl
    | cons c r=>rw [E_,if_neg (fun e=>c1 (by rw [e];rfl)),if_neg (fun e=>c2 (by rw [e];rfl)),if_neg (fun e=>c3 (by rw [e];rfl))])
   clear c1 c2 c3 hlen n1 n2 n3
   go_wp2_with (first
    | (go_at_call_of 220 (Value.int .u8 42);refine (N1.out _ hrd.out).mono ?_;rintro e w1' ⟨rfl,hr1,hb1'⟩;have hr1:=hid hr1)
    | (go_at_call_of 220 (Value.int .u8 43);refine (N2.out _ hr1.out).mono ?_;rintro e w2' ⟨rfl,hr2',hb2'⟩;have hr2':=hid hr2')
    | (go_at_call_of 220 (Value.int .u8 63);refine (N3.out _ hr2'.out).mono ?_;rintro e w2 ⟨rfl,hr2,hb2⟩;have hr2:=hid hr2))
   first | go_end0 | refine bodyPost_ret (results_none rfl _ _ _) rfl ?_
   exact Red.mk_yes (by rw [hst'.out]) hr2.out hmm.out (((hbw.trans hb1').trans hb2').trans hb2)
set_option maxRecDepth 20000 in
theorem b5L {w:World} {rb:Nat} {s q:Txt} {l:List Cel} (h:Rd w rb s q l) (hs:s.length≤200) :
 Calls Tryz.prog 230 #[.pointer (some ⟨rb,0,none⟩)] w fun e w'=>e=.returned (.bool (a3f q))∧Rd w' rb s q l∧Below rb w w':=by
 have hlt:=h.lt;have h':=h;obtain ⟨v,h1,h2,h3⟩:=h;exact (b5M h1 hs).mono fun e w' hh=>⟨hh.1,h'.keep hh.2,low hlt hh.2⟩
theorem a7r {q r:Txt} {t:Rx} (h:a1t q=some (t,r)):r.length<q.length:=by
 unfold a1t at h;cases e:a1B q with
 | none=>rw [e] at h;cases h
 | some x =>
  obtain ⟨t',q'⟩:=x;have h1:=a6L e;have h2:=a0n q' t';rw [e] at h;injection h with h;rw [h] at h2;simp at h2
  omega
set_option maxRecDepth 20000 in
set_option maxHeartbeats 4000000 in
theorem c4t {n:Nat} (H:a5A n) {w:World} {rb:Nat} {s q:Txt} {l:List Cel} {M:Nat} (h:Rd w rb s q l) (hs:s.length≤200) (hn:q.length≤n) (hM:l.length+2 * q.length≤M) (hM1:M≤1000) :
 Calls Tryz.prog 219 #[.pointer (some ⟨rb,0,none⟩)] w (Red (b1P q) w rb s l M):=by
 have GA:=hid (b7U H h hs hn hM hM1);rw [b1b];cases e1:a1t q with
 | none =>
  rw [e1] at GA
  show Calls _ _ _ _ (Red none w rb s l M)
  clear h e1;go_enter Tryz.func219,Tryz.ntmps219
  go_wp2_with (go_at_call 229;refine GA.out.mono ?_;intro e w1 hw1;obtain ⟨⟨n1,he1,hn1⟩,hb1⟩:=hw1.no;subst he1)
  exact ⟨rfl,⟨_,rfl,hn1⟩,hb1⟩
 | some x =>
  obtain ⟨t,r⟩:=x;have hlt:=a7r e1;rw [e1] at GA
  show Calls _ _ _ _ (Red (a3o t r) w rb s l M)
  obtain ⟨R,hR⟩:∃ R,Hid (a3o t r=R):=⟨_,hid rfl⟩;rw [hR.out];clear h e1;go_enter Tryz.func219,Tryz.ntmps219
  go_wp2_with (go_at_call 229;refine GA.out.mono ?_;intro e w1 hw1;obtain ⟨he1,hr1,hm1,hb1⟩:=hw1.yes;subst he1;have hr1:=hid hr1;have hm1:=hid hm1)
  go_loopw [] (fun wr=>∃ a q',Hid (Rd wr rb s q' (l++post a))∧Hid (a3o a q'=R)∧Hid ((l++post a).length+1+2 * q'.length≤M)∧q'.length≤n∧Below rb w wr) (fun wr=>b6b wr rb s.length)
  case atStart=>exact ⟨t,r,hr1,hR,hm1,by omega,hb1⟩
  case round =>
   obtain ⟨a,q',hrd,hst,hmm,hnq,hbw⟩:=hrel;have hmu:=hid hrd.out.left;clear hR hr1 hm1 GA;have GE:=hid (b5L hrd.out hs);have hst':=hst.out;rw [a8M] at hst';cases hre:a3f q' with
   | true =>
    rw [hre] at GE hst';have hst2:Hid (R=some (a,q')):=hid (hst'.symm);clear hst' hre hst;go_wp2_with (go_at_call 230;refine GE.out.mono ?_;rintro e w2 ⟨rfl,hr2,hb2⟩;have hr2:=hid hr2)
    first | go_end0 | refine bodyPost_ret (results_none rfl _ _ _) rfl ?_
    exact Red.mk_yes hst2.out hr2.out hmm.out (hbw.trans hb2)
   | false =>
    rw [hre] at GE hst'
    have hst1:(match a1t q' with
     | some (t,r)=>a3o (.cat a t) r
     | none=>none)=R:=hst'
    have hmm':=hmm.out;have GP:=hid (fun u (hu:Rd u rb s q' (l++post a))=>b7U H hu hs hnq (M:=M - 1) (by omega) (by omega));clear hst' hre hst hmm';cases e2:a1t q' with
    | none =>
     rw [e2] at GP hst1;have hst2:Hid (R=none):=hid hst1.symm;clear hst1 e2
     go_wp2_with (first
      | (go_at_call 230;refine GE.out.mono ?_;rintro e w2 ⟨rfl,hr2,hb2⟩;have hr2:=hid hr2)
      | (go_at_call 229;refine (GP.out _ hr2.out).mono ?_;intro e w3 hw3;obtain ⟨⟨n3,he3,hn3⟩,hb3⟩:=hw3.no;subst he3))
     exact ⟨rfl,Red.mk_no hst2.out hn3 ((hbw.trans hb2).trans hb3)⟩
    | some y =>
     obtain ⟨t2,r2⟩:=y;have hlt2:=hid (a7r e2);rw [e2] at GP hst1;have hst2:Hid (a3o (.cat a t2) r2=R):=hid hst1;have G2:=hid (fun u (hu:Rd u rb s r2 ((l++post a)++post t2)) (hl:((l++post a)++post t2).length≤1000)=>c0O hu (by omega) 3 (by decide) (by decide));clear hst1 e2
     go_wp2_with (first
      | (go_at_call 230;refine GE.out.mono ?_;rintro e w2 ⟨rfl,hr2,hb2⟩;have hr2:=hid hr2)
      | (go_at_call 229;refine (GP.out _ hr2.out).mono ?_;intro e w3 hw3;obtain ⟨he3,hr3,hm3,hb3⟩:=hw3.yes;subst he3;have hr3:=hid hr3;have hm3':=hid (show (l++post a++post t2).length≤1000 by omega);have hm3:=hid hm3)
      | (go_at_call 221;refine (G2.out _ hr3.out hm3'.out).mono ?_;rintro e w4 ⟨rfl,hr4,hb4⟩;have hr4:=hid hr4))
     have hr5:Rd w4 rb s r2 (l++post (.cat a t2)):=by rw [show l++post (.cat a t2)=((l++post a)++post t2)++[⟨3,n_⟩] by simp [post]];exact hr4.out
     go_roundw
     case rel =>
      have h1:=hm3.out;have h2:=hlt2.out;refine ⟨.cat a t2,r2,hid hr5,hst2,hid ?_,by omega,((hbw.trans hb2).trans hb3).trans hb4⟩;rw [show l++post (.cat a t2)=((l++post a)++post t2)++[⟨3,n_⟩] by simp [post],List.length_append];simp only [List.length_cons,List.length_nil];omega
     case measure =>
      rw [hmu.out,hr5.left];exact hlt2.out
set_option maxRecDepth 20000 in
set_option maxHeartbeats 4000000 in
theorem c3D {n:Nat} (H:a5A n) {w:World} {rb:Nat} {s q:Txt} {l:List Cel} {M:Nat} (h:Rd w rb s q l) (hs:s.length≤200) (hn:q.length≤n) (hM:l.length+2 * q.length≤M) (hM1:M≤1000) :
 Calls Tryz.prog 205 #[.pointer (some ⟨rb,0,none⟩)] w (Red (a0M q) w rb s l M):=by
 have GA:=hid (c4t H h hs hn hM hM1);rw [b5J];cases e1:b1P q with
 | none =>
  rw [e1] at GA
  show Calls _ _ _ _ (Red none w rb s l M)
  clear h e1;go_enter Tryz.func205,Tryz.ntmps205
  go_wp2_with (go_at_call 219;refine GA.out.mono ?_;intro e w1 hw1;obtain ⟨⟨n1,he1,hn1⟩,hb1⟩:=hw1.no;subst he1)
  exact ⟨rfl,⟨_,rfl,hn1⟩,hb1⟩
 | some x =>
  obtain ⟨t,r⟩:=x;have hlt:=a5V e1;rw [e1] at GA
  show Calls _ _ _ _ (Red (b6f t r) w rb s l M)
  obtain ⟨R,hR⟩:∃ R,Hid (b6f t r=R):=⟨_,hid rfl⟩;rw [hR.out];clear h e1;go_enter Tryz.func205,Tryz.ntmps205
  go_wp2_with (go_at_call 219;refine GA.out.mono ?_;intro e w1 hw1;obtain ⟨he1,hr1,hm1,hb1⟩:=hw1.yes;subst he1;have hr1:=hid hr1;have hm1:=hid hm1)
  go_loopw [] (fun wr=>∃ a q',Hid (Rd wr rb s q' (l++post a))∧Hid (b6f a q'=R)∧Hid ((l++post a).length+1+2 * q'.length≤M)∧q'.length≤n∧Below rb w wr) (fun wr=>b6b wr rb s.length)
  case atStart=>exact ⟨t,r,hr1,hR,hm1,by omega,hb1⟩
  case round =>
   obtain ⟨a,q',hrd,hst,hmm,hnq,hbw⟩:=hrel;have hmu:=hid hrd.out.left;clear hR hr1 hm1 GA;by_cases c1:q'.head?=some 124
   · obtain ⟨q2,rfl⟩:=a1f c1
     have GE:=hid (a5L hrd.out hs);rw [show ((124:UInt8).toNat:Int)=124 from rfl] at GE;have hst':=hst.out;rw [b3k] at hst'
     have hst1:(match b1P q2 with
      | some (t,q)=>b6f (.or a t) q
      | none=>none)=R:=hst'
     have hmm':=hmm.out;simp only [List.length_cons] at hmm' hnq;have GP:=hid (fun u (hu:Rd u rb s q2 (l++post a))=>c4t H hu hs (by omega) (M:=M - 1) (by omega) (by omega));clear hst' hst c1 hmm';cases e2:b1P q2 with
     | none =>
      rw [e2] at GP hst1;have hst2:Hid (R=none):=hid hst1.symm;clear hst1 e2
      go_wp2_with (first
       | (go_at_call 220;refine GE.out.mono ?_;rintro e w2 ⟨rfl,hr2,hb2⟩;have hr2:=hid hr2)
       | (go_at_call 219;refine (GP.out _ hr2.out).mono ?_;intro e w3 hw3;obtain ⟨⟨n3,he3,hn3⟩,hb3⟩:=hw3.no;subst he3))
      exact ⟨rfl,Red.mk_no hst2.out hn3 ((hbw.trans hb2).trans hb3)⟩
     | some y =>
      obtain ⟨t2,r2⟩:=y;have hlt2:=hid (a5V e2);rw [e2] at GP hst1;have hst2:Hid (b6f (.or a t2) r2=R):=hid hst1;have G2:=hid (fun u (hu:Rd u rb s r2 ((l++post a)++post t2)) (hl:((l++post a)++post t2).length≤1000)=>c0O hu (by omega) 4 (by decide) (by decide));clear hst1 e2
      go_wp2_with (first
       | (go_at_call 220;refine GE.out.mono ?_;rintro e w2 ⟨rfl,hr2,hb2⟩;have hr2:=hid hr2)
       | (go_at_call 219;refine (GP.out _ hr2.out).mono ?_;intro e w3 hw3;obtain ⟨he3,hr3,hm3,hb3⟩:=hw3.yes;subst he3;have hr3:=hid hr3;have hm3':=hid (show (l++post a++post t2).length≤1000 by omega);have hm3:=hid hm3)
       | (go_at_call 221;refine (G2.out _ hr3.out hm3'.out).mono ?_;rintro e w4 ⟨rfl,hr4,hb4⟩;have hr4:=hid hr4))
      have hr5:Rd w4 rb s r2 (l++post (.or a t2)):=by rw [show l++post (.or a t2)=((l++post a)++post t2)++[⟨4,n_⟩] by simp [post]];exact hr4.out
      go_roundw
      case rel =>
       have h1:=hm3.out;have h2:=hlt2.out;refine ⟨.or a t2,r2,hid hr5,hst2,hid ?_,by omega,((hbw.trans hb2).trans hb3).trans hb4⟩;rw [show l++post (.or a t2)=((l++post a)++post t2)++[⟨4,n_⟩] by simp [post],List.length_append];simp only [List.length_cons,List.length_nil];omega
      case measure =>
       have h2:=hlt2.out;rw [hmu.out,hr5.left];simp only [List.length_cons];omega
   · have hno:(q'.head? == some 124)=false:=by simpa using c1
     have GE:=hid (a5M hrd.out hs 124 hno);rw [show ((124:UInt8).toNat:Int)=124 from rfl] at GE;have hst':=hst.out;rw [b3k,hno] at hst';have hst2:Hid (R=some (a,q')):=hid hst'.symm;clear hst' hst c1 hno;go_wp2_with (go_at_call 220;refine GE.out.mono ?_;rintro e w2 ⟨rfl,hr2,hb2⟩;have hr2:=hid hr2)
     first | go_end0 | refine bodyPost_ret (results_none rfl _ _ _) rfl ?_
     exact Red.mk_yes hst2.out hr2.out hmm.out (hbw.trans hb2)
theorem b7N:∀ n,a5A n
 | 0=>fun _ _ _ _ _ _ _ _ h _ _=>absurd h (Nat.not_lt_zero _)
 | n+1=>fun _ _ _ _ _ _ h hs hn hM hM1=>c3D (b7N n) h hs (Nat.le_of_lt_succ hn) hM hM1
set_option maxRecDepth 20000 in
theorem b8P {w:World} {rb:Nat} {s q:Txt} {l:List Cel} {M:Nat} (h:Rd w rb s q l) (hs:s.length≤200) (hM:l.length+2 * q.length≤M) (hM1:M≤1000) :
 Calls Tryz.prog 205 #[.pointer (some ⟨rb,0,none⟩)] w (Red (a0M q) w rb s l M):=b7N (q.length+1) w rb s q l M h hs (Nat.lt_succ_self _) hM hM1
set_option maxRecDepth 20000 in
theorem a4v (b:Nat) (n:Int) (x0 x1 x2:Value) (w:World) (h0:w.heap[b]?=some (.cells #[x0] 60 (0,0))) (h1:w.heap[b+1]?=some (.cells #[x1] 3 (0,0))) (h2:w.heap[b+2]?=some (.cells #[x2] 31 (0,0))) :
 CallsD Tryz.prog 204 #[.pointer (some ⟨b,0,none⟩),.pointer (some ⟨b+1,0,none⟩),.pointer (some ⟨b+2,0,none⟩)] (.panicking [{ v:=.iface 239 (.int .i64 n),recovered:=false }]) w fun e u' w' =>
  e=.returned (.tuple #[])∧u'=.panicking [{ v:=.iface 239 (.int .i64 n),recovered:=true }]∧(w'.cell? ⟨b,0,none⟩=some (.slice none 0 0)∧w'.cell? ⟨b+1,0,none⟩=some (.int .i64 n)∧w'.cell? ⟨b+2,0,none⟩=some (.int .i64 1))∧Below b w w':=by
 have c0:=c_ (o:=0) (v:=x0) h0 rfl;have c1:=c_ (o:=0) (v:=x1) h1 rfl;have c2:=c_ (o:=0) (v:=x2) h2 rfl;have f0:=i_ h0 0;have f1:=i_ h1 0;have f2:=i_ h2 0;have ha:∀ u:World,(Instr.typeAssert (.iface 239 (.int .i64 n)) 20 239 false).run Tryz.prog u=.ok (.int .i64 n) u:=fun u=>by kernel_rfl
 refine callsD_of_wpS Tryz.func204 rfl fun c₀ cs hu=>?_
 apply wpS_seq
 apply wpS_region
 simp [wpOpsS,go_sem,recoverD,hu,Tryz.ntmps204,Exit.thenS]
 refine wpS_of_wp ?_;rw [show (#[Value.pointer (some ⟨b,0,none⟩),.pointer (some ⟨b+1,0,none⟩),.pointer (some ⟨b+2,0,none⟩)]++((Array.replicate 6 undef).setIfInBounds 1 (Value.iface 239 (.int .i64 n))).setIfInBounds 0 (Value.iface 239 (.int .i64 n)))=#[Value.pointer (some ⟨b,0,none⟩),.pointer (some ⟨b+1,0,none⟩),.pointer (some ⟨b+2,0,none⟩),.iface 239 (.int .i64 n),.iface 239 (.int .i64 n),undef,undef,undef,undef] from rfl];go_wp2_with fail
 go_region_with (fail)
 all_goals
  go_wp2;exact ⟨rfl,_,rfl,.tuple #[],by simp [results,Tryz.results204],rfl,rfl,⟨by simp [go_sem,c0],by simp [go_sem,c1],by simp [go_sem,c2]⟩,(x_ (x_ (x_ (Below.refl _ _) b 0 _ (Nat.le_refl _)) (b+1) 0 _ (by omega)) (b+2) 0 _ (by omega)).drew⟩
set_option maxRecDepth 20000 in
theorem a5w (p q r:Addr) (w:World) :
 CallsD Tryz.prog 204 #[.pointer (some p),.pointer (some q),.pointer (some r)] .returning w fun e u' w'=>e=.returned (.tuple #[])∧u'=.returning∧w'=w:=by
 refine callsD_of_wpS Tryz.func204 rfl fun c₀ cs hu=>?_
 apply wpS_seq
 apply wpS_region
 simp [wpOpsS,go_sem,recoverD,hu,Tryz.ntmps204,Exit.thenS]
 refine wpS_of_wp ?_;rw [show (#[Value.pointer (some p),.pointer (some q),.pointer (some r)]++((Array.replicate 6 undef).setIfInBounds 1 Value.nilIface).setIfInBounds 0 Value.nilIface)=#[Value.pointer (some p),.pointer (some q),.pointer (some r),.nilIface,.nilIface,undef,undef,undef,undef] from rfl];go_wp2;refine ⟨rfl,.returning,?_,.tuple #[],by simp [results,Tryz.results204],rfl,rfl,rfl⟩;cases c₀
 simp_all
def a1W (w:World) (s:Txt):World:=(((w.alloc (.cells #[.slice none 0 0] 60)).alloc (.cells #[.int .i64 0] 3)).alloc (.cells #[.int .i64 0] 31)).alloc (.cells #[.string (e_ s),.int .i64 0,.slice none 0 0] 241)
theorem a1V (w:World) (s:Txt):Below w.heap.size w (a1W w s):=a_ (a_ (a_ (al' w _) (al' _ _)) (al' _ _)) (al' _ _)
theorem a5Z (w:World) (s:Txt):Rd (a1W w s) (w.heap.size+3) s s []:=by
 obtain ⟨h0,h1,h2,h3⟩:=a1g w (.cells #[.slice none 0 0] 60) (.cells #[.int .i64 0] 3) (.cells #[.int .i64 0] 31) (.cells #[.string (e_ s),.int .i64 0,.slice none 0 0] 241);exact ⟨.slice none 0 0,⟨[],rfl,h3⟩,World.ownsRow_nil _ _ _ _,fun c hc=>by cases hc⟩
set_option maxRecDepth 20000 in
set_option maxHeartbeats 2000000 in
theorem c1v (s:Txt) (t:Rx) (w:World) (hs:s.length≤200) (hr:a0M s=some (t,[])) :
 Calls Tryz.prog 192 #[.string (e_ s)] w fun e w'=>∃ v,e=.returned (.tuple #[v,.int .i64 0,.int .i64 0])∧Cels w' v (post t)∧Below w.heap.size w w':=by
 have hmf:∀ (fn:Fn) (first cap:Array Value) (w:World),(Instr.makeFunc fn first cap).run Tryz.prog w=.ok (.func fn first cap) w:=fun _ _ _ _=>rfl
 have G:=b8P (M:=400) (a5Z w s) hs (by simp;omega) (by omega);rw [hr] at G;have G:=hid G;obtain ⟨h0,h1,h2,h3⟩:=a1g w (.cells #[.slice none 0 0] 60) (.cells #[.int .i64 0] 3) (.cells #[.int .i64 0] 31) (.cells #[.string (e_ s),.int .i64 0,.slice none 0 0] 241);have hsz:(a1W w s).heap.size=w.heap.size+4:=by simp [a1W]
 have hpl:plc s []=(s.length:Int):=by simp [plc]
 have hS:=o_ s
 have HE:Hid (∀ w1,Red (some (t,[])) (a1W w s) (w.heap.size+3) s [] 400 (.returned (.tuple #[])) w1→∃ ad cap,(w1.cell? ⟨w.heap.size+3,1,none⟩=some (.int .i64 (s.length:Int))∧w1.cell? ⟨w.heap.size+3,2,none⟩=some (.slice ad (post t).length cap)∧w1.heap[w.heap.size]?=some (.cells #[.slice none 0 0] 60 (0,0))∧w1.heap[w.heap.size+1]?=some (.cells #[.int .i64 0] 3 (0,0))∧w1.heap[w.heap.size+2]?=some (.cells #[.int .i64 0] 31 (0,0)))∧(∀ c∈post t,FitC c)∧b0S w1 (w.heap.size+3) (.slice ad (post t).length cap) (post t)∧Below w.heap.size w w1):=hid (fun w1 hw=>by
  obtain ⟨-,hrd,-,hb⟩:=hw.yes;have hp:=hrd.place;rw [hpl] at hp;obtain ⟨v,hat,ho,hf⟩:=hrd;obtain ⟨k,hbk⟩:=hat.blk;have hC:=Cels.of_own (l:=post t) ho hf;obtain ⟨ad,cap,rfl⟩:∃ ad cap,v=.slice ad (post t).length cap:=by obtain ⟨a,c,e,_⟩:=hC;exact ⟨a,c,e⟩
  refine ⟨ad,cap,⟨hp,(rd3 hbk).2.2.1,(hb.block _ (by omega)).trans h0,(hb.block _ (by omega)).trans h1,(hb.block _ (by omega)).trans h2⟩,hf,ho,?_⟩;exact (a1V w s).trans (hb.mono (by omega)))
 unfold a1W at G HE;generalize e_ s=S at G HE hS;clear h0 h1 h2 h3 hsz hpl hr;go_enter_defers Tryz.func192,Tryz.ntmps192
 go_wp2_with (go_at_call 205;refine G.out.mono ?_;intro e w1 hw1;obtain ⟨he1,-,-,-⟩:=hw1.yes;subst he1;obtain ⟨ad,cap,⟨c1,c2,k0,k1,k2⟩,hC,hO,hb⟩:=HE.out w1 hw1;have hC:=hid hC;have hO:=hid hO;have d0:=c_ (o:=0) (v:=.slice none 0 0) k0 rfl;have d1:=c_ (o:=0) (v:=.int .i64 0) k1 rfl;have d2:=c_ (o:=0) (v:=.int .i64 0) k2 rfl;have f0:=i_ k0 0;have f1:=i_ k1 0;have f2:=i_ k2 0;clear k0 k1 k2)
 refine leaves_cons (f:=204) (args:=#[.pointer (some ⟨w.heap.size,0,none⟩),.pointer (some ⟨w.heap.size+1,0,none⟩),.pointer (some ⟨w.heap.size+2,0,none⟩)]) (by simp) (by simp [go_sem]) ?_;refine (a5w _ _ _ _).mono ?_;rintro e u' w'' ⟨rfl,rfl,rfl⟩
 have hO':b0S (((w1.setCell ⟨w.heap.size,0,none⟩ (.slice ad (post t).length cap)).setCell ⟨w.heap.size+1,0,none⟩ (.int .i64 0)).setCell ⟨w.heap.size+2,0,none⟩ (.int .i64 0)) (w.heap.size+3) (.slice ad (post t).length cap) (post t):=y_ hO.out fun k hk=>by
  have:=(hO.out.lt k hk).1
  rw [Below.heap_setCell _ _ _ _ (by simp;omega),Below.heap_setCell _ _ _ _ (by simp;omega),Below.heap_setCell _ _ _ _ (by simp;omega)]
 refine ⟨.tuple #[.slice ad (post t).length cap,.int .i64 0,.int .i64 0],by simp [results,Tryz.results192,go_sem,d0,d1,d2],_,rfl,Cels.of_own (l:=post t) hO' hC.out,?_⟩;exact x_ (x_ (x_ hb _ 0 _ (Nat.le_refl _)) _ 0 _ (by omega)) _ 0 _ (by omega)
set_option maxRecDepth 20000 in
set_option maxHeartbeats 2000000 in
theorem b8Z (s:Txt) (w:World) (hs:s.length≤200) (hr:∀ t,a0M s≠some (t,[])) :
 Calls Tryz.prog 192 #[.string (e_ s)] w fun e w'=>∃ n,e=.returned (.tuple #[.slice none 0 0,.int .i64 n,.int .i64 1])∧(s=[40,97]→n=2)∧Below w.heap.size w w':=by
 have hmf:∀ (fn:Fn) (first cap:Array Value) (w:World),(Instr.makeFunc fn first cap).run Tryz.prog w=.ok (.func fn first cap) w:=fun _ _ _ _=>rfl
 have G:=b8P (M:=400) (a5Z w s) hs (by simp;omega) (by omega);obtain ⟨h0,h1,h2,h3⟩:=a1g w (.cells #[.slice none 0 0] 60) (.cells #[.int .i64 0] 3) (.cells #[.int .i64 0] 31) (.cells #[.string (e_ s),.int .i64 0,.slice none 0 0] 241);have hsz:(a1W w s).heap.size=w.heap.size+4:=by simp [a1W]
 have HB:Hid (∀ w1,Below (w.heap.size+3) (a1W w s) w1→(w1.heap[w.heap.size]?=some (.cells #[.slice none 0 0] 60 (0,0))∧w1.heap[w.heap.size+1]?=some (.cells #[.int .i64 0] 3 (0,0))∧w1.heap[w.heap.size+2]?=some (.cells #[.int .i64 0] 31 (0,0)))∧Below w.heap.size w w1):=hid (fun w1 hb=>⟨⟨(hb.block _ (by omega)).trans h0,(hb.block _ (by omega)).trans h1,(hb.block _ (by omega)).trans h2⟩,(a1V w s).trans (hb.mono (by omega))⟩);have hS:=o_ s;cases e1:a0M s with
 | none =>
  rw [e1] at G;have G':=hid G;unfold a1W at G' HB;generalize e_ s=S at G' HB hS;clear h0 h1 h2 h3 hsz hr e1 G;go_enter_defers Tryz.func192,Tryz.ntmps192
  go_wp2_with (go_at_call 205;refine G'.out.mono ?_;intro e w1 hw1;obtain ⟨⟨n1,he1,hn1⟩,hb1⟩:=hw1.no;subst he1;obtain ⟨⟨k0,k1,k2⟩,hb⟩:=HB.out w1 hb1;have k0:=hid k0;have k1:=hid k1;have k2:=hid k2)
  refine leaves_cons (f:=204) (args:=#[.pointer (some ⟨w.heap.size,0,none⟩),.pointer (some ⟨w.heap.size+1,0,none⟩),.pointer (some ⟨w.heap.size+2,0,none⟩)]) (by simp) (by simp [go_sem]) ?_;refine (a4v w.heap.size n1 _ _ _ _ k0.out k1.out k2.out).mono ?_;rintro e u' w'' ⟨rfl,rfl,⟨q0,q1,q2⟩,hbw⟩;exact ⟨.tuple #[.slice none 0 0,.int .i64 n1,.int .i64 1],by simp [results,Tryz.results192,go_sem,q0,q1,q2],n1,rfl,hn1,hb.trans hbw⟩
 | some x =>
  obtain ⟨t,q⟩:=x;rw [e1] at G;have hq:q≠[]:=fun e=>hr t (by rw [e1,e])
  have hqp:0<q.length:=List.length_pos_iff.2 hq;have hn2:s=[40,97]→False:=fun he=>by subst he;cases e1
  have hlt:plc s q<(s.length:Int):=by unfold plc;omega
  have HP:=hid (fun w1 (h:Rd w1 (w.heap.size+3) s q ([]++post t))=>h.place);generalize plc s q=p at hlt HP;have G':=hid G;unfold a1W at G' HB;generalize e_ s=S at G' HB hS;clear h0 h1 h2 h3 hsz hr e1 G hq hqp;go_enter_defers Tryz.func192,Tryz.ntmps192
  go_wp2_with (go_at_call 205;refine G'.out.mono ?_;intro e w1 hw1;obtain ⟨he1,hrd1,-,hb1⟩:=hw1.yes;subst he1;have c1:=HP.out w1 hrd1;obtain ⟨⟨k0,k1,k2⟩,hb⟩:=HB.out w1 hb1;have k0:=hid k0;have k1:=hid k1;have k2:=hid k2)
  refine leaves_cons (f:=204) (args:=#[.pointer (some ⟨w.heap.size,0,none⟩),.pointer (some ⟨w.heap.size+1,0,none⟩),.pointer (some ⟨w.heap.size+2,0,none⟩)]) (by simp) (by simp [go_sem]) ?_;refine (a4v w.heap.size p _ _ _ _ k0.out k1.out k2.out).mono ?_;rintro e u' w'' ⟨rfl,rfl,⟨q0,q1,q2⟩,hbw⟩;exact ⟨.tuple #[.slice none 0 0,.int .i64 p,.int .i64 1],by simp [results,Tryz.results192,go_sem,q0,q1,q2],p,rfl,fun he=>(hn2 he).elim,hb.trans hbw⟩
set_option maxRecDepth 20000 in
theorem b2V (s:Txt) (w:World) (hs:200<s.length):Calls Tryz.prog 168 #[.string (e_ s)] w fun e w'=>∃ a c,e=.returned (.tuple #[.slice a 0 c,.int .i64 0,.int .i64 3])∧Below w.heap.size w w':=by
 have hS:=o_ s;have hz:(200:Int)<((e_ s).size:Int):=by omega
 generalize e_ s=S at hS hz;clear hS hs;go_enter Tryz.func168,Tryz.ntmps168
 go_wp2;refine bodyPost_ret (v:=.tuple #[.slice none 0 0,.int .i64 0,.int .i64 3]) (by simp [results,Tryz.results168,go_sem]) rfl ⟨none,0,rfl,Below.refl _ _⟩
set_option maxRecDepth 20000 in
theorem b6c (s:Txt) (w:World) (hs:s.length≤200) (hr:∀ t,a0M s≠some (t,[])):Calls Tryz.prog 168 #[.string (e_ s)] w fun e w'=>∃ a c n,e=.returned (.tuple #[.slice a 0 c,.int .i64 n,.int .i64 1])∧(s=[40,97]→n=2)∧Below w.heap.size w w':=by
 have G:=hid (b8Z s w hs hr);have hS:=o_ s;have hz:¬ (200:Int)<((e_ s).size:Int):=by omega
 have hzz:(e_ s).size≤200:=by omega
 generalize e_ s=S at hS hz G hzz;clear hr hS;go_enter Tryz.func168,Tryz.ntmps168
 go_wp2_with (go_at_call 192;refine G.out.mono ?_;rintro e w1 ⟨n,rfl,hn,hb⟩)
 refine bodyPost_ret (v:=.tuple #[.slice none 0 0,.int .i64 n,.int .i64 1]) (by simp [results,Tryz.results168,go_sem]) rfl ⟨none,0,n,rfl,hn,hb⟩
set_option maxRecDepth 20000 in
theorem b2W (s:Txt) (t:Rx) (w:World) (hs:s.length≤200) (hr:a0M s=some (t,[])) (hl:60<(post t).length):Calls Tryz.prog 168 #[.string (e_ s)] w fun e w'=>∃ a c,e=.returned (.tuple #[.slice a 0 c,.int .i64 0,.int .i64 3])∧Below w.heap.size w w':=by
 have G0:=c1v s t w hs hr;have hS:=o_ s;have hz:¬ (200:Int)<((e_ s).size:Int):=by omega
 have hzz:(e_ s).size≤200:=by omega
 have G:Hid (Calls Tryz.prog 192 #[.string (e_ s)] w fun e w'=>∃ a c,e=.returned (.tuple #[.slice a (post t).length c,.int .i64 0,.int .i64 0])∧Below w.heap.size w w'):=hid (G0.mono fun e w' ⟨v,he,hc,hb⟩=>by
  obtain ⟨a,c,hv,_⟩:=hc;subst hv;exact ⟨a,c,he,hb⟩)
 generalize e_ s=S at hS hz G hzz;have hlz:(60:Int)<((post t).length:Int):=by omega
 generalize (post t).length=L at G hlz;clear hr hS G0 hl;go_enter Tryz.func168,Tryz.ntmps168
 go_wp2_with (go_at_call 192;refine G.out.mono ?_;rintro e w1 ⟨a,c,rfl,hb⟩)
 refine bodyPost_ret (v:=.tuple #[.slice none 0 0,.int .i64 0,.int .i64 3]) (by simp [results,Tryz.results168,go_sem]) rfl ⟨none,0,rfl,hb⟩
end Go.Proofs.YtjgedijclkoemaaGreatDoor
namespace Go.Proofs.YtjgedijclkoemaaGreatDoor
def a2Z:List Int→List Int→Int
 | [],[]=>0
 | [],_ :: _ => -1
 | _ :: _,[]=>1
 | x :: a,y :: b=>if x<y then -1 else if y<x then 1 else a2Z a b
theorem b1F:∀ a b,a2Z a b = -1∨a2Z a b=0∨a2Z a b=1
 | [],[]=>by simp [a2Z]
 | [],_ :: _=>by simp [a2Z]
 | _ :: _,[]=>by simp [a2Z]
 | x :: a,y :: b=>by
  have:=b1F a b
  unfold a2Z;split
  · simp
  · split
    · simp
    · exact this
theorem a4u:∀ a b,a2Z a b=0↔a=b
 | [],[]=>by simp [a2Z]
 | [],_ :: _=>by simp [a2Z]
 | _ :: _,[]=>by simp [a2Z]
 | x :: a,y :: b=>by
  have:=a4u a b
  unfold a2Z;by_cases h1:x<y
  · rw [if_pos h1];simp;omega
  · by_cases h2:y<x
    · rw [if_neg h1,if_pos h2];simp;omega
    · rw [if_neg h1,if_neg h2,this]
      obtain rfl:x=y:=by omega
      simp
theorem c0u {a b:List Int} {k:Nat} (ha:k<a.length) (hb:k<b.length):a2Z (a.drop k) (b.drop k)=if a[k]<b[k] then -1 else if b[k]<a[k] then 1 else a2Z (a.drop (k+1)) (b.drop (k+1)):=by
 rw [List.drop_eq_getElem_cons ha,List.drop_eq_getElem_cons hb,a2Z]
theorem b4I {a b:List Int} {k:Nat} (ha:¬ k<a.length) (hb:k<b.length):a2Z (a.drop k) (b.drop k) = -1:=by
 rw [List.drop_eq_nil_of_le (by omega),List.drop_eq_getElem_cons hb,a2Z]
theorem b4H {a b:List Int} {k:Nat} (ha:k<a.length) (hb:¬ k<b.length):a2Z (a.drop k) (b.drop k)=1:=by
 rw [List.drop_eq_getElem_cons ha,List.drop_eq_nil_of_le (show b.length≤k by omega),a2Z]
theorem b7n {a b:List Int} {k:Nat} (ha:¬ k<a.length) (hb:¬ k<b.length):a2Z (a.drop k) (b.drop k)=0:=by
 rw [List.drop_eq_nil_of_le (show a.length≤k by omega),List.drop_eq_nil_of_le (show b.length≤k by omega),a2Z]
end Go.Proofs.YtjgedijclkoemaaGreatDoor
