/- What the five laws of layer 17 share, part 5: no statement of its own. -/
import Derived.Test.YtjgedijclkoemaaGreatDoorJ4
import Derived.Deep.RegionHeld3
import Derived.Laws.Bits128
import Derived.Laws.BitsAllLaws
import Derived.Laws.StandIn
import Derived.Lib.Bytealg
import Derived.WalkLawsBesides
namespace Go.Proofs.YtjgedijclkoemaaGreatDoor
open Go.RowKit
def At (w:World) (rb:Nat) (v:Value) (s q:Txt):Prop:=∃ pre:Txt,s=pre++q∧w.heap[rb]?=some (.cells #[.string (e_ s),.int .i64 (pre.length:Int),v] 241 (0,0))
theorem At.keep {w w':World} {rb:Nat} {v:Value} {s q:Txt} (h:At w rb v s q) (hb:Below w.heap.size w w'):At w' rb v s q:=by
 obtain ⟨pre,h1,h2⟩:=h;exact ⟨pre,h1,(hb.block rb (u_ h2)).trans h2⟩
theorem rd3 {w:World} {b:Nat} {x0 x1 x2:Value} {T:TypeId} (h:w.heap[b]?=some (.cells #[x0,x1,x2] T (0,0))) :
 w.cell? ⟨b,0,none⟩=some x0∧w.cell? ⟨b,1,none⟩=some x1∧w.cell? ⟨b,2,none⟩=some x2∧w.frozen? ⟨b,1,none⟩=false∧w.frozen? ⟨b,2,none⟩=false:=⟨c_ h rfl,c_ h rfl,c_ h rfl,i_ h 1,i_ h 2⟩
set_option maxRecDepth 20000 in
set_option maxHeartbeats 1000000 in
theorem c0J (w:World) (rb k:Nat) (v:Value) (S:ByteArray) (z:Int) (_hs:S.size≤1000) (hk:k=S.size) (h:w.heap[rb]?=some (.cells #[.string S,.int .i64 (k:Int),v] 241 (0,0))) :
 Calls Tryz.prog 231 #[.pointer (some ⟨rb,0,none⟩),.int .u8 z] w fun e w'=>e=.returned (.bool false)∧Below w.heap.size w w':=by
 obtain ⟨c0,c1,c2,c3,c4⟩:=rd3 h;have hlt:¬ (k:Int)<(S.size:Int):=by omega
 have hd:decide ((k:Int)<(S.size:Int))=false:=decide_eq_false hlt;clear h;go_enter Tryz.func231,Tryz.ntmps231
 go_wp2_with fail
 go_quiet (fail)
 go_wp2;go_ret;exact ⟨rfl,⟨rfl,rfl,rfl,Nat.le_refl _,fun _ _=>rfl⟩⟩
set_option maxRecDepth 20000 in
set_option maxHeartbeats 1000000 in
theorem b5h (w:World) (rb k:Nat) (v:Value) (S:ByteArray) (z:Int) (_hs:S.size≤1000) (hk:k<S.size) (h:w.heap[rb]?=some (.cells #[.string S,.int .i64 (k:Int),v] 241 (0,0))) :
 Calls Tryz.prog 231 #[.pointer (some ⟨rb,0,none⟩),.int .u8 z] w fun e w'=>e=.returned (.bool ((S[k].toNat:Int) == z))∧Below w.heap.size w w':=by
 obtain ⟨c0,c1,c2,c3,c4⟩:=rd3 h;have hlt:(k:Int)<(S.size:Int):=by omega
 clear h;go_enter Tryz.func231,Tryz.ntmps231
 go_wp2_with fail
 go_quiet (fail)
 go_wp2;go_ret;exact ⟨rfl,⟨rfl,rfl,rfl,Nat.le_refl _,fun _ _=>rfl⟩⟩
theorem b5a {pre r:Txt} {d:UInt8} (h:pre.length<(e_ (pre++d :: r)).size):(e_ (pre++d :: r))[pre.length]=d:=by
 exact (b2j _ _ h (by simp)).trans (by simp)
theorem c0x (d c:UInt8):(((d.toNat:Int)) == (c.toNat:Int))=(d == c):=by
 rw [Bool.eq_iff_iff,beq_iff_eq,beq_iff_eq]
 constructor
 · intro h;exact UInt8.toNat_inj.1 (by omega)
 · intro h;rw [h]
set_option maxRecDepth 20000 in
theorem b0R {w:World} {rb:Nat} {v:Value} {s q:Txt} (h:At w rb v s q) (hs:s.length≤200) (c:UInt8) :
 Calls Tryz.prog 231 #[.pointer (some ⟨rb,0,none⟩),.int .u8 (c.toNat:Int)] w fun e w'=>e=.returned (.bool (q.head? == some c))∧Below w.heap.size w w':=by
 obtain ⟨pre,hp,hb⟩:=h;have hsz:=o_ s;cases q with
 | nil=>exact c0J w rb pre.length v (e_ s) _ (by omega) (by rw [hsz,hp];simp) hb
 | cons d r =>
  have hk:pre.length<(e_ s).size:=by rw [hsz,hp];simp
  have:=b5h w rb pre.length v (e_ s) (c.toNat:Int) (by omega) hk hb
  have e:(e_ s)[pre.length]=d:=by subst hp;exact b5a hk
  rw [e,c0x] at this;exact this
theorem At.next {w:World} {rb:Nat} {v:Value} {s r:Txt} {d:UInt8} (h:At w rb v s (d :: r)):∃ k:Nat,w.cell? ⟨rb,1,none⟩=some (.int .i64 (k:Int))∧w.frozen? ⟨rb,1,none⟩=false∧k<s.length∧At (w.setCell ⟨rb,1,none⟩ (.int .i64 ((k:Int)+1))) rb v s r:=by
 obtain ⟨pre,hp,hb⟩:=h;obtain ⟨c0,c1,c2,c3,c4⟩:=rd3 hb;refine ⟨pre.length,c1,c3,by rw [hp];simp,pre++[d],by rw [hp];simp,?_⟩
 have:=heap_setCell (o:=1) (v:=.int .i64 ((pre.length:Int)+1)) hb
 rw [this];simp
theorem a3E {w:World} {rb o:Nat} {v:Value}:Kept (f_ rb) w (w.setCell ⟨rb,o,none⟩ v):=(Kept.refl _ w).setCell (a:=⟨rb,o,none⟩) fun _=>rfl
set_option maxRecDepth 20000 in
theorem a9q {w:World} {rb:Nat} {v:Value} {s q:Txt} (h:At w rb v s q) (hs:s.length≤200) (c:UInt8) (hc:(q.head? == some c)=false) :
 Calls Tryz.prog 220 #[.pointer (some ⟨rb,0,none⟩),.int .u8 (c.toNat:Int)] w fun e w'=>e=.returned (.bool false)∧Below w.heap.size w w':=by
 have GA:=hid (b0R h hs c);rw [hc] at GA;generalize (c.toNat:Int)=z at GA ⊢;clear h hc;go_enter Tryz.func220,Tryz.ntmps220
 go_wp2_with (go_at_call 231;refine GA.out.mono ?_;rintro e w1 ⟨rfl,hb1⟩)
 go_ret;exact ⟨rfl,hb1⟩
set_option maxRecDepth 20000 in
theorem a5K {w:World} {rb:Nat} {v:Value} {s r:Txt} {c:UInt8} (h:At w rb v s (c :: r)) (hs:s.length≤200) :
 Calls Tryz.prog 220 #[.pointer (some ⟨rb,0,none⟩),.int .u8 (c.toNat:Int)] w fun e w'=>e=.returned (.bool true)∧At w' rb v s r∧Kept (f_ rb) w w':=by
 have GA:=hid (b0R h hs c);rw [show ((c :: r).head? == some c)=true by simp] at GA;generalize (c.toNat:Int)=z at GA ⊢;have H:=hid (fun u (hb:Below w.heap.size w u)=>(h.keep hb).next);clear h;go_enter Tryz.func220,Tryz.ntmps220
 go_wp2_with (go_at_call 231;refine GA.out.mono ?_;rintro e w1 ⟨rfl,hb1⟩;obtain ⟨k,c1,c3,hk,hat⟩:=H.out w1 hb1;have hat:=hid hat)
 go_ret;exact ⟨rfl,hat.out,(Kept.of_below hb1).trans a3E⟩
set_option maxRecDepth 20000 in
theorem b3x {w:World} {rb:Nat} {v:Value} {s:Txt} (h:At w rb v s []) (_hs:s.length≤200) (p:Int) :
 Calls Tryz.prog 259 #[.pointer (some ⟨rb,0,none⟩),.int .i64 p] w fun e w'=>e=.panicked [{ v:=.iface 239 (.int .i64 p),recovered:=false }]∧Below w.heap.size w w':=by
 obtain ⟨pre,hp,hb⟩:=h;obtain ⟨c0,c1,c2,c3,c4⟩:=rd3 hb;have hsz:=o_ s;have hk:(e_ s).size=pre.length:=by rw [hsz,hp];simp
 have hkk:(((pre.length:Int)) == ((e_ s).size:Int))=true:=by rw [hk];simp
 generalize e_ s=S at hk c0 hsz hkk;generalize pre.length=k at hk c1 hkk;clear hb hp;go_enter Tryz.func259,Tryz.ntmps259
 go_wp2_with fail
 go_quiet (fail)
 go_wp2;exact ⟨rfl,rfl,⟨rfl,rfl,rfl,Nat.le_refl _,fun _ _=>rfl⟩⟩
set_option maxRecDepth 20000 in
theorem a8K {w:World} {rb:Nat} {v:Value} {s r:Txt} {c:UInt8} (h:At w rb v s (c :: r)) (hs:s.length≤200) (p:Int) :
 Calls Tryz.prog 259 #[.pointer (some ⟨rb,0,none⟩),.int .i64 p] w fun e w'=>e=.returned (.int .u8 (c.toNat:Int))∧At w' rb v s r∧Kept (f_ rb) w w':=by
 obtain ⟨pre,hp,hb⟩:=h
 have H:Hid (∀ u,Below w.heap.size w u→At (u.setCell ⟨rb,1,none⟩ (.int .i64 ((pre.length:Int)+1))) rb v s r):=hid (fun u hu=>by
  refine ⟨pre++[c],by rw [hp];simp,?_⟩;rw [heap_setCell (o:=1) (v:=.int .i64 ((pre.length:Int)+1)) ((hu.block rb (u_ hb)).trans hb)];simp)
 obtain ⟨c0,c1,c2,c3,c4⟩:=rd3 hb;have hsz:=o_ s;have hk:pre.length<(e_ s).size:=by rw [hsz,hp];simp
 have hch:(e_ s)[pre.length].toNat=c.toNat:=by subst hp;rw [b5a hk]
 have hkk:(((pre.length:Int)) == ((e_ s).size:Int))=false:=beq_eq_false_iff_ne.2 (by omega);generalize (c.toNat)=z at hch ⊢;generalize e_ s=S at hk c0 hsz hkk hch;generalize pre.length=k at hk c1 hkk hch H;clear hb hp;go_enter Tryz.func259,Tryz.ntmps259
 go_wp2_with fail
 go_quiet (fail)
 go_wp2_with fail
 go_quiet (fail)
 go_wp2;go_ret;have hd:∀ n,Below w.heap.size w (w.drewN n):=fun n=>⟨rfl,rfl,rfl,Nat.le_refl _,fun _ _=>rfl⟩
 exact ⟨rfl,H.out _ (hd _),(Kept.of_below (hd _)).trans a3E⟩
set_option maxRecDepth 20000 in
theorem b1c {w:World} {rb:Nat} {v:Value} {s:Txt} (h:At w rb v s []) (hs:s.length≤200) :
 Calls Tryz.prog 230 #[.pointer (some ⟨rb,0,none⟩)] w fun e w'=>e=.returned (.bool true)∧Below w.heap.size w w':=by
 obtain ⟨pre,hp,hb⟩:=h;obtain ⟨c0,c1,c2,c3,c4⟩:=rd3 hb;have hsz:=o_ s;have hk:(e_ s).size=pre.length:=by rw [hsz,hp];simp
 have hle:(e_ s).size≤200:=by omega
 generalize e_ s=S at hk c0 hsz hle;rw [← hk] at c1;clear hb hp hsz hk;go_enter Tryz.func230,Tryz.ntmps230
 go_wp2_with fail
 go_quiet (fail)
 go_wp2;go_ret;exact ⟨rfl,⟨rfl,rfl,rfl,Nat.le_refl _,fun _ _=>rfl⟩⟩
set_option maxRecDepth 20000 in
set_option maxHeartbeats 1000000 in
theorem a8B {w:World} {rb:Nat} {v:Value} {s r:Txt} {c:UInt8} (h:At w rb v s (c :: r)) (hs:s.length≤200) :
 Calls Tryz.prog 230 #[.pointer (some ⟨rb,0,none⟩)] w fun e w'=>e=.returned (.bool (a3f (c :: r)))∧Below w.heap.size w w':=by
 have G1:=hid (fun u (hb:Below w.heap.size w u)=>b0R (h.keep hb) hs 124);have G2:=hid (fun u (hb:Below w.heap.size w u)=>b0R (h.keep hb) hs 41);have hdr:Below w.heap.size w w.drew:=(Below.refl _ w).drew;rw [show a3f (c :: r)=(((c :: r).head? == some 124) || ((c :: r).head? == some 41)) from rfl];obtain ⟨pre,hp,hb⟩:=h;obtain ⟨c0,c1,c2,c3,c4⟩:=rd3 hb;have hsz:=o_ s;have hlt:pre.length<(e_ s).size:=by rw [hsz,hp];simp
 have hle:(e_ s).size≤200:=by omega
 have hkk:(((pre.length:Int)) == ((e_ s).size:Int))=false:=beq_eq_false_iff_ne.2 (by omega);generalize e_ s=S at c0 hsz hle hlt hkk;generalize pre.length=k at c1 hlt hkk;generalize ((c :: r).head? == some 124)=b1 at G1 ⊢;generalize ((c :: r).head? == some 41)=b2 at G2 ⊢;clear hb hp hsz;cases b1
 · go_enter Tryz.func230,Tryz.ntmps230
   go_wp2_with fail
   go_region_held3 (fun w'=>w'.cell? ⟨rb,0,none⟩=some (.string S)∧w'.cell? ⟨rb,1,none⟩=some (.int .i64 (k:Int))) (go_keep) ((first
    | (go_at_call_of 231 (Value.int .u8 124);refine (G1.out _ hdr).mono ?_;rintro e w1 ⟨rfl,hb1'⟩;have hb1:=a_ hdr hb1';have:=d_ hb1 c0;have:=d_ hb1 c1)
    | (go_at_call_of 231 (Value.int .u8 41);refine (G2.out _ hb1).mono ?_;rintro e w2 ⟨rfl,hb2'⟩;have hb2:=a_ hb1 hb2';have:=d_ hb2 c0;have:=d_ hb2 c1)))
   all_goals
    go_wp2;go_ret;exact ⟨by cases b2 <;> rfl,hb2⟩
 · go_enter Tryz.func230,Tryz.ntmps230
   go_wp2_with fail
   first | (go_region_with (first
    | (go_at_call 231;refine (G1.out _ hdr).mono ?_;rintro e w1 ⟨rfl,hb1'⟩;have hb1:=a_ hdr hb1';have:=d_ hb1 c0;have:=d_ hb1 c1)
    | fail)) | fail
   all_goals
    go_wp2;go_ret;exact ⟨rfl,hb1⟩
set_option maxRecDepth 20000 in
theorem b5M {w:World} {rb:Nat} {v:Value} {s q:Txt} (h:At w rb v s q) (hs:s.length≤200) :
 Calls Tryz.prog 230 #[.pointer (some ⟨rb,0,none⟩)] w fun e w'=>e=.returned (.bool (a3f q))∧Below w.heap.size w w':=by
 cases q with
 | nil=>exact b1c h hs
 | cons c r=>exact a8B h hs
set_option maxRecDepth 20000 in
theorem b5r (n:Nat) (w:World) (hn:n<256):Calls Tryz.prog 264 #[.int .u8 (n:Int)] w fun e w'=>e=.returned (.bool (decide (32≤n∧n≤126)))∧w'=w:=by
 by_cases h1:32≤n
 · by_cases h2:n≤126
   · rw [decide_eq_true (⟨h1,h2⟩:32≤n∧n≤126)]
     have h1z:(32:Int)≤(n:Int):=by omega
     have h2z:(n:Int)≤126:=by omega
     go_enter Tryz.func264,Tryz.ntmps264;go_wp2;go_ret;exact ⟨by simp,rfl⟩
   · rw [decide_eq_false (fun h:32≤n∧n≤126=>h2 h.2)]
     have h1z:(32:Int)≤(n:Int):=by omega
     have h2z:¬ (n:Int)≤126:=by omega
     go_enter Tryz.func264,Tryz.ntmps264;go_wp2;go_ret;exact ⟨by simp,rfl⟩
 · rw [decide_eq_false (fun h:32≤n∧n≤126=>h1 h.1)]
   have h1z:¬ (32:Int)≤(n:Int):=by omega
   go_enter Tryz.func264,Tryz.ntmps264;go_wp2;go_ret;exact ⟨rfl,rfl⟩
set_option maxRecDepth 20000 in
theorem c4e (S:ByteArray) (z:Int) (w:World):(callFunc 203 #[.string S,.int .u8 z]).run Tryz.prog w=.ok (.value (.int .i64 (Lib.indexByte S.data.toList z.toNat.toUInt8))) w:=by
 rw [run_callFunc_indexByte Tryz.func203 (by kernel_rfl) (by kernel_rfl) (by kernel_rfl) (by kernel_rfl),Lib.run_indexByteString];rfl
set_option maxRecDepth 20000 in
theorem c1Q (S:ByteArray) (z:Int) (w:World):Calls Tryz.prog 191 #[.string S,.int .u8 z] w fun e w'=>e=.returned (.int .i64 (Lib.indexByte S.data.toList z.toNat.toUInt8))∧w'=w:=by
 have hx:=c4e S z;go_enter Tryz.func191,Tryz.ntmps191
 go_wp2;go_ret;exact ⟨rfl,rfl⟩
set_option maxRecDepth 20000 in
theorem c4z (S:ByteArray) (z:Int) (w:World):Calls Tryz.prog 165 #[.string S,.int .u8 z] w fun e w'=>e=.returned (.int .i64 (Lib.indexByte S.data.toList z.toNat.toUInt8))∧w'=w:=by
 have G:=hid (c1Q S z);go_enter Tryz.func165,Tryz.ntmps165
 go_wp2_with (go_at_call 191;refine (G.out _).mono ?_;rintro e w1 ⟨rfl,hw⟩;subst w1)
 go_ret;exact ⟨rfl,rfl⟩
abbrev b7z:ByteArray:=⟨#[46,42,43,63,40,41,91,93,124,92,47]⟩
abbrev b4L:ByteArray:=⟨#[93,91,92,94,45,47]⟩
abbrev b4S:ByteArray:=⟨#[46,42,43,63,40,41,91,93,124,92,47,93,91,92,94,45,47]⟩
def b5i (S:ByteArray) (tell:UInt8→Bool):Prop:=∀ n,n<256→decide (Lib.indexByte S.data.toList (UInt8.ofNat n)<0)=!tell (UInt8.ofNat n)
theorem b0U:b5i b7z c0Y:=by
 have h:∀ b:Fin 256,decide (Lib.indexByte b7z.data.toList (UInt8.ofNat b)<0)=!c0Y (UInt8.ofNat b):=by decide +kernel
 exact fun n hn=>h ⟨n,hn⟩
theorem a8w:b5i b4L c0X:=by
 have h:∀ b:Fin 256,decide (Lib.indexByte b4L.data.toList (UInt8.ofNat b)<0)=!c0X (UInt8.ofNat b):=by decide +kernel
 exact fun n hn=>h ⟨n,hn⟩
theorem b0T:b5i b4S c2C:=by
 have h:∀ b:Fin 256,decide (Lib.indexByte b4S.data.toList (UInt8.ofNat b)<0)=!c2C (UInt8.ofNat b):=by decide +kernel
 exact fun n hn=>h ⟨n,hn⟩
theorem c4r (n:Nat):((n:Int)).toNat.toUInt8=UInt8.ofNat n:=rfl
def a7q (n:Nat) (tell:UInt8→Bool):Bool:=decide (32≤n∧n≤126) && !tell (UInt8.ofNat n)
set_option maxRecDepth 20000 in
theorem c1B (n:Nat) (S:ByteArray) (tell:UInt8→Bool) (w:World) (hn:n<256) (ht:b5i S tell):Calls Tryz.prog 261 #[.int .u8 (n:Int),.string S] w fun e w'=>e=.returned (.bool (a7q n tell))∧w'=w:=by
 have GV:=hid (b5r n w hn);have GI:=hid (c4z S (n:Int) w);rw [c4r] at GI;have hle:=Lib.indexByte_ge S.data.toList (UInt8.ofNat n);have hh:Hid (decide (Lib.indexByte S.data.toList (UInt8.ofNat n)<0)=!tell (UInt8.ofNat n)):=hid (ht n hn);unfold a7q;generalize Lib.indexByte S.data.toList (UInt8.ofNat n)=z at GI hh hle;cases hv:decide (32≤n∧n≤126) with
 | false =>
  rw [hv] at GV;clear hv;go_enter Tryz.func261,Tryz.ntmps261
  go_wp2_with (go_at_call 264;refine GV.out.mono ?_;rintro e w1 ⟨rfl,hw⟩;subst w1)
  go_ret;exact ⟨rfl,rfl⟩
 | true =>
  rw [hv] at GV;rw [← hh.out];clear hv;go_enter Tryz.func261,Tryz.ntmps261
  go_wp2_with (first
   | (go_at_call 264;refine GV.out.mono ?_;rintro e w1 ⟨rfl,hw⟩;subst w1)
   | (go_at_call 165;refine GI.out.mono ?_;rintro e w1 ⟨rfl,hw⟩;subst w1))
  go_ret;exact ⟨rfl,rfl⟩
def Said (p:Int) (res:Option (Nat×Txt)) (w:World) (rb:Nat) (v:Value) (s:Txt):Ending→World→Prop:=fun e w' =>
 (match res with
  | some (b,q)=>e=.returned (.int .u8 (b:Int))∧At w' rb v s q
  | none=>e=.panicked [{ v:=.iface 239 (.int .i64 p),recovered:=false }])∧Kept (f_ rb) w w'
theorem b6O (c:UInt8):b1z c=if 48≤c.toNat∧c.toNat≤57 then some (c.toNat - 48) else if 97≤c.toNat∧c.toNat≤102 then some (c.toNat - 87) else if 65≤c.toNat∧c.toNat≤70 then some (c.toNat - 55) else none:=rfl
theorem a9H {a b:Int} (h:a=b):Ending.returned (.int .u8 a)=.returned (.int .u8 b):=by rw [h]
def b1y:Txt→Option (Nat×Txt)
 | []=>none
 | c :: r=>match b1z c with
  | some a=>some (a,r)
  | none=>none
set_option maxRecDepth 20000 in
set_option maxHeartbeats 1000000 in
theorem c2H {w:World} {rb:Nat} {v:Value} {s q:Txt} (h:At w rb v s q) (hs:s.length≤200) (p:Int) :
 Calls Tryz.prog 263 #[.pointer (some ⟨rb,0,none⟩),.int .i64 p] w (Said p (b1y q) w rb v s):=by
 cases q with
 | nil =>
  have G:=hid (b3x h hs p);clear h;go_enter Tryz.func263,Tryz.ntmps263
  go_wp2_with (go_at_call 259;refine G.out.mono ?_;rintro e w1 ⟨rfl,hb1⟩)
  exact ⟨rfl,rfl,Kept.of_below hb1⟩
 | cons c r =>
  have G:=hid (a8K h hs p);have hn:=c.toNat_lt
  show Calls _ _ _ _ (Said p (match b1z c with | some a=>some (a,r) | none=>none) w rb v s)
  rw [b6O];generalize c.toNat=n at G hn ⊢;clear h;by_cases h1:48≤n∧n≤57
  · rw [if_pos h1]
    obtain ⟨ha,hb⟩:=h1;have hz:(48:Int)≤(n:Int):=by omega
    have hz':(n:Int)≤57:=by omega
    go_enter Tryz.func263,Tryz.ntmps263
    go_wp2_with (go_at_call 259;refine G.out.mono ?_;rintro e w1 ⟨rfl,hat,hk⟩;have hat:=hid hat)
    go_ret;exact ⟨⟨a9H (by omega),hat.out⟩,hk⟩
  rw [if_neg h1];have hd1:48≤n→¬ n≤57:=fun a b=>h1 ⟨a,b⟩
  by_cases h2:97≤n∧n≤102
  · rw [if_pos h2]
    obtain ⟨ha,hb⟩:=h2;clear h1 hd1;have hz:(97:Int)≤(n:Int):=by omega
    have hz':(n:Int)≤102:=by omega
    go_enter Tryz.func263,Tryz.ntmps263
    go_wp2_with (go_at_call 259;refine G.out.mono ?_;rintro e w1 ⟨rfl,hat,hk⟩;have hat:=hid hat)
    go_ret;exact ⟨⟨a9H (by omega),hat.out⟩,hk⟩
  rw [if_neg h2];by_cases h3:65≤n∧n≤70
  · rw [if_pos h3]
    obtain ⟨ha,hb⟩:=h3;clear h1 hd1 h2;have hz:(65:Int)≤(n:Int):=by omega
    have hz':(n:Int)≤70:=by omega
    go_enter Tryz.func263,Tryz.ntmps263
    go_wp2_with (go_at_call 259;refine G.out.mono ?_;rintro e w1 ⟨rfl,hat,hk⟩;have hat:=hid hat)
    go_ret;exact ⟨⟨a9H (by omega),hat.out⟩,hk⟩
  rw [if_neg h3];have hcase:n<48∨(58≤n∧n<65)∨(71≤n∧n<97)∨103≤n:=by omega
  clear h1 h2 h3 hd1;rcases hcase with h | ⟨h,h'⟩ | ⟨h,h'⟩ | h
  all_goals
   go_enter Tryz.func263,Tryz.ntmps263
   go_wp2_with (go_at_call 259;refine G.out.mono ?_;rintro e w1 ⟨rfl,hat,hk⟩)
   exact ⟨rfl,rfl,hk⟩
theorem Said.no {p:Int} {w:World} {rb:Nat} {v:Value} {s:Txt} {e:Ending} {w':World} (h:Said p none w rb v s e w'):e=.panicked [{ v:=.iface 239 (.int .i64 p),recovered:=false }]∧Kept (f_ rb) w w':=h
theorem Said.yes {p:Int} {b:Nat} {q:Txt} {w:World} {rb:Nat} {v:Value} {s:Txt} {e:Ending} {w':World} (h:Said p (some (b,q)) w rb v s e w'):e=.returned (.int .u8 (b:Int))∧At w' rb v s q∧Kept (f_ rb) w w':=⟨h.1.1,h.1.2,h.2⟩
theorem b0y (r:Txt):a6W (120 :: r)=match b1y r with
 | none=>none
 | some (a,r1)=>match b1y r1 with
  | none=>none
  | some (b,q)=>some (16 * a+b,q):=by
 show (match r with
  | x :: y :: q=>match b1z x,b1z y with
   | some a,some b=>some (16 * a+b,q)
   | _,_=>none
  | _=>none)=_
 cases r with
 | nil=>rfl
 | cons x r =>
  cases r with
  | nil=>cases hx:b1z x <;> simp [b1y,hx]
  | cons y q=>cases hx:b1z x <;> cases hy:b1z y <;> simp [b1y,hx,hy]
theorem a6x {q r:Txt} {a:Nat} (h:b1y q=some (a,r)):a<16:=by
 cases q with
 | nil=>cases h
 | cons c q =>
  cases hx:b1z c with
  | none=>simp [b1y,hx] at h
  | some b =>
   simp [b1y,hx] at h
   have:=b3U _ _ hx
   omega
set_option maxRecDepth 20000 in
set_option maxHeartbeats 2000000 in
theorem b7d {w:World} {rb:Nat} {v:Value} {s q:Txt} (h:At w rb v s q) (hs:s.length≤200) (p:Int) :
 Calls Tryz.prog 260 #[.pointer (some ⟨rb,0,none⟩),.int .i64 p] w (Said p (a6W q) w rb v s):=by
 cases q with
 | nil =>
  have G:=hid (b3x h hs p);clear h;go_enter Tryz.func260,Tryz.ntmps260
  go_wp2_with (go_at_call 259;refine G.out.mono ?_;rintro e w1 ⟨rfl,hb1⟩)
  exact ⟨rfl,rfl,Kept.of_below hb1⟩
 | cons c r =>
  have G:=hid (a8K h hs p);clear h;by_cases h1:c=110
  · subst h1
    rw [show a6W (110 :: r)=some (10,r) from rfl];rw [show ((110:UInt8).toNat:Int)=110 from rfl] at G;go_enter Tryz.func260,Tryz.ntmps260
    go_wp2_with (go_at_call 259;refine G.out.mono ?_;rintro e w1 ⟨rfl,hat,hk⟩;have hat:=hid hat)
    go_ret;exact ⟨⟨rfl,hat.out⟩,hk⟩
  by_cases h2:c=116
  · subst h2
    rw [show a6W (116 :: r)=some (9,r) from rfl];rw [show ((116:UInt8).toNat:Int)=116 from rfl] at G;go_enter Tryz.func260,Tryz.ntmps260
    go_wp2_with (go_at_call 259;refine G.out.mono ?_;rintro e w1 ⟨rfl,hat,hk⟩;have hat:=hid hat)
    go_ret;exact ⟨⟨rfl,hat.out⟩,hk⟩
  by_cases h3:c=114
  · subst h3
    rw [show a6W (114 :: r)=some (13,r) from rfl];rw [show ((114:UInt8).toNat:Int)=114 from rfl] at G;go_enter Tryz.func260,Tryz.ntmps260
    go_wp2_with (go_at_call 259;refine G.out.mono ?_;rintro e w1 ⟨rfl,hat,hk⟩;have hat:=hid hat)
    go_ret;exact ⟨⟨rfl,hat.out⟩,hk⟩
  by_cases h4:c=120
  · subst h4
    rw [b0y];rw [show ((120:UInt8).toNat:Int)=120 from rfl] at G;have GD:=hid (fun u q (hat:At u rb v s q)=>c2H hat hs p);clear h1 h2 h3;cases e1:b1y r with
    | none =>
     have GD1:=hid (fun u (hat:At u rb v s r)=>(show Calls _ _ _ _ (Said p none u rb v s) by have:=GD.out u r hat;rwa [e1] at this));clear e1 GD;go_enter Tryz.func260,Tryz.ntmps260
     go_wp2_with (first
      | (go_at_call 259;refine G.out.mono ?_;rintro e w1 ⟨rfl,hat,hk⟩;have hat:=hid hat)
      | (go_at_call 263;refine (GD1.out _ hat.out).mono ?_;intro e w2 hw2;obtain ⟨he2,hk2⟩:=hw2.no;subst he2))
     exact ⟨rfl,rfl,hk.trans hk2⟩
    | some x =>
     obtain ⟨a,r1⟩:=x;have ha:=a6x e1;have GD1:=hid (fun u (hat:At u rb v s r)=>(show Calls _ _ _ _ (Said p (some (a,r1)) u rb v s) by have:=GD.out u r hat;rwa [e1] at this))
     show Calls _ _ _ _ (Said p (match b1y r1 with | none=>none | some (b,q)=>some (16 * a+b,q)) w rb v s)
     cases e2:b1y r1 with
     | none =>
      have GD2:=hid (fun u (hat:At u rb v s r1)=>(show Calls _ _ _ _ (Said p none u rb v s) by have:=GD.out u r1 hat;rwa [e2] at this));clear e1 e2 GD;go_enter Tryz.func260,Tryz.ntmps260
      go_wp2_with (first
       | (go_at_call 259;refine G.out.mono ?_;rintro e w1 ⟨rfl,hat,hk⟩;have hat:=hid hat)
       | (go_at_call 263;refine (GD2.out _ hat2.out).mono ?_;intro e w3 hw3;obtain ⟨he3,hk3⟩:=hw3.no;subst he3)
       | (go_at_call 263;refine (GD1.out _ hat.out).mono ?_;intro e w2 hw2;obtain ⟨he2,hat2,hk2⟩:=hw2.yes;subst he2;have hat2:=hid hat2))
      exact ⟨rfl,rfl,(hk.trans hk2).trans hk3⟩
     | some y =>
      obtain ⟨b,r2⟩:=y;have hb:=a6x e2;have GD2:=hid (fun u (hat:At u rb v s r1)=>(show Calls _ _ _ _ (Said p (some (b,r2)) u rb v s) by have:=GD.out u r1 hat;rwa [e2] at this));clear e1 e2 GD;have haz:(a:Int)≤15:=by omega
      have hbz:(b:Int)≤15:=by omega
      go_enter Tryz.func260,Tryz.ntmps260
      go_wp2_with (first
       | (go_at_call 259;refine G.out.mono ?_;rintro e w1 ⟨rfl,hat,hk⟩;have hat:=hid hat)
       | (go_at_call 263;refine (GD2.out _ hat2.out).mono ?_;intro e w3 hw3;obtain ⟨he3,hat3,hk3⟩:=hw3.yes;subst he3;have hat3:=hid hat3)
       | (go_at_call 263;refine (GD1.out _ hat.out).mono ?_;intro e w2 hw2;obtain ⟨he2,hat2,hk2⟩:=hw2.yes;subst he2;have hat2:=hid hat2))
      go_ret;exact ⟨⟨a9H (by omega),hat3.out⟩,(hk.trans hk2).trans hk3⟩
  have e:a6W (c :: r)=if c2C c then some (c.toNat,r) else none:=by
   simp only [a6W];rw [if_neg h1,if_neg h2,if_neg h3,if_neg h4]
  rw [e];have hn:=c.toNat_lt;have n1:¬ c.toNat=110:=fun h=>h1 (UInt8.toNat_inj.1 h)
  have n2:¬ c.toNat=116:=fun h=>h2 (UInt8.toNat_inj.1 h)
  have n3:¬ c.toNat=114:=fun h=>h3 (UInt8.toNat_inj.1 h)
  have n4:¬ c.toNat=120:=fun h=>h4 (UInt8.toNat_inj.1 h)
  have GI:=hid (fun u=>c4z b4S (c.toNat:Int) u);rw [c4r] at GI;have hh:=b0T c.toNat hn;have hle:=Lib.indexByte_ge b4S.data.toList (UInt8.ofNat c.toNat);rw [show UInt8.ofNat c.toNat=c by simp] at GI hh hle;generalize Lib.indexByte b4S.data.toList c=z at GI hh hle;clear e h1 h2 h3 h4;generalize c.toNat=n at G GI n1 n2 n3 n4 hn ⊢;have c1:((n:Int) == 110)=false:=beq_eq_false_iff_ne.2 (by omega);have c2:((n:Int) == 116)=false:=beq_eq_false_iff_ne.2 (by omega);have c3:((n:Int) == 114)=false:=beq_eq_false_iff_ne.2 (by omega);have c4:((n:Int) == 120)=false:=beq_eq_false_iff_ne.2 (by omega);cases hd:c2C c with
  | true =>
   rw [hd] at hh;have hz:¬ z<0:=by simpa using hh
   rw [if_pos rfl];clear hh hd;go_enter Tryz.func260,Tryz.ntmps260
   go_wp2_with (first
    | (go_at_call 259;refine G.out.mono ?_;rintro e w1 ⟨rfl,hat,hk⟩;have hat:=hid hat)
    | (go_at_call 165;refine (GI.out _).mono ?_;rintro e u1 ⟨rfl,hu⟩;subst u1))
   go_ret;exact ⟨⟨rfl,hat.out⟩,hk⟩
  | false =>
   rw [hd] at hh;have hz:z<0:=by simpa using hh
   rw [if_neg Bool.false_ne_true];clear hh hd;go_enter Tryz.func260,Tryz.ntmps260
   go_wp2_with (first
    | (go_at_call 259;refine G.out.mono ?_;rintro e w1 ⟨rfl,hat,hk⟩;have hat:=hid hat)
    | (go_at_call 165;refine (GI.out _).mono ?_;rintro e u1 ⟨rfl,hu⟩;subst u1))
   exact ⟨rfl,rfl,hk⟩
def plc (s q:Txt):Int:=(s.length:Int) - q.length
theorem At.place {w:World} {rb:Nat} {v:Value} {s q:Txt} (h:At w rb v s q):w.cell? ⟨rb,1,none⟩=some (.int .i64 (plc s q)):=by
 obtain ⟨pre,hp,hb⟩:=h;obtain ⟨c0,c1,c2,c3,c4⟩:=rd3 hb;rw [c1];unfold plc;rw [hp];simp
set_option maxRecDepth 20000 in
set_option maxHeartbeats 2000000 in
theorem c0W {w:World} {rb:Nat} {v:Value} {s q:Txt} (h:At w rb v s q) (hs:s.length≤200) (S:ByteArray) (left:UInt8→Bool) (hT:b5i S fun c=>left c || c == 92) :
 Calls Tryz.prog 254 #[.pointer (some ⟨rb,0,none⟩),.string S] w (Said (plc s q) (a0C left q) w rb v s):=by
 have hpl:=h.place;generalize plc s q=p at hpl ⊢;cases q with
 | nil =>
  have G:=hid (b3x h hs p);clear h;go_enter Tryz.func254,Tryz.ntmps254
  go_wp2_with (go_at_call 259;refine G.out.mono ?_;rintro e w1 ⟨rfl,hb1⟩)
  exact ⟨rfl,rfl,Kept.of_below hb1⟩
 | cons c r =>
  have G:=hid (a8K h hs p);clear h;by_cases h1:c=92
  · subst h1
    rw [show a0C left (92 :: r)=a6W r from rfl];rw [show ((92:UInt8).toNat:Int)=92 from rfl] at G;have GE:=hid (fun u (hat:At u rb v s r)=>b7d hat hs p);cases e1:a6W r with
    | none =>
     rw [e1] at GE;clear e1;go_enter Tryz.func254,Tryz.ntmps254
     go_wp2_with (first
      | (go_at_call 259;refine G.out.mono ?_;rintro e w1 ⟨rfl,hat,hk⟩;have hat:=hid hat)
      | (go_at_call 260;refine (GE.out _ hat.out).mono ?_;intro e w2 hw2;obtain ⟨he2,hk2⟩:=hw2.no;subst he2))
     exact ⟨rfl,rfl,hk.trans hk2⟩
    | some x =>
     obtain ⟨b,r1⟩:=x;rw [e1] at GE;clear e1;go_enter Tryz.func254,Tryz.ntmps254
     go_wp2_with (first
      | (go_at_call 259;refine G.out.mono ?_;rintro e w1 ⟨rfl,hat,hk⟩;have hat:=hid hat)
      | (go_at_call 260;refine (GE.out _ hat.out).mono ?_;intro e w2 hw2;obtain ⟨he2,hat2,hk2⟩:=hw2.yes;subst he2;have hat2:=hid hat2))
     go_ret;exact ⟨⟨rfl,hat2.out⟩,hk.trans hk2⟩
  · have hn:=c.toNat_lt
    have n1:¬ c.toNat=92:=fun h=>h1 (UInt8.toNat_inj.1 h)
    have GP:=hid (fun u=>c1B c.toNat S _ u hn hT)
    have e:a0C left (c :: r)=if a7q c.toNat (fun c=>left c || c == 92) then some (c.toNat,r) else none:=by
     have hpb:a7q c.toNat (fun c=>left c || c == 92)=(decide (32≤c.toNat∧c.toNat≤126) && !left c):=by
      show (decide (32≤c.toNat∧c.toNat≤126) && !(left (UInt8.ofNat c.toNat) || UInt8.ofNat c.toNat == 92))=_
      rw [show UInt8.ofNat c.toNat=c by simp,show (c == 92)=false from beq_eq_false_iff_ne.2 h1,Bool.or_false]
     rw [hpb];simp only [a0C];rw [if_neg h1]
     have hlt:(c<32∨126<c)↔¬ (32≤c.toNat∧c.toNat≤126):=by
      rw [UInt8.lt_iff_toNat_lt,UInt8.lt_iff_toNat_lt];simp
      omega
     by_cases hv:32≤c.toNat∧c.toNat≤126
     · rw [if_neg (fun h=>(hlt.1 h) hv),decide_eq_true hv]
       cases left c <;> rfl
     · rw [if_pos (hlt.2 hv),decide_eq_false hv]
       rfl
    rw [e];clear e h1 hT;generalize a7q c.toNat (fun c=>left c || c == 92)=pb at GP ⊢;generalize c.toNat=n at G GP n1 hn ⊢;have c1:((n:Int) == 92)=false:=beq_eq_false_iff_ne.2 (by omega);cases pb with
    | true =>
     rw [if_pos rfl];go_enter Tryz.func254,Tryz.ntmps254
     go_wp2_with (first
      | (go_at_call 259;refine G.out.mono ?_;rintro e w1 ⟨rfl,hat,hk⟩;have hat:=hid hat)
      | (go_at_call 261;refine (GP.out _).mono ?_;rintro e u1 ⟨rfl,hu⟩;subst u1))
     go_ret;exact ⟨⟨rfl,hat.out⟩,hk⟩
    | false =>
     rw [if_neg Bool.false_ne_true];go_enter Tryz.func254,Tryz.ntmps254
     go_wp2_with (first
      | (go_at_call 259;refine G.out.mono ?_;rintro e w1 ⟨rfl,hat,hk⟩;have hat:=hid hat)
      | (go_at_call 261;refine (GP.out _).mono ?_;rintro e u1 ⟨rfl,hu⟩;subst u1))
     exact ⟨rfl,rfl,hk⟩
end Go.Proofs.YtjgedijclkoemaaGreatDoor
namespace Go.Proofs.YtjgedijclkoemaaGreatDoor
theorem b6g (S T:W4) (hS:Fit4 S) (hT:Fit4 T):orB S T=⟨S.a ||| T.a,S.b ||| T.b,S.c ||| T.c,S.d ||| T.d⟩:=by
 have lt:∀ m n:Nat,m<18446744073709551616→n<18446744073709551616→m ||| n<18446744073709551616:=fun m n hm hn=>Nat.or_lt_two_pow (n:=64) hm hn
 refine (a7E ⟨lt _ _ hS.a hT.a,lt _ _ hS.b hT.b,lt _ _ hS.c hT.c,lt _ _ hS.d hT.d⟩ fun x hx=>?_).symm;unfold a2I;have h4:x / 64=0∨x / 64=1∨x / 64=2∨x / 64=3:=by omega
 rcases h4 with h | h | h | h <;> rw [h] <;> exact Nat.testBit_or _ _ _
theorem a2R (n j:Nat) (hn:n<18446744073709551616) (hj:j<64):(18446744073709551615 - n).testBit j=!n.testBit j:=by
 have:=Nat.testBit_two_pow_sub_succ (n:=64) (x:=n) hn j
 rw [show (2:Nat) ^ 64 - (n+1)=18446744073709551615 - n by omega] at this;rw [this];simp [hj]
theorem b3v (S:W4) (hS:Fit4 S):a4I S=⟨18446744073709551615 - S.a,18446744073709551615 - S.b,18446744073709551615 - S.c,18446744073709551615 - S.d⟩:=by
 have lt:∀ n:Nat,18446744073709551615 - n<18446744073709551616:=fun n=>by omega
 refine (a7E ⟨lt _,lt _,lt _,lt _⟩ fun x hx=>?_).symm;unfold a2I;have h4:x / 64=0∨x / 64=1∨x / 64=2∨x / 64=3:=by omega
 rcases h4 with h | h | h | h <;> rw [h]
 · exact a2R _ _ hS.a (by omega)
 · exact a2R _ _ hS.b (by omega)
 · exact a2R _ _ hS.c (by omega)
 · exact a2R _ _ hS.d (by omega)
theorem b8y (n:Nat) (hn:n<18446744073709551616):n ^^^ 18446744073709551615=18446744073709551615 - n:=by
 refine a9m (Nat.xor_lt_two_pow (n:=64) hn (by decide)) (by omega) fun j hj=>?_
 rw [Nat.testBit_xor,a2R n j hn hj]
 have:(18446744073709551615:Nat).testBit j=true:=by
  have h:=a2R 0 j (by omega) hj;rw [Nat.zero_testBit] at h;exact h
 rw [this];cases n.testBit j <;> rfl
theorem b6h (x:Nat) (hx:x<256):H_ x x=n_.set (x / 64) (2 ^ (x % 64)):=by
 have h0:n_.w (x / 64)=0:=by
  have h4:x / 64=0∨x / 64=1∨x / 64=2∨x / 64=3:=by omega
  rcases h4 with h | h | h | h <;> rw [h] <;> rfl
 have h1:b5k n_ x=n_.set (x / 64) (2 ^ (x % 64)):=by
  unfold b5k;rw [a0t,h0];simp
 rw [← h1];refine (a7E (a3H a0j x) fun y hy=>?_).symm;rw [a1F _ x y hx hy,a0t,Bool.false_or,Bool.eq_iff_iff];simp only [Bool.and_eq_true,decide_eq_true_eq];omega
/-! ### how many bits -/
end Go.Proofs.YtjgedijclkoemaaGreatDoor
namespace Go.Proofs.YtjgedijclkoemaaGreatDoor
open Go.RowKit
def c4w (R S:W4) (k:Nat):W4:=⟨if 0<k then R.a else S.a,if 1<k then R.b else S.b,if 2<k then R.c else S.c,if 3<k then R.d else S.d⟩
set_option maxRecDepth 20000 in
theorem a3k (x0 x1 x2 x3:Int) (i:Nat) (v:Int) (w:World) (hv:[x0,x1,x2,x3][i]?=some v) :
 (Instr.index 202 (.agg #[.int .u64 x0,.int .u64 x1,.int .u64 x2,.int .u64 x3]) (.int .i64 (i:Int))).run Tryz.prog w=.ok (.int .u64 v) w:=by
 have hi:i=0∨i=1∨i=2∨i=3:=by
  have:i<4:=by
   rcases Nat.lt_or_ge i 4 with h | h
   · exact h
   · rw [List.getElem?_eq_none (by simpa using h)] at hv;cases hv
  omega
 rcases hi with rfl | rfl | rfl | rfl
 all_goals
  simp at hv
  subst hv;simp [Instr.index,run_underlying Tryz.underlying202,asIntOf,go_sem,part,isAgg,run_underlying Tryz.underlying163]
set_option maxRecDepth 20000 in
set_option maxHeartbeats 1000000 in
theorem orC (sa sb sc sd ta tb tc td:Nat) (w:World) (hS:Fit4 ⟨sa,sb,sc,sd⟩) (hT:Fit4 ⟨ta,tb,tc,td⟩) :
 Calls Tryz.prog 256 #[a5E ⟨sa,sb,sc,sd⟩,a5E ⟨ta,tb,tc,td⟩] w fun e w'=>e=.returned (a5E (orB ⟨sa,sb,sc,sd⟩ ⟨ta,tb,tc,td⟩))∧Below w.heap.size w w':=by
 rw [b6g _ _ hS hT];have k0:=u64_or_nat sa ta hS.1 hT.1;have k1:=u64_or_nat sb tb hS.2 hT.2;have k2:=u64_or_nat sc tc hS.3 hT.3;have k3:=u64_or_nat sd td hS.4 hT.4;simp only
 generalize sa ||| ta=ra at k0 ⊢
 generalize sb ||| tb=rb at k1 ⊢
 generalize sc ||| tc=rc at k2 ⊢
 generalize sd ||| td=rd at k3 ⊢
 clear hS hT;have ix0:∀ u,(Instr.index 202 (.agg #[.int .u64 (ta:Int),.int .u64 (tb:Int),.int .u64 (tc:Int),.int .u64 (td:Int)]) (.int .i64 0)).run Tryz.prog u=.ok (.int .u64 (ta:Int)) u:=fun u=>a3k ta tb tc td 0 ta u rfl
 have ix1:∀ u,(Instr.index 202 (.agg #[.int .u64 (ta:Int),.int .u64 (tb:Int),.int .u64 (tc:Int),.int .u64 (td:Int)]) (.int .i64 1)).run Tryz.prog u=.ok (.int .u64 (tb:Int)) u:=fun u=>a3k ta tb tc td 1 tb u rfl
 have ix2:∀ u,(Instr.index 202 (.agg #[.int .u64 (ta:Int),.int .u64 (tb:Int),.int .u64 (tc:Int),.int .u64 (td:Int)]) (.int .i64 2)).run Tryz.prog u=.ok (.int .u64 (tc:Int)) u:=fun u=>a3k ta tb tc td 2 tc u rfl
 have ix3:∀ u,(Instr.index 202 (.agg #[.int .u64 (ta:Int),.int .u64 (tb:Int),.int .u64 (tc:Int),.int .u64 (td:Int)]) (.int .i64 3)).run Tryz.prog u=.ok (.int .u64 (td:Int)) u:=fun u=>a3k ta tb tc td 3 td u rfl
 go_enter Tryz.func256,Tryz.ntmps256
 go_wp2;go_loopw [8] (fun i wr=>∃ k:Nat,k≤4∧i=.int .i64 k∧Hid (Blk wr w.heap.size (c4w ⟨ra,rb,rc,rd⟩ ⟨sa,sb,sc,sd⟩ k))∧Hid (Blk wr (w.heap.size+2) n_)∧Below w.heap.size w wr) (fun i _=>4 - (intOf i).toNat)
 case atStart=>exact ⟨0,Nat.zero_le _,rfl,hid (a0q w _ _ _).1,hid (a0q w _ _ _).2.2,a_ (a_ (al' w _) (al' _ _)) (al' _ _)⟩
 case round =>
  obtain ⟨k,hk,rfl,bS0,bR0,hbl⟩:=hrel;have hk5:k=0∨k=1∨k=2∨k=3∨k=4:=by omega
  rcases hk5 with rfl | rfl | rfl | rfl | rfl
  · have bS0':Blk wr w.heap.size ⟨sa,sb,sc,sd⟩:=bS0.out
    obtain ⟨s0,s1,s2,s3,s4,s5,s6,s7⟩:=bS0'.cells;have bS1:Blk (wr.setCell ⟨w.heap.size,0,none⟩ (.int .u64 (ra:Int))) w.heap.size ⟨ra,sb,sc,sd⟩:=heap_setCell bS0';have bR1:Blk (wr.setCell ⟨w.heap.size,0,none⟩ (.int .u64 (ra:Int))) (w.heap.size+2) n_:=(Below.heap_setCell _ _ _ _ (by simp)).trans bR0.out;have bS1:=hid bS1;have bR1:=hid bR1;clear bS0';go_wp2;go_roundw
    case rel=>exact ⟨1,by omega,rfl,bS1,bR1,x_ hbl _ _ _ (Nat.le_refl _)⟩
    case measure=>simp [intOf]
  · have bS0':Blk wr w.heap.size ⟨ra,sb,sc,sd⟩:=bS0.out
    obtain ⟨s0,s1,s2,s3,s4,s5,s6,s7⟩:=bS0'.cells;have bS1:Blk (wr.setCell ⟨w.heap.size,1,none⟩ (.int .u64 (rb:Int))) w.heap.size ⟨ra,rb,sc,sd⟩:=heap_setCell bS0';have bR1:Blk (wr.setCell ⟨w.heap.size,1,none⟩ (.int .u64 (rb:Int))) (w.heap.size+2) n_:=(Below.heap_setCell _ _ _ _ (by simp)).trans bR0.out;have bS1:=hid bS1;have bR1:=hid bR1;clear bS0';go_wp2;go_roundw
    case rel=>exact ⟨2,by omega,rfl,bS1,bR1,x_ hbl _ _ _ (Nat.le_refl _)⟩
    case measure=>simp [intOf]
  · have bS0':Blk wr w.heap.size ⟨ra,rb,sc,sd⟩:=bS0.out
    obtain ⟨s0,s1,s2,s3,s4,s5,s6,s7⟩:=bS0'.cells;have bS1:Blk (wr.setCell ⟨w.heap.size,2,none⟩ (.int .u64 (rc:Int))) w.heap.size ⟨ra,rb,rc,sd⟩:=heap_setCell bS0';have bR1:Blk (wr.setCell ⟨w.heap.size,2,none⟩ (.int .u64 (rc:Int))) (w.heap.size+2) n_:=(Below.heap_setCell _ _ _ _ (by simp)).trans bR0.out;have bS1:=hid bS1;have bR1:=hid bR1;clear bS0';go_wp2;go_roundw
    case rel=>exact ⟨3,by omega,rfl,bS1,bR1,x_ hbl _ _ _ (Nat.le_refl _)⟩
    case measure=>simp [intOf]
  · have bS0':Blk wr w.heap.size ⟨ra,rb,rc,sd⟩:=bS0.out
    obtain ⟨s0,s1,s2,s3,s4,s5,s6,s7⟩:=bS0'.cells;have bS1:Blk (wr.setCell ⟨w.heap.size,3,none⟩ (.int .u64 (rd:Int))) w.heap.size ⟨ra,rb,rc,rd⟩:=heap_setCell bS0';have bR1:Blk (wr.setCell ⟨w.heap.size,3,none⟩ (.int .u64 (rd:Int))) (w.heap.size+2) n_:=(Below.heap_setCell _ _ _ _ (by simp)).trans bR0.out;have bS1:=hid bS1;have bR1:=hid bR1;clear bS0';go_wp2;go_roundw
    case rel=>exact ⟨4,by omega,rfl,bS1,bR1,x_ hbl _ _ _ (Nat.le_refl _)⟩
    case measure=>simp [intOf]
  · obtain ⟨o0,o1,o2,o3,o4,o5,o6,o7⟩:=Blk.cells (show Blk wr w.heap.size ⟨ra,rb,rc,rd⟩ from bS0.out)
    obtain ⟨r0,r1,r2,r3,r4,r5,r6,r7⟩:=Blk.cells (sa:=0) (sb:=0) (sc:=0) (sd:=0) bR0.out;go_wp2;refine bodyPost_ret (v:=.agg #[.int .u64 ra,.int .u64 rb,.int .u64 rc,.int .u64 rd]) (by simp [results,Tryz.results256,go_sem,r0,r1,r2,r3]) rfl ⟨rfl,b0I hbl ⟨ra,rb,rc,rd⟩ (by omega)⟩
theorem a6h (n:Nat) (hn:n<18446744073709551616):bits .xor .u64 (if IntKind.u64.signed=true then -1 else IntKind.u64.max) (n:Int)=((18446744073709551615 - n:Nat):Int):=by
 rw [show (if IntKind.u64.signed=true then -1 else IntKind.u64.max)=((18446744073709551615:Nat):Int) by decide,u64_xor_nat _ _ (by omega) hn,Nat.xor_comm,b8y n hn]
set_option maxRecDepth 20000 in
set_option maxHeartbeats 1000000 in
theorem c4v (sa sb sc sd:Nat) (w:World) (hS:Fit4 ⟨sa,sb,sc,sd⟩) :
 Calls Tryz.prog 257 #[a5E ⟨sa,sb,sc,sd⟩] w fun e w'=>e=.returned (a5E (a4I ⟨sa,sb,sc,sd⟩))∧Below w.heap.size w w':=by
 rw [b3v _ hS];have k0:=a6h sa hS.1;have k1:=a6h sb hS.2;have k2:=a6h sc hS.3;have k3:=a6h sd hS.4;simp only
 generalize 18446744073709551615 - sa=ra at k0 ⊢;generalize 18446744073709551615 - sb=rb at k1 ⊢;generalize 18446744073709551615 - sc=rc at k2 ⊢;generalize 18446744073709551615 - sd=rd at k3 ⊢;clear hS;have ix0:∀ u,(Instr.index 202 (.agg #[.int .u64 (sa:Int),.int .u64 (sb:Int),.int .u64 (sc:Int),.int .u64 (sd:Int)]) (.int .i64 0)).run Tryz.prog u=.ok (.int .u64 (sa:Int)) u:=fun u=>a3k sa sb sc sd 0 sa u rfl
 have ix1:∀ u,(Instr.index 202 (.agg #[.int .u64 (sa:Int),.int .u64 (sb:Int),.int .u64 (sc:Int),.int .u64 (sd:Int)]) (.int .i64 1)).run Tryz.prog u=.ok (.int .u64 (sb:Int)) u:=fun u=>a3k sa sb sc sd 1 sb u rfl
 have ix2:∀ u,(Instr.index 202 (.agg #[.int .u64 (sa:Int),.int .u64 (sb:Int),.int .u64 (sc:Int),.int .u64 (sd:Int)]) (.int .i64 2)).run Tryz.prog u=.ok (.int .u64 (sc:Int)) u:=fun u=>a3k sa sb sc sd 2 sc u rfl
 have ix3:∀ u,(Instr.index 202 (.agg #[.int .u64 (sa:Int),.int .u64 (sb:Int),.int .u64 (sc:Int),.int .u64 (sd:Int)]) (.int .i64 3)).run Tryz.prog u=.ok (.int .u64 (sd:Int)) u:=fun u=>a3k sa sb sc sd 3 sd u rfl
 go_enter Tryz.func257,Tryz.ntmps257
 go_wp2;go_loopw [7] (fun i wr=>∃ k:Nat,k≤4∧i=.int .i64 k∧Hid (Blk wr (w.heap.size+2) (c4w ⟨ra,rb,rc,rd⟩ ⟨0,0,0,0⟩ k))∧Hid (Blk wr (w.heap.size+1) n_)∧Below w.heap.size w wr) (fun i _=>4 - (intOf i).toNat)
 case atStart=>exact ⟨0,Nat.zero_le _,rfl,hid (a0q w _ _ _).2.2,hid (a0q w _ _ _).2.1,a_ (a_ (al' w _) (al' _ _)) (al' _ _)⟩
 case round =>
  obtain ⟨k,hk,rfl,bS0,bR0,hbl⟩:=hrel;have hk5:k=0∨k=1∨k=2∨k=3∨k=4:=by omega
  rcases hk5 with rfl | rfl | rfl | rfl | rfl
  · have bS0':Blk wr (w.heap.size+2) ⟨0,0,0,0⟩:=bS0.out
    obtain ⟨s0,s1,s2,s3,s4,s5,s6,s7⟩:=bS0'.cells;have bS1:Blk (wr.setCell ⟨w.heap.size+2,0,none⟩ (.int .u64 (ra:Int))) (w.heap.size+2) ⟨ra,0,0,0⟩:=heap_setCell bS0';have bR1:Blk (wr.setCell ⟨w.heap.size+2,0,none⟩ (.int .u64 (ra:Int))) (w.heap.size+1) n_:=(Below.heap_setCell _ _ _ _ (by simp)).trans bR0.out;have bS1:=hid bS1;have bR1:=hid bR1;clear bS0';go_wp2;go_roundw
    case rel=>exact ⟨1,by omega,rfl,bS1,bR1,x_ hbl _ _ _ (by omega)⟩
    case measure=>simp [intOf]
  · have bS0':Blk wr (w.heap.size+2) ⟨ra,0,0,0⟩:=bS0.out
    obtain ⟨s0,s1,s2,s3,s4,s5,s6,s7⟩:=bS0'.cells;have bS1:Blk (wr.setCell ⟨w.heap.size+2,1,none⟩ (.int .u64 (rb:Int))) (w.heap.size+2) ⟨ra,rb,0,0⟩:=heap_setCell bS0';have bR1:Blk (wr.setCell ⟨w.heap.size+2,1,none⟩ (.int .u64 (rb:Int))) (w.heap.size+1) n_:=(Below.heap_setCell _ _ _ _ (by simp)).trans bR0.out;have bS1:=hid bS1;have bR1:=hid bR1;clear bS0';go_wp2;go_roundw
    case rel=>exact ⟨2,by omega,rfl,bS1,bR1,x_ hbl _ _ _ (by omega)⟩
    case measure=>simp [intOf]
  · have bS0':Blk wr (w.heap.size+2) ⟨ra,rb,0,0⟩:=bS0.out
    obtain ⟨s0,s1,s2,s3,s4,s5,s6,s7⟩:=bS0'.cells;have bS1:Blk (wr.setCell ⟨w.heap.size+2,2,none⟩ (.int .u64 (rc:Int))) (w.heap.size+2) ⟨ra,rb,rc,0⟩:=heap_setCell bS0';have bR1:Blk (wr.setCell ⟨w.heap.size+2,2,none⟩ (.int .u64 (rc:Int))) (w.heap.size+1) n_:=(Below.heap_setCell _ _ _ _ (by simp)).trans bR0.out;have bS1:=hid bS1;have bR1:=hid bR1;clear bS0';go_wp2;go_roundw
    case rel=>exact ⟨3,by omega,rfl,bS1,bR1,x_ hbl _ _ _ (by omega)⟩
    case measure=>simp [intOf]
  · have bS0':Blk wr (w.heap.size+2) ⟨ra,rb,rc,0⟩:=bS0.out
    obtain ⟨s0,s1,s2,s3,s4,s5,s6,s7⟩:=bS0'.cells;have bS1:Blk (wr.setCell ⟨w.heap.size+2,3,none⟩ (.int .u64 (rd:Int))) (w.heap.size+2) ⟨ra,rb,rc,rd⟩:=heap_setCell bS0';have bR1:Blk (wr.setCell ⟨w.heap.size+2,3,none⟩ (.int .u64 (rd:Int))) (w.heap.size+1) n_:=(Below.heap_setCell _ _ _ _ (by simp)).trans bR0.out;have bS1:=hid bS1;have bR1:=hid bR1;clear bS0';go_wp2;go_roundw
    case rel=>exact ⟨4,by omega,rfl,bS1,bR1,x_ hbl _ _ _ (by omega)⟩
    case measure=>simp [intOf]
  · obtain ⟨o0,o1,o2,o3,o4,o5,o6,o7⟩:=Blk.cells (show Blk wr (w.heap.size+2) ⟨ra,rb,rc,rd⟩ from bS0.out)
    obtain ⟨r0,r1,r2,r3,r4,r5,r6,r7⟩:=Blk.cells (sa:=0) (sb:=0) (sc:=0) (sd:=0) bR0.out;go_wp2;refine bodyPost_ret (v:=.agg #[.int .u64 ra,.int .u64 rb,.int .u64 rc,.int .u64 rd]) (by simp [results,Tryz.results257,go_sem,r0,r1,r2,r3]) rfl ⟨rfl,b0I hbl ⟨ra,rb,rc,rd⟩ (by omega)⟩
set_option maxRecDepth 20000 in
theorem c4D (x:Nat) (w:World) (hx:x<256) :
 Calls Tryz.prog 258 #[.int .u8 (x:Int)] w fun e w'=>e=.returned (.int .u64 ((2 ^ (x % 64):Nat):Int))∧w'=w:=by
 have hp:=b5p (j:=x % 64) (by omega);have hr:(x:Int) % 64=((x % 64:Nat):Int):=by omega
 have hrl:x % 64<64:=by omega
 generalize hm:2 ^ (x % 64)=m at hp ⊢;generalize x % 64=r at hr hrl hp hm;go_enter Tryz.func258,Tryz.ntmps258
 go_wp2;go_ret;exact ⟨rfl,rfl⟩
set_option maxRecDepth 20000 in
set_option maxHeartbeats 1000000 in
theorem c4u (x:Nat) (w:World) (hx:x<256) :
 Calls Tryz.prog 253 #[.int .u8 (x:Int)] w fun e w'=>e=.returned (a5E (H_ x x))∧Below w.heap.size w w':=by
 rw [b6h x hx];have GB:=hid (fun u=>c4D x u hx);have hq:(x:Int) / 64=((x / 64:Nat):Int):=by omega
 have hql:x / 64=0∨x / 64=1∨x / 64=2∨x / 64=3:=by omega
 generalize hm:2 ^ (x % 64)=m at GB ⊢;generalize x / 64=q at hq hql ⊢;clear hm;rcases hql with rfl | rfl | rfl | rfl
 · go_enter Tryz.func253,Tryz.ntmps253
   go_wp2_with (go_at_call 258;refine (GB.out _).mono ?_;rintro e u1 ⟨rfl,hu⟩;subst u1)
   exact bodyPost_ret (v:=.agg #[.int .u64 (m:Int),.int .u64 0,.int .u64 0,.int .u64 0]) (by simp [results,Tryz.results253,go_sem]) rfl ⟨rfl,a_ (al' w _) (al' _ _)⟩
 · go_enter Tryz.func253,Tryz.ntmps253
   go_wp2_with (go_at_call 258;refine (GB.out _).mono ?_;rintro e u1 ⟨rfl,hu⟩;subst u1)
   exact bodyPost_ret (v:=.agg #[.int .u64 0,.int .u64 (m:Int),.int .u64 0,.int .u64 0]) (by simp [results,Tryz.results253,go_sem]) rfl ⟨rfl,a_ (al' w _) (al' _ _)⟩
 · go_enter Tryz.func253,Tryz.ntmps253
   go_wp2_with (go_at_call 258;refine (GB.out _).mono ?_;rintro e u1 ⟨rfl,hu⟩;subst u1)
   exact bodyPost_ret (v:=.agg #[.int .u64 0,.int .u64 0,.int .u64 (m:Int),.int .u64 0]) (by simp [results,Tryz.results253,go_sem]) rfl ⟨rfl,a_ (al' w _) (al' _ _)⟩
 · go_enter Tryz.func253,Tryz.ntmps253
   go_wp2_with (go_at_call 258;refine (GB.out _).mono ?_;rintro e u1 ⟨rfl,hu⟩;subst u1)
   exact bodyPost_ret (v:=.agg #[.int .u64 0,.int .u64 0,.int .u64 0,.int .u64 (m:Int)]) (by simp [results,Tryz.results253,go_sem]) rfl ⟨rfl,a_ (al' w _) (al' _ _)⟩
end Go.Proofs.YtjgedijclkoemaaGreatDoor
