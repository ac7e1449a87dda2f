/- Texts as Go has them. The reader: what it is; ahead, take, next. The reader: ahead, take, next, rowEnds; which signs are plain. The reader: which signs are plain; digit, escaped, told. -/
import Derived.Test.YtbpnioehmohbcaaGreatJ3
import Derived.Test.YtbpnioehmohbcaaGreatJ4
import Derived.Laws.BytesString
import Derived.BigQuiet
import Derived.WalkLawsBesides
import Derived.Laws.StandIn
import Derived.Lib.Bytealg
import Derived.Deep.RegionHeld3
namespace Go.Proofs.YtbpnioehmohbcaaGreat
open Go.RowKit
def strT (s:Txt):ByteArray:=⟨s.toArray⟩
theorem strT_size (s:Txt):(strT s).size = s.length:=by simp [strT,ByteArray.size]
theorem strT_at (s:Txt) (k:Nat) (_h:k < (strT s).size) (h':k < s.length):(strT s)[k] = s[k]:=by
 show s.toArray[k] = _
 simp
structure Kept (F:Nat → Prop) (w w':World):Prop where
 os:w'.os = w.os
 tape:w'.tape = w.tape
 output:w'.output = w.output
 size:w.heap.size ≤ w'.heap.size
 block:∀ k,k < w.heap.size → ¬ F k → w'.heap[k]? = w.heap[k]?
def noBlk:Nat → Prop:=fun _ => False
def oneBlk (b:Nat):Nat → Prop:=fun k => k = b
theorem blk_lt {w:World} {b:Nat} {x:Obj} (h:w.heap[b]? = some x):b < w.heap.size:=by
 rcases Nat.lt_or_ge b w.heap.size with h1 | h1
 · exact h1
 · rw [Array.getElem?_eq_none h1] at h;cases h
theorem blk_cell {w:World} {b:Nat} {cs:Array Value} {T:TypeId} {fr:Nat × Nat} (h:w.heap[b]? = some (.cells cs T fr)) {o:Nat} {v:Value} (hv:cs[o]? = some v):w.cell? ⟨b,o,none⟩ = some v:=by
 simp [World.cell?,h,hv]
theorem blk_frozen {w:World} {b:Nat} {cs:Array Value} {T:TypeId} (h:w.heap[b]? = some (.cells cs T (0,0))) (o:Nat):w.frozen? ⟨b,o,none⟩ = false:=by
 simp [World.frozen?,h]
theorem Kept.refl (F:Nat → Prop) (w:World):Kept F w w:=⟨rfl,rfl,rfl,Nat.le_refl _,fun _ _ _ => rfl⟩
theorem Kept.mono {F G:Nat → Prop} {w w':World} (h:Kept F w w') (hFG:∀ k,k < w.heap.size → F k → G k):Kept G w w':=
 ⟨h.os,h.tape,h.output,h.size,fun k hk hn => h.block k hk (fun hf => hn (hFG k hk hf))⟩
theorem Kept.step {F G:Nat → Prop} {w u v:World} (h:Kept F w u) (h2:Kept G u v) (hG:∀ k,k < w.heap.size → G k → F k):Kept F w v:=
 ⟨h2.os.trans h.os,h2.tape.trans h.tape,h2.output.trans h.output,Nat.le_trans h.size h2.size,fun k hk hn =>
  (h2.block k (Nat.lt_of_lt_of_le hk h.size) (fun hg => hn (hG k hk hg))).trans (h.block k hk hn)⟩
theorem Kept.trans {F:Nat → Prop} {w u v:World} (h:Kept F w u) (h2:Kept F u v):Kept F w v:=h.step h2 fun _ _ h => h
theorem Kept.of_below {w w':World} (h:Below w.heap.size w w') {F:Nat → Prop}:Kept F w w':=⟨h.os,h.tape,h.output,h.size,fun k hk _ => h.block k hk⟩
theorem Kept.none {w w':World} (h:Kept noBlk w w'):Below w.heap.size w w':=⟨h.os,h.tape,h.output,h.size,fun k hk => h.block k hk id⟩
theorem Kept.below {F:Nat → Prop} {N:Nat} {w w':World} (h:Kept F w w') (hF:∀ k,F k → N ≤ k) (hN:N ≤ w.heap.size):Below N w w':=
 ⟨h.os,h.tape,h.output,h.size,fun k hk => h.block k (Nat.lt_of_lt_of_le hk hN) fun hf => Nat.lt_irrefl k (Nat.lt_of_lt_of_le hk (hF k hf))⟩
theorem Kept.setCell {F:Nat → Prop} {w u:World} (h:Kept F w u) {a:Addr} {v:Value} (ha:a.block < w.heap.size → F a.block):Kept F w (u.setCell a v):=
 ⟨h.os,h.tape,h.output,by simpa using h.size,fun k hk hn => by
  rw [Below.heap_setCell u a v k (fun e => hn (e ▸ ha (e ▸ hk)))];exact h.block k hk hn⟩
theorem Kept.blk {F:Nat → Prop} {w w':World} (h:Kept F w w') {b:Nat} {x:Obj} (hx:w.heap[b]? = some x) (hn:¬ F b):w'.heap[b]? = some x:=(h.block b (blk_lt hx) hn).trans hx
end Go.Proofs.YtbpnioehmohbcaaGreat
namespace Go.Proofs.YtbpnioehmohbcaaGreat
open Go.RowKit
def At (w:World) (rb:Nat) (v:Value) (s q:Txt):Prop:=∃ pre:Txt,s = pre ++ q ∧ w.heap[rb]? = some (.cells #[.string (strT s),.int .i64 (pre.length:Int),v] 168 (0,0))
theorem At.keep {w w':World} {rb:Nat} {v:Value} {s q:Txt} (h:At w rb v s q) (hb:Below w.heap.size w w'):At w' rb v s q:=by
 obtain ⟨pre,h1,h2⟩:=h
 exact ⟨pre,h1,(hb.block rb (blk_lt h2)).trans h2⟩
theorem rd3 {w:World} {b:Nat} {x0 x1 x2:Value} {T:TypeId} (h:w.heap[b]? = some (.cells #[x0,x1,x2] T (0,0))) :
 w.cell? ⟨b,0,none⟩ = some x0 ∧ w.cell? ⟨b,1,none⟩ = some x1 ∧ w.cell? ⟨b,2,none⟩ = some x2 ∧ w.frozen? ⟨b,1,none⟩ = false ∧ w.frozen? ⟨b,2,none⟩ = false:=⟨blk_cell h rfl,blk_cell h rfl,blk_cell h rfl,blk_frozen h 1,blk_frozen h 2⟩
set_option maxRecDepth 20000 in
set_option maxHeartbeats 1000000 in
theorem aheadNo (w:World) (rb k:Nat) (v:Value) (S:ByteArray) (z:Int) (_hs:S.size ≤ 1000) (hk:k = S.size) (h:w.heap[rb]? = some (.cells #[.string S,.int .i64 (k:Int),v] 168 (0,0))) :
 Calls Tryz.prog 159 #[.pointer (some ⟨rb,0,none⟩),.int .u8 z] w fun e w' => e = .returned (.bool false) ∧ Below w.heap.size w w':=by
 obtain ⟨c0,c1,c2,c3,c4⟩:=rd3 h
 have hlt:¬ (k:Int) < (S.size:Int):=by omega
 have hd:decide ((k:Int) < (S.size:Int)) = false:=decide_eq_false hlt
 clear h
 go_enter Tryz.func159,Tryz.ntmps159
 go_wp2_with fail
 go_quiet (fail)
 go_wp2
 go_ret
 exact ⟨rfl,⟨rfl,rfl,rfl,Nat.le_refl _,fun _ _ => rfl⟩⟩
set_option maxRecDepth 20000 in
set_option maxHeartbeats 1000000 in
theorem aheadSome (w:World) (rb k:Nat) (v:Value) (S:ByteArray) (z:Int) (_hs:S.size ≤ 1000) (hk:k < S.size) (h:w.heap[rb]? = some (.cells #[.string S,.int .i64 (k:Int),v] 168 (0,0))) :
 Calls Tryz.prog 159 #[.pointer (some ⟨rb,0,none⟩),.int .u8 z] w fun e w' => e = .returned (.bool ((S[k].toNat:Int) == z)) ∧ Below w.heap.size w w':=by
 obtain ⟨c0,c1,c2,c3,c4⟩:=rd3 h
 have hlt:(k:Int) < (S.size:Int):=by omega
 clear h
 go_enter Tryz.func159,Tryz.ntmps159
 go_wp2_with fail
 go_quiet (fail)
 go_wp2
 go_ret
 exact ⟨rfl,⟨rfl,rfl,rfl,Nat.le_refl _,fun _ _ => rfl⟩⟩
end Go.Proofs.YtbpnioehmohbcaaGreat
namespace Go.Proofs.YtbpnioehmohbcaaGreat
open Go.RowKit
theorem at_byte {pre r:Txt} {d:UInt8} (h:pre.length < (strT (pre ++ d :: r)).size):(strT (pre ++ d :: r))[pre.length] = d:=by
 exact (strT_at _ _ h (by simp)).trans (by simp)
theorem byte_eq (d c:UInt8):(((d.toNat:Int)) == (c.toNat:Int)) = (d == c):=by
 rw [Bool.eq_iff_iff,beq_iff_eq,beq_iff_eq]
 constructor
 · intro h;exact UInt8.toNat_inj.1 (by omega)
 · intro h;rw [h]
set_option maxRecDepth 20000 in
theorem aheadC {w:World} {rb:Nat} {v:Value} {s q:Txt} (h:At w rb v s q) (hs:s.length ≤ 200) (c:UInt8) :
 Calls Tryz.prog 159 #[.pointer (some ⟨rb,0,none⟩),.int .u8 (c.toNat:Int)] w fun e w' => e = .returned (.bool (q.head? == some c)) ∧ Below w.heap.size w w':=by
 obtain ⟨pre,hp,hb⟩:=h
 have hsz:=strT_size s
 cases q with
 | nil => exact aheadNo w rb pre.length v (strT s) _ (by omega) (by rw [hsz,hp];simp) hb
 | cons d r =>
  have hk:pre.length < (strT s).size:=by rw [hsz,hp];simp
  have:=aheadSome w rb pre.length v (strT s) (c.toNat:Int) (by omega) hk hb
  have e:(strT s)[pre.length] = d:=by subst hp;exact at_byte hk
  rw [e,byte_eq] at this
  exact this
theorem At.next {w:World} {rb:Nat} {v:Value} {s r:Txt} {d:UInt8} (h:At w rb v s (d :: r)):∃ k:Nat,w.cell? ⟨rb,1,none⟩ = some (.int .i64 (k:Int)) ∧ w.frozen? ⟨rb,1,none⟩ = false ∧ k < s.length ∧ At (w.setCell ⟨rb,1,none⟩ (.int .i64 ((k:Int) + 1))) rb v s r:=by
 obtain ⟨pre,hp,hb⟩:=h
 obtain ⟨c0,c1,c2,c3,c4⟩:=rd3 hb
 refine ⟨pre.length,c1,c3,by rw [hp];simp,pre ++ [d],by rw [hp];simp,?_⟩
 have:=heap_setCell (o:=1) (v:=.int .i64 ((pre.length:Int) + 1)) hb
 rw [this]
 simp
theorem set_kept {w:World} {rb o:Nat} {v:Value}:Kept (oneBlk rb) w (w.setCell ⟨rb,o,none⟩ v):=(Kept.refl _ w).setCell (a:=⟨rb,o,none⟩) fun _ => rfl
set_option maxRecDepth 20000 in
theorem takeNo {w:World} {rb:Nat} {v:Value} {s q:Txt} (h:At w rb v s q) (hs:s.length ≤ 200) (c:UInt8) (hc:(q.head? == some c) = false) :
 Calls Tryz.prog 151 #[.pointer (some ⟨rb,0,none⟩),.int .u8 (c.toNat:Int)] w fun e w' => e = .returned (.bool false) ∧ Below w.heap.size w w':=by
 have GA:=hid (aheadC h hs c)
 rw [hc] at GA
 generalize (c.toNat:Int) = z at GA ⊢
 clear h hc
 go_enter Tryz.func151,Tryz.ntmps151
 go_wp2_with (go_at_call 159;refine GA.out.mono ?_;rintro e w1 ⟨rfl,hb1⟩)
 go_ret
 exact ⟨rfl,hb1⟩
set_option maxRecDepth 20000 in
theorem takeYes {w:World} {rb:Nat} {v:Value} {s r:Txt} {c:UInt8} (h:At w rb v s (c :: r)) (hs:s.length ≤ 200) :
 Calls Tryz.prog 151 #[.pointer (some ⟨rb,0,none⟩),.int .u8 (c.toNat:Int)] w fun e w' => e = .returned (.bool true) ∧ At w' rb v s r ∧ Kept (oneBlk rb) w w':=by
 have GA:=hid (aheadC h hs c)
 rw [show ((c :: r).head? == some c) = true by simp] at GA
 generalize (c.toNat:Int) = z at GA ⊢
 have H:=hid (fun u (hb:Below w.heap.size w u) => (h.keep hb).next)
 clear h
 go_enter Tryz.func151,Tryz.ntmps151
 go_wp2_with (go_at_call 159;refine GA.out.mono ?_;rintro e w1 ⟨rfl,hb1⟩;obtain ⟨k,c1,c3,hk,hat⟩:=H.out w1 hb1;have hat:=hid hat)
 go_ret
 exact ⟨rfl,hat.out,(Kept.of_below hb1).trans set_kept⟩
set_option maxRecDepth 20000 in
theorem nextNo {w:World} {rb:Nat} {v:Value} {s:Txt} (h:At w rb v s []) (_hs:s.length ≤ 200) (p:Int) :
 Calls Tryz.prog 186 #[.pointer (some ⟨rb,0,none⟩),.int .i64 p] w fun e w' => e = .panicked [{ v:=.iface 166 (.int .i64 p),recovered:=false }] ∧ Below w.heap.size w w':=by
 obtain ⟨pre,hp,hb⟩:=h
 obtain ⟨c0,c1,c2,c3,c4⟩:=rd3 hb
 have hsz:=strT_size s
 have hk:(strT s).size = pre.length:=by rw [hsz,hp];simp
 have hkk:(((pre.length:Int)) == ((strT s).size:Int)) = true:=by rw [hk];simp
 generalize strT s = S at hk c0 hsz hkk
 generalize pre.length = k at hk c1 hkk
 clear hb hp
 go_enter Tryz.func186,Tryz.ntmps186
 go_wp2_with fail
 go_quiet (fail)
 go_wp2
 exact ⟨rfl,rfl,⟨rfl,rfl,rfl,Nat.le_refl _,fun _ _ => rfl⟩⟩
set_option maxRecDepth 20000 in
theorem nextYes {w:World} {rb:Nat} {v:Value} {s r:Txt} {c:UInt8} (h:At w rb v s (c :: r)) (hs:s.length ≤ 200) (p:Int) :
 Calls Tryz.prog 186 #[.pointer (some ⟨rb,0,none⟩),.int .i64 p] w fun e w' => e = .returned (.int .u8 (c.toNat:Int)) ∧ At w' rb v s r ∧ Kept (oneBlk rb) w w':=by
 obtain ⟨pre,hp,hb⟩:=h
 have H:Hid (∀ u,Below w.heap.size w u → At (u.setCell ⟨rb,1,none⟩ (.int .i64 ((pre.length:Int) + 1))) rb v s r):=hid (fun u hu => by
  refine ⟨pre ++ [c],by rw [hp];simp,?_⟩
  rw [heap_setCell (o:=1) (v:=.int .i64 ((pre.length:Int) + 1)) ((hu.block rb (blk_lt hb)).trans hb)]
  simp)
 obtain ⟨c0,c1,c2,c3,c4⟩:=rd3 hb
 have hsz:=strT_size s
 have hk:pre.length < (strT s).size:=by rw [hsz,hp];simp
 have hch:(strT s)[pre.length].toNat = c.toNat:=by subst hp;rw [at_byte hk]
 have hkk:(((pre.length:Int)) == ((strT s).size:Int)) = false:=beq_eq_false_iff_ne.2 (by omega)
 generalize (c.toNat) = z at hch ⊢
 generalize strT s = S at hk c0 hsz hkk hch
 generalize pre.length = k at hk c1 hkk hch H
 clear hb hp
 go_enter Tryz.func186,Tryz.ntmps186
 go_wp2_with fail
 go_quiet (fail)
 go_wp2_with fail
 go_quiet (fail)
 go_wp2
 go_ret
 have hd:∀ n,Below w.heap.size w (w.drewN n):=fun n => ⟨rfl,rfl,rfl,Nat.le_refl _,fun _ _ => rfl⟩
 exact ⟨rfl,H.out _ (hd _),(Kept.of_below (hd _)).trans set_kept⟩
set_option maxRecDepth 20000 in
theorem rowEndsNil {w:World} {rb:Nat} {v:Value} {s:Txt} (h:At w rb v s []) (hs:s.length ≤ 200) :
 Calls Tryz.prog 158 #[.pointer (some ⟨rb,0,none⟩)] w fun e w' => e = .returned (.bool true) ∧ Below w.heap.size w w':=by
 obtain ⟨pre,hp,hb⟩:=h
 obtain ⟨c0,c1,c2,c3,c4⟩:=rd3 hb
 have hsz:=strT_size s
 have hk:(strT s).size = pre.length:=by rw [hsz,hp];simp
 have hle:(strT s).size ≤ 200:=by omega
 generalize strT s = S at hk c0 hsz hle
 rw [← hk] at c1
 clear hb hp hsz hk
 go_enter Tryz.func158,Tryz.ntmps158
 go_wp2_with fail
 go_quiet (fail)
 go_wp2
 go_ret
 exact ⟨rfl,⟨rfl,rfl,rfl,Nat.le_refl _,fun _ _ => rfl⟩⟩
set_option maxRecDepth 20000 in
set_option maxHeartbeats 1000000 in
theorem rowEndsSome {w:World} {rb:Nat} {v:Value} {s r:Txt} {c:UInt8} (h:At w rb v s (c :: r)) (hs:s.length ≤ 200) :
 Calls Tryz.prog 158 #[.pointer (some ⟨rb,0,none⟩)] w fun e w' => e = .returned (.bool (rowEnd (c :: r))) ∧ Below w.heap.size w w':=by
 have G1:=hid (fun u (hb:Below w.heap.size w u) => aheadC (h.keep hb) hs 124)
 have G2:=hid (fun u (hb:Below w.heap.size w u) => aheadC (h.keep hb) hs 41)
 have hdr:Below w.heap.size w w.drew:=(Below.refl _ w).drew
 rw [show rowEnd (c :: r) = (((c :: r).head? == some 124) || ((c :: r).head? == some 41)) from rfl]
 obtain ⟨pre,hp,hb⟩:=h
 obtain ⟨c0,c1,c2,c3,c4⟩:=rd3 hb
 have hsz:=strT_size s
 have hlt:pre.length < (strT s).size:=by rw [hsz,hp];simp
 have hle:(strT s).size ≤ 200:=by omega
 have hkk:(((pre.length:Int)) == ((strT s).size:Int)) = false:=beq_eq_false_iff_ne.2 (by omega)
 generalize strT s = S at c0 hsz hle hlt hkk
 generalize pre.length = k at c1 hlt hkk
 generalize ((c :: r).head? == some 124) = b1 at G1 ⊢
 generalize ((c :: r).head? == some 41) = b2 at G2 ⊢
 clear hb hp hsz
 cases b1
 · go_enter Tryz.func158,Tryz.ntmps158
   go_wp2_with fail
   go_region_held3 (fun w' => w'.cell? ⟨rb,0,none⟩ = some (.string S) ∧ w'.cell? ⟨rb,1,none⟩ = some (.int .i64 (k:Int))) (go_keep) ((first
    | (go_at_call_of 159 (Value.int .u8 124);refine (G1.out _ hdr).mono ?_;rintro e w1 ⟨rfl,hb1'⟩;have hb1:=bl_step hdr hb1';have:=keep_cell hb1 c0;have:=keep_cell hb1 c1)
    | (go_at_call_of 159 (Value.int .u8 41);refine (G2.out _ hb1).mono ?_;rintro e w2 ⟨rfl,hb2'⟩;have hb2:=bl_step hb1 hb2';have:=keep_cell hb2 c0;have:=keep_cell hb2 c1)))
   all_goals
    go_wp2
    go_ret
    exact ⟨by cases b2 <;> rfl,hb2⟩
 · go_enter Tryz.func158,Tryz.ntmps158
   go_wp2_with fail
   first | (go_region_with (first
    | (go_at_call 159;refine (G1.out _ hdr).mono ?_;rintro e w1 ⟨rfl,hb1'⟩;have hb1:=bl_step hdr hb1';have:=keep_cell hb1 c0;have:=keep_cell hb1 c1)
    | fail)) | fail
   all_goals
    go_wp2
    go_ret
    exact ⟨rfl,hb1⟩
set_option maxRecDepth 20000 in
theorem rowEndsC {w:World} {rb:Nat} {v:Value} {s q:Txt} (h:At w rb v s q) (hs:s.length ≤ 200) :
 Calls Tryz.prog 158 #[.pointer (some ⟨rb,0,none⟩)] w fun e w' => e = .returned (.bool (rowEnd q)) ∧ Below w.heap.size w w':=by
 cases q with
 | nil => exact rowEndsNil h hs
 | cons c r => exact rowEndsSome h hs
end Go.Proofs.YtbpnioehmohbcaaGreat
namespace Go.Proofs.YtbpnioehmohbcaaGreat
open Go.RowKit
set_option maxRecDepth 20000 in
theorem visibleC (n:Nat) (w:World) (hn:n < 256):Calls Tryz.prog 191 #[.int .u8 (n:Int)] w fun e w' => e = .returned (.bool (decide (32 ≤ n ∧ n ≤ 126))) ∧ w' = w:=by
 by_cases h1:32 ≤ n
 · by_cases h2:n ≤ 126
   · rw [decide_eq_true (⟨h1,h2⟩:32 ≤ n ∧ n ≤ 126)]
     have h1z:(32:Int) ≤ (n:Int):=by omega
     have h2z:(n:Int) ≤ 126:=by omega
     go_enter Tryz.func191,Tryz.ntmps191;go_wp2;go_ret;exact ⟨by simp,rfl⟩
   · rw [decide_eq_false (fun h:32 ≤ n ∧ n ≤ 126 => h2 h.2)]
     have h1z:(32:Int) ≤ (n:Int):=by omega
     have h2z:¬ (n:Int) ≤ 126:=by omega
     go_enter Tryz.func191,Tryz.ntmps191;go_wp2;go_ret;exact ⟨by simp,rfl⟩
 · rw [decide_eq_false (fun h:32 ≤ n ∧ n ≤ 126 => h1 h.1)]
   have h1z:¬ (32:Int) ≤ (n:Int):=by omega
   go_enter Tryz.func191,Tryz.ntmps191;go_wp2;go_ret;exact ⟨rfl,rfl⟩
set_option maxRecDepth 20000 in
theorem ext48 (S:ByteArray) (z:Int) (w:World):(callFunc 143 #[.string S,.int .u8 z]).run Tryz.prog w = .ok (.value (.int .i64 (Lib.indexByte S.data.toList z.toNat.toUInt8))) w:=by
 rw [run_callFunc_indexByte Tryz.func143 (by kernel_rfl) (by kernel_rfl) (by kernel_rfl) (by kernel_rfl),Lib.run_indexByteString]
 rfl
set_option maxRecDepth 20000 in
theorem lite47 (S:ByteArray) (z:Int) (w:World):Calls Tryz.prog 135 #[.string S,.int .u8 z] w fun e w' => e = .returned (.int .i64 (Lib.indexByte S.data.toList z.toNat.toUInt8)) ∧ w' = w:=by
 have hx:=ext48 S z
 go_enter Tryz.func135,Tryz.ntmps135
 go_wp2
 go_ret
 exact ⟨rfl,rfl⟩
set_option maxRecDepth 20000 in
theorem idxC (S:ByteArray) (z:Int) (w:World):Calls Tryz.prog 118 #[.string S,.int .u8 z] w fun e w' => e = .returned (.int .i64 (Lib.indexByte S.data.toList z.toNat.toUInt8)) ∧ w' = w:=by
 have G:=hid (lite47 S z)
 go_enter Tryz.func118,Tryz.ntmps118
 go_wp2_with (go_at_call 135;refine (G.out _).mono ?_;rintro e w1 ⟨rfl,hw⟩;subst w1)
 go_ret
 exact ⟨rfl,rfl⟩
abbrev atomS:ByteArray:=⟨#[46,42,43,63,40,41,91,93,124,92,47]⟩
abbrev classS:ByteArray:=⟨#[93,91,92,94,45,47]⟩
abbrev bothS:ByteArray:=⟨#[46,42,43,63,40,41,91,93,124,92,47,93,91,92,94,45,47]⟩
def Tells (S:ByteArray) (tell:UInt8 → Bool):Prop:=∀ n,n < 256 → decide (Lib.indexByte S.data.toList (UInt8.ofNat n) < 0) = !tell (UInt8.ofNat n)
theorem tells_atom:Tells atomS tellA:=by
 have h:∀ b:Fin 256,decide (Lib.indexByte atomS.data.toList (UInt8.ofNat b) < 0) = !tellA (UInt8.ofNat b):=by decide +kernel
 exact fun n hn => h ⟨n,hn⟩
theorem tells_class:Tells classS tellC:=by
 have h:∀ b:Fin 256,decide (Lib.indexByte classS.data.toList (UInt8.ofNat b) < 0) = !tellC (UInt8.ofNat b):=by decide +kernel
 exact fun n hn => h ⟨n,hn⟩
theorem tells_both:Tells bothS escD:=by
 have h:∀ b:Fin 256,decide (Lib.indexByte bothS.data.toList (UInt8.ofNat b) < 0) = !escD (UInt8.ofNat b):=by decide +kernel
 exact fun n hn => h ⟨n,hn⟩
theorem toU8 (n:Nat):((n:Int)).toNat.toUInt8 = UInt8.ofNat n:=rfl
def plainB (n:Nat) (tell:UInt8 → Bool):Bool:=decide (32 ≤ n ∧ n ≤ 126) && !tell (UInt8.ofNat n)
set_option maxRecDepth 20000 in
theorem plainC (n:Nat) (S:ByteArray) (tell:UInt8 → Bool) (w:World) (hn:n < 256) (ht:Tells S tell):Calls Tryz.prog 188 #[.int .u8 (n:Int),.string S] w fun e w' => e = .returned (.bool (plainB n tell)) ∧ w' = w:=by
 have GV:=hid (visibleC n w hn)
 have GI:=hid (idxC S (n:Int) w)
 rw [toU8] at GI
 have hle:=Lib.indexByte_ge S.data.toList (UInt8.ofNat n)
 have hh:Hid (decide (Lib.indexByte S.data.toList (UInt8.ofNat n) < 0) = !tell (UInt8.ofNat n)):=hid (ht n hn)
 unfold plainB
 generalize Lib.indexByte S.data.toList (UInt8.ofNat n) = z at GI hh hle
 cases hv:decide (32 ≤ n ∧ n ≤ 126) with
 | false =>
  rw [hv] at GV
  clear hv
  go_enter Tryz.func188,Tryz.ntmps188
  go_wp2_with (go_at_call 191;refine GV.out.mono ?_;rintro e w1 ⟨rfl,hw⟩;subst w1)
  go_ret
  exact ⟨rfl,rfl⟩
 | true =>
  rw [hv] at GV
  rw [← hh.out]
  clear hv
  go_enter Tryz.func188,Tryz.ntmps188
  go_wp2_with (first
   | (go_at_call 191;refine GV.out.mono ?_;rintro e w1 ⟨rfl,hw⟩;subst w1)
   | (go_at_call 118;refine GI.out.mono ?_;rintro e w1 ⟨rfl,hw⟩;subst w1))
  go_ret
  exact ⟨rfl,rfl⟩
def Said (p:Int) (res:Option (Nat × Txt)) (w:World) (rb:Nat) (v:Value) (s:Txt):Ending → World → Prop:=fun e w' =>
 (match res with
  | some (b,q) => e = .returned (.int .u8 (b:Int)) ∧ At w' rb v s q
  | none => e = .panicked [{ v:=.iface 166 (.int .i64 p),recovered:=false }]) ∧ Kept (oneBlk rb) w w'
theorem hexF_nat (c:UInt8):hexF c = if 48 ≤ c.toNat ∧ c.toNat ≤ 57 then some (c.toNat - 48) else if 97 ≤ c.toNat ∧ c.toNat ≤ 102 then some (c.toNat - 87) else if 65 ≤ c.toNat ∧ c.toNat ≤ 70 then some (c.toNat - 55) else none:=rfl
theorem ret_u8 {a b:Int} (h:a = b):Ending.returned (.int .u8 a) = .returned (.int .u8 b):=by rw [h]
def hexP:Txt → Option (Nat × Txt)
 | [] => none
 | c :: r => match hexF c with
  | some a => some (a,r)
  | none => none
set_option maxRecDepth 20000 in
set_option maxHeartbeats 1000000 in
theorem digitC {w:World} {rb:Nat} {v:Value} {s q:Txt} (h:At w rb v s q) (hs:s.length ≤ 200) (p:Int) :
 Calls Tryz.prog 190 #[.pointer (some ⟨rb,0,none⟩),.int .i64 p] w (Said p (hexP q) w rb v s):=by
 cases q with
 | nil =>
  have G:=hid (nextNo h hs p)
  clear h
  go_enter Tryz.func190,Tryz.ntmps190
  go_wp2_with (go_at_call 186;refine G.out.mono ?_;rintro e w1 ⟨rfl,hb1⟩)
  exact ⟨rfl,rfl,Kept.of_below hb1⟩
 | cons c r =>
  have G:=hid (nextYes h hs p)
  have hn:=c.toNat_lt
  show Calls _ _ _ _ (Said p (match hexF c with | some a => some (a,r) | none => none) w rb v s)
  rw [hexF_nat]
  generalize c.toNat = n at G hn ⊢
  clear h
  by_cases h1:48 ≤ n ∧ n ≤ 57
  · rw [if_pos h1]
    obtain ⟨ha,hb⟩:=h1
    have hz:(48:Int) ≤ (n:Int):=by omega
    have hz':(n:Int) ≤ 57:=by omega
    go_enter Tryz.func190,Tryz.ntmps190
    go_wp2_with (go_at_call 186;refine G.out.mono ?_;rintro e w1 ⟨rfl,hat,hk⟩;have hat:=hid hat)
    go_ret
    exact ⟨⟨ret_u8 (by omega),hat.out⟩,hk⟩
  rw [if_neg h1]
  have hd1:48 ≤ n → ¬ n ≤ 57:=fun a b => h1 ⟨a,b⟩
  by_cases h2:97 ≤ n ∧ n ≤ 102
  · rw [if_pos h2]
    obtain ⟨ha,hb⟩:=h2
    clear h1 hd1
    have hz:(97:Int) ≤ (n:Int):=by omega
    have hz':(n:Int) ≤ 102:=by omega
    go_enter Tryz.func190,Tryz.ntmps190
    go_wp2_with (go_at_call 186;refine G.out.mono ?_;rintro e w1 ⟨rfl,hat,hk⟩;have hat:=hid hat)
    go_ret
    exact ⟨⟨ret_u8 (by omega),hat.out⟩,hk⟩
  rw [if_neg h2]
  by_cases h3:65 ≤ n ∧ n ≤ 70
  · rw [if_pos h3]
    obtain ⟨ha,hb⟩:=h3
    clear h1 hd1 h2
    have hz:(65:Int) ≤ (n:Int):=by omega
    have hz':(n:Int) ≤ 70:=by omega
    go_enter Tryz.func190,Tryz.ntmps190
    go_wp2_with (go_at_call 186;refine G.out.mono ?_;rintro e w1 ⟨rfl,hat,hk⟩;have hat:=hid hat)
    go_ret
    exact ⟨⟨ret_u8 (by omega),hat.out⟩,hk⟩
  rw [if_neg h3]
  have hcase:n < 48 ∨ (58 ≤ n ∧ n < 65) ∨ (71 ≤ n ∧ n < 97) ∨ 103 ≤ n:=by omega
  clear h1 h2 h3 hd1
  rcases hcase with h | ⟨h,h'⟩ | ⟨h,h'⟩ | h
  all_goals
   go_enter Tryz.func190,Tryz.ntmps190
   go_wp2_with (go_at_call 186;refine G.out.mono ?_;rintro e w1 ⟨rfl,hat,hk⟩)
   exact ⟨rfl,rfl,hk⟩
theorem Said.no {p:Int} {w:World} {rb:Nat} {v:Value} {s:Txt} {e:Ending} {w':World} (h:Said p none w rb v s e w'):e = .panicked [{ v:=.iface 166 (.int .i64 p),recovered:=false }] ∧ Kept (oneBlk rb) w w':=h
theorem Said.yes {p:Int} {b:Nat} {q:Txt} {w:World} {rb:Nat} {v:Value} {s:Txt} {e:Ending} {w':World} (h:Said p (some (b,q)) w rb v s e w'):e = .returned (.int .u8 (b:Int)) ∧ At w' rb v s q ∧ Kept (oneBlk rb) w w':=⟨h.1.1,h.1.2,h.2⟩
end Go.Proofs.YtbpnioehmohbcaaGreat
