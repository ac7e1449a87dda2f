/- The reader in memory: its block, its rows, each in a block of its own; what never changes. The reader: giveUp, atName, atSign, inAlternative, take, takeName, takeSign. One more in a row of the reader: what an append and a store leave. The reader: then, addRule, addNont. -/
import Derived.Test.YtbpnioehmohbcaaGreatJ15
import Derived.Test.YtbpnioehmohbcaaGreatJ16
namespace Go.Proofs.YtbpnioehmohbcaaGreat
open Go.RowKit Go.Maps Go.Sort
structure Chg (T T':Nat → Nat) (w w':World):Prop where
 kept:Kept (fun b => T b ≠ 0 ∧ T b ≠ 77) w w'
 tag:∀ b,b < w.heap.size → T' b = T b
structure Sft (T T':Nat → Nat) (w w':World):Prop where
 kept:Kept (fun b => T b ≠ 0) w w'
 tag:∀ b,b < w.heap.size → T' b = T b
theorem Chg.sft {T T':Nat → Nat} {w w':World} (h:Chg T T' w w'):Sft T T' w w':=⟨h.kept.mono (fun _ _ h => h.1),h.tag⟩
theorem Sft.of_kept {F:Nat → Prop} {T:Nat → Nat} {w w':World} (h:Kept F w w') (hF:∀ b,F b → T b ≠ 0):Sft T T w w':=⟨h.mono (fun k _ h => hF k h),fun _ _ => rfl⟩
theorem Chg.refl (T:Nat → Nat) (w:World):Chg T T w w:=⟨Kept.refl _ _,fun _ _ => rfl⟩
theorem Chg.trans {T T' T'':Nat → Nat} {w u v:World} (h:Chg T T' w u) (h2:Chg T' T'' u v):Chg T T'' w v:=
 ⟨h.kept.step h2.kept (fun k hk hn => by rw [h.tag k hk] at hn;exact hn),fun b hb => (h2.tag b (Nat.lt_of_lt_of_le hb h.kept.size)).trans (h.tag b hb)⟩
theorem Chg.of_below {T:Nat → Nat} {w w':World} (h:Below w.heap.size w w'):Chg T T w w':=⟨Kept.of_below h,fun _ _ => rfl⟩
def Im (T:Nat → Nat) (w:World) (b:Nat) (o:Obj):Prop:=T b = 0 ∧ w.heap[b]? = some o
theorem Im.sft {T T':Nat → Nat} {w w':World} {b:Nat} {o:Obj} (h:Im T w b o) (hc:Sft T T' w w'):Im T' w' b o:=by
 have hb:=blk_lt h.2
 exact ⟨(hc.tag b hb).trans h.1,(hc.kept.block b hb (fun hn => hn h.1)).trans h.2⟩
theorem Im.cell {T:Nat → Nat} {w:World} {b o:Nat} {cs:Array Value} {t:TypeId} {v:Value} (h:Im T w b (.cells cs t (0,0))) (hv:cs[o]? = some v):w.cell? ⟨b,o,none⟩ = some v:=blk_cell h.2 hv
def OwnI (w:World) (B:Nat) (T:Nat → Nat) (i:Nat) (te:TypeId) (sz:Nat) (v:Value) (n:Nat) (xs:List Value):Prop:=w.ownsRow B te sz v n xs ∧ ∀ b,v.ownBlock = some b → T b = i
theorem OwnI.kept {w w':World} {B i sz n:Nat} {T T':Nat → Nat} {te:TypeId} {v:Value} {xs:List Value} {F:Nat → Prop} (h:OwnI w B T i te sz v n xs) (hk:Kept F w w') (hF:∀ b,F b → T b ≠ i) (ht:∀ b,b < w.heap.size → T' b = T b):OwnI w' B T' i te sz v n xs:=
 ⟨own_kept h.1 hk (fun k e hf => hF k hf (h.2 k e)),fun b e => (ht b (h.1.lt b e).2).trans (h.2 b e)⟩
def Wd3 (w:World) (b o:Nat) (x:Wd):Prop:=w.cell? ⟨b,o,none⟩ = some (.int .i64 (x.1:Int)) ∧ w.cell? ⟨b,o + 1,none⟩ = some (.int .i64 (x.2.1:Int)) ∧ w.cell? ⟨b,o + 2,none⟩ = some (.string (strT x.2.2))
def WsV (T:Nat → Nat) (w:World) (v:Value) (ws:List Wd):Prop:=∃ b o cap,v = .slice (some ⟨b,o,none⟩) ws.length cap ∧ ws.length ≤ cap ∧ T b = 0 ∧ b < w.heap.size ∧ ∀ j (h:j < ws.length),Wd3 w b (o + j * 3) ws[j]
theorem WsV.sft {T T':Nat → Nat} {w w':World} {v:Value} {ws:List Wd} (h:WsV T w v ws) (hc:Sft T T' w w'):WsV T' w' v ws:=by
 obtain ⟨b,o,cap,e,h1,h2,h3,h4⟩:=h
 refine ⟨b,o,cap,e,h1,(hc.tag b h3).trans h2,Nat.lt_of_lt_of_le h3 hc.kept.size,fun j hj => ?_⟩
 obtain ⟨x0,x1,x2⟩:=h4 j hj
 exact ⟨hc.kept.cell x0 h3 (fun hn => hn h2),hc.kept.cell x1 h3 (fun hn => hn h2),hc.kept.cell x2 h3 (fun hn => hn h2)⟩
def ImC (T:Nat → Nat) (w:World) (v:Value) (l:List Cel):Prop:=Cels w v l ∧ OffP (fun b => T b ≠ 0) v
theorem ImC.sft {T T':Nat → Nat} {w w':World} {v:Value} {l:List Cel} (h:ImC T w v l) (hc:Sft T T' w w'):ImC T' w' v l:=by
 refine ⟨h.1.keptP hc.kept h.2,fun a n c e hn hf => ?_⟩
 refine h.2 a n c e hn ?_
 obtain ⟨a',cap,e',_,_,_,hat⟩:=h.1
 rw [e] at e'
 injection e' with e1 e2 e3
 subst e2
 obtain ⟨b,o,e4,hlt,_⟩:=hat 0 hn
 rw [e4] at e1
 injection e1 with e1
 subst e1
 exact fun hz => hf ((hc.tag b hlt).trans hz)
def RuC (T:Nat → Nat) (w:World) (er:Int) (v:Value) (l:List Cel):Prop:=(∃ a m c,v = .slice a m c) ∧ (er = 0 → ImC T w v l)
theorem RuC.sft {T T':Nat → Nat} {w w':World} {er:Int} {v:Value} {l:List Cel} (h:RuC T w er v l) (hc:Sft T T' w w'):RuC T' w' er v l:=⟨h.1,fun e => (h.2 e).sft hc⟩
theorem RuC.err {T:Nat → Nat} {w:World} {er er':Int} {v:Value} {l:List Cel} (h:RuC T w er v l) (he:er' = 0 → er = 0):RuC T w er' v l:=⟨h.1,fun e => h.2 (he e)⟩
abbrev boxR (rb:Nat):Obj:=.cells #[.pointer (some ⟨rb,0,none⟩)] 89
abbrev boxW (x:Wd):Obj:=.cells #[.int .i64 (x.1:Int),.int .i64 (x.2.1:Int),.string (strT x.2.2)] 63
abbrev boxN (n:Nat):Obj:=.cells #[.int .i64 (n:Int)] 3
abbrev boxL (p s:Nat):Obj:=.cells #[.int .i64 (p:Int),.int .i64 (s:Int)] 96
abbrev boxB (b:Bool):Obj:=.cells #[.bool b] 4
abbrev ptr0 (b:Nat):Value:=.pointer (some ⟨b,0,none⟩)
def StpV (T:Nat → Nat) (w:World) (rb:Nat) (v:Value) (s:Stp):Prop:=
 (s.k = 1 ∧ ∃ p q,v = .func (.func 122) #[] #[ptr0 p,ptr0 q] ∧ Im T w p (boxR rb) ∧ Im T w q (boxW s.w)) ∨
 (s.k = 2 ∧ ∃ p q l,v = .func (.func 125) #[] #[ptr0 p,ptr0 q,ptr0 l] ∧ Im T w p (boxR rb) ∧ Im T w q (boxW s.w) ∧ Im T w l (boxL s.a s.b)) ∨
 (s.k = 3 ∧ ∃ l,v = .func (.func 90) #[] #[ptr0 l] ∧ Im T w l (boxB (decide (s.a ≠ 0)))) ∨
 (s.k = 4 ∧ ∃ p q,v = .func (.func 91) #[] #[ptr0 p,ptr0 q] ∧ Im T w p (boxR rb) ∧ Im T w q (boxW s.w)) ∨
 (s.k = 5 ∧ ∃ p l q,v = .func (.func 140) #[] #[ptr0 p,ptr0 l,ptr0 q] ∧ Im T w p (boxR rb) ∧ Im T w q (boxW s.w) ∧ Im T w l (boxN s.a)) ∨
 (s.k = 6 ∧ ∃ p q l,v = .func (.func 141) #[] #[ptr0 p,ptr0 q,ptr0 l] ∧ Im T w p (boxR rb) ∧ Im T w q (boxW s.w) ∧ Im T w l (boxN s.a))
theorem StpV.sft {T T':Nat → Nat} {w w':World} {rb:Nat} {v:Value} {s:Stp} (h:StpV T w rb v s) (hc:Sft T T' w w'):StpV T' w' rb v s:=by
 rcases h with ⟨h,p,q,e,h1,h2⟩ | ⟨h,p,q,l,e,h1,h2,h3⟩ | ⟨h,l,e,h3⟩ | ⟨h,p,q,e,h1,h2⟩ | ⟨h,p,l,q,e,h1,h2,h3⟩ | ⟨h,p,q,l,e,h1,h2,h3⟩
 · exact .inl ⟨h,p,q,e,h1.sft hc,h2.sft hc⟩
 · exact .inr (.inl ⟨h,p,q,l,e,h1.sft hc,h2.sft hc,h3.sft hc⟩)
 · exact .inr (.inr (.inl ⟨h,l,e,h3.sft hc⟩))
 · exact .inr (.inr (.inr (.inl ⟨h,p,q,e,h1.sft hc,h2.sft hc⟩)))
 · exact .inr (.inr (.inr (.inr (.inl ⟨h,p,l,q,e,h1.sft hc,h2.sft hc,h3.sft hc⟩))))
 · exact .inr (.inr (.inr (.inr (.inr ⟨h,p,q,l,e,h1.sft hc,h2.sft hc,h3.sft hc⟩))))
theorem Im.keep {T T':Nat → Nat} {w w':World} {b:Nat} {o:Obj} (h:Im T w b o) (hc:Chg T T' w w'):Im T' w' b o:=h.sft hc.sft
theorem WsV.keep {T T':Nat → Nat} {w w':World} {v:Value} {ws:List Wd} (h:WsV T w v ws) (hc:Chg T T' w w'):WsV T' w' v ws:=h.sft hc.sft
theorem ImC.keep {T T':Nat → Nat} {w w':World} {v:Value} {l:List Cel} (h:ImC T w v l) (hc:Chg T T' w w'):ImC T' w' v l:=h.sft hc.sft
theorem RuC.keep {T T':Nat → Nat} {w w':World} {er:Int} {v:Value} {l:List Cel} (h:RuC T w er v l) (hc:Chg T T' w w'):RuC T' w' er v l:=h.sft hc.sft
theorem StpV.keep {T T':Nat → Nat} {w w':World} {rb:Nat} {v:Value} {s:Stp} (h:StpV T w rb v s) (hc:Chg T T' w w'):StpV T' w' rb v s:=h.sft hc.sft
theorem StpV.oneCell {T:Nat → Nat} {w:World} {rb:Nat} {v:Value} {s:Stp} (h:StpV T w rb v s):v.oneCell' = true:=by
 rcases h with ⟨_,p,q,rfl,_⟩ | ⟨_,p,q,l,rfl,_⟩ | ⟨_,l,rfl,_⟩ | ⟨_,p,q,rfl,_⟩ | ⟨_,p,l,q,rfl,_⟩ | ⟨_,p,q,l,rfl,_⟩ <;> rfl
structure RX where
 wv:Value
 rv:Value
 nv:Value
 pv:Value
 sk:Value
 te:Value
 no:Value
 la:Value
 rl:List Value
 fl:List Value
abbrev rdO (X:RX) (lc sc:Nat) (pl:Nat) (er:Int):Obj:=.cells #[X.wv,X.rv,X.nv,.slice none 0 0,X.pv,.int .i64 0,.int .i64 (lc:Int),.int .i64 (sc:Int),X.sk,X.te,X.no,.int .u32 0,.int .i32 0,.int .u32 0,.map none,X.la,.int .i64 (pl:Int),.int .i64 er] 81
def rlV (r:Rl) (v:Value):List Value:=[.string (strT r.name),v,.bool r.skip]
def pdV (l:Nat):List Value:=[.int .i64 (l:Int),.slice none 0 0,.int .i64 0]
def spV (s:Stp) (v:Value):List Value:=[.int .i64 (s.w.2.1:Int),v]
def Endd (ws:List Wd):Prop:=∃ l p,ws = l ++ [(0,p,[])]
theorem Endd.ne {ws:List Wd} (h:Endd ws):ws ≠ []:=by obtain ⟨l,p,rfl⟩:=h;simp
theorem Endd.two {ws:List Wd} (h:Endd ws) (hk:(ws.headD (0,0,[])).1 ≠ 0):2 ≤ ws.length:=by
 obtain ⟨l,p,rfl⟩:=h
 cases l with
 | nil => exact absurd rfl hk
 | cons a l => rw [List.length_append,List.length_cons,List.length_singleton];omega
theorem Endd.tail {ws:List Wd} (h:Endd ws) (h2:2 ≤ ws.length):Endd ws.tail:=by
 obtain ⟨l,p,rfl⟩:=h
 cases l with
 | nil => simp at h2
 | cons a l => exact ⟨l,p,rfl⟩
structure RdV (B:Nat) (T:Nat → Nat) (w:World) (rb:Nat) (X:RX) (st:RS):Prop where
 blk:w.heap[rb]? = some (rdO X st.levels st.starts st.pl st.err)
 rt:T rb = 99
 own:∀ b,T b ≠ 0 → B ≤ b ∧ b < w.heap.size
 base:B ≤ w.heap.size
 words:WsV T w X.wv st.ws
 wf:Endd st.ws
 rules:OwnI w B T 1 50 3 X.rv st.rules.length ((st.rules.zip X.rl).flatMap fun x => rlV x.1 x.2)
 rlen:X.rl.length = st.rules.length
 rre:∀ x ∈ st.rules.zip X.rl,RuC T w st.err x.2 x.1.re
 nonts:OwnI w B T 2 9 1 X.nv st.nonts.length (st.nonts.flatMap csT)
 prods:OwnI w B T 4 52 3 X.pv st.prods.length (st.prods.flatMap pdV)
 skips:OwnI w B T 8 63 3 X.sk st.skips.length (st.skips.flatMap wdV)
 terms:OwnI w B T 9 63 3 X.te st.terms.length (st.terms.flatMap wdV)
 nons:OwnI w B T 10 63 3 X.no st.nons.length (st.nons.flatMap wdV)
 later:OwnI w B T 15 93 2 X.la st.later.length ((st.later.zip X.fl).flatMap fun x => spV x.1 x.2)
 flen:X.fl.length = st.later.length
 fst:∀ x ∈ st.later.zip X.fl,StpV T w rb x.2 x.1
theorem RdV.keep {B rb:Nat} {T:Nat → Nat} {w w':World} {X:RX} {st:RS} (h:RdV B T w rb X st) (hb:Below w.heap.size w w'):RdV B T w' rb X st:=by
 have hk:Kept (fun _ => False) w w':=Kept.of_below hb
 have hc:Chg T T w w':=Chg.of_below hb
 have ht:∀ b,b < w.heap.size → T b = T b:=fun _ _ => rfl
 have hF:∀ i b,False → T b ≠ i:=fun _ _ h => h.elim
 exact ⟨hs_keep h.blk hb,h.rt,fun b hn => ⟨(h.own b hn).1,Nat.lt_of_lt_of_le (h.own b hn).2 hb.size⟩,Nat.le_trans h.base hb.size,h.words.keep hc,h.wf,h.rules.kept hk (hF 1) ht,h.rlen,fun x hx => (h.rre x hx).keep hc,h.nonts.kept hk (hF 2) ht,h.prods.kept hk (hF 4) ht,h.skips.kept hk (hF 8) ht,h.terms.kept hk (hF 9) ht,h.nons.kept hk (hF 10) ht,h.later.kept hk (hF 15) ht,h.flen,fun x hx => (h.fst x hx).keep hc⟩
theorem RdV.fresh {B rb b:Nat} {T:Nat → Nat} {w:World} {X:RX} {st:RS} (h:RdV B T w rb X st) (hb:w.heap.size ≤ b):T b = 0:=by
 rcases Nat.eq_zero_or_pos (T b) with h1 | h1
 · exact h1
 · have:=(h.own b (by omega)).2
   omega
theorem RdV.put {B rb:Nat} {T:Nat → Nat} {w F:World} {X X':RX} {st st':RS} (h:RdV B T w rb X st) (hk:Kept (fun b => b = rb ∨ T b = 77) w F)
 (hblk:F.heap[rb]? = some (rdO X' st'.levels st'.starts st'.pl st'.err)) (hws:WsV T F X'.wv st'.ws) (hwf:Endd st'.ws)
 (e1:st'.rules = st.rules) (e2:st'.nonts = st.nonts) (e3:st'.prods = st.prods) (e4:st'.skips = st.skips) (e5:st'.terms = st.terms) (e6:st'.nons = st.nons) (e7:st'.later = st.later) (e8:st'.err = 0 → st.err = 0)
 (f1:X'.rv = X.rv) (f2:X'.nv = X.nv) (f3:X'.pv = X.pv) (f4:X'.sk = X.sk) (f5:X'.te = X.te) (f6:X'.no = X.no) (f7:X'.la = X.la) (f8:X'.rl = X.rl) (f9:X'.fl = X.fl) :
 RdV B T F rb X' st':=by
 have hc:Sft T T w F:=Sft.of_kept hk (fun b e => by rcases e with e | e <;> rw [e] <;> (try rw [h.rt]) <;> decide)
 have ht:∀ b,b < w.heap.size → T b = T b:=fun _ _ => rfl
 have hF:∀ i,i ≠ 99 → i ≠ 77 → ∀ b,b = rb ∨ T b = 77 → T b ≠ i:=fun i hi hj b e => by
  rcases e with e | e
  · rw [e,h.rt];exact hi.symm
  · rw [e];exact hj.symm
 refine ⟨hblk,h.rt,fun b hn => ⟨(h.own b hn).1,Nat.lt_of_lt_of_le (h.own b hn).2 hk.size⟩,Nat.le_trans h.base hk.size,hws,hwf,?_,?_,?_,?_,?_,?_,?_,?_,?_,?_,?_⟩
 · rw [e1,f1,f8];exact h.rules.kept hk (hF 1 (by decide) (by decide)) ht
 · rw [e1,f8];exact h.rlen
 · rw [e1,f8];exact fun x hx => ((h.rre x hx).sft hc).err e8
 · rw [e2,f2];exact h.nonts.kept hk (hF 2 (by decide) (by decide)) ht
 · rw [e3,f3];exact h.prods.kept hk (hF 4 (by decide) (by decide)) ht
 · rw [e4,f4];exact h.skips.kept hk (hF 8 (by decide) (by decide)) ht
 · rw [e5,f5];exact h.terms.kept hk (hF 9 (by decide) (by decide)) ht
 · rw [e6,f6];exact h.nons.kept hk (hF 10 (by decide) (by decide)) ht
 · rw [e7,f7,f9];exact h.later.kept hk (hF 15 (by decide) (by decide)) ht
 · rw [e7,f9];exact h.flen
 · rw [e7,f9];exact fun x hx => (h.fst x hx).sft hc
theorem OwnI.mv {w w':World} {B i sz n:Nat} {T T':Nat → Nat} {te:TypeId} {v:Value} {xs:List Value} (h:OwnI w B T i te sz v n xs) (hk:Kept (fun b => T b = 77) w w') (hi:i ≠ 77) (ht:∀ b,b < w.heap.size → T b ≠ 77 → T' b = T b):OwnI w' B T' i te sz v n xs:=
 ⟨own_kept h.1 hk (fun k e hf => hi ((h.2 k e).symm.trans hf)),fun b e => (ht b (h.1.lt b e).2 (by rw [h.2 b e];exact hi)).trans (h.2 b e)⟩
theorem Im.mv {T T':Nat → Nat} {w w':World} {b:Nat} {o:Obj} (h:Im T w b o) (hk:Kept (fun b => T b = 77) w w') (ht:∀ b,b < w.heap.size → T b ≠ 77 → T' b = T b):Im T' w' b o:=by
 have hb:=blk_lt h.2
 have h7:T b ≠ 77:=by rw [h.1];decide
 exact ⟨(ht b hb h7).trans h.1,(hk.block b hb h7).trans h.2⟩
theorem StpV.mv {T T':Nat → Nat} {w w':World} {rb:Nat} {v:Value} {s:Stp} (h:StpV T w rb v s) (hk:Kept (fun b => T b = 77) w w') (ht:∀ b,b < w.heap.size → T b ≠ 77 → T' b = T b):StpV T' w' rb v s:=by
 rcases h with ⟨h,p,q,e,h1,h2⟩ | ⟨h,p,q,l,e,h1,h2,h3⟩ | ⟨h,l,e,h3⟩ | ⟨h,p,q,e,h1,h2⟩ | ⟨h,p,l,q,e,h1,h2,h3⟩ | ⟨h,p,q,l,e,h1,h2,h3⟩
 · exact .inl ⟨h,p,q,e,h1.mv hk ht,h2.mv hk ht⟩
 · exact .inr (.inl ⟨h,p,q,l,e,h1.mv hk ht,h2.mv hk ht,h3.mv hk ht⟩)
 · exact .inr (.inr (.inl ⟨h,l,e,h3.mv hk ht⟩))
 · exact .inr (.inr (.inr (.inl ⟨h,p,q,e,h1.mv hk ht,h2.mv hk ht⟩)))
 · exact .inr (.inr (.inr (.inr (.inl ⟨h,p,l,q,e,h1.mv hk ht,h2.mv hk ht,h3.mv hk ht⟩))))
 · exact .inr (.inr (.inr (.inr (.inr ⟨h,p,q,l,e,h1.mv hk ht,h2.mv hk ht,h3.mv hk ht⟩))))
theorem ImC.mv {T T':Nat → Nat} {w w':World} {v:Value} {l:List Cel} (h:ImC T w v l) (hk:Kept (fun b => T b = 77) w w') (ht:∀ b,b < w.heap.size → T b ≠ 77 → T' b = T b):ImC T' w' v l:=by
 refine ⟨h.1.keptP hk (fun a n c e hn hf => h.2 a n c e hn (by show T a.block ≠ 0;rw [hf];decide)),fun a n c e hn hf => ?_⟩
 have h0:=h.2 a n c e hn
 obtain ⟨a',cap,e',_,_,_,hat⟩:=h.1
 rw [e] at e'
 injection e' with e1 e2 e3
 subst e2
 obtain ⟨b,o,e4,hlt,_⟩:=hat 0 hn
 rw [e4] at e1
 injection e1 with e1
 subst e1
 have hz:T b = 0:=by
  rcases Nat.eq_zero_or_pos (T b) with h9 | h9
  · exact h9
  · exact absurd (show T b ≠ 0 by omega) h0
 exact hf ((ht b hlt (by rw [hz];decide)).trans hz)
theorem RuC.mv {T T':Nat → Nat} {w w':World} {er:Int} {v:Value} {l:List Cel} (h:RuC T w er v l) (hk:Kept (fun b => T b = 77) w w') (ht:∀ b,b < w.heap.size → T b ≠ 77 → T' b = T b):RuC T' w' er v l:=⟨h.1,fun e => (h.2 e).mv hk ht⟩
theorem RdV.mv {B rb:Nat} {T T':Nat → Nat} {w F:World} {X:RX} {st:RS} (h:RdV B T w rb X st) (hk:Kept (fun b => T b = 77) w F) (ht:∀ b,b < w.heap.size → T b ≠ 77 → T' b = T b) (ho:∀ b,T' b ≠ 0 → B ≤ b ∧ b < F.heap.size):RdV B T' F rb X st:=by
 have hr:=blk_lt h.blk
 have h7:T rb ≠ 77:=by rw [h.rt];decide
 refine ⟨hk.blk h.blk h7,(ht rb hr h7).trans h.rt,ho,Nat.le_trans h.base hk.size,?_,h.wf,h.rules.mv hk (by decide) ht,h.rlen,fun x hx => (h.rre x hx).mv hk ht,h.nonts.mv hk (by decide) ht,h.prods.mv hk (by decide) ht,h.skips.mv hk (by decide) ht,h.terms.mv hk (by decide) ht,h.nons.mv hk (by decide) ht,h.later.mv hk (by decide) ht,h.flen,fun x hx => (h.fst x hx).mv hk ht⟩
 obtain ⟨b,o,cap,e,h1,h2,h3,h4⟩:=h.words
 have h8:T b ≠ 77:=by rw [h2];decide
 refine ⟨b,o,cap,e,h1,(ht b h3 h8).trans h2,Nat.lt_of_lt_of_le h3 hk.size,fun j hj => ?_⟩
 obtain ⟨x0,x1,x2⟩:=h4 j hj
 exact ⟨hk.cell x0 h3 h8,hk.cell x1 h3 h8,hk.cell x2 h3 h8⟩
def tagT (T:Nat → Nat) (q i:Nat):Nat → Nat:=fun b => if b = q then i else T b
theorem RdV.aside {B rb q:Nat} {T:Nat → Nat} {w F:World} {X:RX} {st:RS} (h:RdV B T w rb X st) (hb:Below w.heap.size w F) (h1:w.heap.size ≤ q) (h2:q < F.heap.size):RdV B (tagT T q 77) F rb X st ∧ Chg T (tagT T q 77) w F:=by
 have ht:∀ b,b < w.heap.size → tagT T q 77 b = T b:=fun b hb9 => if_neg (by omega)
 refine ⟨h.mv (Kept.of_below hb) (fun b hb9 _ => ht b hb9) (fun b hn => ?_),Kept.of_below hb,ht⟩
 unfold tagT at hn
 split at hn
 · rename_i e;subst e;exact ⟨Nat.le_trans h.base h1,h2⟩
 · exact ⟨(h.own b hn).1,Nat.lt_of_lt_of_le (h.own b hn).2 hb.size⟩
theorem RdV.wrote {B rb q:Nat} {T:Nat → Nat} {w F:World} {X:RX} {st:RS} (h:RdV B (tagT T q 77) w rb X st) (hk:Kept (oneBlk q) w F) (h0:T q = 0):RdV B T F rb X st:=by
 have hq:tagT T q 77 q = 77:=if_pos rfl
 refine h.mv (hk.mono (fun b _ e => by rw [show b = q from e,hq])) (fun b _ h7 => ?_) (fun b hn => ?_)
 · have:b ≠ q:=fun e => h7 (by rw [e,hq])
   exact (if_neg this).symm
 · have hb:b ≠ q:=fun e => hn (by rw [e,h0])
   have e9:tagT T q 77 b = T b:=if_neg hb
   have:=h.own b (by rw [e9];exact hn)
   exact ⟨this.1,Nat.lt_of_lt_of_le this.2 hk.size⟩
theorem RdV.chg1 {B rb:Nat} {T:Nat → Nat} {w F:World} {X:RX} {st:RS} (h:RdV B T w rb X st) (hk:Kept (oneBlk rb) w F):Chg T T w F:=
 ⟨hk.mono (fun k _ e => by rw [show k = rb from e,h.rt];decide),fun _ _ => rfl⟩
theorem RdV.ws1 {B rb:Nat} {T:Nat → Nat} {w F:World} {X:RX} {st:RS} (h:RdV B T w rb X st) (hk:Kept (oneBlk rb) w F):WsV T F X.wv st.ws:=h.words.keep (h.chg1 hk)
def RdP (B:Nat) (T:Nat → Nat) (w:World) (rb:Nat) (st:RS) (w':World):Prop:=∃ T' X',RdV B T' w' rb X' st ∧ Chg T T' w w'
theorem rd18 {w:World} {b:Nat} {x0 x1 x2 x3 x4 x5 x6 x7 x8 x9 x10 x11 x12 x13 x14 x15 x16 x17:Value} {T:TypeId} (h:w.heap[b]? = some (.cells #[x0,x1,x2,x3,x4,x5,x6,x7,x8,x9,x10,x11,x12,x13,x14,x15,x16,x17] T (0,0))) :
 w.cell? ⟨b,0,none⟩ = some x0 ∧ w.cell? ⟨b,1,none⟩ = some x1 ∧ w.cell? ⟨b,2,none⟩ = some x2 ∧ w.cell? ⟨b,3,none⟩ = some x3 ∧ w.cell? ⟨b,4,none⟩ = some x4 ∧ w.cell? ⟨b,5,none⟩ = some x5 ∧ w.cell? ⟨b,6,none⟩ = some x6 ∧ w.cell? ⟨b,7,none⟩ = some x7 ∧ w.cell? ⟨b,8,none⟩ = some x8 ∧ w.cell? ⟨b,9,none⟩ = some x9 ∧ w.cell? ⟨b,10,none⟩ = some x10 ∧ w.cell? ⟨b,15,none⟩ = some x15 ∧ w.cell? ⟨b,16,none⟩ = some x16 ∧ w.cell? ⟨b,17,none⟩ = some x17:=
 ⟨blk_cell h rfl,blk_cell h rfl,blk_cell h rfl,blk_cell h rfl,blk_cell h rfl,blk_cell h rfl,blk_cell h rfl,blk_cell h rfl,blk_cell h rfl,blk_cell h rfl,blk_cell h rfl,blk_cell h rfl,blk_cell h rfl,blk_cell h rfl⟩
end Go.Proofs.YtbpnioehmohbcaaGreat
namespace Go.Proofs.YtbpnioehmohbcaaGreat
open Go.RowKit Go.Maps Go.Sort
abbrev wdA (x:Wd):Value:=.agg #[.int .i64 (x.1:Int),.int .i64 (x.2.1:Int),.string (strT x.2.2)]
theorem RdV.word {B rb:Nat} {T:Nat → Nat} {w:World} {X:RX} {st:RS} (h:RdV B T w rb X st) :
 ∃ b o n cap,X.wv = .slice (some ⟨b,o,none⟩) (n + 1) cap ∧ st.ws.length = n + 1 ∧ n + 1 ≤ cap ∧ T b = 0 ∧ b < w.heap.size ∧ Wd3 w b o st.hd:=by
 have hn:=h.wf.ne
 obtain ⟨b,o,cap,e,h1,h2,h3,h4⟩:=h.words
 cases hw:st.ws with
 | nil => exact absurd hw hn
 | cons x l =>
  have hl:st.ws.length = l.length + 1:=by rw [hw];rfl
  refine ⟨b,o,l.length,cap,by rw [e,hl],rfl,by omega,h2,h3,?_⟩
  have h5:=h4 0 (by omega)
  have e0:st.ws[0]'(by omega) = st.hd:=by unfold RS.hd;simp [hw]
  rw [e0,Nat.zero_mul,Nat.add_zero] at h5
  exact h5
theorem RS.give_ws (st:RS) (p:Nat) (e:Int):(st.give p e).ws = st.ws:=by unfold RS.give;split <;> rfl
structure Mov (B:Nat) (T:Nat → Nat) (w:World) (rb:Nat) (X:RX) (st:RS) (w':World) (wv:Value):Prop where
 rd:RdV B T w' rb { X with wv:=wv } st
 kept:Kept (oneBlk rb) w w'
theorem Mov.below {B rb:Nat} {T:Nat → Nat} {w w0 w':World} {X:RX} {st:RS} {wv:Value} (h:Mov B T w0 rb X st w' wv) (hw:Below w.heap.size w w0):Mov B T w rb X st w' wv:=⟨h.rd,(Kept.of_below hw).step h.kept (fun _ _ h => h)⟩
theorem Mov.chg {B rb:Nat} {T:Nat → Nat} {w w':World} {X:RX} {st:RS} {wv:Value} (h:Mov B T w rb X st w' wv):Chg T T w w':=⟨h.kept.mono (fun k _ e => by rw [show k = rb from e,h.rd.rt];decide),fun _ _ => rfl⟩
theorem RdV.same {B rb:Nat} {T:Nat → Nat} {w:World} {X:RX} {st:RS} (h:RdV B T w rb X st):Mov B T w rb X st w X.wv:=⟨h,Kept.refl _ _⟩
set_option maxRecDepth 20000 in
set_option maxHeartbeats 2000000 in
theorem giveC {B rb:Nat} {T:Nat → Nat} {w:World} {X:RX} {st:RS} (h:RdV B T w rb X st) (p:Nat) (e:Int) (he:e ≠ 0) :
 Calls Tryz.prog 46 #[ptr0 rb,.int .i64 (p:Int),.int .i64 e] w fun r w' => r = .returned (.tuple #[]) ∧ Mov B T w rb X (st.give p e) w' X.wv:=by
 have hb0:=h.blk
 by_cases h0:st.err = 0
 · have hg:st.give p e = { st with pl:=p,err:=e }:=if_pos h0
   rw [hg]
   have hb1:=heap_setCell (o:=16) (v:=.int .i64 (p:Int)) hb0
   have hb2:=heap_setCell (o:=17) (v:=.int .i64 e) hb1
   have hk:Kept (oneBlk rb) w ((w.setCell ⟨rb,16,none⟩ (.int .i64 (p:Int))).setCell ⟨rb,17,none⟩ (.int .i64 e)):=((Kept.refl (oneBlk rb) w).setCell (a:=⟨rb,16,none⟩) (fun _ => rfl)).setCell (a:=⟨rb,17,none⟩) (fun _ => rfl)
   have hP:Hid (Mov B T w rb X { st with pl:=p,err:=e } ((w.setCell ⟨rb,16,none⟩ (.int .i64 (p:Int))).setCell ⟨rb,17,none⟩ (.int .i64 e)) X.wv):=hid ⟨h.put (hk.mono (fun _ _ e => .inl e)) hb2 (h.ws1 hk) h.wf rfl rfl rfl rfl rfl rfl rfl (fun e9 => absurd e9 he) rfl rfl rfl rfl rfl rfl rfl rfl rfl,hk⟩
   rw [h0] at hb0
   obtain ⟨x0,x1,x2,x3,x4,x5,x6,x7,x8,x9,x10,x15,x16,x17⟩:=rd18 hb0
   have y17:(w.setCell ⟨rb,16,none⟩ (.int .i64 (p:Int))).cell? ⟨rb,17,none⟩ = some (.int .i64 0):=by
    have:=blk_cell (o:=17) hb1 rfl
    rw [this];show some (Value.int .i64 st.err) = _;rw [h0]
   have f16:=blk_frozen hb0 16
   have f17:=blk_frozen hb1 17
   clear x0 x1 x2 x3 x4 x5 x6 x7 x8 x9 x10 x15 hb0 hb1 hb2 hk hg h0 h
   go_enter Tryz.func46,Tryz.ntmps46
   go_wp2
   go_end0
   exact ⟨rfl,hP.out⟩
 · have hg:st.give p e = st:=if_neg h0
   rw [hg]
   obtain ⟨x0,x1,x2,x3,x4,x5,x6,x7,x8,x9,x10,x15,x16,x17⟩:=rd18 hb0
   have hP:Hid (Mov B T w rb X st w X.wv):=hid h.same
   clear x0 x1 x2 x3 x4 x5 x6 x7 x8 x9 x10 x15 x16 hb0 hg h
   have h0b:(st.err == 0) = false:=beq_eq_false_iff_ne.2 h0
   generalize st.err = er at *
   go_enter Tryz.func46,Tryz.ntmps46
   go_wp2
   go_end0
   exact ⟨rfl,hP.out⟩
structure Ahd (w:World) (rb:Nat) (st:RS) (b o n cap:Nat):Prop where
 c0:w.cell? ⟨rb,0,none⟩ = some (.slice (some ⟨b,o,none⟩) (n + 1) cap)
 k:w.cell? ⟨b,o,none⟩ = some (.int .i64 (st.hd.1:Int))
 p:w.cell? ⟨b,o + 1,none⟩ = some (.int .i64 (st.hd.2.1:Int))
 t:w.cell? ⟨b,o + 2,none⟩ = some (.string (strT st.hd.2.2))
 le:n + 1 ≤ cap
 l1:rb < w.heap.size
 l2:b < w.heap.size
theorem RdV.ahd {B rb:Nat} {T:Nat → Nat} {w:World} {X:RX} {st:RS} (h:RdV B T w rb X st):∃ b o n cap,Ahd w rb st b o n cap ∧ X.wv = .slice (some ⟨b,o,none⟩) (n + 1) cap ∧ st.ws.length = n + 1:=by
 obtain ⟨b,o,n,cap,e,hl,h1,h2,h3,x0,x1,x2⟩:=h.word
 exact ⟨b,o,n,cap,⟨by rw [← e];exact (rd18 h.blk).1,x0,x1,x2,h1,blk_lt h.blk,h3⟩,e,hl⟩
set_option maxRecDepth 20000 in
set_option maxHeartbeats 2000000 in
theorem atNC {B rb:Nat} {T:Nat → Nat} {w:World} {X:RX} {st:RS} (h:RdV B T w rb X st) :
 Calls Tryz.prog 95 #[ptr0 rb] w fun r w' => r = .returned (.bool st.atN) ∧ Below w.heap.size w w':=by
 obtain ⟨b,o,n,cap,⟨c0,k,p,t,le,l1,l2⟩,-,-⟩:=h.ahd
 have GK:=hid (fun u => keywordC st.hd.2.2 u)
 obtain ⟨R,hR⟩:∃ R,Hid (st.atN = R):=⟨_,hid rfl⟩
 rw [hR.out]
 unfold RS.atN at hR
 clear h
 generalize st.hd = H at *
 obtain ⟨hk,hp,ht⟩:=H
 dsimp only at k p t GK hR
 generalize kwB ht = kb at *
 generalize strT ht = S at *
 have n1:rb ≠ w.heap.size:=by omega
 have n2:b ≠ w.heap.size:=by omega
 have hal:=hid (al' w (.cells #[.int .i64 (hk:Int),.int .i64 (hp:Int),.string S] 63))
 by_cases h1:hk = 1
 · subst h1
   cases kb
   · obtain rfl:true = R:=hR.out
     clear hR
     go_enter Tryz.func95,Tryz.ntmps95
     go_wp2_with (go_at_call 126;refine (GK.out _).mono ?_;clear GK;rintro e w2 ⟨rfl,hc2⟩;have hc2:=hid (bl_step hal.out hc2))
     go_ret
     exact ⟨rfl,hc2.out⟩
   · obtain rfl:false = R:=hR.out
     clear hR
     go_enter Tryz.func95,Tryz.ntmps95
     go_wp2_with (go_at_call 126;refine (GK.out _).mono ?_;clear GK;rintro e w2 ⟨rfl,hc2⟩;have hc2:=hid (bl_step hal.out hc2))
     go_ret
     exact ⟨rfl,hc2.out⟩
 · have h1b:((hk:Int) == 1) = false:=by rw [beq_eq_false_iff_ne];omega
   obtain rfl:false = R:=by have:=hR.out;rw [decide_eq_false h1,Bool.false_and] at this;exact this
   clear hR h1
   go_enter Tryz.func95,Tryz.ntmps95
   go_wp2_with fail
   go_ret
   exact ⟨rfl,hal.out⟩
set_option maxRecDepth 20000 in
set_option maxHeartbeats 2000000 in
theorem atSC {B rb:Nat} {T:Nat → Nat} {w:World} {X:RX} {st:RS} (h:RdV B T w rb X st) (u:Txt) :
 Calls Tryz.prog 98 #[ptr0 rb,.string (strT u)] w fun r w' => r = .returned (.bool (st.atS u)) ∧ Below w.heap.size w w':=by
 obtain ⟨b,o,n,cap,⟨c0,k,p,t,le,l1,l2⟩,-,-⟩:=h.ahd
 obtain ⟨R,hR⟩:∃ R,Hid (st.atS u = R):=⟨_,hid rfl⟩
 rw [hR.out]
 unfold RS.atS at hR
 clear h
 generalize st.hd = H at *
 obtain ⟨hk,hp,ht⟩:=H
 dsimp only at k p t hR
 have n1:rb ≠ w.heap.size:=by omega
 have n2:b ≠ w.heap.size:=by omega
 have hal:=hid (al' w (.cells #[.int .i64 (hk:Int),.int .i64 (hp:Int),.string (strT ht)] 63))
 by_cases h1:hk = 3
 · subst h1
   have hb:Hid (((strT ht).toList == (strT u).toList) = R):=hid (by
    rw [strT_toL,strT_toL,← hR.out]
    rw [Bool.eq_iff_iff,beq_iff_eq,Bool.and_eq_true,decide_eq_true_iff,decide_eq_true_iff]
    exact ⟨fun h => ⟨rfl,h⟩,fun h => h.2⟩)
   clear hR
   generalize strT ht = S at *
   generalize strT u = U at *
   go_enter Tryz.func98,Tryz.ntmps98
   go_wp2_with fail
   go_ret
   exact ⟨by rw [hb.out];rfl,hal.out⟩
 · have h1b:((hk:Int) == 3) = false:=by rw [beq_eq_false_iff_ne];omega
   obtain rfl:false = R:=by have:=hR.out;rw [decide_eq_false h1,Bool.false_and] at this;exact this
   clear hR h1
   generalize strT ht = S at *
   go_enter Tryz.func98,Tryz.ntmps98
   go_wp2_with fail
   go_ret
   exact ⟨rfl,hal.out⟩
set_option maxRecDepth 20000 in
set_option maxHeartbeats 2000000 in
theorem inAC {B rb:Nat} {T:Nat → Nat} {w:World} {X:RX} {st:RS} (h:RdV B T w rb X st) :
 Calls Tryz.prog 127 #[ptr0 rb] w fun r w' => r = .returned (.bool st.inA) ∧ Below w.heap.size w w':=by
 have G1:=hid (atNC h)
 have G2:=hid (fun u (hu:Below w.heap.size w u) => atSC (h.keep hu) [37])
 have G3:=hid (fun u (hu:Below w.heap.size w u) => atSC (h.keep hu) [124])
 have G4:=hid (fun u (hu:Below w.heap.size w u) => atSC (h.keep hu) [59])
 obtain ⟨R,hR⟩:∃ R,Hid (st.inA = R):=⟨_,hid rfl⟩
 rw [hR.out]
 unfold RS.inA at hR
 rw [show strT [37] = ⟨#[37]⟩ from rfl] at G2
 rw [show strT [124] = ⟨#[124]⟩ from rfl] at G3
 rw [show strT [59] = ⟨#[59]⟩ from rfl] at G4
 generalize st.atN = b1 at *
 generalize st.atS [37] = b2 at *
 generalize st.atS [124] = b3 at *
 generalize st.atS [59] = b4 at *
 clear h
 cases b1 <;> cases b2 <;> cases b3 <;> cases b4
 all_goals
  obtain rfl:=hR.out
  clear hR
  go_enter Tryz.func127,Tryz.ntmps127
  go_wp2_with (first
   | (go_at_call 95;refine G1.out.mono ?_;clear G1;rintro e w1 ⟨rfl,hc⟩;have hc:=hid hc)
   | (go_at_call 98;refine (G2.out _ hc.out).mono ?_;clear G2;rintro e w2 ⟨rfl,hd⟩;have hc:=hid (bl_step hc.out hd))
   | (go_at_call 98;refine (G3.out _ hc.out).mono ?_;clear G3;rintro e w3 ⟨rfl,hd⟩;have hc:=hid (bl_step hc.out hd))
   | (go_at_call 98;refine (G4.out _ hc.out).mono ?_;clear G4;rintro e w4 ⟨rfl,hd⟩;have hc:=hid (bl_step hc.out hd)))
  go_ret
  exact ⟨rfl,hc.out⟩
theorem WsV.tail {T:Nat → Nat} {w:World} {b o n cap:Nat} {ws:List Wd} (h:WsV T w (.slice (some ⟨b,o,none⟩) (n + 1) cap) ws):WsV T w (.slice (some ⟨b,o + 3,none⟩) n (cap - 1)) ws.tail:=by
 obtain ⟨b',o',cap',e,h1,h2,h3,h4⟩:=h
 injection e with e1 e2 e3
 injection e1 with e1
 injection e1 with e1 e4 _
 subst e1 e3 e4
 have hl:ws.tail.length = n:=by rw [List.length_tail];omega
 refine ⟨b,o + 3,cap - 1,by rw [hl],by omega,h2,h3,fun j hj => ?_⟩
 have h5:=h4 (j + 1) (by omega)
 have e5:ws.tail[j] = ws[j + 1]'(by omega):=by rw [List.getElem_tail]
 rw [e5,show o + 3 + j * 3 = o + (j + 1) * 3 by omega]
 exact h5
set_option maxRecDepth 20000 in
set_option maxHeartbeats 4000000 in
theorem takeC {B rb:Nat} {T:Nat → Nat} {w:World} {X:RX} {st:RS} (h:RdV B T w rb X st) (may:Bool) (hm:may = true → st.hd.1 ≠ 0) :
 Calls Tryz.prog 83 #[ptr0 rb,.bool may] w fun r w' => r = .returned (wdA st.hd) ∧ ∃ wv,Mov B T w rb X (st.take may) w' wv:=by
 obtain ⟨b,o,n,cap,⟨c0,k,p,t,le,l1,l2⟩,hwv,hwl⟩:=h.ahd
 obtain ⟨W1,hW1⟩:∃ x,w.alloc (.cells #[.int .i64 0,.int .i64 0,.string ⟨#[]⟩] 63) = x:=⟨_,rfl⟩
 have hz1:W1.heap.size = w.heap.size + 1:=by rw [← hW1];exact World.size_alloc ..
 have hB1:Below w.heap.size w W1:=by rw [← hW1];exact al' w _
 have hr1:W1.heap[w.heap.size]? = some (.cells #[.int .i64 0,.int .i64 0,.string ⟨#[]⟩] 63 (0,0)):=by rw [← hW1];exact heap_new w _
 obtain ⟨W2,hW2⟩:∃ x,W1.alloc (.cells #[.int .i64 (st.hd.1:Int),.int .i64 (st.hd.2.1:Int),.string (strT st.hd.2.2)] 63) = x:=⟨_,rfl⟩
 have hB2:Below W1.heap.size W1 W2:=by rw [← hW2];exact al' W1 _
 have hv2:W2.heap[w.heap.size + 1]? = some (boxW st.hd):=by rw [← hW2,← hz1];exact heap_new W1 _
 have hB:Below w.heap.size w W2:=bl_step hB1 hB2
 have hr2:=hs_keep hr1 hB2
 have h2:=h.keep hB
 have c0a:=keep_cell hB1 c0
 have ka:=keep_cell hB1 k
 have pa:=keep_cell hB1 p
 have ta:=keep_cell hB1 t
 have c0':=keep_cell hB c0
 have n1:rb ≠ w.heap.size + 1:=by omega
 have n2:rb ≠ w.heap.size:=by omega
 cases may with
 | true =>
  have hn2:2 ≤ st.ws.length:=h.wf.two (hm rfl)
  have hn1:1 ≤ n:=by omega
  have hc1:¬ cap = 1:=by omega
  obtain ⟨U,hU⟩:∃ x,W2.setCell ⟨rb,0,none⟩ (.slice (some ⟨b,o + 3,none⟩) n (cap - 1)) = x:=⟨_,rfl⟩
  have hUk:Kept (oneBlk rb) W2 U:=by rw [← hU];exact (Kept.refl (oneBlk rb) W2).setCell (a:=⟨rb,0,none⟩) (fun _ => rfl)
  have hUb:U.heap[rb]? = some (rdO { X with wv:=.slice (some ⟨b,o + 3,none⟩) n (cap - 1) } st.levels st.starts st.pl st.err):=by rw [← hU];exact heap_setCell h2.blk
  have hUr:=hUk.blk hr2 (fun e => n2 (show w.heap.size = rb from e).symm)
  have hUv:=hUk.blk hv2 (fun e => n1 (show w.heap.size + 1 = rb from e).symm)
  have f0:W2.frozen? ⟨rb,0,none⟩ = false:=blk_frozen h2.blk 0
  obtain ⟨⟨q0,q1⟩,⟨q2,q3⟩,⟨q4,q5⟩,q6,q7,q8⟩:=putT3 hUr (.int .i64 (st.hd.1:Int)) (.int .i64 (st.hd.2.1:Int)) (.string (strT st.hd.2.2))
  obtain ⟨F,hF⟩:∃ x,((U.setCell ⟨w.heap.size,0,none⟩ (.int .i64 (st.hd.1:Int))).setCell ⟨w.heap.size,1,none⟩ (.int .i64 (st.hd.2.1:Int))).setCell ⟨w.heap.size,2,none⟩ (.string (strT st.hd.2.2)) = x:=⟨_,rfl⟩
  have hFk:Kept (oneBlk rb) w F:=by
   rw [← hF]
   exact ((((Kept.of_below hB).step hUk (fun _ _ h => h)).setCell (a:=⟨w.heap.size,0,none⟩) (fun h9 => absurd h9 (Nat.lt_irrefl _))).setCell (a:=⟨w.heap.size,1,none⟩) (fun h9 => absurd h9 (Nat.lt_irrefl _))).setCell (a:=⟨w.heap.size,2,none⟩) (fun h9 => absurd h9 (Nat.lt_irrefl _))
  have hFb:F.heap[rb]? = some (rdO { X with wv:=.slice (some ⟨b,o + 3,none⟩) n (cap - 1) } st.levels st.starts st.pl st.err):=by
   rw [← hF,Below.heap_setCell _ _ _ _ n2,Below.heap_setCell _ _ _ _ n2,Below.heap_setCell _ _ _ _ n2]
   exact hUb
  have hws:WsV T F (.slice (some ⟨b,o + 3,none⟩) n (cap - 1)) st.ws.tail:=by
   have:=h.words
   rw [hwv] at this
   exact this.tail.keep (h.chg1 hFk)
  have hP:Hid (∃ wv,Mov B T w rb X (st.take true) F wv):=hid ⟨.slice (some ⟨b,o + 3,none⟩) n (cap - 1),h.put (hFk.mono (fun _ _ e => .inl e)) hFb hws (h.wf.tail hn2) rfl rfl rfl rfl rfl rfl rfl id rfl rfl rfl rfl rfl rfl rfl rfl rfl,hFk⟩
  obtain ⟨v0,v1,v2,-,-⟩:=rd3 hUv
  rw [hF] at q6 q7 q8
  clear h h2 hUk hUb hUr hUv hFk hFb hws hwv hr1 hr2 hv2 hB hB1 hB2 hm
  generalize st.hd = H at *
  obtain ⟨hk,hp,ht⟩:=H
  dsimp only at *
  go_enter Tryz.func83,Tryz.ntmps83
  go_wp2
  refine bodyPost_ret (v:=wdA (hk,hp,ht)) (by simp [results,Tryz.results83,go_sem,q6,q7,q8]) rfl ⟨rfl,?_⟩
  exact hP.out
 | false =>
  have GG:=hid (giveC h2 st.hd.2.1 1 (by decide))
  have hfin:Hid (∀ U,Mov B T W2 rb X (st.give st.hd.2.1 1) U X.wv → U.heap[w.heap.size]? = some (.cells #[.int .i64 0,.int .i64 0,.string ⟨#[]⟩] 63 (0,0)) ∧ U.heap[w.heap.size + 1]? = some (boxW st.hd) ∧ ∃ wv,Mov B T w rb X (st.take false) (((U.setCell ⟨w.heap.size,0,none⟩ (.int .i64 (st.hd.1:Int))).setCell ⟨w.heap.size,1,none⟩ (.int .i64 (st.hd.2.1:Int))).setCell ⟨w.heap.size,2,none⟩ (.string (strT st.hd.2.2))) wv):=hid (fun U hU => by
   refine ⟨hU.kept.blk hr2 (fun e => n2 (show w.heap.size = rb from e).symm),hU.kept.blk hv2 (fun e => n1 (show w.heap.size + 1 = rb from e).symm),X.wv,?_⟩
   have hFk:=((((Kept.of_below hB).step hU.kept (fun _ _ h => h)).setCell (a:=⟨w.heap.size,0,none⟩) (v:=.int .i64 (st.hd.1:Int)) (fun h9 => absurd h9 (Nat.lt_irrefl _))).setCell (a:=⟨w.heap.size,1,none⟩) (v:=.int .i64 (st.hd.2.1:Int)) (fun h9 => absurd h9 (Nat.lt_irrefl _))).setCell (a:=⟨w.heap.size,2,none⟩) (v:=.string (strT st.hd.2.2)) (fun h9 => absurd h9 (Nat.lt_irrefl _))
   refine ⟨h.put (hFk.mono (fun _ _ e => .inl e)) ?_ ?_ ?_ ?_ ?_ ?_ ?_ ?_ ?_ ?_ ?_ rfl rfl rfl rfl rfl rfl rfl rfl rfl,hFk⟩
   · rw [Below.heap_setCell _ _ _ _ n2,Below.heap_setCell _ _ _ _ n2,Below.heap_setCell _ _ _ _ n2]
     exact hU.rd.blk
   · have e9:(st.take false).ws = st.ws:=RS.give_ws st _ _
     rw [e9]
     exact h.ws1 hFk
   · have e9:(st.take false).ws = st.ws:=RS.give_ws st _ _
     rw [e9]
     exact h.wf
   all_goals (unfold RS.take RS.give;rw [if_neg (by decide)];split <;> (try rfl))
   · intro e9;exact absurd (show (1:Int) = 0 from e9) (by decide)
   · exact id)
  obtain ⟨u0,u1,u2,-,-⟩:=rd3 hv2
  clear h h2 hwv hr1 hr2 hv2 hB hB1 hB2 hm c0'
  generalize hX9:X.wv = wv9 at *
  generalize hS9:st.give st.hd.2.1 1 = st9 at *
  generalize hT9:st.take false = st8 at *
  clear hS9 hT9 hX9
  generalize st.hd = H at *
  obtain ⟨hk,hp,ht⟩:=H
  dsimp only at *
  go_enter Tryz.func83,Tryz.ntmps83
  go_wp2_with (go_at_call 46;refine GG.out.mono ?_;clear GG;rintro e U ⟨rfl,hM⟩;obtain ⟨hUr,hUv,hP⟩:=hfin.out U hM;clear hfin hM;have hP:=hid hP;obtain ⟨⟨q0,q1⟩,⟨q2,q3⟩,⟨q4,q5⟩,q6,q7,q8⟩:=putT3 hUr (.int .i64 (hk:Int)) (.int .i64 (hp:Int)) (.string (strT ht));obtain ⟨v0,v1,v2,-,-⟩:=rd3 hUv;clear hUr hUv)
  refine bodyPost_ret (v:=wdA (hk,hp,ht)) (by simp [results,Tryz.results83,go_sem,q6,q7,q8]) rfl ⟨rfl,?_⟩
  exact hP.out
theorem RS.atN_hd {st:RS} (h:st.atN = true):st.hd.1 ≠ 0:=fun e => by
 unfold RS.atN at h
 rw [e] at h
 cases h
theorem RS.atS_hd {st:RS} {t:Txt} (h:st.atS t = true):st.hd.1 ≠ 0:=fun e => by
 unfold RS.atS at h
 rw [e] at h
 cases h
set_option maxRecDepth 20000 in
set_option maxHeartbeats 4000000 in
theorem tkSC {B rb:Nat} {T:Nat → Nat} {w:World} {X:RX} {st:RS} (h:RdV B T w rb X st) (u:Txt) :
 Calls Tryz.prog 86 #[ptr0 rb,.string (strT u)] w fun r w' => r = .returned (.tuple #[]) ∧ ∃ wv,Mov B T w rb X (st.tkS u) w' wv:=by
 have G1:=hid (atSC h u)
 have G2:=hid (fun x (hx:Below w.heap.size w x) => takeC (h.keep hx) (st.atS u) (fun e => RS.atS_hd e))
 have G3:Hid (∀ x,Below w.heap.size w x → ∀ w',(∃ wv,Mov B T x rb X (st.take (st.atS u)) w' wv) → ∃ wv,Mov B T w rb X (st.tkS u) w' wv):=hid (fun x hx w' h9 => by
  obtain ⟨wv,h9⟩:=h9
  exact ⟨wv,h9.below hx⟩)
 clear h
 generalize st.take (st.atS u) = st1 at *
 generalize st.tkS u = st2 at *
 generalize st.atS u = bb at *
 generalize strT u = U at *
 generalize st.hd = H at *
 obtain ⟨hk,hp,ht⟩:=H
 go_enter Tryz.func86,Tryz.ntmps86
 go_wp2_with (first
  | (go_at_call 98;refine G1.out.mono ?_;clear G1;rintro e w1 ⟨rfl,hc⟩;have hc:=hid hc)
  | (go_at_call 83;refine (G2.out _ hc.out).mono ?_;clear G2;rintro e w2 ⟨rfl,hd⟩;have hd:=hid (G3.out _ hc.out _ hd)))
 go_end0
 exact ⟨rfl,hd.out⟩
theorem Mov.res {B rb q:Nat} {T:Nat → Nat} {w W1 x U:World} {X:RX} {st0 st:RS} {wv v0 v1 v2:Value} (h:RdV B T w rb X st0) (hB:Below w.heap.size w W1) (hq:w.heap.size = q) (hx:Below W1.heap.size W1 x) (h9:Mov B (tagT T q 77) x rb X st U wv) :
 Mov B T w rb X st (((U.setCell ⟨q,0,none⟩ v0).setCell ⟨q,1,none⟩ v1).setCell ⟨q,2,none⟩ v2) wv:=by
 subst hq
 have hF:∀ u,Kept (oneBlk w.heap.size) u (((u.setCell ⟨w.heap.size,0,none⟩ v0).setCell ⟨w.heap.size,1,none⟩ v1).setCell ⟨w.heap.size,2,none⟩ v2):=fun u => (((Kept.refl (oneBlk w.heap.size) u).setCell (a:=⟨w.heap.size,0,none⟩) (fun _ => rfl)).setCell (a:=⟨w.heap.size,1,none⟩) (fun _ => rfl)).setCell (a:=⟨w.heap.size,2,none⟩) (fun _ => rfl)
 refine ⟨h9.rd.wrote (hF U) (h.fresh (Nat.le_refl _)),?_⟩
 exact ((Kept.of_below (bl_step hB hx)).step h9.kept (fun _ _ h => h)).step (hF U) (fun k hk e => absurd hk (by rw [show k = w.heap.size from e];exact Nat.lt_irrefl _))
set_option maxRecDepth 20000 in
set_option maxHeartbeats 4000000 in
theorem tkNC {B rb:Nat} {T:Nat → Nat} {w:World} {X:RX} {st:RS} (h:RdV B T w rb X st) :
 Calls Tryz.prog 84 #[ptr0 rb] w fun r w' => r = .returned (wdA st.hd) ∧ ∃ wv,Mov B T w rb X st.tkN w' wv:=by
 obtain ⟨W1,hW1⟩:∃ x,w.alloc (.cells #[.int .i64 0,.int .i64 0,.string ⟨#[]⟩] 63) = x:=⟨_,rfl⟩
 have hz1:W1.heap.size = w.heap.size + 1:=by rw [← hW1];exact World.size_alloc ..
 have hB1:Below w.heap.size w W1:=by rw [← hW1];exact al' w _
 have hr1:W1.heap[w.heap.size]? = some (.cells #[.int .i64 0,.int .i64 0,.string ⟨#[]⟩] 63 (0,0)):=by rw [← hW1];exact heap_new w _
 have hrb:=blk_lt h.blk
 have n2:rb ≠ w.heap.size:=by omega
 obtain ⟨h1,-⟩:=h.aside (q:=w.heap.size) hB1 (Nat.le_refl _) (by omega)
 have G1:=hid (atNC h1)
 have G2:=hid (fun x (hx:Below W1.heap.size W1 x) => takeC (h1.keep hx) st.atN (fun e => RS.atN_hd e))
 have G3:Hid (∀ x,Below W1.heap.size W1 x → ∀ U,(∃ wv,Mov B (tagT T w.heap.size 77) x rb X (st.take st.atN) U wv) → U.heap[w.heap.size]? = some (.cells #[.int .i64 0,.int .i64 0,.string ⟨#[]⟩] 63 (0,0)) ∧ ∃ wv,Mov B T w rb X st.tkN (((U.setCell ⟨w.heap.size,0,none⟩ (.int .i64 (st.hd.1:Int))).setCell ⟨w.heap.size,1,none⟩ (.int .i64 (st.hd.2.1:Int))).setCell ⟨w.heap.size,2,none⟩ (.string (strT st.hd.2.2))) wv):=hid (fun x hx U h9 => by
  obtain ⟨wv,h9⟩:=h9
  exact ⟨h9.kept.blk (hs_keep hr1 hx) (fun e => n2 (show w.heap.size = rb from e).symm),wv,Mov.res h hB1 rfl hx h9⟩)
 clear h h1 hB1 hr1 hz1 hrb n2
 generalize st.take st.atN = st1 at *
 generalize st.tkN = st2 at *
 generalize st.atN = bb at *
 generalize tagT T w.heap.size 77 = T2 at *
 generalize st.hd = H at *
 obtain ⟨hk,hp,ht⟩:=H
 dsimp only at *
 go_enter Tryz.func84,Tryz.ntmps84
 go_wp2_with (first
  | (go_at_call 95;refine G1.out.mono ?_;clear G1;rintro e w1 ⟨rfl,hc⟩;have hc:=hid hc)
  | (go_at_call 83;refine (G2.out _ hc.out).mono ?_;clear G2;rintro e U ⟨rfl,hd⟩;obtain ⟨hUr,hP⟩:=G3.out _ hc.out _ hd;clear hd;have hP:=hid hP;obtain ⟨⟨q0,q1⟩,⟨q2,q3⟩,⟨q4,q5⟩,q6,q7,q8⟩:=putT3 hUr (.int .i64 (hk:Int)) (.int .i64 (hp:Int)) (.string (strT ht));clear hUr G3))
 refine bodyPost_ret (v:=wdA (hk,hp,ht)) (by simp [results,Tryz.results84,go_sem,q6,q7,q8]) rfl ⟨rfl,?_⟩
 exact hP.out
end Go.Proofs.YtbpnioehmohbcaaGreat
namespace Go.Proofs.YtbpnioehmohbcaaGreat
open Go.RowKit Go.Maps Go.Sort
set_option maxRecDepth 20000 in
theorem Tryz.infSt:(Tryz.prog.info? 93).map (fun i => (i.zero,i.size,i.bytes)) = some (some (.agg #[.int .i64 0,.nilFunc]),2,16):=by kernel_rfl
def tagV (T:Nat → Nat) (v:Value) (i:Nat):Nat → Nat:=fun b => if v.ownBlock = some b then i else T b
set_option maxRecDepth 20000 in
theorem own_appI {tS ty tE:TypeId} {i0:TypeInfo} {z:Value} {sz bytes:Nat} (ht:Tryz.prog.underlying tS = some (.slice tE)) (hi:Tryz.prog.info? tE = some i0) (hz:i0.zero = some z) (hs:i0.size = sz) (hb:i0.bytes = bytes) (hzs:z.cells.size = sz) (hsz:0 < sz)
 {w:World} {B i n:Nat} {T:Nat → Nat} {v:Value} {xs:List Value} (h:OwnI w B T i tE sz v n xs) (ys:Array Value) (hys:ys.size = sz) (h1:∀ u ∈ ys.toList,u.oneCell' = true) (hn:n ≤ 100000) (hbn:bytes ≤ 1000) (hB:B ≤ w.heap.size) (hfr:∀ b,w.heap.size ≤ b → T b = 0) :
 ∃ a c w',(Builtin.append_ #[tS,tS] ty #[v,.slice (some ⟨w.heap.size,0,none⟩) 1 1]).run Tryz.prog (w.alloc (.cells ys tE)) = .ok (.slice a (n + 1) c) w' ∧ OwnI w' B (tagV T (.slice a (n + 1) c) i) i tE sz (.slice a (n + 1) c) (n + 1) (xs ++ ys.toList) ∧ Kept (fun b => v.ownBlock = some b) w w' ∧
  (∀ b,b < w.heap.size → tagV T (.slice a (n + 1) c) i b = T b) ∧ (∀ b,tagV T (.slice a (n + 1) c) i b ≠ 0 → T b ≠ 0 ∨ B ≤ b ∧ b < w'.heap.size):=by
 have hal:=al' w (.cells ys tE)
 have hO:=own_below h.1 hal
 obtain ⟨v',w',hr,hO',hg,-,hat⟩:=run_append_own_at (P:=Tryz.prog) (w:=w.alloc (.cells ys tE)) B tS ty tE i0 z sz bytes ht hi hz hs hb hzs hsz v n xs hO ⟨w.heap.size,0,none⟩ 1 1 ys.toList (by rw [Array.length_toList,hys,Nat.one_mul]) (fun j u hj => by
  have ea:(⟨w.heap.size,0,none⟩:Addr).add j = ⟨w.heap.size,j,none⟩:=by rw [Go.WideShapes.add_plain,Nat.zero_add]
  rw [ea]
  exact blk_cell (heap_new w _) (by rw [← hj];simp)) h1 (by unfold maxLen;omega) (by have:=Nat.mul_le_mul (show n + 1 ≤ 100001 by omega) hbn;omega) (Nat.le_trans hB hal.size)
 obtain ⟨a,c,rfl⟩:=own_shape hO'
 have hsz1:w.heap.size < (w.alloc (.cells ys tE)).heap.size:=by rw [World.size_alloc];omega
 have hk:Kept (fun b => v.ownBlock = some b) w w':=(Kept.of_below hal).step (Kept.of_grown hg) (fun _ _ h => h)
 have hold:∀ b,b < w.heap.size → tagV T (.slice a (n + 1) c) i b = T b:=fun b hb9 => by
  unfold tagV
  split
  · rename_i e
    rcases hat with h9 | h9
    · rw [e] at h9
      exact (h.2 b h9.symm).symm
    · rw [e] at h9
      injection h9 with h9
      omega
  · rfl
 refine ⟨a,c,w',hr,⟨hO',fun b e => if_pos e⟩,hk,hold,fun b hn9 => ?_⟩
 rcases Nat.lt_or_ge b w.heap.size with h9 | h9
 · rw [hold b h9] at hn9
   exact .inl hn9
 · refine .inr ⟨Nat.le_trans hB h9,?_⟩
   unfold tagV at hn9
   split at hn9
   · rename_i e
     exact (hO'.lt b e).2
   · exact absurd (hfr b h9) hn9
theorem zip_snoc {α β:Type} (l:List α) (m:List β) (a:α) (b:β) (h:m.length = l.length):(l ++ [a]).zip (m ++ [b]) = l.zip m ++ [(a,b)]:=by rw [List.zip_append h.symm];rfl
theorem one_R (t:Txt) (b:Bool) {v:Value} (h:v.oneCell' = true):∀ u ∈ (#[.string (strT t),v,.bool b]:Array Value).toList,u.oneCell' = true:=fun u hu => by
 simp at hu
 rcases hu with rfl | rfl | rfl
 · rfl
 · exact h
 · rfl
theorem one_S (n:Int) {v:Value} (h:v.oneCell' = true):∀ u ∈ (#[.int .i64 n,v]:Array Value).toList,u.oneCell' = true:=fun u hu => by
 simp at hu
 rcases hu with rfl | rfl
 · rfl
 · exact h
theorem one_W (x:Wd):∀ u ∈ (#[.int .i64 (x.1:Int),.int .i64 (x.2.1:Int),.string (strT x.2.2)]:Array Value).toList,u.oneCell' = true:=fun u hu => by
 simp at hu
 rcases hu with rfl | rfl | rfl <;> rfl
set_option maxRecDepth 20000 in
theorem RdV.app_rules {B rb:Nat} {T:Nat → Nat} {w:World} {X:RX} {st:RS} (h:RdV B T w rb X st) (r:Rl) (v:Value) (hv:RuC T w st.err v r.re) (h1v:v.oneCell' = true) (hn:st.rules.length ≤ 100000) :
 ∃ a c w',(Builtin.append_ #[22,22] 22 #[X.rv,.slice (some ⟨w.heap.size,0,none⟩) 1 1]).run Tryz.prog (w.alloc (.cells #[.string (strT r.name),v,.bool r.skip] 50)) = .ok (.slice a (st.rules.length + 1) c) w' ∧ w'.heap[rb]? = w.heap[rb]? ∧
  ∃ T' X',RdV B T' (w'.setCell ⟨rb,1,none⟩ (.slice a (st.rules.length + 1) c)) rb X' (st.addR r) ∧ Chg T T' w (w'.setCell ⟨rb,1,none⟩ (.slice a (st.rules.length + 1) c)):=by
 obtain ⟨i0,hi0,za,zb,zc⟩:=info_parts Tryz.infRl
 obtain ⟨a,c,w',hrun,hO,hk,hold,hown⟩:=own_appI (tS:=22) (ty:=22) Tryz.underlying22 hi0 za zb zc rfl (by decide) h.rules #[.string (strT r.name),v,.bool r.skip] rfl (one_R r.name r.skip h1v) hn (by decide) h.base (fun b hb => h.fresh hb)
 have hrb:=blk_lt h.blk
 have hnr:∀ b,X.rv.ownBlock = some b → T b = 1:=h.rules.2
 have hbk:w'.heap[rb]? = w.heap[rb]?:=hk.block rb hrb (fun e => by have:=hnr rb e;rw [h.rt] at this;cases this)
 refine ⟨a,c,w',hrun,hbk,tagV T (.slice a (st.rules.length + 1) c) 1,{ X with rv:=.slice a (st.rules.length + 1) c,rl:=X.rl ++ [v] },?_⟩
 generalize hTT:tagV T (.slice a (st.rules.length + 1) c) 1 = T' at *
 have hrt:T' rb = 99:=(hold rb hrb).trans h.rt
 have hkF:Kept (fun b => X.rv.ownBlock = some b ∨ b = rb) w (w'.setCell ⟨rb,1,none⟩ (.slice a (st.rules.length + 1) c)):=(hk.mono (fun _ _ e => .inl e)).setCell (fun _ => .inr rfl)
 have hF:∀ j,j ≠ 99 → j ≠ 1 → ∀ b,X.rv.ownBlock = some b ∨ b = rb → T b ≠ j:=fun j h9 h8 b e => by
  rcases e with e | e
  · rw [hnr b e];exact h8.symm
  · rw [e,h.rt];exact h9.symm
 have hc:Chg T T' w (w'.setCell ⟨rb,1,none⟩ (.slice a (st.rules.length + 1) c)):=⟨hkF.mono (fun b _ e => by
  rcases e with e | e
  · rw [hnr b e];decide
  · rw [show b = rb from e,h.rt];decide),hold⟩
 have hsz:(w'.setCell ⟨rb,1,none⟩ (.slice a (st.rules.length + 1) c)).heap.size = w'.heap.size:=by simp
 have hown2:(w'.setCell ⟨rb,1,none⟩ (.slice a (st.rules.length + 1) c)).ownsRow B 50 3 (.slice a (st.rules.length + 1) c) (st.rules.length + 1) _:=own_set hO.1 (fun e => by have:=hO.2 rb e;rw [hrt] at this;cases this)
 have hblk:(w'.setCell ⟨rb,1,none⟩ (.slice a (st.rules.length + 1) c)).heap[rb]? = _:=heap_setCell (hbk.trans h.blk)
 refine ⟨⟨hblk,hrt,fun b hn9 => ?_,by rw [hsz];exact Nat.le_trans h.base hk.size,h.words.keep hc,h.wf,?_,(by show (X.rl ++ [v]).length = (st.rules ++ [r]).length;rw [List.length_append,List.length_append,h.rlen];rfl),(fun x hx => by
  have hx:x ∈ (st.rules ++ [r]).zip (X.rl ++ [v]):=hx
  rw [zip_snoc _ _ _ _ h.rlen,List.mem_append,List.mem_singleton] at hx
  rcases hx with hx | rfl
  · exact (h.rre x hx).keep hc
  · exact hv.keep hc),h.nonts.kept hkF (hF 2 (by decide) (by decide)) hold,h.prods.kept hkF (hF 4 (by decide) (by decide)) hold,h.skips.kept hkF (hF 8 (by decide) (by decide)) hold,h.terms.kept hkF (hF 9 (by decide) (by decide)) hold,h.nons.kept hkF (hF 10 (by decide) (by decide)) hold,h.later.kept hkF (hF 15 (by decide) (by decide)) hold,h.flen,(fun x hx => (h.fst x hx).keep hc)⟩,hc⟩
 · rw [hsz]
   rcases hown b hn9 with h9 | h9
   · exact ⟨(h.own b h9).1,Nat.lt_of_lt_of_le (h.own b h9).2 hk.size⟩
   · exact h9
 · have e1:((st.rules ++ [r]).zip (X.rl ++ [v])).flatMap (fun x => rlV x.1 x.2) = (st.rules.zip X.rl).flatMap (fun x => rlV x.1 x.2) ++ [.string (strT r.name),v,.bool r.skip]:=by rw [zip_snoc _ _ _ _ h.rlen,List.flatMap_append,List.flatMap_singleton];rfl
   have e2:(st.rules ++ [r]).length = st.rules.length + 1:=by rw [List.length_append];rfl
   refine ⟨?_,hO.2⟩
   show World.ownsRow _ _ _ _ _ (st.rules ++ [r]).length (((st.rules ++ [r]).zip (X.rl ++ [v])).flatMap (fun x => rlV x.1 x.2))
   rw [e1,e2]
   exact hown2
set_option maxRecDepth 20000 in
theorem RdV.app_nonts {B rb:Nat} {T:Nat → Nat} {w:World} {X:RX} {st:RS} (h:RdV B T w rb X st) (t:Txt) (hn:st.nonts.length ≤ 100000) :
 ∃ a c w',(Builtin.append_ #[23,23] 23 #[X.nv,.slice (some ⟨w.heap.size,0,none⟩) 1 1]).run Tryz.prog (w.alloc (.cells #[.string (strT t)] 9)) = .ok (.slice a (st.nonts.length + 1) c) w' ∧ w'.heap[rb]? = w.heap[rb]? ∧
  ∃ T' X',RdV B T' (w'.setCell ⟨rb,2,none⟩ (.slice a (st.nonts.length + 1) c)) rb X' (st.addN t) ∧ Chg T T' w (w'.setCell ⟨rb,2,none⟩ (.slice a (st.nonts.length + 1) c)):=by
 obtain ⟨i0,hi0,za,zb,zc⟩:=info_parts Tryz.infoTx
 obtain ⟨a,c,w',hrun,hO,hk,hold,hown⟩:=own_appI (tS:=23) (ty:=23) Tryz.underlying23 hi0 za zb zc rfl (by decide) h.nonts #[.string (strT t)] rfl (fun u hu => by simp at hu;rw [hu];rfl) hn (by decide) h.base (fun b hb => h.fresh hb)
 have hrb:=blk_lt h.blk
 have hnr:∀ b,X.nv.ownBlock = some b → T b = 2:=h.nonts.2
 have hbk:w'.heap[rb]? = w.heap[rb]?:=hk.block rb hrb (fun e => by have:=hnr rb e;rw [h.rt] at this;cases this)
 refine ⟨a,c,w',hrun,hbk,tagV T (.slice a (st.nonts.length + 1) c) 2,{ X with nv:=.slice a (st.nonts.length + 1) c },?_⟩
 generalize hTT:tagV T (.slice a (st.nonts.length + 1) c) 2 = T' at *
 have hrt:T' rb = 99:=(hold rb hrb).trans h.rt
 have hkF:Kept (fun b => X.nv.ownBlock = some b ∨ b = rb) w (w'.setCell ⟨rb,2,none⟩ (.slice a (st.nonts.length + 1) c)):=(hk.mono (fun _ _ e => .inl e)).setCell (fun _ => .inr rfl)
 have hF:∀ j,j ≠ 99 → j ≠ 2 → ∀ b,X.nv.ownBlock = some b ∨ b = rb → T b ≠ j:=fun j h9 h8 b e => by
  rcases e with e | e
  · rw [hnr b e];exact h8.symm
  · rw [e,h.rt];exact h9.symm
 have hc:Chg T T' w (w'.setCell ⟨rb,2,none⟩ (.slice a (st.nonts.length + 1) c)):=⟨hkF.mono (fun b _ e => by
  rcases e with e | e
  · rw [hnr b e];decide
  · rw [show b = rb from e,h.rt];decide),hold⟩
 have hsz:(w'.setCell ⟨rb,2,none⟩ (.slice a (st.nonts.length + 1) c)).heap.size = w'.heap.size:=by simp
 have hown2:(w'.setCell ⟨rb,2,none⟩ (.slice a (st.nonts.length + 1) c)).ownsRow B 9 1 (.slice a (st.nonts.length + 1) c) (st.nonts.length + 1) _:=own_set hO.1 (fun e => by have:=hO.2 rb e;rw [hrt] at this;cases this)
 have hblk:(w'.setCell ⟨rb,2,none⟩ (.slice a (st.nonts.length + 1) c)).heap[rb]? = _:=heap_setCell (hbk.trans h.blk)
 refine ⟨⟨hblk,hrt,fun b hn9 => ?_,by rw [hsz];exact Nat.le_trans h.base hk.size,h.words.keep hc,h.wf,h.rules.kept hkF (hF 1 (by decide) (by decide)) hold,h.rlen,(fun x hx => (h.rre x hx).keep hc),?_,h.prods.kept hkF (hF 4 (by decide) (by decide)) hold,h.skips.kept hkF (hF 8 (by decide) (by decide)) hold,h.terms.kept hkF (hF 9 (by decide) (by decide)) hold,h.nons.kept hkF (hF 10 (by decide) (by decide)) hold,h.later.kept hkF (hF 15 (by decide) (by decide)) hold,h.flen,(fun x hx => (h.fst x hx).keep hc)⟩,hc⟩
 · rw [hsz]
   rcases hown b hn9 with h9 | h9
   · exact ⟨(h.own b h9).1,Nat.lt_of_lt_of_le (h.own b h9).2 hk.size⟩
   · exact h9
 · have e1:(st.nonts ++ [t]).flatMap csT = st.nonts.flatMap csT ++ [.string (strT t)]:=by rw [List.flatMap_append,List.flatMap_singleton];rfl
   have e2:(st.nonts ++ [t]).length = st.nonts.length + 1:=by rw [List.length_append];rfl
   refine ⟨?_,hO.2⟩
   show World.ownsRow _ _ _ _ _ (st.nonts ++ [t]).length ((st.nonts ++ [t]).flatMap csT)
   rw [e1,e2]
   exact hown2
set_option maxRecDepth 20000 in
theorem RdV.app_prods {B rb:Nat} {T:Nat → Nat} {w:World} {X:RX} {st:RS} (h:RdV B T w rb X st) (_:True) (hn:st.prods.length ≤ 100000) :
 ∃ a c w',(Builtin.append_ #[25,25] 25 #[X.pv,.slice (some ⟨w.heap.size,0,none⟩) 1 1]).run Tryz.prog (w.alloc (.cells #[.int .i64 (st.nonts.length:Int),.slice none 0 0,.int .i64 0] 52)) = .ok (.slice a (st.prods.length + 1) c) w' ∧ w'.heap[rb]? = w.heap[rb]? ∧
  ∃ T' X',RdV B T' (w'.setCell ⟨rb,4,none⟩ (.slice a (st.prods.length + 1) c)) rb X' (st.addP) ∧ Chg T T' w (w'.setCell ⟨rb,4,none⟩ (.slice a (st.prods.length + 1) c)):=by
 obtain ⟨i0,hi0,za,zb,zc⟩:=info_parts Tryz.infPd
 obtain ⟨a,c,w',hrun,hO,hk,hold,hown⟩:=own_appI (tS:=25) (ty:=25) Tryz.underlying25 hi0 za zb zc rfl (by decide) h.prods #[.int .i64 (st.nonts.length:Int),.slice none 0 0,.int .i64 0] rfl (fun u hu => by simp at hu;rcases hu with rfl | rfl | rfl <;> rfl) hn (by decide) h.base (fun b hb => h.fresh hb)
 have hrb:=blk_lt h.blk
 have hnr:∀ b,X.pv.ownBlock = some b → T b = 4:=h.prods.2
 have hbk:w'.heap[rb]? = w.heap[rb]?:=hk.block rb hrb (fun e => by have:=hnr rb e;rw [h.rt] at this;cases this)
 refine ⟨a,c,w',hrun,hbk,tagV T (.slice a (st.prods.length + 1) c) 4,{ X with pv:=.slice a (st.prods.length + 1) c },?_⟩
 generalize hTT:tagV T (.slice a (st.prods.length + 1) c) 4 = T' at *
 have hrt:T' rb = 99:=(hold rb hrb).trans h.rt
 have hkF:Kept (fun b => X.pv.ownBlock = some b ∨ b = rb) w (w'.setCell ⟨rb,4,none⟩ (.slice a (st.prods.length + 1) c)):=(hk.mono (fun _ _ e => .inl e)).setCell (fun _ => .inr rfl)
 have hF:∀ j,j ≠ 99 → j ≠ 4 → ∀ b,X.pv.ownBlock = some b ∨ b = rb → T b ≠ j:=fun j h9 h8 b e => by
  rcases e with e | e
  · rw [hnr b e];exact h8.symm
  · rw [e,h.rt];exact h9.symm
 have hc:Chg T T' w (w'.setCell ⟨rb,4,none⟩ (.slice a (st.prods.length + 1) c)):=⟨hkF.mono (fun b _ e => by
  rcases e with e | e
  · rw [hnr b e];decide
  · rw [show b = rb from e,h.rt];decide),hold⟩
 have hsz:(w'.setCell ⟨rb,4,none⟩ (.slice a (st.prods.length + 1) c)).heap.size = w'.heap.size:=by simp
 have hown2:(w'.setCell ⟨rb,4,none⟩ (.slice a (st.prods.length + 1) c)).ownsRow B 52 3 (.slice a (st.prods.length + 1) c) (st.prods.length + 1) _:=own_set hO.1 (fun e => by have:=hO.2 rb e;rw [hrt] at this;cases this)
 have hblk:(w'.setCell ⟨rb,4,none⟩ (.slice a (st.prods.length + 1) c)).heap[rb]? = _:=heap_setCell (hbk.trans h.blk)
 refine ⟨⟨hblk,hrt,fun b hn9 => ?_,by rw [hsz];exact Nat.le_trans h.base hk.size,h.words.keep hc,h.wf,h.rules.kept hkF (hF 1 (by decide) (by decide)) hold,h.rlen,(fun x hx => (h.rre x hx).keep hc),h.nonts.kept hkF (hF 2 (by decide) (by decide)) hold,?_,h.skips.kept hkF (hF 8 (by decide) (by decide)) hold,h.terms.kept hkF (hF 9 (by decide) (by decide)) hold,h.nons.kept hkF (hF 10 (by decide) (by decide)) hold,h.later.kept hkF (hF 15 (by decide) (by decide)) hold,h.flen,(fun x hx => (h.fst x hx).keep hc)⟩,hc⟩
 · rw [hsz]
   rcases hown b hn9 with h9 | h9
   · exact ⟨(h.own b h9).1,Nat.lt_of_lt_of_le (h.own b h9).2 hk.size⟩
   · exact h9
 · have e1:(st.prods ++ [st.nonts.length]).flatMap pdV = st.prods.flatMap pdV ++ [.int .i64 (st.nonts.length:Int),.slice none 0 0,.int .i64 0]:=by rw [List.flatMap_append,List.flatMap_singleton];rfl
   have e2:(st.prods ++ [st.nonts.length]).length = st.prods.length + 1:=by rw [List.length_append];rfl
   refine ⟨?_,hO.2⟩
   show World.ownsRow _ _ _ _ _ (st.prods ++ [st.nonts.length]).length ((st.prods ++ [st.nonts.length]).flatMap pdV)
   rw [e1,e2]
   exact hown2
set_option maxRecDepth 20000 in
theorem RdV.app_skips {B rb:Nat} {T:Nat → Nat} {w:World} {X:RX} {st:RS} (h:RdV B T w rb X st) (x:Wd) (hn:st.skips.length ≤ 100000) :
 ∃ a c w',(Builtin.append_ #[59,59] 59 #[X.sk,.slice (some ⟨w.heap.size,0,none⟩) 1 1]).run Tryz.prog (w.alloc (.cells #[.int .i64 (x.1:Int),.int .i64 (x.2.1:Int),.string (strT x.2.2)] 63)) = .ok (.slice a (st.skips.length + 1) c) w' ∧ w'.heap[rb]? = w.heap[rb]? ∧
  ∃ T' X',RdV B T' (w'.setCell ⟨rb,8,none⟩ (.slice a (st.skips.length + 1) c)) rb X' (st.addW x true) ∧ Chg T T' w (w'.setCell ⟨rb,8,none⟩ (.slice a (st.skips.length + 1) c)):=by
 obtain ⟨i0,hi0,za,zb,zc⟩:=info_parts Tryz.infoWd
 obtain ⟨a,c,w',hrun,hO,hk,hold,hown⟩:=own_appI (tS:=59) (ty:=59) Tryz.underlying59 hi0 za zb zc rfl (by decide) h.skips #[.int .i64 (x.1:Int),.int .i64 (x.2.1:Int),.string (strT x.2.2)] rfl (one_W x) hn (by decide) h.base (fun b hb => h.fresh hb)
 have hrb:=blk_lt h.blk
 have hnr:∀ b,X.sk.ownBlock = some b → T b = 8:=h.skips.2
 have hbk:w'.heap[rb]? = w.heap[rb]?:=hk.block rb hrb (fun e => by have:=hnr rb e;rw [h.rt] at this;cases this)
 refine ⟨a,c,w',hrun,hbk,tagV T (.slice a (st.skips.length + 1) c) 8,{ X with sk:=.slice a (st.skips.length + 1) c },?_⟩
 generalize hTT:tagV T (.slice a (st.skips.length + 1) c) 8 = T' at *
 have hrt:T' rb = 99:=(hold rb hrb).trans h.rt
 have hkF:Kept (fun b => X.sk.ownBlock = some b ∨ b = rb) w (w'.setCell ⟨rb,8,none⟩ (.slice a (st.skips.length + 1) c)):=(hk.mono (fun _ _ e => .inl e)).setCell (fun _ => .inr rfl)
 have hF:∀ j,j ≠ 99 → j ≠ 8 → ∀ b,X.sk.ownBlock = some b ∨ b = rb → T b ≠ j:=fun j h9 h8 b e => by
  rcases e with e | e
  · rw [hnr b e];exact h8.symm
  · rw [e,h.rt];exact h9.symm
 have hc:Chg T T' w (w'.setCell ⟨rb,8,none⟩ (.slice a (st.skips.length + 1) c)):=⟨hkF.mono (fun b _ e => by
  rcases e with e | e
  · rw [hnr b e];decide
  · rw [show b = rb from e,h.rt];decide),hold⟩
 have hsz:(w'.setCell ⟨rb,8,none⟩ (.slice a (st.skips.length + 1) c)).heap.size = w'.heap.size:=by simp
 have hown2:(w'.setCell ⟨rb,8,none⟩ (.slice a (st.skips.length + 1) c)).ownsRow B 63 3 (.slice a (st.skips.length + 1) c) (st.skips.length + 1) _:=own_set hO.1 (fun e => by have:=hO.2 rb e;rw [hrt] at this;cases this)
 have hblk:(w'.setCell ⟨rb,8,none⟩ (.slice a (st.skips.length + 1) c)).heap[rb]? = _:=heap_setCell (hbk.trans h.blk)
 refine ⟨⟨hblk,hrt,fun b hn9 => ?_,by rw [hsz];exact Nat.le_trans h.base hk.size,h.words.keep hc,h.wf,h.rules.kept hkF (hF 1 (by decide) (by decide)) hold,h.rlen,(fun x hx => (h.rre x hx).keep hc),h.nonts.kept hkF (hF 2 (by decide) (by decide)) hold,h.prods.kept hkF (hF 4 (by decide) (by decide)) hold,?_,h.terms.kept hkF (hF 9 (by decide) (by decide)) hold,h.nons.kept hkF (hF 10 (by decide) (by decide)) hold,h.later.kept hkF (hF 15 (by decide) (by decide)) hold,h.flen,(fun x hx => (h.fst x hx).keep hc)⟩,hc⟩
 · rw [hsz]
   rcases hown b hn9 with h9 | h9
   · exact ⟨(h.own b h9).1,Nat.lt_of_lt_of_le (h.own b h9).2 hk.size⟩
   · exact h9
 · have e1:(st.skips ++ [x]).flatMap wdV = st.skips.flatMap wdV ++ [.int .i64 (x.1:Int),.int .i64 (x.2.1:Int),.string (strT x.2.2)]:=by rw [List.flatMap_append,List.flatMap_singleton];rfl
   have e2:(st.skips ++ [x]).length = st.skips.length + 1:=by rw [List.length_append];rfl
   refine ⟨?_,hO.2⟩
   show World.ownsRow _ _ _ _ _ (st.skips ++ [x]).length ((st.skips ++ [x]).flatMap wdV)
   rw [e1,e2]
   exact hown2
set_option maxRecDepth 20000 in
theorem RdV.app_terms {B rb:Nat} {T:Nat → Nat} {w:World} {X:RX} {st:RS} (h:RdV B T w rb X st) (x:Wd) (hn:st.terms.length ≤ 100000) :
 ∃ a c w',(Builtin.append_ #[59,59] 59 #[X.te,.slice (some ⟨w.heap.size,0,none⟩) 1 1]).run Tryz.prog (w.alloc (.cells #[.int .i64 (x.1:Int),.int .i64 (x.2.1:Int),.string (strT x.2.2)] 63)) = .ok (.slice a (st.terms.length + 1) c) w' ∧ w'.heap[rb]? = w.heap[rb]? ∧
  ∃ T' X',RdV B T' (w'.setCell ⟨rb,9,none⟩ (.slice a (st.terms.length + 1) c)) rb X' (st.addW x false) ∧ Chg T T' w (w'.setCell ⟨rb,9,none⟩ (.slice a (st.terms.length + 1) c)):=by
 obtain ⟨i0,hi0,za,zb,zc⟩:=info_parts Tryz.infoWd
 obtain ⟨a,c,w',hrun,hO,hk,hold,hown⟩:=own_appI (tS:=59) (ty:=59) Tryz.underlying59 hi0 za zb zc rfl (by decide) h.terms #[.int .i64 (x.1:Int),.int .i64 (x.2.1:Int),.string (strT x.2.2)] rfl (one_W x) hn (by decide) h.base (fun b hb => h.fresh hb)
 have hrb:=blk_lt h.blk
 have hnr:∀ b,X.te.ownBlock = some b → T b = 9:=h.terms.2
 have hbk:w'.heap[rb]? = w.heap[rb]?:=hk.block rb hrb (fun e => by have:=hnr rb e;rw [h.rt] at this;cases this)
 refine ⟨a,c,w',hrun,hbk,tagV T (.slice a (st.terms.length + 1) c) 9,{ X with te:=.slice a (st.terms.length + 1) c },?_⟩
 generalize hTT:tagV T (.slice a (st.terms.length + 1) c) 9 = T' at *
 have hrt:T' rb = 99:=(hold rb hrb).trans h.rt
 have hkF:Kept (fun b => X.te.ownBlock = some b ∨ b = rb) w (w'.setCell ⟨rb,9,none⟩ (.slice a (st.terms.length + 1) c)):=(hk.mono (fun _ _ e => .inl e)).setCell (fun _ => .inr rfl)
 have hF:∀ j,j ≠ 99 → j ≠ 9 → ∀ b,X.te.ownBlock = some b ∨ b = rb → T b ≠ j:=fun j h9 h8 b e => by
  rcases e with e | e
  · rw [hnr b e];exact h8.symm
  · rw [e,h.rt];exact h9.symm
 have hc:Chg T T' w (w'.setCell ⟨rb,9,none⟩ (.slice a (st.terms.length + 1) c)):=⟨hkF.mono (fun b _ e => by
  rcases e with e | e
  · rw [hnr b e];decide
  · rw [show b = rb from e,h.rt];decide),hold⟩
 have hsz:(w'.setCell ⟨rb,9,none⟩ (.slice a (st.terms.length + 1) c)).heap.size = w'.heap.size:=by simp
 have hown2:(w'.setCell ⟨rb,9,none⟩ (.slice a (st.terms.length + 1) c)).ownsRow B 63 3 (.slice a (st.terms.length + 1) c) (st.terms.length + 1) _:=own_set hO.1 (fun e => by have:=hO.2 rb e;rw [hrt] at this;cases this)
 have hblk:(w'.setCell ⟨rb,9,none⟩ (.slice a (st.terms.length + 1) c)).heap[rb]? = _:=heap_setCell (hbk.trans h.blk)
 refine ⟨⟨hblk,hrt,fun b hn9 => ?_,by rw [hsz];exact Nat.le_trans h.base hk.size,h.words.keep hc,h.wf,h.rules.kept hkF (hF 1 (by decide) (by decide)) hold,h.rlen,(fun x hx => (h.rre x hx).keep hc),h.nonts.kept hkF (hF 2 (by decide) (by decide)) hold,h.prods.kept hkF (hF 4 (by decide) (by decide)) hold,h.skips.kept hkF (hF 8 (by decide) (by decide)) hold,?_,h.nons.kept hkF (hF 10 (by decide) (by decide)) hold,h.later.kept hkF (hF 15 (by decide) (by decide)) hold,h.flen,(fun x hx => (h.fst x hx).keep hc)⟩,hc⟩
 · rw [hsz]
   rcases hown b hn9 with h9 | h9
   · exact ⟨(h.own b h9).1,Nat.lt_of_lt_of_le (h.own b h9).2 hk.size⟩
   · exact h9
 · have e1:(st.terms ++ [x]).flatMap wdV = st.terms.flatMap wdV ++ [.int .i64 (x.1:Int),.int .i64 (x.2.1:Int),.string (strT x.2.2)]:=by rw [List.flatMap_append,List.flatMap_singleton];rfl
   have e2:(st.terms ++ [x]).length = st.terms.length + 1:=by rw [List.length_append];rfl
   refine ⟨?_,hO.2⟩
   show World.ownsRow _ _ _ _ _ (st.terms ++ [x]).length ((st.terms ++ [x]).flatMap wdV)
   rw [e1,e2]
   exact hown2
set_option maxRecDepth 20000 in
theorem RdV.app_nons {B rb:Nat} {T:Nat → Nat} {w:World} {X:RX} {st:RS} (h:RdV B T w rb X st) (x:Wd) (hn:st.nons.length ≤ 100000) :
 ∃ a c w',(Builtin.append_ #[59,59] 59 #[X.no,.slice (some ⟨w.heap.size,0,none⟩) 1 1]).run Tryz.prog (w.alloc (.cells #[.int .i64 (x.1:Int),.int .i64 (x.2.1:Int),.string (strT x.2.2)] 63)) = .ok (.slice a (st.nons.length + 1) c) w' ∧ w'.heap[rb]? = w.heap[rb]? ∧
  ∃ T' X',RdV B T' (w'.setCell ⟨rb,10,none⟩ (.slice a (st.nons.length + 1) c)) rb X' (st.addO x) ∧ Chg T T' w (w'.setCell ⟨rb,10,none⟩ (.slice a (st.nons.length + 1) c)):=by
 obtain ⟨i0,hi0,za,zb,zc⟩:=info_parts Tryz.infoWd
 obtain ⟨a,c,w',hrun,hO,hk,hold,hown⟩:=own_appI (tS:=59) (ty:=59) Tryz.underlying59 hi0 za zb zc rfl (by decide) h.nons #[.int .i64 (x.1:Int),.int .i64 (x.2.1:Int),.string (strT x.2.2)] rfl (one_W x) hn (by decide) h.base (fun b hb => h.fresh hb)
 have hrb:=blk_lt h.blk
 have hnr:∀ b,X.no.ownBlock = some b → T b = 10:=h.nons.2
 have hbk:w'.heap[rb]? = w.heap[rb]?:=hk.block rb hrb (fun e => by have:=hnr rb e;rw [h.rt] at this;cases this)
 refine ⟨a,c,w',hrun,hbk,tagV T (.slice a (st.nons.length + 1) c) 10,{ X with no:=.slice a (st.nons.length + 1) c },?_⟩
 generalize hTT:tagV T (.slice a (st.nons.length + 1) c) 10 = T' at *
 have hrt:T' rb = 99:=(hold rb hrb).trans h.rt
 have hkF:Kept (fun b => X.no.ownBlock = some b ∨ b = rb) w (w'.setCell ⟨rb,10,none⟩ (.slice a (st.nons.length + 1) c)):=(hk.mono (fun _ _ e => .inl e)).setCell (fun _ => .inr rfl)
 have hF:∀ j,j ≠ 99 → j ≠ 10 → ∀ b,X.no.ownBlock = some b ∨ b = rb → T b ≠ j:=fun j h9 h8 b e => by
  rcases e with e | e
  · rw [hnr b e];exact h8.symm
  · rw [e,h.rt];exact h9.symm
 have hc:Chg T T' w (w'.setCell ⟨rb,10,none⟩ (.slice a (st.nons.length + 1) c)):=⟨hkF.mono (fun b _ e => by
  rcases e with e | e
  · rw [hnr b e];decide
  · rw [show b = rb from e,h.rt];decide),hold⟩
 have hsz:(w'.setCell ⟨rb,10,none⟩ (.slice a (st.nons.length + 1) c)).heap.size = w'.heap.size:=by simp
 have hown2:(w'.setCell ⟨rb,10,none⟩ (.slice a (st.nons.length + 1) c)).ownsRow B 63 3 (.slice a (st.nons.length + 1) c) (st.nons.length + 1) _:=own_set hO.1 (fun e => by have:=hO.2 rb e;rw [hrt] at this;cases this)
 have hblk:(w'.setCell ⟨rb,10,none⟩ (.slice a (st.nons.length + 1) c)).heap[rb]? = _:=heap_setCell (hbk.trans h.blk)
 refine ⟨⟨hblk,hrt,fun b hn9 => ?_,by rw [hsz];exact Nat.le_trans h.base hk.size,h.words.keep hc,h.wf,h.rules.kept hkF (hF 1 (by decide) (by decide)) hold,h.rlen,(fun x hx => (h.rre x hx).keep hc),h.nonts.kept hkF (hF 2 (by decide) (by decide)) hold,h.prods.kept hkF (hF 4 (by decide) (by decide)) hold,h.skips.kept hkF (hF 8 (by decide) (by decide)) hold,h.terms.kept hkF (hF 9 (by decide) (by decide)) hold,?_,h.later.kept hkF (hF 15 (by decide) (by decide)) hold,h.flen,(fun x hx => (h.fst x hx).keep hc)⟩,hc⟩
 · rw [hsz]
   rcases hown b hn9 with h9 | h9
   · exact ⟨(h.own b h9).1,Nat.lt_of_lt_of_le (h.own b h9).2 hk.size⟩
   · exact h9
 · have e1:(st.nons ++ [x]).flatMap wdV = st.nons.flatMap wdV ++ [.int .i64 (x.1:Int),.int .i64 (x.2.1:Int),.string (strT x.2.2)]:=by rw [List.flatMap_append,List.flatMap_singleton];rfl
   have e2:(st.nons ++ [x]).length = st.nons.length + 1:=by rw [List.length_append];rfl
   refine ⟨?_,hO.2⟩
   show World.ownsRow _ _ _ _ _ (st.nons ++ [x]).length ((st.nons ++ [x]).flatMap wdV)
   rw [e1,e2]
   exact hown2
set_option maxRecDepth 20000 in
theorem RdV.app_later {B rb:Nat} {T:Nat → Nat} {w:World} {X:RX} {st:RS} (h:RdV B T w rb X st) (s:Stp) (v:Value) (hv:StpV T w rb v s) (hn:st.later.length ≤ 100000) :
 ∃ a c w',(Builtin.append_ #[79,79] 79 #[X.la,.slice (some ⟨w.heap.size,0,none⟩) 1 1]).run Tryz.prog (w.alloc (.cells #[.int .i64 (s.w.2.1:Int),v] 93)) = .ok (.slice a (st.later.length + 1) c) w' ∧ w'.heap[rb]? = w.heap[rb]? ∧
  ∃ T' X',RdV B T' (w'.setCell ⟨rb,15,none⟩ (.slice a (st.later.length + 1) c)) rb X' (st.thn s) ∧ Chg T T' w (w'.setCell ⟨rb,15,none⟩ (.slice a (st.later.length + 1) c)):=by
 obtain ⟨i0,hi0,za,zb,zc⟩:=info_parts Tryz.infSt
 obtain ⟨a,c,w',hrun,hO,hk,hold,hown⟩:=own_appI (tS:=79) (ty:=79) Tryz.underlying79 hi0 za zb zc rfl (by decide) h.later #[.int .i64 (s.w.2.1:Int),v] rfl (one_S _ hv.oneCell) hn (by decide) h.base (fun b hb => h.fresh hb)
 have hrb:=blk_lt h.blk
 have hnr:∀ b,X.la.ownBlock = some b → T b = 15:=h.later.2
 have hbk:w'.heap[rb]? = w.heap[rb]?:=hk.block rb hrb (fun e => by have:=hnr rb e;rw [h.rt] at this;cases this)
 refine ⟨a,c,w',hrun,hbk,tagV T (.slice a (st.later.length + 1) c) 15,{ X with la:=.slice a (st.later.length + 1) c,fl:=X.fl ++ [v] },?_⟩
 generalize hTT:tagV T (.slice a (st.later.length + 1) c) 15 = T' at *
 have hrt:T' rb = 99:=(hold rb hrb).trans h.rt
 have hkF:Kept (fun b => X.la.ownBlock = some b ∨ b = rb) w (w'.setCell ⟨rb,15,none⟩ (.slice a (st.later.length + 1) c)):=(hk.mono (fun _ _ e => .inl e)).setCell (fun _ => .inr rfl)
 have hF:∀ j,j ≠ 99 → j ≠ 15 → ∀ b,X.la.ownBlock = some b ∨ b = rb → T b ≠ j:=fun j h9 h8 b e => by
  rcases e with e | e
  · rw [hnr b e];exact h8.symm
  · rw [e,h.rt];exact h9.symm
 have hc:Chg T T' w (w'.setCell ⟨rb,15,none⟩ (.slice a (st.later.length + 1) c)):=⟨hkF.mono (fun b _ e => by
  rcases e with e | e
  · rw [hnr b e];decide
  · rw [show b = rb from e,h.rt];decide),hold⟩
 have hsz:(w'.setCell ⟨rb,15,none⟩ (.slice a (st.later.length + 1) c)).heap.size = w'.heap.size:=by simp
 have hown2:(w'.setCell ⟨rb,15,none⟩ (.slice a (st.later.length + 1) c)).ownsRow B 93 2 (.slice a (st.later.length + 1) c) (st.later.length + 1) _:=own_set hO.1 (fun e => by have:=hO.2 rb e;rw [hrt] at this;cases this)
 have hblk:(w'.setCell ⟨rb,15,none⟩ (.slice a (st.later.length + 1) c)).heap[rb]? = _:=heap_setCell (hbk.trans h.blk)
 refine ⟨⟨hblk,hrt,fun b hn9 => ?_,by rw [hsz];exact Nat.le_trans h.base hk.size,h.words.keep hc,h.wf,h.rules.kept hkF (hF 1 (by decide) (by decide)) hold,h.rlen,(fun x hx => (h.rre x hx).keep hc),h.nonts.kept hkF (hF 2 (by decide) (by decide)) hold,h.prods.kept hkF (hF 4 (by decide) (by decide)) hold,h.skips.kept hkF (hF 8 (by decide) (by decide)) hold,h.terms.kept hkF (hF 9 (by decide) (by decide)) hold,h.nons.kept hkF (hF 10 (by decide) (by decide)) hold,?_,(by show (X.fl ++ [v]).length = (st.later ++ [s]).length;rw [List.length_append,List.length_append,h.flen];rfl),(fun x hx => by
  have hx:x ∈ (st.later ++ [s]).zip (X.fl ++ [v]):=hx
  rw [zip_snoc _ _ _ _ h.flen,List.mem_append,List.mem_singleton] at hx
  rcases hx with hx | rfl
  · exact (h.fst x hx).keep hc
  · exact hv.keep hc)⟩,hc⟩
 · rw [hsz]
   rcases hown b hn9 with h9 | h9
   · exact ⟨(h.own b h9).1,Nat.lt_of_lt_of_le (h.own b h9).2 hk.size⟩
   · exact h9
 · have e1:((st.later ++ [s]).zip (X.fl ++ [v])).flatMap (fun x => spV x.1 x.2) = (st.later.zip X.fl).flatMap (fun x => spV x.1 x.2) ++ [.int .i64 (s.w.2.1:Int),v]:=by rw [zip_snoc _ _ _ _ h.flen,List.flatMap_append,List.flatMap_singleton];rfl
   have e2:(st.later ++ [s]).length = st.later.length + 1:=by rw [List.length_append];rfl
   refine ⟨?_,hO.2⟩
   show World.ownsRow _ _ _ _ _ (st.later ++ [s]).length (((st.later ++ [s]).zip (X.fl ++ [v])).flatMap (fun x => spV x.1 x.2))
   rw [e1,e2]
   exact hown2
end Go.Proofs.YtbpnioehmohbcaaGreat
namespace Go.Proofs.YtbpnioehmohbcaaGreat
open Go.RowKit Go.Maps Go.Sort
theorem StpV.shape {T:Nat → Nat} {w:World} {rb:Nat} {v:Value} {s:Stp} (h:StpV T w rb v s):∃ fn cp,v = .func fn #[] cp:=by
 rcases h with ⟨_,p,q,rfl,_⟩ | ⟨_,p,q,l,rfl,_⟩ | ⟨_,l,rfl,_⟩ | ⟨_,p,q,rfl,_⟩ | ⟨_,p,l,q,rfl,_⟩ | ⟨_,p,q,l,rfl,_⟩ <;> exact ⟨_,_,rfl⟩
set_option maxRecDepth 20000 in
set_option maxHeartbeats 4000000 in
theorem thnC {B rb:Nat} {T:Nat → Nat} {w:World} {X:RX} {st:RS} (h:RdV B T w rb X st) (s:Stp) (fv:Value) (hs:StpV T w rb fv s) (hn:st.later.length ≤ 100000) :
 Calls Tryz.prog 89 #[ptr0 rb,wdA s.w,fv] w fun r w' => r = .returned (.tuple #[]) ∧ RdP B T w rb (st.thn s) w':=by
 obtain ⟨fn,cp,rfl⟩:=hs.shape
 have hB1:=al' w (boxW s.w)
 have hv1:(w.alloc (boxW s.w)).heap[w.heap.size]? = some (boxW s.w):=heap_new w _
 obtain ⟨W,hW⟩:∃ x,w.alloc (boxW s.w) = x:=⟨_,rfl⟩
 rw [hW] at hB1 hv1
 have h1:=h.keep hB1
 have hs1:=hs.keep (Chg.of_below hB1)
 have hbd:Below W.heap.size W W.drew:=(Below.refl _ W).drew
 obtain ⟨a,c,w5,hrun,hbk,T',X',hR,hC⟩:=(h1.keep hbd).app_later s (.func fn #[] cp) (hs1.keep (Chg.of_below hbd)) hn
 have hP:Hid (RdP B T w rb (st.thn s) (w5.setCell ⟨rb,15,none⟩ (.slice a (st.later.length + 1) c))):=hid ⟨T',X',hR,(Chg.of_below (bl_step hB1 hbd)).trans hC⟩
 have hbl:W.drew.heap[rb]? = some (rdO X st.levels st.starts st.pl st.err):=hs_keep h1.blk hbd
 have hb5:=hbk.trans hbl
 have c5:w5.cell? ⟨rb,15,none⟩ = some X.la:=blk_cell hb5 rfl
 have f5:w5.frozen? ⟨rb,15,none⟩ = false:=blk_frozen hb5 15
 have cd:W.drew.cell? ⟨rb,15,none⟩ = some X.la:=blk_cell hbl rfl
 have vd:=(rd3 (hs_keep hv1 hbd)).2.1
 have hsd:W.drew.heap.size = W.heap.size:=rfl
 rw [hsd] at hrun
 have hwa:W.drew.alloc (.cells #[.int .i64 (s.w.2.1:Int),.func fn #[] cp] 93) = (W.alloc (.cells #[.int .i64 (s.w.2.1:Int),.func fn #[] cp] 93)).drew:=rfl
 rw [hwa] at hrun
 have hba:Below W.drew.heap.size W.drew (W.alloc (.cells #[.int .i64 (s.w.2.1:Int),.func fn #[] cp] 93)).drew:=al' W.drew _
 have ca:=keep_cell hba cd
 have va:=keep_cell hba vd
 clear hba hwa hsd hb5 hbl hR hC hbk hbd hs1 h1 hB1 hs h hv1
 generalize st.later.length = n at *
 generalize st.thn s = st2 at *
 generalize X.la = la at *
 generalize s.w = H at *
 obtain ⟨hk,hp,ht⟩:=H
 dsimp only at *
 go_enter Tryz.func89,Tryz.ntmps89
 go_wp2_with fail
 apply collapse
 case h =>
  intro rest
  go_region_law ((first
   | (refine step_run (by rfl) (.tmp 10) (.tmp 15) 79 (by rfl) _ _ (by rfl) (by rfl) hrun ?_)
   | fail))
  all_goals exact rest.out
 case pf =>
  go_wp2
  go_end0
  exact ⟨rfl,hP.out⟩
set_option maxRecDepth 20000 in
set_option maxHeartbeats 4000000 in
theorem addRT {B rb:Nat} {T:Nat → Nat} {w:World} {X:RX} {st:RS} (h:RdV B T w rb X st) (x:Wd) (hn:st.skips.length ≤ 100000) :
 Calls Tryz.prog 87 #[.pointer (some ⟨rb,8,none⟩),wdA x,.bool true] w fun r w' => r = .returned (.tuple #[]) ∧ RdP B T w rb (st.addW x true) w':=by
 have hB1:=al' w (boxW x)
 have hv1:(w.alloc (boxW x)).heap[w.heap.size]? = some (boxW x):=heap_new w _
 obtain ⟨W,hW⟩:∃ y,w.alloc (boxW x) = y:=⟨_,rfl⟩
 rw [hW] at hB1 hv1
 have h1:=h.keep hB1
 have hbd:Below W.heap.size W W.drew:=(Below.refl _ W).drew
 obtain ⟨a,c,w5,hrun,hbk,T',X',hR,hC⟩:=(h1.keep hbd).app_skips x hn
 have hP:Hid (RdP B T w rb (st.addW x true) (w5.setCell ⟨rb,8,none⟩ (.slice a (st.skips.length + 1) c))):=hid ⟨T',X',hR,(Chg.of_below (bl_step hB1 hbd)).trans hC⟩
 have hbl:W.drew.heap[rb]? = some (rdO X st.levels st.starts st.pl st.err):=hs_keep h1.blk hbd
 have hb5:=hbk.trans hbl
 have c5:w5.cell? ⟨rb,8,none⟩ = some X.sk:=blk_cell hb5 rfl
 have f5:w5.frozen? ⟨rb,8,none⟩ = false:=blk_frozen hb5 8
 have cd:W.drew.cell? ⟨rb,8,none⟩ = some X.sk:=blk_cell hbl rfl
 obtain ⟨v0,v1,v2,-,-⟩:=rd3 (hs_keep hv1 hbd)
 have hsd:W.drew.heap.size = W.heap.size:=rfl
 rw [hsd] at hrun
 have hwa:W.drew.alloc (boxW x) = (W.alloc (boxW x)).drew:=rfl
 rw [hwa] at hrun
 have hba:Below W.drew.heap.size W.drew (W.alloc (boxW x)).drew:=al' W.drew _
 have ca:=keep_cell hba cd
 have a0:=keep_cell hba v0
 have a1:=keep_cell hba v1
 have a2:=keep_cell hba v2
 clear hba hwa hsd hb5 hbl hR hC hbk hbd h1 hB1 h hv1
 generalize st.skips.length = n at *
 generalize st.addW x true = st2 at *
 generalize X.sk = la at *
 obtain ⟨hk,hp,ht⟩:=x
 dsimp only at *
 go_enter Tryz.func87,Tryz.ntmps87
 go_wp2_with fail
 apply collapse
 case h =>
  intro rest
  go_region_law ((first
   | (refine step_run (by rfl) (.tmp 11) (.tmp 13) 59 (by rfl) _ _ (by rfl) (by rfl) hrun ?_)
   | fail))
  all_goals exact rest.out
 case pf =>
  go_wp2
  go_end0
  exact ⟨rfl,hP.out⟩
set_option maxRecDepth 20000 in
set_option maxHeartbeats 4000000 in
theorem addRF {B rb:Nat} {T:Nat → Nat} {w:World} {X:RX} {st:RS} (h:RdV B T w rb X st) (x:Wd) (hn:st.terms.length ≤ 100000) :
 Calls Tryz.prog 87 #[.pointer (some ⟨rb,8,none⟩),wdA x,.bool false] w fun r w' => r = .returned (.tuple #[]) ∧ RdP B T w rb (st.addW x false) w':=by
 have hB1:=al' w (boxW x)
 have hv1:(w.alloc (boxW x)).heap[w.heap.size]? = some (boxW x):=heap_new w _
 obtain ⟨W,hW⟩:∃ y,w.alloc (boxW x) = y:=⟨_,rfl⟩
 rw [hW] at hB1 hv1
 have h1:=h.keep hB1
 have hbd:Below W.heap.size W W.drew:=(Below.refl _ W).drew
 obtain ⟨a,c,w5,hrun,hbk,T',X',hR,hC⟩:=(h1.keep hbd).app_terms x hn
 have hP:Hid (RdP B T w rb (st.addW x false) (w5.setCell ⟨rb,9,none⟩ (.slice a (st.terms.length + 1) c))):=hid ⟨T',X',hR,(Chg.of_below (bl_step hB1 hbd)).trans hC⟩
 have hbl:W.drew.heap[rb]? = some (rdO X st.levels st.starts st.pl st.err):=hs_keep h1.blk hbd
 have hb5:=hbk.trans hbl
 have c5:w5.cell? ⟨rb,9,none⟩ = some X.te:=blk_cell hb5 rfl
 have f5:w5.frozen? ⟨rb,9,none⟩ = false:=blk_frozen hb5 9
 have cd:W.drew.cell? ⟨rb,9,none⟩ = some X.te:=blk_cell hbl rfl
 obtain ⟨v0,v1,v2,-,-⟩:=rd3 (hs_keep hv1 hbd)
 have hsd:W.drew.heap.size = W.heap.size:=rfl
 rw [hsd] at hrun
 have hwa:W.drew.alloc (boxW x) = (W.alloc (boxW x)).drew:=rfl
 rw [hwa] at hrun
 have hba:Below W.drew.heap.size W.drew (W.alloc (boxW x)).drew:=al' W.drew _
 have ca:=keep_cell hba cd
 have a0:=keep_cell hba v0
 have a1:=keep_cell hba v1
 have a2:=keep_cell hba v2
 clear hba hwa hsd hb5 hbl hR hC hbk hbd h1 hB1 h hv1
 generalize st.terms.length = n at *
 generalize st.addW x false = st2 at *
 generalize X.te = la at *
 obtain ⟨hk,hp,ht⟩:=x
 dsimp only at *
 go_enter Tryz.func87,Tryz.ntmps87
 go_wp2_with fail
 apply collapse
 case h =>
  intro rest
  go_region_law ((first
   | (refine step_run (by rfl) (.tmp 21) (.tmp 23) 59 (by rfl) _ _ (by rfl) (by rfl) hrun ?_)
   | fail))
  all_goals exact rest.out
 case pf =>
  go_wp2
  go_end0
  exact ⟨rfl,hP.out⟩
set_option maxRecDepth 20000 in
set_option maxHeartbeats 4000000 in
theorem addNC {B rb:Nat} {T:Nat → Nat} {w:World} {X:RX} {st:RS} (h:RdV B T w rb X st) (x:Wd) (hn:st.nons.length ≤ 100000) :
 Calls Tryz.prog 96 #[.pointer (some ⟨rb,8,none⟩),wdA x] w fun r w' => r = .returned (.tuple #[]) ∧ RdP B T w rb (st.addO x) w':=by
 have hB1:=al' w (boxW x)
 have hv1:(w.alloc (boxW x)).heap[w.heap.size]? = some (boxW x):=heap_new w _
 obtain ⟨W,hW⟩:∃ y,w.alloc (boxW x) = y:=⟨_,rfl⟩
 rw [hW] at hB1 hv1
 have h1:=h.keep hB1
 have hbd:Below W.heap.size W W.drew:=(Below.refl _ W).drew
 obtain ⟨a,c,w5,hrun,hbk,T',X',hR,hC⟩:=(h1.keep hbd).app_nons x hn
 have hP:Hid (RdP B T w rb (st.addO x) (w5.setCell ⟨rb,10,none⟩ (.slice a (st.nons.length + 1) c))):=hid ⟨T',X',hR,(Chg.of_below (bl_step hB1 hbd)).trans hC⟩
 have hbl:W.drew.heap[rb]? = some (rdO X st.levels st.starts st.pl st.err):=hs_keep h1.blk hbd
 have hb5:=hbk.trans hbl
 have c5:w5.cell? ⟨rb,10,none⟩ = some X.no:=blk_cell hb5 rfl
 have f5:w5.frozen? ⟨rb,10,none⟩ = false:=blk_frozen hb5 10
 have cd:W.drew.cell? ⟨rb,10,none⟩ = some X.no:=blk_cell hbl rfl
 obtain ⟨v0,v1,v2,-,-⟩:=rd3 (hs_keep hv1 hbd)
 have hsd:W.drew.heap.size = W.heap.size:=rfl
 rw [hsd] at hrun
 have hwa:W.drew.alloc (boxW x) = (W.alloc (boxW x)).drew:=rfl
 rw [hwa] at hrun
 have hba:Below W.drew.heap.size W.drew (W.alloc (boxW x)).drew:=al' W.drew _
 have ca:=keep_cell hba cd
 have a0:=keep_cell hba v0
 have a1:=keep_cell hba v1
 have a2:=keep_cell hba v2
 clear hba hwa hsd hb5 hbl hR hC hbk hbd h1 hB1 h hv1
 generalize st.nons.length = n at *
 generalize st.addO x = st2 at *
 generalize X.no = la at *
 obtain ⟨hk,hp,ht⟩:=x
 dsimp only at *
 go_enter Tryz.func96,Tryz.ntmps96
 go_wp2_with fail
 apply collapse
 case h =>
  intro rest
  go_region_law ((first
   | (refine step_run (by rfl) (.tmp 8) (.tmp 10) 59 (by rfl) _ _ (by rfl) (by rfl) hrun ?_)
   | fail))
  all_goals exact rest.out
 case pf =>
  go_wp2
  go_end0
  exact ⟨rfl,hP.out⟩
set_option maxRecDepth 20000 in
theorem addRC {B rb:Nat} {T:Nat → Nat} {w:World} {X:RX} {st:RS} (h:RdV B T w rb X st) (x:Wd) (sk:Bool) (h1:st.skips.length ≤ 100000) (h2:st.terms.length ≤ 100000) :
 Calls Tryz.prog 87 #[.pointer (some ⟨rb,8,none⟩),wdA x,.bool sk] w fun r w' => r = .returned (.tuple #[]) ∧ RdP B T w rb (st.addW x sk) w':=by
 cases sk
 · exact addRF h x h2
 · exact addRT h x h1
end Go.Proofs.YtbpnioehmohbcaaGreat
