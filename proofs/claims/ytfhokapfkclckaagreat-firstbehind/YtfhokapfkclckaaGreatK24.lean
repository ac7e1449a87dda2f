/- topiarylaw12.copied: a grammar of its own. The reader in memory: its block, its rows, each in a block of its own; what never changes. Package first: markVanish. The reference: Letter, Reserved, named. -/
import Derived.Test.YtfhokapfkclckaaGreatK23
import Derived.Test.YtfhokapfkclckaaGreatK22
import Derived.Test.YtfhokapfkclckaaGreatK16
import Derived.Test.YtfhokapfkclckaaGreatK12
import Derived.Deep.LoopGhost
namespace Go.Proofs.YtfhokapfkclckaaGreat
open Go.RowKit Go.Maps Go.Sort
set_option maxRecDepth 20000 in
theorem Tryz.infRl:(Tryz.prog.info? 49).map (fun i => (i.zero,i.size,i.bytes)) = some (some (.agg #[.string ⟨#[]⟩,.slice none 0 0,.bool false]),3,48):=by kernel_rfl
set_option maxRecDepth 20000 in
theorem Tryz.infPd:(Tryz.prog.info? 43).map (fun i => (i.zero,i.size,i.bytes)) = some (some (.agg #[.int .i64 0,.slice none 0 0,.int .i64 0]),3,40):=by kernel_rfl
set_option maxRecDepth 20000 in
theorem Tryz.infLv:(Tryz.prog.info? 53).map (fun i => (i.zero,i.size,i.bytes)) = some (some (.agg #[.int .i64 0,.int .i64 0]),2,16):=by kernel_rfl
set_option maxRecDepth 20000 in
theorem Tryz.infIn:(Tryz.prog.info? 3).map (fun i => (i.zero,i.size,i.bytes)) = some (some (.int .i64 0),1,8):=by kernel_rfl
structure Chg (T T':Nat → Nat) (w w':World):Prop where
 kept:Kept (fun b => T b ≠ 0 ∧ T b ≠ 77) w w'
 tag:∀ b,b < w.heap.size → T' b = T b
structure Sft (T T':Nat → Nat) (w w':World):Prop where
 kept:Kept (fun b => T b ≠ 0) w w'
 tag:∀ b,b < w.heap.size → T' b = T b
theorem Chg.sft {T T':Nat → Nat} {w w':World} (h:Chg T T' w w'):Sft T T' w w':=⟨h.kept.mono (fun _ _ h => h.1),h.tag⟩
theorem Sft.of_kept {F:Nat → Prop} {T:Nat → Nat} {w w':World} (h:Kept F w w') (hF:∀ b,F b → T b ≠ 0):Sft T T w w':=⟨h.mono (fun k _ h => hF k h),fun _ _ => rfl⟩
theorem Chg.refl (T:Nat → Nat) (w:World):Chg T T w w:=⟨Kept.refl _ _,fun _ _ => rfl⟩
theorem Chg.trans {T T' T'':Nat → Nat} {w u v:World} (h:Chg T T' w u) (h2:Chg T' T'' u v):Chg T T'' w v:=
 ⟨h.kept.step h2.kept (fun k hk hn => by rw [h.tag k hk] at hn;exact hn),fun b hb => (h2.tag b (Nat.lt_of_lt_of_le hb h.kept.size)).trans (h.tag b hb)⟩
theorem Chg.of_below {T:Nat → Nat} {w w':World} (h:Below w.heap.size w w'):Chg T T w w':=⟨Kept.of_below h,fun _ _ => rfl⟩
def Im (T:Nat → Nat) (w:World) (b:Nat) (o:Obj):Prop:=T b = 0 ∧ w.heap[b]? = some o
theorem Im.sft {T T':Nat → Nat} {w w':World} {b:Nat} {o:Obj} (h:Im T w b o) (hc:Sft T T' w w'):Im T' w' b o:=by
 have hb:=blk_lt h.2
 exact ⟨(hc.tag b hb).trans h.1,(hc.kept.block b hb (fun hn => hn h.1)).trans h.2⟩
theorem Im.cell {T:Nat → Nat} {w:World} {b o:Nat} {cs:Array Value} {t:TypeId} {v:Value} (h:Im T w b (.cells cs t (0,0))) (hv:cs[o]? = some v):w.cell? ⟨b,o,none⟩ = some v:=blk_cell h.2 hv
def OwnI (w:World) (B:Nat) (T:Nat → Nat) (i:Nat) (te:TypeId) (sz:Nat) (v:Value) (n:Nat) (xs:List Value):Prop:=w.ownsRow B te sz v n xs ∧ ∀ b,v.ownBlock = some b → T b = i
theorem OwnI.kept {w w':World} {B i sz n:Nat} {T T':Nat → Nat} {te:TypeId} {v:Value} {xs:List Value} {F:Nat → Prop} (h:OwnI w B T i te sz v n xs) (hk:Kept F w w') (hF:∀ b,F b → T b ≠ i) (ht:∀ b,b < w.heap.size → T' b = T b):OwnI w' B T' i te sz v n xs:=
 ⟨own_kept h.1 hk (fun k e hf => hF k hf (h.2 k e)),fun b e => (ht b (h.1.lt b e).2).trans (h.2 b e)⟩
def Wd3 (w:World) (b o:Nat) (x:Wd):Prop:=w.cell? ⟨b,o,none⟩ = some (.int .i64 (x.1:Int)) ∧ w.cell? ⟨b,o + 1,none⟩ = some (.int .i64 (x.2.1:Int)) ∧ w.cell? ⟨b,o + 2,none⟩ = some (.string (strT x.2.2))
def WsV (T:Nat → Nat) (w:World) (v:Value) (ws:List Wd):Prop:=∃ b o cap,v = .slice (some ⟨b,o,none⟩) ws.length cap ∧ ws.length ≤ cap ∧ T b = 0 ∧ b < w.heap.size ∧ ∀ j (h:j < ws.length),Wd3 w b (o + j * 3) ws[j]
theorem WsV.sft {T T':Nat → Nat} {w w':World} {v:Value} {ws:List Wd} (h:WsV T w v ws) (hc:Sft T T' w w'):WsV T' w' v ws:=by
 obtain ⟨b,o,cap,e,h1,h2,h3,h4⟩:=h
 refine ⟨b,o,cap,e,h1,(hc.tag b h3).trans h2,Nat.lt_of_lt_of_le h3 hc.kept.size,fun j hj => ?_⟩
 obtain ⟨x0,x1,x2⟩:=h4 j hj
 exact ⟨hc.kept.cell x0 h3 (fun hn => hn h2),hc.kept.cell x1 h3 (fun hn => hn h2),hc.kept.cell x2 h3 (fun hn => hn h2)⟩
def ImC (T:Nat → Nat) (w:World) (v:Value) (l:List Cel):Prop:=Cels w v l ∧ OffP (fun b => T b ≠ 0) v
theorem ImC.sft {T T':Nat → Nat} {w w':World} {v:Value} {l:List Cel} (h:ImC T w v l) (hc:Sft T T' w w'):ImC T' w' v l:=by
 refine ⟨h.1.keptP hc.kept h.2,fun a n c e hn hf => ?_⟩
 refine h.2 a n c e hn ?_
 obtain ⟨a',cap,e',_,_,_,hat⟩:=h.1
 rw [e] at e'
 injection e' with e1 e2 e3
 subst e2
 obtain ⟨b,o,e4,hlt,_⟩:=hat 0 hn
 rw [e4] at e1
 injection e1 with e1
 subst e1
 exact fun hz => hf ((hc.tag b hlt).trans hz)
def RuC (T:Nat → Nat) (w:World) (er:Int) (v:Value) (l:List Cel):Prop:=(∃ a m c,v = .slice a m c) ∧ (er = 0 → ImC T w v l)
theorem RuC.sft {T T':Nat → Nat} {w w':World} {er:Int} {v:Value} {l:List Cel} (h:RuC T w er v l) (hc:Sft T T' w w'):RuC T' w' er v l:=⟨h.1,fun e => (h.2 e).sft hc⟩
theorem RuC.err {T:Nat → Nat} {w:World} {er er':Int} {v:Value} {l:List Cel} (h:RuC T w er v l) (he:er' = 0 → er = 0):RuC T w er' v l:=⟨h.1,fun e => h.2 (he e)⟩
abbrev boxR (rb:Nat):Obj:=.cells #[.pointer (some ⟨rb,0,none⟩)] 103
abbrev boxW (x:Wd):Obj:=.cells #[.int .i64 (x.1:Int),.int .i64 (x.2.1:Int),.string (strT x.2.2)] 70
abbrev boxN (n:Nat):Obj:=.cells #[.int .i64 (n:Int)] 3
abbrev boxL (p s:Nat):Obj:=.cells #[.int .i64 (p:Int),.int .i64 (s:Int)] 53
abbrev boxB (b:Bool):Obj:=.cells #[.bool b] 4
abbrev ptr0 (b:Nat):Value:=.pointer (some ⟨b,0,none⟩)
def StpV (T:Nat → Nat) (w:World) (rb:Nat) (v:Value) (s:Stp):Prop:=
 (s.k = 1 ∧ ∃ p q,v = .func (.func 124) #[] #[ptr0 p,ptr0 q] ∧ Im T w p (boxR rb) ∧ Im T w q (boxW s.w)) ∨
 (s.k = 2 ∧ ∃ p q l,v = .func (.func 127) #[] #[ptr0 p,ptr0 q,ptr0 l] ∧ Im T w p (boxR rb) ∧ Im T w q (boxW s.w) ∧ Im T w l (boxL s.a s.b)) ∨
 (s.k = 3 ∧ ∃ l,v = .func (.func 109) #[] #[ptr0 l] ∧ Im T w l (boxB (decide (s.a ≠ 0)))) ∨
 (s.k = 4 ∧ ∃ p q,v = .func (.func 110) #[] #[ptr0 p,ptr0 q] ∧ Im T w p (boxR rb) ∧ Im T w q (boxW s.w)) ∨
 (s.k = 5 ∧ ∃ p l q,v = .func (.func 148) #[] #[ptr0 p,ptr0 l,ptr0 q] ∧ Im T w p (boxR rb) ∧ Im T w q (boxW s.w) ∧ Im T w l (boxN s.a)) ∨
 (s.k = 6 ∧ ∃ p q l,v = .func (.func 149) #[] #[ptr0 p,ptr0 q,ptr0 l] ∧ Im T w p (boxR rb) ∧ Im T w q (boxW s.w) ∧ Im T w l (boxN s.a))
theorem StpV.sft {T T':Nat → Nat} {w w':World} {rb:Nat} {v:Value} {s:Stp} (h:StpV T w rb v s) (hc:Sft T T' w w'):StpV T' w' rb v s:=by
 rcases h with ⟨h,p,q,e,h1,h2⟩ | ⟨h,p,q,l,e,h1,h2,h3⟩ | ⟨h,l,e,h3⟩ | ⟨h,p,q,e,h1,h2⟩ | ⟨h,p,l,q,e,h1,h2,h3⟩ | ⟨h,p,q,l,e,h1,h2,h3⟩
 · exact .inl ⟨h,p,q,e,h1.sft hc,h2.sft hc⟩
 · exact .inr (.inl ⟨h,p,q,l,e,h1.sft hc,h2.sft hc,h3.sft hc⟩)
 · exact .inr (.inr (.inl ⟨h,l,e,h3.sft hc⟩))
 · exact .inr (.inr (.inr (.inl ⟨h,p,q,e,h1.sft hc,h2.sft hc⟩)))
 · exact .inr (.inr (.inr (.inr (.inl ⟨h,p,l,q,e,h1.sft hc,h2.sft hc,h3.sft hc⟩))))
 · exact .inr (.inr (.inr (.inr (.inr ⟨h,p,q,l,e,h1.sft hc,h2.sft hc,h3.sft hc⟩))))
theorem Im.keep {T T':Nat → Nat} {w w':World} {b:Nat} {o:Obj} (h:Im T w b o) (hc:Chg T T' w w'):Im T' w' b o:=h.sft hc.sft
theorem WsV.keep {T T':Nat → Nat} {w w':World} {v:Value} {ws:List Wd} (h:WsV T w v ws) (hc:Chg T T' w w'):WsV T' w' v ws:=h.sft hc.sft
theorem ImC.keep {T T':Nat → Nat} {w w':World} {v:Value} {l:List Cel} (h:ImC T w v l) (hc:Chg T T' w w'):ImC T' w' v l:=h.sft hc.sft
theorem RuC.keep {T T':Nat → Nat} {w w':World} {er:Int} {v:Value} {l:List Cel} (h:RuC T w er v l) (hc:Chg T T' w w'):RuC T' w' er v l:=h.sft hc.sft
theorem StpV.keep {T T':Nat → Nat} {w w':World} {rb:Nat} {v:Value} {s:Stp} (h:StpV T w rb v s) (hc:Chg T T' w w'):StpV T' w' rb v s:=h.sft hc.sft
theorem StpV.oneCell {T:Nat → Nat} {w:World} {rb:Nat} {v:Value} {s:Stp} (h:StpV T w rb v s):v.oneCell' = true:=by
 rcases h with ⟨_,p,q,rfl,_⟩ | ⟨_,p,q,l,rfl,_⟩ | ⟨_,l,rfl,_⟩ | ⟨_,p,q,rfl,_⟩ | ⟨_,p,l,q,rfl,_⟩ | ⟨_,p,q,l,rfl,_⟩ <;> rfl
structure RX where
 wv:Value
 rv:Value
 nv:Value
 pv:Value
 sk:Value
 te:Value
 no:Value
 la:Value
 rl:List Value
 fl:List Value
abbrev rdO (X:RX) (lc sc:Nat) (pl:Nat) (er:Int):Obj:=.cells #[X.wv,X.rv,X.nv,.slice none 0 0,X.pv,.int .i64 0,.int .i64 (lc:Int),.int .i64 (sc:Int),X.sk,X.te,X.no,.int .u32 0,.int .i32 0,.int .u32 0,.map none,X.la,.int .i64 (pl:Int),.int .i64 er] 88
def rlV (r:Rl) (v:Value):List Value:=[.string (strT r.name),v,.bool r.skip]
def pdV (l:Nat):List Value:=[.int .i64 (l:Int),.slice none 0 0,.int .i64 0]
def spV (s:Stp) (v:Value):List Value:=[.int .i64 (s.w.2.1:Int),v]
def Endd (ws:List Wd):Prop:=∃ l p,ws = l ++ [(0,p,[])]
theorem Endd.ne {ws:List Wd} (h:Endd ws):ws ≠ []:=by obtain ⟨l,p,rfl⟩:=h;simp
theorem Endd.two {ws:List Wd} (h:Endd ws) (hk:(ws.headD (0,0,[])).1 ≠ 0):2 ≤ ws.length:=by
 obtain ⟨l,p,rfl⟩:=h
 cases l with
 | nil => exact absurd rfl hk
 | cons a l => rw [List.length_append,List.length_cons,List.length_singleton];omega
theorem Endd.tail {ws:List Wd} (h:Endd ws) (h2:2 ≤ ws.length):Endd ws.tail:=by
 obtain ⟨l,p,rfl⟩:=h
 cases l with
 | nil => simp at h2
 | cons a l => exact ⟨l,p,rfl⟩
structure RdV (B:Nat) (T:Nat → Nat) (w:World) (rb:Nat) (X:RX) (st:RS):Prop where
 blk:w.heap[rb]? = some (rdO X st.levels st.starts st.pl st.err)
 rt:T rb = 99
 own:∀ b,T b ≠ 0 → B ≤ b ∧ b < w.heap.size
 base:B ≤ w.heap.size
 words:WsV T w X.wv st.ws
 wf:Endd st.ws
 rules:OwnI w B T 1 49 3 X.rv st.rules.length ((st.rules.zip X.rl).flatMap fun x => rlV x.1 x.2)
 rlen:X.rl.length = st.rules.length
 rre:∀ x ∈ st.rules.zip X.rl,RuC T w st.err x.2 x.1.re
 nonts:OwnI w B T 2 9 1 X.nv st.nonts.length (st.nonts.flatMap csT)
 prods:OwnI w B T 4 43 3 X.pv st.prods.length (st.prods.flatMap pdV)
 skips:OwnI w B T 8 70 3 X.sk st.skips.length (st.skips.flatMap wdV)
 terms:OwnI w B T 9 70 3 X.te st.terms.length (st.terms.flatMap wdV)
 nons:OwnI w B T 10 70 3 X.no st.nons.length (st.nons.flatMap wdV)
 later:OwnI w B T 15 106 2 X.la st.later.length ((st.later.zip X.fl).flatMap fun x => spV x.1 x.2)
 flen:X.fl.length = st.later.length
 fst:∀ x ∈ st.later.zip X.fl,StpV T w rb x.2 x.1
theorem RdV.keep {B rb:Nat} {T:Nat → Nat} {w w':World} {X:RX} {st:RS} (h:RdV B T w rb X st) (hb:Below w.heap.size w w'):RdV B T w' rb X st:=by
 have hk:Kept (fun _ => False) w w':=Kept.of_below hb
 have hc:Chg T T w w':=Chg.of_below hb
 have ht:∀ b,b < w.heap.size → T b = T b:=fun _ _ => rfl
 have hF:∀ i b,False → T b ≠ i:=fun _ _ h => h.elim
 exact ⟨hs_keep h.blk hb,h.rt,fun b hn => ⟨(h.own b hn).1,Nat.lt_of_lt_of_le (h.own b hn).2 hb.size⟩,Nat.le_trans h.base hb.size,h.words.keep hc,h.wf,h.rules.kept hk (hF 1) ht,h.rlen,fun x hx => (h.rre x hx).keep hc,h.nonts.kept hk (hF 2) ht,h.prods.kept hk (hF 4) ht,h.skips.kept hk (hF 8) ht,h.terms.kept hk (hF 9) ht,h.nons.kept hk (hF 10) ht,h.later.kept hk (hF 15) ht,h.flen,fun x hx => (h.fst x hx).keep hc⟩
theorem RdV.fresh {B rb b:Nat} {T:Nat → Nat} {w:World} {X:RX} {st:RS} (h:RdV B T w rb X st) (hb:w.heap.size ≤ b):T b = 0:=by
 rcases Nat.eq_zero_or_pos (T b) with h1 | h1
 · exact h1
 · have:=(h.own b (by omega)).2
   omega
theorem RdV.put {B rb:Nat} {T:Nat → Nat} {w F:World} {X X':RX} {st st':RS} (h:RdV B T w rb X st) (hk:Kept (fun b => b = rb ∨ T b = 77) w F)
 (hblk:F.heap[rb]? = some (rdO X' st'.levels st'.starts st'.pl st'.err)) (hws:WsV T F X'.wv st'.ws) (hwf:Endd st'.ws)
 (e1:st'.rules = st.rules) (e2:st'.nonts = st.nonts) (e3:st'.prods = st.prods) (e4:st'.skips = st.skips) (e5:st'.terms = st.terms) (e6:st'.nons = st.nons) (e7:st'.later = st.later) (e8:st'.err = 0 → st.err = 0)
 (f1:X'.rv = X.rv) (f2:X'.nv = X.nv) (f3:X'.pv = X.pv) (f4:X'.sk = X.sk) (f5:X'.te = X.te) (f6:X'.no = X.no) (f7:X'.la = X.la) (f8:X'.rl = X.rl) (f9:X'.fl = X.fl) :
 RdV B T F rb X' st':=by
 have hc:Sft T T w F:=Sft.of_kept hk (fun b e => by rcases e with e | e <;> rw [e] <;> (try rw [h.rt]) <;> decide)
 have ht:∀ b,b < w.heap.size → T b = T b:=fun _ _ => rfl
 have hF:∀ i,i ≠ 99 → i ≠ 77 → ∀ b,b = rb ∨ T b = 77 → T b ≠ i:=fun i hi hj b e => by
  rcases e with e | e
  · rw [e,h.rt];exact hi.symm
  · rw [e];exact hj.symm
 refine ⟨hblk,h.rt,fun b hn => ⟨(h.own b hn).1,Nat.lt_of_lt_of_le (h.own b hn).2 hk.size⟩,Nat.le_trans h.base hk.size,hws,hwf,?_,?_,?_,?_,?_,?_,?_,?_,?_,?_,?_⟩
 · rw [e1,f1,f8];exact h.rules.kept hk (hF 1 (by decide) (by decide)) ht
 · rw [e1,f8];exact h.rlen
 · rw [e1,f8];exact fun x hx => ((h.rre x hx).sft hc).err e8
 · rw [e2,f2];exact h.nonts.kept hk (hF 2 (by decide) (by decide)) ht
 · rw [e3,f3];exact h.prods.kept hk (hF 4 (by decide) (by decide)) ht
 · rw [e4,f4];exact h.skips.kept hk (hF 8 (by decide) (by decide)) ht
 · rw [e5,f5];exact h.terms.kept hk (hF 9 (by decide) (by decide)) ht
 · rw [e6,f6];exact h.nons.kept hk (hF 10 (by decide) (by decide)) ht
 · rw [e7,f7,f9];exact h.later.kept hk (hF 15 (by decide) (by decide)) ht
 · rw [e7,f9];exact h.flen
 · rw [e7,f9];exact fun x hx => (h.fst x hx).sft hc
theorem OwnI.mv {w w':World} {B i sz n:Nat} {T T':Nat → Nat} {te:TypeId} {v:Value} {xs:List Value} (h:OwnI w B T i te sz v n xs) (hk:Kept (fun b => T b = 77) w w') (hi:i ≠ 77) (ht:∀ b,b < w.heap.size → T b ≠ 77 → T' b = T b):OwnI w' B T' i te sz v n xs:=
 ⟨own_kept h.1 hk (fun k e hf => hi ((h.2 k e).symm.trans hf)),fun b e => (ht b (h.1.lt b e).2 (by rw [h.2 b e];exact hi)).trans (h.2 b e)⟩
theorem Im.mv {T T':Nat → Nat} {w w':World} {b:Nat} {o:Obj} (h:Im T w b o) (hk:Kept (fun b => T b = 77) w w') (ht:∀ b,b < w.heap.size → T b ≠ 77 → T' b = T b):Im T' w' b o:=by
 have hb:=blk_lt h.2
 have h7:T b ≠ 77:=by rw [h.1];decide
 exact ⟨(ht b hb h7).trans h.1,(hk.block b hb h7).trans h.2⟩
theorem StpV.mv {T T':Nat → Nat} {w w':World} {rb:Nat} {v:Value} {s:Stp} (h:StpV T w rb v s) (hk:Kept (fun b => T b = 77) w w') (ht:∀ b,b < w.heap.size → T b ≠ 77 → T' b = T b):StpV T' w' rb v s:=by
 rcases h with ⟨h,p,q,e,h1,h2⟩ | ⟨h,p,q,l,e,h1,h2,h3⟩ | ⟨h,l,e,h3⟩ | ⟨h,p,q,e,h1,h2⟩ | ⟨h,p,l,q,e,h1,h2,h3⟩ | ⟨h,p,q,l,e,h1,h2,h3⟩
 · exact .inl ⟨h,p,q,e,h1.mv hk ht,h2.mv hk ht⟩
 · exact .inr (.inl ⟨h,p,q,l,e,h1.mv hk ht,h2.mv hk ht,h3.mv hk ht⟩)
 · exact .inr (.inr (.inl ⟨h,l,e,h3.mv hk ht⟩))
 · exact .inr (.inr (.inr (.inl ⟨h,p,q,e,h1.mv hk ht,h2.mv hk ht⟩)))
 · exact .inr (.inr (.inr (.inr (.inl ⟨h,p,l,q,e,h1.mv hk ht,h2.mv hk ht,h3.mv hk ht⟩))))
 · exact .inr (.inr (.inr (.inr (.inr ⟨h,p,q,l,e,h1.mv hk ht,h2.mv hk ht,h3.mv hk ht⟩))))
theorem ImC.mv {T T':Nat → Nat} {w w':World} {v:Value} {l:List Cel} (h:ImC T w v l) (hk:Kept (fun b => T b = 77) w w') (ht:∀ b,b < w.heap.size → T b ≠ 77 → T' b = T b):ImC T' w' v l:=by
 refine ⟨h.1.keptP hk (fun a n c e hn hf => h.2 a n c e hn (by show T a.block ≠ 0;rw [hf];decide)),fun a n c e hn hf => ?_⟩
 have h0:=h.2 a n c e hn
 obtain ⟨a',cap,e',_,_,_,hat⟩:=h.1
 rw [e] at e'
 injection e' with e1 e2 e3
 subst e2
 obtain ⟨b,o,e4,hlt,_⟩:=hat 0 hn
 rw [e4] at e1
 injection e1 with e1
 subst e1
 have hz:T b = 0:=by
  rcases Nat.eq_zero_or_pos (T b) with h9 | h9
  · exact h9
  · exact absurd (show T b ≠ 0 by omega) h0
 exact hf ((ht b hlt (by rw [hz];decide)).trans hz)
theorem RuC.mv {T T':Nat → Nat} {w w':World} {er:Int} {v:Value} {l:List Cel} (h:RuC T w er v l) (hk:Kept (fun b => T b = 77) w w') (ht:∀ b,b < w.heap.size → T b ≠ 77 → T' b = T b):RuC T' w' er v l:=⟨h.1,fun e => (h.2 e).mv hk ht⟩
theorem RdV.mv {B rb:Nat} {T T':Nat → Nat} {w F:World} {X:RX} {st:RS} (h:RdV B T w rb X st) (hk:Kept (fun b => T b = 77) w F) (ht:∀ b,b < w.heap.size → T b ≠ 77 → T' b = T b) (ho:∀ b,T' b ≠ 0 → B ≤ b ∧ b < F.heap.size):RdV B T' F rb X st:=by
 have hr:=blk_lt h.blk
 have h7:T rb ≠ 77:=by rw [h.rt];decide
 refine ⟨hk.blk h.blk h7,(ht rb hr h7).trans h.rt,ho,Nat.le_trans h.base hk.size,?_,h.wf,h.rules.mv hk (by decide) ht,h.rlen,fun x hx => (h.rre x hx).mv hk ht,h.nonts.mv hk (by decide) ht,h.prods.mv hk (by decide) ht,h.skips.mv hk (by decide) ht,h.terms.mv hk (by decide) ht,h.nons.mv hk (by decide) ht,h.later.mv hk (by decide) ht,h.flen,fun x hx => (h.fst x hx).mv hk ht⟩
 obtain ⟨b,o,cap,e,h1,h2,h3,h4⟩:=h.words
 have h8:T b ≠ 77:=by rw [h2];decide
 refine ⟨b,o,cap,e,h1,(ht b h3 h8).trans h2,Nat.lt_of_lt_of_le h3 hk.size,fun j hj => ?_⟩
 obtain ⟨x0,x1,x2⟩:=h4 j hj
 exact ⟨hk.cell x0 h3 h8,hk.cell x1 h3 h8,hk.cell x2 h3 h8⟩
def tagT (T:Nat → Nat) (q i:Nat):Nat → Nat:=fun b => if b = q then i else T b
theorem RdV.aside {B rb q:Nat} {T:Nat → Nat} {w F:World} {X:RX} {st:RS} (h:RdV B T w rb X st) (hb:Below w.heap.size w F) (h1:w.heap.size ≤ q) (h2:q < F.heap.size):RdV B (tagT T q 77) F rb X st ∧ Chg T (tagT T q 77) w F:=by
 have ht:∀ b,b < w.heap.size → tagT T q 77 b = T b:=fun b hb9 => if_neg (by omega)
 refine ⟨h.mv (Kept.of_below hb) (fun b hb9 _ => ht b hb9) (fun b hn => ?_),Kept.of_below hb,ht⟩
 unfold tagT at hn
 split at hn
 · rename_i e;subst e;exact ⟨Nat.le_trans h.base h1,h2⟩
 · exact ⟨(h.own b hn).1,Nat.lt_of_lt_of_le (h.own b hn).2 hb.size⟩
theorem RdV.wrote {B rb q:Nat} {T:Nat → Nat} {w F:World} {X:RX} {st:RS} (h:RdV B (tagT T q 77) w rb X st) (hk:Kept (oneBlk q) w F) (h0:T q = 0):RdV B T F rb X st:=by
 have hq:tagT T q 77 q = 77:=if_pos rfl
 refine h.mv (hk.mono (fun b _ e => by rw [show b = q from e,hq])) (fun b _ h7 => ?_) (fun b hn => ?_)
 · have:b ≠ q:=fun e => h7 (by rw [e,hq])
   exact (if_neg this).symm
 · have hb:b ≠ q:=fun e => hn (by rw [e,h0])
   have e9:tagT T q 77 b = T b:=if_neg hb
   have:=h.own b (by rw [e9];exact hn)
   exact ⟨this.1,Nat.lt_of_lt_of_le this.2 hk.size⟩
theorem RdV.chg1 {B rb:Nat} {T:Nat → Nat} {w F:World} {X:RX} {st:RS} (h:RdV B T w rb X st) (hk:Kept (oneBlk rb) w F):Chg T T w F:=
 ⟨hk.mono (fun k _ e => by rw [show k = rb from e,h.rt];decide),fun _ _ => rfl⟩
theorem RdV.ws1 {B rb:Nat} {T:Nat → Nat} {w F:World} {X:RX} {st:RS} (h:RdV B T w rb X st) (hk:Kept (oneBlk rb) w F):WsV T F X.wv st.ws:=h.words.keep (h.chg1 hk)
def RdP (B:Nat) (T:Nat → Nat) (w:World) (rb:Nat) (st:RS) (w':World):Prop:=∃ T' X',RdV B T' w' rb X' st ∧ Chg T T' w w'
theorem rd18 {w:World} {b:Nat} {x0 x1 x2 x3 x4 x5 x6 x7 x8 x9 x10 x11 x12 x13 x14 x15 x16 x17:Value} {T:TypeId} (h:w.heap[b]? = some (.cells #[x0,x1,x2,x3,x4,x5,x6,x7,x8,x9,x10,x11,x12,x13,x14,x15,x16,x17] T (0,0))) :
 w.cell? ⟨b,0,none⟩ = some x0 ∧ w.cell? ⟨b,1,none⟩ = some x1 ∧ w.cell? ⟨b,2,none⟩ = some x2 ∧ w.cell? ⟨b,3,none⟩ = some x3 ∧ w.cell? ⟨b,4,none⟩ = some x4 ∧ w.cell? ⟨b,5,none⟩ = some x5 ∧ w.cell? ⟨b,6,none⟩ = some x6 ∧ w.cell? ⟨b,7,none⟩ = some x7 ∧ w.cell? ⟨b,8,none⟩ = some x8 ∧ w.cell? ⟨b,9,none⟩ = some x9 ∧ w.cell? ⟨b,10,none⟩ = some x10 ∧ w.cell? ⟨b,15,none⟩ = some x15 ∧ w.cell? ⟨b,16,none⟩ = some x16 ∧ w.cell? ⟨b,17,none⟩ = some x17:=
 ⟨blk_cell h rfl,blk_cell h rfl,blk_cell h rfl,blk_cell h rfl,blk_cell h rfl,blk_cell h rfl,blk_cell h rfl,blk_cell h rfl,blk_cell h rfl,blk_cell h rfl,blk_cell h rfl,blk_cell h rfl,blk_cell h rfl,blk_cell h rfl⟩
end Go.Proofs.YtfhokapfkclckaaGreat
namespace Go.Proofs.YtfhokapfkclckaaGreat
open Go.RowKit Go.Maps Go.Sort
structure MkS (w:World) (sb mb N:Nat) (out:List Int):Prop where
 sl:w.heap[sb]? = some (.cells #[.slice (some ⟨mb,0,none⟩) N N] 50)
 row:MkB w mb N out
 ne:sb ≠ mb
section
variable {w u:World} {sb mb N:Nat} {out:List Int}
theorem MkS.keep (h:MkS w sb mb N out) (hu:Below w.heap.size w u):MkS u sb mb N out:=⟨hs_keep h.sl hu,h.row.keep hu,h.ne⟩
theorem MkS.c0 (h:MkS w sb mb N out):w.cell? ⟨sb,0,none⟩ = some (.slice (some ⟨mb,0,none⟩) N N):=blk_cell h.sl rfl
theorem MkS.set (h:MkS w sb mb N out) {s:Int} (hs:0 ≤ s) (hN:s.toNat < N):MkS (w.setCell ⟨mb,s.toNat,none⟩ (.bool true)) sb mb N (out ++ [s]):=
 ⟨(set_kept (rb:=mb)).blk h.sl h.ne,h.row.set hs hN,h.ne⟩
end
set_option maxRecDepth 20000 in
set_option maxHeartbeats 8000000 in
theorem staysC (sb mb N:Nat) (out:List Int) (s:Int) (w:World) (h:MkS w sb mb N out) (_:N ≤ 1000) (h0:0 ≤ s) (hs:s.toNat < N) :
 Calls Tryz.prog 48 #[.int .i64 s,ptr0 sb] w fun e w' => e = .returned (.bool (!out.contains s)) ∧ w' = w:=by
 have c0:=h.c0
 have c1:=h.row.at h0 hs
 obtain ⟨j,rfl⟩:∃ j:Nat,s = (j:Int):=⟨s.toNat,by omega⟩
 rw [Int.toNat_natCast] at c1 hs
 clear h
 generalize out.contains (j:Int) = b at *
 go_enter Tryz.func48,Tryz.ntmps48
 go_wp2
 go_ret
 exact ⟨by cases b <;> rfl,rfl⟩
abbrev staysV (sb:Nat):Value:=.func (.func 48) #[] #[ptr0 sb]
set_option maxRecDepth 20000 in
set_option maxHeartbeats 8000000 in
theorem idxStays (sb:Nat) (P:Int → Bool) (v:Value) (l:List Int) (w:World) (hN:Nums w v l) (hll:l.length ≤ 1000) (hG:∀ k (hk:k < l.length),Calls Tryz.prog 48 #[.int .i64 l[k],ptr0 sb] w fun e w' => e = .returned (.bool (P l[k])) ∧ w' = w) :
 Calls Tryz.prog 51 #[v,staysV sb] w fun e w' => ∃ i:Int,e = .returned (.int .i64 i) ∧ decide (0 ≤ i) = l.any P ∧ w' = w:=by
 obtain ⟨va,vc,rfl,-⟩:=id hN
 have hNm:Hid (∀ k (hk:k < l.length),∃ b o,va = some ⟨b,o,none⟩ ∧ w.cell? ⟨b,o + k,none⟩ = some (.int .i64 l[k])):=hid (fun k hk => by
  obtain ⟨b,o,cap,e,_,_,hc⟩:=hN.at (by omega)
  injection e with e1 _ _
  exact ⟨b,o,e1,hc k hk⟩)
 have G:=hid hG
 have hyes:Hid (∀ k (hk:k < l.length),P l[k] = true → l.any P = true):=hid (fun k hk h => List.any_eq_true.2 ⟨_,List.getElem_mem hk,h⟩)
 have hno:Hid ((∀ k (hk:k < l.length),P l[k] = false) → l.any P = false):=hid (fun h => by
  rw [List.any_eq_false]
  intro x hx
  obtain ⟨k,hk,rfl⟩:=List.getElem_of_mem hx
  rw [h k hk]
  decide)
 generalize l.any P = R at *
 obtain ⟨n,hn⟩:∃ n,Hid (l.length = n):=⟨_,hid rfl⟩
 rw [hn.out] at hll ⊢
 clear hN hG
 go_enter Tryz.func51,Tryz.ntmps51
 go_wp2
 go_loopw [8] (fun i wr => ∃ k:Nat,k ≤ n ∧ i = .int .i64 (k:Int) ∧ Hid (∀ j (hj:j < l.length),j < k → P l[j] = false) ∧ wr = w) (fun i _ => n - (intOf i).toNat)
 case atStart => exact ⟨0,Nat.zero_le _,rfl,hid (fun _ _ h => absurd h (Nat.not_lt_zero _)),rfl⟩
 case round =>
  obtain ⟨k,hk,rfl,hI,rfl⟩:=hrel
  by_cases hlt:k < n
  · have hltz:(k:Int) < (n:Int):=by omega
    have hkl:k < l.length:=by rw [hn.out];exact hlt
    obtain ⟨b,o,rfl,c0⟩:=hNm.out k hkl
    have G1:=hid (G.out k hkl)
    have hy:=hid (hyes.out k hkl)
    have hmore:Hid (P l[k] = false → ∀ j (hj:j < l.length),j < k + 1 → P l[j] = false):=hid (fun h j hj h9 => by
     rcases Nat.lt_or_ge j k with h8 | h8
     · exact hI.out j hj h8
     · obtain rfl:j = k:=by omega
       exact h)
    clear hI hyes hno hNm G
    generalize l[k] = s at *
    cases hb:P s with
    | false =>
     have hm9:=hid (hmore.out hb)
     rw [hb] at G1
     clear hmore hy hb
     go_wp2_with (go_at_call 48;refine G1.out.mono ?_;clear G1;rintro e w4 ⟨rfl,hc4⟩;subst w4)
     go_roundw
     case rel => exact ⟨k + 1,by omega,by go_num,hm9,by first | rfl | trivial⟩
     case measure => simp [intOf];omega
    | true =>
     obtain rfl:=hy.out hb
     rw [hb] at G1
     clear hmore hy hb
     go_wp2_with (go_at_call 48;refine G1.out.mono ?_;clear G1;rintro e w4 ⟨rfl,hc4⟩;subst w4)
     go_ret
     exact ⟨_,rfl,decide_eq_true (by omega),rfl⟩
  · have hltz:¬ (k:Int) < (n:Int):=by omega
    obtain rfl:=hno.out (fun j hj => hI.out j hj (by rw [hn.out] at hj;omega))
    go_wp2
    go_ret
    exact ⟨_,rfl,by decide,rfl⟩
set_option maxRecDepth 20000 in
set_option maxHeartbeats 8000000 in
theorem hasStays (sb:Nat) (P:Int → Bool) (v:Value) (l:List Int) (w:World) (hN:Nums w v l) (hll:l.length ≤ 1000) (hG:∀ k (hk:k < l.length),Calls Tryz.prog 48 #[.int .i64 l[k],ptr0 sb] w fun e w' => e = .returned (.bool (P l[k])) ∧ w' = w) :
 Calls Tryz.prog 31 #[v,staysV sb] w fun e w' => e = .returned (.bool (l.any P)) ∧ w' = w:=by
 have G:=hid (idxStays sb P v l w hN hll hG)
 generalize l.any P = R at *
 obtain ⟨va,vc,rfl,-⟩:=id hN
 clear hN hG
 generalize l.length = n at *
 go_enter Tryz.func31,Tryz.ntmps31
 go_wp2_with (go_at_call 51;refine G.out.mono ?_;clear G;rintro e w4 ⟨i,rfl,hi,hc4⟩;subst w4)
 go_ret
 exact ⟨by first | (rw [← hi];rfl) | (rw [← hi];simp),rfl⟩
end Go.Proofs.YtfhokapfkclckaaGreat
namespace Go.Proofs.YtfhokapfkclckaaGreat
open Go.RowKit Go.Maps
set_option maxRecDepth 20000 in
theorem letterC (b:Nat) (w:World) (hb:b < 256):Calls Tryz.prog 72 #[.int .u8 (b:Int)] w fun e w' => e = .returned (.bool (letB b)) ∧ w' = w:=by
 rcases (show b = 95 ∨ (65 ≤ b ∧ b ≤ 90) ∨ (97 ≤ b ∧ b ≤ 122) ∨ b < 65 ∨ (90 < b ∧ b < 97 ∧ b ≠ 95) ∨ 122 < b by omega) with h | h | h | h | h | h
 · rw [letB_yes (by omega)]
   subst h
   go_enter Tryz.func72,Tryz.ntmps72
   go_wp2
   go_ret
   exact ⟨by simp,rfl⟩
 · rw [letB_yes (by omega)]
   have h1:((b:Int) == 95) = false:=by rw [beq_eq_false_iff_ne];omega
   have h2:(65:Int) ≤ (b:Int):=by omega
   have h3:(b:Int) ≤ 90:=by omega
   go_enter Tryz.func72,Tryz.ntmps72
   go_wp2
   go_ret
   exact ⟨by simp,rfl⟩
 · rw [letB_yes (by omega)]
   have h1:((b:Int) == 95) = false:=by rw [beq_eq_false_iff_ne];omega
   have h2:(65:Int) ≤ (b:Int):=by omega
   have h3:¬ (b:Int) ≤ 90:=by omega
   have h4:(97:Int) ≤ (b:Int):=by omega
   have h5:(b:Int) ≤ 122:=by omega
   go_enter Tryz.func72,Tryz.ntmps72
   go_wp2
   go_ret
   exact ⟨by simp,rfl⟩
 · rw [letB_no (by omega)]
   have h1:((b:Int) == 95) = false:=by rw [beq_eq_false_iff_ne];omega
   have h2:¬ (65:Int) ≤ (b:Int):=by omega
   have h4:¬ (97:Int) ≤ (b:Int):=by omega
   go_enter Tryz.func72,Tryz.ntmps72
   go_wp2
   go_ret
   exact ⟨by simp,rfl⟩
 · rw [letB_no (by omega)]
   have h1:((b:Int) == 95) = false:=by rw [beq_eq_false_iff_ne];omega
   have h2:(65:Int) ≤ (b:Int):=by omega
   have h3:¬ (b:Int) ≤ 90:=by omega
   have h4:¬ (97:Int) ≤ (b:Int):=by omega
   go_enter Tryz.func72,Tryz.ntmps72
   go_wp2
   go_ret
   exact ⟨by simp,rfl⟩
 · rw [letB_no (by omega)]
   have h1:((b:Int) == 95) = false:=by rw [beq_eq_false_iff_ne];omega
   have h2:(65:Int) ≤ (b:Int):=by omega
   have h3:¬ (b:Int) ≤ 90:=by omega
   have h4:(97:Int) ≤ (b:Int):=by omega
   have h5:¬ (b:Int) ≤ 122:=by omega
   go_enter Tryz.func72,Tryz.ntmps72
   go_wp2
   go_ret
   exact ⟨by simp,rfl⟩
theorem kw_yes {t:Txt} (h:t = kTok ∨ t = kSkip ∨ t = kLeft ∨ t = kRight ∨ t = kNone ∨ t = kStart):kwB t = true:=by
 rcases h with rfl | rfl | rfl | rfl | rfl | rfl <;> decide
theorem kw_no {t:Txt} (h1:¬ t = kTok) (h2:¬ t = kSkip) (h3:¬ t = kLeft) (h4:¬ t = kRight) (h5:¬ t = kNone) (h6:¬ t = kStart):kwB t = false:=by
 unfold kwB sdN
 rw [decide_eq_false h1,decide_eq_false h2,decide_eq_false h6,if_neg h3,if_neg h4,if_neg h5]
 rfl
theorem strT_is3 {t u:Txt} (h:t = u):((strT t).toList == u) = true:=by rw [h,strT_toL,beq_self_eq_true]
theorem strT_isnt3 {t u:Txt} (h:¬ t = u):((strT t).toList == u) = false:=by rw [strT_toL,beq_eq_false_iff_ne];exact h
set_option maxRecDepth 20000 in
set_option maxHeartbeats 4000000 in
theorem reservedC (t:Txt) (w:World):Calls Tryz.prog 71 #[.string (strT t)] w fun e w' => e = .returned (.bool (kwB t)) ∧ w' = w:=by
 by_cases h1:t = kTok
 · have hb1:((strT t).toList == ([116,111,107,101,110]:Txt)) = true:=strT_is3 h1
   rw [kw_yes (.inl h1)]
   clear h1
   generalize strT t = S at *
   go_enter Tryz.func71,Tryz.ntmps71
   go_wp2_with fail
   go_ret
   exact ⟨by first | rfl | simp,rfl⟩
 have hb1:((strT t).toList == ([116,111,107,101,110]:Txt)) = false:=strT_isnt3 h1
 by_cases h2:t = kSkip
 · have hb2:((strT t).toList == ([115,107,105,112]:Txt)) = true:=strT_is3 h2
   rw [kw_yes (.inr (.inl h2))]
   clear h1 h2
   generalize strT t = S at *
   go_enter Tryz.func71,Tryz.ntmps71
   go_wp2_with fail
   go_ret
   exact ⟨by first | rfl | simp,rfl⟩
 have hb2:((strT t).toList == ([115,107,105,112]:Txt)) = false:=strT_isnt3 h2
 by_cases h3:t = kLeft
 · have hb3:((strT t).toList == ([108,101,102,116]:Txt)) = true:=strT_is3 h3
   rw [kw_yes (.inr (.inr (.inl h3)))]
   clear h1 h2 h3
   generalize strT t = S at *
   go_enter Tryz.func71,Tryz.ntmps71
   go_wp2_with fail
   go_ret
   exact ⟨by first | rfl | simp,rfl⟩
 have hb3:((strT t).toList == ([108,101,102,116]:Txt)) = false:=strT_isnt3 h3
 by_cases h4:t = kRight
 · have hb4:((strT t).toList == ([114,105,103,104,116]:Txt)) = true:=strT_is3 h4
   rw [kw_yes (.inr (.inr (.inr (.inl h4))))]
   clear h1 h2 h3 h4
   generalize strT t = S at *
   go_enter Tryz.func71,Tryz.ntmps71
   go_wp2_with fail
   go_ret
   exact ⟨by first | rfl | simp,rfl⟩
 have hb4:((strT t).toList == ([114,105,103,104,116]:Txt)) = false:=strT_isnt3 h4
 by_cases h5:t = kNone
 · have hb5:((strT t).toList == ([110,111,110,101]:Txt)) = true:=strT_is3 h5
   rw [kw_yes (.inr (.inr (.inr (.inr (.inl h5)))))]
   clear h1 h2 h3 h4 h5
   generalize strT t = S at *
   go_enter Tryz.func71,Tryz.ntmps71
   go_wp2_with fail
   go_ret
   exact ⟨by first | rfl | simp,rfl⟩
 have hb5:((strT t).toList == ([110,111,110,101]:Txt)) = false:=strT_isnt3 h5
 by_cases h6:t = kStart
 · have hb6:((strT t).toList == ([115,116,97,114,116]:Txt)) = true:=strT_is3 h6
   rw [kw_yes (.inr (.inr (.inr (.inr (.inr (h6))))))]
   clear h1 h2 h3 h4 h5 h6
   generalize strT t = S at *
   go_enter Tryz.func71,Tryz.ntmps71
   go_wp2_with fail
   go_ret
   exact ⟨by first | rfl | simp,rfl⟩
 have hb6:((strT t).toList == ([115,116,97,114,116]:Txt)) = false:=strT_isnt3 h6
 rw [kw_no h1 h2 h3 h4 h5 h6]
 clear h1 h2 h3 h4 h5 h6
 generalize strT t = S at *
 go_enter Tryz.func71,Tryz.ntmps71
 go_wp2_with fail
 go_ret
 exact ⟨by first | rfl | simp,rfl⟩
theorem namB_bad {s:Txt} {i:Nat} (h:i < s.length) (h1:letB s[i].toNat = false) (h2:i = 0 ∨ digB s[i].toNat = false):namB s = false:=by
 rw [Bool.eq_false_iff]
 intro hn
 unfold namB at hn
 simp only [Bool.and_eq_true,decide_eq_true_eq,List.all_eq_true] at hn
 obtain ⟨⟨⟨-,h3⟩,h4⟩,-⟩:=hn
 rcases h2 with rfl | h2
 · cases s with
   | nil => cases h
   | cons c r =>
    have h1:letB c.toNat = false:=h1
    have h3:letB c.toNat = true:=h3
    rw [h1] at h3
    cases h3
 · have:=h4 _ (List.getElem_mem h)
   rw [h1,h2] at this
   cases this
theorem namB_good {s:Txt} (h0:1 ≤ s.length) (h16:s.length ≤ 16) (hk:kwB s = false) (h:∀ i (hi:i < s.length),letB s[i].toNat = true ∨ (i ≠ 0 ∧ digB s[i].toNat = true)):namB s = true:=by
 refine namB_of ⟨h16,?_,fun c hc => ?_⟩ hk
 · cases s with
   | nil => cases h0
   | cons c r =>
    rcases h 0 (by simp) with h1 | h1
    · exact ⟨c,r,rfl,h1⟩
    · exact absurd rfl h1.1
 · obtain ⟨i,hi,rfl⟩:=List.getElem_of_mem hc
   rcases h i hi with h1 | h1
   · rw [h1,Bool.true_or]
   · rw [h1.2,Bool.or_true]
theorem digB_yes {c:Nat} (h1:48 ≤ c) (h2:c ≤ 57):digB c = true:=by unfold digB;rw [decide_eq_true h1,decide_eq_true h2];rfl
theorem digB_no {c:Nat} (h:¬ (48 ≤ c ∧ c ≤ 57)):digB c = false:=by
 unfold digB
 by_cases h1:48 ≤ c
 · rw [decide_eq_true h1,decide_eq_false (fun h2 => h ⟨h1,h2⟩)];rfl
 · rw [decide_eq_false h1];rfl
set_option maxRecDepth 20000 in
set_option maxHeartbeats 8000000 in
theorem namedC (s:Txt) (w:World) (hs:s.length ≤ 1000000):Calls Tryz.prog 50 #[.string (strT s)] w fun e w' => e = .returned (.bool (namB s)) ∧ w' = w:=by
 have hsz:=strT_size s
 have GL:=hid (fun (c:Nat) (hc:c < 256) (u:World) => letterC c u hc)
 have GK:=hid (reservedC s w)
 rcases Nat.lt_or_ge s.length 1 with h1 | h1
 · have hz:((strT s).size:Int) < 1:=by omega
   have hn:namB s = false:=by
    have:s = []:=List.eq_nil_of_length_eq_zero (by omega)
    rw [this];rfl
   rw [hn]
   clear GK GL hn hsz
   go_enter Tryz.func50,Tryz.ntmps50
   go_wp2
   go_ret
   exact ⟨rfl,rfl⟩
 have hz1:¬ ((strT s).size:Int) < 1:=by omega
 rcases Nat.lt_or_ge 16 s.length with h2 | h2
 · have hz:(16:Int) < ((strT s).size:Int):=by omega
   have hn:namB s = false:=by unfold namB;rw [decide_eq_false (by omega)];rfl
   rw [hn]
   clear GK GL hn hsz
   go_enter Tryz.func50,Tryz.ntmps50
   go_wp2
   go_ret
   exact ⟨rfl,rfl⟩
 have hz2:¬ (16:Int) < ((strT s).size:Int):=by omega
 cases hk:kwB s with
 | true =>
  have hn:namB s = false:=by unfold namB;rw [hk];simp
  rw [hn]
  rw [hk] at GK
  clear GL hn hsz hk
  go_enter Tryz.func50,Tryz.ntmps50
  go_wp2_with (go_at_call 71;refine GK.out.mono ?_;clear GK;rintro e w2 ⟨rfl,hc2⟩;subst w2)
  go_ret
  exact ⟨rfl,rfl⟩
 | false =>
  rw [hk] at GK
  have hgood:=hid (fun h => namB_good h1 h2 hk h)
  have hbad:=hid (fun i (h:i < s.length) h1 h2 => namB_bad h h1 h2)
  clear hk
  generalize namB s = R at *
  go_enter Tryz.func50,Tryz.ntmps50
  go_wp2_with (go_at_call 71;refine GK.out.mono ?_;clear GK;rintro e w2 ⟨rfl,hc2⟩;subst w2)
  go_loopw [3] (fun x wr => ∃ p:Nat,p ≤ s.length ∧ x = .int .i64 (p:Int) ∧ Hid (∀ i (hi:i < s.length),i < p → letB s[i].toNat = true ∨ (i ≠ 0 ∧ digB s[i].toNat = true)) ∧ wr = w) (fun x _ => s.length - (intOf x).toNat)
  case atStart => exact ⟨0,Nat.zero_le _,rfl,hid (fun i _ h => absurd h (Nat.not_lt_zero _)),rfl⟩
  case round =>
   obtain ⟨p,hp,rfl,hI,rfl⟩:=hrel
   by_cases hpt:p < s.length
   · have hptz:(p:Int) < ((strT s).size:Int):=by omega
     have hptn:p < (strT s).size:=by omega
     have key:=str_get hpt hptn
     have hgd:s.getD p 0 = s[p]:=by rw [List.getD_eq_getElem?_getD,List.getElem?_eq_getElem hpt];rfl
     rw [hgd] at key
     have hcb:=s[p].toNat_lt
     have G:=hid (GL.out s[p].toNat hcb wr)
     have hb1:=hid (fun h1 h2 => hbad.out p hpt h1 h2)
     have hst:Hid ((letB s[p].toNat = true ∨ (p ≠ 0 ∧ digB s[p].toNat = true)) → ∀ i (hi:i < s.length),i < p + 1 → letB s[i].toNat = true ∨ (i ≠ 0 ∧ digB s[i].toNat = true)):=hid (fun h i hi h9 => by
      rcases Nat.lt_or_ge i p with h8 | h8
      · exact hI.out i hi h8
      · obtain rfl:i = p:=by omega
        exact h)
     clear hgd hI hbad
     generalize s[p].toNat = c at *
     have hdig:(48 ≤ c ∧ c ≤ 57) ∨ c < 48 ∨ 57 < c:=by omega
     cases hl:letB c with
     | true =>
      rw [hl] at G
      have hn9:=hid (hst.out (.inl hl))
      clear hst hb1 hl
      rcases hdig with ⟨d1,d2⟩ | d1 | d1
      · have e1:(48:Int) ≤ (c:Int):=by omega
        have e2:(c:Int) ≤ 57:=by omega
        go_wp2_with (go_at_call 72;refine G.out.mono ?_;clear G;rintro e w2 ⟨rfl,hc2⟩;subst w2)
        go_roundw
        case rel => exact ⟨p + 1,by omega,by go_num,hn9,by first | rfl | trivial⟩
        case measure => simp [intOf];omega
      · have e1:¬ (48:Int) ≤ (c:Int):=by omega
        go_wp2_with (go_at_call 72;refine G.out.mono ?_;clear G;rintro e w2 ⟨rfl,hc2⟩;subst w2)
        go_roundw
        case rel => exact ⟨p + 1,by omega,by go_num,hn9,by first | rfl | trivial⟩
        case measure => simp [intOf];omega
      · have e1:(48:Int) ≤ (c:Int):=by omega
        have e2:¬ (c:Int) ≤ 57:=by omega
        go_wp2_with (go_at_call 72;refine G.out.mono ?_;clear G;rintro e w2 ⟨rfl,hc2⟩;subst w2)
        go_roundw
        case rel => exact ⟨p + 1,by omega,by go_num,hn9,by first | rfl | trivial⟩
        case measure => simp [intOf];omega
     | false =>
      rw [hl] at G
      rcases Nat.eq_zero_or_pos p with h0 | h0
      · obtain rfl:=hb1.out hl (.inl h0)
        have h0z:((p:Int) == 0) = true:=by rw [h0];rfl
        clear hst hb1 hl h0
        rcases hdig with ⟨d1,d2⟩ | d1 | d1
        · have e1:(48:Int) ≤ (c:Int):=by omega
          have e2:(c:Int) ≤ 57:=by omega
          go_wp2_with (go_at_call 72;refine G.out.mono ?_;clear G;rintro e w2 ⟨rfl,hc2⟩;subst w2)
          go_ret
          exact ⟨rfl,rfl⟩
        · have e1:¬ (48:Int) ≤ (c:Int):=by omega
          go_wp2_with (go_at_call 72;refine G.out.mono ?_;clear G;rintro e w2 ⟨rfl,hc2⟩;subst w2)
          go_ret
          exact ⟨rfl,rfl⟩
        · have e1:(48:Int) ≤ (c:Int):=by omega
          have e2:¬ (c:Int) ≤ 57:=by omega
          go_wp2_with (go_at_call 72;refine G.out.mono ?_;clear G;rintro e w2 ⟨rfl,hc2⟩;subst w2)
          go_ret
          exact ⟨rfl,rfl⟩
      · have h0z:((p:Int) == 0) = false:=by rw [beq_eq_false_iff_ne];omega
        rcases hdig with ⟨d1,d2⟩ | d1 | d1
        · have e1:(48:Int) ≤ (c:Int):=by omega
          have e2:(c:Int) ≤ 57:=by omega
          have hn9:=hid (hst.out (.inr ⟨by omega,digB_yes d1 d2⟩))
          clear hst hb1 hl
          go_wp2_with (go_at_call 72;refine G.out.mono ?_;clear G;rintro e w2 ⟨rfl,hc2⟩;subst w2)
          go_roundw
          case rel => exact ⟨p + 1,by omega,by go_num,hn9,by first | rfl | trivial⟩
          case measure => simp [intOf];omega
        · have e1:¬ (48:Int) ≤ (c:Int):=by omega
          obtain rfl:=hb1.out hl (.inr (digB_no (by omega)))
          clear hst hb1 hl
          go_wp2_with (go_at_call 72;refine G.out.mono ?_;clear G;rintro e w2 ⟨rfl,hc2⟩;subst w2)
          go_ret
          exact ⟨rfl,rfl⟩
        · have e1:(48:Int) ≤ (c:Int):=by omega
          have e2:¬ (c:Int) ≤ 57:=by omega
          obtain rfl:=hb1.out hl (.inr (digB_no (by omega)))
          clear hst hb1 hl
          go_wp2_with (go_at_call 72;refine G.out.mono ?_;clear G;rintro e w2 ⟨rfl,hc2⟩;subst w2)
          go_ret
          exact ⟨rfl,rfl⟩
   · have hptz:¬ (p:Int) < ((strT s).size:Int):=by omega
     obtain rfl:=hgood.out (fun i hi => hI.out i hi (by omega))
     go_wp2
     go_ret
     exact ⟨rfl,rfl⟩
end Go.Proofs.YtfhokapfkclckaaGreat
