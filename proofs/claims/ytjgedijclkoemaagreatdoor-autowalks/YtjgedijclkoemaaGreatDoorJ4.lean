/- What the five laws of layer 17 share, part 4: no statement of its own. -/
import Derived.Test.YtjgedijclkoemaaGreatDoorJ3
import Derived.BigQuiet
import Derived.Laws.BytesString
namespace Go.Proofs.YtjgedijclkoemaaGreatDoor
open Go.RowKit
def e_ (s:Txt):ByteArray:=⟨s.toArray⟩
theorem o_ (s:Txt):(e_ s).size=s.length:=by simp [e_,ByteArray.size]
theorem b2j (s:Txt) (k:Nat) (_h:k<(e_ s).size) (h':k<s.length):(e_ s)[k]=s[k]:=by
 show s.toArray[k]=_
 simp
structure Kept (F:Nat→Prop) (w w':World):Prop where
 os:w'.os=w.os
 tape:w'.tape=w.tape
 output:w'.output=w.output
 size:w.heap.size≤w'.heap.size
 block:∀ k,k<w.heap.size→¬ F k→w'.heap[k]?=w.heap[k]?
def a7z:Nat→Prop:=fun _=>False
def f_ (b:Nat):Nat→Prop:=fun k=>k=b
theorem u_ {w:World} {b:Nat} {x:Obj} (h:w.heap[b]?=some x):b<w.heap.size:=by
 rcases Nat.lt_or_ge b w.heap.size with h1 | h1
 · exact h1
 · rw [Array.getElem?_eq_none h1] at h;cases h
theorem c_ {w:World} {b:Nat} {cs:Array Value} {T:TypeId} {fr:Nat×Nat} (h:w.heap[b]?=some (.cells cs T fr)) {o:Nat} {v:Value} (hv:cs[o]?=some v):w.cell? ⟨b,o,none⟩=some v:=by
 simp [World.cell?,h,hv]
theorem i_ {w:World} {b:Nat} {cs:Array Value} {T:TypeId} (h:w.heap[b]?=some (.cells cs T (0,0))) (o:Nat):w.frozen? ⟨b,o,none⟩=false:=by
 simp [World.frozen?,h]
theorem Kept.refl (F:Nat→Prop) (w:World):Kept F w w:=⟨rfl,rfl,rfl,Nat.le_refl _,fun _ _ _=>rfl⟩
theorem Kept.mono {F G:Nat→Prop} {w w':World} (h:Kept F w w') (hFG:∀ k,k<w.heap.size→F k→G k):Kept G w w':=
 ⟨h.os,h.tape,h.output,h.size,fun k hk hn=>h.block k hk (fun hf=>hn (hFG k hk hf))⟩
theorem Kept.step {F G:Nat→Prop} {w u v:World} (h:Kept F w u) (h2:Kept G u v) (hG:∀ k,k<w.heap.size→G k→F k):Kept F w v:=
 ⟨h2.os.trans h.os,h2.tape.trans h.tape,h2.output.trans h.output,Nat.le_trans h.size h2.size,fun k hk hn =>
  (h2.block k (Nat.lt_of_lt_of_le hk h.size) (fun hg=>hn (hG k hk hg))).trans (h.block k hk hn)⟩
theorem Kept.trans {F:Nat→Prop} {w u v:World} (h:Kept F w u) (h2:Kept F u v):Kept F w v:=h.step h2 fun _ _ h=>h
theorem Kept.of_below {w w':World} (h:Below w.heap.size w w') {F:Nat→Prop}:Kept F w w':=⟨h.os,h.tape,h.output,h.size,fun k hk _=>h.block k hk⟩
theorem Kept.none {w w':World} (h:Kept a7z w w'):Below w.heap.size w w':=⟨h.os,h.tape,h.output,h.size,fun k hk=>h.block k hk id⟩
theorem Kept.below {F:Nat→Prop} {N:Nat} {w w':World} (h:Kept F w w') (hF:∀ k,F k→N≤k) (hN:N≤w.heap.size):Below N w w':=
 ⟨h.os,h.tape,h.output,h.size,fun k hk=>h.block k (Nat.lt_of_lt_of_le hk hN) fun hf=>Nat.lt_irrefl k (Nat.lt_of_lt_of_le hk (hF k hf))⟩
theorem Kept.setCell {F:Nat→Prop} {w u:World} (h:Kept F w u) {a:Addr} {v:Value} (ha:a.block<w.heap.size→F a.block):Kept F w (u.setCell a v):=
 ⟨h.os,h.tape,h.output,by simpa using h.size,fun k hk hn=>by
  rw [Below.heap_setCell u a v k (fun e=>hn (e▸ha (e▸hk)))];exact h.block k hk hn⟩
theorem Kept.blk {F:Nat→Prop} {w w':World} (h:Kept F w w') {b:Nat} {x:Obj} (hx:w.heap[b]?=some x) (hn:¬ F b):w'.heap[b]?=some x:=(h.block b (u_ hx) hn).trans hx
end Go.Proofs.YtjgedijclkoemaaGreatDoor
