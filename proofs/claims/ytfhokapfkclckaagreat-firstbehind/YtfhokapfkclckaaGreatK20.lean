/- Package first, the maths: lists of sets that grow, round by round. Package first, the maths: what symbols begin with. Package first, the maths: what may stand behind a symbol. Package first: lists of numbers in a made block, marks of symbols in memory. -/
import Derived.Test.YtfhokapfkclckaaGreatK19
namespace Go.Proofs.YtfhokapfkclckaaGreat
def atB (B:List (List Int)) (s:Int):List Int:=B.getD s.toNat []
def jnB (B:List (List Int)) (s:Int) (m:List Int):List (List Int):=B.set s.toNat (ofL (atB B s ++ m))
def totB:List (List Int) → Nat
 | [] => 0
 | l :: r => l.length + totB r
theorem atB_set {B:List (List Int)} {s n:Int} {l:List Int} (hs:0 ≤ s) (hn:0 ≤ n) (hl:s.toNat < B.length):atB (B.set s.toNat l) n = if n = s then l else atB B n:=by
 unfold atB
 rw [List.getD_eq_getElem?_getD,List.getD_eq_getElem?_getD]
 by_cases e:n = s
 · subst e
   rw [if_pos rfl,List.getElem?_set_self hl,Option.getD_some]
 · rw [if_neg e,List.getElem?_set_ne (by omega)]
theorem atB_jn {B:List (List Int)} {s n:Int} {m:List Int} (hs:0 ≤ s) (hn:0 ≤ n) (hl:s.toNat < B.length):atB (jnB B s m) n = if n = s then ofL (atB B s ++ m) else atB B n:=atB_set hs hn hl
theorem jnB_len (B:List (List Int)) (s:Int) (m:List Int):(jnB B s m).length = B.length:=List.length_set
theorem totB_set:∀ {B:List (List Int)} {k:Nat} {l:List Int},k < B.length → totB (B.set k l) + (B.getD k []).length = totB B + l.length
 | [],_,_,h => absurd h (Nat.not_lt_zero _)
 | b :: r,0,l,_ => by
  show l.length + totB r + b.length = b.length + totB r + l.length
  omega
 | b :: r,k + 1,l,h => by
  have:=totB_set (B:=r) (k:=k) (l:=l) (by rw [List.length_cons] at h;omega)
  show b.length + totB (r.set k l) + (r.getD k []).length = b.length + totB r + l.length
  omega
theorem totB_le {n:Nat}:∀ {B:List (List Int)},(∀ l ∈ B,l.length ≤ n) → totB B ≤ n * B.length
 | [],_ => Nat.zero_le _
 | l :: r,h => by
  have h1:=totB_le (B:=r) (fun x hx => h x (List.mem_cons_of_mem _ hx))
  have h2:=h l List.mem_cons_self
  rw [List.length_cons,Nat.mul_succ]
  show l.length + totB r ≤ _
  omega
def UpB (B:List (List Int)):Prop:=∀ l ∈ B,Up l
theorem UpB.at {B:List (List Int)} (h:UpB B) (s:Int):Up (atB B s):=by
 unfold atB
 rw [List.getD_eq_getElem?_getD]
 cases e:B[s.toNat]? with
 | none => exact List.Pairwise.nil
 | some l => exact h l (List.mem_of_getElem? e)
theorem UpB.jn {B:List (List Int)} (h:UpB B) (s:Int) (m:List Int):UpB (jnB B s m):=fun l hl => by
 rcases List.mem_or_eq_of_mem_set hl with hl | rfl
 · exact h l hl
 · exact ofL_up _
theorem more_len {l m:List Int} (hl:Up l):l.length ≤ (ofL (l ++ m)).length:=up_sub_len hl (ofL_up _) (fun x hx => (ofL_mem x _).2 (List.mem_append_left _ hx))
theorem up_eq_len:∀ {a b:List Int},Up a → Up b → (∀ x ∈ a,x ∈ b) → b.length ≤ a.length → a = b
 | [],[],_,_,_,_ => rfl
 | [],_ :: _,_,_,_,h => absurd h (Nat.not_succ_le_zero _)
 | x :: s,[],_,_,h,_ => absurd (h x List.mem_cons_self) List.not_mem_nil
 | x :: s,y :: t,ha,hb,h,hl => by
  rw [Up,List.pairwise_cons] at hb
  by_cases e:x = y
  · subst e
    rw [Up,List.pairwise_cons] at ha
    rw [up_eq_len ha.2 hb.2 (fun z hz => by
     rcases List.mem_cons.1 (h z (List.mem_cons_of_mem _ hz)) with e | e
     · subst e;exact absurd (ha.1 _ hz) (by omega)
     · exact e) (by simpa using hl)]
  · have hx:x ∈ t:=by
     rcases List.mem_cons.1 (h x List.mem_cons_self) with h1 | h1
     · exact absurd h1 e
     · exact h1
    have hyx:=hb.1 x hx
    have:=up_sub_len (a:=x :: s) ha hb.2 (fun z hz => by
     rcases List.mem_cons.1 (h z hz) with h1 | h1
     · subst h1
       rcases List.mem_cons.1 hz with h2 | h2
       · omega
       · have:=(List.pairwise_cons.1 ha).1 _ h2;omega
     · exact h1)
    simp only [List.length_cons] at this hl
    omega
theorem more_same {l m:List Int} (hl:Up l) (h:(ofL (l ++ m)).length = l.length):ofL (l ++ m) = l:=
 (up_eq_len hl (ofL_up _) (fun x hx => (ofL_mem x _).2 (List.mem_append_left _ hx)) (by omega)).symm
theorem jnB_tot {B:List (List Int)} (h:UpB B) {s:Int} (hl:s.toNat < B.length) (m:List Int):totB B ≤ totB (jnB B s m):=by
 have h1:=totB_set (l:=ofL (atB B s ++ m)) hl
 have h2:=more_len (m:=m) (h.at s)
 have e:(B.getD s.toNat []).length = (atB B s).length:=rfl
 show totB B ≤ totB (B.set s.toNat (ofL (atB B s ++ m)))
 omega
theorem jnB_more {B:List (List Int)} {s:Int} (hl:s.toNat < B.length) (m:List Int):decide ((atB B s).length < (ofL (atB B s ++ m)).length) = decide (totB B < totB (jnB B s m)):=by
 have h1:=totB_set (l:=ofL (atB B s ++ m)) hl
 have e:(B.getD s.toNat []).length = (atB B s).length:=rfl
 have e2:totB (jnB B s m) = totB (B.set s.toNat (ofL (atB B s ++ m))):=rfl
 apply decide_eq_decide.2
 omega
theorem jnB_still {B:List (List Int)} (h:UpB B) {s:Int} (hl:s.toNat < B.length) {m:List Int} (ht:totB (jnB B s m) = totB B):jnB B s m = B ∧ ∀ x ∈ m,x ∈ atB B s:=by
 have h1:=totB_set (l:=ofL (atB B s ++ m)) hl
 have e:(B.getD s.toNat []).length = (atB B s).length:=rfl
 have e2:totB (jnB B s m) = totB (B.set s.toNat (ofL (atB B s ++ m))):=rfl
 have h2:=more_same (m:=m) (h.at s) (by omega)
 refine ⟨?_,fun x hx => ?_⟩
 · unfold jnB
   rw [h2]
   unfold atB
   rw [List.getD_eq_getElem?_getD,List.getElem?_eq_getElem hl,Option.getD_some,List.set_getElem_self]
 · rw [← h2,ofL_mem]
   exact List.mem_append_right _ hx
theorem fold_tot {α:Type} {f:List (List Int) → α → List (List Int)} {I:List (List Int) → Prop}:∀ (l:List α) (B:List (List Int)),(∀ B x,x ∈ l → I B → I (f B x)) → (∀ B x,x ∈ l → I B → totB B ≤ totB (f B x)) → I B → totB B ≤ totB (l.foldl f B)
 | [],_,_,_,_ => Nat.le_refl _
 | x :: l,B,hI,h1,hB => Nat.le_trans (h1 B x List.mem_cons_self hB) (fold_tot l (f B x) (fun B y hy => hI B y (List.mem_cons_of_mem _ hy)) (fun B y hy => h1 B y (List.mem_cons_of_mem _ hy)) (hI B x List.mem_cons_self hB))
theorem fold_stop {α:Type} {f:List (List Int) → α → List (List Int)} {I:List (List Int) → Prop}:∀ (l:List α) (B:List (List Int)),(∀ B x,x ∈ l → I B → I (f B x)) → (∀ B x,x ∈ l → I B → totB B ≤ totB (f B x)) → (∀ B x,x ∈ l → I B → totB (f B x) = totB B → f B x = B) → I B → totB (l.foldl f B) = totB B → l.foldl f B = B ∧ ∀ x ∈ l,totB (f B x) = totB B
 | [],_,_,_,_,_,_ => ⟨rfl,fun _ h => absurd h List.not_mem_nil⟩
 | x :: l,B,hI,h1,h2,hB,ht => by
  have g1:=h1 B x List.mem_cons_self hB
  have g2:=hI B x List.mem_cons_self hB
  have g3:=fold_tot l (f B x) (fun B y hy => hI B y (List.mem_cons_of_mem _ hy)) (fun B y hy => h1 B y (List.mem_cons_of_mem _ hy)) g2
  rw [List.foldl_cons] at ht
  have g4:totB (f B x) = totB B:=by omega
  have g5:=h2 B x List.mem_cons_self hB g4
  rw [g5] at ht
  obtain ⟨k1,k2⟩:=fold_stop l B (fun B y hy => hI B y (List.mem_cons_of_mem _ hy)) (fun B y hy => h1 B y (List.mem_cons_of_mem _ hy)) (fun B y hy => h2 B y (List.mem_cons_of_mem _ hy)) hB ht
  refine ⟨by rw [List.foldl_cons,g5];exact k1,fun y hy => ?_⟩
  rcases List.mem_cons.1 hy with rfl | hy
  · exact g4
  · exact k2 y hy
def flt (null:List Int) (B:List (List Int)):List Int → List Int
 | [] => []
 | s :: r => atB B s ++ if null.contains s = true then flt null B r else []
def txB (null:List Int) (B:List (List Int)) (t:List Int):List Int:=ofL (flt null B t)
theorem flt_cons (null:List Int) (B:List (List Int)) (s x:Int) (r:List Int):x ∈ flt null B (s :: r) ↔ x ∈ atB B s ∨ (s ∈ null ∧ x ∈ flt null B r):=by
 show x ∈ atB B s ++ (if null.contains s = true then flt null B r else []) ↔ _
 rw [List.mem_append]
 by_cases h:s ∈ null
 · rw [if_pos (List.contains_iff_mem.2 h)]
   simp [h]
 · rw [if_neg (fun e => h (List.contains_iff_mem.1 e))]
   simp [h]
def knP (null:List Int) (B:List (List Int)) (p:Pd):List (List Int):=jnB B p.left (txB null B p.right)
def knR (g:Gm) (null:List Int) (B:List (List Int)):List (List Int):=g.prods.foldl (knP null) B
def iniB (N k:Nat):List (List Int):=(List.range N).map fun i => if 1 ≤ i ∧ i ≤ k then [(i:Int)] else []
theorem iniB_succ {N k:Nat} (hk:k + 1 < N):iniB N (k + 1) = (iniB N k).set (k + 1) [((k + 1:Nat):Int)]:=by
 unfold iniB
 apply List.ext_getElem?
 intro i
 by_cases e:k + 1 = i
 · subst e
   rw [List.getElem?_set_self (by simpa using hk)]
   simp [hk]
 · rw [List.getElem?_set_ne e]
   simp only [List.getElem?_map]
   by_cases hi:i < N
   · rw [List.getElem?_range hi]
     simp only [Option.map_some]
     congr 1
     by_cases h:1 ≤ i ∧ i ≤ k
     · rw [if_pos h,if_pos (by omega)]
     · rw [if_neg h,if_neg (by omega)]
   · rw [List.getElem?_eq_none (by rw [List.length_range];omega)]
     rfl
structure KnI (g:Gm) (B:List (List Int)):Prop where
 len:B.length = g.all + 1
 up:UpB B
 snd:∀ s:Int,0 ≤ s → ∀ x ∈ atB B s,1 ≤ x ∧ x ≤ (g.terms:Int) ∧ Beg g [s] x
 trm:∀ s:Int,1 ≤ s → s ≤ (g.terms:Int) → s ∈ atB B s
theorem terms_all (g:Gm):g.terms ≤ g.all:=by unfold Gm.all;omega
theorem atB_ini {N k:Nat} {s:Int} (hs:0 ≤ s) (hN:s.toNat < N):atB (iniB N k) s = if 1 ≤ s ∧ s ≤ (k:Int) then [s] else []:=by
 unfold atB iniB
 rw [List.getD_eq_getElem?_getD,List.getElem?_map,List.getElem?_range hN,Option.map_some,Option.getD_some]
 by_cases h:1 ≤ s ∧ s ≤ (k:Int)
 · rw [if_pos h,if_pos (by omega),Int.toNat_of_nonneg hs]
 · rw [if_neg h,if_neg (by omega)]
theorem KnI.start (g:Gm):KnI g (iniB (g.all + 1) g.terms) where
 len:=by unfold iniB;simp
 up l hl:=by
  unfold iniB at hl
  rw [List.mem_map] at hl
  obtain ⟨i,-,rfl⟩:=hl
  split
  · exact List.pairwise_singleton _ _
  · exact List.Pairwise.nil
 snd s hs x hx:=by
  by_cases hN:s.toNat < g.all + 1
  · rw [atB_ini hs hN] at hx
    split at hx
    · rename_i h
      rw [List.mem_singleton] at hx
      subst hx
      exact ⟨h.1,h.2,.here _ _⟩
    · exact absurd hx List.not_mem_nil
  · unfold atB at hx
    rw [List.getD_eq_getElem?_getD,List.getElem?_eq_none (by unfold iniB;rw [List.length_map,List.length_range];omega),Option.getD_none] at hx
    exact absurd hx List.not_mem_nil
 trm s h1 h2:=by
  have:=terms_all g
  rw [atB_ini (by omega) (by omega),if_pos ⟨h1,h2⟩]
  exact List.mem_singleton.2 rfl
theorem flt_snd {g:Gm} {null:List Int} {B:List (List Int)} (h:KnI g B) (hv:∀ n ∈ null,Van g n) {x:Int}:∀ {t:List Int},(∀ n ∈ t,0 ≤ n) → x ∈ flt null B t → 1 ≤ x ∧ x ≤ (g.terms:Int) ∧ Beg g t x
 | [],_,hx => absurd hx List.not_mem_nil
 | s :: r,ht,hx => by
  rcases (flt_cons null B s x r).1 hx with hx | ⟨h1,hx⟩
  · obtain ⟨a,b,c⟩:=h.snd s (ht s List.mem_cons_self) x hx
    exact ⟨a,b,c.app_left r⟩
  · obtain ⟨a,b,c⟩:=flt_snd h hv (t:=r) (fun n hn => ht n (List.mem_cons_of_mem _ hn)) hx
    exact ⟨a,b,.past s r x (hv s h1) c⟩
theorem KnI.prod {g:Gm} (hg:SndG g) {null:List Int} {B:List (List Int)} (h:KnI g B) (hv:∀ n ∈ null,Van g n) {p:Pd} (hp:p ∈ g.prods):KnI g (knP null B p):=by
 have hl:=left_sym hg hp
 have hr:=right_sym hg hp
 have hlt:p.left.toNat < B.length:=by rw [h.len];omega
 refine ⟨by unfold knP;rw [jnB_len];exact h.len,h.up.jn _ _,fun s hs x hx => ?_,fun s h1 h2 => ?_⟩
 · unfold knP at hx
   rw [atB_jn (by omega) hs hlt] at hx
   split at hx
   · rename_i e
     subst e
     rw [ofL_mem,List.mem_append] at hx
     rcases hx with hx | hx
     · exact h.snd p.left hs x hx
     · unfold txB at hx
       rw [ofL_mem] at hx
       obtain ⟨a,b,c⟩:=flt_snd h hv (fun n hn => by have:=hr n hn;omega) hx
       exact ⟨a,b,.into _ _ p x hp rfl c⟩
   · exact h.snd s hs x hx
 · unfold knP
   rw [atB_jn (by omega) (by omega) hlt]
   split
   · rename_i e
     subst e
     rw [ofL_mem]
     exact List.mem_append_left _ (h.trm p.left h1 h2)
   · exact h.trm s h1 h2
theorem KnI.lens {g:Gm} {B:List (List Int)} (h:KnI g B):∀ l ∈ B,l.length ≤ g.terms:=fun l hl => by
 obtain ⟨k,hk,rfl⟩:=List.getElem_of_mem hl
 refine nodup_le g.terms _ 0 ((h.up _ hl).imp (fun h => by omega)) (fun n hn => ?_)
 have e:atB B (k:Int) = B[k]:=by unfold atB;rw [Int.toNat_natCast,List.getD_eq_getElem?_getD,List.getElem?_eq_getElem hk,Option.getD_some]
 have:=h.snd (k:Int) (by omega) n (by rw [e];exact hn)
 omega
theorem KnI.tot {g:Gm} (hg:SndG g) {B:List (List Int)} (h:KnI g B):totB B ≤ 1616:=by
 have h1:=totB_le h.lens
 have h2:=all_le hg
 have h3:=hg.rules
 have h4:=terms_le15 g
 rw [h.len] at h1
 have:g.terms * (g.all + 1) ≤ 16 * 101:=Nat.mul_le_mul (by omega) (by omega)
 omega
theorem knP_tot {g:Gm} (hg:SndG g) {null:List Int} {B:List (List Int)} (h:KnI g B) {p:Pd} (hp:p ∈ g.prods):totB B ≤ totB (knP null B p):=by
 have hl:=left_sym hg hp
 exact jnB_tot h.up (by rw [h.len];omega) _
theorem kn_done {g:Gm} (hg:SndG g) {null:List Int} {B:List (List Int)} (h:KnI g B) (hv:∀ n ∈ null,Van g n) (ht:totB (knR g null B) = totB B):knR g null B = B ∧ ∀ p ∈ g.prods,∀ x ∈ flt null B p.right,x ∈ atB B p.left:=by
 have hlt:∀ {B:List (List Int)} {p:Pd},KnI g B → p ∈ g.prods → p.left.toNat < B.length:=fun h hp => by
  have hl:=left_sym hg hp
  rw [h.len]
  omega
 obtain ⟨k1,k2⟩:=fold_stop (I:=KnI g) (f:=knP null) g.prods B (fun _ _ hp h => h.prod hg hv hp) (fun _ _ hp h => knP_tot hg h hp) (fun B p hp h e => (jnB_still h.up (hlt h hp) e).1) h ht
 refine ⟨k1,fun p hp x hx => (jnB_still h.up (hlt h hp) (k2 p hp)).2 x ?_⟩
 unfold txB
 rw [ofL_mem]
 exact hx
theorem flt_all {g:Gm} (_hg:SndG g) {null:List Int} (hv:∀ n,n ∈ null ↔ Van g n) {B:List (List Int)} (h:KnI g B) (hc:∀ p ∈ g.prods,∀ x ∈ flt null B p.right,x ∈ atB B p.left) {t:List Int} {x:Int} (hx:Beg g t x) (h1:1 ≤ x) (h2:x ≤ (g.terms:Int)):x ∈ flt null B t:=by
 induction hx with
 | here x r => exact (flt_cons ..).2 (.inl (h.trm x h1 h2))
 | into n r p x hp e _ ih => exact (flt_cons ..).2 (.inl (e ▸ hc p hp x (ih h1 h2)))
 | past n r x hn _ ih => exact (flt_cons ..).2 (.inr ⟨(hv n).2 hn,ih h1 h2⟩)
theorem tx_is {g:Gm} (hg:SndG g) {B:List (List Int)} (h:KnI g B) (hc:∀ p ∈ g.prods,∀ x ∈ flt (nulL g) B p.right,x ∈ atB B p.left) {t:List Int} (ht:∀ n ∈ t,1 ≤ n ∧ n ≤ (g.all:Int)):txB (nulL g) B t = firL g t:=by
 unfold txB
 refine (ofL_eq (by unfold firL;exact ofL_up _) (fun x => ?_)).symm
 rw [firL_mem hg]
 refine ⟨fun ⟨h1,h2⟩ => flt_all hg (nulL_mem hg) h hc h1 (h1.range hg ht).1 h2,fun hx => ?_⟩
 obtain ⟨a,b,c⟩:=flt_snd h (fun n hn => (nulL_mem hg n).1 hn) (fun n hn => by have:=ht n hn;omega) hx
 exact ⟨c,b⟩
end Go.Proofs.YtfhokapfkclckaaGreat
namespace Go.Proofs.YtfhokapfkclckaaGreat
def nxt (null:List Int) (B:List (List Int)) (E:List Int):List Int → List Int
 | [] => E
 | y :: r => if null.contains y = true then ofL (nxt null B E r ++ atB B y) else atB B y
def spr (null:List Int) (B:List (List Int)) (E:List Int):List Int → List (List Int) → List (List Int)
 | [],H => H
 | y :: r,H => jnB (spr null B E r H) y (nxt null B E r)
def spP (null:List Int) (B H:List (List Int)) (p:Pd):List (List Int):=spr null B (atB H p.left) p.right H
def spR (null:List Int) (B:List (List Int)) (ps:List Pd) (H:List (List Int)):List (List Int):=ps.foldl (spP null B) H
theorem nxt_mem {null:List Int} {B:List (List Int)} {E:List Int} {x:Int}:∀ {t:List Int},x ∈ nxt null B E t ↔ x ∈ flt null B t ∨ (goneB null t = true ∧ x ∈ E)
 | [] => by
  rw [goneB_iff]
  exact ⟨fun h => .inr ⟨fun _ h => absurd h List.not_mem_nil,h⟩,fun h => h.elim (fun h => absurd h List.not_mem_nil) (fun h => h.2)⟩
 | y :: r => by
  have ih:=nxt_mem (null:=null) (B:=B) (E:=E) (x:=x) (t:=r)
  rw [flt_cons,goneB_iff]
  rw [goneB_iff] at ih
  show x ∈ (if null.contains y = true then ofL (nxt null B E r ++ atB B y) else atB B y) ↔ _
  by_cases h:y ∈ null
  · rw [if_pos (List.contains_iff_mem.2 h),ofL_mem,List.mem_append,ih]
    constructor
    · rintro ((h1 | ⟨h1,h2⟩) | h1)
      · exact .inl (.inr ⟨h,h1⟩)
      · exact .inr ⟨fun n hn => (List.mem_cons.1 hn).elim (fun e => e ▸ h) (h1 n),h2⟩
      · exact .inl (.inl h1)
    · rintro ((h1 | ⟨_,h1⟩) | ⟨h1,h2⟩)
      · exact .inr h1
      · exact .inl (.inl h1)
      · exact .inl (.inr ⟨fun n hn => h1 n (List.mem_cons_of_mem _ hn),h2⟩)
  · rw [if_neg (fun e => h (List.contains_iff_mem.1 e))]
    constructor
    · exact fun h1 => .inl (.inl h1)
    · rintro ((h1 | ⟨h1,_⟩) | ⟨h1,_⟩)
      · exact h1
      · exact absurd h1 h
      · exact absurd (h1 y List.mem_cons_self) h
theorem spr_len (null:List Int) (B:List (List Int)) (E:List Int) (H:List (List Int)):∀ t:List Int,(spr null B E t H).length = H.length
 | [] => rfl
 | y :: r => by
  show (jnB _ _ _).length = _
  rw [jnB_len,spr_len null B E H r]
theorem spr_up {null:List Int} {B:List (List Int)} {E:List Int} {H:List (List Int)} (h:UpB H):∀ t:List Int,UpB (spr null B E t H)
 | [] => h
 | _ :: r => (spr_up h r).jn _ _
theorem spr_tot {null:List Int} {B:List (List Int)} {E:List Int} {H:List (List Int)} (h:UpB H):∀ {t:List Int},(∀ n ∈ t,n.toNat < H.length) → totB H ≤ totB (spr null B E t H)
 | [],_ => Nat.le_refl _
 | y :: r,ht => Nat.le_trans (spr_tot h (t:=r) fun n hn => ht n (List.mem_cons_of_mem _ hn)) (jnB_tot (spr_up h r) (by rw [spr_len];exact ht y List.mem_cons_self) _)
theorem spr_still {null:List Int} {B:List (List Int)} {E:List Int} {H:List (List Int)} (h:UpB H):∀ {t:List Int},(∀ n ∈ t,n.toNat < H.length) → totB (spr null B E t H) = totB H → spr null B E t H = H ∧ ∀ j,j < t.length → ∀ x ∈ nxt null B E (t.drop (j + 1)),x ∈ atB H (t.getD j 0)
 | [],_,_ => ⟨rfl,fun _ h => absurd h (Nat.not_lt_zero _)⟩
 | y :: r,ht,e => by
  have hr:∀ n ∈ r,n.toNat < H.length:=fun n hn => ht n (List.mem_cons_of_mem _ hn)
  have h1:=spr_tot (null:=null) (B:=B) (E:=E) h hr
  have h2:=jnB_tot (spr_up (null:=null) (B:=B) (E:=E) h r) (s:=y) (by rw [spr_len];exact ht y List.mem_cons_self) (nxt null B E r)
  have e':totB (jnB (spr null B E r H) y (nxt null B E r)) = totB H:=e
  obtain ⟨k1,k2⟩:=spr_still (null:=null) (B:=B) (E:=E) h hr (by omega)
  rw [k1] at e'
  obtain ⟨k3,k4⟩:=jnB_still h (ht y List.mem_cons_self) e'
  refine ⟨by show jnB (spr null B E r H) y _ = H;rw [k1];exact k3,fun j hj x hx => ?_⟩
  cases j with
  | zero => exact k4 x hx
  | succ j => exact k2 j (by rw [List.length_cons] at hj;omega) x hx
section
variable {g:Gm} {null live:List Int} {fir:List Int → List Int}
theorem EndB.trans {a b c:Int} (h1:EndB g null live a b) (h2:EndB g null live b c):EndB g null live a c:=by
 induction h2 with
 | self => exact h1
 | step p j hp hv hj _ hg ih => exact .step p j hp hv hj ih hg
theorem Behd.lift {a b x:Int} (h1:EndB g null live a b) (h2:Behd g null live fir b x):Behd g null live fir a x:=by
 rcases h2 with ⟨e,h⟩ | ⟨p,hp,hv,j,hj,h,hx⟩
 · exact .inl ⟨e,h1.trans h⟩
 · exact .inr ⟨p,hp,hv,j,hj,h1.trans h,hx⟩
end
structure KbI (g:Gm) (H:List (List Int)):Prop where
 len:H.length = g.all + 1
 up:UpB H
 zero:atB H 0 = []
 snd:∀ s:Int,1 ≤ s → ∀ x ∈ atB H s,Behd g (nulL g) (livL g) (firL g) s x
 start:0 < g.start → 0 ∈ atB H g.start
def hini (g:Gm):List (List Int):=if 0 < g.start then (List.replicate (g.all + 1) []).set g.start.toNat [0] else List.replicate (g.all + 1) []
theorem atB_none (N:Nat) (s:Int):atB (List.replicate N []) s = []:=by
 unfold atB
 rw [List.getD_eq_getElem?_getD,List.getElem?_replicate]
 split <;> rfl
theorem start_in {g:Gm} (hg:SndG g):g.start ≤ (g.all:Int) ∧ 0 ≤ g.start:=by
 rcases Nat.eq_zero_or_pos g.nonts.length with h | h
 · have:=hg.none h
   omega
 · have:=hg.start h
   omega
theorem KbI.ini {g:Gm} (hg:SndG g):KbI g (hini g):=by
 have hst:=start_in hg
 unfold hini
 by_cases h:0 < g.start
 · rw [if_pos h]
   have hl:g.start.toNat < (List.replicate (g.all + 1) ([]:List Int)).length:=by rw [List.length_replicate];omega
   refine ⟨by rw [List.length_set,List.length_replicate],fun l hl => ?_,?_,fun s hs x hx => ?_,fun _ => ?_⟩
   · rcases List.mem_or_eq_of_mem_set hl with hl | rfl
     · rw [(List.mem_replicate.1 hl).2];exact List.Pairwise.nil
     · exact List.pairwise_singleton _ _
   · rw [atB_set (by omega) (by omega) hl,if_neg (by omega),atB_none]
   · rw [atB_set (by omega) (by omega) hl] at hx
     split at hx
     · rename_i e
       rw [List.mem_singleton] at hx
       subst e
       exact .inl ⟨hx,.self⟩
     · rw [atB_none] at hx
       exact absurd hx List.not_mem_nil
   · rw [atB_set (by omega) (by omega) hl,if_pos rfl]
     exact List.mem_singleton.2 rfl
 · rw [if_neg h]
   refine ⟨List.length_replicate,fun l hl => ?_,atB_none _ _,fun s hs x hx => ?_,fun h' => absurd h' h⟩
   · rw [(List.mem_replicate.1 hl).2];exact List.Pairwise.nil
   · rw [atB_none] at hx
     exact absurd hx List.not_mem_nil
structure Knw (g:Gm) (B:List (List Int)):Prop where
 inv:KnI g B
 is:∀ t:List Int,(∀ n ∈ t,1 ≤ n ∧ n ≤ (g.all:Int)) → ∀ x,x ∈ flt (nulL g) B t ↔ x ∈ firL g t
theorem knw_of {g:Gm} (hg:SndG g) {B:List (List Int)} (h:KnI g B) (ht:totB (knR g (nulL g) B) = totB B):Knw g B:=by
 have hc:=(kn_done hg h (fun n hn => (nulL_mem hg n).1 hn) ht).2
 refine ⟨h,fun t hs x => ?_⟩
 rw [← tx_is hg h hc hs]
 unfold txB
 rw [ofL_mem]
theorem Knw.tx {g:Gm} {B:List (List Int)} (h:Knw g B) {t:List Int} (ht:∀ n ∈ t,1 ≤ n ∧ n ≤ (g.all:Int)):txB (nulL g) B t = firL g t:=by
 unfold txB
 exact (ofL_eq (by unfold firL;exact ofL_up _) (fun x => (h.is t ht x).symm)).symm
theorem spr_snd {g:Gm} (hg:SndG g) {B H:List (List Int)} (hB:Knw g B) (h:KbI g H) {p:Pd} (hp:p ∈ g.prods) (hv:p.left ∈ livL g):∀ (t:List Int) (j:Nat),t = p.right.drop j → KbI g (spr (nulL g) B (atB H p.left) t H)
 | [],_,_ => h
 | y :: r,j,e => by
  have hj:j < p.right.length:=by
   have:=congrArg List.length e
   rw [List.length_cons,List.length_drop] at this
   omega
  rw [List.drop_eq_getElem_cons hj] at e
  injection e with e1 e2
  have hr:=right_sym hg hp
  have hl:=left_sym hg hp
  have hy:=hr y (e1 ▸ List.getElem_mem hj)
  have ih:=spr_snd hg hB h hp hv r (j + 1) e2
  have hlt:y.toNat < (spr (nulL g) B (atB H p.left) r H).length:=by rw [ih.len];omega
  have hd:∀ n ∈ r,1 ≤ n ∧ n ≤ (g.all:Int):=fun n hn => hr n (by rw [e2] at hn;exact List.mem_of_mem_drop hn)
  have hgd:p.right.getD j 0 = y:=by rw [List.getD_eq_getElem?_getD,List.getElem?_eq_getElem hj,Option.getD_some,e1]
  refine ⟨?_,ih.up.jn _ _,?_,fun s hs x hx => ?_,fun h0 => ?_⟩
  · show (jnB _ _ _).length = _
    rw [jnB_len]
    exact ih.len
  · show atB (jnB _ _ _) 0 = []
    rw [atB_jn (by omega) (by omega) hlt,if_neg (by omega)]
    exact ih.zero
  · have hx:x ∈ atB (jnB (spr (nulL g) B (atB H p.left) r H) y (nxt (nulL g) B (atB H p.left) r)) s:=hx
    rw [atB_jn (by omega) (by omega) hlt] at hx
    split at hx
    · rename_i e9
      subst e9
      rw [ofL_mem,List.mem_append] at hx
      rcases hx with hx | hx
      · exact ih.snd s hs x hx
      · rcases nxt_mem.1 hx with hx | ⟨h1,hx⟩
        · rw [hB.is r hd] at hx
          exact .inr ⟨p,hp,hv,j,hj,hgd ▸ .self,e2 ▸ hx⟩
        · have hE:EndB g (nulL g) (livL g) s p.left:=.step p j hp hv hj (hgd ▸ .self) (e2 ▸ h1)
          exact (h.snd p.left (by omega) x hx).lift hE
    · exact ih.snd s hs x hx
  · show 0 ∈ atB (jnB _ _ _) g.start
    rw [atB_jn (by omega) (by omega) hlt]
    split
    · rename_i e9
      rw [ofL_mem,← e9]
      exact List.mem_append_left _ (ih.start h0)
    · exact ih.start h0
def rpL (g:Gm):List Pd:=g.prods.filter fun p => (livL g).contains p.left
theorem rpL_mem {g:Gm} {p:Pd}:p ∈ rpL g ↔ p ∈ g.prods ∧ p.left ∈ livL g:=by
 unfold rpL
 rw [List.mem_filter,List.contains_iff_mem]
theorem KbI.prod {g:Gm} (hg:SndG g) {B H:List (List Int)} (hB:Knw g B) (h:KbI g H) {p:Pd} (hp:p ∈ rpL g):KbI g (spP (nulL g) B H p):=
 spr_snd hg hB h (rpL_mem.1 hp).1 (rpL_mem.1 hp).2 p.right 0 rfl
theorem firL_in {g:Gm} (hg:SndG g) {t:List Int} {x:Int} (ht:∀ n ∈ t,1 ≤ n ∧ n ≤ (g.all:Int)) (h:x ∈ firL g t):1 ≤ x ∧ x ≤ (g.terms:Int):=by
 rw [firL_mem hg] at h
 exact ⟨(h.1.range hg ht).1,h.2⟩
theorem behd_in {g:Gm} (hg:SndG g) {s x:Int} (h:Behd g (nulL g) (livL g) (firL g) s x):0 ≤ x ∧ x ≤ (g.terms:Int):=by
 rcases h with ⟨rfl,_⟩ | ⟨p,hp,_,j,_,_,hx⟩
 · omega
 · have:=firL_in hg (fun n hn => right_sym hg hp n (List.mem_of_mem_drop hn)) hx
   omega
theorem KbI.lens {g:Gm} (hg:SndG g) {H:List (List Int)} (h:KbI g H):∀ l ∈ H,l.length ≤ g.terms + 1:=fun l hl => by
 obtain ⟨k,hk,rfl⟩:=List.getElem_of_mem hl
 have e:atB H (k:Int) = H[k]:=by unfold atB;rw [Int.toNat_natCast,List.getD_eq_getElem?_getD,List.getElem?_eq_getElem hk,Option.getD_some]
 cases k with
 | zero =>
  have:=h.zero
  rw [show ((0:Nat):Int) = 0 from rfl] at e
  rw [← e,this]
  exact Nat.zero_le _
 | succ k =>
  refine nodup_le (g.terms + 1) _ (-1) ((h.up _ hl).imp (fun h => by omega)) (fun n hn => ?_)
  have:=behd_in hg (h.snd ((k + 1:Nat):Int) (by omega) n (by rw [e];exact hn))
  omega
theorem KbI.tot {g:Gm} (hg:SndG g) {H:List (List Int)} (h:KbI g H):totB H ≤ 1717:=by
 have h1:=totB_le (h.lens hg)
 have h2:=all_le hg
 have h3:=hg.rules
 have h4:=terms_le15 g
 rw [h.len] at h1
 have:(g.terms + 1) * (g.all + 1) ≤ 17 * 101:=Nat.mul_le_mul (by omega) (by omega)
 omega
theorem rp_lt {g:Gm} (hg:SndG g) {H:List (List Int)} (h:KbI g H) {p:Pd} (hp:p ∈ rpL g):∀ n ∈ p.right,n.toNat < H.length:=fun n hn => by
 have:=right_sym hg (rpL_mem.1 hp).1 n hn
 rw [h.len]
 omega
theorem spP_tot {g:Gm} (hg:SndG g) {B H:List (List Int)} (h:KbI g H) {p:Pd} (hp:p ∈ rpL g):totB H ≤ totB (spP (nulL g) B H p):=spr_tot h.up (rp_lt hg h hp)
def behL (g:Gm):List (List Int):=[] :: (List.range g.all).map fun (i:Nat) => bhL g ((i:Int) + 1)
theorem behL_len (g:Gm):(behL g).length = g.all + 1:=by unfold behL;simp
theorem behL_at {g:Gm} {s:Int} (h1:1 ≤ s) (h2:s ≤ (g.all:Int)):atB (behL g) s = bhL g s:=by
 obtain ⟨k,rfl⟩:∃ k:Nat,s = (k:Int) + 1:=⟨(s - 1).toNat,by omega⟩
 have e:((k:Int) + 1).toNat = k + 1:=by omega
 unfold atB behL
 rw [e,List.getD_eq_getElem?_getD,List.getElem?_cons_succ,List.getElem?_map,List.getElem?_range (by omega)]
 rfl
theorem kb_done {g:Gm} (hg:SndG g) {B H:List (List Int)} (hB:Knw g B) (h:KbI g H) (ht:totB (spR (nulL g) B (rpL g) H) = totB H):H = behL g:=by
 obtain ⟨-,k2⟩:=fold_stop (I:=KbI g) (f:=spP (nulL g) B) (rpL g) H (fun _ _ hp h => h.prod hg hB hp) (fun _ _ hp h => spP_tot hg h hp) (fun H p hp h e => (spr_still h.up (rp_lt hg h hp) e).1) h ht
 have hc:∀ p ∈ g.prods,p.left ∈ livL g → ∀ j,j < p.right.length → ∀ x ∈ nxt (nulL g) B (atB H p.left) (p.right.drop (j + 1)),x ∈ atB H (p.right.getD j 0):=fun p hp hv j hj x hx =>
  (spr_still h.up (rp_lt hg h (rpL_mem.2 ⟨hp,hv⟩)) (k2 p (rpL_mem.2 ⟨hp,hv⟩))).2 j hj x hx
 have hd:∀ p ∈ g.prods,∀ j,∀ n ∈ p.right.drop j,1 ≤ n ∧ n ≤ (g.all:Int):=fun p hp j n hn => right_sym hg hp n (List.mem_of_mem_drop hn)
 have hE:∀ s n:Int,EndB g (nulL g) (livL g) s n → ∀ x ∈ atB H n,x ∈ atB H s:=fun s n hn => by
  induction hn with
  | self => exact fun _ h => h
  | step p j hp hv hj _ hgn ih => exact fun x hx => ih x (hc p hp hv j hj x (nxt_mem.2 (.inr ⟨hgn,hx⟩)))
 have hA:∀ s x:Int,Behd g (nulL g) (livL g) (firL g) s x → 1 ≤ s → x ∈ atB H s:=fun s x hb hs => by
  rcases hb with ⟨rfl,h0⟩ | ⟨p,hp,hv,j,hj,h0,hx⟩
  · refine hE s _ h0 0 (h.start ?_)
    have:=start_in hg
    rcases Int.lt_or_le 0 g.start with h9 | h9
    · exact h9
    · exfalso
      have e:g.start = 0:=by omega
      have hn:g.nonts.length = 0:=by
       rcases Nat.eq_zero_or_pos g.nonts.length with h8 | h8
       · exact h8
       · have:=hg.start h8
         omega
      rw [e] at h0
      have hz:∀ n:Int,EndB g (nulL g) (livL g) s n → n = s:=fun n hn9 => by
       cases hn9 with
       | self => rfl
       | step p j hp _ _ _ _ =>
        have:=left_sym hg hp
        unfold Gm.all at this
        omega
      have:=hz _ h0
      omega
  · exact hE s _ h0 x (hc p hp hv j hj x (nxt_mem.2 (.inl ((hB.is _ (hd p hp _) x).2 hx))))
 apply List.ext_getElem?
 intro i
 by_cases hi:i < g.all + 1
 · have e1:H[i]? = some (atB H (i:Int)):=by unfold atB;rw [Int.toNat_natCast,List.getD_eq_getElem?_getD,List.getElem?_eq_getElem (by rw [h.len];exact hi),Option.getD_some]
   have e2:(behL g)[i]? = some (atB (behL g) (i:Int)):=by unfold atB;rw [Int.toNat_natCast,List.getD_eq_getElem?_getD,List.getElem?_eq_getElem (by rw [behL_len];exact hi),Option.getD_some]
   rw [e1,e2]
   congr 1
   cases i with
   | zero => exact h.zero
   | succ i =>
    rw [behL_at (by omega) (by omega)]
    refine up_uniq (h.up.at _) (by unfold bhL;exact ofL_up _) (fun x => ?_)
    rw [bhL_mem hg (by omega) (by omega)]
    exact ⟨fun hx => h.snd _ (by omega) x hx,fun hx => hA _ x hx (by omega)⟩
 · rw [List.getElem?_eq_none (by rw [h.len];omega),List.getElem?_eq_none (by rw [behL_len];omega)]
end Go.Proofs.YtfhokapfkclckaaGreat
namespace Go.Proofs.YtfhokapfkclckaaGreat
open Go.RowKit Go.Maps Go.Sort
theorem shapeN15 {w:World} {v:Value} {l:List Int} (h:Nums w v l):∃ a c,v = .slice a l.length c:=by obtain ⟨a,c,e,_⟩:=h;exact ⟨a,c,e⟩
theorem made_bools15 (N:Nat):madeCells #[.bool false] N = ((List.replicate N false).map Value.bool).toArray:=by
 apply Array.ext
 · simp [size_madeCells]
 · intro i h1 h2
   simp [madeCells,Nat.mod_one]
def RowsL (w:World) (mb:Nat) (B:List (List Int)):Prop:=∃ vs:List Value,w.heap[mb]? = some (.cells vs.toArray 30) ∧ NumsL w vs B
theorem NumsL.mono {w u:World} (h:∀ v l,Nums w v l → Nums u v l):∀ {xs:List Value} {ls:List (List Int)},NumsL w xs ls → NumsL u xs ls
 | [],[],_ => trivial
 | _ :: _,_ :: _,h1 => ⟨⟨h _ _ h1.1.1,h1.1.2⟩,NumsL.mono h h1.2⟩
 | [],_ :: _,h => h.elim
 | _ :: _,[],h => h.elim
theorem NumsL.keep {w u:World} (hu:Below w.heap.size w u) {xs:List Value} {ls:List (List Int)} (h:NumsL w xs ls):NumsL u xs ls:=h.mono fun _ _ h1 => h1.keep hu
theorem NumsL.at {w:World}:∀ {xs:List Value} {ls:List (List Int)},NumsL w xs ls → ∀ (k:Nat) (hk:k < ls.length),∃ v,xs[k]? = some v ∧ Nums w v ls[k] ∧ ls[k].length ≤ 1000000
 | _ :: _,_ :: _,h,0,_ => ⟨_,rfl,h.1.1,h.1.2⟩
 | _ :: _,_ :: ls,h,k + 1,hk => by
  obtain ⟨v,h1,h2,h3⟩:=NumsL.at h.2 k (by rw [List.length_cons] at hk;omega)
  exact ⟨v,h1,h2,h3⟩
 | [],_ :: _,h,_,_ => h.elim
 | _ :: _,[],h,_,_ => h.elim
 | [],[],_,_,hk => absurd hk (Nat.not_lt_zero _)
theorem NumsL.put {w:World} {v:Value} {l:List Int} (hv:Nums w v l ∧ l.length ≤ 1000000):∀ {xs:List Value} {ls:List (List Int)} (k:Nat),NumsL w xs ls → NumsL w (xs.set k v) (ls.set k l)
 | [],[],_,_ => trivial
 | _ :: _,_ :: _,0,h => ⟨hv,h.2⟩
 | _ :: _,_ :: _,k + 1,h => ⟨h.1,NumsL.put hv k h.2⟩
 | [],_ :: _,_,h => h.elim
 | _ :: _,[],_,h => h.elim
theorem NumsL.slices {w:World}:∀ {xs:List Value} {ls:List (List Int)},NumsL w xs ls → ∀ v ∈ xs,∃ a n c,v = .slice a n c
 | [],_,_,_,h => absurd h List.not_mem_nil
 | _ :: _,[],h,_,_ => h.elim
 | x :: xs,l :: ls,h,v,hv => by
  rcases List.mem_cons.1 hv with rfl | hv
  · obtain ⟨a,c,e,-⟩:=h.1.1
    exact ⟨a,_,c,e⟩
  · exact NumsL.slices h.2 v hv
theorem Nums.store {w:World} {mb:Nat} {vs:List Value} {T:TypeId} (hb:w.heap[mb]? = some (.cells vs.toArray T)) (hs:∀ v ∈ vs,∃ a n c,v = .slice a n c) (j:Nat) (x:Value) {v:Value} {l:List Int} (h:Nums w v l):Nums (w.setCell ⟨mb,j,none⟩ x) v l:=by
 obtain ⟨a,cap,e,h1,h2,h3⟩:=h
 refine ⟨a,cap,e,h1,h2,fun i hi => ?_⟩
 obtain ⟨b,o,ea,hlt,hc⟩:=h3 i hi
 refine ⟨b,o,ea,by simpa using hlt,?_⟩
 have hne:b ≠ mb:=fun e => by
  subst e
  unfold World.cell? at hc
  rw [hb] at hc
  simp only at hc
  have hc':vs.toArray[o + i]? = some (.int .i64 l[i]):=by simpa using hc
  rw [List.getElem?_toArray] at hc'
  obtain ⟨a,n,c,e9⟩:=hs _ (List.mem_of_getElem? hc')
  cases e9
 unfold World.cell? at hc ⊢
 rw [Below.heap_setCell w ⟨mb,j,none⟩ x b (fun e => hne e)]
 exact hc
section
variable {w u:World} {mb:Nat} {B:List (List Int)}
theorem RowsL.lt (h:RowsL w mb B):mb < w.heap.size:=by obtain ⟨vs,h1,-⟩:=h;exact blk_lt h1
theorem RowsL.keep (h:RowsL w mb B) (hu:Below w.heap.size w u):RowsL u mb B:=by
 obtain ⟨vs,h1,h2⟩:=h
 exact ⟨vs,hs_keep h1 hu,h2.keep hu⟩
theorem RowsL.at (h:RowsL w mb B) {s:Int} (hs:s.toNat < B.length):∃ v,w.cell? ⟨mb,s.toNat,none⟩ = some v ∧ Nums w v (atB B s) ∧ (atB B s).length ≤ 1000000:=by
 obtain ⟨vs,h1,h2⟩:=h
 obtain ⟨v,e1,e2,e3⟩:=h2.at s.toNat hs
 have e:atB B s = B[s.toNat]:=by unfold atB;rw [List.getD_eq_getElem?_getD,List.getElem?_eq_getElem hs,Option.getD_some]
 rw [e]
 exact ⟨v,blk_cell h1 (by rw [List.getElem?_toArray];exact e1),e2,e3⟩
theorem RowsL.free (h:RowsL w mb B) (j:Nat):w.frozen? ⟨mb,j,none⟩ = false:=by
 obtain ⟨vs,h1,-⟩:=h
 exact blk_frozen h1 j
theorem RowsL.put (h:RowsL w mb B) (j:Nat) {x:Value} {l:List Int} (hx:Nums w x l) (hl:l.length ≤ 1000000):RowsL (w.setCell ⟨mb,j,none⟩ x) mb (B.set j l):=by
 obtain ⟨vs,h1,h2⟩:=h
 refine ⟨vs.set j x,?_,?_⟩
 · rw [heap_setCell h1]
   simp
 · exact (NumsL.put ⟨hx,hl⟩ j h2).mono fun _ _ h9 => h9.store h1 h2.slices j x
end
theorem made_slices (w:World) (N:Nat):RowsL (w.alloc (.cells (madeCells #[.slice none 0 0] N) 30)) w.heap.size (List.replicate N []):=by
 refine ⟨List.replicate N (.slice none 0 0),?_,?_⟩
 · rw [heap_new]
   congr 2
   apply Array.ext
   · simp [size_madeCells]
   · intro i h1 h2
     simp [madeCells,Nat.mod_one]
 · have hx:∀ (u:World) (N:Nat),NumsL u (List.replicate N (.slice none 0 0)) (List.replicate N []):=fun u N => by
    induction N with
    | zero => exact trivial
    | succ N ih =>
     rw [List.replicate_succ,List.replicate_succ]
     exact ⟨⟨Nums.nil _,Nat.zero_le _⟩,ih⟩
   exact hx _ N
def mrkL (N:Nat) (out:List Int):List Bool:=(List.range N).map fun (i:Nat) => out.contains (i:Int)
theorem mrkL_len (N:Nat) (out:List Int):(mrkL N out).length = N:=by unfold mrkL;simp
theorem mrkL_get {N:Nat} {out:List Int} {j:Nat} (h:j < N):(mrkL N out)[j]? = some (out.contains (j:Int)):=by
 unfold mrkL
 rw [List.getElem?_map,List.getElem?_range h]
 rfl
theorem mrkL_nil (N:Nat):mrkL N [] = List.replicate N false:=by
 unfold mrkL
 apply List.ext_getElem
 · simp
 · intro i h1 h2
   simp
theorem mrkL_congr {N:Nat} {a b:List Int} (h:∀ x,x ∈ a ↔ x ∈ b):mrkL N a = mrkL N b:=by
 unfold mrkL
 apply List.map_congr_left
 intro i _
 rw [Bool.eq_iff_iff,List.contains_iff_mem,List.contains_iff_mem]
 exact h _
theorem mrkL_set {N:Nat} {out:List Int} {s:Int} (hs:0 ≤ s) (_:s.toNat < N):mrkL N (out ++ [s]) = (mrkL N out).set s.toNat true:=by
 apply List.ext_getElem?
 intro i
 by_cases hi:i < N
 · rw [mrkL_get hi]
   by_cases e:s.toNat = i
   · subst e
     rw [List.getElem?_set_self (by rw [mrkL_len];exact hi)]
     congr 1
     rw [List.contains_iff_mem,Int.toNat_of_nonneg hs]
     exact List.mem_append_right _ (List.mem_singleton.2 rfl)
   · rw [List.getElem?_set_ne e,mrkL_get hi]
     congr 1
     rw [Bool.eq_iff_iff,List.contains_iff_mem,List.contains_iff_mem,List.mem_append,List.mem_singleton]
     exact ⟨fun h => h.elim id (fun h => absurd (by omega) e),.inl⟩
 · rw [List.getElem?_eq_none (by rw [mrkL_len];omega),List.getElem?_eq_none (by rw [List.length_set,mrkL_len];omega)]
def MkB (w:World) (mb N:Nat) (out:List Int):Prop:=w.heap[mb]? = some (.cells ((mrkL N out).map Value.bool).toArray 4)
section
variable {w u:World} {mb N:Nat} {out:List Int}
theorem MkB.keep (h:MkB w mb N out) (hu:Below w.heap.size w u):MkB u mb N out:=hs_keep h hu
theorem MkB.lt (h:MkB w mb N out):mb < w.heap.size:=blk_lt h
theorem MkB.at (h:MkB w mb N out) {s:Int} (hs:0 ≤ s) (hN:s.toNat < N):w.cell? ⟨mb,s.toNat,none⟩ = some (.bool (out.contains s)):=by
 have h1:=mrkL_get (out:=out) hN
 rw [Int.toNat_of_nonneg hs] at h1
 exact blk_cell h (by rw [List.getElem?_toArray,List.getElem?_map,h1];rfl)
theorem MkB.free (h:MkB w mb N out) (j:Nat):w.frozen? ⟨mb,j,none⟩ = false:=blk_frozen h j
theorem MkB.set (h:MkB w mb N out) {s:Int} (hs:0 ≤ s) (hN:s.toNat < N):MkB (w.setCell ⟨mb,s.toNat,none⟩ (.bool true)) mb N (out ++ [s]):=by
 unfold MkB at h ⊢
 rw [heap_setCell h,mrkL_set hs hN]
 simp [List.map_set]
theorem MkB.congr (h:MkB w mb N out) {out':List Int} (e:∀ x,x ∈ out ↔ x ∈ out'):MkB w mb N out':=by
 unfold MkB at h ⊢
 rw [← mrkL_congr e]
 exact h
end
theorem made_marks (w:World) (N:Nat):MkB (w.alloc (.cells (madeCells #[.bool false] N) 4)) w.heap.size N []:=by
 unfold MkB
 rw [mrkL_nil,← made_bools15]
 exact heap_new w _
end Go.Proofs.YtfhokapfkclckaaGreat
