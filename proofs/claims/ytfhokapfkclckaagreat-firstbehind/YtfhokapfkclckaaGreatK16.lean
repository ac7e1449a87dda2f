/- topiaryref12.Sym: a name's symbol. Layer 13: what is sound. Layer 13: what is reached, what ends; the document's rounds find just that. Layer 15: what vanishes; the document's rounds find just that. -/
import Derived.Test.YtfhokapfkclckaaGreatK15
namespace Go.Proofs.YtfhokapfkclckaaGreat
open Go.RowKit Go.Maps Go.Sort
def Gm.all (g:Gm):Nat:=g.terms + g.nonts.length
end Go.Proofs.YtfhokapfkclckaaGreat
namespace Go.Proofs.YtfhokapfkclckaaGreat
structure NamT (s:Txt):Prop where
 len:s.length ≤ 16
 head:∃ c r,s = c :: r ∧ letB c.toNat = true
 all:∀ c ∈ s,(letB c.toNat || digB c.toNat) = true
def namB (s:Txt):Bool:=decide (s.length ≤ 16) && (match s with | [] => false | c :: _ => letB c.toNat) && s.all (fun c => letB c.toNat || digB c.toNat) && !kwB s
theorem namB_of {s:Txt} (h:NamT s) (hk:kwB s = false):namB s = true:=by
 obtain ⟨h1,⟨c,r,rfl,h2⟩,h3⟩:=h
 unfold namB
 simp only [Bool.and_eq_true,decide_eq_true_eq,Bool.not_eq_true',List.all_eq_true]
 exact ⟨⟨⟨h1,h2⟩,h3⟩,hk⟩
def Gm.allN (g:Gm):List Txt:=g.rules.map Rl.name ++ g.nonts
def lvB (i:Nat) (l:Int × Int):Bool:=(decide (l.1 = 0) && decide (l.2 = 0)) || (decide (0 < l.1) && decide (0 < l.2) && decide (l.2 < 4) && decide (i ≠ 0))
def pdB (g:Gm) (p:Pd):Bool:=decide ((g.terms:Int) < p.left) && decide (p.left ≤ (g.all:Int)) && decide (p.right.length ≤ 8) && decide (0 ≤ p.prec) && decide (p.prec ≤ (g.terms:Int)) && p.right.all (fun k => decide (1 ≤ k) && decide (k ≤ (g.all:Int)))
structure SndG (g:Gm):Prop where
 rules:g.rules.length ≤ 16
 nonts:g.nonts.length ≤ 16
 prods:g.prods.length ≤ 40
 right:∀ r ∈ g.rules,rightB r.re = true
 named:∀ t ∈ g.allN,namB t = true
 once:g.allN.Nodup
 levels:g.levels.length = g.terms + 1
 lev:∀ i (h:i < g.levels.length),lvB i g.levels[i] = true
 none:g.nonts.length = 0 → g.start = 0
 start:0 < g.nonts.length → (g.terms:Int) < g.start ∧ g.start ≤ (g.all:Int)
 prod:∀ p ∈ g.prods,pdB g p = true
inductive Rch (g:Gm):Int → Prop
 | start:0 < g.start → Rch g g.start
 | step (p:Pd) (n:Int):p ∈ g.prods → Rch g p.left → n ∈ p.right → (g.terms:Int) < n → Rch g n
inductive Ends (g:Gm):Int → Prop
 | prod (p:Pd):p ∈ g.prods → (∀ n ∈ p.right,(g.terms:Int) < n → Ends g n) → Ends g p.left
def rcS (tm:Nat) (l:Int) (out:List Int) (n:Int):List Int:=if (tm:Int) < n ∧ l ∈ out ∧ n ∉ out then out ++ [n] else out
def rcP (tm:Nat) (out:List Int) (p:Pd):List Int:=p.right.foldl (rcS tm p.left) out
def rcR (g:Gm) (out:List Int):List Int:=g.prods.foldl (rcP g.terms) out
def rcN (g:Gm):Nat → List Int
 | 0 => if 0 < g.start then [g.start] else []
 | k + 1 => rcR g (rcN g k)
theorem rcS_sub (tm:Nat) (l:Int) (out:List Int) (n:Int):∃ r,rcS tm l out n = out ++ r:=by
 unfold rcS
 split
 · exact ⟨_,rfl⟩
 · exact ⟨[],by simp⟩
theorem fold_sub {α:Type} {f:List Int → α → List Int} (hf:∀ o x,∃ r,f o x = o ++ r):∀ (l:List α) (o:List Int),∃ r,l.foldl f o = o ++ r
 | [],o => ⟨[],by simp⟩
 | x :: l,o => by
  obtain ⟨r1,h1⟩:=hf o x
  obtain ⟨r2,h2⟩:=fold_sub hf l (f o x)
  refine ⟨r1 ++ r2,?_⟩
  rw [List.foldl_cons,h2,h1,List.append_assoc]
theorem rcP_sub (tm:Nat) (out:List Int) (p:Pd):∃ r,rcP tm out p = out ++ r:=fold_sub (rcS_sub tm p.left) p.right out
theorem rcR_sub (g:Gm) (out:List Int):∃ r,rcR g out = out ++ r:=fold_sub (rcP_sub g.terms) g.prods out
theorem fold_keep {α:Type} {f:List Int → α → List Int} {P:List Int → Prop}:∀ (l:List α) (o:List Int),(∀ o x,x ∈ l → P o → P (f o x)) → P o → P (l.foldl f o)
 | [],_,_,h => h
 | x :: l,o,hf,h => fold_keep l _ (fun o' y hy => hf o' y (List.mem_cons_of_mem _ hy)) (hf o x List.mem_cons_self h)
theorem fold_still {α:Type} {f:List Int → α → List Int} (hf:∀ o x,∃ r,f o x = o ++ r):∀ (l:List α) (o:List Int),l.foldl f o = o → ∀ x ∈ l,f o x = o
 | [],_,_,_,h => absurd h List.not_mem_nil
 | x :: l,o,h,y,hy => by
  rw [List.foldl_cons] at h
  obtain ⟨r1,h1⟩:=hf o x
  obtain ⟨r2,h2⟩:=fold_sub hf l (f o x)
  have hr1:r1 = []:=by
   rw [h2,h1,List.append_assoc] at h
   have:(r1 ++ r2) = []:=by
    have:=congrArg List.length h
    rw [List.length_append] at this
    exact List.eq_nil_of_length_eq_zero (by omega)
   exact (List.append_eq_nil_iff.1 this).1
  have hx:f o x = o:=by rw [h1,hr1,List.append_nil]
  rcases List.mem_cons.1 hy with rfl | hy
  · exact hx
  · rw [hx] at h
    exact fold_still hf l o h y hy
def RcI (g:Gm) (out:List Int):Prop:=(∀ n ∈ out,Rch g n) ∧ out.Nodup
theorem RcI.sym {g:Gm} {o:List Int} (ho:RcI g o) {p:Pd} (hp:p ∈ g.prods) {n:Int} (hn:n ∈ p.right):RcI g (rcS g.terms p.left o n):=by
 unfold rcS
 split
 · rename_i hc
   refine ⟨fun m hm => ?_,?_⟩
   · rw [List.mem_append,List.mem_singleton] at hm
     rcases hm with hm | rfl
     · exact ho.1 m hm
     · exact Rch.step p m hp (ho.1 _ hc.2.1) hn hc.1
   · rw [List.nodup_append]
     refine ⟨ho.2,List.pairwise_singleton _ _,fun a ha b hb => ?_⟩
     rw [List.mem_singleton] at hb
     subst hb
     exact fun e => hc.2.2 (e ▸ ha)
 · exact ho
theorem RcI.round {g:Gm} {out:List Int} (h:RcI g out):RcI g (rcR g out):=by
 refine fold_keep (P:=RcI g) g.prods out (fun o p hp ho => ?_) h
 refine fold_keep (P:=RcI g) p.right o (fun o n hn ho => ?_) ho
 exact ho.sym hp hn
theorem rcN_good (g:Gm):∀ k,RcI g (rcN g k)
 | 0 => by
  unfold rcN
  split
  · rename_i h
    exact ⟨fun n hn => by rw [List.mem_singleton] at hn;subst hn;exact Rch.start h,List.pairwise_singleton _ _⟩
  · exact ⟨fun n hn => absurd hn List.not_mem_nil,List.nodup_nil⟩
 | k + 1 => (rcN_good g k).round
theorem rcN_start {g:Gm} (h:0 < g.start):∀ k,g.start ∈ rcN g k
 | 0 => by unfold rcN;rw [if_pos h];exact List.mem_singleton.2 rfl
 | k + 1 => by
  obtain ⟨r,hr⟩:=rcR_sub g (rcN g k)
  show g.start ∈ rcR g (rcN g k)
  rw [hr]
  exact List.mem_append_left _ (rcN_start h k)
theorem rc_closed {g:Gm} {out:List Int} (h:rcR g out = out) {p:Pd} (hp:p ∈ g.prods) (hl:p.left ∈ out) {n:Int} (hn:n ∈ p.right) (ht:(g.terms:Int) < n):n ∈ out:=by
 have h1:=fold_still (rcP_sub g.terms) g.prods out h p hp
 have h2:=fold_still (rcS_sub g.terms p.left) p.right out h1 n hn
 unfold rcS at h2
 split at h2
 · have:=congrArg List.length h2
   rw [List.length_append,List.length_singleton] at this
   omega
 · rename_i hc
   exact Decidable.byContradiction fun hno => hc ⟨ht,hl,hno⟩
theorem rc_all {g:Gm} {out:List Int} (h:rcR g out = out) (hs:0 < g.start → g.start ∈ out) {n:Int} (hn:Rch g n):n ∈ out:=by
 induction hn with
 | start h0 => exact hs h0
 | step p m hp _ hm ht ih => exact rc_closed h hp ih hm ht
theorem len_parts (p:Int → Bool):∀ l:List Int,l.length = (l.filter p).length + (l.filter fun n => !p n).length
 | [] => rfl
 | x :: l => by
  have:=len_parts p l
  rw [List.filter_cons,List.filter_cons]
  cases h:p x
  · simp only [Bool.false_eq_true,if_false,Bool.not_false,if_true,List.length_cons]
    omega
  · simp only [if_true,Bool.not_true,Bool.false_eq_true,if_false,List.length_cons]
    omega
theorem nodup_le:∀ (N:Nat) (l:List Int) (a:Int),l.Nodup → (∀ n ∈ l,a < n ∧ n ≤ a + (N:Int)) → l.length ≤ N
 | 0,l,a,_,h => by
  cases l with
  | nil => exact Nat.le_refl _
  | cons x r => have:=h x List.mem_cons_self;omega
 | N + 1,l,a,hd,h => by
  have h1:=nodup_le N (l.filter (fun n => decide (n ≠ a + ((N + 1:Nat):Int)))) a (hd.sublist List.filter_sublist) (fun n hn => by
   rw [List.mem_filter,decide_eq_true_eq] at hn
   have:=h n hn.1
   omega)
  have h2:l.length ≤ (l.filter (fun n => decide (n ≠ a + ((N + 1:Nat):Int)))).length + 1:=by
   have hc:(l.filter (fun n => !decide (n ≠ a + ((N + 1:Nat):Int)))).length ≤ 1:=by
    have hdd:=hd.sublist (List.filter_sublist (p:=fun n => !decide (n ≠ a + ((N + 1:Nat):Int))) (l:=l))
    have hall:∀ n ∈ l.filter (fun n => !decide (n ≠ a + ((N + 1:Nat):Int))),n = a + ((N + 1:Nat):Int):=fun n hn => by
     have:=(List.mem_filter.1 hn).2
     simpa using this
    generalize l.filter (fun n => !decide (n ≠ a + ((N + 1:Nat):Int))) = q at hdd hall
    match q,hdd,hall with
    | [],_,_ => exact Nat.zero_le _
    | [_],_,_ => exact Nat.le_refl _
    | x :: y :: r,hdd,hall =>
     have e1:=hall x List.mem_cons_self
     have e2:=hall y (List.mem_cons_of_mem _ List.mem_cons_self)
     have:=(List.nodup_cons.1 hdd).1
     exact absurd (by rw [e1,← e2];exact List.mem_cons_self) this
   have hs:=len_parts (fun n => decide (n ≠ a + ((N + 1:Nat):Int))) l
   omega
  omega
theorem Rch.range {g:Gm} (hg:SndG g) {n:Int} (h:Rch g n):(g.terms:Int) < n ∧ n ≤ (g.all:Int):=by
 cases h with
 | start h0 =>
  rcases Nat.eq_zero_or_pos g.nonts.length with hz | hz
  · have:=hg.none hz;omega
  · exact hg.start hz
 | step p m hp _ hm ht =>
  have:=hg.prod p hp
  unfold pdB at this
  simp only [Bool.and_eq_true,decide_eq_true_eq,List.all_eq_true] at this
  exact ⟨ht,(this.2 n hm).2⟩
theorem rcN_len {g:Gm} (hg:SndG g) (k:Nat):(rcN g k).length ≤ g.nonts.length:=by
 obtain ⟨h1,h2⟩:=rcN_good g k
 refine nodup_le g.nonts.length _ (g.terms:Int) h2 (fun n hn => ?_)
 have:=(h1 n hn).range hg
 unfold Gm.all at this
 omega
theorem rcN_grow {g:Gm}:∀ k,rcN g (k + 1) = rcN g k ∨ k + 1 ≤ (rcN g (k + 1)).length
 | 0 => by
  obtain ⟨r,hr⟩:=rcR_sub g (rcN g 0)
  show rcR g (rcN g 0) = rcN g 0 ∨ 1 ≤ (rcR g (rcN g 0)).length
  rw [hr,List.length_append]
  cases r with
  | nil => exact .inl (List.append_nil _)
  | cons x r => exact .inr (by rw [List.length_cons];omega)
 | k + 1 => by
  rcases rcN_grow k with h | h
  · left
    show rcR g (rcN g (k + 1)) = rcN g (k + 1)
    rw [h]
    exact h
  · obtain ⟨r,hr⟩:=rcR_sub g (rcN g (k + 1))
    show rcR g (rcN g (k + 1)) = rcN g (k + 1) ∨ k + 1 + 1 ≤ (rcR g (rcN g (k + 1))).length
    rw [hr,List.length_append]
    cases r with
    | nil => exact .inl (List.append_nil _)
    | cons x r => exact .inr (by rw [List.length_cons];omega)
theorem rcN_all {g:Gm} (hg:SndG g) (n:Int):n ∈ rcN g (g.nonts.length + 1) ↔ Rch g n:=by
 refine ⟨fun h => (rcN_good g _).1 n h,fun h => ?_⟩
 have hst:rcR g (rcN g (g.nonts.length + 1)) = rcN g (g.nonts.length + 1):=by
  rcases rcN_grow (g:=g) g.nonts.length with h1 | h1
  · show rcR g (rcN g (g.nonts.length + 1)) = _
    rw [h1]
    exact h1
  · have:=rcN_len hg (g.nonts.length + 1)
    omega
 exact rc_all hst (fun h0 => rcN_start h0 _) h
inductive Van (g:Gm):Int → Prop
 | prod (p:Pd):p ∈ g.prods → (∀ n ∈ p.right,Van g n) → Van g p.left
def goneB (out t:List Int):Bool:=t.all fun n => out.contains n
theorem goneB_iff {out t:List Int}:goneB out t = true ↔ ∀ n ∈ t,n ∈ out:=by
 unfold goneB
 rw [List.all_eq_true]
 exact ⟨fun h n hn => List.contains_iff_mem.1 (h n hn),fun h n hn => List.contains_iff_mem.2 (h n hn)⟩
def vaP (out:List Int) (p:Pd):List Int:=if (goneB out p.right && !out.contains p.left) = true then out ++ [p.left] else out
def vaR (g:Gm) (out:List Int):List Int:=g.prods.foldl vaP out
def vaN (g:Gm):Nat → List Int
 | 0 => []
 | k + 1 => vaR g (vaN g k)
theorem vaP_sub (out:List Int) (p:Pd):∃ r,vaP out p = out ++ r:=by
 unfold vaP
 split
 · exact ⟨_,rfl⟩
 · exact ⟨[],by simp⟩
theorem vaR_sub (g:Gm) (out:List Int):∃ r,vaR g out = out ++ r:=fold_sub vaP_sub g.prods out
theorem vaC {out:List Int} {p:Pd}:(goneB out p.right && !out.contains p.left) = true ↔ (∀ n ∈ p.right,n ∈ out) ∧ p.left ∉ out:=by
 rw [Bool.and_eq_true,goneB_iff,Bool.not_eq_true',Bool.eq_false_iff]
 exact and_congr_right fun _ => not_congr List.contains_iff_mem
def VaI (g:Gm) (out:List Int):Prop:=(∀ n ∈ out,Van g n) ∧ out.Nodup
theorem VaI.prod {g:Gm} {o:List Int} (ho:VaI g o) {p:Pd} (hp:p ∈ g.prods):VaI g (vaP o p):=by
 unfold vaP
 split
 · rename_i hc
   rw [vaC] at hc
   refine ⟨fun m hm => ?_,?_⟩
   · rw [List.mem_append,List.mem_singleton] at hm
     rcases hm with hm | rfl
     · exact ho.1 m hm
     · exact Van.prod p hp (fun n hn => ho.1 n (hc.1 n hn))
   · rw [List.nodup_append]
     refine ⟨ho.2,List.pairwise_singleton _ _,fun a ha b hb => ?_⟩
     rw [List.mem_singleton] at hb
     subst hb
     exact fun e => hc.2 (e ▸ ha)
 · exact ho
theorem VaI.round {g:Gm} {out:List Int} (h:VaI g out):VaI g (vaR g out):=fold_keep (P:=VaI g) g.prods out (fun _ _ hp ho => ho.prod hp) h
theorem vaN_good (g:Gm):∀ k,VaI g (vaN g k)
 | 0 => ⟨fun _ hn => absurd hn List.not_mem_nil,List.nodup_nil⟩
 | k + 1 => (vaN_good g k).round
def vaQ (g:Gm) (r i:Nat):List Int:=(g.prods.take i).foldl vaP (vaN g r)
theorem vaQ_good (g:Gm) (r i:Nat):VaI g (vaQ g r i):=fold_keep (P:=VaI g) (g.prods.take i) _ (fun _ _ hp ho => ho.prod (List.mem_of_mem_take hp)) (vaN_good g r)
theorem va_closed {g:Gm} {out:List Int} (h:vaR g out = out) {p:Pd} (hp:p ∈ g.prods) (hn:∀ n ∈ p.right,n ∈ out):p.left ∈ out:=by
 have h1:=fold_still vaP_sub g.prods out h p hp
 unfold vaP at h1
 split at h1
 · have:=congrArg List.length h1
   rw [List.length_append,List.length_singleton] at this
   omega
 · rename_i hc
   rw [vaC] at hc
   exact Decidable.byContradiction fun hno => hc ⟨hn,hno⟩
theorem va_all {g:Gm} {out:List Int} (h:vaR g out = out) {n:Int} (hn:Van g n):n ∈ out:=by
 induction hn with
 | prod p hp _ ih => exact va_closed h hp ih
theorem Van.range {g:Gm} (hg:SndG g) {n:Int} (h:Van g n):(g.terms:Int) < n ∧ n ≤ (g.all:Int):=by
 cases h with
 | prod p hp _ =>
  have:=hg.prod p hp
  unfold pdB at this
  simp only [Bool.and_eq_true,decide_eq_true_eq,List.all_eq_true] at this
  exact ⟨this.1.1.1.1.1,this.1.1.1.1.2⟩
theorem VaI.len {g:Gm} (hg:SndG g) {l:List Int} (h:VaI g l):l.length ≤ g.nonts.length:=
 nodup_le g.nonts.length l (g.terms:Int) h.2 (fun n hn => by
  have:=(h.1 n hn).range hg
  unfold Gm.all at this
  omega)
theorem vaN_grow {g:Gm}:∀ k,vaN g (k + 1) = vaN g k ∨ k + 1 ≤ (vaN g (k + 1)).length
 | 0 => by
  obtain ⟨r,hr⟩:=vaR_sub g (vaN g 0)
  show vaR g (vaN g 0) = vaN g 0 ∨ 1 ≤ (vaR g (vaN g 0)).length
  rw [hr,List.length_append]
  cases r with
  | nil => exact .inl (List.append_nil _)
  | cons x r => exact .inr (by rw [List.length_cons];omega)
 | k + 1 => by
  rcases vaN_grow k with h | h
  · left
    show vaR g (vaN g (k + 1)) = vaN g (k + 1)
    rw [h]
    exact h
  · obtain ⟨r,hr⟩:=vaR_sub g (vaN g (k + 1))
    show vaR g (vaN g (k + 1)) = vaN g (k + 1) ∨ k + 1 + 1 ≤ (vaR g (vaN g (k + 1))).length
    rw [hr,List.length_append]
    cases r with
    | nil => exact .inl (List.append_nil _)
    | cons x r => exact .inr (by rw [List.length_cons];omega)
def vanL (g:Gm):List Int:=vaN g (g.nonts.length + 1)
theorem vanL_mem {g:Gm} (hg:SndG g) (n:Int):n ∈ vanL g ↔ Van g n:=by
 refine ⟨fun h => (vaN_good g _).1 n h,fun h => ?_⟩
 have hst:vaR g (vanL g) = vanL g:=by
  rcases vaN_grow (g:=g) g.nonts.length with h1 | h1
  · show vaR g (vaN g (g.nonts.length + 1)) = vaN g (g.nonts.length + 1)
    rw [h1]
    exact h1
  · have:=(vaN_good g (g.nonts.length + 1)).len hg
    omega
 exact va_all hst h
inductive Beg (g:Gm):List Int → Int → Prop
 | here (x:Int) (r:List Int):Beg g (x :: r) x
 | into (n:Int) (r:List Int) (p:Pd) (x:Int):p ∈ g.prods → p.left = n → Beg g p.right x → Beg g (n :: r) x
 | past (n:Int) (r:List Int) (x:Int):Van g n → Beg g r x → Beg g (n :: r) x
theorem Beg.app_left {g:Gm} {a:List Int} {x:Int} (h:Beg g a x) (b:List Int):Beg g (a ++ b) x:=by
 induction h with
 | here x r => exact .here x _
 | into n r p x hp e h1 _ => exact .into n _ p x hp e h1
 | past n r x hv _ ih => exact .past n _ x hv ih
theorem Beg.range {g:Gm} (hg:SndG g) {t:List Int} {x:Int} (h:Beg g t x) (ht:∀ n ∈ t,1 ≤ n ∧ n ≤ (g.all:Int)):1 ≤ x ∧ x ≤ (g.all:Int):=by
 induction h with
 | here x r => exact ht x List.mem_cons_self
 | into n r p x hp _ _ ih =>
  refine ih (fun m hm => ?_)
  have:=hg.prod p hp
  unfold pdB at this
  simp only [Bool.and_eq_true,decide_eq_true_eq,List.all_eq_true] at this
  exact this.2 m hm
 | past n r x _ _ ih => exact ih (fun m hm => ht m (List.mem_cons_of_mem _ hm))
end Go.Proofs.YtfhokapfkclckaaGreat
