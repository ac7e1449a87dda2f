/- What is told of a set is read to that set. A rule's text, read. What is told of a rule is read to that rule. What is read is a right rule; a text in parentheses. -/
import Derived.Test.YtbpnioehmohbcaaGreatJ2
namespace Go.Proofs.YtbpnioehmohbcaaGreat
end Go.Proofs.YtbpnioehmohbcaaGreat
namespace Go.Proofs.YtbpnioehmohbcaaGreat
def starsF:Rx → Txt → Rx × Txt
 | t,[] => (t,[])
 | t,c :: r => if c = 42 then starsF (.star t) r else if c = 43 then starsF (.plus t) r else if c = 63 then starsF (.opt t) r else (t,c :: r)
def rowEnd (s:Txt):Bool:=s.isEmpty || s.head? == some 124 || s.head? == some 41
mutual
def atomF:Nat → Txt → Option (Rx × Txt)
 | 0,_ => none
 | _ + 1,[] => none
 | n + 1,c :: r =>
  if c = 40 then
   if r.head? == some 41 then some (.eps,r.tail) else
   match rowsF n r with
   | some (t,q) => if q.head? == some 41 then some (t,q.tail) else none
   | none => none
  else if c = 46 then some (.set (notB (spanB 10 10)),r)
  else if c = 91 then
   match classF (r.length + 1) r with
   | some (S,q) => some (.set S,q)
   | none => none
  else match signF leftA (c :: r) with
   | some (b,q) => some (.set (spanB b b),q)
   | none => none
def rowF:Nat → Txt → Option (Rx × Txt)
 | 0,_ => none
 | n + 1,s => match atomF n s with
  | some (t,q) => moreF n (starsF t q).1 (starsF t q).2
  | none => none
def moreF:Nat → Rx → Txt → Option (Rx × Txt)
 | 0,_,_ => none
 | n + 1,acc,s => if rowEnd s then some (acc,s) else match atomF n s with
  | some (t,q) => moreF n (.cat acc (starsF t q).1) (starsF t q).2
  | none => none
def rowsF:Nat → Txt → Option (Rx × Txt)
 | 0,_ => none
 | n + 1,s => match rowF n s with
  | some (t,q) => orsF n t q
  | none => none
def orsF:Nat → Rx → Txt → Option (Rx × Txt)
 | 0,_,_ => none
 | n + 1,acc,s => if s.head? == some 124 then
  match rowF n s.tail with
  | some (t,q) => orsF n (.or acc t) q
  | none => none
  else some (acc,s)
end
theorem stars_le:∀ (s:Txt) (t:Rx),(starsF t s).2.length ≤ s.length
 | [],t => by simp [starsF]
 | c :: r,t => by
  unfold starsF
  split
  · have:=stars_le r (.star t);simp;omega
  split
  · have:=stars_le r (.plus t);simp;omega
  split
  · have:=stars_le r (.opt t);simp;omega
  · exact Nat.le_refl _
theorem items_le:∀ (n:Nat) (first:Bool) (acc:W4) (s:Txt) (S:W4) (q:Txt),itemsF n first acc s = some (S,q) → q.length ≤ s.length
 | 0,_,_,_,_,_,h => by simp [itemsF] at h
 | n + 1,first,acc,s,S,q,h => by
  unfold itemsF at h
  split at h
  · injection h with h;injection h with _ h;subst h;simp
  split at h
  · cases h
  rename_i a s1 hs
  have h1:=signF_lt hs
  split at h
  · split at h
    · cases h
    rename_i b s2 hs2
    have h2:=signF_lt hs2
    have h3:s1.tail.length ≤ s1.length:=by simp
    split at h
    · cases h
    · have:=items_le n _ _ _ _ _ h;omega
  · have:=items_le n _ _ _ _ _ h;omega
theorem class_le {n:Nat} {s:Txt} {S:W4} {q:Txt} (h:classF n s = some (S,q)):q.length ≤ s.length:=by
 unfold classF at h
 split at h
 · split at h
   · cases h
   rename_i S' r hi
   have:=items_le _ _ _ _ _ _ hi
   have h3:s.tail.length ≤ s.length:=by simp
   split at h
   · cases h
   · injection h with h;injection h with _ h;subst h;omega
 · split at h
   · cases h
   rename_i S' r hi
   have:=items_le _ _ _ _ _ _ hi
   split at h
   · cases h
   · injection h with h;injection h with _ h;subst h;omega
theorem parse_lt:∀ n,(∀ s t q,atomF n s = some (t,q) → q.length < s.length) ∧ (∀ s t q,rowF n s = some (t,q) → q.length < s.length) ∧ (∀ a s t q,moreF n a s = some (t,q) → q.length ≤ s.length) ∧ (∀ s t q,rowsF n s = some (t,q) → q.length < s.length) ∧ (∀ a s t q,orsF n a s = some (t,q) → q.length ≤ s.length)
 | 0 => ⟨fun _ _ _ h => by simp [atomF] at h,fun _ _ _ h => by simp [rowF] at h,fun _ _ _ _ h => by simp [moreF] at h,fun _ _ _ h => by simp [rowsF] at h,fun _ _ _ _ h => by simp [orsF] at h⟩
 | n + 1 => by
  obtain ⟨iA,iR,iM,iS,iO⟩:=parse_lt n
  refine ⟨fun s t q h => ?_,fun s t q h => ?_,fun a s t q h => ?_,fun s t q h => ?_,fun a s t q h => ?_⟩
  · cases s with
    | nil => simp [atomF] at h
    | cons c r =>
     rw [atomF] at h
     split at h
     · split at h
       · injection h with h;injection h with _ h;subst h;simp;omega
       split at h
       · rename_i t' q' hr
         have:=iS _ _ _ hr
         have h3:q'.tail.length ≤ q'.length:=by simp
         split at h
         · injection h with h;injection h with _ h;subst h;simp only [List.length_cons];omega
         · cases h
       · cases h
     split at h
     · injection h with h;injection h with _ h;subst h;simp
     split at h
     · split at h
       · rename_i S q' hc
         have:=class_le hc
         injection h with h;injection h with _ h;subst h;simp only [List.length_cons];omega
       · cases h
     split at h
     · rename_i b q' hs
       have:=signF_lt hs
       injection h with h;injection h with _ h;subst h;exact this
     · cases h
  · rw [rowF] at h
    split at h
    · rename_i t' q' ha
      have h1:=iA _ _ _ ha
      have h2:=iM _ _ _ _ h
      have h3:=stars_le q' t'
      omega
    · cases h
  · rw [moreF] at h
    split at h
    · injection h with h;injection h with _ h;subst h;exact Nat.le_refl _
    split at h
    · rename_i t' q' ha
      have h1:=iA _ _ _ ha
      have h2:=iM _ _ _ _ h
      have h3:=stars_le q' t'
      omega
    · cases h
  · rw [rowsF] at h
    split at h
    · rename_i t' q' ha
      have h1:=iR _ _ _ ha
      have h2:=iO _ _ _ _ h
      omega
    · cases h
  · rw [orsF] at h
    split at h
    · split at h
      · rename_i t' q' ha
        have h1:=iR _ _ _ ha
        have h2:=iO _ _ _ _ h
        have h3:s.tail.length ≤ s.length:=by simp
        omega
      · cases h
    · injection h with h;injection h with _ h;subst h;exact Nat.le_refl _
theorem fuel:∀ n,(∀ s,3 * s.length + 1 ≤ n → atomF n s = atomF (n + 1) s) ∧ (∀ s,3 * s.length + 2 ≤ n → rowF n s = rowF (n + 1) s) ∧ (∀ a s,3 * s.length + 2 ≤ n → moreF n a s = moreF (n + 1) a s) ∧ (∀ s,3 * s.length + 3 ≤ n → rowsF n s = rowsF (n + 1) s) ∧ (∀ a s,3 * s.length + 3 ≤ n → orsF n a s = orsF (n + 1) a s)
 | 0 => ⟨fun _ h => by omega,fun _ h => by omega,fun _ _ h => by omega,fun _ h => by omega,fun _ _ h => by omega⟩
 | n + 1 => by
  obtain ⟨iA,iR,iM,iS,iO⟩:=fuel n
  obtain ⟨lA,lR,lM,lS,lO⟩:=parse_lt n
  refine ⟨fun s h => ?_,fun s h => ?_,fun a s h => ?_,fun s h => ?_,fun a s h => ?_⟩
  · cases s with
    | nil => simp [atomF]
    | cons c r =>
     simp only [List.length_cons] at h
     rw [atomF,atomF,iS r (by omega)]
  · rw [rowF,rowF,← iA s (by omega)]
    cases e:atomF n s with
    | none => rfl
    | some x =>
     obtain ⟨t,q⟩:=x
     have h1:=lA _ _ _ e
     have h2:=stars_le q t
     exact iM _ _ (by omega)
  · rw [moreF,moreF,← iA s (by omega)]
    split
    · rfl
    cases e:atomF n s with
    | none => rfl
    | some x =>
     obtain ⟨t,q⟩:=x
     have h1:=lA _ _ _ e
     have h2:=stars_le q t
     exact iM _ _ (by omega)
  · rw [rowsF,rowsF,← iR s (by omega)]
    cases e:rowF n s with
    | none => rfl
    | some x =>
     obtain ⟨t,q⟩:=x
     have h1:=lR _ _ _ e
     exact iO _ _ (by omega)
  · rw [orsF,orsF]
    cases s with
    | nil => rfl
    | cons c r =>
     simp only [List.length_cons] at h
     split
     · rw [List.tail_cons,← iR r (by omega)]
       cases e:rowF n r with
       | none => rfl
       | some x =>
        obtain ⟨t,q⟩:=x
        have h1:=lR _ _ _ e
        exact iO _ _ (by omega)
     · rfl
theorem fuel_more {n m:Nat} (h:n ≤ m):(∀ s,3 * s.length + 1 ≤ n → atomF n s = atomF m s) ∧ (∀ s,3 * s.length + 2 ≤ n → rowF n s = rowF m s) ∧ (∀ a s,3 * s.length + 2 ≤ n → moreF n a s = moreF m a s) ∧ (∀ s,3 * s.length + 3 ≤ n → rowsF n s = rowsF m s) ∧ (∀ a s,3 * s.length + 3 ≤ n → orsF n a s = orsF m a s):=by
 induction h with
 | refl => exact ⟨fun _ _ => rfl,fun _ _ => rfl,fun _ _ _ => rfl,fun _ _ => rfl,fun _ _ _ => rfl⟩
 | step hm ih =>
  rename_i m
  have hm':n ≤ m:=hm
  obtain ⟨iA,iR,iM,iS,iO⟩:=ih
  obtain ⟨fA,fR,fM,fS,fO⟩:=fuel m
  exact ⟨fun s h => (iA s h).trans (fA s (by omega)),fun s h => (iR s h).trans (fR s (by omega)),fun a s h => (iM a s h).trans (fM a s (by omega)),fun s h => (iS s h).trans (fS s (by omega)),fun a s h => (iO a s h).trans (fO a s (by omega))⟩
def atomP (s:Txt):Option (Rx × Txt):=atomF (3 * s.length + 3) s
def rowP (s:Txt):Option (Rx × Txt):=rowF (3 * s.length + 3) s
def moreP (a:Rx) (s:Txt):Option (Rx × Txt):=moreF (3 * s.length + 3) a s
def rowsP (s:Txt):Option (Rx × Txt):=rowsF (3 * s.length + 3) s
def orsP (a:Rx) (s:Txt):Option (Rx × Txt):=orsF (3 * s.length + 3) a s
theorem atomP_at {s:Txt} {n:Nat} (h:3 * s.length + 1 ≤ n):atomF n s = atomP s:=by
 rcases Nat.le_total n (3 * s.length + 3) with h' | h'
 · exact (fuel_more h').1 s h
 · exact ((fuel_more h').1 s (by omega)).symm
theorem rowP_at {s:Txt} {n:Nat} (h:3 * s.length + 2 ≤ n):rowF n s = rowP s:=by
 rcases Nat.le_total n (3 * s.length + 3) with h' | h'
 · exact (fuel_more h').2.1 s h
 · exact ((fuel_more h').2.1 s (by omega)).symm
theorem moreP_at {a:Rx} {s:Txt} {n:Nat} (h:3 * s.length + 2 ≤ n):moreF n a s = moreP a s:=by
 rcases Nat.le_total n (3 * s.length + 3) with h' | h'
 · exact (fuel_more h').2.2.1 a s h
 · exact ((fuel_more h').2.2.1 a s (by omega)).symm
theorem rowsP_at {s:Txt} {n:Nat} (h:3 * s.length + 3 ≤ n):rowsF n s = rowsP s:=((fuel_more h).2.2.2.1 s (Nat.le_refl _)).symm
theorem orsP_at {a:Rx} {s:Txt} {n:Nat} (h:3 * s.length + 3 ≤ n):orsF n a s = orsP a s:=((fuel_more h).2.2.2.2 a s (Nat.le_refl _)).symm
theorem atomP_lt {s:Txt} {t:Rx} {q:Txt} (h:atomP s = some (t,q)):q.length < s.length:=(parse_lt _).1 _ _ _ h
theorem rowP_lt {s:Txt} {t:Rx} {q:Txt} (h:rowP s = some (t,q)):q.length < s.length:=(parse_lt _).2.1 _ _ _ h
theorem atomP_eq (c:UInt8) (r:Txt):atomP (c :: r) =
 if c = 40 then
  if r.head? == some 41 then some (.eps,r.tail) else
  match rowsP r with
  | some (t,q) => if q.head? == some 41 then some (t,q.tail) else none
  | none => none
 else if c = 46 then some (.set (notB (spanB 10 10)),r)
 else if c = 91 then
  match classF (r.length + 1) r with
  | some (S,q) => some (.set S,q)
  | none => none
 else match signF leftA (c :: r) with
  | some (b,q) => some (.set (spanB b b),q)
  | none => none:=by
 show atomF (3 * (r.length + 1) + 2 + 1) (c :: r) = _
 rw [atomF,rowsP_at (by omega)]
theorem rowP_eq (s:Txt):rowP s = match atomP s with
 | some (t,q) => moreP (starsF t q).1 (starsF t q).2
 | none => none:=by
 show rowF (3 * s.length + 2 + 1) s = _
 rw [rowF,atomP_at (by omega)]
 cases e:atomP s with
 | none => rfl
 | some x =>
  obtain ⟨t,q⟩:=x
  have h1:=atomP_lt e
  have h2:=stars_le q t
  exact moreP_at (by omega)
theorem moreP_eq (a:Rx) (s:Txt):moreP a s = if rowEnd s then some (a,s) else match atomP s with
 | some (t,q) => moreP (.cat a (starsF t q).1) (starsF t q).2
 | none => none:=by
 show moreF (3 * s.length + 2 + 1) a s = _
 rw [moreF,atomP_at (by omega)]
 split
 · rfl
 cases e:atomP s with
 | none => rfl
 | some x =>
  obtain ⟨t,q⟩:=x
  have h1:=atomP_lt e
  have h2:=stars_le q t
  exact moreP_at (by omega)
theorem rowsP_eq (s:Txt):rowsP s = match rowP s with
 | some (t,q) => orsP t q
 | none => none:=by
 show rowsF (3 * s.length + 2 + 1) s = _
 rw [rowsF,rowP_at (by omega)]
 cases e:rowP s with
 | none => rfl
 | some x =>
  obtain ⟨t,q⟩:=x
  have h1:=rowP_lt e
  exact orsP_at (by omega)
theorem orsP_eq (a:Rx) (s:Txt):orsP a s = if s.head? == some 124 then
 match rowP s.tail with
 | some (t,q) => orsP (.or a t) q
 | none => none
 else some (a,s):=by
 show orsF (3 * s.length + 2 + 1) a s = _
 rw [orsF]
 cases s with
 | nil => rfl
 | cons c r =>
  split
  · rw [List.tail_cons,List.length_cons,rowP_at (by omega)]
    cases e:rowP r with
    | none => rfl
    | some x =>
     obtain ⟨t,q⟩:=x
     have h1:=rowP_lt e
     exact orsP_at (by omega)
  · rfl
end Go.Proofs.YtbpnioehmohbcaaGreat
namespace Go.Proofs.YtbpnioehmohbcaaGreat
theorem span_has (b x:Nat) (hx:x < 256):hasB (spanB b b) x = decide (x = b):=by
 unfold spanB
 rw [mkB_has _ x hx,Bool.eq_iff_iff]
 simp
 omega
def Rx.fit:Rx → Prop
 | .set S => Fit4 S
 | .eps => True
 | .cat a b => a.fit ∧ b.fit
 | .or a b => a.fit ∧ b.fit
 | .star a => a.fit
 | .plus a => a.fit
 | .opt a => a.fit
end Go.Proofs.YtbpnioehmohbcaaGreat
namespace Go.Proofs.YtbpnioehmohbcaaGreat
theorem hex_lt:∀ c:UInt8,∀ a,hexF c = some a → a < 16:=by
 intro c a h
 unfold hexF at h
 split at h
 · rename_i h1
   injection h with h
   have:c.toNat ≤ 57:=h1.2
   omega
 split at h
 · rename_i h1
   injection h with h
   have:c.toNat ≤ 102:=h1.2
   omega
 split at h
 · rename_i h1
   injection h with h
   have:c.toNat ≤ 70:=h1.2
   omega
 · cases h
theorem escF_byte {s:Txt} {b:Nat} {q:Txt} (h:escF s = some (b,q)):b < 256:=by
 cases s with
 | nil => cases h
 | cons d s =>
  simp only [escF] at h
  split at h
  · injection h with h;injection h with h2 h3;omega
  split at h
  · injection h with h;injection h with h2 h3;omega
  split at h
  · injection h with h;injection h with h2 h3;omega
  split at h
  · match s,h with
    | x :: y :: z,h =>
     simp only at h
     split at h
     · rename_i a b' ha hb
       have h1:=hex_lt x a ha
       have h2:=hex_lt y b' hb
       injection h with h;injection h with h2 h3;omega
     · cases h
  split at h
  · injection h with h;injection h with h2 h3;have:=d.toNat_lt;omega
  · cases h
theorem signF_byte {left:UInt8 → Bool} {s:Txt} {b:Nat} {q:Txt} (h:signF left s = some (b,q)):b < 256:=by
 cases s with
 | nil => cases h
 | cons c s =>
  simp only [signF] at h
  split at h
  · cases h
  split at h
  · exact escF_byte h
  split at h
  · cases h
  · injection h with h;injection h with h2 h3;have:=c.toNat_lt;omega
theorem items_fit:∀ (n:Nat) (first:Bool) (acc:W4) (s:Txt) (S:W4) (q:Txt),Fit4 acc → itemsF n first acc s = some (S,q) → Fit4 S
 | 0,_,_,_,_,_,_,h => by simp [itemsF] at h
 | n + 1,first,acc,s,S,q,ha,h => by
  unfold itemsF at h
  split at h
  · injection h with h;injection h with h _;subst h;exact ha
  split at h
  · cases h
  split at h
  · split at h
    · cases h
    split at h
    · cases h
    · exact items_fit n _ _ _ _ _ (mkB_fit _) h
  · exact items_fit n _ _ _ _ _ (mkB_fit _) h
theorem class_ok {n:Nat} {s:Txt} {S:W4} {q:Txt} (h:classF n s = some (S,q)):Fit4 S ∧ S ≠ noneB:=by
 unfold classF at h
 split at h
 · split at h
   · cases h
   split at h
   · cases h
   · rename_i hne
     injection h with h;injection h with h _;subst h
     exact ⟨mkB_fit _,hne⟩
 · split at h
   · cases h
   rename_i S' r hi
   split at h
   · cases h
   · rename_i hne
     injection h with h;injection h with h _;subst h
     exact ⟨items_fit _ _ _ _ _ _ noneB_fit hi,hne⟩
theorem span_ne {b:Nat} (h:b < 256):spanB b b ≠ noneB:=fun e => by
 have:=span_has b b h
 rw [e,noneB_has] at this
 simp at this
theorem dot_ne:notB (spanB 10 10) ≠ noneB:=fun e => by
 have:hasB (notB (spanB 10 10)) 0 = true:=by unfold notB;rw [mkB_has _ 0 (by omega),span_has 10 0 (by omega)];rfl
 rw [e,noneB_has] at this
 cases this
def Rx.good (t:Rx):Prop:=t.ok ∧ t.fit
theorem stars_good:∀ (s:Txt) (t:Rx),t.good → (starsF t s).1.good
 | [],t,h => by simpa [starsF] using h
 | c :: r,t,h => by
  unfold starsF
  split
  · exact stars_good r (.star t) h
  split
  · exact stars_good r (.plus t) h
  split
  · exact stars_good r (.opt t) h
  · exact h
theorem parse_good:∀ n,(∀ s t q,atomF n s = some (t,q) → t.good) ∧ (∀ s t q,rowF n s = some (t,q) → t.good) ∧ (∀ a s t q,a.good → moreF n a s = some (t,q) → t.good) ∧ (∀ s t q,rowsF n s = some (t,q) → t.good) ∧ (∀ a s t q,a.good → orsF n a s = some (t,q) → t.good)
 | 0 => ⟨fun _ _ _ h => by simp [atomF] at h,fun _ _ _ h => by simp [rowF] at h,fun _ _ _ _ _ h => by simp [moreF] at h,fun _ _ _ h => by simp [rowsF] at h,fun _ _ _ _ _ h => by simp [orsF] at h⟩
 | n + 1 => by
  obtain ⟨iA,iR,iM,iS,iO⟩:=parse_good n
  refine ⟨fun s t q h => ?_,fun s t q h => ?_,fun a s t q ha h => ?_,fun s t q h => ?_,fun a s t q ha h => ?_⟩
  · cases s with
    | nil => simp [atomF] at h
    | cons c r =>
     rw [atomF] at h
     split at h
     · split at h
       · injection h with h;injection h with h _;subst h;exact ⟨trivial,trivial⟩
       split at h
       · rename_i t' q' hr
         split at h
         · injection h with h;injection h with h _;subst h;exact iS _ _ _ hr
         · cases h
       · cases h
     split at h
     · injection h with h;injection h with h _;subst h;exact ⟨dot_ne,mkB_fit _⟩
     split at h
     · split at h
       · rename_i S q' hc
         injection h with h;injection h with h _;subst h;exact ⟨(class_ok hc).2,(class_ok hc).1⟩
       · cases h
     split at h
     · rename_i b q' hs
       injection h with h;injection h with h _;subst h;exact ⟨span_ne (signF_byte hs),mkB_fit _⟩
     · cases h
  · rw [rowF] at h
    split at h
    · rename_i t' q' ha
      exact iM _ _ _ _ (stars_good _ _ (iA _ _ _ ha)) h
    · cases h
  · rw [moreF] at h
    split at h
    · injection h with h;injection h with h _;subst h;exact ha
    split at h
    · rename_i t' q' hb
      have hg:=stars_good q' t' (iA _ _ _ hb)
      exact iM _ _ _ _ (show (Rx.cat a (starsF t' q').1).good from ⟨⟨ha.1,hg.1⟩,⟨ha.2,hg.2⟩⟩) h
    · cases h
  · rw [rowsF] at h
    split at h
    · rename_i t' q' hb
      exact iO _ _ _ _ (iR _ _ _ hb) h
    · cases h
  · rw [orsF] at h
    split at h
    · split at h
      · rename_i t' q' hb
        have hg:=iR _ _ _ hb
        exact iO _ _ _ _ (show (Rx.or a t').good from ⟨⟨ha.1,hg.1⟩,⟨ha.2,hg.2⟩⟩) h
      · cases h
    · injection h with h;injection h with h _;subst h;exact ha
theorem rowsP_good {s:Txt} {t:Rx} {q:Txt} (h:rowsP s = some (t,q)):t.ok ∧ t.fit:=(parse_good _).2.2.2.1 _ _ _ h
/-! ### with a ) behind -/
end Go.Proofs.YtbpnioehmohbcaaGreat
