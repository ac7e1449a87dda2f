/- What is asked of package gram stands: Parse, Terms, Name. A region that draws its order, an operation at a time: of each it is shown once, in any world at hand and whatever else has come up, that it leaves a value of which something holds that the others keep. Layer 16: items, what is behind their dots, their closure; all of a grammar's, rising. append of a slice of numbers to a slice of the call's own; copied, slices.Grow, slices.Concat. -/
import Derived.Test.YtbpnioehmohbcaaGreatJ31
import Derived.Test.YtbpnioehmohbcaaGreatJ22
import Derived.Test.YtbpnioehmohbcaaGreatJ10
import Derived.Orders
import Derived.Deep.Draws
import Derived.Laws.AppendOwnNone
import Derived.Laws.OwnMore
namespace Go.Proofs.YtbpnioehmohbcaaGreat
open Go.RowKit Go.Maps
theorem prs_none {s:Txt} (h:prs s = none):(prsE s).2 ≠ 0:=by
 unfold prs at h
 split at h
 · cases h
 · assumption
theorem ex1_words:(wrdA ex1).2.2 = 0:=by decide +kernel
theorem ex1_err:(rdS ex1).settle.err = 0:=by decide +kernel
theorem ex2_words:(wrdA ex2).2.2 = 0:=by decide +kernel
theorem ex2_err:(rdS ex2).settle.err = 5 ∧ (rdS ex2).settle.pl = 3:=by decide +kernel
theorem prs_of {s:Txt} (h0:(wrdA s).2.2 = 0) (he:(rdS s).settle.err = 0):prs s = some (prsG s):=by
 have h1:(prsE s).2 = 0:=by
  unfold prsE
  rw [if_pos h0]
  exact he
 unfold prs
 rw [if_pos h1]
theorem ex1_prs:prs ex1 = some (prsG ex1):=prs_of ex1_words ex1_err
theorem prsOK:PrsOK prs where
 yes s g u hs h:=by
  obtain ⟨h0,he,-,rfl⟩:=prs_some h
  exact parseGood12 s u hs h0 he
 no s u hs h:=by
  have h:=prs_none h
  by_cases h0:(wrdA s).2.2 = 0
  · have he:(rdS s).settle.err ≠ 0:=by
     unfold prsE at h
     rw [if_pos h0] at h
     exact h
    refine (parseFault12 s u hs h0 he).mono ?_
    rintro e w' ⟨rfl,hb⟩
    exact ⟨none,none,none,none,0,0,0,0,0,_,_,rfl,he,hb⟩
  · refine (parseB s u hs h0).mono ?_
    rintro e w' ⟨rfl,hb⟩
    exact ⟨none,none,none,none,0,0,0,0,0,_,_,rfl,h0,hb⟩
 ex:=⟨prsG ex1,ex1_prs,by decide +kernel,by decide +kernel,fun h => by
  have h1:(prsG ex1).prods.map Pd.right = [[1,2],[]]:=by decide +kernel
  have h2:((prsG ex1).prods.map Pd.right)[0]'(by rw [List.length_map];exact h) = [1,2]:=by simp only [h1];rfl
  rwa [List.getElem_map] at h2⟩
 bad u:=by
  refine (parseFault12 ex2 u (by decide) ex2_words (by rw [ex2_err.1];decide)).mono ?_
  rintro e w' ⟨rfl,hb⟩
  rw [ex2_err.1,ex2_err.2]
  exact ⟨none,none,none,none,0,0,0,0,0,rfl,hb⟩
 bnd _ _ h:=prs_bnd h
end Go.Proofs.YtbpnioehmohbcaaGreat
namespace Go.Proofs.YtbpnioehmohbcaaGreat
open Go
def putL:List Oper → Nat → (Nat → Value) → Act → Act
 | [],_,_,a => a
 | o :: os,i,xs,a => putL os (i + 1) xs (a.put o.dst (xs i))
def rgAll (Ob:Nat → Oper → Prop):Nat → List Oper → Prop
 | _,[] => True
 | i,o :: os => Ob i o ∧ rgAll Ob (i + 1) os
theorem rgAll_cons {Ob:Nat → Oper → Prop} {i:Nat} {o:Oper} {os:List Oper} (h:Ob i o) (h2:rgAll Ob (i + 1) os):rgAll Ob i (o :: os):=⟨h,h2⟩
theorem rgAll_nil {Ob:Nat → Oper → Prop} {i:Nat}:rgAll Ob i []:=trivial
def rgB (ops:List Oper):Bool:=(List.range ops.length).all fun i => match ops[i]? with
 | none => true
 | some o => (o.after.all fun e => !Region.binds .any e || decide (e.on < i)) && match o.dst with
  | none => true
  | some d => (List.range ops.length).all fun j => decide (i = j) || ((ops[j]?).bind (·.dst)) != some d
theorem rgAll_at {Ob:Nat → Oper → Prop}:∀ (l:List Oper) (k:Nat),rgAll Ob k l → ∀ i o,l[i]? = some o → Ob (k + i) o
 | [],_,_,i,o,h => by simp at h
 | x :: l,k,h,0,o,e => by
  have e:x = o:=by simpa using e
  subst e
  exact h.1
 | x :: l,k,h,i + 1,o,e => by
  have:=rgAll_at l (k + 1) h.2 i o (by simpa using e)
  rw [show k + (i + 1) = k + 1 + i by omega]
  exact this
theorem put_same (a:Act) (d:Option Tmp) (x y:Value):(a.put d x).put d y = a.put d y:=by
 cases d with
 | none => rfl
 | some d => simp [Act.put]
def updV (xs:Nat → Value) (i:Nat) (v:Value):Nat → Value:=fun j => if j = i then v else xs j
theorem updV_at (xs:Nat → Value) (i:Nat) (v:Value):updV xs i v i = v:=if_pos rfl
theorem updV_ne (xs:Nat → Value) {i j:Nat} (v:Value) (h:j ≠ i):updV xs i v j = xs j:=if_neg h
theorem putL_put (d:Option Tmp) (v:Value):∀ (l:List Oper) (k:Nat) (xs:Nat → Value) (a:Act),(∀ o ∈ l,∀ t,d = some t → o.dst ≠ some t) → (putL l k xs a).put d v = putL l k xs (a.put d v)
 | [],_,_,_,_ => rfl
 | o :: l,k,xs,a,h => by
  show (putL l (k + 1) xs (a.put o.dst (xs k))).put d v = putL l (k + 1) xs ((a.put d v).put o.dst (xs k))
  rw [putL_put d v l (k + 1) xs _ (fun o ho => h o (List.mem_cons_of_mem _ ho)),Act.put_comm a v (xs k) (h o List.mem_cons_self)]
theorem putL_congr:∀ (l:List Oper) (k:Nat) (xs ys:Nat → Value) (a:Act),(∀ j,k ≤ j → xs j = ys j) → putL l k xs a = putL l k ys a
 | [],_,_,_,_,_ => rfl
 | o :: l,k,xs,ys,a,h => by
  show putL l (k + 1) xs (a.put o.dst (xs k)) = putL l (k + 1) ys (a.put o.dst (ys k))
  rw [h k (Nat.le_refl _)]
  exact putL_congr l (k + 1) xs ys _ (fun j hj => h j (by omega))
theorem putL_upd (v:Value):∀ (l:List Oper) (k i:Nat) (xs:Nat → Value) (a:Act) (o:Oper),l[i]? = some o → (∀ j x,j ≠ i → l[j]? = some x → ∀ t,o.dst = some t → x.dst ≠ some t) →
 putL l k (updV xs (k + i) v) a = (putL l k xs a).put o.dst v
 | [],_,i,_,_,_,h,_ => by simp at h
 | x :: l,k,0,xs,a,o,e,h => by
  have e:x = o:=by simpa using e
  subst e
  show putL l (k + 1) (updV xs (k + 0) v) (a.put x.dst (updV xs (k + 0) v k)) = (putL l (k + 1) xs (a.put x.dst (xs k))).put x.dst v
  rw [putL_put x.dst v l (k + 1) xs _ (fun o ho t ht => by
   obtain ⟨j,hj,rfl⟩:=List.getElem_of_mem ho
   exact h (j + 1) _ (by omega) (by simp [hj]) t ht),put_same]
  have e1:updV xs (k + 0) v k = v:=updV_at xs k v
  rw [e1]
  exact putL_congr l (k + 1) _ _ _ (fun j hj => updV_ne xs v (by omega))
 | x :: l,k,i + 1,xs,a,o,e,h => by
  have e:l[i]? = some o:=by simpa using e
  show putL l (k + 1) (updV xs (k + (i + 1)) v) (a.put x.dst (updV xs (k + (i + 1)) v k)) = (putL l (k + 1) xs (a.put x.dst (xs k))).put o.dst v
  rw [updV_ne xs v (show k ≠ k + (i + 1) by omega),show k + (i + 1) = k + 1 + i by omega]
  exact putL_upd v l (k + 1) i xs _ o e (fun j x hj hx => h (j + 1) x (by omega) (by simpa using hx))
theorem putL_self (a:Act):∀ (l:List Oper) (k:Nat) (xs:Nat → Value),(∀ i o,l[i]? = some o → ∀ d,o.dst = some d → xs (k + i) = a.tmps.getD d undef) → putL l k xs a = a
 | [],_,_,_ => rfl
 | o :: l,k,xs,h => by
  have e:a.put o.dst (xs k) = a:=by
   have h0:=h 0 o rfl
   cases hd:o.dst with
   | none => rfl
   | some d =>
    have h1:xs k = a.tmps.getD d undef:=h0 d hd
    rw [h1]
    unfold Act.put
    have hy:∀ hlt:d < a.tmps.size,a.tmps.getD d undef = a.tmps[d]:=fun hlt => by rw [Array.getD_eq_getD_getElem?,Array.getElem?_eq_getElem hlt,Option.getD_some]
    generalize a.tmps.getD d undef = y at hy
    have:a.tmps.setIfInBounds d y = a.tmps:=by
     apply Array.ext_getElem?
     intro j
     rw [Array.getElem?_setIfInBounds]
     by_cases e:d = j
     · subst e
       rw [if_pos rfl]
       by_cases hlt:d < a.tmps.size
       · rw [if_pos hlt,hy hlt,Array.getElem?_eq_getElem hlt]
       · rw [if_neg hlt,Array.getElem?_eq_none (Nat.le_of_not_lt hlt)]
     · rw [if_neg e]
    simp only [this]
  show putL l (k + 1) xs (a.put o.dst (xs k)) = a
  rw [e]
  exact putL_self a l (k + 1) xs (fun i o ho d hd => by
   have:=h (i + 1) o (by simpa using ho) d hd
   rw [show k + 1 + i = k + (i + 1) by omega]
   exact this)
section
variable {P:Program} {Q:Exit → Act → World → Prop} {G:Type}
def rgOb (P:Program) (Q:Exit → Act → World → Prop) (I:G → World → Prop) (Φ:Nat → G → World → Value → Prop) (use:Nat → Option Nat) (l:List Oper) (A:(Nat → Value) → Act) (i:Nat) (o:Oper):Prop:=
 ∀ (xs:Nat → Value) (γ:G) (w:World),I γ w → (∀ e ∈ o.after.toList,Region.binds .any e = true → (use e.on = none ∨ use e.on = some i) → Φ e.on γ w (xs e.on)) →
  ∀ K:Act → World → Prop,(∀ v γ' w',I γ' w' → Φ i γ' w' v → (∀ j u,j ≠ i → use j ≠ some i → Φ j γ w u → Φ j γ' w' u) → K ((A xs).put o.dst v) w') →
   if Region.wanted o (yielded l.toArray (A xs).tmps) = true then o.wp P (A xs) w K Q else K ((A xs).put o.dst undef) w
theorem rg_any (I:G → World → Prop) (Φ:Nat → G → World → Value → Prop) (use:Nat → Option Nat) (l:List Oper) (a0:Act) (hB:rgB l = true)
 (hop:∀ i o,l[i]? = some o → rgOb P Q I Φ use l (fun xs => putL l 0 xs a0) i o)
 (hfin:∀ xs γ w,I γ w → (∀ i,i < l.length → (∀ k,use i = some k → l.length ≤ k) → Φ i γ w (xs i)) → Q .normal (putL l 0 xs a0) w) :
 ∀ (fuel:Nat) (listed:Array Bool) (xs:Nat → Value) (γ:G) (w:World),listed.size = l.length → ((List.range l.length).filter fun i => !listed.getD i true).length ≤ fuel → I γ w → (∀ i,i < l.length → listed.getD i true = true → (∀ k,use i = some k → k < l.length → listed.getD k true = false) → Φ i γ w (xs i)) →
  wpAny P .any l.toArray Q fuel listed (putL l 0 xs a0) w:=by
 have hdn:∀ i o,l[i]? = some o → (∀ e ∈ o.after.toList,Region.binds .any e = true → e.on < i) ∧ ∀ t,o.dst = some t → ∀ j x,j ≠ i → l[j]? = some x → x.dst ≠ some t:=by
  intro i o ho
  have hi:i < l.length:=(List.getElem?_eq_some_iff.1 ho).1
  unfold rgB at hB
  rw [List.all_eq_true] at hB
  have h:=hB i (List.mem_range.2 hi)
  rw [ho] at h
  simp only [Bool.and_eq_true] at h
  refine ⟨fun e he hb => ?_,fun t ht j x hj hx hxt => ?_⟩
  · have h1:=h.1
    rw [Array.all_eq_true'] at h1
    have:=h1 e (Array.mem_toList_iff.1 he)
    rw [hb] at this
    simpa using this
  · have h2:=h.2
    rw [ht] at h2
    simp only [List.all_eq_true] at h2
    have hjl:j < l.length:=(List.getElem?_eq_some_iff.1 hx).1
    have:=h2 j (List.mem_range.2 hjl)
    rw [hx] at this
    simp [hxt] at this
    exact hj this.symm
 have hall:∀ (listed:Array Bool),listed.size = l.length → Region.ready .any l.toArray listed = [] → ∀ i,i < l.length → listed.getD i true = true:=by
  intro listed hsz hr i
  induction i using Nat.strongRecOn with
  | ind i ih =>
   intro hi
   cases hl:listed.getD i true with
   | true => rfl
   | false =>
    exfalso
    have hm:i ∈ Region.ready .any l.toArray listed:=by
     unfold Region.ready
     rw [List.mem_filter]
     refine ⟨by simpa using hi,?_⟩
     have ho:l.toArray[i]? = some l[i]:=by simp [hi]
     rw [hl,ho]
     simp only [Bool.not_false,Bool.true_and,Option.map_some,Option.getD_some]
     rw [Array.all_eq_true']
     intro e he
     cases hb:Region.binds .any e with
     | false => rfl
     | true =>
      have hlt:=(hdn i l[i] (List.getElem?_eq_getElem hi)).1 e (Array.mem_toList_iff.2 he) hb
      have:=ih e.on hlt (by omega)
      have hs:e.on < listed.size:=by omega
      rw [Array.getD_eq_getD_getElem?,Array.getElem?_eq_getElem hs,Option.getD_some] at this
      rw [Array.getD_eq_getD_getElem?,Array.getElem?_eq_getElem hs,Option.getD_some,this]
      rfl
    rw [hr] at hm
    cases hm
 intro fuel
 induction fuel with
 | zero =>
  intro listed xs γ w hsz hc hI hΦ
  have hl:∀ i,i < l.length → listed.getD i true = true:=by
   intro i hi
   have h0:((List.range l.length).filter fun i => !listed.getD i true) = []:=List.eq_nil_of_length_eq_zero (by omega)
   rw [List.filter_eq_nil_iff] at h0
   have:=h0 i (List.mem_range.2 hi)
   simpa using this
  refine ⟨?_,hfin xs γ w hI (fun i hi hu => hΦ i hi (hl i hi) (fun k hk hkl => absurd hkl (by have:=hu k hk;omega)))⟩
  unfold Region.ready
  rw [List.filter_eq_nil_iff]
  intro i hi
  have hi:i < l.length:=by simpa using hi
  rw [hl i hi]
  simp
 | succ fuel ih =>
  intro listed xs γ w hsz hc hI hΦ
  refine ⟨fun hr => hfin xs γ w hI (fun i hi hu => hΦ i hi (hall listed hsz hr i hi) (fun k hk hkl => absurd hkl (by have:=hu k hk;omega))),fun i hi => ?_⟩
  unfold Region.ready at hi
  rw [List.mem_filter] at hi
  obtain ⟨hi1,hi2⟩:=hi
  have hil:i < l.length:=by simpa using hi1
  have ho:l[i]? = some l[i]:=List.getElem?_eq_getElem hil
  have hoa:l.toArray[i]? = some l[i]:=by simp [hil]
  rw [hoa] at hi2
  simp only [Option.map_some,Option.getD_some,Bool.and_eq_true] at hi2
  obtain ⟨hun,hed⟩:=hi2
  have hun:listed.getD i true = false:=by simpa using hun
  rw [Array.all_eq_true'] at hed
  have hdep:∀ e ∈ l[i].after.toList,Region.binds .any e = true → (use e.on = none ∨ use e.on = some i) → Φ e.on γ w (xs e.on):=by
   intro e he hb hus
   have hlt:=(hdn i l[i] ho).1 e he hb
   have h1:=hed e (Array.mem_toList_iff.1 he)
   rw [hb] at h1
   have hs:e.on < listed.size:=by omega
   refine hΦ e.on (by omega) ?_ (fun k hk hkl => ?_)
   · rw [Array.getD_eq_getD_getElem?,Array.getElem?_eq_getElem hs,Option.getD_some] at h1 ⊢
     simpa using h1
   · rcases hus with h | h
     · rw [h] at hk;cases hk
     · rw [h] at hk
       injection hk with hk
       subst hk
       exact hun
  have hnext:∀ v γ' w',I γ' w' → Φ i γ' w' v → (∀ j u,j ≠ i → use j ≠ some i → Φ j γ w u → Φ j γ' w' u) → wpAny P .any l.toArray Q fuel (listed.setIfInBounds i true) ((putL l 0 xs a0).put l[i].dst v) w':=by
   intro v γ' w' hI' hv hp
   rw [← putL_upd v l 0 i xs a0 l[i] ho (fun j x hj hx t ht => (hdn i l[i] ho).2 t ht j x hj hx),Nat.zero_add]
   refine ih _ _ γ' w' (by simp [hsz]) ?_ hI' (fun j hj hl hcon => ?_)
   · have hsub:((List.range l.length).filter fun j => !(listed.setIfInBounds i true).getD j true) = ((List.range l.length).filter fun j => !listed.getD j true).filter fun j => decide (j ≠ i):=by
      rw [List.filter_filter]
      refine List.filter_congr fun j hj => ?_
      have hj:j < l.length:=List.mem_range.1 hj
      rw [Array.getD_eq_getD_getElem?,Array.getElem?_setIfInBounds]
      by_cases e:i = j
      · subst e
        simp [hsz,hil]
      · have e':j ≠ i:=fun h => e h.symm
        simp [e,e',Array.getD_eq_getD_getElem?]
     rw [hsub]
     have hmem:i ∈ ((List.range l.length).filter fun j => !listed.getD j true):=by
      rw [List.mem_filter]
      exact ⟨List.mem_range.2 hil,by rw [hun];rfl⟩
     have:(((List.range l.length).filter fun j => !listed.getD j true).filter fun j => decide (j ≠ i)).length < ((List.range l.length).filter fun j => !listed.getD j true).length:=List.length_filter_lt_length_iff_exists.2 ⟨i,hmem,by simp⟩
     omega
   · by_cases e:j = i
     · subst e
       rw [updV_at]
       exact hv
     · rw [updV_ne xs v e]
       have hkeep:∀ k,k ≠ i → (listed.setIfInBounds i true).getD k true = listed.getD k true:=fun k hk => by
        rw [Array.getD_eq_getD_getElem?,Array.getElem?_setIfInBounds,if_neg (fun h => hk h.symm),← Array.getD_eq_getD_getElem?]
       have hne:use j ≠ some i:=fun h => by
        have:=hcon i h hil
        rw [Array.getD_eq_getD_getElem?,Array.getElem?_setIfInBounds,if_pos rfl,if_pos (by omega)] at this
        cases this
       refine hp j (xs j) e hne (hΦ j hj ?_ (fun k hk hkl => ?_))
       · rw [hkeep j e] at hl
         exact hl
       · have h1:=hcon k hk hkl
         rw [hkeep k (fun e => hne (by rw [hk,e]))] at h1
         exact h1
  have h:=hop i l[i] ho xs γ w hI hdep _ hnext
  unfold wpOp
  rw [hoa]
  show if Region.wanted l[i] (yielded l.toArray (putL l 0 xs a0).tmps) = true then _ else _
  split
  · rename_i hw
    rw [if_pos hw] at h
    exact .inl h
  · rename_i hw
    rw [if_neg hw] at h
    exact h
theorem wp_region_rg (I:G → World → Prop) (Φ:Nat → G → World → Value → Prop) (use:Nat → Option Nat) (γ0:G) {A:(Nat → Value) → Act} {id:Nat} {l:List Oper} {a0:Act} {w0:World} (hm:P.follows .mixedOrders = true) (hB:rgB l = true)
 (hA:∀ xs,putL l 0 xs a0 = A xs) (h0:I γ0 w0.drew) (hop:rgAll (rgOb P Q I Φ use l A) 0 l)
 (hfin:∀ xs γ w,I γ w → (∀ i,i < l.length → (∀ k,use i = some k → l.length ≤ k) → Φ i γ w (xs i)) → Q .normal (A xs) w):(Code.region id l.toArray true).wp P Q a0 w0:=by
 refine wp_region_any hm ?_
 have h:=rg_any I Φ use l a0 hB (fun i o ho => by
  have:=rgAll_at l 0 hop i o ho
  rw [Nat.zero_add] at this
  intro xs γ w hI hd K hK
  have h2:=this xs γ w hI hd K (fun v γ' w' h1 h2 h3 => by
   rw [← hA xs]
   exact hK v γ' w' h1 h2 h3)
  rw [← hA xs] at h2
  exact h2) (fun xs γ w h1 h2 => by rw [hA xs];exact hfin xs γ w h1 h2) l.toArray.size (Array.replicate l.toArray.size false) (fun i => a0.tmps.getD (((l[i]?).bind (·.dst)).getD 0) undef) γ0 w0.drew (by simp) (Nat.le_trans (List.length_filter_le _ _) (by simp)) h0 (fun i hi hl => by
   exfalso
   simp [Array.getD_eq_getD_getElem?,hi] at hl)
 rw [putL_self a0 l 0 _ (fun i o ho d hd => by
  show a0.tmps.getD (((l[0 + i]?).bind (·.dst)).getD 0) undef = _
  rw [Nat.zero_add,ho]
  show a0.tmps.getD ((o.dst).getD 0) undef = _
  rw [hd]
  rfl)] at h
 exact h
end
end Go.Proofs.YtbpnioehmohbcaaGreat
namespace Go.Proofs.YtbpnioehmohbcaaGreat
abbrev It:=Int × Int
def sidG (g:Gm) (p:Int):List Int:=if p < 0 then [g.start] else (g.prods.getD p.toNat ⟨0,[],0⟩).right
def itB (g:Gm) (x:It):Bool:=decide (-1 ≤ x.1) && decide (x.1 < (g.prods.length:Int)) && decide (0 ≤ x.2) && decide (x.2 ≤ ((sidG g x.1).length:Int))
structure UsG (g:Gm):Prop where
 some:0 < g.nonts.length
 snd:SndG g
structure RgtI (g:Gm) (l:List It):Prop where
 us:UsG g
 all:∀ x ∈ l,itB g x = true
def nxtG (g:Gm) (x:It):Int:=(sidG g x.1).getD x.2.toNat 0
inductive CloG (g:Gm) (l:List It):It → Prop
 | own {x:It}:x ∈ l → CloG g l x
 | new {x:It} {k:Nat} (hk:k < g.prods.length):CloG g l x → nxtG g x = g.prods[k].left → CloG g l ((k:Int),0)
def rowI (g:Gm) (p:Int):List It:=(List.range ((sidG g p).length + 1)).map fun d:Nat => (p,(d:Int))
def allK (g:Gm) (n:Nat):List It:=(List.range n).flatMap fun k:Nat => rowI g ((k:Int) - 1)
def allI (g:Gm):List It:=allK g (g.prods.length + 1)
def ltI (x y:It):Prop:=x.1 < y.1 ∨ (x.1 = y.1 ∧ x.2 < y.2)
theorem itB_iff {g:Gm} {x:It}:itB g x = true ↔ -1 ≤ x.1 ∧ x.1 < (g.prods.length:Int) ∧ 0 ≤ x.2 ∧ x.2 ≤ ((sidG g x.1).length:Int):=by
 unfold itB
 simp only [Bool.and_eq_true,decide_eq_true_eq,and_assoc]
theorem rowI_mem {g:Gm} {p:Int} {x:It}:x ∈ rowI g p ↔ x.1 = p ∧ 0 ≤ x.2 ∧ x.2 ≤ ((sidG g p).length:Int):=by
 unfold rowI
 rw [List.mem_map]
 constructor
 · rintro ⟨d,hd,rfl⟩
   rw [List.mem_range] at hd
   exact ⟨rfl,Int.natCast_nonneg _,by show (d:Int) ≤ _;omega⟩
 · rintro ⟨h1,h2,h3⟩
   refine ⟨x.2.toNat,List.mem_range.2 (by omega),?_⟩
   rw [← h1,Int.toNat_of_nonneg h2]
theorem allK_succ (g:Gm) (n:Nat):allK g (n + 1) = allK g n ++ rowI g ((n:Int) - 1):=by
 unfold allK
 rw [List.range_succ,List.flatMap_append,List.flatMap_singleton]
theorem allK_mem {g:Gm} {n:Nat} {x:It}:x ∈ allK g n ↔ -1 ≤ x.1 ∧ x.1 < (n:Int) - 1 ∧ 0 ≤ x.2 ∧ x.2 ≤ ((sidG g x.1).length:Int):=by
 unfold allK
 rw [List.mem_flatMap]
 constructor
 · rintro ⟨k,hk,hx⟩
   rw [List.mem_range] at hk
   obtain ⟨h1,h2,h3⟩:=rowI_mem.1 hx
   exact ⟨by omega,by omega,h2,by rw [h1];exact h3⟩
 · rintro ⟨h1,h2,h3,h4⟩
   refine ⟨(x.1 + 1).toNat,List.mem_range.2 (by omega),rowI_mem.2 ⟨?_,h3,?_⟩⟩
   · omega
   · have e:(((x.1 + 1).toNat:Nat):Int) - 1 = x.1:=by omega
     rw [e];exact h4
theorem allI_mem {g:Gm} {x:It}:x ∈ allI g ↔ itB g x = true:=by
 unfold allI
 rw [allK_mem,itB_iff]
 constructor
 · rintro ⟨h1,h2,h3⟩;exact ⟨h1,by omega,h3⟩
 · rintro ⟨h1,h2,h3⟩;exact ⟨h1,by omega,h3⟩
theorem rowI_up (g:Gm) (p:Int):(rowI g p).Pairwise ltI:=by
 unfold rowI
 rw [List.pairwise_map]
 exact List.pairwise_lt_range.imp fun h => .inr ⟨rfl,by show ((_:Nat):Int) < ((_:Nat):Int);omega⟩
theorem allK_up (g:Gm):∀ n,(allK g n).Pairwise ltI
 | 0 => List.Pairwise.nil
 | n + 1 => by
  rw [allK_succ,List.pairwise_append]
  refine ⟨allK_up g n,rowI_up g _,fun x hx y hy => ?_⟩
  obtain ⟨-,h1,-⟩:=allK_mem.1 hx
  obtain ⟨h2,-⟩:=rowI_mem.1 hy
  exact .inl (by rw [h2];exact h1)
theorem allI_up (g:Gm):(allI g).Pairwise ltI:=allK_up g _
theorem ltI_irr {x:It} (h:ltI x x):False:=by
 rcases h with h | ⟨-,h⟩ <;> omega
theorem ltI_asym {x y:It} (h:ltI x y) (h':ltI y x):False:=by
 unfold ltI at h h'
 omega
theorem upI_uniq:∀ {a b:List It},a.Pairwise ltI → b.Pairwise ltI → (∀ x,x ∈ a ↔ x ∈ b) → a = b
 | [],[],_,_,_ => rfl
 | [],y :: b,_,_,h => absurd ((h y).2 (List.mem_cons_self ..)) (by simp)
 | x :: a,[],_,_,h => absurd ((h x).1 (List.mem_cons_self ..)) (by simp)
 | x :: a,y :: b,ha,hb,h => by
  obtain ⟨ha1,ha2⟩:=List.pairwise_cons.1 ha
  obtain ⟨hb1,hb2⟩:=List.pairwise_cons.1 hb
  have exy:x = y:=by
   rcases List.mem_cons.1 ((h x).1 (List.mem_cons_self ..)) with e | hx
   · exact e
   · rcases List.mem_cons.1 ((h y).2 (List.mem_cons_self ..)) with e | hy
     · exact e.symm
     · exact (ltI_asym (hb1 x hx) (ha1 y hy)).elim
  subst exy
  refine congrArg (x :: ·) (upI_uniq ha2 hb2 fun z => ⟨fun hz => ?_,fun hz => ?_⟩)
  · rcases List.mem_cons.1 ((h z).1 (List.mem_cons_of_mem _ hz)) with e | h2
    · subst e;exact (ltI_irr (ha1 z hz)).elim
    · exact h2
  · rcases List.mem_cons.1 ((h z).2 (List.mem_cons_of_mem _ hz)) with e | h2
    · subst e;exact (ltI_irr (hb1 z hz)).elim
    · exact h2
theorem itB_of_clo {g:Gm} {l:List It} (h:∀ x ∈ l,itB g x = true) {x:It} (hx:CloG g l x):itB g x = true:=by
 cases hx with
 | own hx => exact h x hx
 | new hk _ _ => exact itB_iff.2 ⟨by show (-1:Int) ≤ _;omega,by show ((_:Nat):Int) < _;omega,Int.le_refl _,Int.natCast_nonneg _⟩
theorem CloG.mono {g:Gm} {a b:List It} (h:∀ x ∈ a,CloG g b x) {x:It} (hx:CloG g a x):CloG g b x:=by
 induction hx with
 | own hx => exact h _ hx
 | new hk _ he ih => exact .new hk ih he
theorem clo_append {g:Gm} {a b:List It} {x:It}:CloG g (a ++ b) x ↔ CloG g a x ∨ CloG g b x:=by
 constructor
 · intro h
   induction h with
   | own hx => exact (List.mem_append.1 hx).imp .own .own
   | new hk _ he ih => exact ih.imp (fun h => .new hk h he) (fun h => .new hk h he)
 · rintro (h | h)
   · exact h.mono fun y hy => .own (List.mem_append_left _ hy)
   · exact h.mono fun y hy => .own (List.mem_append_right _ hy)
noncomputable def cloL (g:Gm) (l:List It):List It:=open Classical in (allI g).filter fun x => decide (CloG g l x)
open Classical in
theorem cloL_mem {g:Gm} {l:List It} (h:∀ x ∈ l,itB g x = true) {x:It}:x ∈ cloL g l ↔ CloG g l x:=by
 unfold cloL
 rw [List.mem_filter,decide_eq_true_eq,allI_mem]
 exact ⟨fun h => h.2,fun hx => ⟨itB_of_clo h hx,hx⟩⟩
theorem cloL_up (g:Gm) (l:List It):(cloL g l).Pairwise ltI:=(allI_up g).filter _
theorem cloL_right {g:Gm} {l:List It} (h:RgtI g l):RgtI g (cloL g l):=⟨h.us,fun _ hx => itB_of_clo h.all ((cloL_mem h.all).1 hx)⟩
theorem cloL_clo {g:Gm} {l:List It} (h:∀ x ∈ l,itB g x = true) {x:It}:CloG g (cloL g l) x ↔ CloG g l x:=
 ⟨fun hx => hx.mono fun _ hy => (cloL_mem h).1 hy,fun hx => .own ((cloL_mem h).2 hx)⟩
theorem cloL_eq {g:Gm} {l m:List It} (h:∀ x,CloG g l x ↔ CloG g m x):cloL g l = cloL g m:=by
 unfold cloL
 refine List.filter_congr fun x _ => ?_
 rw [h x]
theorem cloL_again {g:Gm} {l:List It} (h:RgtI g l):cloL g (cloL g l) = cloL g l:=cloL_eq fun _ => cloL_clo h.all
def ofI (g:Gm) (l:List It):List It:=(allI g).filter fun x => l.contains x
theorem ofI_mem {g:Gm} {l:List It} {x:It}:x ∈ ofI g l ↔ itB g x = true ∧ x ∈ l:=by
 unfold ofI
 rw [List.mem_filter,allI_mem,List.contains_iff_mem]
open Classical in
theorem ofI_clo {g:Gm} {l out:List It} (h:∀ x,x ∈ out ↔ CloG g l x):ofI g out = cloL g l:=by
 unfold ofI cloL
 refine List.filter_congr fun x _ => ?_
 rw [Bool.eq_iff_iff,List.contains_iff_mem,decide_eq_true_eq,h x]
theorem ofI_union {g:Gm} {a b:List It} (ha:RgtI g a) (hb:RgtI g b):ofI g (cloL g a ++ cloL g b) = cloL g (a ++ b):=
 ofI_clo fun x => by rw [List.mem_append,cloL_mem ha.all,cloL_mem hb.all,clo_append]
noncomputable def gotL (g:Gm) (l:List It) (sym:Int):List It:=open Classical in (allI g).filter fun y => decide (0 < sym ∧ CloG g l (y.1,y.2 - 1) ∧ nxtG g (y.1,y.2 - 1) = sym)
theorem gotL_up (g:Gm) (l:List It) (sym:Int):(gotL g l sym).Pairwise ltI:=(allI_up g).filter _
theorem gotL_clo {g:Gm} {l:List It} (h:∀ x ∈ l,itB g x = true) (sym:Int):gotL g (cloL g l) sym = gotL g l sym:=by
 unfold gotL
 refine List.filter_congr fun x _ => ?_
 rw [cloL_clo h]
def mvL (g:Gm) (l:List It) (sym:Int):List It:=(l.filter fun x => decide (0 < sym) && decide (nxtG g x = sym)).map fun x => (x.1,x.2 + 1)
theorem mvL_mem {g:Gm} {l:List It} {sym:Int} {y:It}:y ∈ mvL g l sym ↔ 0 < sym ∧ (y.1,y.2 - 1) ∈ l ∧ nxtG g (y.1,y.2 - 1) = sym:=by
 unfold mvL
 rw [List.mem_map]
 constructor
 · rintro ⟨x,hx,rfl⟩
   rw [List.mem_filter,Bool.and_eq_true,decide_eq_true_eq,decide_eq_true_eq] at hx
   have e:((x.1,x.2 + 1 - 1):It) = x:=by rw [Int.add_sub_cancel]
   show 0 < sym ∧ (x.1,x.2 + 1 - 1) ∈ l ∧ nxtG g (x.1,x.2 + 1 - 1) = sym
   rw [e]
   exact ⟨hx.2.1,hx.1,hx.2.2⟩
 · rintro ⟨h1,h2,h3⟩
   refine ⟨(y.1,y.2 - 1),List.mem_filter.2 ⟨h2,?_⟩,?_⟩
   · rw [Bool.and_eq_true,decide_eq_true_eq,decide_eq_true_eq]
     exact ⟨h1,h3⟩
   · show (y.1,y.2 - 1 + 1) = y
     rw [Int.sub_add_cancel]
theorem nxtG_len {g:Gm} {x:It} {sym:Int} (hs:0 < sym) (h:nxtG g x = sym):x.2.toNat < (sidG g x.1).length:=by
 unfold nxtG at h
 rcases Nat.lt_or_ge x.2.toNat (sidG g x.1).length with h1 | h1
 · exact h1
 · rw [List.getD_eq_getElem?_getD,List.getElem?_eq_none h1,Option.getD_none] at h
   omega
open Classical in
theorem ofI_goto {g:Gm} {l:List It} (h:∀ x ∈ l,itB g x = true) (sym:Int):ofI g (mvL g (cloL g l) sym) = gotL g l sym:=by
 unfold ofI gotL
 refine List.filter_congr fun x _ => ?_
 rw [Bool.eq_iff_iff,List.contains_iff_mem,decide_eq_true_eq,mvL_mem,cloL_mem h]
theorem itB_moved {g:Gm} {x:It} {sym:Int} (hs:0 < sym) (h:itB g x = true) (hn:nxtG g x = sym):itB g (x.1,x.2 + 1) = true:=by
 obtain ⟨h1,h2,h3,h4⟩:=itB_iff.1 h
 have:=nxtG_len hs hn
 exact itB_iff.2 ⟨h1,h2,by show 0 ≤ x.2 + 1;omega,by show x.2 + 1 ≤ ((sidG g x.1).length:Int);omega⟩
theorem gotL_mem {g:Gm} {l:List It} (h:∀ x ∈ l,itB g x = true) {sym:Int} {y:It}:y ∈ gotL g l sym ↔ y ∈ mvL g (cloL g l) sym:=by
 rw [← ofI_goto h,ofI_mem]
 refine ⟨fun h => h.2,fun hy => ⟨?_,hy⟩⟩
 obtain ⟨h1,h2,h3⟩:=mvL_mem.1 hy
 have:=itB_moved h1 (itB_of_clo h ((cloL_mem h).1 h2)) h3
 rw [Int.sub_add_cancel] at this
 exact this
theorem sidG_len {g:Gm} (hg:SndG g) {p:Int} (hp:p < (g.prods.length:Int)):(sidG g p).length ≤ 8:=by
 unfold sidG
 by_cases h:p < 0
 · rw [if_pos h];exact (by decide:1 ≤ 8)
 · rw [if_neg h,List.getD_eq_getElem?_getD,List.getElem?_eq_getElem (by omega),Option.getD_some]
   have:=hg.prod _ (List.getElem_mem (show p.toNat < g.prods.length by omega))
   unfold pdB at this
   simp only [Bool.and_eq_true,decide_eq_true_eq] at this
   exact this.1.1.1.2
theorem allK_len {g:Gm} (hg:SndG g):∀ n,n ≤ g.prods.length + 1 → (allK g n).length ≤ n * 9
 | 0,_ => Nat.le_refl _
 | n + 1,h => by
  have h1:=allK_len hg n (by omega)
  have h2:=sidG_len hg (p:=(n:Int) - 1) (by omega)
  rw [allK_succ,List.length_append]
  unfold rowI
  rw [List.length_map,List.length_range]
  omega
theorem allI_len {g:Gm} (hg:SndG g):(allI g).length ≤ 369:=by
 have h1:=allK_len hg (g.prods.length + 1) (Nat.le_refl _)
 have:=hg.prods
 unfold allI
 omega
theorem cloL_len {g:Gm} (hg:SndG g) (l:List It):(cloL g l).length ≤ 369:=Nat.le_trans (List.length_filter_le _ _) (allI_len hg)
theorem gotL_len {g:Gm} (hg:SndG g) (l:List It) (sym:Int):(gotL g l sym).length ≤ 369:=Nat.le_trans (List.length_filter_le _ _) (allI_len hg)
end Go.Proofs.YtbpnioehmohbcaaGreat
namespace Go.Proofs.YtbpnioehmohbcaaGreat
open Go.RowKit
theorem Nums.parts {w:World} {v:Value} {l:List Int} (h:Nums w v l):(v = .slice none 0 0 ∧ l = []) ∨ ∃ ad cap,v = .slice (some ad) l.length cap ∧ ∀ j u,(numCells l)[j]? = some u → w.cell? (ad.add j) = some u:=by
 by_cases h0:l = []
 · subst h0
   rcases h.empty with rfl | ⟨a,cap,rfl⟩
   · exact Or.inl ⟨rfl,rfl⟩
   · exact Or.inr ⟨a,cap,rfl,fun j u hu => by simp [numCells] at hu⟩
 · obtain ⟨b,o,cap,rfl,hcap,hb,hc⟩:=h.at (List.length_pos_iff.2 h0)
   exact Or.inr ⟨_,cap,rfl,Nums.news hc⟩
set_option maxRecDepth 20000 in
theorem wp_app {ops:Array Oper} {rest:List Oper} {o:Oper} {a:Act} {Q:Exit → Act → World → Prop} (w:World) (hgd:o.guard = none) (s x:Operand)
 (ho:o.op = .call { callee:=.builtin .append,args:=#[s,x],argTypes:=#[32,32] })
 (B:Nat) (l1 l2:List Int) (v vx:Value) (hs:a.eval s = v) (hx:a.eval x = vx) (hown:Own w B v l1) (hN:Nums w vx l2) (hl:l1.length + l2.length ≤ 4000000) (hB:B ≤ w.heap.size)
 (h:∀ v' w',Own w' B v' (l1 ++ l2) → Below B w w' → wpList Tryz.prog ops Q rest (a.put o.dst v') w'):wpList Tryz.prog ops Q (o :: rest) a w:=by
 obtain ⟨i0,hi,hz0,hz1,hz2⟩:=info_parts Tryz.info3
 rcases hN.parts with ⟨rfl,rfl⟩ | ⟨ad,cap,rfl,hnews⟩
 · refine wpList_append_own_none hgd s x 32 ho B 3 i0 1 Tryz.underlying32 hi v _ _ hs hown hx ?_
   rw [List.append_nil] at h
   exact h v w hown ((Below.refl _ w).mono hB)
 · refine wpList_append_own w hgd s x 32 ho B 3 i0 (.int .i64 0) 1 8 Tryz.underlying32 hi hz0 hz1 hz2 rfl (by decide) v _ _ hs hown ad l2.length cap (numCells l2) hx (by rw [numCells_len];omega) hnews (numCells_one l2) (by unfold maxLen;omega) (by omega) hB ?_
   intro v' w' hO hg _
   refine h v' w' ?_ (below_app0 hown ((Below.refl _ w).mono hB) hB hg)
   unfold Own
   rw [numCells_app,List.length_append]
   exact hO
theorem Own.lit0 (w:World):Own (w.alloc (.cells #[] 3)) w.heap.size (.slice (some ⟨w.heap.size,0,none⟩) 0 0) []:=
 World.ownsRow_lit w #[] 0 (Nat.le_refl _) (by unfold maxLen;omega) rfl
end Go.Proofs.YtbpnioehmohbcaaGreat
