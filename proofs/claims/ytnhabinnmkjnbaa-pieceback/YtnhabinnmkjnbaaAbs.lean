/- A text as the document tells of it: the texts that can be come back to, the one that is, the ones that can be gone on to; the contracts over it. -/
import Derived.Test.YtnhabinnmkjnbaaStep
namespace Go.Proofs.Ytnhabinnmkjnbaa
open Go.RowKit

/-- the nearest stand first -/
structure St where
  bs : List ByteArray
  now : ByteArray
  fw : List ByteArray

/-- edits (the next one first) lead from a text to these -/
inductive Leads : ByteArray → List Ed → List ByteArray → Prop
  | nil (s : ByteArray) : Leads s [] []
  | cons (s t : ByteArray) (a n : Nat) (es : List Ed) (bs : List ByteArray) (hf : a + n ≤ s.size) (hm : s.size - n + t.size ≤ 4000) (h : Leads (madeOf s t a n) es bs) : Leads s (⟨a, n, t⟩ :: es) (madeOf s t a n :: bs)

theorem Leads.length {s : ByteArray} {es : List Ed} {bs : List ByteArray} (h : Leads s es bs) : es.length = bs.length := by
  induction h with
  | nil => rfl
  | cons s t a n es bs hf hm h ih => simp [ih]
theorem Leads.take {s : ByteArray} {es : List Ed} {bs : List ByteArray} (h : Leads s es bs) : ∀ k, Leads s (es.take k) (bs.take k) := by
  induction h with
  | nil s => intro k; simp; exact .nil s
  | cons s t a n es bs hf hm h ih =>
    intro k
    cases k with
    | zero => exact .nil s
    | succ k => exact .cons s t a n _ _ hf hm (ih k)
theorem Leads.back {s t : ByteArray} {a n : Nat} {es : List Ed} {bs : List ByteArray} (hs : s.size ≤ 4000) (hf : a + n ≤ s.size) (h : Leads s es bs) : Leads (madeOf s t a n) (backE s t a n :: es) (s :: bs) := by
  have hz := madeOf_size s t a n hf
  have hx := extract_size s a n hf
  have k := Leads.cons (madeOf s t a n) (s.extract a (a + n)) a t.size es bs (by omega) (by omega)
  rw [made_back s t a n hf] at k
  exact k h

/-- what lies where, and what the text is -/
def IsText (w : World) (tb : Nat) (F : Nat → Prop) (T : St) : Prop :=
  ∃ pb ps uv rv us rs, TextAt w tb pb ps uv rv us rs ∧ (∀ k, F k ↔ (k = tb ∨ k = pb ∨ uv.ownBlock = some k ∨ rv.ownBlock = some k)) ∧ joinB ps = T.now ∧ Leads T.now us.reverse T.bs ∧ Leads T.now rs.reverse T.fw ∧ T.bs.length + T.fw.length ≤ 32

/-- what was not the text's is as it was; what is the text's was so, or is new -/
def Moved (F F' : Nat → Prop) (w w' : World) : Prop := Kept F w w' ∧ ∀ k, F' k → F k ∨ w.heap.size ≤ k
theorem Moved.refl (F : Nat → Prop) (w : World) : Moved F F w w := ⟨Kept.refl _ _, fun _ h => .inl h⟩
theorem Moved.trans {F G H : Nat → Prop} {w u v : World} (h : Moved F G w u) (k : Moved G H u v) : Moved F H w v :=
  ⟨h.1.step k.1 (fun j hj hg => (h.2 j hg).resolve_right (by omega)), fun j hj => (k.2 j hj).elim (fun hg => h.2 j hg) (fun hle => .inr (Nat.le_trans h.1.size hle))⟩
theorem Moved.low {F G : Nat → Prop} {w u v : World} (h : Moved F G w u) (hb : Below u.heap.size u v) : Moved F G w v := ⟨h.1.trans (Kept.of_below hb), h.2⟩

theorem IsText.keep {w w' : World} {tb : Nat} {F G : Nat → Prop} {T : St} (h : IsText w tb F T) (hk : Kept G w w') (hd : ∀ k, F k → ¬ G k) : IsText w' tb F T := by
  obtain ⟨pb, ps, uv, rv, us, rs, ht, hF, r⟩ := h
  exact ⟨pb, ps, uv, rv, us, rs, ht.keep hk (hd _ ((hF _).2 (.inl rfl))) (hd _ ((hF _).2 (.inr (.inl rfl)))) (fun k e => hd _ ((hF _).2 (.inr (.inr (.inl e))))) (fun k e => hd _ ((hF _).2 (.inr (.inr (.inr e))))), hF, r⟩
theorem IsText.low {w w' : World} {tb : Nat} {F : Nat → Prop} {T : St} (h : IsText w tb F T) (hb : Below w.heap.size w w') : IsText w' tb F T := h.keep (G := noBlk) (Kept.of_below hb) (fun _ _ => id)
theorem IsText.drew {w : World} {tb : Nat} {F : Nat → Prop} {T : St} (h : IsText w tb F T) : IsText w.drew tb F T := h.keep (G := noBlk) (Kept.refl _ _).drew (fun _ _ => id)
theorem IsText.lt {w : World} {tb : Nat} {F : Nat → Prop} {T : St} (h : IsText w tb F T) {k : Nat} (hk : F k) : k < w.heap.size := by
  obtain ⟨pb, ps, uv, rv, us, rs, ht, hF, _⟩ := h
  rcases (hF k).1 hk with rfl | rfl | e | e
  · exact blk_lt ht.head
  · exact blk_lt ht.row
  · exact (own_lt ht.undo e).1
  · exact (own_lt ht.redo e).1
theorem IsText.small {w : World} {tb : Nat} {F : Nat → Prop} {T : St} (h : IsText w tb F T) : T.now.size ≤ 4000 := by
  obtain ⟨pb, ps, uv, rv, us, rs, ht, hF, hj, _⟩ := h
  rw [← hj, joinB_size]; exact ht.small
theorem IsText.few {w : World} {tb : Nat} {F : Nat → Prop} {T : St} (h : IsText w tb F T) : T.bs.length + T.fw.length ≤ 32 := by
  obtain ⟨pb, ps, uv, rv, us, rs, ht, hF, hj, _, _, h⟩ := h
  exact h

/-- the blocks of a text -/
def foot (tb pb : Nat) (uv rv : Value) : Nat → Prop := fun k => k = tb ∨ k = pb ∨ uv.ownBlock = some k ∨ rv.ownBlock = some k

theorem newT (s : ByteArray) (w : World) (hs : s.size ≤ 4000) :
    Calls Try.prog 10 #[.string s] w fun e w' => ∃ tb F, e = .returned (.tuple #[.pointer (some ⟨tb, 0, none⟩), .int .i64 0]) ∧ IsText w' tb F ⟨[], s, []⟩ ∧ (∀ k, F k → w.heap.size ≤ k) ∧ Below w.heap.size w w' := by
  refine (newIs s w hs).mono ?_
  rintro e w' ⟨tb, pb, rfl, ht, h1, h2, hb⟩
  refine ⟨tb, foot tb pb _ _, rfl, ⟨pb, [s], _, _, [], [], ht, fun k => Iff.rfl, joinB_one s, .nil _, .nil _, by simp⟩, ?_, hb⟩
  rintro k (rfl | rfl | e | e)
  · exact h1
  · exact h2
  · cases e
  · cases e

theorem lenT {w : World} {tb : Nat} {F : Nat → Prop} {T : St} (h : IsText w tb F T) :
    Calls Try.prog 14 #[.pointer (some ⟨tb, 0, none⟩)] w fun e w' => e = .returned (.int .i64 (T.now.size : Int)) ∧ w' = w := by
  obtain ⟨pb, ps, uv, rv, us, rs, ht, hF, hj, _⟩ := h
  have k := lenIs ht
  rw [← joinB_size, hj] at k
  exact k

theorem stepsT {w : World} {tb : Nat} {F : Nat → Prop} {T : St} (h : IsText w tb F T) :
    Calls Try.prog 12 #[.pointer (some ⟨tb, 0, none⟩)] w fun e w' => e = .returned (.tuple #[.int .i64 T.bs.length, .int .i64 T.fw.length]) ∧ w' = w.drew := by
  obtain ⟨pb, ps, uv, rv, us, rs, ht, hF, hj, hu, hr, _⟩ := h
  have k := stepsIs ht
  rw [← hu.length, ← hr.length, List.length_reverse, List.length_reverse]
  exact k

theorem moved_read {w w' : World} {tb pb pb' : Nat} {uv rv : Value} {F : Nat → Prop} (hF : ∀ k, F k ↔ (k = tb ∨ k = pb ∨ uv.ownBlock = some k ∨ rv.ownBlock = some k)) (hp : pb' = pb ∨ w.heap.size ≤ pb') (hk : Kept (oneBlk tb) w w') : Moved F (foot tb pb' uv rv) w w' := by
  refine ⟨hk.mono fun k _ e => (hF k).2 (.inl e), ?_⟩
  rintro k (rfl | rfl | e | e)
  · exact .inl ((hF _).2 (.inl rfl))
  · rcases hp with rfl | h
    · exact .inl ((hF _).2 (.inr (.inl rfl)))
    · exact .inr h
  · exact .inl ((hF _).2 (.inr (.inr (.inl e))))
  · exact .inl ((hF _).2 (.inr (.inr (.inr e))))

theorem stringT {w : World} {tb : Nat} {F : Nat → Prop} {T : St} (h : IsText w tb F T) :
    Calls Try.prog 13 #[.pointer (some ⟨tb, 0, none⟩)] w fun e w' => e = .returned (.string T.now) ∧ ∃ F', IsText w' tb F' T ∧ Moved F F' w w' := by
  obtain ⟨pb, ps, uv, rv, us, rs, ht, hF, hj, hr⟩ := h
  refine (stringIs ht).mono ?_
  rintro e w' ⟨rfl, ⟨pb', ht', hp⟩, hk⟩
  rw [hj] at ht' ⊢
  exact ⟨rfl, foot tb pb' uv rv, ⟨pb', [T.now], uv, rv, us, rs, ht', fun k => Iff.rfl, joinB_one _, hr⟩, moved_read hF hp hk⟩

theorem sliceOkT {w : World} {tb : Nat} {F : Nat → Prop} {T : St} (h : IsText w tb F T) (a n : Nat) (hf : a + n ≤ T.now.size) :
    Calls Try.prog 16 #[.pointer (some ⟨tb, 0, none⟩), .int .i64 a, .int .i64 n] w fun e w' => e = .returned (.tuple #[.string (T.now.extract a (a + n)), .int .i64 0]) ∧ ∃ F', IsText w' tb F' T ∧ Moved F F' w w' := by
  obtain ⟨pb, ps, uv, rv, us, rs, ht, hF, hj, hr⟩ := h
  refine (sliceOk ht a n (by rw [← joinB_size, hj]; exact hf)).mono ?_
  rintro e w' ⟨rfl, ⟨pb', ht', hp⟩, hk⟩
  rw [hj] at ht' ⊢
  exact ⟨rfl, foot tb pb' uv rv, ⟨pb', [T.now], uv, rv, us, rs, ht', fun k => Iff.rfl, joinB_one _, hr⟩, moved_read hF hp hk⟩

theorem sliceNoT {w : World} {tb : Nat} {F : Nat → Prop} {T : St} (h : IsText w tb F T) (a n : Int) (ha : a ≤ 9223372036854775807) (hf : fitsB T.now.size a n = false) :
    Calls Try.prog 16 #[.pointer (some ⟨tb, 0, none⟩), .int .i64 a, .int .i64 n] w fun e w' => e = .returned (.tuple #[.string ⟨#[]⟩, .int .i64 2]) ∧ w' = w := by
  obtain ⟨pb, ps, uv, rv, us, rs, ht, hF, hj, hr⟩ := h
  exact sliceNo ht a n ha (by rw [← joinB_size, hj]; exact hf)

/-- P2.2, P2.3: what is answered, and what the text is then -/
def St.edit (T : St) (t : ByteArray) (a n : Int) : Int × St :=
  if errNo T.now.size a n t.size = 0 then (0, ⟨(T.now :: T.bs).take 32, madeOf T.now t a.toNat n.toNat, []⟩) else (errNo T.now.size a n t.size, T)
def St.undo (T : St) : Int × St :=
  match T.bs with
  | [] => (4, T)
  | b :: bs => (0, ⟨bs, b, T.now :: T.fw⟩)
def St.redo (T : St) : Int × St :=
  match T.fw with
  | [] => (4, T)
  | b :: bs => (0, ⟨T.now :: T.bs, b, bs⟩)

theorem drop_rev (us : List Ed) (b : Ed) (h : us.length ≤ 32) : ((us ++ [b]).drop (us.length + 1 - 32)).reverse = (b :: us.reverse).take 32 := by
  rw [List.reverse_drop, List.reverse_append, List.length_append]
  simp only [List.reverse_cons, List.reverse_nil, List.nil_append, List.length_cons, List.length_nil, List.cons_append, Nat.zero_add]
  by_cases h1 : us.length = 32
  · rw [h1]
  · rw [List.take_of_length_le (by simp; omega), List.take_of_length_le (by simp; omega)]

theorem editT {w : World} {tb : Nat} {F : Nat → Prop} {T : St} (h : IsText w tb F T) (t : ByteArray) (a n : Int) (ht : t.size ≤ 1000000) (ha : a ≤ 9223372036854775807) :
    Calls Try.prog 15 #[.pointer (some ⟨tb, 0, none⟩), .agg #[.int .i64 a, .int .i64 n, .string t]] w fun e w' => e = .returned (.int .i64 (T.edit t a n).1) ∧ ∃ F', IsText w' tb F' (T.edit t a n).2 ∧ Moved F F' w w' := by
  have hsm := h.small
  obtain ⟨pb, ps, uv, rv, us, rs, hx, hF, hj, hu, hr, hfew⟩ := h
  by_cases he : errNo T.now.size a n t.size = 0
  · have hE : T.edit t a n = (0, ⟨(T.now :: T.bs).take 32, madeOf T.now t a.toNat n.toNat, []⟩) := if_pos he
    rw [hE]
    rcases errNo_cases T.now.size a n t.size with ⟨_, hf, hm⟩ | ⟨h3, _⟩ | ⟨h2, _⟩
    · obtain ⟨f1, f2, f3⟩ := fitsB_true hf
      obtain ⟨a', rfl⟩ := Int.eq_ofNat_of_zero_le f1
      obtain ⟨n', rfl⟩ := Int.eq_ofNat_of_zero_le f2
      have hjs := joinB_size ps
      rw [hj] at hjs
      have hul : us.length ≤ 32 := by have := hu.length; rw [List.length_reverse] at this; omega
      refine (editOk hx hul t a' n' ht (by omega) (by omega)).mono ?_
      rintro e w' ⟨rfl, ⟨pb', uv', ht', hp, ho⟩, hk⟩
      rw [hj] at ht'
      refine ⟨rfl, foot tb pb' uv' (.slice none 0 0), ⟨pb', _, uv', _, _, [], ht', fun k => Iff.rfl, joinB_three _ _ _ _, ?_, .nil _, ?_⟩, ?_, ?_⟩
      · rw [drop_rev us _ hul]
        exact (hu.back hsm (by omega)).take 32
      · simp; omega
      · refine hk.mono ?_
        rintro k _ (e | e)
        · exact (hF k).2 (.inl e)
        · exact (hF k).2 (.inr (.inr (.inl e)))
      · rintro k (rfl | rfl | e | e)
        · exact .inl ((hF _).2 (.inl rfl))
        · exact .inr hp
        · exact (ho k e).imp (fun e => (hF k).2 (.inr (.inr (.inl e)))) id
        · cases e
    · omega
    · omega
  · have hE : T.edit t a n = (errNo T.now.size a n t.size, T) := if_neg he
    rw [hE]
    refine (editNo hx t a n _ ht ha (by rw [hj]) he).mono ?_
    rintro e w' ⟨rfl, ⟨pb', ht', hp⟩, hk⟩
    rw [hj] at ht'
    exact ⟨rfl, foot tb pb' uv rv, ⟨pb', [T.now], uv, rv, us, rs, ht', fun k => Iff.rfl, joinB_one _, hu, hr, hfew⟩, moved_read hF hp hk⟩

set_option maxHeartbeats 1000000 in
theorem undoT {w : World} {tb : Nat} {F : Nat → Prop} {T : St} (h : IsText w tb F T) :
    Calls Try.prog 18 #[.pointer (some ⟨tb, 0, none⟩)] w fun e w' => e = .returned (.int .i64 T.undo.1) ∧ ∃ F', IsText w' tb F' T.undo.2 ∧ Moved F F' w w' := by
  have G : Hid (∀ u : World, IsText u tb F T → Calls Try.prog 30 #[.pointer (some ⟨tb, 0, none⟩), .pointer (some ⟨tb, 3, none⟩), .pointer (some ⟨tb, 4, none⟩)] u fun e w' => e = .returned (.int .i64 T.undo.1) ∧ ∃ F', IsText w' tb F' T.undo.2 ∧ Moved F F' u w') := by
    intro u h
    have hsm := h.small
    have h' := h
    obtain ⟨pb, ps, uv, rv, us, rs, hx, hF, hj, hu, hr, hfew⟩ := h
    cases hb : T.bs with
    | nil =>
      have hE : T.undo = (4, T) := by unfold St.undo; rw [hb]
      rw [hE]
      rw [hb] at hu
      have h0 : us = [] := by
        have := hu.length
        rw [List.length_reverse] at this
        exact List.eq_nil_of_length_eq_zero this
      refine (undoNo hx h0).mono ?_
      rintro e w' ⟨rfl, rfl⟩
      exact ⟨rfl, F, h', Moved.refl _ _⟩
    | cons b bs =>
      have hE : T.undo = (0, ⟨bs, b, T.now :: T.fw⟩) := by unfold St.undo; rw [hb]
      rw [hE]
      rw [hb] at hu hfew
      generalize hes : us.reverse = es0 at hu
      generalize hbb : (b :: bs) = bb at hu
      cases hu with
      | nil => cases hbb
      | cons _ t a n es bs' hf hm hl =>
        injection hbb with e1 e2
        subst e1 e2
        have hus : us = es.reverse ++ [⟨a, n, t⟩] := by
          have := congrArg List.reverse hes
          rw [List.reverse_reverse, List.reverse_cons] at this
          exact this
        have hjs := joinB_size ps
        rw [hj] at hjs
        have l1 := congrArg List.length hes
        have l2 := hl.length
        have l3 := hr.length
        simp only [List.length_reverse, List.length_cons] at l1 l3 hfew
        refine (undoOk hx t a n hus (by omega) (by omega) (by omega) (by omega) (by omega)).mono ?_
        rintro e w' ⟨rfl, ⟨pb', uv', rv', ht', hp, ho1, ho2⟩, hk⟩
        rw [hj] at ht'
        refine ⟨rfl, foot tb pb' uv' rv', ⟨pb', _, uv', rv', _, _, ht', fun k => Iff.rfl, joinB_three _ _ _ _, ?_, ?_, ?_⟩, ?_, ?_⟩
        · rw [List.reverse_reverse]; exact hl
        · rw [List.reverse_append]; exact hr.back hsm (by omega)
        · simp only [List.length_cons]; omega
        · refine hk.mono ?_
          rintro k _ (e | e | e)
          · exact (hF k).2 (.inl e)
          · exact (hF k).2 (.inr (.inr (.inl e)))
          · exact (hF k).2 (.inr (.inr (.inr e)))
        · rintro k (rfl | rfl | e | e)
          · exact .inl ((hF _).2 (.inl rfl))
          · exact .inr hp
          · exact (ho1 k e).imp (fun e => (hF k).2 (.inr (.inr (.inl e)))) id
          · exact (ho2 k e).imp (fun e => (hF k).2 (.inr (.inr (.inr e)))) id
  have HX : Hid (IsText w tb F T) := h
  clear h
  generalize T.undo = R at G ⊢
  go_enter Try.func18, Try.ntmps18
  go_wp2
  go_region_held3 (fun _ => True) (trivial) ((first
    | (go_at_call 30; refine (G.out _ HX.out.drew).mono ?_; rintro e w1 ⟨rfl, F1, h1, m1⟩)))
  go_wp2
  go_ret
  exact ⟨rfl, F1, h1, ⟨(Kept.refl _ _).drew.trans m1.1, m1.2⟩⟩

set_option maxHeartbeats 1000000 in
theorem redoT {w : World} {tb : Nat} {F : Nat → Prop} {T : St} (h : IsText w tb F T) :
    Calls Try.prog 19 #[.pointer (some ⟨tb, 0, none⟩)] w fun e w' => e = .returned (.int .i64 T.redo.1) ∧ ∃ F', IsText w' tb F' T.redo.2 ∧ Moved F F' w w' := by
  have G : Hid (∀ u : World, IsText u tb F T → Calls Try.prog 30 #[.pointer (some ⟨tb, 0, none⟩), .pointer (some ⟨tb, 4, none⟩), .pointer (some ⟨tb, 3, none⟩)] u fun e w' => e = .returned (.int .i64 T.redo.1) ∧ ∃ F', IsText w' tb F' T.redo.2 ∧ Moved F F' u w') := by
    intro u h
    have hsm := h.small
    have h' := h
    obtain ⟨pb, ps, uv, rv, us, rs, hx, hF, hj, hu, hr, hfew⟩ := h
    cases hb : T.fw with
    | nil =>
      have hE : T.redo = (4, T) := by unfold St.redo; rw [hb]
      rw [hE]
      rw [hb] at hr
      have h0 : rs = [] := by
        have := hr.length
        rw [List.length_reverse] at this
        exact List.eq_nil_of_length_eq_zero this
      refine (redoNo hx h0).mono ?_
      rintro e w' ⟨rfl, rfl⟩
      exact ⟨rfl, F, h', Moved.refl _ _⟩
    | cons b bs =>
      have hE : T.redo = (0, ⟨T.now :: T.bs, b, bs⟩) := by unfold St.redo; rw [hb]
      rw [hE]
      rw [hb] at hr hfew
      generalize hes : rs.reverse = es0 at hr
      generalize hbb : (b :: bs) = bb at hr
      cases hr with
      | nil => cases hbb
      | cons _ t a n es bs' hf hm hl =>
        injection hbb with e1 e2
        subst e1 e2
        have hus : rs = es.reverse ++ [⟨a, n, t⟩] := by
          have := congrArg List.reverse hes
          rw [List.reverse_reverse, List.reverse_cons] at this
          exact this
        have hjs := joinB_size ps
        rw [hj] at hjs
        have l1 := congrArg List.length hes
        have l2 := hl.length
        have l3 := hu.length
        simp only [List.length_reverse, List.length_cons] at l1 l3 hfew
        refine (redoOk hx t a n hus (by omega) (by omega) (by omega) (by omega) (by omega)).mono ?_
        rintro e w' ⟨rfl, ⟨pb', uv', rv', ht', hp, ho1, ho2⟩, hk⟩
        rw [hj] at ht'
        refine ⟨rfl, foot tb pb' uv' rv', ⟨pb', _, uv', rv', _, _, ht', fun k => Iff.rfl, joinB_three _ _ _ _, ?_, ?_, ?_⟩, ?_, ?_⟩
        · rw [List.reverse_append]; exact hu.back hsm (by omega)
        · rw [List.reverse_reverse]; exact hl
        · simp only [List.length_cons]; omega
        · refine hk.mono ?_
          rintro k _ (e | e | e)
          · exact (hF k).2 (.inl e)
          · exact (hF k).2 (.inr (.inr (.inl e)))
          · exact (hF k).2 (.inr (.inr (.inr e)))
        · rintro k (rfl | rfl | e | e)
          · exact .inl ((hF _).2 (.inl rfl))
          · exact .inr hp
          · exact (ho1 k e).imp (fun e => (hF k).2 (.inr (.inr (.inl e)))) id
          · exact (ho2 k e).imp (fun e => (hF k).2 (.inr (.inr (.inr e)))) id
  have HX : Hid (IsText w tb F T) := h
  clear h
  generalize T.redo = R at G ⊢
  go_enter Try.func19, Try.ntmps19
  go_wp2
  go_region_held3 (fun _ => True) (trivial) ((first
    | (go_at_call 30; refine (G.out _ HX.out.drew).mono ?_; rintro e w1 ⟨rfl, F1, h1, m1⟩)))
  go_wp2
  go_ret
  exact ⟨rfl, F1, h1, ⟨(Kept.refl _ _).drew.trans m1.1, m1.2⟩⟩

end Go.Proofs.Ytnhabinnmkjnbaa
