/- CheckTexts: of any text the law answers true: a grammar that was read is never refused as unsound; where it is fine, its start symbol is reached and ends; no condition. -/
import Derived.Test.YthgbjhnknepefaaGreatRows
import Derived.Test.YthgbjhnknepefaaGreatJ1
import Derived.Test.YthgbjhnknepefaaGreatJ43
import Derived.Test.YthgbjhnknepefaaGreatJG
namespace Go.Proofs.YthgbjhnknepefaaGreat
open Go.ChangeShapes Go.WideShapes Go.ChangeAt Go.RowKit
open Go.ChangeMaps (open_string shut_string)

set_option maxRecDepth 100000 in
theorem checkTexts_lifted (os : Os) (started : os.Started) (H : Type) (enc : TypeId × Value → H) :
    ReturnsInHanded {} Tryz.checked os 7 .any (Rows.checkTextsSpec.pre6 enc Tryz.prog Tryz.f7 Rows.checkTextsRow.domain false) (Rows.checkTextsSpec.post enc Tryz.prog Tryz.f7 false true false false) := by
  refine returnsInHanded_of_change (C := Tryz.checked) Tryz.own started (by kernel_rfl) Tryz.func7
    (ChangeSpec.witness6 (enc := enc) (C := Tryz.checked) false ⟨#[], #[.string .empty], []⟩ 8 (by kernel_rfl) (by kernel_rfl) (by kernel_rfl) (by kernel_rfl)) ?_
  intro W base args ds gs before hval0 hW hcnd _
  have hval : ∀ (j : Nat) t v, Tryz.f7.params[j]? = some t → args[j]? = some v → Value.okWide Tryz.prog W .any base t v := hval0
  have hW' := hW
  obtain ⟨p, q, hA0, hV, rfl, hfz, hnd⟩ := hW
  have hA : DataW.TrodAll enc Tryz.prog W 0 (fun _ => true) true Tryz.f7.params.toList args.toList ds p := hA0
  rw [Tryz.params7] at hA hval
  obtain ⟨v0, d0, rfl, rfl, t0⟩ := trodAll_one hA
  obtain ⟨s0, rfl, rfl, _, hs0⟩ := open_string Tryz.underlying9 (hval 0 9 v0 rfl rfl) t0
  unfold maxLen at hs0
  have hs1 : s0.data.toList.length ≤ 9223372036854775807 := by
    have : s0.data.toList.length = s0.size := by simp
    omega
  have es : s0 = strT s0.data.toList := strT_of s0
  generalize s0.data.toList = s1 at *
  subst es
  obtain ⟨rfl, rfl⟩ := trodVars_none hV
  clear hA0 hval0
  refine (checkTextsWalk prsOK rdOK ckOK wkOK13 s1 W hs1).mono fun e W' ⟨he, hb⟩ => ?_
  subst he
  exact ⟨_, rfl, law_post (by kernel_rfl) rfl (by kernel_rfl) rfl hW' hb⟩

set_option maxRecDepth 20000 in
theorem checkTexts_holds : Rows.CheckTextsSaid :=
  OpenClaim.holds_of_wide 7 Tryz.f7 rfl rfl rfl rfl rfl rfl rfl ⟨rfl, rfl, rfl, rfl, rfl⟩ rfl rfl rfl rfl rfl (by kernel_rfl) Tryz.func7 (by kernel_rfl)
    (of_decide_eq_true (by kernel_rfl)) (by unfold Func.isWrapper; first | (rw [if_pos (by decide +kernel)]; kernel_rfl) | (rw [if_neg (by decide +kernel)]; exact ⟨rfl, rfl⟩))
    (fun os started H enc _ => checkTexts_lifted os started H enc)

end Go.Proofs.YthgbjhnknepefaaGreat
