/- GramSound: of any text the law answers true: a grammar that was read has symbols only that it has, names each once, right rules, and levels of terminals alone; no condition. -/
import Derived.Test.YtcledgljbmepaaaGreatRows
import Derived.Test.YtcledgljbmepaaaGreatJ1
import Derived.Test.YtcledgljbmepaaaGreatJ31
import Derived.Test.YtcledgljbmepaaaGreatJS1
namespace Go.Proofs.YtcledgljbmepaaaGreat
open Go.ChangeShapes Go.WideShapes Go.ChangeAt Go.RowKit
open Go.ChangeMaps (open_string shut_string)

set_option maxRecDepth 100000 in
theorem gramSound_lifted (os : Os) (started : os.Started) (H : Type) (enc : TypeId × Value → H) :
    ReturnsInHanded {} Tryz.checked os 4 .any (Rows.gramSoundSpec.pre6 enc Tryz.prog Tryz.f4 Rows.gramSoundRow.domain false) (Rows.gramSoundSpec.post enc Tryz.prog Tryz.f4 false true false false) := by
  refine returnsInHanded_of_change (C := Tryz.checked) Tryz.own started (by kernel_rfl) Tryz.func4
    (ChangeSpec.witness6 (enc := enc) (C := Tryz.checked) false ⟨#[], #[.string .empty], []⟩ 8 (by kernel_rfl) (by kernel_rfl) (by kernel_rfl) (by kernel_rfl)) ?_
  intro W base args ds gs before hval0 hW hcnd _
  have hval : ∀ (j : Nat) t v, Tryz.f4.params[j]? = some t → args[j]? = some v → Value.okWide Tryz.prog W .any base t v := hval0
  have hW' := hW
  obtain ⟨p, q, hA0, hV, rfl, hfz, hnd⟩ := hW
  have hA : DataW.TrodAll enc Tryz.prog W 0 (fun _ => true) true Tryz.f4.params.toList args.toList ds p := hA0
  rw [Tryz.params4] at hA hval
  obtain ⟨v0, d0, rfl, rfl, t0⟩ := trodAll_one hA
  obtain ⟨s0, rfl, rfl, _, hs0⟩ := open_string Tryz.underlying9 (hval 0 9 v0 rfl rfl) t0
  unfold maxLen at hs0
  have hs1 : s0.data.toList.length ≤ 9223372036854775807 := by
    have : s0.data.toList.length = s0.size := by simp
    omega
  have es : s0 = strT s0.data.toList := strT_of s0
  generalize s0.data.toList = s1 at *
  subst es
  obtain ⟨rfl, rfl⟩ := trodVars_none hV
  clear hA0 hval0
  refine (gramSoundWalk lowN prsOK sndOK s1 W hs1).mono fun e W' ⟨he, hb⟩ => ?_
  subst he
  exact ⟨_, rfl, law_post (by kernel_rfl) rfl (by kernel_rfl) rfl hW' hb⟩

set_option maxRecDepth 20000 in
theorem gramSound_holds : Rows.GramSoundSaid :=
  OpenClaim.holds_of_wide 4 Tryz.f4 rfl rfl rfl rfl rfl rfl rfl ⟨rfl, rfl, rfl, rfl, rfl⟩ rfl rfl rfl rfl rfl (by kernel_rfl) Tryz.func4 (by kernel_rfl)
    (of_decide_eq_true (by kernel_rfl)) (by unfold Func.isWrapper; first | (rw [if_pos (by decide +kernel)]; kernel_rfl) | (rw [if_neg (by decide +kernel)]; exact ⟨rfl, rfl⟩))
    (fun os started H enc _ => gramSound_lifted os started H enc)

end Go.Proofs.YtcledgljbmepaaaGreat
