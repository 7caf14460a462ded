/- The law FormulaModels of layer salvorlaw05 holds for every input.
   Conditions: none beyond those of the given row. -/
import Derived.Test.YtfbmagmelebkbaaFormulaModelsWalk
import Derived.Test.YtfbmagmelebkbaaPlain
namespace Go.Proofs.Ytfbmagmelebkbaa.formulaModels
open Go.ChangeShapes Go.WideShapes Go.ChangeAt Go.RowKit

set_option maxRecDepth 100000 in
theorem lifted (os : Os) (started : os.Started) (H : Type) (enc : TypeId × Value → H) :
    ReturnsInHanded {} Try.checked os 3 .any (Rows.formulaModelsSpec.pre6 enc Try.prog Try.f3 Rows.formulaModelsRow.domain false) (Rows.formulaModelsSpec.post enc Try.prog Try.f3 false true false false) := by
  refine returnsInHanded_of_change (C := Try.checked) own started (by kernel_rfl) Try.func3
    (ChangeSpec.witness6 (enc := enc) (C := Try.checked) false ⟨#[], #[.slice none 0 0, .slice none 0 0, .int .i64 0, .slice none 0 0], []⟩ 8 (by kernel_rfl) (by kernel_rfl) (by kernel_rfl) (by kernel_rfl)) ?_
  intro W base args ds gs before hval0 hW hcnd _
  have hval : ∀ (j : Nat) t v, Try.f3.params[j]? = some t → args[j]? = some v → Value.okWide Try.prog W .any base t v := hval0
  have hW' := hW
  obtain ⟨p, q, hA0, hV, rfl, hfz, hnd⟩ := hW
  have hA : DataW.TrodAll enc Try.prog W 0 (fun _ => true) true Try.f3.params.toList args.toList ds p := hA0
  rw [Try.params3] at hA hval
  obtain ⟨v0, vs0, d0, ds0, p0, q0, hargs, rfl, rfl, h0, r0⟩ := trodAll_cons hA
  obtain ⟨v1, vs1, d1, ds1, p1, q1, rfl, rfl, rfl, h1, r1⟩ := trodAll_cons r0
  obtain ⟨v2, vs2, d2, ds2, p2, q2, rfl, rfl, rfl, h2, r2⟩ := trodAll_cons r1
  obtain ⟨v3, vs3, d3, ds3, p3, q3, rfl, rfl, rfl, h3, r3⟩ := trodAll_cons r2
  obtain ⟨rfl, rfl, rfl⟩ := trodAll_nil r3
  obtain rfl : args = #[v0, v1, v2, v3] := Array.toList_inj.1 hargs
  obtain ⟨rfl, rfl⟩ := trodVars_none hV
  obtain ⟨z0, hz0, hl0, hw0⟩ := ints_of Try.underlying22 Try.underlying3 (by kernel_rfl) (hval 0 22 v0 (by rfl) (by rfl)) h0
  have hz1_ := bools_of Try.underlying23 Try.underlying4 (by kernel_rfl) (hval 1 23 v1 (by rfl) (by rfl)) h1 (fun x hx => match x, hx with | .cell b off, hx => hfz b off (by simp [hx]) | .map _, _ => rfl)
  obtain ⟨z1, hz1, hl1, hf1⟩ := hz1_
  obtain ⟨a2, rfl, rfl, rfl, w2⟩ := open_int Try.underlying3 (hval 2 3 v2 (by rfl) (by rfl)) h2
  obtain ⟨z3, hz3, hl3, hw3⟩ := ints_of Try.underlying22 Try.underlying3 (by kernel_rfl) (hval 3 22 v3 (by rfl) (by rfl)) h3
  have hf3 := fits_of Try.underlying22 Try.underlying3 (by kernel_rfl) h3
  clear hA0 hval0
  simp only [List.append_nil] at hW'
  refine (formulaModels_walk v0 z0 hl0 hw0 v1 z1 hl1 hf1 a2 w2 v3 z3 hl3 hw3 hf3 W hz0 hz1 hz3).mono fun e W' ⟨he, hg⟩ => ?_
  subst he
  exact ⟨_, rfl, law_post laidOut hW' rfl rfl rfl Try.underlying4 (params_ok (by kernel_rfl)) hg⟩

theorem said : Rows.FormulaModelsSaid :=
  OpenClaim.holds_of_wide 3 Try.f3 rfl rfl rfl rfl rfl rfl rfl ⟨rfl, rfl, rfl, rfl, rfl⟩ rfl rfl rfl rfl rfl (by kernel_rfl) Try.func3 (by kernel_rfl)
    (of_decide_eq_true (by kernel_rfl)) (by unfold Func.isWrapper; first | (rw [if_pos (by decide +kernel)]; kernel_rfl) | (rw [if_neg (by decide +kernel)]; exact ⟨rfl, rfl⟩))
    (fun os started H enc _ => lifted os started H enc)
end Go.Proofs.Ytfbmagmelebkbaa.formulaModels
