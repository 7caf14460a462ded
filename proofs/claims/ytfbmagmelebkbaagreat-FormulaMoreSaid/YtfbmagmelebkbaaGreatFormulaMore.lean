/- The law FormulaMore of layer salvorlaw05 holds for every input.
   Conditions: none beyond those of the given row. -/
import Derived.Test.YtfbmagmelebkbaaGreatFormulaMoreWalk
import Derived.Test.YtfbmagmelebkbaaGreatPlain
namespace Go.Proofs.YtfbmagmelebkbaaGreat.formulaMore
open Go.ChangeShapes Go.WideShapes Go.ChangeAt Go.RowKit

set_option maxRecDepth 100000 in
theorem lifted (os : Os) (started : os.Started) (H : Type) (enc : TypeId × Value → H) :
    ReturnsInHanded {} Tryz.checked os 7 .any (Rows.formulaMoreSpec.pre6 enc Tryz.prog Tryz.f7 Rows.formulaMoreRow.domain false) (Rows.formulaMoreSpec.post enc Tryz.prog Tryz.f7 false true false false) := by
  refine returnsInHanded_of_change (C := Tryz.checked) own started (by kernel_rfl) Tryz.func7
    (ChangeSpec.witness6 (enc := enc) (C := Tryz.checked) false ⟨#[], #[.slice none 0 0, .slice none 0 0, .int .u8 0], []⟩ 8 (by kernel_rfl) (by kernel_rfl) (by kernel_rfl) (by kernel_rfl)) ?_
  intro W base args ds gs before hval0 hW hcnd _
  have hval : ∀ (j : Nat) t v, Tryz.f7.params[j]? = some t → args[j]? = some v → Value.okWide Tryz.prog W .any base t v := hval0
  have hW' := hW
  obtain ⟨p, q, hA0, hV, rfl, hfz, hnd⟩ := hW
  have hA : DataW.TrodAll enc Tryz.prog W 0 (fun _ => true) true Tryz.f7.params.toList args.toList ds p := hA0
  rw [Tryz.params7] at hA hval
  obtain ⟨v0, vs0, d0, ds0, p0, q0, hargs, rfl, rfl, h0, r0⟩ := trodAll_cons hA
  obtain ⟨v1, vs1, d1, ds1, p1, q1, rfl, rfl, rfl, h1, r1⟩ := trodAll_cons r0
  obtain ⟨v2, vs2, d2, ds2, p2, q2, rfl, rfl, rfl, h2, r2⟩ := trodAll_cons r1
  obtain ⟨rfl, rfl, rfl⟩ := trodAll_nil r2
  obtain rfl : args = #[v0, v1, v2] := Array.toList_inj.1 hargs
  obtain ⟨rfl, rfl⟩ := trodVars_none hV
  obtain ⟨z0, hz0, hl0, hw0⟩ := rows_of Tryz.underlying39 Tryz.underlying43 Tryz.underlying5 (by kernel_rfl) (by kernel_rfl) (hval 0 39 v0 (by rfl) (by rfl)) h0
  obtain ⟨z1, hz1, hl1, hw1⟩ := ints_of Tryz.underlying43 Tryz.underlying5 (by kernel_rfl) (hval 1 43 v1 (by rfl) (by rfl)) h1
  have hf1 := fits_of Tryz.underlying43 Tryz.underlying5 (by kernel_rfl) h1
  obtain ⟨a2, rfl, rfl, rfl, w2⟩ := open_int Tryz.underlying5 (hval 2 5 v2 (by rfl) (by rfl)) h2
  clear hA0 hval0
  simp only [List.append_nil] at hW'
  refine (formulaMore_walk v0 z0 hl0 hw0 v1 z1 hl1 hw1 hf1 a2 w2 W hz0 hz1).mono fun e W' ⟨he, hg⟩ => ?_
  subst he
  exact ⟨_, rfl, law_post laidOut hW' rfl rfl rfl Tryz.underlying4 (params_ok (by kernel_rfl)) hg⟩

theorem said : Rows.FormulaMoreSaid :=
  OpenClaim.holds_of_wide 7 Tryz.f7 rfl rfl rfl rfl rfl rfl rfl ⟨rfl, rfl, rfl, rfl, rfl⟩ rfl rfl rfl rfl rfl (by kernel_rfl) Tryz.func7 (by kernel_rfl)
    (of_decide_eq_true (by kernel_rfl)) (by unfold Func.isWrapper; first | (rw [if_pos (by decide +kernel)]; kernel_rfl) | (rw [if_neg (by decide +kernel)]; exact ⟨rfl, rfl⟩))
    (fun os started H enc _ => lifted os started H enc)
end Go.Proofs.YtfbmagmelebkbaaGreat.formulaMore
