/- The law FormulaTells of layer salvorlaw05 holds for every input.
   Conditions: none beyond those of the given row. -/
import Derived.SizedLaws
import Derived.Test.YtdahiacicgdmfaaGreatFormulaTellsWalk
import Derived.Test.YtdahiacicgdmfaaGreatPlain
namespace Go.Proofs.YtdahiacicgdmfaaGreat.formulaTells
open Go.ChangeShapes Go.WideShapes Go.ChangeAt Go.RowKit

set_option maxRecDepth 100000 in
theorem lifted (os : Os) (started : os.Started) (H : Type) (enc : TypeId × Value → H) :
    ReturnsInHanded {} Tryz.checked os 3 .any (Rows.formulaTellsSpec.pre6 enc Tryz.prog Tryz.f3 Rows.formulaTellsRow.domain false) (Rows.formulaTellsSpec.post enc Tryz.prog Tryz.f3 false true false false) := by
  refine returnsInHanded_of_change_sized (C := Tryz.checked) own started (by kernel_rfl) Tryz.func3
    (ChangeSpec.witness6 (enc := enc) (C := Tryz.checked) false ⟨#[], #[.agg #[.int .i64 0, .slice none 0 0], .slice none 0 0, .int .i64 0], []⟩ 8 (by kernel_rfl) (by kernel_rfl) (by kernel_rfl) (by kernel_rfl)) ?_
  intro W base args ds gs before hval0 hW hcnd hsz0 _
  have hsz : (DataW.weightsEach Tryz.prog (Tryz.f3.params.toList ++ Rows.formulaTellsSpec.plain.varTypes Tryz.prog) (ds ++ gs)).all (· ≤ reachBytes) = true := hsz0
  have hval : ∀ (j : Nat) t v, Tryz.f3.params[j]? = some t → args[j]? = some v → Value.okWide Tryz.prog W .any base t v := hval0
  have hW' := hW
  obtain ⟨p, q, hA0, hV, rfl, hfz, hnd⟩ := hW
  have hA : DataW.TrodAll enc Tryz.prog W 0 (fun _ => true) true Tryz.f3.params.toList args.toList ds p := hA0
  rw [Tryz.params3] at hA hval hsz
  obtain ⟨v0, vs0, d0, ds0, p0, q0, hargs, rfl, rfl, h0, r0⟩ := trodAll_cons hA
  obtain ⟨v1, vs1, d1, ds1, p1, q1, rfl, rfl, rfl, h1, r1⟩ := trodAll_cons r0
  obtain ⟨v2, vs2, d2, ds2, p2, q2, rfl, rfl, rfl, h2, r2⟩ := trodAll_cons r1
  obtain ⟨rfl, rfl, rfl⟩ := trodAll_nil r2
  obtain rfl : args = #[v0, v1, v2] := Array.toList_inj.1 hargs
  obtain ⟨rfl, rfl⟩ := trodVars_none hV
  have hs0 : ∀ n ∈ d0.weights Tryz.prog 24, n ≤ reachBytes := fun n hn => of_decide_eq_true (List.all_eq_true.1 hsz n (DataW.weights_mem_each (j := 0) (t := 24) rfl rfl n hn))
  obtain ⟨f0, f1, y0, y1, n0, rfl, rfl, hp0, t0, t1⟩ := Go.Joins.open_agg2 Tryz.underlying24 (by kernel_rfl) (by kernel_rfl) (hval 0 24 v0 (by rfl) (by rfl)) h0
  obtain ⟨vars, e0, -, -⟩ := DataW.trod_int Tryz.underlying3 t0
  obtain rfl : f0 = _ := by simpa using e0
  obtain ⟨L, hL, hlL, hFt, hzL⟩ := rowsl_trod t1 (fun y hy => match y, hy with
    | .cell b off, hy => hfz b off (by simp [hp0, hy])
    | .map _, _ => rfl) (fun n hn => hs0 n (by
      simp only [DataW.weights, Tryz.underlying24]
      exact DataW.weights_mem_each (j := 1) (t := 22) rfl rfl n hn))
  have hz1_ := bools_of Tryz.underlying25 Tryz.underlying4 (by kernel_rfl) (hval 1 25 v1 (by rfl) (by rfl)) h1 (fun x hx => match x, hx with | .cell b off, hx => hfz b off (by simp [hx]) | .map _, _ => rfl)
  obtain ⟨z1, hz1, hl1, hf1⟩ := hz1_
  obtain ⟨a2, rfl, rfl, rfl, w2⟩ := open_int Tryz.underlying3 (hval 2 3 v2 (by rfl) (by rfl)) h2
  clear hA0 hval0 hsz0
  simp only [List.append_nil] at hW'
  refine (formulaTells_walk f1 v1 L z1 vars a2 W hlL hzL hFt hl1 hL hz1).mono fun e W' ⟨he, hg⟩ => ?_
  subst he
  exact ⟨_, rfl, law_post laidOut hW' rfl rfl rfl Tryz.underlying4 (params_ok (by kernel_rfl)) hg⟩

theorem said : Rows.FormulaTellsSaid :=
  OpenClaim.holds_of_wide 3 Tryz.f3 rfl rfl rfl rfl rfl rfl rfl ⟨rfl, rfl, rfl, rfl, rfl⟩ rfl rfl rfl rfl rfl (by kernel_rfl) Tryz.func3 (by kernel_rfl)
    (of_decide_eq_true (by kernel_rfl)) (by unfold Func.isWrapper; first | (rw [if_pos (by decide +kernel)]; kernel_rfl) | (rw [if_neg (by decide +kernel)]; exact ⟨rfl, rfl⟩))
    (fun os started H enc _ => lifted os started H enc)
end Go.Proofs.YtdahiacicgdmfaaGreat.formulaTells
