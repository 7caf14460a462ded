/- dimacs.isPassed. -/
import Derived.Test.YticcgmegimiegaaGreatDoorSplit
import Derived.Test.YticcgmegimiegaaGreatDoorDmText
import Derived.Deep.QuietTactic
import Derived.BigQuiet
import Derived.Deep.RegionHeld3
import Derived.WalkMore
namespace Go.Proofs.YticcgmegimiegaaGreatDoor
open Go.RowKit Go.ChangeAt Go.ChangeShapes Go.WideShapes Go.Shelf Go.Sort

/-- A line that says nothing. -/
def passB (l : List UInt8) : Bool := decide (l = [99]) || (Lib.hasPrefix l [99, 32] || decide (Lib.trimB l 32 = []))
set_option maxRecDepth 100000 in
set_option maxHeartbeats 1000000 in
theorem passed_any (l : List UInt8) (hl : l.length ≤ 4000000000) (w : World) :
    Calls Tryz.prog 112 #[str l] w fun e w' => e = .returned (.bool (passB l)) ∧ Below w.heap.size w w' := by
  have h1 := fun W => Tryz.strings_HasPrefix_f47 ⟨l.toArray⟩ ⟨#[99, 32]⟩ W
  have h2 := fun W => Tryz.strings_Trim_one_f135 ⟨l.toArray⟩ 32 (by decide) W (by rw [str_size]; omega)
  dsimp only at h2
  have h1 : ∀ W, Calls Tryz.prog 47 #[str l, .string ⟨#[99, 32]⟩] W fun e w' => e = .returned (.bool (Lib.hasPrefix l [99, 32])) ∧ w' = W := fun W => (h1 W).mono fun e w' h => by simpa using h
  obtain ⟨hp, hhp⟩ : ∃ b, Lib.hasPrefix l [99, 32] = b := ⟨_, rfl⟩
  obtain ⟨T, hT⟩ : ∃ b, Lib.trimB l 32 = b := ⟨_, rfl⟩
  unfold passB
  rw [hhp] at h1 ⊢
  rw [hT] at h2 ⊢
  have H1 := Lib.hid h1; have H2 := Lib.hid h2
  clear h1 h2 hhp hT
  by_cases h99 : l = [99]
  · subst h99
    go_enter Tryz.func112, Tryz.ntmps112
    go_wp2_with fail
    go_ret
    exact ⟨by simp, Below.refl _ _⟩
  · rw [decide_eq_false h99]
    cases hp
    · by_cases hT : T = []
      · subst hT
        go_enter Tryz.func112, Tryz.ntmps112
        go_wp2_with fail
        refine (H1.out _).mono ?_
        rintro e w' ⟨rfl, rfl⟩
        go_wp2_with fail
        refine (H2.out _).mono ?_
        rintro e w2 ⟨rfl, rfl | rfl⟩
        all_goals
          go_wp2_with fail
          go_ret
          exact ⟨by simp, by first | exact Below.refl _ _ | exact (Below.refl _ _).drew⟩
      · go_enter Tryz.func112, Tryz.ntmps112
        go_wp2_with fail
        refine (H1.out _).mono ?_
        rintro e w' ⟨rfl, rfl⟩
        go_wp2_with fail
        refine (H2.out _).mono ?_
        rintro e w2 ⟨rfl, rfl | rfl⟩
        all_goals
          go_wp2_with fail
          go_ret
          exact ⟨by simp [hT, h99], by first | exact Below.refl _ _ | exact (Below.refl _ _).drew⟩
    · go_enter Tryz.func112, Tryz.ntmps112
      go_wp2_with fail
      refine (H1.out _).mono ?_
      rintro e w' ⟨rfl, rfl⟩
      go_wp2_with fail
      go_ret
      exact ⟨by simp, Below.refl _ _⟩
end Go.Proofs.YticcgmegimiegaaGreatDoor
