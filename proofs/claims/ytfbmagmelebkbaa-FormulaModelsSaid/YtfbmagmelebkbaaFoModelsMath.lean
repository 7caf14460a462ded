/- The law FormulaModels: its mathematics. -/
import Derived.Test.YtfbmagmelebkbaaFoBitsLaw
import Derived.Test.YtfbmagmelebkbaaFoAwake
import Derived.Test.YtfbmagmelebkbaaEqualIntF
namespace Go.Proofs.Ytfbmagmelebkbaa
open Go.RowKit Go.ChangeAt Go.ChangeShapes Go.WideShapes Go.Shelf Go.Sort

theorem modB_bits (n : Nat) (ls : List Int) : (modB n ls).map b2i = modL n ls := by
  unfold modB modL
  rw [List.map_map]
  refine List.map_congr_left fun v _ => ?_
  show b2i (decide _) = _
  unfold b2i
  by_cases h : ((v : Int) + 1) ∈ ls <;> simp [h]
theorem want_at {bs : List Bool} {i : Nat} (h : i < bs.length) : ((i : Int) + 1) * (2 * (bs.map b2i)[i]?.getD 0 - 1) = litAt bs i := by
  rw [List.getElem?_map, List.getElem?_eq_getElem h]
  unfold litAt b2i
  rw [List.getElem?_eq_getElem h]
  cases bs[i] <;> simp
theorem sat_bits {bs : List Bool} {l : Int} (h0 : l ≠ 0) (h : l.natAbs ≤ bs.length) : satI (bs.map b2i) l = satB bs l := by
  have hi : l.natAbs - 1 < bs.length := by omega
  unfold satI satB
  rw [List.getElem?_map, List.getElem?_eq_getElem hi]
  simp only [Option.map_some, Option.getD_some]
  by_cases hn : l < 0
  · have hp : ¬ 0 < l := by omega
    cases bs[l.natAbs - 1] <;> simp [b2i, hn, hp]
  · have hp : 0 < l := by omega
    cases bs[l.natAbs - 1] <;> simp [b2i, hn, hp]
theorem hold_bits (zs : List Int) (bs : List Bool) : holdF zs (bs.map b2i) = holdP zs bs := by
  unfold holdF holdP
  cases hr : rightB zs
  · rfl
  · simp only [Bool.true_and]
    rw [List.length_map]
    by_cases hm : maxL (vl zs) ≤ bs.length
    · have hall := (greatest_le (rightB_of hr).2 (by omega)).1 hm
      have hl : ∀ l ∈ zs, l ≠ 0 ∧ l.natAbs ≤ bs.length := fun l hl => by
        have h1 := hall l hl
        have h2 := (rightB_of hr).2 l hl
        have h3 := litB_of h2
        unfold varI at h1
        rw [if_pos h2] at h1
        refine ⟨h3.1, ?_⟩
        split at h1 <;> omega
      rw [decide_eq_true hm, List.all_eq_true.2 (fun l h => decide_eq_true (hl l h).2)]
      simp only [Bool.true_and]
      unfold holdsM
      rw [Bool.eq_iff_iff, List.any_eq_true, List.any_eq_true]
      exact ⟨fun ⟨l, h1, h2⟩ => ⟨l, h1, by rw [← sat_bits (hl l h1).1 (hl l h1).2]; exact h2⟩, fun ⟨l, h1, h2⟩ => ⟨l, h1, by rw [sat_bits (hl l h1).1 (hl l h1).2]; exact h2⟩⟩
    · rw [decide_eq_false hm, Bool.false_and]
      have : (zs.all fun l => decide (l.natAbs ≤ bs.length)) = false := by
        rw [List.all_eq_false]
        refine Classical.byContradiction fun hn => hm ((greatest_le (rightB_of hr).2 (by omega)).2 fun l hl => ?_)
        have h1 : l.natAbs ≤ bs.length := Classical.byContradiction fun h => hn ⟨l, hl, by simpa using h⟩
        have h2 := (rightB_of hr).2 l hl
        unfold varI
        rw [if_pos h2]
        split <;> omega
      rw [this]
      rfl
end Go.Proofs.Ytfbmagmelebkbaa
