/- What Down yields while the trail goes back. -/
import Derived.Test.YtdeedmfofjdbjaaTrLevMath
namespace Go.Proofs.Ytdeedmfofjdbjaa

/-- Is the literal of round r yielded? (b rounds come before the trail goes back, all if b is 0; N literals are left then.) -/
def wantB (m b N r : Nat) : Bool := decide (b = 0 ∨ r < b ∨ m - 1 - r < N)
def wantL (its : List It) (m b N k : Nat) : List Int := ((List.range k).filter (wantB m b N)).map fun r => (litsOf its)[m - 1 - r]?.getD 0
theorem wantL_succ (its : List It) (m b N k : Nat) : wantL its m b N (k + 1) = wantL its m b N k ++ if wantB m b N k then [(litsOf its)[m - 1 - k]?.getD 0] else [] := by
  unfold wantL
  rw [List.range_succ, List.filter_append, List.map_append]
  congr 1
  cases h : wantB m b N k
  · rw [List.filter_cons_of_neg (by rw [h]; decide)]; rfl
  · rw [List.filter_cons_of_pos h]; rfl
theorem wantL_le (its : List It) (m b N k : Nat) : (wantL its m b N k).length ≤ k := by
  unfold wantL
  rw [List.length_map]
  exact Nat.le_trans (List.length_filter_le _ _) (by rw [List.length_range]; omega)
theorem wantL_first (its : List It) (m b N : Nat) {k : Nat} (h : b = 0 ∨ k ≤ b) : (wantL its m b N k).length = k := by
  unfold wantL
  rw [List.length_map, List.filter_eq_self.2, List.length_range]
  intro r hr
  have := List.mem_range.1 hr
  unfold wantB
  rw [decide_eq_true_eq]; omega
theorem wantL_mono (its : List It) (m b N : Nat) {k j : Nat} (h : k ≤ j) : (wantL its m b N k).length ≤ (wantL its m b N j).length := by
  induction j with
  | zero => obtain rfl : k = 0 := by omega
            exact Nat.le_refl _
  | succ j ih =>
    rcases Nat.lt_or_ge j k with h1 | h1
    · obtain rfl : k = j + 1 := by omega
      exact Nat.le_refl _
    · refine Nat.le_trans (ih h1) ?_
      rw [wantL_succ, List.length_append]
      exact Nat.le_add_right _ _
/-- Behind a round with an append there are just b literals if it was the round b. -/
theorem wantL_hit (its : List It) (m b N k : Nat) : ((wantL its m b N k).length + 1 = b ↔ k + 1 = b) := by
  by_cases h : b = 0 ∨ k ≤ b
  · rw [wantL_first its m b N h]
  · have h1 := wantL_mono its m b N (show b ≤ k by omega)
    rw [wantL_first its m b N (.inr (Nat.le_refl b))] at h1
    omega
/-- The trail behind k rounds. -/
def yIt (its : List It) (b N k : Nat) : List It := if b = 0 ∨ k < b then its else its.take N
def ySt (st : List Nat) (b kk k : Nat) : List Nat := if b = 0 ∨ k < b then st else st.take kk
theorem yIt_0 (its : List It) (b N : Nat) : yIt its b N 0 = its := by unfold yIt; rw [if_pos (by omega)]
theorem ySt_0 (st : List Nat) (b kk : Nat) : ySt st b kk 0 = st := by unfold ySt; rw [if_pos (by omega)]
theorem yIt_same {its : List It} {b N k : Nat} (h : k + 1 ≠ b) : yIt its b N (k + 1) = yIt its b N k := by
  unfold yIt
  by_cases h1 : b = 0 ∨ k < b
  · rw [if_pos h1, if_pos (by omega)]
  · rw [if_neg h1, if_neg (by omega)]
theorem ySt_same {st : List Nat} {b kk k : Nat} (h : k + 1 ≠ b) : ySt st b kk (k + 1) = ySt st b kk k := by
  unfold ySt
  by_cases h1 : b = 0 ∨ k < b
  · rw [if_pos h1, if_pos (by omega)]
  · rw [if_neg h1, if_neg (by omega)]
theorem yIt_at {its : List It} {b N k i : Nat} {x : It} (h : (yIt its b N k)[i]? = some x) : its[i]? = some x ∧ (b = 0 ∨ k < b ∨ i < N) := by
  unfold yIt at h
  split at h
  · rename_i h1
    exact ⟨h, by omega⟩
  · rw [List.getElem?_take] at h
    split at h
    · exact ⟨h, .inr (.inr ‹_›)⟩
    · cases h
/-- What the loop over the free trail has assigned. -/
def freeI (k : Nat) : List It := (List.range (min (k + 1) 8)).map fun (i : Nat) => ⟨(i : Int) + 1, 0, 0⟩
theorem freeI_len (k : Nat) : (freeI k).length = min (k + 1) 8 := by simp [freeI]
theorem freeI_at {k i : Nat} {x : It} (h : (freeI k)[i]? = some x) : x.lit = (i : Int) + 1 ∧ i < min (k + 1) 8 := by
  have hl := (List.getElem?_eq_some_iff.1 h).1
  rw [freeI_len] at hl
  unfold freeI at h
  rw [List.getElem?_map, List.getElem?_range hl] at h
  cases h
  exact ⟨rfl, hl⟩
theorem freeI_succ {k : Nat} (h : k < 7) : freeI (k + 1) = freeI k ++ [⟨((k + 1 : Nat) : Int) + 1, 0, 0⟩] := by
  unfold freeI
  rw [show min (k + 1 + 1) 8 = (k + 1) + 1 by omega, show min (k + 1) 8 = k + 1 by omega, List.range_succ, List.map_append]
  rfl
theorem freeI_last : freeI 8 = freeI 7 := rfl
theorem freeI_no {k : Nat} {x : It} (h : x ∈ freeI k) {n : Nat} (hn : k + 1 < n) : x.vr ≠ n := by
  obtain ⟨i, hi⟩ := List.mem_iff_getElem?.1 h
  obtain ⟨h1, h2⟩ := freeI_at hi
  show x.lit.natAbs ≠ n
  omega
end Go.Proofs.Ytdeedmfofjdbjaa
