/- What the laws of the arena share: which clauses are there. -/
import Derived.Test.YtjkhhnfmefbohaaPut
import Derived.Test.YtjkhhnfmefbohaaArAwake
namespace Go.Proofs.Ytjkhhnfmefbohaa

theorem putL_even (zss : List (List Int)) (n : Nat) (k : Int) : ∀ p ∈ putL zss n, p.1 ≠ 2 * k + 2 := fun p hp => by
  obtain ⟨i, -, h, -⟩ := putL_id hp
  omega
theorem putL_past (zss : List (List Int)) (n : Nat) {k : Int} (h : k < 1 ∨ 2 * (n : Int) ≤ k) : ∀ p ∈ putL zss n, p.1 ≠ k := fun p hp => by
  obtain ⟨i, _, h', -⟩ := putL_id hp
  omega
theorem lastN_le (n : Nat) : 0 ≤ lastN n ∧ lastN n ≤ 2 * (n : Int) := by unfold lastN; split <;> omega
theorem lastN_max (n : Nat) : max (2 * (n : Int) - 1) 0 = lastN n := by unfold lastN; split <;> omega

/-! ### all taken away, in a turned order -/
theorem turn_is {n b i : Nat} (hi : i < n) : (i + b) % n = if i + b % n < n then i + b % n else i + b % n - n := by
  have := Nat.mod_lt b (by omega : 0 < n)
  rw [Nat.add_mod, Nat.mod_eq_of_lt hi]
  split
  · exact Nat.mod_eq_of_lt ‹_›
  · rw [Nat.mod_eq_sub_mod (by omega), Nat.mod_eq_of_lt (by omega)]
theorem turn_inj {n b i j : Nat} (hi : i < n) (hj : j < n) (h : (i + b) % n = (j + b) % n) : i = j := by
  have := Nat.mod_lt b (by omega : 0 < n)
  rw [turn_is hi, turn_is hj] at h
  split at h <;> split at h <;> omega
theorem turn_all {n m : Nat} (b : Nat) (hm : m < n) : ∃ j, j < n ∧ (j + b) % n = m := by
  have := Nat.mod_lt b (by omega : 0 < n)
  by_cases h : b % n ≤ m
  · exact ⟨m - b % n, by omega, by rw [turn_is (by omega), if_pos (by omega)]; omega⟩
  · exact ⟨m + n - b % n, by omega, by rw [turn_is (by omega), if_neg (by omega)]; omega⟩
/-- What is there when the first i are taken away. -/
def onceL (zss : List (List Int)) (n b i : Nat) : List (Int × List Int) := (putL zss n).filter fun p => decide (∀ j, j < i → p.1 ≠ 2 * (((j + b) % n : Nat) : Int) + 1)
theorem onceL_0 (zss : List (List Int)) (n b : Nat) : onceL zss n b 0 = putL zss n := List.filter_eq_self.2 (by simp)
theorem onceL_succ (zss : List (List Int)) (n b i : Nat) : (onceL zss n b i).filter (fun p => decide (p.1 ≠ 2 * (((i + b) % n : Nat) : Int) + 1)) = onceL zss n b (i + 1) := by
  unfold onceL
  rw [List.filter_filter]
  refine List.filter_congr fun p _ => ?_
  rw [Bool.eq_iff_iff, Bool.and_eq_true, decide_eq_true_eq, decide_eq_true_eq, decide_eq_true_eq]
  constructor
  · rintro ⟨h1, h2⟩ j hj
    rcases Nat.lt_or_ge j i with h | h
    · exact h2 j h
    · obtain rfl : j = i := by omega
      exact h1
  · exact fun h => ⟨h i (by omega), fun j hj => h j (by omega)⟩
theorem onceL_mem (zss : List (List Int)) (n b i : Nat) (hi : i < n) : (2 * (((i + b) % n : Nat) : Int) + 1, madeL (zss[(i + b) % n]?.getD [])) ∈ onceL zss n b i := by
  refine List.mem_filter.2 ⟨putL_mem zss (Nat.mod_lt _ (by omega)), decide_eq_true fun j hj he => ?_⟩
  have := turn_inj (n := n) (b := b) (i := i) (j := j) hi (by omega) (by simp only at he; omega)
  omega
theorem onceL_all (zss : List (List Int)) (n b : Nat) : onceL zss n b n = [] := by
  refine List.filter_eq_nil_iff.2 fun p hp => ?_
  obtain ⟨i, hi, h, -⟩ := putL_id hp
  obtain ⟨j, hj, hji⟩ := turn_all b hi
  rw [decide_eq_true_eq]
  intro h'
  exact h' j hj (by rw [hji]; exact h)
end Go.Proofs.Ytjkhhnfmefbohaa
