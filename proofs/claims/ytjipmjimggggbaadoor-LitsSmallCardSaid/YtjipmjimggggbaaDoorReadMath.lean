/- The reference's way to read a text, and that of lits, come to the same: of lists of bytes alone. -/
import Derived.Test.YtjipmjimggggbaaDoorRead
namespace Go.Proofs.YtjipmjimggggbaaDoor
open Go.RowKit

/-- The number that digits say, when n has been read before; none if one of them is no digit. -/
def numL : List UInt8 → Int → Option Int
  | [], n => some n
  | d :: r, n => if (d.toNat : Int) < 48 ∨ 57 < (d.toNat : Int) then none else numL r (10 * n + ((d.toNat : Int) - 48))
def pw : Nat → Int
  | 0 => 1
  | k + 1 => 10 * pw k
theorem pw_pos (k : Nat) : 1 ≤ pw k := by
  induction k with
  | zero => decide
  | succ k ih => unfold pw; omega
theorem pw_le {k j : Nat} (h : k ≤ j) : pw k ≤ pw j := by
  induction j with
  | zero => obtain rfl : k = 0 := by omega
            exact Int.le_refl _
  | succ j ih =>
    by_cases e : k = j + 1
    · rw [e]; exact Int.le_refl _
    · have := ih (by omega)
      have hp := pw_pos j
      have hs : pw (j + 1) = 10 * pw j := rfl
      omega
theorem pw_7 : pw 7 = 10000000 := by decide

theorem rd_num (l : List UInt8) : ∀ (v : Int) (k : Nat), 0 ≤ v → 0 < k →
    (∀ n, numL l v = some n → v ≤ n ∧ (n ≤ 1048576 → rdL l v k = n) ∧ (1048576 < n → 1048576 < rdL l v k)) ∧ (numL l v = none → rdL l v k = 0 ∨ 1048576 < rdL l v k) := by
  induction l with
  | nil =>
    intro v k hv hk
    refine ⟨fun n hn => ?_, fun h => by cases h⟩
    obtain rfl : v = n := by simpa [numL] using hn
    exact ⟨Int.le_refl _, fun _ => rfl, fun h => h⟩
  | cons d r ih =>
    intro v k hv hk
    by_cases h1 : (d.toNat : Int) < 48 ∨ 57 < (d.toNat : Int)
    · refine ⟨fun n hn => ?_, fun _ => .inl ?_⟩
      · rw [numL, if_pos h1] at hn; cases hn
      · rw [rdL, if_pos h1]
    · have h2 : ¬ ((d.toNat : Int) = 48 ∧ k = 0) := by omega
      obtain ⟨i1, i2⟩ := ih (10 * v + ((d.toNat : Int) - 48)) (k + 1) (by omega) (by omega)
      rw [numL, if_neg h1, rdL, if_neg h1, if_neg h2]
      by_cases h3 : 1048576 < v
      · rw [if_pos h3]
        refine ⟨fun n hn => ?_, fun _ => .inr h3⟩
        obtain ⟨j1, -, -⟩ := i1 n hn
        exact ⟨by omega, fun h => by omega, fun _ => h3⟩
      · rw [if_neg h3]
        refine ⟨fun n hn => ?_, i2⟩
        obtain ⟨j1, j2, j3⟩ := i1 n hn
        exact ⟨by omega, j2, j3⟩

theorem rd_long (l : List UInt8) : ∀ (v : Int) (k i : Nat), 0 < k → pw i ≤ v → 7 ≤ l.length + i → rdL l v k = 0 ∨ 1048576 < rdL l v k := by
  induction l with
  | nil =>
    intro v k i _ hv hl
    have := pw_le (k := 7) (j := i) (by simpa using hl)
    rw [pw_7] at this
    exact .inr (by show 1048576 < v; omega)
  | cons d r ih =>
    intro v k i hk hv hl
    by_cases h1 : (d.toNat : Int) < 48 ∨ 57 < (d.toNat : Int)
    · exact .inl (by rw [rdL, if_pos h1])
    · have h2 : ¬ ((d.toNat : Int) = 48 ∧ k = 0) := by omega
      rw [rdL, if_neg h1, if_neg h2]
      by_cases h3 : 1048576 < v
      · rw [if_pos h3]; exact .inr h3
      · rw [if_neg h3]
        refine ih _ _ (i + 1) (by omega) ?_ (by simp at hl; omega)
        show 10 * pw i ≤ _
        omega

theorem of_none {v : Int} {b : Bool} (h : v = 0 ∨ 1048576 < v) : ofI v b = 0 := by rw [ofI, if_neg (by omega)]

/-- What the reference reads of digits. -/
def rfI (l : List UInt8) (b : Bool) : Int :=
  if l.length < 1 ∨ 7 < l.length ∨ l.head? = some 48 then 0 else match numL l 0 with
    | none => 0
    | some n => if litB n then (if b then -1 else 1) * n else 0

theorem u8_48 {d : UInt8} : d = 48 ↔ (d.toNat : Int) = 48 := by
  constructor
  · rintro rfl; rfl
  · intro h
    apply UInt8.toNat.inj
    show d.toNat = 48
    omega
theorem rf_is (l : List UInt8) (b : Bool) : rfI l b = ofI (rdL l 0 0) b := by
  cases l with
  | nil => rfl
  | cons d r =>
    by_cases h0 : (d.toNat : Int) = 48
    · have e1 : rdL (d :: r) 0 0 = 0 := by
        rw [rdL, if_neg (by omega), if_pos ⟨h0, rfl⟩]
      rw [e1, of_none (.inl rfl), rfI, if_pos (.inr (.inr (by rw [List.head?_cons, u8_48.2 h0])))]
    · by_cases h1 : (d.toNat : Int) < 48 ∨ 57 < (d.toNat : Int)
      · have e1 : rdL (d :: r) 0 0 = 0 := by rw [rdL, if_pos h1]
        rw [e1, of_none (.inl rfl), rfI]
        split
        · rfl
        · rw [numL, if_pos h1]
      · have e1 : rdL (d :: r) 0 0 = rdL r ((d.toNat : Int) - 48) 1 := by
          rw [rdL, if_neg h1, if_neg (by omega), if_neg (by omega)]; simp
        have e2 : numL (d :: r) 0 = numL r ((d.toNat : Int) - 48) := by rw [numL, if_neg h1]; simp
        by_cases h7 : 7 < (d :: r).length
        · rw [rfI, if_pos (.inr (.inl h7)), e1]
          exact (of_none (rd_long r _ 1 0 (by omega) (by show (1 : Int) ≤ _; omega) (by simp at h7; omega))).symm
        · have hh : ¬ ((d :: r).length < 1 ∨ 7 < (d :: r).length ∨ (d :: r).head? = some 48) := by
            rintro (h | h | h)
            · simp at h
            · exact h7 h
            · rw [List.head?_cons] at h
              injection h with h
              exact h0 (u8_48.1 h)
          obtain ⟨i1, i2⟩ := rd_num r ((d.toNat : Int) - 48) 1 (by omega) (by omega)
          rw [rfI, if_neg hh, e1, e2]
          cases hn : numL r ((d.toNat : Int) - 48) with
          | none => exact (of_none (i2 hn)).symm
          | some n =>
            obtain ⟨j1, j2, j3⟩ := i1 n hn
            by_cases hm : n ≤ 1048576
            · rw [j2 hm]
              show (if litB n = true then (if b = true then -1 else 1) * n else 0) = ofI n b
              have hof : ofI n b = if b then -n else n := by rw [ofI, if_pos ⟨by omega, by omega⟩]
              rw [if_pos (litB_yes (by omega) (by omega) hm), hof]
              cases b <;> simp
            · show (if litB n = true then (if b = true then -1 else 1) * n else 0) = _
              rw [if_neg (by rw [litB_not (by omega)]; exact Bool.false_ne_true)]
              exact (of_none (.inr (j3 (by omega)))).symm
theorem readI_rf (l : List UInt8) : readI l = rfI (Lib.trimPrefix l [45]) (txN l) := (rf_is _ _).symm
end Go.Proofs.YtjipmjimggggbaaDoor
