/- Texts of literals are read back, and what is read of a text is written so: of lists of bytes alone. -/
import Derived.Test.YtjipmjimggggbaaDoorRefRead
namespace Go.Proofs.YtjipmjimggggbaaDoor
open Go.RowKit

theorem of_ie2 (v : Int) (b : Bool) : (ofE v = 0 ∧ ofI v b ≠ 0 ∧ 1 ≤ v ∧ v ≤ 1048576 ∧ ofI v b = if b then -v else v) ∨ (ofE v = 10 ∧ ofI v b = 0) := by
  unfold ofE ofI
  by_cases h : 1 ≤ v ∧ v ≤ 1048576
  · rw [if_pos h, if_pos h]
    left
    refine ⟨rfl, ?_, h.1, h.2, rfl⟩
    cases b <;> simp <;> omega
  · rw [if_neg h, if_neg h]
    exact .inr ⟨rfl, rfl⟩
theorem of_ie' (l : List UInt8) : (readE l = 0 ∧ readI l ≠ 0 ∧ 1 ≤ txV l ∧ txV l ≤ 1048576 ∧ readI l = if txN l then -(txV l) else txV l) ∨ (readE l = 10 ∧ readI l = 0) := of_ie2 _ _
theorem numL_app (a b : List UInt8) : ∀ x : Int, numL (a ++ b) x = (numL a x).bind (numL b) := by
  induction a with
  | nil => intro x; rfl
  | cons d r ih =>
    intro x
    rw [List.cons_append, numL, numL]
    split
    · rfl
    · exact ih _
theorem u8_dig (k : Nat) (h : k < 10) : ((UInt8.ofNat (48 + k)).toNat : Int) = 48 + (k : Int) := by
  rw [UInt8.toNat_ofNat']
  omega
theorem numL_one (k : Nat) (h : k < 10) (x : Int) : numL [UInt8.ofNat (48 + k)] x = some (10 * x + k) := by
  rw [numL, u8_dig k h, if_neg (by omega)]
  show some _ = some _
  congr 1
  omega
theorem numL_dec (n : Nat) : numL (decR n) 0 = some (n : Int) := by
  induction n using Nat.strongRecOn with
  | ind n ih =>
    rcases Nat.eq_zero_or_pos n with rfl | h
    · rfl
    · rw [decR_step n h, numL_app, ih (n / 10) (by omega), Option.bind_some, numL_one _ (Nat.mod_lt _ (by omega))]
      congr 1
      omega
theorem decR_short (k : Nat) : ∀ n : Nat, n < 10 ^ k → (decR n).length ≤ k := by
  induction k with
  | zero => intro n h; obtain rfl : n = 0 := by omega
            simp [decR]
  | succ k ih =>
    intro n h
    rcases Nat.eq_zero_or_pos n with rfl | h0
    · simp [decR]
    · rw [decR_step n h0, List.length_append]
      have := ih (n / 10) (by rw [Nat.pow_succ] at h; omega)
      simp
      omega
theorem decR_head (n : Nat) (h : 0 < n) : ∃ d r, decR n = d :: r ∧ ¬ (d.toNat : Int) = 48 := by
  induction n using Nat.strongRecOn with
  | ind n ih =>
    by_cases h1 : n < 10
    · refine ⟨UInt8.ofNat (48 + n), [], ?_, ?_⟩
      · rw [decR_step n h, Nat.mod_eq_of_lt h1, show n / 10 = 0 by omega]; rfl
      · rw [u8_dig n h1]; omega
    · obtain ⟨d, r, e, hd⟩ := ih (n / 10) (by omega) (by omega)
      exact ⟨d, r ++ [UInt8.ofNat (48 + n % 10)], by rw [decR_step n h, e]; rfl, hd⟩
theorem rf_dec (n : Nat) (h0 : 0 < n) (h1 : n ≤ 1048576) (b : Bool) : rfI (decR n) b = (if b then -1 else 1) * (n : Int) := by
  obtain ⟨d, r, e, hd⟩ := decR_head n h0
  have hs := decR_short 7 n (by omega)
  have hh : ¬ ((decR n).length < 1 ∨ 7 < (decR n).length ∨ (decR n).head? = some 48) := by
    rintro (h | h | h)
    · rw [e] at h; simp at h
    · omega
    · rw [e, List.head?_cons] at h
      injection h with h
      exact hd (u8_48.1 h)
  rw [rfI, if_neg hh, numL_dec]
  show (if litB (n : Int) = true then _ else _) = _
  rw [if_pos (litB_yes (by omega) (by omega) (by omega))]
/-- The text of a literal is read as this literal. -/
theorem read_text {a : Int} (h : litB a = true) : readI (textL a) = a ∧ readE (textL a) = 0 := by
  have hb := litB_of h
  have hi : readI (textL a) = a := by
    rw [readI_rf, textL, if_pos h]
    by_cases hn : a < 0
    · obtain ⟨n, rfl⟩ : ∃ n : Nat, a = -(n : Int) := ⟨a.natAbs, by omega⟩
      have e : Lib.itoa (-(n : Int)) = 45 :: decR n := by rw [Lib.itoa, if_pos hn, decR_pos n (by omega)]; simp
      rw [e]
      have e1 : Lib.trimPrefix (45 :: decR n) [45] = decR n := by simp [Lib.trimPrefix, Lib.hasPrefix]
      have e2 : txN (45 :: decR n) = true := by simp [txN, Lib.hasPrefix]
      rw [e1, e2, rf_dec n (by omega) (by omega)]
      simp
    · obtain ⟨n, rfl⟩ : ∃ n : Nat, a = (n : Int) := ⟨a.toNat, by omega⟩
      have e : Lib.itoa (n : Int) = decR n := by rw [Lib.itoa, if_neg hn, decR_pos n (by omega)]; simp
      obtain ⟨d, r, ed, hd⟩ := decR_head n (by omega)
      have hp : Lib.hasPrefix (decR n) [45] = false := by
        have hs := numL_dec n
        rw [ed] at hs ⊢
        show ((45 == d) && List.isPrefixOf [] r) = false
        rw [beq_eq_false_iff_ne.2, Bool.false_and]
        rintro rfl
        rw [numL, if_pos (by decide)] at hs
        cases hs
      rw [e, show Lib.trimPrefix (decR n) [45] = decR n by unfold Lib.trimPrefix; rw [hp]; rfl, show txN (decR n) = false from hp, rf_dec n (by omega) (by omega)]
      simp
  refine ⟨hi, ?_⟩
  have hq := of_ie' (textL a)
  rw [hi] at hq
  rcases hq with h | h
  · exact h.1
  · omega
theorem dec_of_num : ∀ (l : List UInt8) (n : Int), (∀ d r, l = d :: r → ¬ (d.toNat : Int) = 48) → numL l 0 = some n → 0 ≤ n ∧ l = decR n.toNat := by
  intro l
  suffices hs : ∀ (r : List UInt8) (n : Int), (∀ d t, r.reverse = d :: t → ¬ (d.toNat : Int) = 48) → numL r.reverse 0 = some n → 0 ≤ n ∧ r.reverse = decR n.toNat ∧ (r ≠ [] → 0 < n) by
    intro n h1 h2
    have := hs l.reverse n (by rw [List.reverse_reverse]; exact h1) (by rw [List.reverse_reverse]; exact h2)
    rw [List.reverse_reverse] at this
    exact ⟨this.1, this.2.1⟩
  intro r
  induction r with
  | nil =>
    intro n _ h
    obtain rfl : 0 = n := by simpa [numL] using h
    exact ⟨Int.le_refl _, rfl, fun h => absurd rfl h⟩
  | cons d r ih =>
    intro n h1 h2
    rw [List.reverse_cons] at h1 h2 ⊢
    rw [numL_app] at h2
    cases hm : numL r.reverse 0 with
    | none => rw [hm] at h2; cases h2
    | some m =>
      rw [hm, Option.bind_some] at h2
      obtain ⟨i1, i2, i3⟩ := ih m (fun e t he => h1 e (t ++ [d]) (by rw [he]; rfl)) hm
      have hd : 48 ≤ (d.toNat : Int) ∧ (d.toNat : Int) ≤ 57 := by
        by_cases hc : (d.toNat : Int) < 48 ∨ 57 < (d.toNat : Int)
        · rw [numL, if_pos hc] at h2; cases h2
        · omega
      rw [numL, if_neg (by omega)] at h2
      have hn : n = 10 * m + ((d.toNat : Int) - 48) := by simpa [numL] using h2.symm
      have hpos : 0 < n := by
        by_cases hr : r = []
        · have := h1 d [] (by rw [hr]; rfl)
          omega
        · have := i3 hr
          omega
      refine ⟨by omega, ?_, fun _ => hpos⟩
      have e1 : n.toNat / 10 = m.toNat := by omega
      have e2 : 48 + n.toNat % 10 = d.toNat := by omega
      rw [decR_step n.toNat (by omega), e1, e2, i2]
      simp
/-- What is read of a text is written so. -/
theorem text_read {l : List UInt8} (h : readE l = 0) : textL (readI l) = l := by
  rcases of_ie' l with ⟨-, -, v1, v2, hi⟩ | ⟨h', -⟩
  · -- the digits say txV l, none of them is left out
    have hd : Lib.trimPrefix l [45] = decR (txV l).toNat := by
      have hv : rdL (Lib.trimPrefix l [45]) 0 0 = txV l := rfl
      cases ht : Lib.trimPrefix l [45] with
      | nil => rw [ht] at hv; rw [← hv] at v1; exact absurd v1 (by decide)
      | cons d r =>
        rw [ht] at hv
        by_cases h1 : (d.toNat : Int) < 48 ∨ 57 < (d.toNat : Int)
        · rw [rdL, if_pos h1] at hv; omega
        · by_cases h0 : (d.toNat : Int) = 48
          · rw [rdL, if_neg h1, if_pos ⟨h0, rfl⟩] at hv; omega
          · have e1 : rdL (d :: r) 0 0 = rdL r ((d.toNat : Int) - 48) 1 := by
              rw [rdL, if_neg h1, if_neg (by omega), if_neg (by omega)]; simp
            have e2 : numL (d :: r) 0 = numL r ((d.toNat : Int) - 48) := by rw [numL, if_neg h1]; simp
            obtain ⟨i1, i2⟩ := rd_num r ((d.toNat : Int) - 48) 1 (by omega) (by omega)
            rw [e1] at hv
            cases hn : numL r ((d.toNat : Int) - 48) with
            | none => rcases i2 hn with h | h <;> omega
            | some n =>
              obtain ⟨j1, j2, j3⟩ := i1 n hn
              have hnv : n = txV l := by
                by_cases hm : n ≤ 1048576
                · rw [← hv, j2 hm]
                · have := j3 (by omega); omega
              rw [hn] at e2
              have := dec_of_num (d :: r) n (fun d' r' e => by injection e with e _; rw [← e]; exact h0) e2
              rw [this.2, hnv]
    rw [hi]
    cases hp : txN l
    · have e1 : l = decR (txV l).toNat := by
        have : Lib.trimPrefix l [45] = l := by unfold Lib.trimPrefix; rw [show Lib.hasPrefix l [45] = false from hp]; rfl
        rw [← hd, this]
      rw [if_neg (by decide), textL, if_pos (litB_yes (by omega) (by omega) (by omega)), Lib.itoa, if_neg (by omega), ← decR_pos _ (by omega)]
      exact e1.symm
    · have e1 : l = 45 :: decR (txV l).toNat := by
        have hh : Lib.hasPrefix l [45] = true := hp
        have : Lib.trimPrefix l [45] = l.drop 1 := by unfold Lib.trimPrefix; rw [hh]; rfl
        rw [this] at hd
        cases l with
        | nil => cases hh
        | cons d r =>
          have h45 : d = 45 := by
            have : ((45 == d) && List.isPrefixOf [] r) = true := hh
            have := (Bool.and_eq_true _ _ ▸ this).1
            exact (beq_iff_eq.1 this).symm
          subst h45
          rw [← hd]; simp
      rw [if_pos rfl, textL, if_pos (litB_yes (by omega) (by omega) (by omega)), Lib.itoa, if_pos (by omega)]
      have e2 : (-(txV l)).natAbs = (txV l).toNat := by omega
      rw [e2, ← decR_pos _ (by omega)]
      exact e1.symm
  · omega
end Go.Proofs.YtjipmjimggggbaaDoor
