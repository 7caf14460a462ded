/- What LitsVars says of lists of numbers. -/
import Derived.Test.YtjipmjimggggbaaDoorVarsParts
namespace Go.Proofs.YtjipmjimggggbaaDoor.litsVars
open Go.Lib

theorem compact_sorted (zs : List Int) (hs : ∀ i j, i ≤ j → j < zs.length → zs.toArray[i]! ≤ zs.toArray[j]!) :
    ∀ m, m ≤ zs.length → (compactUpTo zs.toArray m).Pairwise (· < ·) ∧ ∀ x, x ∈ compactUpTo zs.toArray m ↔ ∃ j, j < m ∧ zs.toArray[j]! = x := by
  intro m
  induction m with
  | zero => intro _; exact ⟨by simp [compactUpTo], fun x => ⟨(fun h => by simp [compactUpTo] at h), fun ⟨j, h, _⟩ => by omega⟩⟩
  | succ m ih =>
    intro hm
    obtain ⟨i1, i2⟩ := ih (by omega)
    rw [compactUpTo_succ]
    by_cases hk : keeps zs.toArray m = true
    · rw [if_pos hk]
      have hlt : ∀ x ∈ compactUpTo zs.toArray m, x < zs.toArray[m]! := by
        intro x hx
        obtain ⟨j, hj, rfl⟩ := (i2 x).1 hx
        have h1 := hs j (m - 1) (by omega) (by omega)
        have h2 := hs (m - 1) m (by omega) (by omega)
        have h3 : zs.toArray[m]! ≠ zs.toArray[m - 1]! := by
          have := of_decide_eq_true hk
          rcases this with h | h
          · omega
          · exact h
        omega
      refine ⟨List.pairwise_append.2 ⟨i1, List.pairwise_singleton _ _, fun x hx y hy => ?_⟩, fun x => ?_⟩
      · have : y = zs.toArray[m]! := by simpa using hy
        rw [this]
        exact hlt x hx
      · rw [List.mem_append, i2]
        constructor
        · rintro (⟨j, hj, e⟩ | h)
          · exact ⟨j, by omega, e⟩
          · exact ⟨m, by omega, (List.mem_singleton.1 h).symm⟩
        · rintro ⟨j, hj, e⟩
          by_cases hjm : j = m
          · subst hjm
            exact .inr (List.mem_singleton.2 e.symm)
          · exact .inl ⟨j, by omega, e⟩
    · rw [if_neg hk, List.append_nil]
      refine ⟨i1, fun x => ?_⟩
      rw [i2]
      constructor
      · rintro ⟨j, hj, e⟩
        exact ⟨j, by omega, e⟩
      · rintro ⟨j, hj, e⟩
        by_cases hjm : j = m
        · subst hjm
          have hn : ¬ (j = 0 ∨ zs.toArray[j]! ≠ zs.toArray[j - 1]!) := fun h => hk (decide_eq_true h)
          have h0 : j ≠ 0 := fun h => hn (.inl h)
          have h1 : zs.toArray[j]! = zs.toArray[j - 1]! := Classical.byContradiction fun h => hn (.inr h)
          exact ⟨j - 1, by omega, by rw [← h1, e]⟩
        · exact ⟨j, by omega, e⟩
theorem compact_is (zs : List Int) (hs : zs.Pairwise (· ≤ ·)) : (compact zs).Pairwise (· < ·) ∧ ∀ x, x ∈ compact zs ↔ x ∈ zs := by
  have hle : ∀ i j, i ≤ j → j < zs.length → zs.toArray[i]! ≤ zs.toArray[j]! := by
    intro i j hij hj
    have hi : i < zs.length := by omega
    rw [getElem!_pos zs.toArray i (by simpa using hi), getElem!_pos zs.toArray j (by simpa using hj), List.getElem_toArray, List.getElem_toArray]
    by_cases e : i = j
    · subst e; exact Int.le_refl _
    · exact List.pairwise_iff_getElem.1 hs i j hi hj (by omega)
  obtain ⟨h1, h2⟩ := compact_sorted zs hle zs.length (Nat.le_refl _)
  refine ⟨h1, fun x => (h2 x).trans ⟨?_, fun hx => ?_⟩⟩
  · rintro ⟨j, hj, rfl⟩
    rw [getElem!_pos zs.toArray j (by simpa using hj), List.getElem_toArray]
    exact List.getElem_mem hj
  · obtain ⟨j, hj, rfl⟩ := List.mem_iff_getElem.1 hx
    refine ⟨j, hj, ?_⟩
    rw [getElem!_pos zs.toArray j (by simpa using hj), List.getElem_toArray]
theorem sorted_le (l : List Int) : (l.mergeSort fun x y => decide (x ≤ y)).Pairwise (· ≤ ·) := by
  have h := List.pairwise_mergeSort (le := fun x y : Int => decide (x ≤ y)) (fun a b c => by simp; omega) (fun a b => by simp; omega) l
  exact h.imp fun h => of_decide_eq_true h
theorem both_is (a b : List Int) : compact ((varsL a ++ varsL b).mergeSort fun x y => decide (x ≤ y)) = varsL (a ++ b) := by
  obtain ⟨h1, h2⟩ := compact_is _ (sorted_le (varsL a ++ varsL b))
  refine sorted_ext h1 (varsL_sorted _) fun x => ?_
  rw [h2, (List.mergeSort_perm _ _).mem_iff, List.mem_append, varsL_mem, varsL_mem, varsL_mem]
  simp [vl]
theorem compact_vars (a : List Int) : compact (varsL a) = varsL a := by
  obtain ⟨h1, h2⟩ := compact_is (varsL a) ((varsL_sorted a).imp fun h => by omega)
  exact sorted_ext h1 (varsL_sorted a) h2
theorem lit_neg (x : Int) : litB (negI x) = litB x := by
  cases h : litB x
  · rw [show negI x = 0 by simp [negI, h]]; rfl
  · have := litB_of h
    rw [show negI x = -x by simp [negI, h]]
    exact litB_yes (by omega) (by omega) (by omega)
theorem var_neg (x : Int) : varI (negI x) = varI x := by
  have hl := lit_neg x
  cases h : litB x
  · rw [h] at hl
    rw [varI_no h, varI_no hl]
  · rw [h] at hl
    have hb := litB_of h
    have hn : negI x = -x := by simp [negI, h]
    unfold varI
    rw [if_pos h, if_pos hl, hn]
    split <;> split <;> omega
theorem turned_is (a : List Int) : varsL (a.map negI) = varsL a := by
  refine sorted_ext (varsL_sorted _) (varsL_sorted _) fun x => ?_
  rw [varsL_mem, varsL_mem]
  suffices h : vl (a.map negI) = vl a by rw [h]
  induction a with
  | nil => rfl
  | cons y a ih =>
    unfold vl at ih ⊢
    rw [List.map_cons, List.filter_cons, List.filter_cons, lit_neg]
    split
    · rw [List.map_cons, List.map_cons, var_neg, ih]
    · exact ih
theorem maxL_is (l : List Int) : (∀ x ∈ l, x ≤ maxL l) ∧ 0 ≤ maxL l ∧ (maxL l = 0 ∨ maxL l ∈ l) := by
  suffices hs : ∀ r : List Int, (∀ x ∈ r.reverse, x ≤ maxL r.reverse) ∧ 0 ≤ maxL r.reverse ∧ (maxL r.reverse = 0 ∨ maxL r.reverse ∈ r.reverse) by have := hs l.reverse; rwa [List.reverse_reverse] at this
  intro r
  induction r with
  | nil => exact ⟨(fun x hx => by cases hx), Int.le_refl _, .inl rfl⟩
  | cons y r ih =>
    obtain ⟨h1, h2, h3⟩ := ih
    rw [List.reverse_cons, maxL_snoc]
    refine ⟨fun x hx => ?_, by omega, ?_⟩
    · rcases List.mem_append.1 hx with hx | hx
      · have := h1 x hx; omega
      · have : x = y := by simpa using hx
        omega
    · by_cases hm : maxL r.reverse ≤ y
      · rw [show max (maxL r.reverse) y = y by omega]
        exact .inr (List.mem_append.2 (.inr (by simp)))
      · rw [show max (maxL r.reverse) y = maxL r.reverse by omega]
        rcases h3 with h | h
        · exact .inl h
        · exact .inr (List.mem_append.2 (.inl h))
theorem greatest_none (a : List Int) (h : (varsL a).length = 0) : maxL (vl a) = 0 := by
  have hv : varsL a = [] := List.eq_nil_of_length_eq_zero h
  rcases (maxL_is (vl a)).2.2 with h | h
  · exact h
  · have := (varsL_mem a _).2 h
    rw [hv] at this
    cases this
theorem greatest_last (a : List Int) (m : Nat) (h : (varsL a).length = m + 1) : maxL (vl a) = (varsL a)[m]?.getD 0 := by
  have hm : m < (varsL a).length := by omega
  have hin : (varsL a)[m] ∈ vl a := (varsL_mem a _).1 (List.getElem_mem hm)
  rw [List.getElem?_eq_getElem hm]
  show maxL (vl a) = (varsL a)[m]
  obtain ⟨h1, h2, h3⟩ := maxL_is (vl a)
  have hle := h1 _ hin
  have hp := vl_pos hin
  rcases h3 with h0 | hmem
  · omega
  · obtain ⟨j, hj, e⟩ := List.mem_iff_getElem.1 ((varsL_mem a _).2 hmem)
    by_cases hjm : j = m
    · subst hjm; exact e.symm
    · have := List.pairwise_iff_getElem.1 (varsL_sorted a) j m hj hm (by omega)
      omega
end Go.Proofs.YtjipmjimggggbaaDoor.litsVars
