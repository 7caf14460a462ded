/- The order of clauses, and what holds them: the mathematics of the laws of layer 2. -/
import Derived.Test.YtgoflapolglfcaaGreatMade02
import Derived.Test.YtgoflapolglfcaaGreatRefCmp
namespace Go.Proofs.YtgoflapolglfcaaGreat
open Go.ChangeShapes Go.WideShapes Go.ChangeAt Go.RowKit

theorem madeL_len (zs : List Int) : (madeL zs).length ≤ 20 := by unfold madeL; rw [List.length_map, List.length_take]; omega
theorem madeL_lit {zs : List Int} {x : Int} (h : x ∈ madeL zs) : ∃ v : Int, 1 ≤ v ∧ v ≤ 8 ∧ (x = v ∨ x = -v) := by
  unfold madeL at h
  obtain ⟨n, -, rfl⟩ := List.mem_map.1 h
  exact madeU_is n
theorem lit8 {x : Int} (h : ∃ v : Int, 1 ≤ v ∧ v ≤ 8 ∧ (x = v ∨ x = -v)) : litB x = true := by
  obtain ⟨v, h1, h2, e⟩ := h
  exact litB_yes (by omega) (by omega) (by omega)
theorem madeL_litB {zs : List Int} : ∀ x ∈ madeL zs, litB x = true := fun _ h => lit8 (madeL_lit h)
theorem madeL_right (zs : List Int) : rightB (madeL zs) = true := rightB_mk (by have := madeL_len zs; omega) madeL_litB
theorem right_app {xs ys : List Int} (h : rightB xs = true) (k : rightB ys = true) (hl : xs.length + ys.length ≤ 4096) : rightB (xs ++ ys) = true :=
  rightB_mk (by rw [List.length_append]; exact hl) (fun x hx => by
    rcases List.mem_append.1 hx with h' | h'
    · exact (rightB_of h).2 x h'
    · exact (rightB_of k).2 x h')
theorem manyE_few {xs : List Int} (h : xs.length ≤ 4096) : manyE xs = 0 := by
  unfold manyE; rw [if_neg (by have := norm_length xs; omega)]
theorem manyL_few {xs : List Int} (h : xs.length ≤ 4096) : manyL xs = normL xs := by
  unfold manyL; rw [if_neg (by have := norm_length xs; omega)]
theorem norm_right {xs : List Int} (h : rightB xs = true) : rightB (normL xs) = true :=
  rightB_mk (by have := norm_length xs; have := (rightB_of h).1; omega) (norm_lit (rightB_of h).2)

theorem cmpLL_flip : ∀ xs ys : List Int, cmpLL ys xs = -cmpLL xs ys
  | [], [] => rfl
  | [], _ :: _ => rfl
  | _ :: _, [] => rfl
  | a :: x, b :: y => by
    have := compareI_flip a b
    rw [cmpLL, cmpLL]
    by_cases h : compareI a b = 0
    · rw [if_pos h, if_pos (by omega), cmpLL_flip x y]
    · rw [if_neg h, if_neg (by omega)]; omega
theorem cmpLL_vals : ∀ xs ys : List Int, cmpLL xs ys = -1 ∨ cmpLL xs ys = 0 ∨ cmpLL xs ys = 1
  | [], [] => .inr (.inl rfl)
  | [], _ :: _ => .inl rfl
  | _ :: _, [] => .inr (.inr rfl)
  | a :: x, b :: y => by
    rw [cmpLL]
    split
    · exact cmpLL_vals x y
    · exact compareI_vals a b
theorem compareI_trans {a b c : Int} (h : compareI a b ≤ 0) (k : compareI b c ≤ 0) : compareI a c ≤ 0 ∧ (compareI a c = 0 → compareI a b = 0 ∧ compareI b c = 0) := by
  rcases compareI_vals a b with e | e | e
  · rcases compareI_vals b c with f | f | f
    · have := compareI_neg.2 (ltI_trans (compareI_neg.1 e) (compareI_neg.1 f))
      omega
    · have := compareI_zero.1 f
      subst this
      omega
    · omega
  · have := compareI_zero.1 e
    subst this
    exact ⟨k, fun h' => ⟨e, h'⟩⟩
  · omega
theorem cmpLL_trans : ∀ {xs ys zs : List Int}, cmpLL xs ys ≤ 0 → cmpLL ys zs ≤ 0 → cmpLL xs zs ≤ 0
  | [], [], _, _, k => k
  | [], _ :: _, [], _, k => by rw [cmpLL] at k; omega
  | [], _ :: _, _ :: _, _, _ => by rw [cmpLL]; omega
  | _ :: _, [], _, h, _ => by rw [cmpLL] at h; omega
  | _ :: _, _ :: _, [], _, k => by rw [cmpLL] at k; omega
  | a :: x, b :: y, c :: z, h, k => by
    rw [cmpLL] at h k ⊢
    by_cases e : compareI a b = 0
    · rw [if_pos e] at h
      have := compareI_zero.1 e
      subst this
      by_cases f : compareI a c = 0
      · rw [if_pos f] at k ⊢
        exact cmpLL_trans h k
      · rw [if_neg f] at k ⊢
        exact k
    · rw [if_neg e] at h
      by_cases f : compareI b c = 0
      · have := compareI_zero.1 f
        subst this
        rw [if_neg e]
        exact h
      · rw [if_neg f] at k
        have := compareI_trans h k
        rw [if_neg (fun h' => e (this.2 h').1)]
        exact this.1
theorem clCmp_flip (xs ys : List Int) : clCmp ys xs = -clCmp xs ys := by
  unfold clCmp
  by_cases h : (normL xs).length < (normL ys).length
  · rw [if_neg (by omega), if_pos h, if_pos h]; rfl
  · by_cases k : (normL ys).length < (normL xs).length
    · rw [if_pos k, if_neg h, if_pos k]
    · rw [if_neg k, if_neg h, if_neg h, if_neg k, cmpLL_flip]
theorem clCmp_vals (xs ys : List Int) : clCmp xs ys = -1 ∨ clCmp xs ys = 0 ∨ clCmp xs ys = 1 := by
  unfold clCmp
  split
  · exact .inl rfl
  · split
    · exact .inr (.inr rfl)
    · exact cmpLL_vals _ _
theorem clCmp_trans {xs ys zs : List Int} (h : clCmp xs ys ≤ 0) (k : clCmp ys zs ≤ 0) : clCmp xs zs ≤ 0 := by
  have hl : ∀ {a b : List Int}, clCmp a b ≤ 0 → (normL a).length < (normL b).length ∨ ((normL a).length = (normL b).length ∧ cmpLL (normL a) (normL b) ≤ 0) := by
    intro a b h
    unfold clCmp at h
    split at h
    · exact .inl ‹_›
    · split at h
      · omega
      · exact .inr ⟨by omega, h⟩
  unfold clCmp
  rcases hl h with h1 | ⟨h1, h2⟩
  · rcases hl k with k1 | ⟨k1, k2⟩
    · rw [if_pos (by omega)]; omega
    · rw [if_pos (by omega)]; omega
  · rcases hl k with k1 | ⟨k1, k2⟩
    · rw [if_pos (by omega)]; omega
    · rw [if_neg (by omega), if_neg (by omega)]
      exact cmpLL_trans h2 k2
theorem clCmp_norm (xs ys : List Int) : clCmp (normL xs) (normL ys) = clCmp xs ys := by unfold clCmp; rw [norm_norm, norm_norm]
theorem clCmp_less {xs ys : List Int} (h : (normL xs).length < (normL ys).length) : clCmp xs ys = -1 := by unfold clCmp; rw [if_pos h]
theorem clCmp_one {xs ys : List Int} (h : clCmp xs ys = 1) : (normL ys).length ≤ (normL xs).length := by
  unfold clCmp at h
  split at h
  · cases h
  · omega
theorem clCmp_nil {xs ys : List Int} (h : clCmp xs ys = 0) : (normL ys).length = (normL xs).length := by
  unfold clCmp at h
  split at h
  · cases h
  · split at h
    · cases h
    · omega

/-- What a literal more, or less, makes of a clause. -/
theorem less_has (c : List Int) (l : Int) : hasB (normL (lessL c l)) l = false := hasB_no fun h => (lessL_mem.1 (norm_mem.1 h)).2 rfl
theorem less_with (c : List Int) (l : Int) : withB (normL (lessL c l)) c = true := withB_iff.2 fun _ h => (lessL_mem.1 (norm_mem.1 h)).1
theorem less_back (c : List Int) (l : Int) : normL (normL (lessL c l) ++ [l]) = normL (c ++ [l]) := norm_congr fun x => by
  rw [List.mem_append, List.mem_append, norm_mem, lessL_mem, List.mem_singleton]
  constructor
  · rintro (⟨h, -⟩ | h)
    · exact .inl h
    · exact .inr h
  · rintro (h | h)
    · by_cases e : x = l
      · exact .inr e
      · exact .inl ⟨h, e⟩
    · exact .inr h
theorem less_same (c : List Int) (l : Int) : withB c (normL (lessL c l)) = !hasB c l := by
  cases h : hasB c l
  · refine withB_iff.2 fun x hx => norm_mem.2 (lessL_mem.2 ⟨hx, ?_⟩)
    rintro rfl
    rw [hasB_iff.2 hx] at h
    cases h
  · exact withB_no (hasB_iff.1 h) (less_has c l)
theorem less_in {c : List Int} {l x : Int} (h : x ∈ c) (hne : x ≠ l) : hasB (normL (lessL c l)) x = true := hasB_iff.2 (norm_mem.2 (lessL_mem.2 ⟨h, hne⟩))
end Go.Proofs.YtgoflapolglfcaaGreat
