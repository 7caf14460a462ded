/- What a text is split into at a byte: the mathematics of strings.SplitSeq and strings.Split. -/
import Derived.Lib.IndexLaws
import Derived.Lib.IndexBytes
namespace Go.Proofs.YticcgmegimiegaaGreatDoor

/-- The pieces of a text between the bytes c. -/
def segs (c : UInt8) : List UInt8 → List (List UInt8)
  | [] => [[]]
  | b :: l => if b = c then [] :: segs c l else match segs c l with
    | [] => [[b]]
    | h :: t => (b :: h) :: t
theorem segs_ne (c : UInt8) (l : List UInt8) : segs c l ≠ [] := by
  cases l with
  | nil => simp [segs]
  | cons b l =>
    unfold segs
    split
    · simp
    · split <;> simp
theorem segs_pos (c : UInt8) (l : List UInt8) : 1 ≤ (segs c l).length := by
  have := segs_ne c l
  cases h : segs c l with
  | nil => exact absurd h this
  | cons a b => simp
theorem segs_miss {c : UInt8} : ∀ {l : List UInt8}, c ∉ l → segs c l = [l]
  | [], _ => rfl
  | b :: l, h => by
    have h1 : b ≠ c := fun e => h (by simp [e])
    have h2 : c ∉ l := fun e => h (List.mem_cons_of_mem _ e)
    unfold segs
    rw [if_neg h1, segs_miss h2]
theorem segs_hit {c : UInt8} : ∀ {a : List UInt8} (r : List UInt8), c ∉ a → segs c (a ++ c :: r) = a :: segs c r
  | [], r, _ => by simp [segs]
  | b :: a, r, h => by
    have h1 : b ≠ c := fun e => h (by simp [e])
    have h2 : c ∉ a := fun e => h (List.mem_cons_of_mem _ e)
    rw [List.cons_append, segs, if_neg h1, segs_hit r h2]
theorem segs_le (c : UInt8) : ∀ (l : List UInt8), (segs c l).length ≤ l.length + 1
  | [] => by simp [segs]
  | b :: l => by
    have := segs_le c l
    unfold segs
    split
    · simp; omega
    · split
      · simp
      · rename_i h t e
        rw [e] at this
        simp at this ⊢; omega
/-- A piece has no such byte. -/
theorem segs_free {c : UInt8} : ∀ {l : List UInt8} {x : List UInt8}, x ∈ segs c l → c ∉ x
  | [], x, h => by simp [segs] at h; subst h; simp
  | b :: l, x, h => by
    unfold segs at h
    split at h
    · rcases List.mem_cons.1 h with rfl | h
      · simp
      · exact segs_free h
    · rename_i hb
      split at h
      · obtain rfl : x = [b] := by simpa using h
        simp; exact fun e => hb e.symm
      · rename_i y t e
        rcases List.mem_cons.1 h with rfl | h
        · have : c ∉ y := segs_free (l := l) (by rw [e]; simp)
          simp
          exact ⟨fun e => hb e.symm, this⟩
        · exact segs_free (l := l) (by rw [e]; exact List.mem_cons_of_mem _ h)
/-- Pieces are no longer than the text. -/
theorem segs_short {c : UInt8} : ∀ {l : List UInt8} {x : List UInt8}, x ∈ segs c l → x.length ≤ l.length
  | [], x, h => by simp [segs] at h; subst h; simp
  | b :: l, x, h => by
    unfold segs at h
    split at h
    · rcases List.mem_cons.1 h with rfl | h
      · simp
      · have := segs_short h; simp; omega
    · split at h
      · obtain rfl : x = [b] := by simpa using h
        simp
      · rename_i y t e
        rcases List.mem_cons.1 h with rfl | h
        · have : y.length ≤ l.length := segs_short (l := l) (by rw [e]; simp)
          simp; omega
        · have : x.length ≤ l.length := segs_short (l := l) (by rw [e]; exact List.mem_cons_of_mem _ h)
          simp; omega
/-- Texts that are put together with c between them are split into themselves. -/
theorem segs_cat {c : UInt8} : ∀ (ls : List (List UInt8)) (r : List UInt8), (∀ x ∈ ls, c ∉ x) → segs c ((ls.map (· ++ [c])).flatten ++ r) = ls ++ segs c r
  | [], r, _ => by simp
  | a :: ls, r, h => by
    have h1 := segs_cat ls r (fun x hx => h x (List.mem_cons_of_mem _ hx))
    have h2 : c ∉ a := h a (by simp)
    have : ((((a :: ls).map (· ++ [c])).flatten) ++ r) = a ++ c :: ((ls.map (· ++ [c])).flatten ++ r) := by simp
    rw [this, segs_hit _ h2, h1]
    rfl
/-- Where the byte stands first. -/
theorem split_at {s : List UInt8} {c : UInt8} {i : Nat} (h : Lib.index s [c] = i) : i < s.length ∧ c ∉ s.take i ∧ s = s.take i ++ c :: s.drop (i + 1) := by
  rw [Lib.index_one] at h
  obtain ⟨h1, h2⟩ := Lib.indexByte_some h
  have hl := (List.getElem?_eq_some_iff.1 h1).1
  refine ⟨hl, fun hm => ?_, ?_⟩
  · obtain ⟨k, hk, he⟩ := List.mem_iff_getElem.1 hm
    rw [List.length_take] at hk
    refine h2 k (by omega) ?_
    rw [List.getElem_take] at he
    rw [List.getElem?_eq_getElem (by omega), he]
  · have e : s[i] = c := by
      have := h1
      rw [List.getElem?_eq_getElem hl] at this
      exact Option.some.inj this
    conv => lhs; rw [← List.take_append_drop i s]
    rw [List.drop_eq_getElem_cons hl, e]
theorem split_no {s : List UInt8} {c : UInt8} (h : Lib.index s [c] = -1) : c ∉ s := fun hm => by
  rw [Lib.index_one] at h
  obtain ⟨k, hk, he⟩ := List.mem_iff_getElem.1 hm
  exact Lib.indexByte_none h k (by rw [List.getElem?_eq_getElem hk, he])
theorem index_cases (s : List UInt8) (c : UInt8) : Lib.index s [c] = -1 ∨ ∃ i : Nat, Lib.index s [c] = i := by
  have h := Lib.index_ge s [c]
  by_cases h0 : Lib.index s [c] = -1
  · exact .inl h0
  · exact .inr ⟨(Lib.index s [c]).toNat, by omega⟩
end Go.Proofs.YticcgmegimiegaaGreatDoor
