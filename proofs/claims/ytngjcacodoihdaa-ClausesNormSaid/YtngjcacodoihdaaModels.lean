/- The models that hold a clause, counted. -/
import Derived.Test.YtngjcacodoihdaaClMath
namespace Go.Proofs.Ytngjcacodoihdaa
open Go.RowKit Go.ChangeAt Go.ChangeShapes Go.WideShapes

/-- The bit of a model. -/
theorem mbit_is : ∀ n : Nat, n < 256 → ∀ k : Nat, k < 8 → mbit n k = n.testBit k := by
  have : ((List.range 256).all fun n => (List.range 8).all fun k => mbit n k == n.testBit k) = true := by decide +kernel
  intro n hn k hk
  have h1 := List.all_eq_true.1 this n (List.mem_range.2 hn)
  have h2 := List.all_eq_true.1 h1 k (List.mem_range.2 hk)
  exact beq_iff_eq.1 h2
theorem bits_of (f : Nat → Bool) : ∀ n : Nat, ∃ m : Nat, m < 2 ^ n ∧ ∀ k, k < n → m.testBit k = f k
  | 0 => ⟨0, by decide, fun k hk => by omega⟩
  | n + 1 => by
    obtain ⟨m, hm, h⟩ := bits_of f n
    cases hf : f n
    · refine ⟨m, by rw [Nat.pow_succ]; omega, fun k hk => ?_⟩
      by_cases e : k = n
      · subst e; rw [Nat.testBit_lt_two_pow hm, hf]
      · exact h k (by omega)
    · refine ⟨2 ^ n + m, by rw [Nat.pow_succ]; omega, fun k hk => ?_⟩
      by_cases e : k = n
      · subst e; rw [Nat.testBit_two_pow_add_eq, Nat.testBit_lt_two_pow hm, hf]; rfl
      · rw [Nat.testBit_two_pow_add_gt (by omega)]; exact h k (by omega)
theorem mem_model {n : Int} {x : Int} : x ∈ modelL n ↔ ∃ k, k < 8 ∧ mlit n k = x := by
  unfold modelL
  rw [List.mem_map]
  constructor
  · rintro ⟨k, hk, e⟩; exact ⟨k, List.mem_range.1 hk, e⟩
  · rintro ⟨k, hk, e⟩; exact ⟨k, List.mem_range.2 hk, e⟩
/-- For each choice of signs there is a model. -/
theorem model_of (f : Nat → Bool) : ∃ n : Nat, n < 256 ∧ ∀ k, k < 8 → mlit n k = if f k then -((k : Int) + 1) else (k : Int) + 1 := by
  obtain ⟨m, hm, h⟩ := bits_of f 8
  refine ⟨m, hm, fun k hk => ?_⟩
  unfold mlit
  rw [mbit_is m hm k hk, h k hk]
theorem model_has {n : Int} {v : Int} (h0 : 1 ≤ v) (h1 : v ≤ 8) : v ∈ modelL n ∨ -v ∈ modelL n := by
  have hk : (v - 1).toNat < 8 := by omega
  have e : (((v - 1).toNat : Nat) : Int) + 1 = v := by omega
  by_cases hb : mbit n (v - 1).toNat = true
  · exact .inr (mem_model.2 ⟨_, hk, by unfold mlit; rw [if_pos hb, e]⟩)
  · exact .inl (mem_model.2 ⟨_, hk, by unfold mlit; rw [if_neg hb, e]⟩)
def cnt (c : List Int) (k : Nat) : Nat := ((List.range k).filter fun j : Nat => holdsB c (modelL j)).length
theorem cnt_step (c : List Int) (k : Nat) : cnt c (k + 1) = if holdsB c (modelL k) then cnt c k + 1 else cnt c k := by
  unfold cnt
  rw [List.range_succ, List.filter_append]
  split <;> rename_i h
  · simp [h]
  · simp [h]
theorem cnt_le (c : List Int) (k : Nat) : cnt c k ≤ k := by
  unfold cnt
  have := List.length_filter_le (fun j : Nat => holdsB c (modelL j)) (List.range k)
  rw [List.length_range] at this
  exact this
theorem cnt_all {c : List Int} (hc : ∀ x ∈ c, ∃ v : Int, 1 ≤ v ∧ v ≤ 8 ∧ (x = v ∨ x = -v)) (h : alwB c = true) : cnt c 256 = 256 := by
  obtain ⟨x, hx, hx'⟩ := alwB_iff.1 h
  obtain ⟨v, h0, h1, e⟩ := hc x hx
  have hv : v ∈ c ∧ -v ∈ c := by
    rcases e with rfl | rfl
    · exact ⟨hx, hx'⟩
    · rw [Int.neg_neg] at hx'; exact ⟨hx', hx⟩
  unfold cnt
  rw [List.filter_eq_self.2, List.length_range]
  intro j _
  rcases model_has (n := j) h0 h1 with h' | h'
  · exact holdsB_iff.2 ⟨_, h', hv.1⟩
  · exact holdsB_iff.2 ⟨_, h', hv.2⟩
theorem cnt_some {c : List Int} {n : Nat} (hn : n < 256) (h : holdsB c (modelL n) = true) : cnt c 256 ≠ 0 := by
  unfold cnt
  intro e
  have := List.eq_nil_of_length_eq_zero e
  have hm : n ∈ (List.range 256).filter fun j : Nat => holdsB c (modelL j) := List.mem_filter.2 ⟨List.mem_range.2 hn, h⟩
  rw [this] at hm
  cases hm
theorem cnt_none {c : List Int} {n : Nat} (hn : n < 256) (h : holdsB c (modelL n) = false) : cnt c 256 ≠ 256 := by
  unfold cnt
  intro e
  have hs := List.filter_eq_self.1 (List.Sublist.eq_of_length (List.filter_sublist (p := fun j : Nat => holdsB c (modelL j)) (l := List.range 256)) (by rw [e, List.length_range]))
  have := hs n (List.mem_range.2 hn)
  rw [h] at this
  cases this
theorem cnt_not {c : List Int} (h : alwB c = false) : cnt c 256 ≠ 256 := by
  obtain ⟨n, hn, hf⟩ := model_of fun k => hasB c ((k : Int) + 1)
  refine cnt_none hn ?_
  cases hh : holdsB c (modelL n)
  · rfl
  · obtain ⟨x, hx, hxc⟩ := holdsB_iff.1 hh
    obtain ⟨k, hk, e⟩ := mem_model.1 hx
    rw [hf k hk] at e
    split at e <;> rename_i hq
    · have h1 := hasB_iff.1 hq
      subst e
      rw [alwB_iff.2 ⟨_, h1, hxc⟩] at h
      cases h
    · subst e
      exact absurd (hasB_iff.2 hxc) hq
theorem cnt_pos {c : List Int} (hc : ∀ x ∈ c, ∃ v : Int, 1 ≤ v ∧ v ≤ 8 ∧ (x = v ∨ x = -v)) {x : Int} (h : x ∈ c) : cnt c 256 ≠ 0 := by
  obtain ⟨v, h0, h1, e⟩ := hc x h
  have hk : (v - 1).toNat < 8 := by omega
  have ev : (((v - 1).toNat : Nat) : Int) + 1 = v := by omega
  rcases e with rfl | rfl
  · obtain ⟨n, hn, hf⟩ := model_of fun _ => false
    exact cnt_some hn (holdsB_iff.2 ⟨_, mem_model.2 ⟨_, hk, by rw [hf _ hk, if_neg (by decide), ev]⟩, h⟩)
  · obtain ⟨n, hn, hf⟩ := model_of fun _ => true
    exact cnt_some hn (holdsB_iff.2 ⟨_, mem_model.2 ⟨_, hk, by rw [hf _ hk, if_pos rfl, ev]⟩, h⟩)
theorem cnt_nil : ∀ k, cnt [] k = 0 := fun k => by
  unfold cnt
  rw [List.filter_eq_nil_iff.2, List.length_nil]
  intro j _ h
  obtain ⟨x, _, hx⟩ := holdsB_iff.1 h
  cases hx
end Go.Proofs.Ytngjcacodoihdaa
