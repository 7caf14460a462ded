/- What comes of an arena that changes once while it is walked. -/
import Derived.Test.YtjkhhnfmefbohaaLawUse
namespace Go.Proofs.Ytjkhhnfmefbohaa

def yF (zss : List (List Int)) (i : Nat) : Int × List Int := (2 * (i : Int) + 1, madeL (zss[i]?.getD []))
def yZ : Int × List Int := (1000, [5])
def yMid (zss : List (List Int)) (n a g : Nat) : List (Int × List Int) := ((List.range n).filter fun i => decide (i ≤ a ∨ i ≠ g)).map (yF zss)
/-- All that comes. -/
def yM (zss : List (List Int)) (n a g : Nat) : List (Int × List Int) := if a < n then yMid zss n a g ++ [yZ] else putL zss n
/-- What is there behind the change. -/
def yN (zss : List (List Int)) (n g : Nat) : List (Int × List Int) := (putL zss n).filter (fun p => decide (p.1 ≠ 2 * (g : Int) + 1)) ++ [yZ]
def yL (zss : List (List Int)) (n a g : Nat) (xs : List (Int × List Int)) : List (Int × List Int) := if xs.length ≤ a then putL zss n else yN zss n g
theorem putL_map (zss : List (List Int)) (n : Nat) : putL zss n = (List.range n).map (yF zss) := rfl
theorem putL_take (zss : List (List Int)) {k n : Nat} (h : k ≤ n) : (putL zss n).take k = putL zss k := by
  rw [putL_map, ← List.map_take, List.take_range, Nat.min_eq_left h]; rfl
theorem yF_lt {zss : List (List Int)} {l : List Nat} (h : l.Pairwise (· < ·)) : (l.map (yF zss)).Pairwise fun a b => a.1 < b.1 :=
  List.pairwise_map.2 (h.imp fun h => by show 2 * _ + 1 < 2 * _ + 1; omega)
theorem putL_inc (zss : List (List Int)) (n : Nat) : (putL zss n).Pairwise fun a b => a.1 < b.1 := yF_lt List.pairwise_lt_range
theorem putL_pos (zss : List (List Int)) (n : Nat) : ∀ p ∈ putL zss n, 1 ≤ p.1 := fun p hp => by
  obtain ⟨i, -, h, -⟩ := putL_id hp
  omega
theorem yMid_mem {zss : List (List Int)} {n a g : Nat} {p : Int × List Int} (h : p ∈ yMid zss n a g) : ∃ i, i < n ∧ p = yF zss i := by
  obtain ⟨i, hi, rfl⟩ := List.mem_map.1 h
  exact ⟨i, List.mem_range.1 (List.mem_filter.1 hi).1, rfl⟩
theorem yM_mem {zss : List (List Int)} {n a g : Nat} {p : Int × List Int} (h : p ∈ yM zss n a g) : p = yZ ∨ ∃ i, i < n ∧ p = yF zss i := by
  unfold yM at h
  split at h
  · rcases List.mem_append.1 h with h | h
    · exact .inr (yMid_mem h)
    · exact .inl (List.mem_singleton.1 h)
  · obtain ⟨i, hi, rfl⟩ := List.mem_map.1 h
    exact .inr ⟨i, List.mem_range.1 hi, rfl⟩
theorem yM_inc (zss : List (List Int)) {n : Nat} (a g : Nat) (hn : n ≤ 60) : (yM zss n a g).Pairwise fun a b => a.1 < b.1 := by
  unfold yM
  split
  · refine List.pairwise_append.2 ⟨yF_lt (List.pairwise_lt_range.filter _), List.pairwise_singleton .., fun p hp q hq => ?_⟩
    obtain ⟨i, hi, rfl⟩ := yMid_mem hp
    rw [List.mem_singleton.1 hq]
    show 2 * (i : Int) + 1 < 1000
    omega
  · exact putL_inc zss n
theorem yM_pos {zss : List (List Int)} {n a g : Nat} : ∀ p ∈ yM zss n a g, 1 ≤ p.1 := fun p hp => by
  rcases yM_mem hp with rfl | ⟨i, -, rfl⟩
  · decide
  · show 1 ≤ 2 * (i : Int) + 1
    omega
theorem yMid_len (zss : List (List Int)) (n a g : Nat) : (yMid zss n a g).length ≤ n := by
  unfold yMid
  rw [List.length_map]
  exact Nat.le_trans (List.length_filter_le _ _) (by rw [List.length_range]; omega)
theorem yM_len (zss : List (List Int)) (n a g : Nat) : (yM zss n a g).length ≤ n + 1 := by
  unfold yM
  split
  · rw [List.length_append]; have := yMid_len zss n a g; simp; omega
  · rw [putL_len]; omega
theorem yMid_front (zss : List (List Int)) {n a g : Nat} (h : a < n) : ∃ r, yMid zss n a g = putL zss (a + 1) ++ r := by
  refine ⟨(((List.range n).drop (a + 1)).filter fun i => decide (i ≤ a ∨ i ≠ g)).map (yF zss), ?_⟩
  unfold yMid
  conv => lhs; rw [← List.take_append_drop (a + 1) (List.range n)]
  rw [List.filter_append, List.map_append, List.take_range, Nat.min_eq_left (by omega : a + 1 ≤ n), putL_map]
  congr 2
  refine List.filter_eq_self.2 fun i hi => decide_eq_true (.inl ?_)
  have := List.mem_range.1 hi
  omega
theorem yM_take (zss : List (List Int)) {n a g k : Nat} (h : a < n) (hk : k ≤ a + 1) : (yM zss n a g).take k = putL zss k := by
  obtain ⟨r, hr⟩ := yMid_front (g := g) zss h
  unfold yM
  rw [if_pos h, hr, List.append_assoc, List.take_append_of_le_length (by rw [putL_len]; exact hk), putL_take zss hk]
theorem yM_long (zss : List (List Int)) {n a g : Nat} (h : a < n) : a + 2 ≤ (yM zss n a g).length := by
  obtain ⟨r, hr⟩ := yMid_front (g := g) zss h
  unfold yM
  rw [if_pos h, hr, List.length_append, List.length_append, putL_len, List.length_singleton]
  omega
/-- Behind the change the same comes next. -/
theorem yN_next (zss : List (List Int)) {n a g : Nat} (h : a < n) {p : Int} (hp : 2 * (a : Int) + 1 ≤ p) : nextOf (yN zss n g) p = nextOf (yM zss n a g) p := by
  unfold nextOf
  rw [← List.head?_filter, ← List.head?_filter]
  congr 1
  unfold yN yM yMid
  rw [if_pos h, putL_map, List.filter_append, List.filter_append, List.filter_map, List.filter_map, List.filter_map, List.filter_filter, List.filter_filter]
  congr 2
  refine List.filter_congr fun i _ => ?_
  rw [Bool.eq_iff_iff]
  simp only [Function.comp_apply, yF, Bool.and_eq_true, decide_eq_true_eq]
  constructor
  · rintro ⟨h1, h2⟩
    have h2 : 2 * (i : Int) + 1 ≠ 2 * (g : Int) + 1 := of_decide_eq_true h2
    exact ⟨h1, .inr (by omega)⟩
  · rintro ⟨h1, h2⟩
    have h1' : p < 2 * (i : Int) + 1 := of_decide_eq_true h1
    exact ⟨h1, decide_eq_true (by omega)⟩
theorem yM_next (zss : List (List Int)) {n a g k : Nat} (hn : n ≤ 60) (hk : k ≤ (yM zss n a g).length) : nextOf (yL zss n a g ((yM zss n a g).take k)) (posOf ((yM zss n a g).take k)) = (yM zss n a g)[k]? := by
  have hl : ((yM zss n a g).take k).length = k := by rw [List.length_take]; omega
  unfold yL
  rw [hl]
  by_cases h : a < n
  · by_cases hka : k ≤ a
    · rw [if_pos hka, yM_take zss h (by omega), ← putL_take zss (by omega : k ≤ n), nextOf_take (putL_inc zss n) (putL_pos zss n) (by rw [putL_len]; omega)]
      have e1 : (putL zss n)[k]? = ((putL zss n).take (k + 1))[k]? := by rw [List.getElem?_take, if_pos (by omega)]
      have e2 : (yM zss n a g)[k]? = ((yM zss n a g).take (k + 1))[k]? := by rw [List.getElem?_take, if_pos (by omega)]
      rw [e1, e2, putL_take zss (by omega), yM_take zss h (by omega)]
    · rw [if_neg hka, yN_next zss h, nextOf_take (yM_inc zss a g hn) yM_pos hk]
      have hlong := yM_long (g := g) zss h
      obtain ⟨j, rfl⟩ : ∃ j, k = j + 1 := ⟨k - 1, by omega⟩
      have hj : j < (yM zss n a g).length := by omega
      have ha : a < (yM zss n a g).length := by omega
      rw [List.take_succ_eq_append_getElem hj, posOf_snoc]
      have haa : (yM zss n a g)[a]'ha = yF zss a := by
        have e2 : (yM zss n a g)[a]? = ((yM zss n a g).take (a + 1))[a]? := by rw [List.getElem?_take, if_pos (by omega)]
        rw [yM_take zss h (Nat.le_refl _), List.getElem?_eq_getElem ha, putL_map] at e2
        simpa using e2
      rcases Nat.eq_or_lt_of_le (show a ≤ j by omega) with rfl | hlt
      · rw [haa]; exact Int.le_refl _
      · have := List.pairwise_iff_getElem.1 (yM_inc zss a g hn) a j ha hj hlt
        rw [haa] at this
        exact Int.le_of_lt this
  · have hM : yM zss n a g = putL zss n := by unfold yM; rw [if_neg h]
    rw [hM] at hk ⊢
    have hkn : k ≤ n := by rwa [putL_len] at hk
    rw [if_pos (by omega), nextOf_take (putL_inc zss n) (putL_pos zss n) hk]
/-- What has come. -/
def yCome (zss : List (List Int)) (n a g : Nat) (xs : List (Int × List Int)) : Prop := ∃ k, k ≤ (yM zss n a g).length ∧ xs = (yM zss n a g).take k
theorem yCome_nil (zss : List (List Int)) (n a g : Nat) : yCome zss n a g [] := ⟨0, Nat.zero_le _, rfl⟩
theorem yCome.len {zss : List (List Int)} {n a g : Nat} {xs : List (Int × List Int)} (h : yCome zss n a g xs) : xs.length ≤ n + 1 := by
  obtain ⟨k, hk, rfl⟩ := h
  have := yM_len zss n a g
  rw [List.length_take]
  omega
theorem yCome.step {zss : List (List Int)} {n a g : Nat} {xs : List (Int × List Int)} {x : Int × List Int} (hn : n ≤ 60) (h : yCome zss n a g xs) (hx : nextOf (yL zss n a g xs) (posOf xs) = some x) :
    yCome zss n a g (xs ++ [x]) ∧ xs.length ≤ n ∧ (x = yZ ∨ ∃ i, i < n ∧ x = yF zss i) ∧ (xs.length = a → a < n) := by
  obtain ⟨k, hk, rfl⟩ := h
  rw [yM_next zss hn hk] at hx
  obtain ⟨hl, hx'⟩ := List.getElem?_eq_some_iff.1 hx
  have hlen : ((yM zss n a g).take k).length = k := by rw [List.length_take]; omega
  have hM := yM_len zss n a g
  rw [hlen]
  refine ⟨⟨k + 1, hl, by rw [List.take_succ_eq_append_getElem hl, hx']⟩, by omega, yM_mem (List.mem_of_getElem? hx), fun e => ?_⟩
  subst e
  apply Classical.byContradiction
  intro hn
  unfold yM at hl
  rw [if_neg hn, putL_len] at hl
  exact hn hl
theorem yCome.all {zss : List (List Int)} {n a g : Nat} {xs : List (Int × List Int)} (hn : n ≤ 60) (h : yCome zss n a g xs) (hx : nextOf (yL zss n a g xs) (posOf xs) = none) : xs = yM zss n a g := by
  obtain ⟨k, hk, rfl⟩ := h
  rw [yM_next zss hn hk] at hx
  have := List.getElem?_eq_none_iff.1 hx
  exact List.take_of_length_le this
/-- The numbers that are asked for. -/
def wantK (n a g : Nat) (k : Nat) : List Int := ((List.range k).filter fun i => decide (¬ a < n ∨ i ≠ g ∨ i ≤ a)).map fun (i : Nat) => 2 * (i : Int) + 1
theorem wantK_yes {n a g k : Nat} (h : ¬ a < n ∨ k ≠ g ∨ k ≤ a) : wantK n a g (k + 1) = wantK n a g k ++ [2 * (k : Int) + 1] := by
  unfold wantK
  rw [List.range_succ, List.filter_append, List.map_append]
  congr 1
  rw [List.filter_cons_of_pos (p := fun i => decide (¬ a < n ∨ i ≠ g ∨ i ≤ a)) (decide_eq_true h)]; rfl
theorem wantK_no {n a g k : Nat} (h : ¬ (¬ a < n ∨ k ≠ g ∨ k ≤ a)) : wantK n a g (k + 1) = wantK n a g k := by
  unfold wantK
  rw [List.range_succ, List.filter_append, List.map_append, List.filter_cons_of_neg (p := fun i => decide (¬ a < n ∨ i ≠ g ∨ i ≤ a)) (by rw [decide_eq_true_eq]; exact h)]
  simp
theorem wantK_len (n a g k : Nat) : (wantK n a g k).length ≤ k := by
  unfold wantK
  rw [List.length_map]
  exact Nat.le_trans (List.length_filter_le _ _) (by rw [List.length_range]; omega)
theorem want_is (zss : List (List Int)) (n a g : Nat) : (yM zss n a g).map (·.1) = wantK n a g n ++ if a < n then [1000] else [] := by
  unfold yM wantK
  by_cases h : a < n
  · rw [if_pos h, if_pos h, List.map_append]
    congr 1
    unfold yMid
    rw [List.map_map]
    congr 1
    refine List.filter_congr fun i _ => decide_eq_decide.2 ?_
    omega
  · rw [if_neg h, if_neg h, putL_map, List.map_map, List.append_nil, List.filter_eq_self.2 (fun i _ => decide_eq_true (.inl h))]
    rfl
end Go.Proofs.Ytjkhhnfmefbohaa
