/- The law's few: calls are few, with few literals. -/
import Derived.Test.YtjkhhnfmefbohaaActs
import Derived.Test.YtjkhhnfmefbohaaLawUse
import Derived.IntWalk
namespace Go.Proofs.Ytjkhhnfmefbohaa
open Go.RowKit Go.ChangeAt Go.ChangeShapes Go.WideShapes

def sumA (l : List Act3) : Nat := (l.map fun x => x.2.2.length).sum
theorem sumA_snoc (l : List Act3) (x : Act3) : sumA (l ++ [x]) = sumA l + x.2.2.length := by simp [sumA]
theorem sumA_take {l : List Act3} {j : Nat} {x : Act3} (h : l[j]? = some x) : sumA (l.take (j + 1)) = sumA (l.take j) + x.2.2.length := by
  obtain ⟨hl, rfl⟩ := List.getElem?_eq_some_iff.1 h
  rw [List.take_succ_eq_append_getElem hl, sumA_snoc]
theorem sumA_le {l : List Act3} (h : ∀ x ∈ l, ActOk x) (j : Nat) : sumA (l.take j) ≤ j * 17592186043904 := by
  induction j with
  | zero => simp [sumA]
  | succ j ih =>
    cases hx : l[j]? with
    | none =>
      have hl := List.getElem?_eq_none_iff.1 hx
      rw [List.take_of_length_le hl] at ih
      rw [List.take_of_length_le (by omega)]
      exact Nat.le_trans ih (Nat.mul_le_mul_right _ (Nat.le_succ j))
    | some x =>
      have := (h x (List.mem_of_getElem? hx)).2.2
      rw [sumA_take hx, Nat.succ_mul]
      unfold reachBytes at this
      omega
theorem sumA_mem {l : List Act3} {x : Act3} (h : x ∈ l) : x.2.2.length ≤ sumA l := by
  induction l with
  | nil => cases h
  | cons y r ih =>
    have e : sumA (y :: r) = y.2.2.length + sumA r := by simp [sumA]
    rcases List.mem_cons.1 h with rfl | h
    · omega
    · have := ih h
      omega
def fewB (l : List Act3) : Bool := decide (l.length ≤ 200) && decide (sumA (l.take 201) ≤ 3000)
theorem fewB_of {l : List Act3} (h : fewB l = true) : l.length ≤ 200 ∧ sumA l ≤ 3000 := by
  unfold fewB at h
  simp only [Bool.and_eq_true, decide_eq_true_eq] at h
  obtain ⟨h1, h2⟩ := h
  rw [List.take_of_length_le (by omega)] at h2
  exact ⟨h1, h2⟩
def FewRel (l : List Act3) (n : Nat) (w : World) (s i : Value) (wr : World) : Prop := ∃ j : Nat, j ≤ n ∧ s = .int .i64 (sumA (l.take j) : Nat) ∧ i = .int .i64 j ∧ Below w.heap.size w wr
set_option maxRecDepth 100000 in
set_option maxHeartbeats 1000000 in
theorem few_any (v : Value) (l : List Act3) (w : World) (hA : Acts w.heap.size w v l) (hl : l.length ≤ maxLen) (ho : ∀ x ∈ l, ActOk x) :
    Calls Try.prog 10 #[v] w fun r w' => r = .returned (.bool (fewB l)) ∧ Below w.heap.size w w' := by
  obtain ⟨A, cap, rfl, hAn, hlc, hat⟩ := hA.shape
  have hsl := sumA_le ho
  obtain ⟨n, hn⟩ : ∃ n, min l.length 201 = n := ⟨_, rfl⟩
  have hn1 : n ≤ l.length := by omega
  have hn2 : n ≤ 201 := by omega
  have hmin : min (l.length : Int) 201 = (n : Int) := by omega
  have hf1 : l.length ≤ 200 → fewB l = decide (sumA (l.take n) ≤ 3000) := fun h => by
    have : n = l.length := by omega
    unfold fewB
    rw [this, List.take_of_length_le (by omega), List.take_length, decide_eq_true h]
    rfl
  have hf2 : ¬ l.length ≤ 200 → fewB l = false := fun h => by
    unfold fewB
    rw [decide_eq_false h]
    rfl
  have HAt := Lib.hid hat; have HSl := Lib.hid hsl; have HF1 := Lib.hid hf1; have HF2 := Lib.hid hf2
  unfold maxLen at hl
  clear hA hat hsl hn hf1 hf2 ho hAn
  go_enter Try.func10, Try.ntmps10
  go_wp2_with fail
  go_loopw [3, 12] (fun s i wr => FewRel l n w s i wr) (fun _ i _ => n - (intOf i).toNat)
  case atStart => exact ⟨0, Nat.zero_le _, by simp [sumA], rfl, Below.refl _ _⟩
  case round =>
    obtain ⟨j, hj, rfl, rfl, hB⟩ := hrel
    have hs := HSl.out j
    have hs1 := HSl.out (j + 1)
    by_cases hlt : j < n
    · obtain ⟨x, hx⟩ : ∃ x, l[j]? = some x := ⟨_, List.getElem?_eq_getElem (by omega)⟩
      obtain ⟨b, off, sv, rfl, hb, c0, c1, c2, hI⟩ := HAt.out j x hx
      obtain ⟨k, id, ls⟩ := x
      obtain ⟨As, cs, rfl, -⟩ := ints_shape hI
      have c0 := (hB.cell (p := ⟨b, off + j * 3, none⟩) hb).trans c0
      have c1 := (hB.cell (p := ⟨b, off + j * 3 + 1, none⟩) hb).trans c1
      have c2 := (hB.cell (p := ⟨b, off + j * 3 + 2, none⟩) hb).trans c2
      dsimp only at c0 c1 c2
      have hsn : sumA (l.take (j + 1)) = sumA (l.take j) + ls.length := sumA_take hx
      obtain ⟨u, hu⟩ : ∃ u, sumA (l.take j) = u := ⟨_, rfl⟩
      rw [hu] at hsn hs ⊢
      rw [hsn] at hs1
      have hs2 : u + ls.length ≤ 9223372036854775807 := by omega
      have HSn := Lib.hid hsn
      have HB2 := Lib.hid (hB.alloc hB.size (.cells #[.int .u8 k, .int .i64 id, .slice As ls.length cs] 27))
      clear hsn hu hx hI hB HAt HSl hs1
      go_wp2_with fail
      refine ⟨⟨j + 1, hlt, by rw [HSn.out]; go_num, by go_num, HB2.out⟩, ?_⟩
      simp [intOf]; omega
    · obtain rfl : j = n := by omega
      have HBf := Lib.hid hB
      obtain ⟨u, hu⟩ : ∃ u, sumA (l.take j) = u := ⟨_, rfl⟩
      by_cases h2 : l.length ≤ 200
      · have HQ := Lib.hid ((HF1.out h2).trans (by rw [hu]))
        rw [hu] at hs ⊢
        clear hB hu HAt HSl hs1 HF1 HF2
        by_cases h3 : u ≤ 3000
        · have hd : decide (u ≤ 3000) = true := decide_eq_true h3
          have HD := Lib.hid hd
          go_wp2_with fail
          go_ret
          exact ⟨ret_bool (by rw [HQ.out, HD.out]; exact decide_eq_true (by omega)), HBf.out⟩
        · have hd : decide (u ≤ 3000) = false := decide_eq_false h3
          have HD := Lib.hid hd
          go_wp2_with fail
          go_ret
          exact ⟨ret_bool (by rw [HQ.out, HD.out]; exact decide_eq_false (by omega)), HBf.out⟩
      · have HQ := Lib.hid (HF2.out h2)
        rw [hu] at hs ⊢
        clear hB hu HAt HSl hs1 HF1 HF2
        go_wp2_with fail
        go_ret
        exact ⟨ret_bool (by rw [HQ.out]), HBf.out⟩
end Go.Proofs.Ytjkhhnfmefbohaa
