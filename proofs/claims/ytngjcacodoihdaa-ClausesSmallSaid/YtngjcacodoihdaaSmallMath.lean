/- Clauses of thousands of literals: what ClausesSmall's end needs. -/
import Derived.Test.YtngjcacodoihdaaClAt
namespace Go.Proofs.Ytngjcacodoihdaa
open Go.ChangeShapes Go.WideShapes Go.ChangeAt Go.RowKit

/-- The numbers from a on, n of them. -/
def fromL (a : Int) (n : Nat) : List Int := (List.range n).map fun k : Nat => a + (k : Int)
theorem fromL_len (a : Int) (n : Nat) : (fromL a n).length = n := by unfold fromL; rw [List.length_map, List.length_range]
theorem fromL_mem {a x : Int} {n : Nat} : x ∈ fromL a n ↔ a ≤ x ∧ x < a + n := by
  unfold fromL
  rw [List.mem_map]
  constructor
  · rintro ⟨k, hk, rfl⟩
    have := List.mem_range.1 hk
    omega
  · rintro ⟨h1, h2⟩
    exact ⟨(x - a).toNat, List.mem_range.2 (by omega), by omega⟩
theorem lt_pos {a b : Int} (h0 : 1 ≤ a) (h : a < b) (h1 : b ≤ 1048576) : ltI a b = true := by
  have ha := litB_yes (a := a) (by omega) (by omega) (by omega)
  have hb := litB_yes (a := b) (by omega) (by omega) (by omega)
  refine ltI_iff.2 (.inr (.inr ⟨ha, hb, ?_⟩))
  rw [idxI_lit ha, idxI_lit hb, if_neg (by omega), if_neg (by omega)]
  omega
theorem fromL_inc {a : Int} {n : Nat} (h0 : 1 ≤ a) (h1 : a + n ≤ 1048577) : Inc (fromL a n) := by
  unfold fromL Inc
  rw [List.pairwise_map]
  refine List.Pairwise.imp_of_mem ?_ (List.pairwise_lt_range (n := n))
  intro i j hi hj hij
  have := List.mem_range.1 hi
  have := List.mem_range.1 hj
  exact lt_pos (by omega) (by omega) (by omega)
theorem fromL_lit {a : Int} {n : Nat} (h0 : 1 ≤ a) (h1 : a + n ≤ 1048577) : ∀ x ∈ fromL a n, litB x = true := fun x h => by
  have := fromL_mem.1 h
  exact litB_yes (by omega) (by omega) (by omega)
theorem fromL_right {a : Int} {n : Nat} (h0 : 1 ≤ a) (h1 : a + n ≤ 1048577) (h2 : n ≤ 4096) : rightB (fromL a n) = true := rightB_mk (by rw [fromL_len]; exact h2) (fromL_lit h0 h1)
theorem fromL_norm {a : Int} {n : Nat} (h0 : 1 ≤ a) (h1 : a + n ≤ 1048577) : normL (fromL a n) = fromL a n := norm_of_inc (fromL_inc h0 h1)
theorem fromL_take (a : Int) (n k : Nat) (h : k ≤ n) : (fromL a n).take k = fromL a k := by
  unfold fromL
  rw [← List.map_take, List.take_range, Nat.min_eq_left h]
theorem fromL_drop (a : Int) (n k : Nat) : (fromL a n).drop k = fromL (a + k) (n - k) := by
  refine List.ext_getElem? fun j => ?_
  unfold fromL
  rw [List.getElem?_drop, List.getElem?_map, List.getElem?_map]
  by_cases h : k + j < n
  · rw [List.getElem?_range h, List.getElem?_range (by omega)]
    simp only [Option.map_some, Option.some.injEq]
    omega
  · rw [List.getElem?_eq_none (by rw [List.length_range]; omega), List.getElem?_eq_none (by rw [List.length_range]; omega)]
    rfl
theorem fromL_snoc (a : Int) (n : Nat) : fromL a (n + 1) = fromL a n ++ [a + n] := by unfold fromL; rw [List.range_succ, List.map_append]; rfl

/-- The five cases at the end of ClausesSmall, X being the numbers from 1 to 4096. -/
theorem small_u1 : manyL (fromL 1 4096 ++ fromL 1 4096) = fromL 1 4096 ∧ manyE (fromL 1 4096 ++ fromL 1 4096) = 0 := by
  have h : normL (fromL 1 4096 ++ fromL 1 4096) = fromL 1 4096 := by
    rw [← fromL_norm (a := 1) (n := 4096) (by omega) (by omega)]
    exact norm_congr fun x => by rw [List.mem_append, or_self, norm_mem]
  unfold manyL manyE
  rw [h, fromL_len, if_neg (by omega), if_neg (by omega)]
  exact ⟨rfl, rfl⟩
theorem small_u2 : manyE (fromL 1 4096 ++ fromL 4097 1) = 5 := by
  have h1 : fromL 4097 1 = [4097] := by decide
  have h : fromL 1 4096 ++ fromL 4097 1 = fromL 1 4097 := by
    rw [h1, fromL_snoc 1 4096]
    have : (1 : Int) + ((4096 : Nat) : Int) = 4097 := by omega
    rw [this]
  unfold manyE
  rw [h, fromL_norm (by omega) (by omega), fromL_len, if_pos (by omega)]
theorem nodup_len : ∀ {l m : List Int}, l.Nodup → (∀ x ∈ l, x ∈ m) → l.length ≤ m.length
  | [], _, _, _ => Nat.zero_le _
  | x :: t, m, h, hs => by
    rw [List.nodup_cons] at h
    have hx := hs x List.mem_cons_self
    have h1 := nodup_len (m := m.erase x) h.2 fun y hy => (List.mem_erase_of_ne (fun e => h.1 (by rw [← e]; exact hy))).2 (hs y (List.mem_cons_of_mem _ hy))
    rw [List.length_erase_of_mem hx] at h1
    have := List.length_pos_of_mem hx
    rw [List.length_cons]
    omega
theorem small_less : normL (lessL (fromL 1 4096) 1) = fromL 2 4095 := norm_unique (fromL_inc (by omega) (by omega)) fun x => by
  rw [fromL_mem, lessL_mem, fromL_mem]
  omega
theorem small_r1 : clResL (fromL 1 4096) [-1, 2] 1 = fromL 2 4095 ∧ clResE (fromL 1 4096) [-1, 2] 1 = 0 := by
  have hx : hasB (fromL 1 4096) 1 = true := hasB_iff.2 (fromL_mem.2 (by omega))
  have hy : hasB [(-1 : Int), 2] (-1) = true := by decide
  have hl : litB 1 = true := by decide
  have hr := fromL_right (a := 1) (n := 4096) (by omega) (by omega) (by omega)
  have hr' : rightB [(-1 : Int), 2] = true := by decide
  have hn : normL (normL (lessL (fromL 1 4096) 1) ++ normL (lessL [-1, 2] (-1))) = fromL 2 4095 := by
    refine norm_unique (fromL_inc (by omega) (by omega)) fun x => ?_
    rw [List.mem_append, small_less, norm_mem, lessL_mem, fromL_mem]
    simp only [List.mem_cons, List.not_mem_nil, or_false]
    omega
  unfold clResL clResE resL resE
  rw [hr, hr', Bool.and_self, if_pos rfl, if_pos rfl, hl, if_pos rfl, if_pos rfl, hx, hy, Bool.and_self, if_pos rfl, if_pos rfl]
  unfold manyL manyE
  rw [hn, fromL_len, if_neg (by omega), if_neg (by omega)]
  exact ⟨rfl, rfl⟩
theorem small_r2 : clResE (fromL 1 4096) [-1, -2, -3] 1 = 5 := by
  have hx : hasB (fromL 1 4096) 1 = true := hasB_iff.2 (fromL_mem.2 (by omega))
  have hy : hasB [(-1 : Int), -2, -3] (-1) = true := by decide
  have hl : litB 1 = true := by decide
  have hr := fromL_right (a := 1) (n := 4096) (by omega) (by omega) (by omega)
  have hr' : rightB [(-1 : Int), -2, -3] = true := by decide
  have hm : ∀ x, x ∈ normL (normL (lessL (fromL 1 4096) 1) ++ normL (lessL [-1, -2, -3] (-1))) ↔ (2 ≤ x ∧ x < 4097) ∨ x = -2 ∨ x = -3 := fun x => by
    rw [norm_mem, List.mem_append, small_less, norm_mem, lessL_mem, fromL_mem]
    simp only [List.mem_cons, List.not_mem_nil, or_false]
    omega
  have hnd : (-2 :: -3 :: fromL 2 4095).Nodup := by
    rw [List.nodup_cons, List.nodup_cons]
    refine ⟨?_, ?_, inc_nodup (fromL_inc (by omega) (by omega))⟩
    · rw [List.mem_cons, fromL_mem]; omega
    · rw [fromL_mem]; omega
  have hlen := nodup_len hnd (m := normL (normL (lessL (fromL 1 4096) 1) ++ normL (lessL [-1, -2, -3] (-1)))) fun x hx => by
    rw [List.mem_cons, List.mem_cons, fromL_mem] at hx
    exact (hm x).2 (by omega)
  rw [List.length_cons, List.length_cons, fromL_len] at hlen
  unfold clResE resE
  rw [hr, hr', Bool.and_self, if_pos rfl, hl, if_pos rfl, hx, hy, Bool.and_self, if_pos rfl]
  unfold manyE
  rw [if_pos (by omega)]
theorem small_long : rightB (fromL 1 4097) = false := rightB_long (by rw [fromL_len]; omega)
end Go.Proofs.Ytngjcacodoihdaa
