/- The walk of LitsOrder. -/
import Derived.Test.YtjipmjimggggbaaDoorMade
import Derived.Test.YtjipmjimggggbaaDoorAwake
namespace Go.Proofs.YtjipmjimggggbaaDoor.litsOrder
open Go.RowKit

/-- x is a literal, v its variable, i its number. -/
def LitIs (x v i : Int) : Prop := litB x = true ∧ varI x = v ∧ idxI x = i ∧ 1 ≤ v ∧ v ≤ 1048576 ∧ ((x = v ∧ i = 2 * v - 2) ∨ (x = -v ∧ i = 2 * v - 1))
theorem litIs_made (n : Int) : ∃ x v i, madeI n = x ∧ LitIs x v i := by
  obtain ⟨v, h0, h1, h | h⟩ := madeI_is n
  · exact ⟨_, v, _, h, p_lit h0 h1, p_var h0 h1, p_idx h0 h1, h0, h1, .inl ⟨rfl, rfl⟩⟩
  · exact ⟨_, v, _, h, n_lit h0 h1, n_var h0 h1, n_idx h0 h1, h0, h1, .inr ⟨rfl, rfl⟩⟩
theorem litIs_neg {x v i : Int} (h : LitIs x v i) : ∃ j, LitIs (-x) v j ∧ negI x = -x := by
  obtain ⟨hl, -, -, h0, h1, ⟨rfl, -⟩ | ⟨rfl, -⟩⟩ := h
  · exact ⟨_, ⟨n_lit h0 h1, n_var h0 h1, n_idx h0 h1, h0, h1, .inr ⟨rfl, rfl⟩⟩, p_neg h0 h1⟩
  · rw [Int.neg_neg]
    exact ⟨_, ⟨p_lit h0 h1, p_var h0 h1, p_idx h0 h1, h0, h1, .inl ⟨rfl, rfl⟩⟩, n_neg h0 h1⟩
theorem litIs_cmp {x v i y u k : Int} (h : LitIs x v i) (h' : LitIs y u k) : compareI x y = cmpI i k := by
  rw [compareI, if_pos h.1, if_pos h'.1, h.2.2.1, h'.2.2.1]
theorem cmp_cases (i k : Int) : (i < k ∧ cmpI i k = -1) ∨ (i = k ∧ cmpI i k = 0) ∨ (k < i ∧ cmpI i k = 1) := by
  unfold cmpI
  split
  · omega
  · split <;> omega

set_option maxRecDepth 100000 in
set_option maxHeartbeats 4000000 in
theorem litsOrder_walk (a : Int) (ha : (Lit.int .i32 a).wf = true) (b : Int) (hb : (Lit.int .i32 b).wf = true) (c : Int) (hc : (Lit.int .i32 c).wf = true) (w : World) (ht : Tab w) :
    Calls Tryd.prog 9 #[.int .i32 a, .int .i32 b, .int .i32 c] w fun e w' => e = .returned (.bool true) ∧ Below w.heap.size w w' := by
  have HA := Lib.hid (awake_any w ht); clear ht
  have HMa := Lib.hid (made_any a ha); clear ha
  have HMb := Lib.hid (made_any b hb); clear hb
  have HMc := Lib.hid (made_any c hc); clear hc
  obtain ⟨x, v, i, ex, hx⟩ := litIs_made a
  obtain ⟨y, u, k, ey, hy⟩ := litIs_made b
  obtain ⟨z, t, m, ez, hz⟩ := litIs_made c
  obtain ⟨j, hn, en⟩ := litIs_neg hx
  have e1 := litIs_cmp hx hy
  have e2 := litIs_cmp hy hx
  have e3 := litIs_cmp hy hz
  have e4 := litIs_cmp hx hz
  have e5 := litIs_cmp hn hz
  have q1 := cmp_cases i k
  have q2 := cmp_cases k i
  have q3 := cmp_cases k m
  have q4 := cmp_cases i m
  have q5 := cmp_cases j m
  obtain ⟨c1, r1⟩ : ∃ c1, cmpI i k = c1 := ⟨_, rfl⟩
  obtain ⟨c2, r2⟩ : ∃ c2, cmpI k i = c2 := ⟨_, rfl⟩
  obtain ⟨c3, r3⟩ : ∃ c3, cmpI k m = c3 := ⟨_, rfl⟩
  obtain ⟨c4, r4⟩ : ∃ c4, cmpI i m = c4 := ⟨_, rfl⟩
  obtain ⟨c5, r5⟩ : ∃ c5, cmpI j m = c5 := ⟨_, rfl⟩
  rw [r1] at e1 q1; rw [r2] at e2 q2; rw [r3] at e3 q3; rw [r4] at e4 q4; rw [r5] at e5 q5
  clear r1 r2 r3 r4 r5
  obtain ⟨hx1, hx2, hx3, hx4, hx5, hx6⟩ := hx
  obtain ⟨hy1, -, hy3, hy4, hy5, hy6⟩ := hy
  obtain ⟨-, hz2, -, hz4, hz5, hz6⟩ := hz
  obtain ⟨-, -, -, -, -, hn6⟩ := hn
  have b1 : -1 ≤ c1 ∧ c1 ≤ 1 := by omega
  have b2 : -1 ≤ c2 ∧ c2 ≤ 1 := by omega
  have d1 : (c1 != -c2) = false := by rw [bne_eq_false_iff_eq]; omega
  have d2 : (c1 == 0) = (x == y) := by
    rw [Bool.eq_iff_iff, beq_iff_eq, beq_iff_eq]; omega
  have d3 : c1 < 0 ↔ i < k := by omega
  have d4 : c1 ≤ 0 → c3 ≤ 0 → c4 ≤ 0 := by omega
  have d5 : v ≠ t → c5 = c4 := by omega
  clear q1 q2 q3 q4 q5 hx6 hy6 hz6 hn6
  have HX := Lib.hid ex; have HY := Lib.hid ey; have HZ := Lib.hid ez; clear ex ey ez
  have E1 := Lib.hid e1; have E2 := Lib.hid e2; have E3 := Lib.hid e3; have E4 := Lib.hid e4; have E5 := Lib.hid e5; have En := Lib.hid en; clear e1 e2 e3 e4 e5 en
  have I1 := Lib.hid hx3; have I2 := Lib.hid hy3; have L1 := Lib.hid hx1; have L2 := Lib.hid hy1; have V1 := Lib.hid hx2; have V2 := Lib.hid hz2; clear hx3 hy3 hx1 hy1 hx2 hz2
  have D2 := Lib.hid d2; have D3 := Lib.hid d3; have D4 := Lib.hid d4; have D5 := Lib.hid d5; clear d2 d3 d4 d5
  go_enter Tryd.func9, Tryd.ntmps9
  go_wp2_with (first
    | (go_at_call 22; (first | ((with_reducible refine (HMa.out _).mono ?_); rintro e w' ⟨rfl, rfl⟩; rw [HX.out]) | ((with_reducible refine (HMb.out _).mono ?_); rintro e w' ⟨rfl, rfl⟩; rw [HY.out]) | ((with_reducible refine (HMc.out _).mono ?_); rintro e w' ⟨rfl, rfl⟩; rw [HZ.out])))
    | (go_at_call 23; refine (neg_any _ _).mono ?_; rintro e w' ⟨rfl, rfl⟩; rw [En.out])
    | (go_at_call 24; refine (index_any _ _).mono ?_; rintro e w' ⟨rfl, rfl⟩; (first | rw [I1.out, L1.out] | rw [I2.out, L2.out]); simp only [errI, if_true])
    | (go_at_call 26; refine (var_any _ _).mono ?_; rintro e w' ⟨rfl, rfl⟩; (first | rw [V1.out] | rw [V2.out]))
    | (go_at_call 32; refine (compare_any _ _ _).mono ?_; rintro e w' ⟨rfl, rfl⟩; (first | rw [E1.out] | rw [E2.out] | rw [E3.out] | rw [E4.out] | rw [E5.out]))
    | (go_at_call 13; refine HA.out.mono ?_; rintro e w' ⟨rfl, hb⟩))
  all_goals
    have q2 := D2.out
    have q3 := D3.out
    have q4 := D4.out
    have q5 := D5.out
    first
    | (exfalso; first | contradiction | omega)
    | (go_ret; exact ⟨ret_bool (by first | rfl | (simp; omega)), hb⟩)
end Go.Proofs.YtjipmjimggggbaaDoor.litsOrder
