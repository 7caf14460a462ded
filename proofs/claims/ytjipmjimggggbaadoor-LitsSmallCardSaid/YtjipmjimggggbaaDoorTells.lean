/- The laws' helpers tells and reads return true. -/
import Derived.Test.YtjipmjimggggbaaDoorRefRead
namespace Go.Proofs.YtjipmjimggggbaaDoor
open Go.ChangeShapes Go.WideShapes Go.ChangeAt Go.RowKit

theorem of_ie (v : Int) (b : Bool) : (ofE v = 0 ∧ ofI v b ≠ 0) ∨ (ofE v = 10 ∧ ofI v b = 0) := by
  unfold ofE ofI
  by_cases h : 1 ≤ v ∧ v ≤ 1048576
  · rw [if_pos h, if_pos h]
    left
    refine ⟨rfl, ?_⟩
    cases b <;> simp <;> omega
  · rw [if_neg h, if_neg h]
    exact .inr ⟨rfl, rfl⟩
theorem at_ie (i : Int) : (atE i = 0 ∧ atI i ≠ 0) ∨ (atE i = 10 ∧ atI i = 0) := by
  unfold atE atI
  by_cases h : i < 0
  · rw [if_pos h, if_pos h]; exact .inr ⟨rfl, rfl⟩
  · rw [if_neg h, if_neg h]; exact of_ie _ _

set_option maxHeartbeats 1000000 in
theorem reads_any (s : ByteArray) (w : World) (hs : s.size ≤ 9223372036854775807) :
    Calls Tryd.prog 14 #[.string s] w fun e w' => e = .returned (.bool true) ∧ Below w.heap.size w w' := by
  have h := of_ie (txV s.data.toList) (txN s.data.toList)
  have H1 := Lib.hid (read_any s w hs)
  have H2 := Lib.hid (ref_read s w hs)
  rw [show ofI (txV s.data.toList) (txN s.data.toList) = readI s.data.toList from rfl, show ofE (txV s.data.toList) = readE s.data.toList from rfl] at h
  obtain ⟨i, hi⟩ : ∃ i, readI s.data.toList = i := ⟨_, rfl⟩
  obtain ⟨e, he⟩ : ∃ e, readE s.data.toList = e := ⟨_, rfl⟩
  rw [hi, he] at h H1
  rw [hi] at H2
  clear hi he hs
  rcases h with ⟨rfl, hn⟩ | ⟨rfl, rfl⟩
  · have hb : (i == 0) = false := beq_eq_false_iff_ne.2 hn
    have hb2 : (i != 0) = true := bne_iff_ne.2 hn
    clear hn
    go_enter Tryd.func14, Tryd.ntmps14
    go_wp2_with (first
      | (go_at_call 29; refine H1.out.mono ?_; rintro e w' ⟨rfl, rfl⟩)
      | (go_at_call 48; refine H2.out.mono ?_; rintro e w' ⟨rfl, q, rfl⟩))
    go_ret
    exact ⟨rfl, below_drewN (Below.refl _ _) _⟩
  · go_enter Tryd.func14, Tryd.ntmps14
    go_wp2_with (first
      | (go_at_call 29; refine H1.out.mono ?_; rintro e w' ⟨rfl, rfl⟩)
      | (go_at_call 48; refine H2.out.mono ?_; rintro e w' ⟨rfl, q, rfl⟩))
    go_ret
    exact ⟨rfl, below_drewN (Below.refl _ _) _⟩

/-- What the walk of tells wants of a, whether it is a literal or not. -/
theorem tells_a (a : Int) : ∃ (r : Bool) (m i x : Int), (litB a = r ∧ negI a = m ∧ idxI a = i ∧ refIdx a = x) ∧ ((r = true ∧ m = -a ∧ x = 0 ∧ i = 0 ∧ -1048576 ≤ a ∧ a ≤ 1048576) ∨ (r = true ∧ m = -a ∧ x = i ∧ max i 0 = i ∧ i ≤ 2097151 ∧ -1048576 ≤ a ∧ a ≤ 1048576) ∨ (r = false ∧ m = 0 ∧ i = 0 ∧ max x 0 = 0)) := by
  cases h : litB a
  · exact ⟨false, 0, 0, -1, ⟨rfl, by simp [negI, h], by simp [idxI, h], by simp [refIdx, h]⟩, .inr (.inr ⟨rfl, rfl, rfl, rfl⟩)⟩
  · have hb := litB_of h
    have hn := idx_nonneg h
    refine ⟨true, -a, idxI a, idxI a, ⟨rfl, by simp [negI, h], rfl, by simp [refIdx, h]⟩, ?_⟩
    by_cases h0 : idxI a = 0
    · exact .inl ⟨rfl, rfl, h0, h0, hb.2.1, hb.2.2⟩
    · exact .inr (.inl ⟨rfl, rfl, rfl, by omega, hn.2, hb.2.1, hb.2.2⟩)
theorem tells_n (n : Int) : ∃ (r : Bool) (p q e : Int), (litB n = r ∧ ofI n false = p ∧ ofI n true = q ∧ ofE n = e) ∧ ((1 ≤ n ∧ n ≤ 1048576 ∧ r = true ∧ p = n ∧ q = -n ∧ e = 0) ∨ (n < 1 ∧ p = 0 ∧ q = 0 ∧ e = 10) ∨ (1048576 < n ∧ r = false ∧ p = 0 ∧ q = 0 ∧ e = 10)) := by
  refine ⟨_, _, _, _, ⟨rfl, rfl, rfl, rfl⟩, ?_⟩
  by_cases h : 1 ≤ n ∧ n ≤ 1048576
  · exact .inl ⟨h.1, h.2, litB_yes (by omega) (by omega) (by omega), by simp [ofI, h], by simp [ofI, h], by simp [ofE, h]⟩
  · by_cases h1 : n < 1
    · exact .inr (.inl ⟨h1, by rw [ofI, if_neg h], by rw [ofI, if_neg h], by rw [ofE, if_neg h]⟩)
    · exact .inr (.inr ⟨by omega, litB_not (by omega), by rw [ofI, if_neg h], by rw [ofI, if_neg h], by rw [ofE, if_neg h]⟩)

set_option maxRecDepth 100000 in
set_option maxHeartbeats 40000000 in
theorem tells_any (a b n : Int) (hn : n ≤ 9223372036854775807) (w : World) (ht : Tab w) :
    Calls Tryd.prog 12 #[.int .i64 a, .int .i64 b, .int .i64 n] w fun e w' => e = .returned (.bool true) ∧ Below w.heap.size w w' := by
  have HT := Lib.hid (text_any a w ht); clear ht
  have HAt := Lib.hid (at_any n hn); clear hn
  have hat := at_ie n
  obtain ⟨l, hl⟩ : ∃ l, atI n = l := ⟨_, rfl⟩
  obtain ⟨e2, he2⟩ : ∃ e, atE n = e := ⟨_, rfl⟩
  have HRA := Lib.hid (ref_at n)
  rw [hl, he2] at hat HAt
  rw [hl] at HRA
  clear hl he2
  obtain ⟨ra, ma, ia, xa, ⟨a1, a2, a3, a4⟩, ha⟩ := tells_a a
  obtain ⟨rn, p, q, en, ⟨n1, n2, n3, n4⟩, hn⟩ := tells_n n
  have A1 := Lib.hid a1; have A2 := Lib.hid a2; have A3 := Lib.hid a3; have A4 := Lib.hid a4
  have N1 := Lib.hid n1; have N2 := Lib.hid n2; have N3 := Lib.hid n3; have N4 := Lib.hid n4
  clear a1 a2 a3 a4 n1 n2 n3 n4
  have hat' : (e2 = 0 ∧ (l == 0) = false ∧ (l != 0) = true) ∨ (e2 = 10 ∧ l = 0) := by
    rcases hat with ⟨h1, h2⟩ | h
    · exact .inl ⟨h1, beq_eq_false_iff_ne.2 h2, bne_iff_ne.2 h2⟩
    · exact .inr h
  clear hat
  rcases ha with ⟨rfl, rfl, rfl, rfl, g3, g4⟩ | ⟨rfl, rfl, rfl, g1, g2, g3, g4⟩ | ⟨rfl, rfl, rfl, g1⟩ <;> rcases hn with ⟨k1, k2, rfl, rfl, rfl, rfl⟩ | ⟨k1, rfl, rfl, rfl⟩ | ⟨k1, rfl, rfl, rfl, rfl⟩ <;> rcases hat' with ⟨rfl, hl1, hl2⟩ | ⟨rfl, rfl⟩
  all_goals
    go_enter Tryd.func12, Tryd.ntmps12
    go_wp2_with (first
      | (go_at_call 24; refine (index_any _ _).mono ?_; rintro e w' ⟨rfl, rfl⟩; rw [A3.out, A1.out]; unfold errI; (first | rw [if_pos rfl] | rw [if_neg (by decide)]))
      | (go_at_call 28; refine (HAt.out _).mono ?_; rintro e w' ⟨rfl, rfl⟩)
      | (go_at_call 31; refine (of_any _ _ _).mono ?_; rintro e w' ⟨rfl, rfl⟩; rw [N4.out]; (first | rw [N2.out] | rw [N3.out]))
      | (go_at_call 42; refine (ref_right _ _).mono ?_; rintro e w' ⟨rfl, rfl⟩; (first | rw [A1.out] | rw [N1.out]))
      | (go_at_call 25; refine (right_any _ _).mono ?_; rintro e w' ⟨rfl, rfl⟩; rw [A1.out])
      | (go_at_call 26; refine (var_any _ _).mono ?_; rintro e w' ⟨rfl, rfl⟩)
      | (go_at_call 43; refine (ref_var _ _).mono ?_; rintro e w' ⟨rfl, rfl⟩)
      | (go_at_call 27; refine (negd_any _ _).mono ?_; rintro e w' ⟨rfl, rfl⟩; rw [negdB, A1.out])
      | (go_at_call 23; refine (neg_any _ _).mono ?_; rintro e w' ⟨rfl, rfl⟩; rw [A2.out])
      | (go_at_call 44; refine (ref_index _ _).mono ?_; rintro e w' ⟨rfl, rfl⟩; rw [A4.out])
      | (go_at_call 45; refine (HRA.out _).mono ?_; rintro e w' ⟨rfl, rfl⟩)
      | (go_at_call 32; refine (compare_any _ _ _).mono ?_; rintro e w' ⟨rfl, rfl⟩)
      | (go_at_call 46; refine (ref_compare _ _ _).mono ?_; rintro e w' ⟨rfl, rfl⟩)
      | (go_at_call 30; refine HT.out.mono ?_; rintro e w' ⟨rfl, hb⟩)
      | (go_at_call 47; refine (ref_text _ _).mono ?_; rintro e w' ⟨rfl, rfl⟩))
    go_ret
    exact ⟨ret_bool (by first | rfl | (simp; try omega)), hb⟩
end Go.Proofs.YtjipmjimggggbaaDoor
