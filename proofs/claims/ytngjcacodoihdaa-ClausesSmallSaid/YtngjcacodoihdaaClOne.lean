/- The laws' one: what is done with a clause, and a literal. -/
import Derived.Test.YtngjcacodoihdaaClAwake
import Derived.Test.YtngjcacodoihdaaRefMore
namespace Go.Proofs.Ytngjcacodoihdaa
open Go.RowKit Go.ChangeAt Go.ChangeShapes Go.WideShapes

theorem inc_eq (zs : List Int) : (zs == normL zs) = incB zs := by
  cases h : incB zs
  · rw [beq_eq_false_iff_ne]
    intro e
    have := norm_inc zs
    rw [← e] at this
    rw [(incB_iff zs).2 this] at h
    cases h
  · rw [beq_iff_eq]
    exact (norm_of_inc ((incB_iff zs).1 h)).symm
theorem bne_b (b : Bool) : (b != b) = false := by cases b <;> rfl
theorem bne_i (i : Int) : (i != i) = false := by rw [bne_eq_false_iff_eq]

/-- .. and another row, beyond, is as it was. -/
def ZeroRel2 (B n : Nat) (v : Value) (B' n' : Nat) (v' : Value) (ys : List Value) (X : World) (i : Value) (wr : World) : Prop :=
  ∃ (k : Nat) (xs : List Value), k ≤ n ∧ i = .int .i64 k ∧ wr.ownsRow B 34 1 v n xs ∧ wr.ownsRow B' 34 1 v' n' ys ∧ Below B X wr
/-- What is left where zeros have been laid over a row. -/
def ZeroRel (B n : Nat) (v : Value) (X : World) (i : Value) (wr : World) : Prop :=
  ∃ (k : Nat) (xs : List Value), k ≤ n ∧ i = .int .i64 k ∧ wr.ownsRow B 34 1 v n xs ∧ Below B X wr
theorem zero_step {B n k : Nat} {v : Value} {xs : List Value} {wr : World} (h : wr.ownsRow B 34 1 v n xs) (hk : k < n) : ∃ g cap, v = .slice (some ⟨g, 0, none⟩) n cap ∧ (∃ u, wr.cell? ⟨g, k, none⟩ = some u) ∧ wr.frozen? ⟨g, k, none⟩ = false ∧ ∀ X, Below B X wr → B ≤ g ∧
    (wr.setCell ⟨g, k, none⟩ (.int .i64 0)).ownsRow B 34 1 v n (xs.set k (.int .i64 0)) ∧ Below B X (wr.setCell ⟨g, k, none⟩ (.int .i64 0)) := by
  have hl : xs.length = n := by simpa using h.1
  rcases h.2 with ⟨-, h0⟩ | ⟨g, cap, cur, rfl, hg, -⟩
  · omega
  · refine ⟨g, cap, rfl, ⟨xs[k]'(by omega), ?_⟩, h.frozenAt k, fun X hX => ⟨hg, (h.stored k _).1, hX.setCell (p := ⟨g, k, none⟩) hg _⟩⟩
    rw [h.cellAt k (by omega), List.getElem?_eq_getElem (by omega)]


set_option maxRecDepth 100000 in
set_option maxHeartbeats 8000000 in
theorem one_no (cv sv : Value) (c sm : List Int) (l : Int) (hc : c.length ≤ 1000) (hs : sm.length ≤ 1000) (w : World) (hIc : Ints w.heap.size w cv c) (hIs : Ints w.heap.size w sv sm) (hr : rightB c = false) :
    Calls Try.prog 12 #[cv, .int .i64 l, sv] w fun e w' => e = .returned (.bool true) ∧ Below w.heap.size w w' := by
  obtain ⟨Ac, cc, rfl, -⟩ := ints_shape hIc
  obtain ⟨As, cs, rfl, -⟩ := ints_shape hIs
  have Hc0 := Lib.hid hIc; have Hs0 := Lib.hid hIs; have HR := Lib.hid hr; clear hIc hIs hr
  go_enter Try.func12, Try.ntmps12
  go_wp2_with fail
  refine (clause_any _ _ c (by omega) _ (Nat.le_refl _) Hc0.out).mono ?_
  rintro e w1 ⟨vo, rfl, hr, hB⟩
  have ho1 := lits_own hr
  have hbw1 := hB
  have hc1 := Hc0.out.on hB
  have hs1 := Hs0.out.on hB
  have Hc1 := Lib.hid hc1; clear hc1 Hc0
  have Hs1 := Lib.hid hs1; clear hs1 Hs0
  have Ho1 := Lib.hid ho1; clear ho1
  clear hr
  go_wp2_with fail
  refine (ref02_right _ _ c (by omega) _ Hc1.out).mono ?_
  rintro e w' ⟨rfl, rfl⟩
  rw [HR.out]
  go_wp2_with fail
  refine (clnorm_any _ _ c (by omega) _ (Nat.le_refl _) Ho1.out).mono ?_
  rintro e w2 ⟨vn, rfl, hr, hB⟩
  rw [HR.out, if_neg (by decide)] at hr
  rw [HR.out, if_neg (by decide), Bool.false_and]
  obtain ⟨An, cn, rfl⟩ := own_shape hr
  have hbw2 := hbw1.trans (hB.mono hbw1.size)
  have hc2 := Hc1.out.on hB
  have hs2 := Hs1.out.on hB
  have ho2 := Ho1.out.on hB
  have Hc2 := Lib.hid hc2; clear hc2 Hc1
  have Hs2 := Lib.hid hs2; clear hs2 Hs1
  have Ho2 := Lib.hid ho2; clear ho2 Ho1
  clear hr
  go_wp2_with fail
  refine (clwithout_any _ _ c l (by omega) _ (Nat.le_refl _) Ho2.out).mono ?_
  rintro e w3 ⟨vw, rfl, hr, hB⟩
  rw [HR.out, if_neg (by decide)] at hr
  rw [HR.out, if_neg (by decide)]
  obtain ⟨Aw, cw, rfl⟩ := own_shape hr
  have hbw3 := hbw2.trans (hB.mono hbw2.size)
  have hc3 := Hc2.out.on hB
  have hs3 := Hs2.out.on hB
  have ho3 := Ho2.out.on hB
  have Hc3 := Lib.hid hc3; clear hc3 Hc2
  have Hs3 := Lib.hid hs3; clear hs3 Hs2
  have Ho3 := Lib.hid ho3; clear ho3 Ho2
  clear hr
  go_wp2_with fail
  refine (clright_any _ _ c (by omega) _ Ho3.out.ints).mono ?_
  rintro e w' ⟨rfl, rfl⟩
  rw [HR.out]
  go_wp2_with fail
  refine (clhas_any _ _ c l (by omega) _ Ho3.out.ints).mono ?_
  rintro e w' ⟨rfl, rfl⟩
  rw [HR.out, Bool.false_and]
  go_wp2_with fail
  refine (always_any _ _ c (by omega) _ (Nat.le_refl _) Ho3.out).mono ?_
  rintro e w4 ⟨rfl, hB⟩
  rw [HR.out, Bool.false_and]
  have hbw4 := hbw3.trans (hB.mono hbw3.size)
  have hc4 := Hc3.out.on hB
  have hs4 := Hs3.out.on hB
  have ho4 := Ho3.out.on hB
  have Hc4 := Lib.hid hc4; clear hc4 Hc3
  have Hs4 := Lib.hid hs4; clear hs4 Hs3
  have Ho4 := Lib.hid ho4; clear ho4 Ho3
  go_wp2_with fail
  refine (clause_any _ _ sm (by omega) _ (Nat.le_refl _) Hs4.out).mono ?_
  rintro e w5 ⟨vz, rfl, hr, hB⟩
  have hz5 := lits_own hr
  have hbw5 := hbw4.trans (hB.mono hbw4.size)
  have hc5 := Hc4.out.on hB
  have hs5 := Hs4.out.on hB
  have ho5 := Ho4.out.on hB
  have Hc5 := Lib.hid hc5; clear hc5 Hc4
  have Hs5 := Lib.hid hs5; clear hs5 Hs4
  have Ho5 := Lib.hid ho5; clear ho5 Ho4
  have Hz5 := Lib.hid hz5; clear hz5
  clear hr
  go_wp2_with fail
  refine (holds_any _ _ _ c sm (by omega) (by omega) _ (Nat.le_refl _) Ho5.out Hz5.out.ints).mono ?_
  rintro e w6 ⟨rfl, hB⟩
  rw [HR.out, Bool.false_and]
  have hbw6 := hbw5.trans (hB.mono hbw5.size)
  have hc6 := Hc5.out.on hB
  have hs6 := Hs5.out.on hB
  have ho6 := Ho5.out.on hB
  have hz6 := Hz5.out.on hB
  have Hc6 := Lib.hid hc6; clear hc6 Hc5
  have Hs6 := Lib.hid hs6; clear hs6 Hs5
  have Ho6 := Lib.hid ho6; clear ho6 Ho5
  have Hz6 := Lib.hid hz6; clear hz6 Hz5
  clear Hz6
  go_wp2_with fail
  refine (intsOf_any _ _ c (by omega) _ (Nat.le_refl _) Ho6.out.ints).mono ?_
  rintro e w7 ⟨vi, rfl, hr, hB⟩
  have hi7 := ints_own hr
  have hbw7 := hbw6.trans (hB.mono hbw6.size)
  have hc7 := Hc6.out.on hB
  have hs7 := Hs6.out.on hB
  have ho7 := Ho6.out.on hB
  have Hc7 := Lib.hid hc7; clear hc7 Hc6
  have Hs7 := Lib.hid hs7; clear hs7 Hs6
  have Ho7 := Lib.hid ho7; clear ho7 Ho6
  have Hi7 := Lib.hid hi7; clear hi7
  clear hr
  go_wp2_with fail
  refine (equal_is _ (by omega) (by omega) Hi7.out Hc7.out).mono ?_
  rintro e w' ⟨rfl, q, rfl⟩
  rw [beq_self_eq_true]
  have hB := below_drewN (Below.refl w7.heap.size w7) q
  obtain ⟨w8, hw⟩ : ∃ x, w7.drewN q = x := ⟨_, rfl⟩
  rw [hw] at hB ⊢
  clear hw
  have hbw8 := hbw7.trans (hB.mono hbw7.size)
  have hc8 := Hc7.out.on hB
  have hs8 := Hs7.out.on hB
  have ho8 := Ho7.out.on hB
  have hi8 := Hi7.out.on hB
  have Hc8 := Lib.hid hc8; clear hc8 Hc7
  have Hs8 := Lib.hid hs8; clear hs8 Hs7
  have Ho8 := Lib.hid ho8; clear ho8 Ho7
  have Hi8 := Lib.hid hi8; clear hi8 Hi7
  clear Hi8
  clear Hs8
  go_wp2_with fail
  refine (clnormal_any _ _ c (by omega) _ Ho8.out.ints).mono ?_
  rintro e w' ⟨rfl, q, rfl⟩
  rw [HR.out, Bool.false_and]
  have hB := below_drewN (Below.refl w8.heap.size w8) q
  obtain ⟨w9, hw⟩ : ∃ x, w8.drewN q = x := ⟨_, rfl⟩
  rw [hw] at hB ⊢
  clear hw
  have hbw9 := hbw8.trans (hB.mono hbw8.size)
  have hc9 := Hc8.out.on hB
  have ho9 := Ho8.out.on hB
  have Hc9 := Lib.hid hc9; clear hc9 Hc8
  have Ho9 := Lib.hid ho9; clear ho9 Ho8
  go_wp2_with fail
  go_ret
  exact ⟨rfl, hbw9⟩


set_option maxRecDepth 100000 in
set_option maxHeartbeats 16000000 in
theorem one_yes (cv sv : Value) (c sm : List Int) (l : Int) (hc : c.length ≤ 1000) (hs : sm.length ≤ 1000) (w : World) (hIc : Ints w.heap.size w cv c) (hIs : Ints w.heap.size w sv sm) (hr : rightB c = true) :
    Calls Try.prog 12 #[cv, .int .i64 l, sv] w fun e w' => e = .returned (.bool true) ∧ Below w.heap.size w w' := by
  obtain ⟨Ac, cc, rfl, -⟩ := ints_shape hIc
  obtain ⟨As, cs, rfl, -⟩ := ints_shape hIs
  obtain ⟨-, hl⟩ := rightB_of hr
  have hnl : (normL c).length ≤ 1000 := Nat.le_trans (norm_length c) hc
  have hll : (if litB l = true then normL (lessL c l) else []).length ≤ 1000 := by
    split
    · exact Nat.le_trans (norm_length _) (Nat.le_trans (lessL_length _ _) hc)
    · simp
  have hie := inc_eq c
  obtain ⟨ns, hN⟩ : ∃ ns, normL c = ns := ⟨_, rfl⟩
  obtain ⟨al, hA⟩ : ∃ al, alwB c = al := ⟨_, rfl⟩
  obtain ⟨hs', hH⟩ : ∃ hs', hasB c l = hs' := ⟨_, rfl⟩
  obtain ⟨ho, hHo⟩ : ∃ ho, holdsB c sm = ho := ⟨_, rfl⟩
  obtain ⟨ls, hLs⟩ : ∃ ls, (if litB l = true then normL (lessL c l) else []) = ls := ⟨_, rfl⟩
  obtain ⟨f, hF⟩ : ∃ f : Int, (if litB l = true then (0 : Int) else 10) = f := ⟨_, rfl⟩
  obtain ⟨ib, hIb⟩ : ∃ ib, incB c = ib := ⟨_, rfl⟩
  rw [hN] at hnl hie
  rw [hLs] at hll
  rw [hIb] at hie
  have q1 := bne_b hs'; have q2 := bne_b al; have q3 := bne_b ho; have q4 := bne_i f; have q5 := bne_b ib
  have HC0 := Lib.hid hIc; have Hc0 := Lib.hid hIc; have Hs0 := Lib.hid hIs; have HR := Lib.hid hr; have HL := Lib.hid hl; have HN := Lib.hid hN; have HA := Lib.hid hA; have HHs := Lib.hid hH; have HHo := Lib.hid hHo; have HLs := Lib.hid hLs; have HF := Lib.hid hF; have HIb := Lib.hid hIb; have HIe := Lib.hid hie
  clear hIc hIs hr hl hN hA hH hHo hLs hF hIb hie
  go_enter Try.func12, Try.ntmps12
  go_wp2_with fail
  refine (clause_any _ _ c (by omega) _ (Nat.le_refl _) Hc0.out).mono ?_
  rintro e w1 ⟨vo, rfl, hr, hB⟩
  have ho1 := lits_own hr
  have hbw1 := hB
  have hc1 := Hc0.out.on hB
  have hs1 := Hs0.out.on hB
  have Hc1 := Lib.hid hc1; clear hc1 Hc0
  have Hs1 := Lib.hid hs1; clear hs1 Hs0
  have Ho1 := Lib.hid ho1; clear ho1
  clear hr
  go_wp2_with fail
  refine (ref02_right _ _ c (by omega) _ Hc1.out).mono ?_
  rintro e w' ⟨rfl, rfl⟩
  rw [HR.out]
  have hO1 := Ho1.out; have HO1 := Lib.hid hO1; clear hO1
  have hmO1 := Below.refl w1.heap.size w1
  go_wp2_with fail
  refine (clnorm_any _ _ c (by omega) _ (Nat.le_refl _) Ho1.out).mono ?_
  rintro e w2 ⟨vn, rfl, hr, hB⟩
  have hBn := hB
  rw [HR.out, if_pos rfl, HN.out] at hr
  rw [HR.out, if_pos rfl, Bool.true_and, HA.out]
  obtain ⟨An, cn, rfl⟩ := own_shape hr
  have hgn : ∀ g, (Value.slice An ns.length cn).ownBlock = some g → g < w2.heap.size := fun g e => (hr.lt g e).2
  have HGn := Lib.hid hgn; clear hgn
  have hn2 := hr
  have hbw2 := hbw1.trans (hB.mono hbw1.size)
  have hmO2 := hmO1.trans (hB.mono hmO1.size); clear hmO1
  have hc2 := Hc1.out.on hB
  have hs2 := Hs1.out.on hB
  have ho2 := Ho1.out.on hB
  have Hc2 := Lib.hid hc2; clear hc2 Hc1
  have Hs2 := Lib.hid hs2; clear hs2 Hs1
  have Ho2 := Lib.hid ho2; clear ho2 Ho1
  have Hn2 := Lib.hid hn2; clear hn2
  clear hr
  go_wp2_with fail
  refine (clwithout_any _ _ c l (by omega) _ (Nat.le_refl _) Ho2.out).mono ?_
  rintro e w3 ⟨vw, rfl, hr, hB⟩
  rw [HR.out, if_pos rfl, HLs.out] at hr
  rw [HR.out, if_pos rfl, HF.out]
  obtain ⟨Aw, cw, rfl⟩ := own_shape hr
  have hw3 := hr
  have hbw3 := hbw2.trans (hB.mono hbw2.size)
  have hmO3 := hmO2.trans (hB.mono hmO2.size); clear hmO2
  have hc3 := Hc2.out.on hB
  have hs3 := Hs2.out.on hB
  have ho3 := Ho2.out.on hB
  have hn3 := owns_on Hn2.out hB
  have Hc3 := Lib.hid hc3; clear hc3 Hc2
  have Hs3 := Lib.hid hs3; clear hs3 Hs2
  have Ho3 := Lib.hid ho3; clear ho3 Ho2
  have Hn3 := Lib.hid hn3; clear hn3 Hn2
  have Hw3 := Lib.hid hw3; clear hw3
  clear hr
  go_wp2_with fail
  refine (clright_any _ _ c (by omega) _ Ho3.out.ints).mono ?_
  rintro e w' ⟨rfl, rfl⟩
  rw [HR.out]
  go_wp2_with fail
  refine (clhas_any _ _ c l (by omega) _ Ho3.out.ints).mono ?_
  rintro e w' ⟨rfl, rfl⟩
  rw [HR.out, Bool.true_and, HHs.out]
  go_wp2_with fail
  refine (ref_has _ _ c l (by omega) _ Hc3.out).mono ?_
  rintro e w' ⟨rfl, rfl⟩
  rw [HHs.out]
  go_wp2_with fail
  refine (always_any _ _ c (by omega) _ (Nat.le_refl _) Ho3.out).mono ?_
  rintro e w4 ⟨rfl, hB⟩
  rw [HR.out, Bool.true_and, HA.out]
  have hbw4 := hbw3.trans (hB.mono hbw3.size)
  have hmO4 := hmO3.trans (hB.mono hmO3.size); clear hmO3
  have hc4 := Hc3.out.on hB
  have hs4 := Hs3.out.on hB
  have ho4 := Ho3.out.on hB
  have hn4 := owns_on Hn3.out hB
  have hw4 := owns_on Hw3.out hB
  have Hc4 := Lib.hid hc4; clear hc4 Hc3
  have Hs4 := Lib.hid hs4; clear hs4 Hs3
  have Ho4 := Lib.hid ho4; clear ho4 Ho3
  have Hn4 := Lib.hid hn4; clear hn4 Hn3
  have Hw4 := Lib.hid hw4; clear hw4 Hw3
  go_wp2_with fail
  refine (ref_always _ _ c (by omega) HL.out _ Hc4.out).mono ?_
  rintro e w' ⟨rfl, rfl⟩
  rw [HA.out]
  go_wp2_with fail
  refine (clause_any _ _ sm (by omega) _ (Nat.le_refl _) Hs4.out).mono ?_
  rintro e w5 ⟨vz, rfl, hr, hB⟩
  have hz5 := lits_own hr
  have hbw5 := hbw4.trans (hB.mono hbw4.size)
  have hmO5 := hmO4.trans (hB.mono hmO4.size); clear hmO4
  have hc5 := Hc4.out.on hB
  have hs5 := Hs4.out.on hB
  have ho5 := Ho4.out.on hB
  have hn5 := owns_on Hn4.out hB
  have hw5 := owns_on Hw4.out hB
  have Hc5 := Lib.hid hc5; clear hc5 Hc4
  have Hs5 := Lib.hid hs5; clear hs5 Hs4
  have Ho5 := Lib.hid ho5; clear ho5 Ho4
  have Hn5 := Lib.hid hn5; clear hn5 Hn4
  have Hw5 := Lib.hid hw5; clear hw5 Hw4
  have Hz5 := Lib.hid hz5; clear hz5
  clear hr
  go_wp2_with fail
  refine (holds_any _ _ _ c sm (by omega) (by omega) _ (Nat.le_refl _) Ho5.out Hz5.out.ints).mono ?_
  rintro e w6 ⟨rfl, hB⟩
  rw [HR.out, Bool.true_and, HHo.out]
  have hbw6 := hbw5.trans (hB.mono hbw5.size)
  have hmO6 := hmO5.trans (hB.mono hmO5.size); clear hmO5
  have hc6 := Hc5.out.on hB
  have hs6 := Hs5.out.on hB
  have ho6 := Ho5.out.on hB
  have hn6 := owns_on Hn5.out hB
  have hw6 := owns_on Hw5.out hB
  have hz6 := Hz5.out.on hB
  have Hc6 := Lib.hid hc6; clear hc6 Hc5
  have Hs6 := Lib.hid hs6; clear hs6 Hs5
  have Ho6 := Lib.hid ho6; clear ho6 Ho5
  have Hn6 := Lib.hid hn6; clear hn6 Hn5
  have Hw6 := Lib.hid hw6; clear hw6 Hw5
  have Hz6 := Lib.hid hz6; clear hz6 Hz5
  clear Hz6
  go_wp2_with fail
  refine (ref_holds _ _ _ c sm (by omega) (by omega) _ Hc6.out Hs6.out).mono ?_
  rintro e w' ⟨rfl, rfl⟩
  rw [HHo.out]
  go_wp2_with fail
  refine (intsOf_any _ _ c (by omega) _ (Nat.le_refl _) Ho6.out.ints).mono ?_
  rintro e w7 ⟨vi, rfl, hr, hB⟩
  have hi7 := ints_own hr
  have hbw7 := hbw6.trans (hB.mono hbw6.size)
  have hmO7 := hmO6.trans (hB.mono hmO6.size); clear hmO6
  have hc7 := Hc6.out.on hB
  have hs7 := Hs6.out.on hB
  have ho7 := Ho6.out.on hB
  have hn7 := owns_on Hn6.out hB
  have hw7 := owns_on Hw6.out hB
  have Hc7 := Lib.hid hc7; clear hc7 Hc6
  have Hs7 := Lib.hid hs7; clear hs7 Hs6
  have Ho7 := Lib.hid ho7; clear ho7 Ho6
  have Hn7 := Lib.hid hn7; clear hn7 Hn6
  have Hw7 := Lib.hid hw7; clear hw7 Hw6
  have Hi7 := Lib.hid hi7; clear hi7
  clear hr
  go_wp2_with fail
  refine (equal_is _ (by omega) (by omega) Hi7.out Hc7.out).mono ?_
  rintro e w' ⟨rfl, q, rfl⟩
  rw [beq_self_eq_true]
  have hB := below_drewN (Below.refl w7.heap.size w7) q
  obtain ⟨w8, hw⟩ : ∃ x, w7.drewN q = x := ⟨_, rfl⟩
  rw [hw] at hB ⊢
  clear hw
  have hbw8 := hbw7.trans (hB.mono hbw7.size)
  have hmO8 := hmO7.trans (hB.mono hmO7.size); clear hmO7
  have hc8 := Hc7.out.on hB
  have hs8 := Hs7.out.on hB
  have ho8 := Ho7.out.on hB
  have hn8 := owns_on Hn7.out hB
  have hw8 := owns_on Hw7.out hB
  have hi8 := Hi7.out.on hB
  have Hc8 := Lib.hid hc8; clear hc8 Hc7
  have Hs8 := Lib.hid hs8; clear hs8 Hs7
  have Ho8 := Lib.hid ho8; clear ho8 Ho7
  have Hn8 := Lib.hid hn8; clear hn8 Hn7
  have Hw8 := Lib.hid hw8; clear hw8 Hw7
  have Hi8 := Lib.hid hi8; clear hi8 Hi7
  clear Hi8
  clear Hs8
  go_wp2_with fail
  refine (ref_without _ _ c l (by omega) HL.out _ (Nat.le_refl _) Hc8.out).mono ?_
  rintro e w9 ⟨vl, rfl, hr, hB⟩
  rw [HLs.out] at hr
  rw [HF.out]
  have hl9 := ints_own hr
  have hbw9 := hbw8.trans (hB.mono hbw8.size)
  have hmO9 := hmO8.trans (hB.mono hmO8.size); clear hmO8
  have hc9 := Hc8.out.on hB
  have ho9 := Ho8.out.on hB
  have hn9 := owns_on Hn8.out hB
  have hw9 := owns_on Hw8.out hB
  have Hc9 := Lib.hid hc9; clear hc9 Hc8
  have Ho9 := Lib.hid ho9; clear ho9 Ho8
  have Hn9 := Lib.hid hn9; clear hn9 Hn8
  have Hw9 := Lib.hid hw9; clear hw9 Hw8
  have Hl9 := Lib.hid hl9; clear hl9
  clear hr
  go_wp2_with fail
  refine (intsOf_any _ _ ns (by omega) _ (Nat.le_refl _) (ints_own Hn9.out)).mono ?_
  rintro e w10 ⟨vi, rfl, hr, hB⟩
  have hi10 := ints_own hr
  have hbw10 := hbw9.trans (hB.mono hbw9.size)
  have hmO10 := hmO9.trans (hB.mono hmO9.size); clear hmO9
  have hc10 := Hc9.out.on hB
  have ho10 := Ho9.out.on hB
  have hn10 := owns_on Hn9.out hB
  have hw10 := owns_on Hw9.out hB
  have hl10 := Hl9.out.on hB
  have Hc10 := Lib.hid hc10; clear hc10 Hc9
  have Ho10 := Lib.hid ho10; clear ho10 Ho9
  have Hn10 := Lib.hid hn10; clear hn10 Hn9
  have Hw10 := Lib.hid hw10; clear hw10 Hw9
  have Hl10 := Lib.hid hl10; clear hl10 Hl9
  have Hi10 := Lib.hid hi10; clear hi10
  clear hr
  go_wp2_with fail
  refine (ref_norm _ _ c (by omega) HL.out _ (Nat.le_refl _) Hc10.out).mono ?_
  rintro e w11 ⟨vj, rfl, hr, hB⟩
  rw [HN.out] at hr
  have hj11 := ints_own hr
  have hbw11 := hbw10.trans (hB.mono hbw10.size)
  have hmO11 := hmO10.trans (hB.mono hmO10.size); clear hmO10
  have hc11 := Hc10.out.on hB
  have ho11 := Ho10.out.on hB
  have hn11 := owns_on Hn10.out hB
  have hw11 := owns_on Hw10.out hB
  have hl11 := Hl10.out.on hB
  have hi11 := Hi10.out.on hB
  have Hc11 := Lib.hid hc11; clear hc11 Hc10
  have Ho11 := Lib.hid ho11; clear ho11 Ho10
  have Hn11 := Lib.hid hn11; clear hn11 Hn10
  have Hw11 := Lib.hid hw11; clear hw11 Hw10
  have Hl11 := Lib.hid hl11; clear hl11 Hl10
  have Hi11 := Lib.hid hi11; clear hi11 Hi10
  have Hj11 := Lib.hid hj11; clear hj11
  clear hr
  go_wp2_with fail
  refine (equal_is _ (by omega) (by omega) Hi11.out Hj11.out).mono ?_
  rintro e w' ⟨rfl, q, rfl⟩
  rw [beq_self_eq_true]
  have hB := below_drewN (Below.refl w11.heap.size w11) q
  obtain ⟨w12, hw⟩ : ∃ x, w11.drewN q = x := ⟨_, rfl⟩
  rw [hw] at hB ⊢
  clear hw
  have hbw12 := hbw11.trans (hB.mono hbw11.size)
  have hmO12 := hmO11.trans (hB.mono hmO11.size); clear hmO11
  have hc12 := Hc11.out.on hB
  have ho12 := Ho11.out.on hB
  have hn12 := owns_on Hn11.out hB
  have hw12 := owns_on Hw11.out hB
  have hl12 := Hl11.out.on hB
  have hi12 := Hi11.out.on hB
  have hj12 := Hj11.out.on hB
  have Hc12 := Lib.hid hc12; clear hc12 Hc11
  have Ho12 := Lib.hid ho12; clear ho12 Ho11
  have Hn12 := Lib.hid hn12; clear hn12 Hn11
  have Hw12 := Lib.hid hw12; clear hw12 Hw11
  have Hl12 := Lib.hid hl12; clear hl12 Hl11
  have Hi12 := Lib.hid hi12; clear hi12 Hi11
  have Hj12 := Lib.hid hj12; clear hj12 Hj11
  clear Hi12
  clear Hj12
  go_wp2_with fail
  refine (ref_always _ _ c (by omega) HL.out _ Hc12.out).mono ?_
  rintro e w' ⟨rfl, rfl⟩
  rw [HA.out]
  go_wp2_with fail
  refine (clnormal_any _ _ c (by omega) _ Ho12.out.ints).mono ?_
  rintro e w' ⟨rfl, q, rfl⟩
  rw [HR.out, Bool.true_and, HIb.out]
  have hB := below_drewN (Below.refl w12.heap.size w12) q
  obtain ⟨w13, hw⟩ : ∃ x, w12.drewN q = x := ⟨_, rfl⟩
  rw [hw] at hB ⊢
  clear hw
  have hbw13 := hbw12.trans (hB.mono hbw12.size)
  have hmO13 := hmO12.trans (hB.mono hmO12.size); clear hmO12
  have hc13 := Hc12.out.on hB
  have ho13 := Ho12.out.on hB
  have hn13 := owns_on Hn12.out hB
  have hw13 := owns_on Hw12.out hB
  have hl13 := Hl12.out.on hB
  have Hc13 := Lib.hid hc13; clear hc13 Hc12
  have Ho13 := Lib.hid ho13; clear ho13 Ho12
  have Hn13 := Lib.hid hn13; clear hn13 Hn12
  have Hw13 := Lib.hid hw13; clear hw13 Hw12
  have Hl13 := Lib.hid hl13; clear hl13 Hl12
  go_wp2_with fail
  refine (ref_norm _ _ c (by omega) HL.out _ (Nat.le_refl _) Hc13.out).mono ?_
  rintro e w14 ⟨vj, rfl, hr, hB⟩
  rw [HN.out] at hr
  have hj14 := ints_own hr
  have hbw14 := hbw13.trans (hB.mono hbw13.size)
  have hmO14 := hmO13.trans (hB.mono hmO13.size); clear hmO13
  have hc14 := Hc13.out.on hB
  have ho14 := Ho13.out.on hB
  have hn14 := owns_on Hn13.out hB
  have hw14 := owns_on Hw13.out hB
  have hl14 := Hl13.out.on hB
  have Hc14 := Lib.hid hc14; clear hc14 Hc13
  have Ho14 := Lib.hid ho14; clear ho14 Ho13
  have Hn14 := Lib.hid hn14; clear hn14 Hn13
  have Hw14 := Lib.hid hw14; clear hw14 Hw13
  have Hl14 := Lib.hid hl14; clear hl14 Hl13
  have Hj14 := Lib.hid hj14; clear hj14
  clear hr
  go_wp2_with fail
  refine (equal_is _ (by omega) (by omega) Hc14.out Hj14.out).mono ?_
  rintro e w' ⟨rfl, q, rfl⟩
  rw [HIe.out]
  have hB := below_drewN (Below.refl w14.heap.size w14) q
  obtain ⟨w15, hw⟩ : ∃ x, w14.drewN q = x := ⟨_, rfl⟩
  rw [hw] at hB ⊢
  clear hw
  have hbw15 := hbw14.trans (hB.mono hbw14.size)
  have hmO15 := hmO14.trans (hB.mono hmO14.size); clear hmO14
  have hc15 := Hc14.out.on hB
  have ho15 := Ho14.out.on hB
  have hn15 := owns_on Hn14.out hB
  have hw15 := owns_on Hw14.out hB
  have hl15 := Hl14.out.on hB
  have hj15 := Hj14.out.on hB
  have Hc15 := Lib.hid hc15; clear hc15 Hc14
  have Ho15 := Lib.hid ho15; clear ho15 Ho14
  have Hn15 := Lib.hid hn15; clear hn15 Hn14
  have Hw15 := Lib.hid hw15; clear hw15 Hw14
  have Hl15 := Lib.hid hl15; clear hl15 Hl14
  have Hj15 := Lib.hid hj15; clear hj15 Hj14
  clear Hj15
  go_wp2_with fail
  refine (intsOf_any _ _ ls (by omega) _ (Nat.le_refl _) (ints_own Hw15.out)).mono ?_
  rintro e w16 ⟨vi, rfl, hr, hB⟩
  have hi16 := ints_own hr
  have hbw16 := hbw15.trans (hB.mono hbw15.size)
  have hmO16 := hmO15.trans (hB.mono hmO15.size); clear hmO15
  have hc16 := Hc15.out.on hB
  have ho16 := Ho15.out.on hB
  have hn16 := owns_on Hn15.out hB
  have hw16 := owns_on Hw15.out hB
  have hl16 := Hl15.out.on hB
  have Hc16 := Lib.hid hc16; clear hc16 Hc15
  have Ho16 := Lib.hid ho16; clear ho16 Ho15
  have Hn16 := Lib.hid hn16; clear hn16 Hn15
  have Hw16 := Lib.hid hw16; clear hw16 Hw15
  have Hl16 := Lib.hid hl16; clear hl16 Hl15
  have Hi16 := Lib.hid hi16; clear hi16
  clear hr
  go_wp2_with fail
  refine (equal_is _ (by omega) (by omega) Hi16.out Hl16.out).mono ?_
  rintro e w' ⟨rfl, q, rfl⟩
  rw [beq_self_eq_true]
  have hB := below_drewN (Below.refl w16.heap.size w16) q
  obtain ⟨w17, hw⟩ : ∃ x, w16.drewN q = x := ⟨_, rfl⟩
  rw [hw] at hB ⊢
  clear hw
  have hbw17 := hbw16.trans (hB.mono hbw16.size)
  have hmO17 := hmO16.trans (hB.mono hmO16.size); clear hmO16
  have hc17 := Hc16.out.on hB
  have ho17 := Ho16.out.on hB
  have hn17 := owns_on Hn16.out hB
  have hw17 := owns_on Hw16.out hB
  have hl17 := Hl16.out.on hB
  have hi17 := Hi16.out.on hB
  have Hc17 := Lib.hid hc17; clear hc17 Hc16
  have Ho17 := Lib.hid ho17; clear ho17 Ho16
  have Hn17 := Lib.hid hn17; clear hn17 Hn16
  have Hw17 := Lib.hid hw17; clear hw17 Hw16
  have Hl17 := Lib.hid hl17; clear hl17 Hl16
  have Hi17 := Lib.hid hi17; clear hi17 Hi16
  clear Hi17
  clear Hl17
  go_wp2_with fail
  have hz := hmO17; have HZ := Lib.hid hz; clear hz hmO17
  go_loopw [153] (fun i wr => ZeroRel2 w1.heap.size ns.length (.slice An ns.length cn) w2.heap.size ls.length (.slice Aw ls.length cw) (ls.map (Value.int .i64)) w17 i wr) (fun i _ => ns.length - (intOf i).toNat)
  case atStart => exact ⟨0, _, Nat.zero_le _, rfl, Hn17.out, Hw17.out, Below.refl _ _⟩
  case round =>
    obtain ⟨k, xs, hk, rfl, hrow, hrow2, hbr⟩ := hrel
    by_cases hlt : k < ns.length
    · obtain ⟨g, cap, e, ⟨u, hcu⟩, hfu, hX⟩ := zero_step hrow hlt
      cases e
      have hg := HGn.out g (by rfl)
      obtain ⟨-, hnew, hbn⟩ := hX _ hbr
      have hnew2 := ownsRow_setCell_below hrow2 (a := ⟨g, k, none⟩) hg (.int .i64 0)
      have HA1 := Lib.hid hnew; have HA2 := Lib.hid hnew2
      clear hX hnew hnew2 hrow hrow2
      go_wp2_with fail
      go_roundw
      case rel => exact ⟨k + 1, _, by omega, by go_num, HA1.out, HA2.out, hbn⟩
      case measure => simp [intOf]; omega
    · obtain rfl : k = ns.length := by omega
      obtain ⟨wa, rfl⟩ : ∃ wa : World, wa = wr := ⟨_, rfl⟩
      have HR2 := Lib.hid hrow2; clear hrow hrow2
      have hw12 : w1.heap.size ≤ w2.heap.size := hBn.size
      go_wp2_with fail
      go_loopw [162] (fun i wr => ZeroRel w2.heap.size ls.length (.slice Aw ls.length cw) wa i wr) (fun i _ => ls.length - (intOf i).toNat)
      case atStart => exact ⟨0, _, Nat.zero_le _, rfl, HR2.out, Below.refl _ _⟩
      case round =>
        obtain ⟨k, xs, hk, rfl, hrow, hbr2⟩ := hrel
        by_cases hlt : k < ls.length
        · obtain ⟨g, cap, e, ⟨u, hcu⟩, hfu, hX⟩ := zero_step hrow hlt
          cases e
          obtain ⟨-, hnew, hbn⟩ := hX _ hbr2
          have HA1 := Lib.hid hnew
          clear hX hnew hrow
          go_wp2_with fail
          go_roundw
          case rel => exact ⟨k + 1, _, by omega, by go_num, HA1.out, hbn⟩
          case measure => simp [intOf]; omega
        · obtain rfl : k = ls.length := by omega
          have hball : Below w1.heap.size w1 wr := HZ.out.trans (hbr.trans (hbr2.mono hw12))
          have hba0 : Below w.heap.size w wr := hbw1.trans (hball.mono hbw1.size)
          have hoz : Lits wr.heap.size wr vo c := (HO1.out.below hball).more hball.size
          have hcz : Ints wr.heap.size wr (.slice Ac c.length cc) c := (HC0.out.below hba0).more hba0.size
          have HOz := Lib.hid hoz; have HCz := Lib.hid hcz; clear hoz hcz hrow hball
          go_wp2_with fail
          refine (intsOf_any _ _ c (by omega) _ (Nat.le_refl _) HOz.out.ints).mono ?_
          rintro e wb ⟨vi, rfl, hr, hB⟩
          have hi1 := ints_own hr
          have hc1 := HCz.out.on hB
          have hbb := hba0.trans (hB.mono hba0.size)
          have HI1 := Lib.hid hi1; have HC1 := Lib.hid hc1; clear hi1 hc1 hr
          go_wp2_with fail
          refine (equal_is _ (by omega) (by omega) HI1.out HC1.out).mono ?_
          rintro e w' ⟨rfl, q, rfl⟩
          rw [beq_self_eq_true]
          go_wp2_with fail
          go_ret
          exact ⟨rfl, below_drewN hbb q⟩

theorem one_any (cv sv : Value) (c sm : List Int) (l : Int) (hc : c.length ≤ 1000) (hs : sm.length ≤ 1000) (w : World) (hIc : Ints w.heap.size w cv c) (hIs : Ints w.heap.size w sv sm) :
    Calls Try.prog 12 #[cv, .int .i64 l, sv] w fun e w' => e = .returned (.bool true) ∧ Below w.heap.size w w' := by
  cases hr : rightB c
  · exact one_no cv sv c sm l hc hs w hIc hIs hr
  · exact one_yes cv sv c sm l hc hs w hIc hIs hr
end Go.Proofs.Ytngjcacodoihdaa
