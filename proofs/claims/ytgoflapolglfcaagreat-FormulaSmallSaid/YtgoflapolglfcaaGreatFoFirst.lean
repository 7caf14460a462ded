/- formula.Count. -/
/- formula.Models: what it gives back, and a loop over it. -/
/- formula.First. -/
import Derived.Test.YtgoflapolglfcaaGreatFoTriedAll
import Derived.Test.YtgoflapolglfcaaGreatAppend2
import Derived.Test.YtgoflapolglfcaaGreatRoundRegion
import Derived.RangeFuncBox
import Derived.RangeFuncNested
import Derived.RangeFuncLeaves
import Derived.Shelf.Abstract
import Derived.Shelf.AbstractIn
import Derived.Shelf.RegionOpen
import Derived.OwnWalkIn
import Derived.TacticsInMore
import Derived.LoopNIn
import Derived.LoopIn
import Derived.Stop.RegionWithIn
namespace Go.Proofs.YtgoflapolglfcaaGreat
open Go.RowKit Go.ChangeAt Go.ChangeShapes Go.WideShapes

/-- The error of those that try all models. -/
def triedE (vars : Int) (L : List (List Int)) : Int := if (chkI vars L).2 = 0 then (if 16 < vars then 5 else 0) else (chkI vars L).2
theorem triedE_ok {vars : Int} {L : List (List Int)} (h : triedE vars L = 0) : (chkI vars L).2 = 0 ∧ ∃ n : Nat, vars = n ∧ n ≤ 16 := by
  unfold triedE at h
  split at h
  · rename_i h0
    refine ⟨h0, vars.toNat, ?_⟩
    have := chk_ok h0
    split at h <;> omega
  · rename_i h0; exact absurd h h0
def cntN (n : Nat) (L : List (List Int)) (k : Nat) : Nat := ((List.range k).filter (holdsN n L)).length
theorem cntN_step (n : Nat) (L : List (List Int)) (k : Nat) : cntN n L (k + 1) = if failN n L k then cntN n L k else cntN n L k + 1 := by
  unfold cntN
  rw [List.range_succ, List.filter_append, List.length_append, failN_holds]
  cases h : holdsN n L k <;> simp [h]
theorem cntN_le (n : Nat) (L : List (List Int)) (k : Nat) : cntN n L k ≤ k := by
  unfold cntN
  exact Nat.le_trans (List.length_filter_le _ _) (by simp)
theorem cntN_all (n : Nat) (L : List (List Int)) : cntN n L (2 ^ n) = (modelsB n L).length := by
  unfold cntN modelsB
  rw [List.length_map]
def CntRel (n : Nat) (L : List (List Int)) (M : Nat) (c i : Value) : Prop := ∃ k : Nat, k ≤ M ∧ i = .int .i64 k ∧ c = .int .i64 (cntN n L k : Nat)
set_option maxRecDepth 100000 in
set_option maxHeartbeats 2000000 in
theorem count_ok {C : Nat} {v : Value} {L : List (List Int)} (n : Nat) (hn16 : n ≤ 16) (w : World) (hC : C ≤ w.heap.size) (hz : ∀ zs ∈ L, zs.length ≤ 1000000) (hL : RowsL C w v L) (hok : (chkI (n : Int) L).2 = 0) :
    Calls Tryz.prog 7 #[.agg #[.int .i64 (n : Nat), v]] w fun e w' => e = .returned (.tuple #[.int .i64 ((modelsB n L).length : Nat), .int .i64 0]) ∧ Below w.heap.size w w' := by
  obtain ⟨A, cap, rfl, -⟩ := rowsL_shape hL
  have b1 := below1a w (.cells #[.int .i64 (n : Nat), .slice A L.length cap] 27)
  have m1 := fo_new w (n : Nat) (.slice A L.length cap) 27
  obtain ⟨w1, hw1⟩ : ∃ y, w.alloc (.cells #[.int .i64 (n : Nat), .slice A L.length cap] 27) = y := ⟨_, rfl⟩
  rw [hw1] at b1 m1
  have c0 := m1.1
  have c1 := m1.2.1
  have htr := tried_ok n hn16 w1 (Nat.le_trans hC b1.size) hz (hL.below (b1.mono hC)) hok
  have hcl := cntN_all n L
  obtain ⟨M, hM⟩ : ∃ M, 2 ^ n = M := ⟨_, rfl⟩
  obtain ⟨R, hR⟩ : ∃ M, (modelsB n L).length = M := ⟨_, rfl⟩
  have h16 : M ≤ 65536 := by rw [← hM]; exact Nat.le_trans (Nat.pow_le_pow_right (by omega) hn16) (by decide)
  rw [hM] at htr
  rw [hM, hR] at hcl
  rw [hR]
  have HTr := Lib.hid htr; have HB := Lib.hid b1; have HW := Lib.hid hw1; have HCl := Lib.hid hcl
  clear htr b1 m1 hw1 hL hz hok hM hR hcl
  go_enter Tryz.func7, Tryz.ntmps7
  go_wp2_with fail
  rw [HW.out]
  go_wp2_with fail
  refine HTr.out.mono ?_
  rintro e w2 ⟨fv, rfl, hrow, hb2⟩
  obtain ⟨Af, cf, rfl⟩ := own_shape0 hrow
  have HB2 := Lib.hid (below_cat HB.out hb2)
  have hcells : ∀ j, j < M → ∃ g, Af = some ⟨g, 0, none⟩ ∧ w2.cell? ⟨g, j, none⟩ = some (.bool (failN n L j)) := fun j hj => by
    rcases hrow.2 with ⟨-, h0⟩ | ⟨g, cap, cur, h, -⟩
    · omega
    · cases h
      refine ⟨g, rfl, ?_⟩
      rw [hrow.cellAt j (by omega), List.getElem?_map, List.getElem?_range hj]
      rfl
  have HCs := Lib.hid hcells
  clear hrow hb2 hcells
  go_wp2_with fail
  go_loop [6, 16] (fun c i => CntRel n L M c i) (fun _ i => M - (intOf i).toNat)
  case atStart => exact ⟨0, Nat.zero_le _, rfl, rfl⟩
  case round =>
    obtain ⟨k, hk, rfl, rfl⟩ := hrel
    have hst := cntN_step n L k
    have hcl := cntN_le n L k
    obtain ⟨c, hc⟩ : ∃ c, cntN n L k = c := ⟨_, rfl⟩
    rw [hc] at hst hcl
    rw [hc]
    have HC := Lib.hid hc; have HSt := Lib.hid hst
    clear hc hst
    by_cases hlt : k < M
    · obtain ⟨g, rfl, hck⟩ := HCs.out k hlt
      obtain ⟨b, hb⟩ : ∃ b, failN n L k = b := ⟨_, rfl⟩
      rw [hb] at hck
      have HBb := Lib.hid hb; have HNx := Lib.hid hlt
      have hki : (k : Int) < (M : Int) := by omega
      clear hb HCs
      cases b
      · go_wp2_with fail
        go_round
        case rel => exact ⟨k + 1, HNx.out, by go_num, by rw [HSt.out, HBb.out]; go_num⟩
        case measure => simp [intOf]; omega
      · go_wp2_with fail
        go_round
        case rel => exact ⟨k + 1, HNx.out, by go_num, by rw [HSt.out, HBb.out]; rfl⟩
        case measure => simp [intOf]; omega
    · obtain rfl : k = M := by omega
      have hR := HC.out
      rw [HCl.out] at hR
      subst hR
      clear HCs
      go_wp2_with fail
      go_ret2
      exact ⟨rfl, HB2.out⟩
def NilRel (c i : Value) : Prop := c = .int .i64 0 ∧ i = .int .i64 0
set_option maxRecDepth 100000 in
set_option maxHeartbeats 2000000 in
theorem count_bad {C : Nat} {v : Value} {L : List (List Int)} (vars : Int) (w : World) (hC : C ≤ w.heap.size) (hn : L.length ≤ 1000000000) (hz : ∀ zs ∈ L, zs.length ≤ 1000000) (hL : RowsL C w v L) (f : Int) (hf : triedE vars L = f) (h0 : f ≠ 0) :
    Calls Tryz.prog 7 #[.agg #[.int .i64 vars, v]] w fun e w' => e = .returned (.tuple #[.int .i64 0, .int .i64 f]) ∧ Below w.heap.size w w' := by
  obtain ⟨A, cap, rfl, -⟩ := rowsL_shape hL
  have b1 := below1a w (.cells #[.int .i64 vars, .slice A L.length cap] 27)
  have m1 := fo_new w vars (.slice A L.length cap) 27
  obtain ⟨w1, hw1⟩ : ∃ y, w.alloc (.cells #[.int .i64 vars, .slice A L.length cap] 27) = y := ⟨_, rfl⟩
  rw [hw1] at b1 m1
  have c0 := m1.1
  have c1 := m1.2.1
  have htr := tried_bad vars w1 (Nat.le_trans hC b1.size) hn hz (hL.below (b1.mono hC)) f hf h0
  have HTr := Lib.hid htr; have HB := Lib.hid b1; have HW := Lib.hid hw1
  clear htr b1 m1 hw1 hL hz hf h0
  go_enter Tryz.func7, Tryz.ntmps7
  go_wp2_with fail
  rw [HW.out]
  go_wp2_with fail
  refine HTr.out.mono ?_
  rintro e w2 ⟨rfl, hb2⟩
  have HB2 := Lib.hid (below_cat HB.out hb2)
  clear hb2
  go_wp2_with fail
  go_loop [6, 16] (fun c i => NilRel c i) (fun _ _ => 0)
  case atStart => exact ⟨rfl, rfl⟩
  case round =>
    obtain ⟨rfl, rfl⟩ := hrel
    go_wp2_with fail
    go_ret2
    exact ⟨rfl, HB2.out⟩
end Go.Proofs.YtgoflapolglfcaaGreat
namespace Go.Proofs.YtgoflapolglfcaaGreat
open Go.RowKit Go.ChangeAt Go.ChangeShapes Go.WideShapes

attribute [local go_sem] Oper.semAt_some

theorem models_at {n : Nat} {L : List (List Int)} {k : Nat} (hk : k < 2 ^ n) (h : failN n L k = false) : (modelsB n L)[cntN n L k]? = some (bitM n k) := by
  have h : holdsN n L k = true := by rw [failN_holds] at h; simpa using h
  obtain ⟨m, hm⟩ : ∃ m, 2 ^ n = k + (m + 1) := ⟨2 ^ n - k - 1, by omega⟩
  unfold modelsB cntN
  rw [hm, List.range_add, List.filter_append, List.map_append, List.getElem?_append_right (by rw [List.length_map]; exact Nat.le_refl _), List.length_map, Nat.sub_self, List.range_succ_eq_map, List.map_cons, Nat.add_zero, List.filter_cons_of_pos h]
  rfl
theorem below2c (w : World) (A B : Obj) : Below w.heap.size w ((w.alloc A).alloc B) := ((Below.refl _ _).alloc (Nat.le_refl _) _).alloc (by simp) _
/-- What Models holds on to: whether each model fails, and how many variables there are; all of it below B. -/
def MdAt (n : Nat) (L : List (List Int)) (bf bv g cf B : Nat) (W : World) : Prop :=
  W.cell? ⟨bf, 0, none⟩ = some (.slice (some ⟨g, 0, none⟩) (2 ^ n) cf) ∧ W.cell? ⟨bv, 0, none⟩ = some (.int .i64 (n : Nat)) ∧ (∀ j, j < 2 ^ n → W.cell? ⟨g, j, none⟩ = some (.bool (failN n L j))) ∧ bf < B ∧ bv < B ∧ g < B ∧ B ≤ W.heap.size
theorem MdAt.below {n : Nat} {L : List (List Int)} {bf bv g cf B : Nat} {W W' : World} (h : MdAt n L bf bv g cf B W) (hb : Below B W W') : MdAt n L bf bv g cf B W' := by
  obtain ⟨h1, h2, h3, h4, h5, h6, h7⟩ := h
  exact ⟨(hb.cell (p := ⟨bf, 0, none⟩) h4).trans h1, (hb.cell (p := ⟨bv, 0, none⟩) h5).trans h2, fun j hj => (hb.cell (p := ⟨g, j, none⟩) h6).trans (h3 j hj), h4, h5, h6, Nat.le_trans h7 hb.size⟩
set_option maxRecDepth 100000 in
set_option maxHeartbeats 2000000 in
theorem models_ok {C : Nat} {v : Value} {L : List (List Int)} (n : Nat) (hn16 : n ≤ 16) (w : World) (hC : C ≤ w.heap.size) (hz : ∀ zs ∈ L, zs.length ≤ 1000000) (hL : RowsL C w v L) (hok : (chkI (n : Int) L).2 = 0) :
    Calls Tryz.prog 21 #[.agg #[.int .i64 (n : Nat), v]] w fun e w' => ∃ bf bv g cf, e = .returned (.tuple #[.func (.func 51) #[] #[.pointer (some ⟨bf, 0, none⟩), .pointer (some ⟨bv, 0, none⟩)], .int .i64 0]) ∧ MdAt n L bf bv g cf w'.heap.size w' ∧ Below w.heap.size w w' := by
  obtain ⟨A, cap, rfl, -⟩ := rowsL_shape hL
  have b1 := below1a w (.cells #[.int .i64 (n : Nat), .slice A L.length cap] 27)
  have m1 := fo_new w (n : Nat) (.slice A L.length cap) 27
  obtain ⟨w1, hw1⟩ : ∃ y, w.alloc (.cells #[.int .i64 (n : Nat), .slice A L.length cap] 27) = y := ⟨_, rfl⟩
  rw [hw1] at b1 m1
  have c0 := m1.1
  have c1 := m1.2.1
  have htr := tried_ok n hn16 w1 (Nat.le_trans hC b1.size) hz (hL.below (b1.mono hC)) hok
  have HTr := Lib.hid htr; have HB := Lib.hid b1; have HW := Lib.hid hw1; have HF1 := Lib.hid m1
  clear htr b1 m1 hw1 hL hz hok
  go_enter Tryz.func21, Tryz.ntmps21
  go_wp2_with fail
  rw [HW.out]
  go_wp2_with fail
  refine HTr.out.mono ?_
  rintro e w2 ⟨fv, rfl, hrow, hb2⟩
  obtain ⟨c0, c1, hgl⟩ := HF1.out.on hb2
  have HB2 := Lib.hid (below_cat HB.out hb2)
  obtain ⟨Af, cf, rfl⟩ := own_shape0 hrow
  have HRow := Lib.hid hrow
  clear hrow hb2
  go_wp2_with fail
  go_ret2
  have hpos := Nat.two_pow_pos n
  obtain ⟨g, rfl⟩ : ∃ g, Af = some ⟨g, 0, none⟩ := by
    rcases HRow.out.2 with ⟨-, h0⟩ | ⟨g, cap, cur, h, -⟩
    · omega
    · cases h; exact ⟨g, rfl⟩
  have hg := (HRow.out.lt g rfl).2
  have bN := below2c w2 (.cells #[.slice (some ⟨g, 0, none⟩) (2 ^ n) cf] 29) (.cells #[.int .i64 (n : Nat)] 3)
  refine ⟨_, _, g, cf, rfl, ⟨?_, ?_, fun j hj => ?_, by simp; omega, by simp, by simp; omega, Nat.le_refl _⟩, below_cat HB2.out bN⟩
  · exact ((below1a (w2.alloc (.cells #[.slice (some ⟨g, 0, none⟩) (2 ^ n) cf] 29)) (.cells #[.int .i64 (n : Nat)] 3)).cell (p := ⟨w2.heap.size, 0, none⟩) (by simp)).trans ((Whole.made w2 29 #[.slice (some ⟨g, 0, none⟩) (2 ^ n) cf]).cell 0)
  · have := (Whole.made (w2.alloc (.cells #[.slice (some ⟨g, 0, none⟩) (2 ^ n) cf] 29)) 3 #[.int .i64 (n : Nat)]).cell 0
    rwa [World.size_alloc] at this
  · refine (bN.cell (p := ⟨g, j, none⟩) hg).trans ?_
    rw [HRow.out.cellAt j (by omega), List.getElem?_map, List.getElem?_range hj]
    rfl
set_option maxRecDepth 100000 in
set_option maxHeartbeats 2000000 in
theorem models_bad {C : Nat} {v : Value} {L : List (List Int)} (vars : Int) (w : World) (hC : C ≤ w.heap.size) (hn : L.length ≤ 1000000000) (hz : ∀ zs ∈ L, zs.length ≤ 1000000) (hL : RowsL C w v L) (f : Int) (hf : triedE vars L = f) (h0 : f ≠ 0) :
    Calls Tryz.prog 21 #[.agg #[.int .i64 vars, v]] w fun e w' => e = .returned (.tuple #[.nilFunc, .int .i64 f]) ∧ Below w.heap.size w w' := by
  obtain ⟨A, cap, rfl, -⟩ := rowsL_shape hL
  have b1 := below1a w (.cells #[.int .i64 vars, .slice A L.length cap] 27)
  have m1 := fo_new w vars (.slice A L.length cap) 27
  obtain ⟨w1, hw1⟩ : ∃ y, w.alloc (.cells #[.int .i64 vars, .slice A L.length cap] 27) = y := ⟨_, rfl⟩
  rw [hw1] at b1 m1
  have c0 := m1.1
  have c1 := m1.2.1
  have htr := tried_bad vars w1 (Nat.le_trans hC b1.size) hn hz (hL.below (b1.mono hC)) f hf h0
  have HTr := Lib.hid htr; have HB := Lib.hid b1; have HW := Lib.hid hw1
  have hq : (f == 0) = false := by rw [beq_eq_false_iff_ne]; exact h0
  clear htr b1 m1 hw1 hL hz hf
  go_enter Tryz.func21, Tryz.ntmps21
  go_wp2_with fail
  rw [HW.out]
  go_wp2_with fail
  refine HTr.out.mono ?_
  rintro e w2 ⟨rfl, hb2⟩
  have HB2 := Lib.hid (below_cat HB.out hb2)
  clear hb2
  go_wp2_with fail
  go_ret2
  exact ⟨rfl, below_cat HB2.out (below1a w2 _)⟩
/-! ### a loop over it -/
/-- What is handed over: the next model, in a row that is new since B. -/
def MdStep (n : Nat) (L : List (List Int)) (B : Nat) (s : Nat) (x : List Bool) (args : Array Value) (W : World) : Prop := (modelsB n L)[s]? = some x ∧ ∃ v, args = #[v] ∧ W.ownsRow B 4 1 v n (x.map Value.bool)
def MdRel (J : Nat → World → Prop) (n : Nat) (L : List (List Int)) (M : Nat) (i : Value) (W : World) : Prop := ∃ k, k ≤ M ∧ i = .int .i64 (k : Nat) ∧ J (cntN n L k) W
set_option maxRecDepth 100000 in
set_option maxHeartbeats 4000000 in
theorem models1_in (m : Nat) (hm : 1 ≤ m) (n : Nat) (hn16 : n ≤ 16) (L : List (List Int)) (bf bv g cf B l : Nat) (J : Nat → World → Prop) (Jx : World → Prop) (hJ : ∀ s W W', J s W → Below W.heap.size W W' → J s W') (hA : ∀ s W, J s W → MdAt n L bf bv g cf B W) (W : World) (h0 : J 0 W)
    (hY : ∀ s x args W, J s W → MdStep n L B s x args W → YieldAt .wide (m - 1) Tryz.prog l args W fun e W' => (e = .returned (.bool true) ∧ J (s + 1) W') ∨ (e = .returned (.bool false) ∧ Jx W')) :
    CallsIn .wide m Tryz.prog 51 #[.func (.yield l) #[] #[], .pointer (some ⟨bf, 0, none⟩), .pointer (some ⟨bv, 0, none⟩)] W fun e W' => (∃ v, e = .returned v) ∧ (J (modelsB n L).length W' ∨ Jx W') := by
  obtain ⟨a1, a2, -, -, -, -, -⟩ := hA _ _ h0
  have hcl := cntN_all n L
  obtain ⟨M, hM⟩ : ∃ M, 2 ^ n = M := ⟨_, rfl⟩
  have h16 : M ≤ 65536 := by rw [← hM]; exact Nat.le_trans (Nat.pow_le_pow_right (by omega) hn16) (by decide)
  rw [hM] at a1 hcl
  have HA := Lib.hid hA; have HY := Lib.hid hY; have HJ := Lib.hid hJ; have HM := Lib.hid hM; have HCl := Lib.hid hcl
  have hstart : MdRel J n L M (.int .i64 (0 : Nat)) W := ⟨0, Nat.zero_le _, rfl, by simpa [cntN] using h0⟩
  have H0 := Lib.hid hstart
  clear hA hY hJ hM hcl h0 hstart
  refine callsIn_of_wp Tryz.func51 rfl trivial ?_ rfl
  simp only [Tryz.ntmps51, List.size_toArray, List.length_cons, List.length_nil, Nat.reduceAdd, Nat.reduceSub, Array.replicate_succ, Array.replicate_zero, List.push_toArray, List.append_toArray, List.nil_append, List.cons_append]
  gi_wp2_with fail
  gi_loopw [8] (fun i wr => MdRel J n L M i wr) (fun i _ => M - (intOf i).toNat)
  case atStart => exact H0.out
  case round =>
    clear H0 a1 a2
    obtain ⟨k, hk, rfl, hJs⟩ := hrel
    have hst := cntN_step n L k
    by_cases hlt : k < M
    · obtain ⟨a1, a2, a3, -, -, hgB, hBs⟩ := HA.out _ _ hJs
      have hck := a3 k (by rw [HM.out]; exact hlt)
      have hki : (k : Int) < (M : Int) := by omega
      obtain ⟨b, hb⟩ : ∃ b, failN n L k = b := ⟨_, rfl⟩
      rw [hb] at hck hst
      have HSt := Lib.hid hst; have HJs := Lib.hid hJs; have HNx := Lib.hid hlt
      have hk62 : k ≤ 65536 := by omega
      cases b
      · have hat := models_at (L := L) (by rw [HM.out]; exact hlt) hb
        have hnu := numbered_any n k hn16 (by rw [HM.out]; exact hlt) wr
        have HAt := Lib.hid hat; have HNu := Lib.hid hnu; have HBs := Lib.hid hBs
        clear hst hJs hlt hb a1 a3 hat hnu hgB hBs
        gi_wp2_with (refine ⟨trivial, ?_⟩; gi_at_call 52; refine (callsIn_wide.2 HNu.out).mono ?_; rintro e w2 ⟨v, rfl, hrow, hb2⟩; have hJ2 := HJ.out _ _ _ HJs.out hb2; obtain ⟨fn, tmps, assign, body, hy, hR⟩ := HY.out _ _ #[v] w2 hJ2 ⟨HAt.out, v, rfl, hrow.mono HBs.out⟩; have HR := Lib.hid hR; clear hR hrow hJ2 hb2)
        refine HR.out.mono ?_
        rintro e W3 (⟨rfl, hJ3⟩ | ⟨rfl, hJx3⟩)
        · have HJ3 := Lib.hid hJ3
          clear hJ3 HR
          gi_wp2
          go_roundw
          case rel => exact ⟨k + 1, HNx.out, by go_num, by rw [HSt.out]; exact HJ3.out⟩
          case measure => simp [intOf]; omega
        · gi_wp2
          refine bodyPost_ret (results_none rfl _ _ _) rfl ?_
          exact ⟨⟨_, rfl⟩, .inr hJx3⟩
      · clear hJs hst hb a1 a3 hgB hBs hlt
        gi_wp2_with fail
        refine ⟨trivial, ?_⟩
        gi_wp2_with fail
        refine ⟨fun _ h => (by cases h), ?_⟩
        gi_wp2_with fail
        go_roundw
        case rel => exact ⟨k + 1, HNx.out, by go_num, by rw [HSt.out]; exact HJs.out⟩
        case measure => simp [intOf]; omega
    · obtain rfl : k = M := by omega
      rw [HCl.out] at hJs
      have HJs := Lib.hid hJs
      clear hJs hst
      gi_wp2_with fail
      go_end0
      exact ⟨⟨_, rfl⟩, .inl HJs.out⟩
theorem steady_md {B0 : Nat} (n : Nat) (L : List (List Int)) (bf bv g cf B : Nat) (hB : B ≤ B0) : Steady B0 (MdAt n L bf bv g cf B) := fun _ _ _ h hg hr => h.below ((Below.refl _ _).grown hg h.2.2.2.2.2.2 (fun k e => Nat.le_trans hB (hr k e).1))
theorem eg_models : ∀ args w, (callFunc 51 args).run Tryz.prog w = .ok (.enter 51 args) w := enters_of Tryz.func51 (by kernel_rfl) rfl
theorem steady_step {B : Nat} (n : Nat) (L : List (List Int)) (C s : Nat) (x : List Bool) (args : Array Value) : Steady B (MdStep n L C s x args) := fun W W' row ⟨h1, v, h2, h3⟩ hg hr => ⟨h1, v, h2, steady_row _ _ _ _ _ _ W W' row h3 hg hr⟩
theorem range_models {n' : Nat} (hn : 2 ≤ n') {gop : Operand} {ps : Array Tmp} {assign body : Code} {Q : Exit → Act → World → Prop} {a : Act} {w : World} (n : Nat) (hn16 : n ≤ 16) (L : List (List Int)) (bf bv g cf B : Nat)
    (hg : a.eval gop = .func (.func 51) #[] #[.pointer (some ⟨bf, 0, none⟩), .pointer (some ⟨bv, 0, none⟩)]) (hps : ps.size = 1)
    (I : Nat → World → Prop) (Ix : Code → World → Prop) (hI : ∀ s, Steady w.heap.size (I s)) (hIx : ∀ c, Steady w.heap.size (Ix c)) (h0 : I 0 w) (hA : ∀ s W, I s W → MdAt n L bf bv g cf B W)
    (a₁ : Value → Act)
    (hassign : ∀ (l : Nat) (v : Value) (W : World) (K : Act → World → Prop), K (a₁ v) W →
      assign.wpIn (Fence.wide.inRound l) (n' - 1 - 1) Tryz.prog (Exit.then K (fun _ _ _ => False)) { tmps := (ps.zip #[v]).foldl (fun t (p, v) => t.setIfInBounds p v) a.tmps, defers := [] } W)
    (hbody : ∀ (l s : Nat) (x : List Bool) (v : Value) (W : World), I s W → (modelsB n L)[s]? = some x → W.ownsRow B 4 1 v n (x.map Value.bool) →
      body.wpIn (Fence.wide.inRound l) (n' - 1 - 1) Tryz.prog (outs (fun s' : Nat => s' = s + 1) I Ix W) (a₁ v) W)
    (hdone : ∀ (D : Nat) (W : World), w.heap.size ≤ D → I (modelsB n L).length W → W.heap[D]? = some (.deferred (some [])) → Q .normal { a with defers := { target := .collected D, args := #[] } :: a.defers } W)
    (hstop : ∀ (D : Nat) (c : Code) (W : World), w.heap.size ≤ D → Ix c W → W.heap[D]? = some (.deferred (some [])) → c.wpIn .wide n' Tryz.prog Q { a with defers := { target := .collected D, args := #[] } :: a.defers } W) :
    (Code.rangeFunc gop ps assign body).wpIn .wide n' Tryz.prog Q a w := by
  refine wide_range (α := List Bool) hg eg_models I Ix hI hIx 0 h0 (fun s W s' W' => s' = s ∧ Below W.heap.size W W') ?_ ?_ (MdStep n L B) (steady_step n L B) (fun s _ s' => s' = s + 1) (fun s => s = (modelsB n L).length) ?_ ?_ (fun args => a₁ (args.getD 0 undef)) ?_ ?_ ?_ hstop
  · rintro s s' W W' ⟨rfl, hb⟩ hi
    exact (hI _).on hi hb
  · rintro s s' W W' ⟨-, hb⟩
    exact Odd.of_below hb
  · rintro s x args W ⟨-, v, rfl, -⟩
    rw [hps]; rfl
  · intro l J Jx W hJ hJx hJI hs0 hY
    refine (models1_in (n' - 1) (by omega) n hn16 L bf bv g cf B l J Jx (fun s W1 W2 h hb => hJ s s W1 W2 ⟨rfl, hb⟩ h) (fun s W h => hA s W (hJI s W h)) W hs0 fun s x args W hj hx => ?_).mono fun e W' h => ⟨h.1, h.2.imp (fun h => ⟨_, rfl, h⟩) id⟩
    obtain ⟨fn, tmps, as', bd, hy, hR⟩ := hY s x args W hj hx
    refine ⟨fn, tmps, as', bd, hy, hR.mono fun e W' h => ?_⟩
    rcases h with ⟨h1, s', rfl, h3⟩ | h
    · exact .inl ⟨h1, h3⟩
    · exact .inr h
  · rintro l s x args W K ⟨-, v, rfl, -⟩ hK
    exact hassign l _ W K hK
  · rintro l s x args W hi ⟨h1, v, rfl, h3⟩
    exact hbody l s x v W hi h1 h3
  · rintro D s W hD rfl hi hd
    exact hdone D W hD hi hd
end Go.Proofs.YtgoflapolglfcaaGreat
namespace Go.Proofs.YtgoflapolglfcaaGreat
open Go.RowKit Go.ChangeAt Go.ChangeShapes Go.WideShapes

attribute [local go_sem] Oper.semAt_some

/-- The results' cells, ahead of a round, and behind the only one. -/
def FstI (n : Nat) (L : List (List Int)) (bf bv g cf B : Nat) (w : World) (s : Nat) (W : World) : Prop := s = 0 ∧ MdAt n L bf bv g cf B W ∧ Below w.heap.size w W ∧ Whole W (w.heap.size + 1) 29 #[.slice none 0 0] ∧ Whole W (w.heap.size + 1 + 1) 4 #[.bool false] ∧ Whole W (w.heap.size + 1 + 1 + 1) 30 #[.int .i64 0]
def FstX (n : Nat) (L : List (List Int)) (w : World) (c : Code) (W : World) : Prop := c = .ret ∧ Below w.heap.size w W ∧ ∃ v x, (modelsB n L)[0]? = some x ∧ W.ownsRow w.heap.size 4 1 v n (x.map Value.bool) ∧ Whole W (w.heap.size + 1) 29 #[v] ∧ Whole W (w.heap.size + 1 + 1) 4 #[.bool true] ∧ Whole W (w.heap.size + 1 + 1 + 1) 30 #[.int .i64 0]
theorem steady_fstI {B0 : Nat} (n : Nat) (L : List (List Int)) (bf bv g cf B : Nat) (w : World) (hB : B ≤ B0) (hw : w.heap.size ≤ B0) (s : Nat) : Steady B0 (FstI n L bf bv g cf B w s) :=
  (steady_true _).and ((steady_md _ _ _ _ _ _ _ hB).and ((steady_below' w hw).and ((steady_whole _ _ _).and ((steady_whole _ _ _).and (steady_whole _ _ _)))))
theorem steady_fstX {B0 : Nat} (n : Nat) (L : List (List Int)) (w : World) (hw : w.heap.size ≤ B0) (c : Code) : Steady B0 (FstX n L w c) :=
  (steady_true _).and ((steady_below' w hw).and (steady_ex fun _ => steady_ex fun _ => (steady_true _).and ((steady_row _ _ _ _ _ _).and ((steady_whole _ _ _).and ((steady_whole _ _ _).and (steady_whole _ _ _))))))
theorem res_three {WF : World} {b : Nat} {v1 v2 v3 : Value} {t1 t2 t3 : TypeId} {a0 a1 a2 a3 a4 a5 a6 a7 a8 a9 a10 a11 a12 a13 a14 a15 : Value} (h1 : Whole WF (b + 1) t1 #[v1]) (h2 : Whole WF (b + 1 + 1) t2 #[v2]) (h3 : Whole WF (b + 1 + 1 + 1) t3 #[v3]) :
    (results Tryz.f20 #[a0, a1, .pointer (some ⟨b + 1, 0, none⟩), .pointer (some ⟨b + 1 + 1, 0, none⟩), .pointer (some ⟨b + 1 + 1 + 1, 0, none⟩), a2, a3, a4, a5, a6, a7, a8, a9, a10, a11, a12, a13, a14, a15]).run Tryz.prog WF = .ok (.tuple #[v1, v2, v3]) WF := by
  have q1 : WF.cell? ⟨b + 1, 0, none⟩ = some v1 := h1.cell 0
  have q2 : WF.cell? ⟨b + 1 + 1, 0, none⟩ = some v2 := h2.cell 0
  have q3 : WF.cell? ⟨b + 1 + 1 + 1, 0, none⟩ = some v3 := h3.cell 0
  simp [results, Tryz.f20, go_sem, q1, q2, q3]
set_option maxRecDepth 100000 in
set_option maxHeartbeats 4000000 in
theorem first_in {C : Nat} {v : Value} {L : List (List Int)} (n : Nat) (hn16 : n ≤ 16) (w : World) (hC : C ≤ w.heap.size) (hz : ∀ zs ∈ L, zs.length ≤ 1000000) (hL : RowsL C w v L) (hok : (chkI (n : Int) L).2 = 0) :
    CallsIn .wide 4 Tryz.prog 20 #[.agg #[.int .i64 (n : Nat), v]] w fun e w' => ∃ fv, e = .returned (.tuple #[fv, .bool (decide (modelsB n L ≠ [])), .int .i64 0]) ∧ w'.ownsRow w.heap.size 4 1 fv ((modelsB n L)[0]?.getD []).length (((modelsB n L)[0]?.getD []).map Value.bool) ∧ Below w.heap.size w w' := by
  obtain ⟨A, cap, rfl, -⟩ := rowsL_shape hL
  have b1 := below1a w (.cells #[.int .i64 (n : Nat), .slice A L.length cap] 27)
  have m1 := fo_new w (n : Nat) (.slice A L.length cap) 27
  have hmo : ∀ W, Below w.heap.size w W → Calls Tryz.prog 21 #[.agg #[.int .i64 (n : Nat), .slice A L.length cap]] W _ := fun W hb => models_ok n hn16 W (Nat.le_trans hC hb.size) hz (hL.below (hb.mono hC)) hok
  have HMo := Lib.hid hmo; have HB := Lib.hid b1
  clear hmo hL hz hok
  refine callsIn_of_wp_marks Tryz.func20 rfl trivial ?_ rfl
  simp only [Tryz.ntmps20, List.size_toArray, List.length_cons, List.length_nil, Nat.reduceAdd, Nat.reduceSub, Array.replicate_succ, Array.replicate_zero, List.push_toArray, List.append_toArray, List.nil_append, List.cons_append]
  gi_wp2_with fail
  have hb1 : Below w.heap.size w ((((w.alloc (.cells #[.int .i64 (n : Nat), .slice A L.length cap] 27)).alloc (.cells #[.slice none 0 0] 29)).alloc (.cells #[.bool false] 4)).alloc (.cells #[.int .i64 0] 30)) := (((b1.alloc (by simp) _).alloc (by simp; omega) _).alloc (by simp; omega) _)
  have n1 := Whole.made (w.alloc (.cells #[.int .i64 (n : Nat), .slice A L.length cap] 27)) 29 #[.slice none 0 0]
  have n2 := Whole.made ((w.alloc (.cells #[.int .i64 (n : Nat), .slice A L.length cap] 27)).alloc (.cells #[.slice none 0 0] 29)) 4 #[.bool false]
  have n3 := Whole.made (((w.alloc (.cells #[.int .i64 (n : Nat), .slice A L.length cap] 27)).alloc (.cells #[.slice none 0 0] 29)).alloc (.cells #[.bool false] 4)) 30 #[.int .i64 0]
  have n2 := n2.same ((below1a _ (.cells #[.int .i64 0] 30)).block _ n2.lt)
  have n1 := n1.same ((below2c _ (.cells #[.bool false] 4) (.cells #[.int .i64 0] 30)).block _ n1.lt)
  simp only [World.size_alloc] at n1 n2 n3
  obtain ⟨w4, hw4⟩ : ∃ y, (((w.alloc (.cells #[.int .i64 (n : Nat), .slice A L.length cap] 27)).alloc (.cells #[.slice none 0 0] 29)).alloc (.cells #[.bool false] 4)).alloc (.cells #[.int .i64 0] 30) = y := ⟨_, rfl⟩
  rw [hw4] at hb1 n1 n2 n3 ⊢
  have HB4 := Lib.hid hb1; have HN1 := Lib.hid n1; have HN2 := Lib.hid n2; have HN3 := Lib.hid n3
  clear hw4 hb1 n1 n2 n3 b1 m1
  refine ⟨trivial, ?_⟩
  refine (callsIn_wide.2 (HMo.out w4 HB4.out)).mono ?_
  rintro e w5 ⟨bf, bv, g, cf, rfl, hmd, hb5⟩
  have n1 := HN1.out.same (hb5.block _ HN1.out.lt)
  have n2 := HN2.out.same (hb5.block _ HN2.out.lt)
  have n3 := HN3.out.same (hb5.block _ HN3.out.lt)
  have HM := Lib.hid hmd; have HB5 := Lib.hid (below_cat HB4.out hb5); have HO1 := Lib.hid n1; have HO2 := Lib.hid n2; have HO3 := Lib.hid n3
  clear hmd hb5 n1 n2 n3 HN1 HN2 HN3 HMo HB4 HB
  gi_wp2_with fail
  have hsz : w.heap.size + 1 + 1 + 1 < w5.heap.size := HO3.out.lt
  have HSz := Lib.hid hsz
  refine range_models (by omega) n hn16 L bf bv g cf w5.heap.size rfl rfl (FstI n L bf bv g cf w5.heap.size w) (FstX n L w)
    (steady_fstI n L bf bv g cf w5.heap.size w (Nat.le_refl _) (by omega)) (steady_fstX n L w (by omega))
    ⟨rfl, HM.out, HB5.out, HO1.out, HO2.out, HO3.out⟩ (fun s W h => h.2.1)
    (fun v => { tmps := #[.agg #[.int .i64 (n : Nat), .slice A L.length cap], .pointer (some ⟨w.heap.size, 0, none⟩), .pointer (some ⟨w.heap.size + 1, 0, none⟩), .pointer (some ⟨w.heap.size + 1 + 1, 0, none⟩), .pointer (some ⟨w.heap.size + 1 + 1 + 1, 0, none⟩),
      .func (.func 51) #[] #[.pointer (some ⟨bf, 0, none⟩), .pointer (some ⟨bv, 0, none⟩)], .int .i64 0, v, .tuple #[.func (.func 51) #[] #[.pointer (some ⟨bf, 0, none⟩), .pointer (some ⟨bv, 0, none⟩)], .int .i64 0],
      .agg #[.int .i64 (n : Nat), .slice A L.length cap], .tuple #[.func (.func 51) #[] #[.pointer (some ⟨bf, 0, none⟩), .pointer (some ⟨bv, 0, none⟩)], .int .i64 0], .func (.func 51) #[] #[.pointer (some ⟨bf, 0, none⟩), .pointer (some ⟨bv, 0, none⟩)], .int .i64 0, .int .i64 0, .bool false, undef,
      .func (.func 51) #[] #[.pointer (some ⟨bf, 0, none⟩), .pointer (some ⟨bv, 0, none⟩)], v, undef], defers := [] }) ?assign ?body ?done ?stop
  case assign =>
    intro l v W K hK
    clear hsz
    gi_wp2_with fail
    exact hK
  case body =>
    rintro l s x v W ⟨rfl, hmd, hB, h1, h2, h3⟩ hx hrow
    obtain ⟨Av, cv, rfl⟩ := own_shape0 hrow
    have c1 : W.cell? ⟨w.heap.size + 1, 0, none⟩ = some (.slice none 0 0) := h1.cell 0
    have c2 : W.cell? ⟨w.heap.size + 1 + 1, 0, none⟩ = some (.bool false) := h2.cell 0
    have c3 : W.cell? ⟨w.heap.size + 1 + 1 + 1, 0, none⟩ = some (.int .i64 0) := h3.cell 0
    have f1 := h1.frozen 0
    have f2 := h2.frozen 0
    have f3 := h3.frozen 0
    have hX : ∀ W', ((W.setCell ⟨w.heap.size + 1, 0, none⟩ (.slice Av n cv)).setCell ⟨w.heap.size + 1 + 1, 0, none⟩ (.bool true)).setCell ⟨w.heap.size + 1 + 1 + 1, 0, none⟩ (.int .i64 0) = W' → Odd W W' ∧ FstX n L w .ret W' := fun W' e => by
      have k1 := h1.store 0 (.slice Av n cv)
      have k2 := (h2.beside (b := w.heap.size + 1) (i := 0) (by omega) (.slice Av n cv)).store 0 (.bool true)
      have k3 := ((h3.beside (b := w.heap.size + 1) (i := 0) (by omega) (.slice Av n cv)).beside (b := w.heap.size + 1 + 1) (i := 0) (by omega) (.bool true)).store 0 (.int .i64 0)
      have r3 := row_beside (i := 0) (row_beside (i := 0) (row_beside (b := w.heap.size + 1) (i := 0) hrow (by omega) (.slice Av n cv)) (b := w.heap.size + 1 + 1) (by omega) (.bool true)) (b := w.heap.size + 1 + 1 + 1) (by omega) (.int .i64 0)
      have o1 := Odd.set h1 0 (.slice Av n cv)
      have o2 := Odd.set (h2.beside (b := w.heap.size + 1) (i := 0) (by omega) (.slice Av n cv)) 0 (.bool true)
      have o3 := Odd.set ((h3.beside (b := w.heap.size + 1) (i := 0) (by omega) (.slice Av n cv)).beside (b := w.heap.size + 1 + 1) (i := 0) (by omega) (.bool true)) 0 (.int .i64 0)
      subst e
      exact ⟨o1.trans (o2.trans o3), rfl, ((hB.setCell (p := ⟨w.heap.size + 1, 0, none⟩) (by simp) _).setCell (p := ⟨w.heap.size + 1 + 1, 0, none⟩) (by simp; omega) _).setCell (p := ⟨w.heap.size + 1 + 1 + 1, 0, none⟩) (by simp; omega) _, _, _, hx, r3.mono (by omega),
        (k1.beside (by omega) _).beside (by omega) _, k2.beside (by omega) _, k3⟩
    have HX := Lib.hid hX
    clear hX hmd hB h1 h2 h3 hx hrow hsz
    gi_wp2_with fail
    exact HX.out _ rfl
  case done =>
    rintro D W hD ⟨h0, hmd, hB, h1, h2, h3⟩ hd
    have hnil := List.eq_nil_of_length_eq_zero h0
    have c1 : W.cell? ⟨w.heap.size + 1, 0, none⟩ = some (.slice none 0 0) := h1.cell 0
    have c2 : W.cell? ⟨w.heap.size + 1 + 1, 0, none⟩ = some (.bool false) := h2.cell 0
    have c3 : W.cell? ⟨w.heap.size + 1 + 1 + 1, 0, none⟩ = some (.int .i64 0) := h3.cell 0
    have f1 := h1.frozen 0
    have f2 := h2.frozen 0
    have f3 := h3.frozen 0
    have HH1 := Lib.hid h1; have HH2 := Lib.hid h2; have HH3 := Lib.hid h3; have HN := Lib.hid hnil; have HBw := Lib.hid hB
    clear hmd h1 h2 h3 h0 hnil hB
    gi_wp2_with fail
    have k1 := ((HH1.out.store 0 (.slice none 0 0)).beside (b := w.heap.size + 1 + 1) (i := 0) (by omega) (.bool false)).beside (b := w.heap.size + 1 + 1 + 1) (i := 0) (by omega) (.int .i64 0)
    have k2 := ((HH2.out.beside (b := w.heap.size + 1) (i := 0) (by omega) (.slice none 0 0)).store 0 (.bool false)).beside (b := w.heap.size + 1 + 1 + 1) (i := 0) (by omega) (.int .i64 0)
    have k3 := ((HH3.out.beside (b := w.heap.size + 1) (i := 0) (by omega) (.slice none 0 0)).beside (b := w.heap.size + 1 + 1) (i := 0) (by omega) (.bool false)).store 0 (.int .i64 0)
    have hd' := Odd.trans (Odd.set HH1.out 0 (.slice none 0 0)) (Odd.trans (Odd.set (HH2.out.beside (b := w.heap.size + 1) (i := 0) (by omega) (.slice none 0 0)) 0 (.bool false)) (Odd.set ((HH3.out.beside (b := w.heap.size + 1) (i := 0) (by omega) (.slice none 0 0)).beside (b := w.heap.size + 1 + 1) (i := 0) (by omega) (.bool false)) 0 (.int .i64 0)))
    have hd3 := hd'.same D _ hd rfl
    refine ⟨by simp, .inl ⟨_, _, rfl, run_takeDeferred hd3, ?_⟩⟩
    have q1 := (steady_whole (B := w5.heap.size) _ _ _).put (.deferred none) k1 hD hd3 rfl
    have q2 := (steady_whole (B := w5.heap.size) _ _ _).put (.deferred none) k2 hD hd3 rfl
    have q3 := (steady_whole (B := w5.heap.size) _ _ _).put (.deferred none) k3 hD hd3 rfl
    have hbw := (((HBw.out.setCell (p := ⟨w.heap.size + 1, 0, none⟩) (by simp) (.slice none 0 0)).setCell (p := ⟨w.heap.size + 1 + 1, 0, none⟩) (by simp; omega) (.bool false)).setCell (p := ⟨w.heap.size + 1 + 1 + 1, 0, none⟩) (by simp; omega) (.int .i64 0))
    have hbf := (steady_below' (B := w5.heap.size) w (by omega)).put (.deferred none) hbw hD hd3 rfl
    refine ⟨.tuple #[.slice none 0 0, .bool false, .int .i64 0], ?_, .slice none 0 0, by rw [HN.out]; rfl, by rw [HN.out]; exact World.ownsRow_nil _ _ _ _, hbf⟩
    clear hd3 hd' hbf hbw k1 k2 k3
    generalize World.putObj _ D (.deferred none) = WF at q1 q2 q3 ⊢
    exact res_three q1 q2 q3
  case stop =>
    rintro D c W hD ⟨rfl, hB, v, x, hx, hrow, h1, h2, h3⟩ hd
    have hne : modelsB n L ≠ [] := fun e => by rw [e] at hx; cases hx
    have hl := models_len (List.mem_of_getElem? hx)
    have HX := Lib.hid ((steady_fstX (B0 := w5.heap.size) n L w (by omega) .ret).put (.deferred none) ⟨rfl, hB, v, x, hx, hrow, h1, h2, h3⟩ hD hd rfl)
    have HRw := Lib.hid ((steady_row (B := w5.heap.size) _ _ _ _ _ _).put (.deferred none) hrow hD hd rfl)
    have q1 := (steady_whole (B := w5.heap.size) _ _ _).put (.deferred none) h1 hD hd rfl
    have q2 := (steady_whole (B := w5.heap.size) _ _ _).put (.deferred none) h2 hD hd rfl
    have q3 := (steady_whole (B := w5.heap.size) _ _ _).put (.deferred none) h3 hD hd rfl
    have HQ := Lib.hid (And.intro q1 (And.intro q2 q3))
    have HHx := Lib.hid (And.intro hx (And.intro hne hl))
    clear hB hx hrow h1 h2 h3 hne q1 q2 q3 hl
    gi_wp2_with fail
    refine ⟨by simp, .inl ⟨_, _, rfl, run_takeDeferred hd, ?_⟩⟩
    obtain ⟨q1, q2, q3⟩ := HQ.out
    obtain ⟨hx, hne, hl⟩ := HHx.out
    refine ⟨.tuple #[v, .bool true, .int .i64 0], ?_, v, by rw [decide_eq_true hne], by rw [hx]; exact hl ▸ HRw.out, HX.out.2.1⟩
    exact res_three q1 q2 q3
end Go.Proofs.YtgoflapolglfcaaGreat
