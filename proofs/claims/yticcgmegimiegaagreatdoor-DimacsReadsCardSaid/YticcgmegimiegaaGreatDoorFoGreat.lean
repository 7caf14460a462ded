/- lits.variables and lits.Greatest, for every list. -/
import Derived.RangeFuncBox
import Derived.RangeFuncNested
import Derived.RangeFuncLeaves
import Derived.Shelf.Abstract
import Derived.Shelf.AbstractIn
import Derived.OwnWalkIn
import Derived.TacticsInMore
import Derived.LoopNIn
import Derived.LoopIn
import Derived.Maps.OwnIn
import Derived.Maps.AppendAt
import Derived.Test.YticcgmegimiegaaGreatDoorLists
import Derived.WalkLawsBesides
namespace Go.Proofs.YticcgmegimiegaaGreatDoor
open Go.RowKit Go.Shelf

attribute [local go_sem] Oper.semAt_some

/-- A variable. -/
abbrev V := { x : Int // 1 ≤ x ∧ x ≤ 1048576 }
def vals (l : List V) : List Int := l.map (·.1)
theorem vals_snoc (l : List V) (x : V) : vals (l ++ [x]) = vals l ++ [x.1] := by simp only [vals, List.map_append]; rfl
/-- The variables of the literals of a list, in its order. -/
def vl (zs : List Int) : List Int := (zs.filter litB).map varI
theorem vl_yes (zs : List Int) {x : Int} (h : litB x = true) : vl (zs ++ [x]) = vl zs ++ [varI x] := by simp [vl, h]
theorem vl_no (zs : List Int) {x : Int} (h : litB x = false) : vl (zs ++ [x]) = vl zs := by simp [vl, h]
theorem varI_yes {x : Int} (h : litB x = true) : 1 ≤ varI x ∧ varI x ≤ 1048576 := by
  have := litB_of h
  unfold varI
  rw [if_pos h]
  split <;> omega
theorem varI_no {x : Int} (h : litB x = false) : varI x = 0 := by simp [varI, h]
set_option maxHeartbeats 1000000 in
theorem variables_in (n : Nat) (B : Nat) (sv : Value) (zs : List Int) (w : World) (h : Ints B w sv zs) :
    CallsIn .wide n Tryz.prog 98 #[sv] w fun e w' => e = .returned (.func (.func 118) #[] #[.pointer (some ⟨w.heap.size, 0, none⟩)]) ∧ w' = w.alloc (.cells #[sv] 37) := by
  rcases h with ⟨A, c, rfl, -, rfl⟩ | ⟨b, off, cap, rfl, _, _⟩
  all_goals
    refine callsIn_of_wp Tryz.func98 rfl trivial ?_ rfl
    simp only [Tryz.ntmps98, List.size_toArray, List.length_cons, List.length_nil, Nat.reduceAdd, Nat.reduceSub, Array.replicate_succ, Array.replicate_zero, List.push_toArray, List.append_toArray, List.nil_append, List.cons_append]
    gi_wp2
    go_ret
    exact ⟨rfl, rfl⟩

set_option maxRecDepth 100000 in
set_option maxHeartbeats 2000000 in
theorem vars1_in (n : Nat) (hn : 1 ≤ n) (l Bs B b off cap : Nat) (zs : List Int) (hreach : zs.length ≤ 17592186044415) (hb : b < B) (J Jx : List V → World → Prop)
    (hY : ∀ pre x W, J pre W → pre.length < zs.length → YieldAt .wide (n - 1) Tryz.prog l #[.int .i64 x.1] W fun e W' =>
      (e = .returned (.bool true) ∧ J (pre ++ [x]) W' ∧ Below B W W') ∨ (e = .returned (.bool false) ∧ Jx (pre ++ [x]) W'))
    (W : World) (hBs : W.cell? ⟨Bs, 0, none⟩ = some (.slice (some ⟨b, off, none⟩) zs.length cap)) (hc : ∀ j, j < zs.length → W.cell? ⟨b, off + j, none⟩ = some (.int .i64 (zs[j]?.getD 0))) (h0 : J [] W) :
    CallsIn .wide n Tryz.prog 118 #[.func (.yield l) #[] #[], .pointer (some ⟨Bs, 0, none⟩)] W fun e W' => (∃ v, e = .returned v) ∧
      ((∃ ys, vals ys = vl zs ∧ J ys W') ∨ (∃ pre, True ∧ Jx pre W')) := by
  refine callsIn_of_wp Tryz.func118 rfl trivial ?_ rfl
  simp only [Tryz.ntmps118, List.size_toArray, List.length_cons, List.length_nil, Nat.reduceAdd, Nat.reduceSub, Array.replicate_succ, Array.replicate_zero, List.push_toArray, List.append_toArray, List.nil_append, List.cons_append]
  gi_wp2
  gi_loopw [8] (fun i wr => ∃ (k : Nat) (pre : List V), k ≤ zs.length ∧ i = .int .i64 k ∧ vals pre = vl (zs.take k) ∧ pre.length ≤ k ∧ J pre wr ∧ Below B W wr)
    (fun i _ => zs.length - (intOf i).toNat)
  case atStart => exact ⟨0, [], Nat.zero_le _, rfl, rfl, Nat.zero_le _, h0, Below.refl _ _⟩
  case round =>
    obtain ⟨k, pre, hk, rfl, hp, hpl, hJs, hnx⟩ := hrel
    have Hp := Lib.hid hp; clear hp
    have hcx : k < zs.length → wr.cell? ⟨b, off + k, none⟩ = some (.int .i64 (zs[k]?.getD 0)) := fun h => (hnx.cell (p := ⟨b, off + k, none⟩) hb).trans (hc k h)
    by_cases hlt : k < zs.length
    · have hcx' := hcx hlt
      have ht := Lib.hid (take_one zs hlt)
      obtain ⟨x, hx⟩ : ∃ x, zs[k]?.getD 0 = x := ⟨_, rfl⟩
      rw [hx] at hcx' ht
      clear hcx hx hc
      cases hl : litB x
      · have hv := varI_no hl
        have Hl := Lib.hid hl; clear hl
        have Hv := Lib.hid hv; clear hv
        gi_wp2_with (refine ⟨trivial, ?_⟩; gi_at_call 93; refine (callsIn_wide.2 (var_any _ _)).mono ?_; rintro e w' ⟨rfl, rfl⟩; rw [Hv.out])
        refine ⟨fun _ h => (by cases h), ?_⟩
        gi_wp2
        go_roundw
        case rel => exact ⟨k + 1, pre, by omega, by go_num, by rw [ht.out, vl_no _ Hl.out]; exact Hp.out, by omega, hJs, hnx⟩
        case measure => simp [intOf]; omega
      · have hv := varI_yes hl
        have Hl := Lib.hid hl; clear hl
        obtain ⟨fn, tmps, assign, body, hy, hR⟩ := hY pre ⟨varI x, hv⟩ wr hJs (by omega)
        gi_wp2_with (refine ⟨trivial, ?_⟩; gi_at_call 93; refine (callsIn_wide.2 (var_any _ _)).mono ?_; rintro e w' ⟨rfl, rfl⟩)
        refine hR.mono ?_
        rintro e W3 (⟨rfl, hJ3, hk3⟩ | ⟨rfl, hJx3⟩)
        · gi_wp2
          go_roundw
          case rel => exact ⟨k + 1, pre ++ [⟨varI x, hv⟩], by omega, by go_num, by rw [ht.out, vl_yes _ Hl.out, vals_snoc, Hp.out], by simp; omega, hJ3, hnx.trans hk3⟩
          case measure => simp [intOf]; omega
        · gi_wp2
          refine bodyPost_ret (results_none rfl _ _ _) rfl ?_
          exact ⟨⟨_, rfl⟩, .inr ⟨_, trivial, hJx3⟩⟩
    · obtain rfl : k = zs.length := by omega
      gi_wp2
      go_end0
      exact ⟨⟨_, rfl⟩, .inl ⟨pre, by rw [Hp.out, List.take_length], hJs⟩⟩

set_option maxRecDepth 100000 in
set_option maxHeartbeats 1000000 in
theorem vars0_in (n : Nat) (l Bs c : Nat) (A : Option Addr) (J : List V → World → Prop) (W : World) (hBs : W.cell? ⟨Bs, 0, none⟩ = some (.slice A 0 c)) (h0 : J [] W) :
    CallsIn .wide n Tryz.prog 118 #[.func (.yield l) #[] #[], .pointer (some ⟨Bs, 0, none⟩)] W fun e W' => (∃ v, e = .returned v) ∧ J [] W' := by
  refine callsIn_of_wp Tryz.func118 rfl trivial ?_ rfl
  simp only [Tryz.ntmps118, List.size_toArray, List.length_cons, List.length_nil, Nat.reduceAdd, Nat.reduceSub, Array.replicate_succ, Array.replicate_zero, List.push_toArray, List.append_toArray, List.nil_append, List.cons_append]
  gi_wp2
  gi_loopw [8] (fun i wr => i = .int .i64 0 ∧ J [] wr) (fun _ _ => 0)
  case atStart => exact ⟨rfl, h0⟩
  case round =>
    obtain ⟨rfl, hJs⟩ := hrel
    gi_wp2
    go_end0
    exact ⟨⟨_, rfl⟩, hJs⟩

/-- The iterator yields the variables of the list's literals. -/
theorem vars_stops (n : Nat) (hn : 1 ≤ n) (Bs B : Nat) (sv : Value) (zs : List Int) (hreach : zs.length ≤ 17592186044415) (w : World) (hBs : Bs < w.heap.size) (hB : B ≤ w.heap.size)
    (hc : w.cell? ⟨Bs, 0, none⟩ = some sv) (hI : Ints B w sv zs) :
    SeqStopsK .wide n Tryz.prog 118 #[.pointer (some ⟨Bs, 0, none⟩)] (fun x : V => #[Value.int .i64 x.1]) (Below B) (fun ys => vals ys = vl zs) (fun _ => True) zs.length w := fun l J Jx W hW _ _ hY h0 => by
  have hc' := (hW.cell (p := ⟨Bs, 0, none⟩) hBs).trans hc
  rcases hI.below (hW.mono hB) with ⟨A, c, rfl, -, rfl⟩ | ⟨b, off, cap, rfl, hb, hcs⟩
  · exact (vars0_in n l Bs c A J W hc' h0).mono fun e W' ⟨he, hj⟩ => ⟨he, .inl ⟨[], rfl, hj⟩⟩
  · exact vars1_in n hn l Bs B b off cap zs hreach hb J Jx hY W hc' hcs h0
/-- The greatest of some variables. -/
def maxL (l : List Int) : Int := l.foldl (fun a b => max a b) 0
theorem maxL_snoc (l : List Int) (x : Int) : maxL (l ++ [x]) = max (maxL l) x := by simp [maxL]

set_option maxRecDepth 100000 in
set_option maxHeartbeats 2000000 in
theorem greatest_in (sv : Value) (zs : List Int) (hreach : zs.length ≤ 17592186044415) (w : World) (hI : Ints w.heap.size w sv zs) :
    CallsIn .wide 3 Tryz.prog 61 #[sv] w fun e W' => e = .returned (.int .i64 (maxL (vl zs))) ∧ Below w.heap.size w W' := by
  have h1 : 1 ≤ 3 := by omega
  refine callsIn_of_wp_marks Tryz.func61 rfl trivial ?_ rfl
  simp only [Tryz.ntmps61, List.size_toArray, List.length_cons, List.length_nil, Nat.reduceAdd, Nat.reduceSub, Array.replicate_succ, Array.replicate_zero, List.push_toArray, List.append_toArray, List.nil_append, List.cons_append]
  have hIa : ∀ o, Ints w.heap.size (w.alloc o) sv zs := fun o => hI.below ((Below.refl _ w).alloc (Nat.le_refl _) _)
  have HI := Lib.hid hI; clear hI
  have HIa := Lib.hid hIa; clear hIa
  gi_wp2_with (refine ⟨trivial, ?_⟩; gi_at_call 98; refine (variables_in _ _ _ zs _ (HIa.out _)).mono ?_; rintro e w' ⟨rfl, rfl⟩)
  have bS := Boxed.new w 3 (.int .i64 0)
  have bN := Boxed.new (w.alloc (.cells #[.int .i64 0] 3)) 37 sv
  rw [World.size_alloc] at bN
  have hB0 : Below w.heap.size w ((w.alloc (.cells #[.int .i64 0] 3)).alloc (.cells #[sv] 37)) := ((Below.refl _ w).alloc (Nat.le_refl _) _).alloc (by simp) _
  refine wpIn_rangeFunc_ownG rfl (by omega) (gf := 118) (lb := #[.pointer (some ⟨w.heap.size + 1, 0, none⟩)]) rfl trivial (enters_of Tryz.func118 (by kernel_rfl) rfl)
    (vars_stops 2 (by omega) (w.heap.size + 1) w.heap.size sv zs hreach _ (by simp) (by simp; omega) bN.cell (HI.out.below hB0)) belowK_t (belowK_b (by simp; omega)) (Below.refl _ _) (fun _ => rfl)
    (fun pre W => (W.cell? ⟨w.heap.size, 0, none⟩ = some (.int .i64 (maxL (vals pre))) ∧ W.frozen? ⟨w.heap.size, 0, none⟩ = false) ∧ Below w.heap.size w W)
    (fun _ _ _ => False)
    (OwnFrom.and (Own.from (fun s A B row hs hg hr => ⟨cell_kept hs.1 hg hr, (frozen_kept hs.1 hg hr).trans hs.2⟩) _) (ownFrom_below (Nat.le_refl _) (by simp; omega)))
    (fun _ _ _ _ _ hs _ _ => hs)
    ⟨⟨(bS.alloc _).cell, (bS.alloc _).frozen⟩, hB0⟩
    (fun x => { tmps := #[sv, undef, .int .i64 0, .pointer (some ⟨w.heap.size, 0, none⟩), .int .i64 x.1, sv, .func (.func 118) #[] #[.pointer (some ⟨w.heap.size + 1, 0, none⟩)], .int .i64 x.1, undef, undef, undef, undef], defers := [] }) ?assign ?body ?done ?stop
  case assign =>
    intro l x W K hK
    gi_wp2
    exact hK
  case body =>
    rintro l pre x W ⟨⟨hc, hf⟩, hB⟩ _
    gi_wp2
    · have hx : maxL (vals pre) ≤ x.1 := by have : maxL (vals pre) < x.1 := by assumption
                                            omega
      exact ⟨(KeepsOthers.setCell _ _ _).from _, (Below.refl _ W).setCell (p := ⟨w.heap.size, 0, none⟩) (Nat.le_refl _) _,
        ⟨by rw [vals_snoc, maxL_snoc, Int.max_eq_right hx]; exact World.cell?_setCell_same' _ _ _ (by rw [hc]; rfl), by rw [World.frozen?_setCell]; exact hf⟩, hB.setCell (p := ⟨w.heap.size, 0, none⟩) (Nat.le_refl _) _⟩
    · have hx : x.1 ≤ maxL (vals pre) := by assumption
      exact ⟨(KeepsOthers.setCell _ _ _).from _, (Below.refl _ W).setCell (p := ⟨w.heap.size, 0, none⟩) (Nat.le_refl _) _,
        ⟨by rw [vals_snoc, maxL_snoc, Int.max_eq_left hx]; exact World.cell?_setCell_same' _ _ _ (by rw [hc]; rfl), by rw [World.frozen?_setCell]; exact hf⟩, hB.setCell (p := ⟨w.heap.size, 0, none⟩) (Nat.le_refl _) _⟩
  case done =>
    rintro D ys W hD hys ⟨⟨hc, hf⟩, hB⟩ hK
    rw [hys] at hc
    clear hys
    gi_wp2
    refine ⟨by simp, .inl ⟨_, _, rfl, run_takeDeferred hK, ?_⟩⟩
    exact ⟨_, results_tmp rfl _ _ _, rfl, hB.trans (belowK_b (w := w) (Nat.le_refl _) W D _ _ (by simp at hD; omega) hK rfl rfl)⟩
  case stop =>
    rintro D c pre W _ _ h _
    exact h.elim

theorem greatest_any (sv : Value) (zs : List Int) (hreach : zs.length ≤ 17592186044415) (w : World) (hI : Ints w.heap.size w sv zs) :
    Calls Tryz.prog 61 #[sv] w fun e W' => e = .returned (.int .i64 (maxL (vl zs))) ∧ Below w.heap.size w W' :=
  (callsIn_wide (n := 3)).1 (greatest_in sv zs hreach w hI)
end Go.Proofs.YticcgmegimiegaaGreatDoor
