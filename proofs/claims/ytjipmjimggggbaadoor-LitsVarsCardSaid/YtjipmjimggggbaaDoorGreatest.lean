/- The contract of lits.Greatest, for every list. -/
import Derived.Test.YtjipmjimggggbaaDoorVariables
import Derived.WalkLawsBesides
namespace Go.Proofs.YtjipmjimggggbaaDoor
open Go.RowKit Go.Shelf

attribute [local go_sem] Oper.semAt_some

/-- The greatest of some variables. -/
def maxL (l : List Int) : Int := l.foldl (fun a b => max a b) 0
theorem maxL_snoc (l : List Int) (x : Int) : maxL (l ++ [x]) = max (maxL l) x := by simp [maxL]

set_option maxRecDepth 100000 in
set_option maxHeartbeats 2000000 in
theorem greatest_in (sv : Value) (zs : List Int) (hreach : zs.length ≤ 17592186044415) (w : World) (hI : Ints w.heap.size w sv zs) :
    CallsIn .wide 3 Tryd.prog 17 #[sv] w fun e W' => e = .returned (.int .i64 (maxL (vl zs))) ∧ Below w.heap.size w W' := by
  have h1 : 1 ≤ 3 := by omega
  refine callsIn_of_wp_marks Tryd.func17 rfl trivial ?_ rfl
  simp only [Tryd.ntmps17, List.size_toArray, List.length_cons, List.length_nil, Nat.reduceAdd, Nat.reduceSub, Array.replicate_succ, Array.replicate_zero, List.push_toArray, List.append_toArray, List.nil_append, List.cons_append]
  have hIa : ∀ o, Ints w.heap.size (w.alloc o) sv zs := fun o => hI.below ((Below.refl _ w).alloc (Nat.le_refl _) _)
  have HI := Lib.hid hI; clear hI
  have HIa := Lib.hid hIa; clear hIa
  gi_wp2_with (refine ⟨trivial, ?_⟩; gi_at_call 50; refine (variables_in _ _ _ zs _ (HIa.out _)).mono ?_; rintro e w' ⟨rfl, rfl⟩)
  have bS := Boxed.new w 3 (.int .i64 0)
  have bN := Boxed.new (w.alloc (.cells #[.int .i64 0] 3)) 26 sv
  rw [World.size_alloc] at bN
  have hB0 : Below w.heap.size w ((w.alloc (.cells #[.int .i64 0] 3)).alloc (.cells #[sv] 26)) := ((Below.refl _ w).alloc (Nat.le_refl _) _).alloc (by simp) _
  refine wpIn_rangeFunc_ownG rfl (by omega) (gf := 64) (lb := #[.pointer (some ⟨w.heap.size + 1, 0, none⟩)]) rfl trivial (enters_of Tryd.func64 (by kernel_rfl) rfl)
    (vars_stops 2 (by omega) (w.heap.size + 1) w.heap.size sv zs hreach _ (by simp) (by simp; omega) bN.cell (HI.out.below hB0)) belowK_t (belowK_b (by simp; omega)) (Below.refl _ _) (fun _ => rfl)
    (fun pre W => (W.cell? ⟨w.heap.size, 0, none⟩ = some (.int .i64 (maxL (vals pre))) ∧ W.frozen? ⟨w.heap.size, 0, none⟩ = false) ∧ Below w.heap.size w W)
    (fun _ _ _ => False)
    (OwnFrom.and (Own.from (fun s A B row hs hg hr => ⟨cell_kept hs.1 hg hr, (frozen_kept hs.1 hg hr).trans hs.2⟩) _) (ownFrom_below (Nat.le_refl _) (by simp; omega)))
    (fun _ _ _ _ _ hs _ _ => hs)
    ⟨⟨(bS.alloc _).cell, (bS.alloc _).frozen⟩, hB0⟩
    (fun x => { tmps := #[sv, undef, .int .i64 0, .pointer (some ⟨w.heap.size, 0, none⟩), .int .i64 x.1, sv, .func (.func 64) #[] #[.pointer (some ⟨w.heap.size + 1, 0, none⟩)], .int .i64 x.1, undef, undef, undef, undef], defers := [] }) ?assign ?body ?done ?stop
  case assign =>
    intro l x W K hK
    gi_wp2
    exact hK
  case body =>
    rintro l pre x W ⟨⟨hc, hf⟩, hB⟩ _
    gi_wp2
    · have hx : maxL (vals pre) ≤ x.1 := by have : maxL (vals pre) < x.1 := by assumption
                                            omega
      exact ⟨(KeepsOthers.setCell _ _ _).from _, (Below.refl _ W).setCell (p := ⟨w.heap.size, 0, none⟩) (Nat.le_refl _) _,
        ⟨by rw [vals_snoc, maxL_snoc, Int.max_eq_right hx]; exact World.cell?_setCell_same' _ _ _ (by rw [hc]; rfl), by rw [World.frozen?_setCell]; exact hf⟩, hB.setCell (p := ⟨w.heap.size, 0, none⟩) (Nat.le_refl _) _⟩
    · have hx : x.1 ≤ maxL (vals pre) := by assumption
      exact ⟨(KeepsOthers.setCell _ _ _).from _, (Below.refl _ W).setCell (p := ⟨w.heap.size, 0, none⟩) (Nat.le_refl _) _,
        ⟨by rw [vals_snoc, maxL_snoc, Int.max_eq_left hx]; exact World.cell?_setCell_same' _ _ _ (by rw [hc]; rfl), by rw [World.frozen?_setCell]; exact hf⟩, hB.setCell (p := ⟨w.heap.size, 0, none⟩) (Nat.le_refl _) _⟩
  case done =>
    rintro D ys W hD hys ⟨⟨hc, hf⟩, hB⟩ hK
    rw [hys] at hc
    clear hys
    gi_wp2
    refine ⟨by simp, .inl ⟨_, _, rfl, run_takeDeferred hK, ?_⟩⟩
    exact ⟨_, results_tmp rfl _ _ _, rfl, hB.trans (belowK_b (w := w) (Nat.le_refl _) W D _ _ (by simp at hD; omega) hK rfl rfl)⟩
  case stop =>
    rintro D c pre W _ _ h _
    exact h.elim

theorem greatest_any (sv : Value) (zs : List Int) (hreach : zs.length ≤ 17592186044415) (w : World) (hI : Ints w.heap.size w sv zs) :
    Calls Tryd.prog 17 #[sv] w fun e W' => e = .returned (.int .i64 (maxL (vl zs))) ∧ Below w.heap.size w W' :=
  (callsIn_wide (n := 3)).1 (greatest_in sv zs hreach w hI)
end Go.Proofs.YtjipmjimggggbaaDoor
