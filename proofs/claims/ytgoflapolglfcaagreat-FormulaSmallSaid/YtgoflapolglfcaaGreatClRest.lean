/- slices.Collect of clauses.normal; clauses.fitting. -/
/- clauses.rest and Without. -/
import Derived.Test.YtgoflapolglfcaaGreatClNormal
import Derived.Test.YtgoflapolglfcaaGreatConv
import Derived.Test.YtgoflapolglfcaaGreatRefMore
namespace Go.Proofs.YtgoflapolglfcaaGreat
open Go.ChangeShapes Go.WideShapes Go.ChangeAt Go.RowKit Go.Shelf Go.Sort

attribute [local go_sem] Oper.semAt_some

/-- Where a row begins, or would. -/
def rowBase (W : World) (v : Value) : Nat := match v.ownBlock with | some b => b | none => W.heap.size
theorem owns_base {W : World} {base n : Nat} {e : TypeId} {v : Value} {xs : List Value} (hb : base ≤ W.heap.size) (h : W.ownsRow base e 1 v n xs) : W.ownsRow (rowBase W v) e 1 v n xs ∧ base ≤ rowBase W v ∧ rowBase W v ≤ W.heap.size := by
  obtain ⟨h1, h2⟩ := h
  rcases h2 with ⟨rfl, h0⟩ | ⟨g, cap, cur, rfl, hg, hh, r⟩
  · exact ⟨⟨h1, .inl ⟨rfl, h0⟩⟩, by simpa [rowBase, Value.ownBlock] using hb, by simp [rowBase, Value.ownBlock]⟩
  · have hl := (Array.getElem?_eq_some_iff.1 hh).1
    have e : rowBase W (.slice (some ⟨g, 0, none⟩) n cap) = g := by simp [rowBase, Value.ownBlock]
    rw [e]
    exact ⟨⟨h1, .inr ⟨g, cap, cur, rfl, Nat.le_refl _, hh, r⟩⟩, hg, by omega⟩
/-- An append to the row in the box Bx keeps what stands ahead of it. -/
theorem kpR_append {Bx B H : Nat} {W w2 : World} {t e : TypeId} {v v' : Value} {n : Nat} {xs : List Value} {o : Obj} (hx : Bx < H) (hv : Boxed W Bx t v) (hg : (W.alloc o).grownBy w2 v.ownBlock) (hown : w2.ownsRow (rowBase W v) e 1 v' n xs)
    (hv2 : Boxed (w2.setCell ⟨Bx, 0, none⟩ v') Bx t v') (hb : RowKit.Below B W (w2.setCell ⟨Bx, 0, none⟩ v')) : KpR Bx B H W (w2.setCell ⟨Bx, 0, none⟩ v') := by
  refine ⟨hb, fun k ok hk hok hcok hr => ?_⟩
  have hkl := (Array.getElem?_eq_some_iff.1 hok).1
  have hlt : ∀ b, v.ownBlock = some b → k < b := fun b hb => Decidable.byContradiction fun h => hr ⟨v, b, hv.cell, hb, by omega⟩
  constructor
  · rw [RowKit.Below.heap_setCell _ _ _ _ (by show k ≠ Bx; omega)]
    rw [hg.block k (by simp; omega) (fun e => by have := hlt k e.symm; omega), RowKit.Below.heap_alloc _ _ _ hkl]
    exact hok
  · rintro ⟨u, b, h1, h2, h3⟩
    rw [hv2.cell] at h1
    cases h1
    rcases hown.2 with ⟨rfl, -⟩ | ⟨g, cap, cur, rfl, hg', -⟩
    · simp [Value.ownBlock] at h2
    · have : g = b := by simpa [Value.ownBlock] using h2
      subst this
      unfold rowBase at hg'
      cases ho : v.ownBlock with
      | none => rw [ho] at hg'; simp only at hg'; omega
      | some b => rw [ho] at hg'; simp only at hg'; have := hlt b ho; omega

/-- What AppendSeq keeps between two rounds. -/
def SeqL (w : World) (pre : List Int) (W : World) : Prop :=
  (∃ v, Boxed W w.heap.size 36 v ∧ W.ownsRow w.heap.size 35 1 v pre.length (pre.map (Value.int .i64)) ∧ (v = .slice none 0 0 ↔ pre = [])) ∧ RowKit.Below w.heap.size w W

set_option maxRecDepth 100000 in
set_option maxHeartbeats 4000000 in
theorem appendSeqL_in (n Bs B : Nat) (hn : 2 ≤ n) (sv : Value) (zs : List Int) (hreach : zs.length ≤ 1000000) (w : World) (hBs : Bs < w.heap.size) (hB : B ≤ w.heap.size) (hc : w.cell? ⟨Bs, 0, none⟩ = some sv) (hI : Lits B w sv zs) :
    CallsIn .wide n Tryz.prog 80 #[.slice none 0 0, .func (.func 81) #[] #[.pointer (some ⟨Bs, 0, none⟩)]] w (GivesE 35 w (normL zs)) := by
  obtain ⟨i0, hi, hz0, hz1, hz2⟩ := info_parts infoLit
  refine callsIn_of_wp_marks Tryz.func80 rfl trivial ?_ rfl
  simp only [Tryz.ntmps80, List.size_toArray, List.length_cons, List.length_nil, Nat.reduceAdd, Nat.reduceSub, Array.replicate_succ, Array.replicate_zero, List.push_toArray, List.append_toArray, List.nil_append, List.cons_append]
  have HI := Lib.hid hI; clear hI
  gi_wp2
  have bS := Boxed.new w 36 (.slice none 0 0)
  have hB0 : RowKit.Below w.heap.size w (w.alloc (.cells #[.slice none 0 0] 36)) := (RowKit.Below.refl _ w).alloc (Nat.le_refl _) _
  have hseq := normal_stops (n - 1) (by omega) Bs w.heap.size w.heap.size sv zs hreach (w.alloc (.cells #[.slice none 0 0] 36)) (by simp; omega) (by simp) (by simp) ((hB0.cell (p := ⟨Bs, 0, none⟩) hBs).trans hc) ((HI.out.more hB).below hB0)
    (fun v hv => by rw [bS.cell] at hv; cases hv; rfl)
  refine wpIn_rangeFunc_ownG rfl (by omega) (gf := 81) (lb := #[.pointer (some ⟨Bs, 0, none⟩)]) rfl trivial (enters_of Tryz.func81 (by kernel_rfl) rfl)
    hseq kpR_t (kpR_b (by simp) (by simp)) (RowKit.Below.refl _ _) (fun _ => rfl)
    (SeqL w)
    (fun _ _ _ => False)
    (OwnFrom.and (Own.from (holdsRow_own w.heap.size w.heap.size 36 35 1 (fun pre => pre.length) (fun pre => pre.map (Value.int .i64)) (fun pre v => v = .slice none 0 0 ↔ pre = [])) _) (ownFrom_below (Nat.le_refl _) (by simp)))
    (fun _ _ _ _ _ hs _ _ => hs)
    ⟨⟨_, bS, World.ownsRow_nil _ _ _ _, ⟨fun _ => rfl, fun _ => rfl⟩⟩, hB0⟩
    (fun x => { tmps := #[.slice none 0 0, .func (.func 81) #[] #[.pointer (some ⟨Bs, 0, none⟩)], .pointer (some ⟨w.heap.size, 0, none⟩), undef, .slice none 0 0, .int .i64 x, .func (.func 81) #[] #[.pointer (some ⟨Bs, 0, none⟩)], .int .i64 x, undef, undef, undef, undef, undef], defers := [] }) ?assign ?body ?done ?stop
  case assign =>
    intro l x W K hK
    gi_wp2
    exact hK
  case body =>
    rintro l pre x W ⟨⟨v, hv, hrow, hnil⟩, hB⟩ hlt
    have hcv := hv.cell
    have hcf := hv.frozen
    have Hnil := Lib.hid hnil; clear hnil
    obtain ⟨hrb, hrb1, hrb2⟩ := owns_base hB.size hrow
    gi_wp2_with (gi_at_builtin; refine wpListIn_append_own _ rfl _ _ 36 rfl (rowBase W v) 35 i0 (.int .i64 0) 1 8 Tryz.underlying36 hi hz0 hz1 hz2 rfl (by decide) _ _ _ rfl (hrb.alloc _) ⟨W.heap.size, 0, none⟩ 1 1 [.int .i64 x] rfl rfl (cell_one_new _ _ _) (by simp [Value.oneCell']) (by unfold maxLen; omega) (by omega) (by simp; omega) ?_; intro v' w2 hownb hgrow _; have hown' := owns_mono hownb hrb1; obtain ⟨g', cap', rfl⟩ := ownsRow_succ hown'; obtain ⟨hv1', hv2, hr2, hk2, hb2⟩ := hv.appended (by decide) hrow hB.size (Nat.le_refl _) hown' hgrow; have hc2 := hv1'.cell; have hf2 := hv1'.frozen)
    refine ⟨hk2.from _, kpR_append (by simp) hv hgrow hownb hv2 hb2, ⟨_, hv2, ?_, ?_⟩, hB.trans hb2⟩
    · rw [List.length_append, List.map_append]; exact hr2
    · exact ⟨(fun e => by cases e), fun e => by simp at e⟩
  case done =>
    rintro D ys W hD hys ⟨⟨v, hv, hrow, hnil⟩, hB⟩ hK
    subst hys
    have hcv := hv.cell
    clear hnil
    have HR := Lib.hid hrow; clear hrow
    simp at hD
    gi_wp2
    refine ⟨by simp, .inl ⟨_, _, rfl, run_takeDeferred hK, ?_⟩⟩
    refine ⟨_, results_tmp rfl _ _ _, ?_⟩
    exact ⟨v, rfl, ownsRow_putObj HR.out _ hK rfl, hB.trans (belowK_b (w := w) (Nat.le_refl _) W D _ _ (by omega) hK rfl rfl)⟩
  case stop =>
    rintro D c pre W _ _ h _
    exact h.elim

set_option maxRecDepth 100000 in
theorem collectL_in (n Bs B : Nat) (hn : 3 ≤ n) (sv : Value) (zs : List Int) (hreach : zs.length ≤ 1000000) (w : World) (hBs : Bs < w.heap.size) (hB : B ≤ w.heap.size) (hc : w.cell? ⟨Bs, 0, none⟩ = some sv) (hI : Lits B w sv zs) :
    CallsIn .wide n Tryz.prog 66 #[.func (.func 81) #[] #[.pointer (some ⟨Bs, 0, none⟩)]] w (GivesE 35 w (normL zs)) := by
  have h1 : 1 ≤ n := by omega
  have HA := Lib.hid (appendSeqL_in (n - 1) Bs B (by omega) sv zs hreach w hBs hB hc hI); clear hI
  refine callsIn_of_wp Tryz.func66 rfl trivial ?_ rfl
  simp only [Tryz.ntmps66, List.size_toArray, List.length_cons, List.length_nil, Nat.reduceAdd, Nat.reduceSub, Array.replicate_succ, Array.replicate_zero, List.push_toArray, List.append_toArray, List.nil_append, List.cons_append]
  gi_wp2_with (refine ⟨trivial, ?_⟩; gi_at_call 80; refine HA.out.mono ?_; rintro e w' ⟨v, rfl, hr, hb⟩)
  go_ret
  exact ⟨_, rfl, hr, hb⟩
end Go.Proofs.YtgoflapolglfcaaGreat
namespace Go.Proofs.YtgoflapolglfcaaGreat
open Go.ChangeShapes Go.WideShapes Go.ChangeAt Go.RowKit Go.Shelf Go.Sort

attribute [local go_sem] Oper.semAt_some

theorem kpR_refl (Bx B H : Nat) (W : World) : KpR Bx B H W W := ⟨RowKit.Below.refl _ _, fun _ _ _ ho _ hr => ⟨ho, hr⟩⟩
theorem lessL_snoc (l : List Int) (x k : Int) : lessL (l ++ [x]) k = if x = k then lessL l k else lessL l k ++ [x] := by
  unfold lessL
  rw [List.filter_append]
  by_cases h : x = k
  · rw [if_pos h]; simp [h]
  · rw [if_neg h]; simp [h]
theorem lessL_length (l : List Int) (k : Int) : (lessL l k).length ≤ l.length := List.length_filter_le _ _
theorem filter_inc {l : List Int} (h : Inc l) (p : Int → Bool) : Inc (l.filter p) := List.Pairwise.sublist List.filter_sublist h
theorem norm_filter (zs : List Int) (p : Int → Bool) : (normL zs).filter p = normL (zs.filter p) :=
  (norm_unique (filter_inc (norm_inc zs) p) fun x => by rw [List.mem_filter, List.mem_filter, norm_mem]).symm
theorem less_norm (zs : List Int) (l : Int) : lessL (normL zs) l = normL (lessL zs l) := norm_filter zs _

/-- A box ahead of the row is no part of it. -/
theorem owns_ne {W : World} {base n Bx : Nat} {e : TypeId} {v : Value} {xs : List Value} (h : W.ownsRow base e 1 v n xs) (hb : Bx < base) : some Bx ≠ v.ownBlock := by
  rcases h.2 with ⟨rfl, -⟩ | ⟨g, cap, cur, rfl, hg, -⟩
  · simp [Value.ownBlock]
  · intro e'
    have : Bx = g := by simpa [Value.ownBlock] using e'
    omega
/-- The same row, of the later base, behind the store of the slice into its box. -/
theorem owns_set {W : World} {base n Bx : Nat} {t e : TypeId} {u v : Value} {xs : List Value} (h : W.ownsRow base e 1 v n xs) (hv : Boxed W Bx t u) (hte : t ≠ e) : (W.setCell ⟨Bx, 0, none⟩ v).ownsRow base e 1 v n xs :=
  h.kept (grownBy_setCell' W Bx v) (.inr (hv.not_row hte h).symm)
/-- What holds between two rounds of the loop of rest. -/
def RestI (w : World) (l : Int) (pre : List Int) (W : World) : Prop :=
  ((∃ v, Boxed W (w.heap.size + 1) 65 v ∧ W.ownsRow (w.heap.size + 1 + 1) 35 1 v (lessL pre l).length ((lessL pre l).map (Value.int .i64)) ∧ True) ∧ Boxed W w.heap.size 35 (.int .i64 l)) ∧ RowKit.Below w.heap.size w W

end Go.Proofs.YtgoflapolglfcaaGreat
