/- The laws' literals: what is on a trail. -/
import Derived.Test.YtdeedmfofjdbjaaTrBeside
namespace Go.Proofs.Ytdeedmfofjdbjaa
open Go.RowKit Go.ChangeAt Go.ChangeShapes Go.WideShapes

attribute [local go_sem] Oper.semAt_some

theorem TY.push_below {S : List Blk} {fb : Nat} {K1 K : Nat → Prop} {g nv : Nat} {its : List It} {st : List Nat} {v : Value} {xs : List Int} {w1 W : World} (h : TY S fb K1 w1 K g nv its st v xs W) (hw : w1.heap.size ≤ W.heap.size) {W2 : World} {v' : Value} {o : Obj} (hg : (W.alloc o).grownBy W2 v.ownBlock) : Below w1.heap.size W (W2.setCell ⟨fb, 0, none⟩ v') :=
  (((below1a W o).mono hw).grown hg (by simp; omega) (fun k e => (h.row.lt k e).1)).setCell (p := ⟨fb, 0, none⟩) h.fbB v'
theorem litsOf_snoc_take {its : List It} {k : Nat} {x : It} (hx : its[k]? = some x) : (litsOf its).take (k + 1) = (litsOf its).take k ++ [x.lit] := by
  have hl := (List.getElem?_eq_some_iff.1 hx).1
  rw [List.take_add_one]
  simp [litsOf, hx]
def LtI (w : World) (K : Nat → Prop) (g nv : Nat) (its : List It) (st : List Nat) (s : TrS) (W : World) : Prop :=
  (∃ v, TY [(w.heap.size + 1 + 1, 3, #[.int .i64 0]), (w.heap.size + 1, 28, #[.pointer (some ⟨g, 0, none⟩)])] w.heap.size K w s.2 g nv its st v ((litsOf its).take s.1) W) ∧ s.2 = K ∧ s.1 ≤ its.length ∧ Below w.heap.size w W
theorem ltI_steady (w : World) (K : Nat → Prop) (g nv : Nat) (its : List It) (st : List Nat) {B : Nat} (hB : w.heap.size ≤ B) (s : TrS) : Steady B (LtI w K g nv its st s) :=
  (steady_ex fun _ => TY.steady hB).and ((steady_true _).and ((steady_true _).and (steady_below' w hB)))
set_option maxRecDepth 100000 in
set_option maxHeartbeats 4000000 in
theorem literals_tr {K : Nat → Prop} {g nv : Nat} {its : List It} {st : List Nat} (w : World) (h : Trl K w g nv its st) :
    Calls Try.prog 30 #[.pointer (some ⟨g, 0, none⟩)] w fun r w' => ∃ v, r = .returned v ∧ w'.ownsRow w.heap.size 36 1 v its.length ((litsOf its).map (Value.int .i64)) ∧ Below w.heap.size w w' := by
  have hnv := h.good.nvmax
  have hln := h.good.len
  have hk := fun i => h.kok.lt (i := i)
  have HA := Lib.hid h; have HKl := Lib.hid hk
  clear h hk
  obtain ⟨i0, hi, hz0, hz1, hz2⟩ := info_parts infoLit
  refine (callsIn_wide (n := 5)).1 ?_
  refine callsIn_of_wp_marks Try.func30 rfl trivial ?_ rfl
  simp only [Try.ntmps30, List.size_toArray, List.length_cons, List.length_nil, Nat.reduceAdd, Nat.reduceSub, Array.replicate_succ, Array.replicate_zero, List.push_toArray, List.append_toArray, List.nil_append, List.cons_append]
  gi_wp2_with fail
  refine ⟨trivial, ?_⟩
  gi_at_call 24
  refine (callsIn_wide.2 (lits_any _ _ _)).mono ?_
  rintro r w' ⟨rfl, rfl⟩
  gi_wp2_with fail
  have h0 : LtI w K g nv its st (0, K) (((w.alloc (.cells #[.slice none 0 0] 39)).alloc (.cells #[.pointer (some ⟨g, 0, none⟩)] 28)).alloc (.cells #[.int .i64 0] 3)) := by
    have y0 := ty_start HA.out (Turn.refl K w)
    have y1 := y0.new 28 #[.pointer (some ⟨g, 0, none⟩)]
    have y2 := y1.new 3 #[.int .i64 0]
    simp only [World.size_alloc] at y2
    exact ⟨⟨_, y2⟩, rfl, Nat.zero_le _, (((Below.refl _ _).alloc (Nat.le_refl _) _).alloc (by simp) _).alloc (by simp; omega) _⟩
  have H0 := Lib.hid h0; clear h0
  refine range_lits (n := 5) (by decide) (g := g) (nv := nv) (bf := w.heap.size + 1 + 1) (bt := w.heap.size + 1) 0 0 rfl hnv rfl (enters_of Try.func45 (by kernel_rfl) rfl) rfl (fun _ => its) (fun _ => st) (LtI w K g nv its st) (fun _ _ => False) (ltI_steady w K g nv its st (by simp; omega)) (fun _ => steady_true False) K H0.out ?has ?a1 ?assign ?body ?done ?stop
  case has =>
    rintro s W ⟨⟨v, hy⟩, -⟩
    exact ⟨⟨hy.tr, (hy.cells (w.heap.size + 1, 28, #[.pointer (some ⟨g, 0, none⟩)]) (by simp)).1.cell 0⟩, (hy.cells _ (List.mem_cons_self ..)).1.cell 0⟩
  case assign =>
    intro l i x W K hK
    gi_wp2
    exact hK
  case stop => intro D c W _ h; cases h
  case body =>
    rintro l ⟨k, K'⟩ x W ⟨⟨v, hy⟩, hK, hs, hB⟩ hx
    dsimp only at hy hK hs hx ⊢
    subst hK
    rw [Nat.zero_add] at hx
    have hx1 := litsOf_snoc_take hx
    have hkl := (List.getElem?_eq_some_iff.1 hx).1
    have hll : ((litsOf its).take k).length ≤ 1048576 := by rw [List.length_take, litsOf_len]; omega
    have hc := hy.cell.cell 0
    have hf := hy.cell.frozen 0
    have hBs := hB.size
    obtain ⟨A, c, rfl⟩ := own_shape1 hy.row
    obtain ⟨y, hyy⟩ : ∃ y, x.lit = y := ⟨_, rfl⟩
    rw [hyy] at hx1 ⊢
    obtain ⟨ys, hys⟩ : ∃ ys, (litsOf its).take k = ys := ⟨_, rfl⟩
    rw [hys] at hy hll hx1 hc
    have HY := Lib.hid hy; have HX1 := Lib.hid hx1; have HB := Lib.hid hB
    clear hy hx1 hx hyy hys hB H0
    gi_wp2_with (gi_at_builtin; refine wpListIn_append2 rfl _ _ 39 39 rfl 36 i0 (.int .i64 0) 8 Try.underlying39 Try.underlying39 hi hz0 hz1 hz2 rfl w.heap.size _ _ _ rfl (HY.out.row.alloc _) .i64 _ _ [y] rfl (ints_laid W [y] 36) (by unfold maxLen; simp; omega) (by simp; omega) (by simp; omega) ?_; intro v' w2 hown hg hb; obtain ⟨Av, cv, rfl⟩ := own_shape0 hown; have hcf2 := (HY.out.cell2 hg).cell 0; have hff2 := (HY.out.cell2 hg).frozen 0; have HP := Lib.hid (HY.out.push hown hg hb); have HBl := Lib.hid (HY.out.push_below hBs hg (v' := .slice Av (ys.length + 1) cv)); clear hown hg hb)
    refine ⟨HP.out.2, (k + 1, K'), rfl, ⟨_, by show TY _ _ _ _ _ _ _ _ _ _ ((litsOf its).take (k + 1)) _; rw [HX1.out]; exact HP.out.1⟩, rfl, hkl, HB.out.trans HBl.out⟩
  case done =>
    rintro D ⟨k, K'⟩ W hDw hx ⟨⟨v, hy⟩, hK, hs, hB⟩ hD
    dsimp only at hy hK hs hx
    simp only [World.size_alloc] at hDw
    subst hK
    obtain rfl : k = its.length := by omega
    have ht : (litsOf its).take its.length = litsOf its := by rw [← litsOf_len, List.take_length]
    rw [ht] at hy
    have hc := hy.cell.cell 0
    have hrow := hy.row
    rw [litsOf_len] at hrow
    have HR := Lib.hid hrow; have HY := Lib.hid hy; have HB := Lib.hid hB; have HD := Lib.hid hD
    clear hy hrow hB ht hD H0 hx
    gi_wp2_with fail
    refine ⟨by simp, .inl ⟨_, _, rfl, run_takeDeferred HD.out, ?_⟩⟩
    have hrow := (steady_row (B := 0) w.heap.size 36 1 its.length v ((litsOf its).map (Value.int .i64))).put (.deferred none) HR.out (Nat.zero_le _) HD.out rfl
    have hb := HB.out.grown (grownBy_putObj' W D (.deferred none)) HB.out.size (fun k e => by cases e; omega)
    refine ⟨v, ?_, v, rfl, hrow, hb⟩
    simp [results, Try.f30, go_sem]
end Go.Proofs.Ytdeedmfofjdbjaa
