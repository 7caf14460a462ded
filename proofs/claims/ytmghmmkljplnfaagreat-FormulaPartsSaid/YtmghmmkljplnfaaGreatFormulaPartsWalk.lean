/- The law FormulaParts: its walk. -/
import Derived.Test.YtmghmmkljplnfaaGreatFoAwake
import Derived.Test.YtmghmmkljplnfaaGreatFoParts
import Derived.Test.YtmghmmkljplnfaaGreatFoVars
import Derived.Outline
namespace Go.Proofs.YtmghmmkljplnfaaGreat.formulaParts
open Go.RowKit Go.ChangeAt Go.ChangeShapes Go.WideShapes Go.Shelf Go.Sort

/-- What Made gives of one number. -/
abbrev MadeOne (by_ l : Int) : Prop := ∀ (W : World) (b : Nat), W.cell? ⟨b, 0, none⟩ = some (.int .u8 by_) → Calls Tryz.prog 14 #[.slice (some ⟨b, 0, none⟩) 1 1] W fun e w' => ∃ g c, e = .returned (.slice (some ⟨g, 0, none⟩) 1 c) ∧ w'.cell? ⟨g, 0, none⟩ = some (.int .i64 l) ∧ g < w'.heap.size ∧ W.heap.size ≤ g ∧ Below W.heap.size W w'
theorem madeOne {by_ : Int} (h : (Lit.int .u8 by_).wf = true) : MadeOne by_ (madeU by_) := fun W b hc => by
  have hl := World.block_lt_of_cell? W _ hc
  have hI : IntsK .u8 W.heap.size W (.slice (some ⟨b, 0, none⟩) 1 1) [by_] := by
    refine .inr ⟨b, 0, 1, rfl, hl, fun j hj => ?_⟩
    obtain rfl : j = 0 := by simp at hj; omega
    exact hc
  have := made_any W.heap.size _ [by_] (by simp) (fun x hx => by rw [List.mem_singleton] at hx; subst hx; exact h) (fun A n c e => by injection e with h1 h2 h3; omega) W (Nat.le_refl _) hI
  refine this.mono fun e w' ⟨v2, he, ho, hb⟩ => ?_
  rcases ho.2 with ⟨-, h0⟩ | ⟨g, cap, cur, rfl, hg, -⟩
  · cases h0
  · have hc := ho.cellAt 0 (by simp [madeL])
    have hc : w'.cell? ⟨g, 0, none⟩ = some (.int .i64 (madeU by_)) := by simpa [madeL] using hc
    exact ⟨g, cap, he, hc, World.block_lt_of_cell? w' _ hc, hg, hb⟩
theorem contains_ints {v : Value} {xs : List Int} (y : Int) (W : World) (hl : xs.length ≤ 1000000) (hI : Ints W.heap.size W v xs) :
    Calls Tryz.prog 18 #[v, .int .i64 y] W fun e w' => e = .returned (.bool (xs.any fun x => y == x)) ∧ w' = W := by
  rcases hI with ⟨A, c, rfl, -, rfl⟩ | ⟨b, off, cap, rfl, -, hc⟩
  · exact (Tryz.slices_Contains_empty_f18 (α := Int) _ _ _ W).mono fun e w' ⟨he, hw⟩ => ⟨by rw [he]; rfl, hw⟩
  · have h := Tryz.slices_Contains_f18 (Value.int .i64) (fun x y => x == y) (EqlAt.int _ _ _) b off xs.length cap xs y W (Nat.le_refl _) (by omega) (fun j hj => by
      rw [hc j hj]
      simp [hj])
    rw [List.take_length] at h
    exact h
/-- Vars of a clause without a variable does not contain it. -/
theorem vars_none {W : World} {sv : Value} {zs : List Int} (hl : zs.length ≤ 1000) (hI : Ints W.heap.size W sv zs) :
    Calls Tryz.prog 19 #[sv] W fun e w' => ∃ v xs, e = .returned v ∧ Ints w'.heap.size w' v xs ∧ xs.length ≤ 1000 ∧ (∀ y ∈ xs, ∃ l ∈ zs, litB l = true ∧ varI l = y) ∧ Below W.heap.size W w' :=
  (vr.vars_any sv zs (by omega) W hI).mono fun e w' ⟨v, he, ho, _, hb⟩ => by
    refine ⟨v, vr.varsL zs, he, (lits_own ho).ints, ?_, ?_, hb⟩
    · unfold vr.varsL
      rw [List.length_mergeSort]
      have h1 := vr.ded_length (vl zs)
      have h2 : (vl zs).length ≤ zs.length := by unfold vl; rw [List.length_map]; exact List.length_filter_le _ _
      omega
    · intro y hy
      unfold vr.varsL at hy
      rw [List.mem_mergeSort, vr.ded_mem] at hy
      unfold vl at hy
      obtain ⟨l, h1, h2⟩ := List.mem_map.1 hy
      obtain ⟨h3, h4⟩ := List.mem_filter.1 h1
      exact ⟨l, h3, h4, h2⟩
theorem cell_made {W : World} {b : Nat} {v : Value} {t : TypeId} (h : b = W.heap.size) : (W.alloc (.cells #[v] t)).cell? ⟨b, 0, none⟩ = some v := by subst h; exact (Whole.made W t #[v]).cell 0
theorem cell_old {W : World} {b : Nat} {v : Value} {o : Obj} (h : W.cell? ⟨b, 0, none⟩ = some v) : (W.alloc o).cell? ⟨b, 0, none⟩ = some v := ((below1a W o).cell (p := ⟨b, 0, none⟩) (World.block_lt_of_cell? W _ h)).trans h
theorem cell_drew {W : World} {b : Nat} {v : Value} (h : W.cell? ⟨b, 0, none⟩ = some v) : W.drew.cell? ⟨b, 0, none⟩ = some v := h
/-- A formula's box that was just laid. -/
abbrev Bx (W : World) (b : Nat) : Prop := Whole W b 24 #[.int .i64 0, .slice none 0 0]
theorem bx_facts {W : World} {b : Nat} (h : Bx W b) : W.cell? ⟨b, 0, none⟩ = some (.int .i64 0) ∧ W.cell? ⟨b, 1, none⟩ = some (.slice none 0 0) ∧ W.frozen? ⟨b, 0, none⟩ = false ∧ W.frozen? ⟨b, 1, none⟩ = false := ⟨h.cell 0, h.cell 1, h.frozen 0, h.frozen 1⟩
theorem bx_made {W : World} {b : Nat} (h : b = W.heap.size) : Bx (W.alloc (.cells #[.int .i64 0, .slice none 0 0] 24)) b := by subst h; exact Whole.made W _ _
theorem bx_on {W W' : World} {b : Nat} (h : Bx W b) (hb : Below W.heap.size W W') : Bx W' b := h.same (hb.block _ h.lt)
theorem cell_beside {W : World} {b g i : Nat} {v : Value} (hc : W.cell? ⟨g, 0, none⟩ = some v) (hne : b < g) (u : Value) : (W.setCell ⟨b, i, none⟩ u).cell? ⟨g, 0, none⟩ = some v := (World.cell?_of_block (a := ⟨g, 0, none⟩) (Below.heap_setCell _ _ _ _ (Nat.ne_of_gt hne))).trans hc
theorem bx_sides {W W0 : World} {b g : Nat} {v : Value} (h : Bx W0 b) (hg : W0.heap.size ≤ g) (hc : W.cell? ⟨g, 0, none⟩ = some v) : (∀ u, (W.setCell ⟨b, 0, none⟩ u).cell? ⟨g, 0, none⟩ = some v) ∧ ∀ u u', ((W.setCell ⟨b, 0, none⟩ u).setCell ⟨b, 1, none⟩ u').cell? ⟨g, 0, none⟩ = some v := by
  have := h.lt
  exact ⟨fun u => cell_beside hc (by omega) u, fun u u' => cell_beside (cell_beside hc (by omega) u) (by omega) u'⟩
theorem bx_both {W W0 : World} {b g : Nat} {v : Value} (h : Bx W0 b) (hb : Below W0.heap.size W0 W) (hg : W0.heap.size ≤ g) (hc : W.cell? ⟨g, 0, none⟩ = some v) : Bx W b ∧ (∀ u, (W.setCell ⟨b, 0, none⟩ u).cell? ⟨g, 0, none⟩ = some v) ∧ ∀ u u', ((W.setCell ⟨b, 0, none⟩ u).setCell ⟨b, 1, none⟩ u').cell? ⟨g, 0, none⟩ = some v := ⟨bx_on h hb, bx_sides h hg hc⟩
theorem bx_alloc {W : World} {b : Nat} {o : Obj} (h : Bx W b) : Bx (W.alloc o) b := whole_alloc h o
theorem bx_drew {W : World} {b : Nat} (h : Bx W b) : Bx W.drew b := h
theorem asg_len (x : Int) (L : List (List Int)) : (asgL x L).length ≤ L.length := by
  unfold asgL
  rw [List.length_map]
  exact List.length_filter_le _ _
theorem hasv_small {x : Int} (h1 : 1 ≤ x.natAbs) (h2 : x.natAbs ≤ 8) : hasV 8 x = true := by
  unfold hasV
  rw [lit_small (by omega), varI_small (lit_small (by omega))]
  simp; omega
theorem out_any {x : Int} {zs xs : List Int} (hx : 1 ≤ x.natAbs ∧ x.natAbs ≤ 8) (h1 : x ∉ zs) (h2 : -x ∉ zs) (h : ∀ y ∈ xs, ∃ l ∈ zs, litB l = true ∧ varI l = y) : (xs.any fun y => varI x == y) = false := by
  refine List.any_eq_false.2 fun y hy => ?_
  obtain ⟨l, hl1, hl2, hl3⟩ := h y hy
  rw [varI_small hl2] at hl3
  rw [varI_small (lit_small (by omega))]
  intro e
  have e : (x.natAbs : Int) = y := by simpa using e
  rcases (by omega : l = x ∨ l = -x) with e | e
  · exact h1 (e ▸ hl1)
  · exact h2 (e ▸ hl1)
def PRel (V : World) (fs : List (Value × List (List Int))) (rs : List (Value × List (List Bool))) (ss : List (Nat × TypeId × Array Value)) (K : Nat) (i : Value) (wr : World) : Prop := ∃ j : Nat, j ≤ K ∧ i = .int .i64 j ∧ Ev V wr fs [] rs ss []
/-- What stands behind the first statement. -/
def PCut (w : World) (L : List (List Int)) (m : Nat) (x : Int) (s5 s6 : Value) (wx : World) : Prop := ∃ A c p, s5 = .pointer (some ⟨p, 0, none⟩) ∧ s6 = .int .i64 x ∧ Ev w wx [(.slice A m c, L)] [] [] [(p, 24, #[.int .i64 8, .slice A m c])] []
theorem cut_new {w w2 : World} {L : List (List Int)} {m c : Nat} {x : Int} {A : Option Addr} (hB : Below w.heap.size w w2) (hr : RowsL w2.heap.size w2 (.slice A m c) L) :
    PCut w L m x (.pointer (some ⟨w2.heap.size, 0, none⟩)) (.int .i64 x) (w2.alloc (.cells #[.int .i64 8, .slice A m c] 24)) :=
  ⟨A, c, w2.heap.size, rfl, rfl, (((Ev.start w).on hB).addF hr).box _ _⟩
theorem cut_set {w w2 : World} {L : List (List Int)} {m c b : Nat} {x : Int} {A : Option Addr} (hB : Below w.heap.size w w2) (hq : Bx w2 b) (hb : w.heap.size ≤ b) (hk : KRows b w2 (.slice A m c) L) :
    PCut w L m x (.pointer (some ⟨b, 0, none⟩)) (.int .i64 x) ((w2.setCell ⟨b, 0, none⟩ (.int .i64 8)).setCell ⟨b, 1, none⟩ (.slice A m c)) := by
  refine ⟨A, c, b, rfl, rfl, ?_⟩
  have hW : Below w.heap.size w ((w2.setCell ⟨b, 0, none⟩ (.int .i64 8)).setCell ⟨b, 1, none⟩ (.slice A m c)) := (hB.setCell (p := ⟨b, 0, none⟩) hb _).setCell (p := ⟨b, 1, none⟩) hb _
  exact (((Ev.start w).on hW).addF ((hk.set 0 _).set 1 _).rows).addS ((Whole.store hq 0 (.int .i64 8)).store 1 (.slice A m c))
set_option maxRecDepth 100000 in
set_option maxHeartbeats 2000000 in
theorem formulaParts_walk (v : Value) (zss : List (List Int)) (_hl : zss.length ≤ maxLen) (hz : ∀ zs ∈ zss, zs.length ≤ maxLen ∧ ∀ x ∈ zs, (Lit.int .u8 x).wf = true) (by_ : Int) (hw : (Lit.int .u8 by_).wf = true) (w : World) (hR : Rows2 .u8 w.heap.size w v zss) :
    Calls Tryz.prog 5 #[v, .int .u8 by_] w fun e w' => e = .returned (.bool true) ∧ Below w.heap.size w w' := by
  have hone := madeOne hw
  obtain ⟨x, hx⟩ : ∃ x, madeU by_ = x := ⟨_, rfl⟩
  have hx8 : 1 ≤ x.natAbs ∧ x.natAbs ≤ 8 := by rw [← hx]; obtain ⟨u, h1, h2, h3⟩ := madeU_is by_; omega
  rw [hx] at hone
  have HZ := Lib.hid hz; have HR := Lib.hid hR; have HOne := Lib.hid hone
  clear hz hR hw hone hx
  have hm1 : ∀ W, Below w.heap.size w W → Calls Tryz.prog 13 #[v] W fun e w' => ∃ A c, e = .returned (.agg #[.int .i64 8, .slice A (madeF zss).length c]) ∧ OwnL W.heap.size w' (.slice A (madeF zss).length c) (madeF zss) ∧ Below W.heap.size W w' := fun W hb =>
    (foMade_any W (Nat.le_refl _) HZ.out (rows2_more hb.size (HR.out.below hb))).mono fun e w' ⟨v', he, ho, hB⟩ => by
      obtain ⟨A, c, rfl⟩ := ho.len
      rw [cellsL_len] at he ho
      exact ⟨A, c, he, ho, hB⟩
  have hk := ok_made zss
  have hcl8 : ∀ zs ∈ madeF zss, Cl8 zs := madeF_cl
  have hm30 := madeF_len zss
  obtain ⟨L, hL⟩ : ∃ x, madeF zss = x := ⟨_, rfl⟩
  obtain ⟨m, hm⟩ : ∃ x, L.length = x := ⟨_, rfl⟩
  rw [hL] at hk hm30 hm1 hcl8
  rw [hm] at hm30 hm1
  have HOk := Lib.hid hk; have HM := Lib.hid hm; have HM1 := Lib.hid hm1; have HCl8 := Lib.hid hcl8; have HX8 := Lib.hid hx8
  clear hk hL hm hm1 HZ HR hcl8 hx8
  go_enter Tryz.func5, Tryz.ntmps5
  go_upto_region 1 with fail
  go_cut [5, 6] (fun s5 s6 wx => PCut w L m x s5 s6 wx)
  case first =>

    go_region_law (first
      | (go_simp; go_at_call 13; (with_reducible refine (HM1.out _ (by repeat (first | exact Below.refl _ _ | apply Below.drew | (refine Below.alloc ?_ (by simp) _)))).mono ?_); rintro r w1 ⟨A, c, rfl, hr1, hb1⟩; (first | (have hq : Bx w1 w.heap.size := bx_on (bx_drew (bx_made rfl)) hb1; obtain ⟨pa, qa, ra, ta⟩ := bx_facts hq; have HQ := Lib.hid hq; clear hq) | (have hq : Bx w1 w.heap.size := bx_on (bx_made rfl) hb1; obtain ⟨pa, qa, ra, ta⟩ := bx_facts hq; have HQ := Lib.hid hq; clear hq) | (have hq : Bx w1 w.heap.size := bx_on (bx_drew (bx_alloc (bx_made rfl))) hb1; obtain ⟨pa, qa, ra, ta⟩ := bx_facts hq; have HQ := Lib.hid hq; clear hq) | (have hq : Bx w1 w.heap.size := bx_on (bx_alloc (bx_made rfl)) hb1; obtain ⟨pa, qa, ra, ta⟩ := bx_facts hq; have HQ := Lib.hid hq; clear hq) | (have hq : Bx w1 (w.heap.size + 1) := bx_on (bx_drew (bx_made (World.size_alloc _ _).symm)) hb1; obtain ⟨pa, qa, ra, ta⟩ := bx_facts hq; have HQ := Lib.hid hq; clear hq) | (have hq : Bx w1 (w.heap.size + 1) := bx_on (bx_made (World.size_alloc _ _).symm) hb1; obtain ⟨pa, qa, ra, ta⟩ := bx_facts hq; have HQ := Lib.hid hq; clear hq) | skip); have HR1 := Lib.hid hr1; have HB1 := Lib.hid hb1; clear hr1 hb1)
      | (go_simp; go_at_call 14; (with_reducible refine (HOne.out _ _ (by repeat (first | with_reducible apply cell_drew | ((with_reducible refine cell_made ?_); first | rfl | (simp; done)) | with_reducible apply cell_old | (refine (HB1.out.cell (by simp <;> omega)).trans ?_)))).mono ?_); rintro r w2 ⟨g2, c2, rfl, hc2, hl2, hg2, hb2⟩; (first | (have hz := bx_both (b := _) HQ.out hb2 hg2 hc2; obtain ⟨hq, ya, za⟩ := hz; obtain ⟨pa, qa, ra, ta⟩ := bx_facts hq; have HQ2 := Lib.hid hq; clear hq) | (have hz := bx_both (b := _) (bx_alloc HQ.out) hb2 hg2 hc2; obtain ⟨hq, ya, za⟩ := hz; obtain ⟨pa, qa, ra, ta⟩ := bx_facts hq; have HQ2 := Lib.hid hq; clear hq) | (have hz := bx_both (b := w1.heap.size) (bx_made rfl) hb2 hg2 hc2; obtain ⟨hq, ya, za⟩ := hz; obtain ⟨pa, qa, ra, ta⟩ := bx_facts hq; have HQ2 := Lib.hid hq; clear hq) | (have hz := bx_both (b := w1.heap.size) (bx_alloc (bx_made rfl)) hb2 hg2 hc2; obtain ⟨hq, ya, za⟩ := hz; obtain ⟨pa, qa, ra, ta⟩ := bx_facts hq; have HQ2 := Lib.hid hq; clear hq) | (have hz := bx_both (b := w1.heap.size + 1) (bx_made (World.size_alloc _ _).symm) hb2 hg2 hc2; obtain ⟨hq, ya, za⟩ := hz; obtain ⟨pa, qa, ra, ta⟩ := bx_facts hq; have HQ2 := Lib.hid hq; clear hq) | skip); have HB2 := Lib.hid hb2; have hc3 : ∀ o, (w2.alloc o).cell? ⟨g2, 0, none⟩ = some (.int .i64 x) := (fun o => ((below1a w2 o).cell (p := ⟨g2, 0, none⟩) hl2).trans hc2)))
    all_goals go_wp2_with fail
    all_goals go_meet
    all_goals
      have hA : Below w.heap.size w w1 := by
        refine below_cat ?_ HB1.out
        repeat (first | exact Below.refl _ _ | with_reducible apply Below.drew | refine Below.alloc ?_ (by simp <;> omega) _)
      have hC : Below w1.heap.size w1 w2 := by
        refine below_cat ?_ HB2.out
        repeat (first | exact Below.refl _ _ | with_reducible apply Below.drew | refine Below.alloc ?_ (by simp <;> omega) _)
      have hs := hA.size
      have hrw := (RowsV.below hC HR1.out.rowsL).more hC.size
      first
        | exact cut_new (below_cat hA hC) hrw
        | exact cut_set (below_cat hA hC) HQ2.out (by omega) (krows_low ((RowsV.below hC HR1.out.rowsL).more (by omega)) (Nat.le_of_lt HQ2.out.lt))
        | exact cut_set (below_cat hA hC) HQ2.out (by omega) ((krows_own HR1.out (by simp <;> omega)).on hC)

  case rest =>
    obtain ⟨A, c, p, rfl, rfl, h0⟩ := hcut
    have hx1 : 1 ≤ x.natAbs := HX8.out.1
    have hx2 : x.natAbs ≤ 8 := HX8.out.2
    have hxb : -8 ≤ x ∧ x ≤ 8 := by omega
    have hv1 : hasV 8 x = true := hasv_small hx1 hx2
    have hv2 : hasV 8 (-x) = true := hasv_small (by omega) (by omega)
    have hsmall := HOk.out.small
    obtain ⟨ka, kb, hka, hkb, hkk⟩ := parts_count (n := 8) (x := x) hsmall hx1 hx2
    have hok1 := ok_asg x HOk.out
    have hok2 := ok_asg (-x) HOk.out
    have hfree1 : ∀ z ∈ asgL x L, x ∉ z ∧ -x ∉ z := fun z hz => asg_free hz
    have hfree2 : ∀ z ∈ asgL (-x) L, x ∉ z ∧ -x ∉ z := fun z hz => by
      obtain ⟨h1, h2⟩ := asg_free hz
      rw [Int.neg_neg] at h2
      exact ⟨h2, h1⟩
    have hin1 : ∀ y ∈ modelsB 8 L, y[x.natAbs - 1]?.getD false = decide (0 < x) → y ∈ modelsB 8 (asgL x L) := fun y hy hb => parts_mem hx1 hx2 hy hb
    have hin2 : ∀ y ∈ modelsB 8 L, y[x.natAbs - 1]?.getD false = decide (0 < -x) → y ∈ modelsB 8 (asgL (-x) L) := fun y hy hb => parts_mem (by omega) (by omega) hy (by rw [Int.natAbs_neg]; exact hb)
    obtain ⟨La, hLa⟩ : ∃ y, asgL x L = y := ⟨_, rfl⟩
    obtain ⟨Lb, hLb⟩ : ∃ y, asgL (-x) L = y := ⟨_, rfl⟩
    rw [hLa] at hka hok1 hfree1 hin1
    rw [hLb] at hkb hok2 hfree2 hin2
    obtain ⟨ma, hma⟩ : ∃ y, La.length = y := ⟨_, rfl⟩
    obtain ⟨mb, hmb⟩ : ∃ y, Lb.length = y := ⟨_, rfl⟩
    have hma1 : ma ≤ 30 := by
      have h1 := asg_len x L
      have h2 := HM.out
      rw [hLa] at h1; omega
    have hmb1 : mb ≤ 30 := by
      have h1 := asg_len (-x) L
      have h2 := HM.out
      rw [hLb] at h1; omega
    obtain ⟨K, hK⟩ : ∃ y, (modelsB 8 L).length = y := ⟨_, rfl⟩
    obtain ⟨P, hP⟩ : ∃ y, (modelsB 8 La).length = y := ⟨_, rfl⟩
    obtain ⟨Q, hQ⟩ : ∃ y, (modelsB 8 Lb).length = y := ⟨_, rfl⟩
    have hK256 : K ≤ 256 := by have := models_count 8 L; omega
    have hP256 : P ≤ 256 := by have := models_count 8 La; omega
    have hQ256 : Q ≤ 256 := by have := models_count 8 Lb; omega
    have hPa : P = 2 * ka := by omega
    have hQb : Q = 2 * kb := by omega
    have hKab : K = ka + kb := by omega
    have hF := h0.s (g := p) (t := 24) (cs := #[.int .i64 8, .slice A m c]) (by simp)
    have c0 : wc.cell? ⟨p, 0, none⟩ = some (.int .i64 8) := hF.cell 0
    have c1 : wc.cell? ⟨p, 1, none⟩ = some (.slice A m c) := hF.cell 1
    have has1 := ev_assign h0 (v := .slice A m c) (L := L) (by simp) HOk.out x hv1 hLa ma hma
    have HA1 := Lib.hid has1; have HV2 := Lib.hid hv2; have HLb := Lib.hid hLb; have HMa := Lib.hid hma; have HMb := Lib.hid hmb; have HK := Lib.hid hK; have HP := Lib.hid hP; have HQ := Lib.hid hQ
    have HOk1 := Lib.hid hok1; have HOk2 := Lib.hid hok2; have HFr1 := Lib.hid hfree1; have HFr2 := Lib.hid hfree2; have HIn1 := Lib.hid hin1; have HIn2 := Lib.hid hin2; have HPa := Lib.hid hPa; have HQb := Lib.hid hQb; have HKab := Lib.hid hKab
    clear has1 hv2 hLb hma hmb hK hP hQ hok1 hok2 hfree1 hfree2 hin1 hin2 hPa hQb hKab hF h0 hv1 hsmall hka hkb hkk hLa hx1 hx2
    go_wp2_with fail
    refine HA1.out.mono ?_
    rintro e w2 ⟨Aa, ca, rfl, h2, hAa⟩
    have hF := h2.s (g := p) (t := 24) (cs := #[.int .i64 8, .slice A m c]) (by simp)
    have k0 : ∀ o, (w2.alloc o).cell? ⟨p, 0, none⟩ = some (.int .i64 8) := fun o => ((below1a w2 o).cell (p := ⟨p, 0, none⟩) hF.lt).trans (hF.cell 0)
    have k1 : ∀ o, (w2.alloc o).cell? ⟨p, 1, none⟩ = some (.slice A m c) := fun o => ((below1a w2 o).cell (p := ⟨p, 1, none⟩) hF.lt).trans (hF.cell 1)
    have H2 := Lib.hid h2; have HAa := Lib.hid hAa
    clear h2 hAa hF HA1 c0 c1
    go_wp2_with fail
    have h3 := H2.out.box 24 #[.int .i64 8, .slice Aa ma ca]
    obtain ⟨pa, hpa⟩ : ∃ y, w2.heap.size = y := ⟨_, rfl⟩
    obtain ⟨w3, hw3⟩ : ∃ y, w2.alloc (.cells #[.int .i64 8, .slice Aa ma ca] 24) = y := ⟨_, rfl⟩
    rw [hpa, hw3] at h3
    rw [hpa, hw3]
    clear k0 k1 hpa hw3
    have has2 := ev_assign h3 (v := .slice A m c) (L := L) (by simp) HOk.out (-x) HV2.out HLb.out mb HMb.out
    refine has2.mono ?_
    rintro e w4 ⟨Ab, cb, rfl, h4, hAb⟩
    have hF := h4.s (g := p) (t := 24) (cs := #[.int .i64 8, .slice A m c]) (by simp)
    have k0 : ∀ o, (w4.alloc o).cell? ⟨p, 0, none⟩ = some (.int .i64 8) := fun o => ((below1a w4 o).cell (p := ⟨p, 0, none⟩) hF.lt).trans (hF.cell 0)
    have k1 : ∀ o, (w4.alloc o).cell? ⟨p, 1, none⟩ = some (.slice A m c) := fun o => ((below1a w4 o).cell (p := ⟨p, 1, none⟩) hF.lt).trans (hF.cell 1)
    have H4 := Lib.hid h4; have HAb := Lib.hid hAb
    clear h4 hAb hF has2 h3 H2
    go_wp2_with fail
    have h5 := H4.out.box 24 #[.int .i64 8, .slice Ab mb cb]
    obtain ⟨pb, hpb⟩ : ∃ y, w4.heap.size = y := ⟨_, rfl⟩
    obtain ⟨w5, hw5⟩ : ∃ y, w4.alloc (.cells #[.int .i64 8, .slice Ab mb cb] 24) = y := ⟨_, rfl⟩
    rw [hpb, hw5] at h5
    rw [hpb, hw5]
    clear k0 k1 hpb hw5
    have hc1 := ev_collected h5 (v := .slice A m c) (L := L) (by simp) HOk.out K HK.out
    refine hc1.mono ?_
    rintro e w6 ⟨Ax, cx, rfl, h6⟩
    have hF := h6.s (g := pa) (t := 24) (cs := #[.int .i64 8, .slice Aa ma ca]) (by simp)
    have c0 : w6.cell? ⟨pa, 0, none⟩ = some (.int .i64 8) := hF.cell 0
    have c1 : w6.cell? ⟨pa, 1, none⟩ = some (.slice Aa ma ca) := hF.cell 1
    have hc2 := ev_collected h6 (v := .slice Aa ma ca) (L := La) (by simp) HOk1.out P HP.out
    have HC2 := Lib.hid hc2
    clear hc2 hc1 h5 hF H4 h6
    go_wp2_with fail
    refine HC2.out.mono ?_
    rintro e w7 ⟨Ap, cp, rfl, h7⟩
    have hF := h7.s (g := pb) (t := 24) (cs := #[.int .i64 8, .slice Ab mb cb]) (by simp)
    have c0 : w7.cell? ⟨pb, 0, none⟩ = some (.int .i64 8) := hF.cell 0
    have c1 : w7.cell? ⟨pb, 1, none⟩ = some (.slice Ab mb cb) := hF.cell 1
    have hc3 := ev_collected h7 (v := .slice Ab mb cb) (L := Lb) (by simp) HOk2.out Q HQ.out
    have HC3 := Lib.hid hc3
    clear hc3 hF h7 HC2
    go_wp2_with fail
    refine HC3.out.mono ?_
    rintro e w8 ⟨Aq, cq, rfl, h8⟩
    have hF := h8.s (g := pa) (t := 24) (cs := #[.int .i64 8, .slice Aa ma ca]) (by simp)
    have hG := h8.s (g := pb) (t := 24) (cs := #[.int .i64 8, .slice Ab mb cb]) (by simp)
    have c1 : w8.cell? ⟨pa, 1, none⟩ = some (.slice Aa ma ca) := hF.cell 1
    have d1 : w8.cell? ⟨pb, 1, none⟩ = some (.slice Ab mb cb) := hG.cell 1
    have hm1 : (P : Int).tmod 2 = 0 := by have := HPa.out; rw [Int.tmod_eq_emod_of_nonneg (by omega)]; omega
    have hm2 : (Q : Int).tmod 2 = 0 := by have := HQb.out; rw [Int.tmod_eq_emod_of_nonneg (by omega)]; omega
    have hd1 : (P : Int).tdiv 2 = (ka : Int) := by have := HPa.out; rw [Int.tdiv_eq_ediv_of_nonneg (by omega)]; omega
    have hd2 : (Q : Int).tdiv 2 = (kb : Int) := by have := HQb.out; rw [Int.tdiv_eq_ediv_of_nonneg (by omega)]; omega
    have hk256 : (ka : Int) ≤ 256 ∧ (kb : Int) ≤ 256 := by have := HPa.out; have := HQb.out; omega
    have hw1 : IntKind.i64.wrap ((ka : Int) + (kb : Int)) = (K : Int) := by have := HKab.out; rw [IntWalk.i64_in _ (by omega)]; omega
    obtain ⟨us1, hv1, hp1⟩ := ev_vals HAa.out (h8.f (v := .slice Aa ma ca) (L := La) (by simp)) HMa.out
    obtain ⟨us2, hv2, hp2⟩ := ev_vals HAb.out (h8.f (v := .slice Ab mb cb) (L := Lb) (by simp)) HMb.out
    obtain ⟨M, hM⟩ : ∃ y, ma + mb = y := ⟨_, rfl⟩
    have hM60 : M ≤ 60 := by omega
    have hcc := ev_both h8 hv1 hv2 hp1 hp2 M (by rw [HMa.out, HMb.out, hM]) (by omega) (below1a w8 (.cells #[.slice Aa ma ca, .slice Ab mb cb] 22)) _ (Whole.made _ _ _)
    have hcatl : (La ++ Lb).length = M := by rw [List.length_append, HMa.out, HMb.out, hM]
    have hfree : ∀ z ∈ La ++ Lb, z.length ≤ 100 ∧ x ∉ z ∧ -x ∉ z := fun z hz => by
      rcases List.mem_append.1 hz with h | h
      · exact ⟨(HOk1.out.cl z h).1, HFr1.out z h⟩
      · exact ⟨(HOk2.out.cl z h).1, HFr2.out z h⟩
    have HFree := Lib.hid hfree; have HCat := Lib.hid hcatl
    have HCc := Lib.hid hcc
    clear hcc h8 hF hG hv1 hv2 hp1 hp2 us1 us2 HC3 hfree hcatl hM HFr1 HFr2
    go_wp2_with fail
    refine HCc.out.mono ?_
    rintro e w9 ⟨Ac, cc, rfl, h9⟩
    have H9 := Lib.hid h9
    clear h9 HCc c1 d1 hm1 hm2 hd1 hd2 hk256 hw1
    go_wp2_with fail
    go_loopw [104] (fun i wr => PRel w [(.slice Ac M cc, La ++ Lb), (.slice Ab mb cb, Lb), (.slice Aa ma ca, La), (.slice A m c, L)] [(.slice Aq Q cq, modelsB 8 Lb), (.slice Ap P cp, modelsB 8 La), (.slice Ax K cx, modelsB 8 L)] [(pb, 24, #[.int .i64 8, .slice Ab mb cb]), (pa, 24, #[.int .i64 8, .slice Aa ma ca]), (p, 24, #[.int .i64 8, .slice A m c])] M i wr) (fun i _ => M - (intOf i).toNat)
    case atStart => exact ⟨0, Nat.zero_le _, rfl, H9.out⟩
    case round =>
      clear H9
      obtain ⟨j, hj, rfl, hev⟩ := hrel
      by_cases hlt : j < M
      · obtain ⟨zs, hx⟩ : ∃ zs, (La ++ Lb)[j]? = some zs := ⟨_, List.getElem?_eq_getElem (by have := HCat.out; omega)⟩
        obtain ⟨hz100, hz1, hz2⟩ := HFree.out zs (List.mem_of_getElem? hx)
        obtain ⟨b, off, As, cs, e1, hc, hl⟩ := ev_clause (A := Ac) (m := M) (c := cc) hev (by simp) hx
        subst e1
        have hva := vars_none (sv := .slice As zs.length cs) (by omega) hl.ints
        have hji : (j : Int) < (M : Int) := by omega
        have hout : ∀ xs : List Int, (∀ y ∈ xs, ∃ l ∈ zs, litB l = true ∧ varI l = y) → (xs.any fun y => varI x == y) = false := fun xs h => out_any HX8.out hz1 hz2 h
        have HVa := Lib.hid hva; have HNx := Lib.hid hlt; have HEv := Lib.hid hev; have HOut := Lib.hid hout
        clear hva hlt hev hx hz1 hz2 hl hout
        go_wp2_with fail
        refine HVa.out.mono ?_
        rintro e y1 ⟨v1, xs, rfl, hI, hxl, hxm, hb⟩
        obtain ⟨A1, c1, rfl, -⟩ := ints_shape hI
        have hco := contains_ints (varI x) y1 (by omega) hI
        rw [HOut.out xs hxm] at hco
        have hva := var_any x y1
        obtain ⟨X, hX⟩ : ∃ y, varI x = y := ⟨_, rfl⟩
        rw [hX] at hco hva
        have HE := Lib.hid (HEv.out.on hb); have HCo := Lib.hid hco; have HVr := Lib.hid hva
        clear hI hxm hb hco hva hX HVa HEv
        go_wp2_with fail
        refine HVr.out.mono ?_
        rintro e y2 ⟨rfl, rfl⟩
        go_wp2_with fail
        refine HCo.out.mono ?_
        rintro e y2 ⟨rfl, rfl⟩
        go_wp2_with fail
        go_roundw
        case rel => exact ⟨j + 1, HNx.out, by go_num, HE.out⟩
        case measure => simp [intOf]; have := HNx.out; omega
      · obtain rfl : j = M := by omega
        have HEv := Lib.hid hev
        clear hev
        go_wp2_with fail
        go_loopw [121] (fun i wr => PRel w [(.slice Ac j cc, La ++ Lb), (.slice Ab mb cb, Lb), (.slice Aa ma ca, La), (.slice A m c, L)] [(.slice Aq Q cq, modelsB 8 Lb), (.slice Ap P cp, modelsB 8 La), (.slice Ax K cx, modelsB 8 L)] [(pb, 24, #[.int .i64 8, .slice Ab mb cb]), (pa, 24, #[.int .i64 8, .slice Aa ma ca]), (p, 24, #[.int .i64 8, .slice A m c])] K i wr) (fun i _ => K - (intOf i).toNat)
        case atStart => exact ⟨0, Nat.zero_le _, rfl, HEv.out⟩
        case round =>
          clear HEv
          obtain ⟨i, hi, rfl, hev⟩ := hrel
          by_cases hlt : i < K
          · obtain ⟨y, hy⟩ : ∃ y, (modelsB 8 L)[i]? = some y := ⟨_, List.getElem?_eq_getElem (by have := HK.out; omega)⟩
            have hym := List.mem_of_getElem? hy
            have hy8 := models_len hym
            obtain ⟨b, off, As, cs', e1, hc, hbl⟩ := ev_at (Aa := Ax) (K := K) (ca := cx) hev (by simp) hy
            subst e1
            obtain ⟨X, hX⟩ : ∃ n, x.natAbs = n := ⟨_, rfl⟩
            have hX8 : 1 ≤ X ∧ X ≤ 8 := by rw [← hX]; exact HX8.out
            have hva := var_any x wr
            rw [varI_small (lit_small (by have := HX8.out; omega)), hX] at hva
            have hcell : ∃ b' off', As = some ⟨b', off', none⟩ ∧ wr.cell? ⟨b', off' + (X - 1), none⟩ = some (.bool (y[X - 1]?.getD false)) := by
              obtain ⟨A', c', e, h⟩ := bools_shape hbl
              injection e with e2 e3 e4
              subst e2
              obtain ⟨b', off', h1, -, h2⟩ := h (X - 1) (by omega)
              exact ⟨b', off', h1, h2⟩
            obtain ⟨b', off', rfl, hcell⟩ := hcell
            obtain ⟨bit, hbit⟩ : ∃ t, y[X - 1]?.getD false = t := ⟨_, rfl⟩
            rw [hbit] at hcell
            obtain ⟨q, hq⟩ : ∃ q, X - 1 = q := ⟨_, rfl⟩
            rw [hq] at hcell
            have hq1 : ((X : Nat) : Int) - 1 = (q : Int) := by omega
            have hq8 : (q : Int) < 8 := by omega
            have hji : (i : Int) < (K : Int) := by omega
            rw [hy8] at hc hbl
            obtain ⟨sg, hsg⟩ : ∃ t, decide (0 < x) = t := ⟨_, rfl⟩
            have hin : bit = sg → (modelsB 8 La).any (fun z => decide (y = z)) = true := fun e => List.any_eq_true.2 ⟨y, HIn1.out y hym (by rw [hX, hbit, hsg, e]), decide_eq_true rfl⟩
            have hin' : bit = !sg → (modelsB 8 Lb).any (fun z => decide (y = z)) = true := fun e => List.any_eq_true.2 ⟨y, HIn2.out y hym (by
              rw [hX, hbit, e, ← hsg]
              have := HX8.out
              by_cases h : 0 < x
              · rw [decide_eq_true h, decide_eq_false (by omega)]; rfl
              · rw [decide_eq_false h, decide_eq_true (by omega)]; rfl), decide_eq_true rfl⟩
            have hsg1 : decide (x > 0) = sg := hsg
            have hp1 := fun e : bit = sg => has_any hev (A := Ap) (K := P) (c := cp) (l := modelsB 8 La) (by simp) HP.out (by omega) hbl hy8 true (hin e)
            have hp2 := fun e : bit = !sg => has_any hev (A := Aq) (K := Q) (c := cq) (l := modelsB 8 Lb) (by simp) HQ.out (by omega) hbl hy8 true (hin' e)
            have HVa := Lib.hid hva; have HNx := Lib.hid hlt; have HP1 := Lib.hid hp1; have HP2 := Lib.hid hp2
            clear hva hlt hev hy hym hy8 hin hin' hbl hbit hX hq hsg hp1 hp2
            cases bit <;> cases sg
            all_goals
              go_wp2_with fail
              refine HVa.out.mono ?_
              rintro e y1 ⟨rfl, rfl⟩
              go_wp2_with fail
              first
                | refine (HP1.out (by trivial)).mono ?_
                | refine (HP2.out (by trivial)).mono ?_
              rintro e y2 ⟨rfl, hev⟩
              have HE := Lib.hid hev
              clear hev
              go_wp2_with fail
              go_roundw
              case rel => exact ⟨i + 1, HNx.out, by go_num, HE.out⟩
              case measure => simp [intOf]; have := HNx.out; omega
          · obtain rfl : i = K := by omega
            have HE1 := Lib.hid hev
            clear hev
            go_wp2_with fail
            refine (awake_any wr).mono ?_
            rintro e w' ⟨rfl, hB⟩
            have HFin := Lib.hid (HE1.out.below.trans (hB.mono HE1.out.below.size))
            clear hB HE1
            go_wp2_with fail
            go_ret
            exact ⟨rfl, HFin.out⟩
end Go.Proofs.YtmghmmkljplnfaaGreat.formulaParts
