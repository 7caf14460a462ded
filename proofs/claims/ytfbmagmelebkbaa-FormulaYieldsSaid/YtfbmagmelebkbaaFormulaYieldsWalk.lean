/- The law FormulaYields: its walk. -/
import Derived.Test.YtfbmagmelebkbaaFoAwake
import Derived.Test.YtfbmagmelebkbaaFoContains
import Derived.Test.YtfbmagmelebkbaaFoIndexF
import Derived.Test.YtfbmagmelebkbaaFoLess
import Derived.Test.YtfbmagmelebkbaaClHolds
import Derived.Deep.DeepCutAuto
namespace Go.Proofs.Ytfbmagmelebkbaa.formulaYields
open Go.RowKit Go.ChangeAt Go.ChangeShapes Go.WideShapes Go.Shelf Go.Sort

attribute [local go_sem] Oper.semAt_some

theorem ev_less {w W : World} {fs : List (Value × List (List Int))} {ms : List (Value × List Bool)} {rs : List (Value × List (List Bool))} {ss : List (Nat × TypeId × Array Value)} {ds : List Nat} {mv mv' : Value} {x y : List Bool} (h : Ev w W fs ms rs ss ds) (hm : Bools W.heap.size W mv x) (hm' : Bools W.heap.size W mv' y) (hl : x.length ≤ 1000) (he : x.length = y.length) (b : Bool) (hb : lexB x y = b) :
    Calls Try.prog 23 #[mv, mv'] W fun e w' => e = .returned (.bool b) ∧ Ev w w' fs ms rs ss ds :=
  (less_any W (by omega) he hm hm').mono fun e w' ⟨he, q, hw⟩ => ⟨by rw [he, hb], by rw [hw]; exact h.on (below_dN _ _)⟩
theorem fail_none {L : List (List Int)} {x : List Bool} (h : x ∈ modelsB 8 L) : failP x 0 L = (0, false) := by
  obtain ⟨N, -, rfl, h⟩ := models_mem.1 h
  exact failP_no L 0 h
set_option maxRecDepth 100000 in
set_option maxHeartbeats 1000000 in
theorem clo_any {w W : World} {fs : List (Value × List (List Int))} {ms : List (Value × List Bool)} {rs : List (Value × List (List Bool))} {ss : List (Nat × TypeId × Array Value)} {ds : List Nat} {gm : Nat} {mv v : Value} {mb x : List Bool} (h : Ev w W fs ms rs ss ds) (hg : (gm, 23, #[mv]) ∈ ss) (hm : (mv, mb) ∈ ms) (hv : Bools W.heap.size W v x) (hx : x.length ≤ 1000) :
    Calls Try.prog 27 #[v, .pointer (some ⟨gm, 0, none⟩)] W fun e w' => e = .returned (.bool (decide (x = mb))) ∧ Ev w w' fs ms rs ss ds := by
  have cm : W.cell? ⟨gm, 0, none⟩ = some mv := (h.s hg).cell 0
  obtain ⟨Am, cam, rfl, -⟩ := bools_shape (h.m hm)
  have heq := ev_equal h hv (h.m hm) hx _ rfl
  have HEq := Lib.hid heq
  clear heq h hg hm hv
  go_enter Try.func27, Try.ntmps27
  go_wp2_with fail
  refine HEq.out.mono ?_
  rintro e w1 ⟨rfl, h1⟩
  have H1 := Lib.hid h1
  clear h1
  go_wp2_with fail
  go_ret
  exact ⟨rfl, H1.out⟩
theorem failP_all {bs : List Bool} : ∀ (L : List (List Int)) (k : Nat), (failP bs k L).2 = false → ∀ zs ∈ L, holdsM bs zs = true
  | [], _, _, _, h => by cases h
  | y :: L, k, h, zs, hz => by
    unfold failP at h
    cases hy : holdsM bs y
    · rw [hy] at h; cases h
    · rw [hy, if_pos rfl] at h
      rcases List.mem_cons.1 hz with rfl | hz
      · exact hy
      · exact failP_all L (k + 1) h zs hz
/-- Where the first that fails lies. -/
theorem failP_true {bs : List Bool} : ∀ (L : List (List Int)) (k : Nat), (failP bs k L).2 = true → ∃ j zs, (failP bs k L).1 = ((k + j : Nat) : Int) ∧ L[j]? = some zs ∧ holdsM bs zs = false ∧ ∀ m ys, m < j → L[m]? = some ys → holdsM bs ys = true
  | [], _, h => by cases h
  | y :: L, k, h => by
    unfold failP at h ⊢
    cases hy : holdsM bs y
    · exact ⟨0, y, rfl, rfl, hy, fun m ys hm => absurd hm (Nat.not_lt_zero _)⟩
    · rw [hy, if_pos rfl] at h
      rw [if_pos rfl]
      obtain ⟨j, zs, h1, h2, h3, h4⟩ := failP_true L (k + 1) h
      refine ⟨j + 1, zs, by rw [h1]; congr 1; omega, h2, h3, fun m ys hm hy' => ?_⟩
      cases m with
      | zero => obtain rfl : y = ys := by simpa using hy'
                exact hy
      | succ m => exact h4 m ys (by omega) (by simpa using hy')
theorem maxL_le {b : Int} : ∀ {l : List Int}, 0 ≤ b → (∀ x ∈ l, x ≤ b) → maxL l ≤ b := by
  intro l h0 h
  unfold maxL
  have : ∀ (l : List Int) (a : Int), a ≤ b → (∀ x ∈ l, x ≤ b) → l.foldl (fun a b => max a b) a ≤ b := by
    intro l
    induction l with
    | nil => intro a ha _; exact ha
    | cons y l ih => intro a ha hl; exact ih _ (by have := hl y (by simp); show max a y ≤ b; omega) (fun x hx => hl x (by simp [hx]))
  exact this l 0 h0 h
theorem hold_is {x : List Bool} {zs : List Int} (hx : x.length = 8) (hc : zs.length ≤ 100 ∧ ∀ l ∈ zs, 1 ≤ l.natAbs ∧ l.natAbs ≤ 8) : holdP zs x = holdsM x zs := by
  unfold holdP
  have hm : maxL (vl zs) ≤ 8 := maxL_le (by omega) fun v hv => by
    unfold vl at hv
    obtain ⟨l, hl, rfl⟩ := List.mem_map.1 hv
    have hl := List.mem_filter.1 hl
    rw [varI_small hl.2]
    have := hc.2 l hl.1
    omega
  rw [cl_right (by omega) hc.2, Bool.true_and, decide_eq_true (by rw [hx]; exact hm), Bool.true_and]
theorem holds_is {x : List Bool} {zs : List Int} (hx : x.length = 8) (hc : zs.length ≤ 100 ∧ ∀ l ∈ zs, 1 ≤ l.natAbs ∧ l.natAbs ≤ 8) : (rightB zs && holdsB zs (litsM x)) = holdsM x zs := by
  rw [cl_right (by omega) hc.2, Bool.true_and, Bool.eq_iff_iff, holdsB_iff]
  unfold holdsM
  rw [List.any_eq_true]
  constructor
  · rintro ⟨l, hl, hz⟩
    obtain ⟨i, hi, rfl⟩ := litsM_mem.1 hl
    refine ⟨_, hz, ?_⟩
    unfold satB
    rw [litAt_abs, Nat.add_sub_cancel, litAt_sign]
    cases x[i]?.getD false <;> rfl
  · rintro ⟨l, hz, hs⟩
    have hl := hc.2 l hz
    refine ⟨l, litsM_mem.2 ⟨l.natAbs - 1, by omega, ?_⟩, hz⟩
    unfold satB at hs
    unfold litAt
    cases hb : x[l.natAbs - 1]?.getD false
    · rw [hb] at hs
      have : l < 0 := by simpa using hs
      rw [if_neg (by decide)]; omega
    · rw [hb] at hs
      have : ¬ l < 0 := by simpa using hs
      rw [if_pos rfl]; omega
theorem ev_clause {w W : World} {fs : List (Value × List (List Int))} {ms : List (Value × List Bool)} {rs : List (Value × List (List Bool))} {ss : List (Nat × TypeId × Array Value)} {ds : List Nat} {A : Option Addr} {m c : Nat} {L : List (List Int)} (h : Ev w W fs ms rs ss ds) (hp : (Value.slice A m c, L) ∈ fs) {j : Nat} {zs : List Int} (hx : L[j]? = some zs) :
    ∃ b off As cs, A = some ⟨b, off, none⟩ ∧ W.cell? ⟨b, off + j, none⟩ = some (.slice As zs.length cs) ∧ Lits W.heap.size W (.slice As zs.length cs) zs := by
  obtain ⟨A', cap, e, hj⟩ := rowsL_shape (h.f hp)
  injection e with e1 e2 e3
  subst e1
  obtain ⟨b, off, As, cs, h1, -, h2, h3⟩ := hj j zs hx
  exact ⟨b, off, As, cs, h1, h2, h3⟩
theorem r_holds {wr W' : World} {cv mv : Value} {zs : List Int} {mb : List Bool} (hc : Lits wr.heap.size wr cv zs) (hm : Bools wr.heap.size wr mv mb) (hcl : zs.length ≤ 100 ∧ ∀ l ∈ zs, 1 ≤ l.natAbs ∧ l.natAbs ≤ 8) (hx : mb.length = 8) (hb : Below wr.heap.size wr W') :
    Calls Try.prog 12 #[cv, mv] W' fun e w' => e = .returned (.bool (holdsM mb zs)) ∧ Below wr.heap.size wr w' :=
  (foholds_any W' hb.size (by omega) (by omega) (hc.below hb) (hm.below hb)).mono fun e w' ⟨he, hB⟩ => ⟨by rw [he, hold_is hx hcl], hb.trans (hB.mono hb.size)⟩
theorem r_lits {wr W' : World} {A : Option Addr} {mb : List Bool} (hm : Bools wr.heap.size wr (.slice A 8 8) mb) (hx : mb.length = 8) (hb : Below wr.heap.size wr W') :
    Calls Try.prog 16 #[.slice A 8 8] W' fun e w' => ∃ A7 c7, e = .returned (.slice A7 8 c7) ∧ Ints w'.heap.size w' (.slice A7 8 c7) (litsM mb) ∧ Below wr.heap.size wr w' :=
  (folits_any (by omega) W' hb.size (hm.below hb) (fun A n c e => by cases e; omega)).mono fun e w' ⟨v, he, hr, hB⟩ => by
    rw [litsM_len, hx] at hr
    obtain ⟨A7, c7, rfl⟩ := own_shape0 hr
    exact ⟨A7, c7, he, (rowV_lits.1 (rowV_own hr)).ints, hb.trans (hB.mono hb.size)⟩
theorem r_clholds {wr W' : World} {cv : Value} {zs : List Int} {A7 : Option Addr} {c7 : Nat} {mb : List Bool} (hc : Lits wr.heap.size wr cv zs) (hcl : zs.length ≤ 100 ∧ ∀ l ∈ zs, 1 ≤ l.natAbs ∧ l.natAbs ≤ 8) (hx : mb.length = 8) (hb : Below wr.heap.size wr W') (hi : Ints W'.heap.size W' (.slice A7 8 c7) (litsM mb)) :
    Calls Try.prog 28 #[cv, .slice A7 8 c7] W' fun e w' => e = .returned (.bool (holdsM mb zs)) ∧ Below wr.heap.size wr w' :=
  (holds_any W'.heap.size cv _ zs (litsM mb) (by omega) (by rw [litsM_len]; omega) W' (Nat.le_refl _) (rowV_lits.1 (((rowV_lits.2 hc).below hb).more hb.size)) hi).mono fun e w' ⟨he, hB⟩ => ⟨by rw [he, holds_is hx hcl], hb.trans (hB.mono hb.size)⟩
theorem there_is {L : List (List Int)} {mb : List Bool} (hl : mb.length = 8) : ((modelsB 8 L).any fun x => decide (x = mb)) = !(failP mb 0 L).2 := by
  by_cases h : ∀ zs ∈ L, holdsM mb zs = true
  · rw [failP_no L 0 h]
    exact List.any_eq_true.2 ⟨mb, (models_all hl).2 h, decide_eq_true rfl⟩
  · have hn : mb ∉ modelsB 8 L := fun hm => h ((models_all hl).1 hm)
    have h2 : (failP mb 0 L).2 = true := by
      cases hb : (failP mb 0 L).2
      · exact absurd (failP_all L 0 hb) h
      · rfl
    rw [h2]
    rw [Bool.not_true, List.any_eq_false]
    intro x hx he
    rw [of_decide_eq_true he] at hx
    exact hn hx
/-- The model of the bits. -/
def mbN (bits : Int) : List Bool := (List.range 8).map fun i => bits.toNat.testBit i
/-- The second loop: how many were asked for. -/
def YI (V : World) (st : Int) (s : Nat) (W : World) : Prop := Below V.heap.size V W ∧ Whole W V.heap.size 3 #[.int .i64 (s : Nat)] ∧ (s : Int) ≤ st
def YX (V : World) (g : Nat) (W : World) : Prop := Below V.heap.size V W ∧ Whole W V.heap.size 3 #[.int .i64 (g : Nat)]
theorem yi_steady {V : World} {st : Int} {B : Nat} (hB : V.heap.size ≤ B) (s : Nat) : Steady B (YI V st s) := (steady_below' V hB).and ((steady_whole _ _ _).and (steady_true _))
theorem yx_steady {V : World} {g : Nat} {B : Nat} (hB : V.heap.size ≤ B) : Steady B (YX V g) := (steady_below' V hB).and (steady_whole _ _ _)
/-- The model of the bits, as it is made. -/
def MkRel (N : Nat) (W : World) (gm : Nat) (i : Value) (wr : World) : Prop := ∃ k : Nat, k ≤ 8 ∧ i = .int .i64 k ∧ wr.ownsRow W.heap.size 4 1 (.slice (some ⟨W.heap.size, 0, none⟩) 8 8) 8 ((List.range 8).map fun j => Value.bool (decide (j < k) && N.testBit j)) ∧ Below W.heap.size W wr ∧ Whole wr gm 23 #[.slice (some ⟨W.heap.size, 0, none⟩) 8 8]
def LqRel (w : World) (fs : List (Value × List (List Int))) (ms : List (Value × List Bool)) (rs : List (Value × List (List Bool))) (ss : List (Nat × TypeId × Array Value)) (ds : List Nat) (K : Nat) (i : Value) (wr : World) : Prop := ∃ k : Nat, k ≤ K ∧ i = .int .i64 k ∧ Ev w wr fs ms rs ss ds
def LpRel (w : World) (fs : List (Value × List (List Int))) (rs : List (Value × List (List Bool))) (ss : List (Nat × TypeId × Array Value)) (K : Nat) (i : Value) (wr : World) : Prop := ∃ k : Nat, k ≤ K ∧ i = .int .i64 k ∧ Ev w wr fs [] rs ss []
set_option maxRecDepth 100000 in
set_option maxHeartbeats 4000000 in
theorem core_no (v : Value) (zss : List (List Int)) (hz : ∀ zs ∈ zss, zs.length ≤ maxLen ∧ ∀ x ∈ zs, (Lit.int .u8 x).wf = true) (st bits : Int) (hs : 0 ≤ st ∧ st ≤ 255) (hb : 0 ≤ bits ∧ bits ≤ 255) (w : World) (hR : Rows2 .u8 w.heap.size w v zss) (hff : (failP (mbN bits) 0 (madeF zss)).2 = false) :
    Calls Try.prog 4 #[v, .int .u8 st, .int .u8 bits] w fun e w' => e = .returned (.bool true) ∧ Below w.heap.size w w' := by
  obtain ⟨S, rfl⟩ : ∃ S : Nat, st = (S : Int) := ⟨st.toNat, by omega⟩
  obtain ⟨N, rfl⟩ : ∃ N : Nat, bits = (N : Int) := ⟨bits.toNat, by omega⟩
  have hS255 : S ≤ 255 := by omega
  have hN255 : N ≤ 255 := by omega
  clear hs hb
  have HZ := Lib.hid hz; have HR := Lib.hid hR
  unfold mbN at hff
  rw [Int.toNat_natCast] at hff
  have h0 := ((Ev.start w).box 5 #[.int .u8 (S : Int)]).box 4 #[.bool false]
  rw [World.size_alloc] at h0
  have H0 := Lib.hid h0
  clear hz hR h0
  refine (callsIn_wide (n := 5)).1 ?_
  refine callsIn_of_wp_marks Try.func4 rfl trivial ?_ rfl
  simp only [Try.ntmps4, List.size_toArray, List.length_cons, List.length_nil, Nat.reduceAdd, Nat.reduceSub, Array.replicate_succ, Array.replicate_zero, List.push_toArray, List.append_toArray, List.nil_append, List.cons_append]
  refine wpIn_wide.2 ?_
  go_wp2_with fail
  refine (ev_made H0.out HZ.out HR.out).mono ?_
  rintro e w1 ⟨A, c, rfl, h1⟩
  have hk := ok_made zss
  have hm30 := madeF_len zss
  obtain ⟨L, hL⟩ : ∃ x, madeF zss = x := ⟨_, rfl⟩
  obtain ⟨m, hm⟩ : ∃ x, L.length = x := ⟨_, rfl⟩
  obtain ⟨K, hK⟩ : ∃ x, (modelsB 8 L).length = x := ⟨_, rfl⟩
  have hK256 : K ≤ 256 := by have := models_count 8 L; omega
  rw [hL] at hk hm30 h1 hff ⊢
  have HFF := Lib.hid hff
  rw [hm] at hm30 h1 ⊢
  have HOk := Lib.hid hk; have HM := Lib.hid hm; have HKl := Lib.hid hK; have H1 := Lib.hid h1
  clear hk hL hm hK h1 H0 HZ HR hff
  go_wp2_with fail
  have h1 := H1.out.box 42 #[.int .i64 8, .slice A m c]
  obtain ⟨p, hp⟩ : ∃ x, w1.heap.size = x := ⟨_, rfl⟩
  rw [hp] at h1 ⊢
  have H1' := Lib.hid h1
  clear h1 hp H1
  refine (ev_collected H1'.out (by simp) HOk.out K HKl.out).mono ?_
  rintro e w2 ⟨Aa, ca, rfl, h2⟩
  have h2 := h2.box 44 #[.slice Aa K ca]
  have hF2 := h2.s (g := p) (t := 42) (cs := #[.int .i64 8, .slice A m c]) (by simp)
  have hA2 := h2.s (g := w2.heap.size) (t := 44) (cs := #[.slice Aa K ca]) (by simp)
  obtain ⟨q, hq⟩ : ∃ x, w2.heap.size = x := ⟨_, rfl⟩
  obtain ⟨w3, hw3⟩ : ∃ x, w2.alloc (.cells #[.slice Aa K ca] 44) = x := ⟨_, rfl⟩
  rw [hw3, hq] at h2 hA2
  rw [hw3] at hF2
  have c0 : w3.cell? ⟨p, 0, none⟩ = some (.int .i64 8) := hF2.cell 0
  have c1 : w3.cell? ⟨p, 1, none⟩ = some (.slice A m c) := hF2.cell 1
  have c2 : w3.cell? ⟨q, 0, none⟩ = some (.slice Aa K ca) := hA2.cell 0
  have H2 := Lib.hid h2
  clear h2 H1' hF2 hA2
  go_wp2_with fail
  clear hw3 hq
  refine (ev_count H2.out (by simp) HOk.out K HKl.out).mono ?_
  rintro e w4 ⟨rfl, h4⟩
  have hF4 := h4.s (g := p) (t := 42) (cs := #[.int .i64 8, .slice A m c]) (by simp)
  have c0 : w4.cell? ⟨p, 0, none⟩ = some (.int .i64 8) := hF4.cell 0
  have c1 : w4.cell? ⟨p, 1, none⟩ = some (.slice A m c) := hF4.cell 1
  have H4 := Lib.hid h4
  clear h4 hF4 H2
  go_wp2_with fail
  obtain ⟨x0, hx0⟩ : ∃ x, (modelsB 8 L)[0]?.getD [] = x := ⟨_, rfl⟩
  obtain ⟨b0, hb0⟩ : ∃ x, decide (modelsB 8 L ≠ []) = x := ⟨_, rfl⟩
  have hfi := ev_first (v := .slice A m c) H4.out (by simp) HOk.out x0 hx0
  rw [hb0] at hfi
  have HX0 := Lib.hid hx0; have HB0 := Lib.hid hb0
  clear hx0 hb0
  refine hfi.mono ?_
  rintro e w5 ⟨Ax, cx, rfl, h5⟩
  have H5 := Lib.hid h5
  clear hfi h5 c0 c1 H4
  go_upto_region 5 with fail
  go_cut [81] from 9 (fun s wx => s = .bool false ∧ Ev w wx [(.slice A m c, L)] [] [(.slice Aa K ca, modelsB 8 L)] [(q, 44, #[.slice Aa K ca]), (p, 42, #[.int .i64 8, .slice A m c]), (w.heap.size + 1, 4, #[.bool false]), (w.heap.size, 5, #[.int .u8 (S : Int)])] [])
  case first =>
    --<
    have hQ := (H5.out.s (g := q) (t := 44) (cs := #[.slice Aa K ca]) (by simp)).cell 0
    have cq : w5.cell? ⟨q, 0, none⟩ = some (.slice Aa K ca) := hQ
    by_cases hK0 : K = 0
    · obtain rfl : b0 = false := by
        rw [← HB0.out]
        exact decide_eq_false fun h => h (List.eq_nil_of_length_eq_zero (by rw [HKl.out, hK0]))
      have hk1 : decide ((K : Int) > 0) = false := decide_eq_false (by omega)
      have hk2 : decide ((0 : Int) < (K : Int)) = false := decide_eq_false (by omega)
      have hk3 : decide (0 < K) = false := decide_eq_false (by omega)
      have hk4 : ¬ 0 < K := by omega
      have H5' := Lib.hid (Ev.mk H5.out.below H5.out.fo (fun p hp => by cases hp) H5.out.ro H5.out.st H5.out.de : Ev w w5 [(.slice A m c, L)] [] _ _ [])
      clear hK0 H5 hQ HB0
      go_wp2_with fail
      go_meet
      exact ⟨rfl, H5'.out⟩
    · have hne : modelsB 8 L ≠ [] := fun e => hK0 (by rw [← HKl.out, e]; rfl)
      obtain rfl : b0 = true := by rw [← HB0.out]; exact decide_eq_true hne
      have hx : (modelsB 8 L)[0]? = some x0 := by
        have h := HX0.out
        rw [List.getElem?_eq_getElem (by have := HKl.out; omega)] at h ⊢
        rw [← h]; rfl
      have hl8 := models_len (List.mem_of_getElem? hx)
      obtain ⟨b, off, As, cs, rfl, hc, hbl⟩ := ev_at (Aa := Aa) (K := K) (ca := ca) H5.out (by simp) hx
      have hk1 : decide ((K : Int) > 0) = true := decide_eq_true (by omega)
      have hk2 : decide ((0 : Int) < (K : Int)) = true := decide_eq_true (by omega)
      have hKp : (0 : Int) < (K : Int) := by omega
      have hk3 : decide (0 < K) = true := decide_eq_true (by omega)
      have hk4 : 0 < K := by omega
      rw [Nat.add_zero] at hc
      have heq := ev_equal H5.out (H5.out.m (v := .slice Ax x0.length cx) (m := x0) (by simp)) hbl (by omega) true (decide_eq_true rfl)
      have HEq := Lib.hid heq
      clear hK0 hne hx hl8 hbl heq hQ HB0 HX0
      go_wp2_with fail
      refine HEq.out.mono ?_
      rintro e wx ⟨rfl, hx⟩
      have HX := Lib.hid (Ev.mk hx.below hx.fo (fun p hp => by cases hp) hx.ro hx.st hx.de : Ev w wx [(.slice _ m c, L)] [] _ _ [])
      clear hx
      go_wp2_with fail
      go_meet
      exact ⟨rfl, HX.out⟩
    -->
  case rest =>
    obtain ⟨rfl, h6⟩ := hcut
    have cq : wc.cell? ⟨q, 0, none⟩ = some (.slice Aa K ca) := (h6.s (g := q) (t := 44) (cs := #[.slice Aa K ca]) (by simp)).cell 0
    have H6 := Lib.hid h6
    clear h6 H5
    go_wp2_with fail
    clear cq
    go_loopw [84] (fun i wr => LpRel w [(.slice A m c, L)] [(.slice Aa K ca, modelsB 8 L)] [(q, 44, #[.slice Aa K ca]), (p, 42, #[.int .i64 8, .slice A m c]), (w.heap.size + 1, 4, #[.bool false]), (w.heap.size, 5, #[.int .u8 (S : Int)])] K i wr) (fun i _ => K - (intOf i).toNat)
    case atStart => exact ⟨0, Nat.zero_le _, rfl, H6.out⟩
    case round =>
      obtain ⟨k, hkK, rfl, hev⟩ := hrel
      by_cases hlt : k < K
      ·
        --<
        obtain ⟨x, hx⟩ : ∃ x, (modelsB 8 L)[k]? = some x := ⟨_, List.getElem?_eq_getElem (by have := HKl.out; omega)⟩
        have hx8 := models_len (List.mem_of_getElem? hx)
        obtain ⟨b, off, As, cs, e1, hc, hbl⟩ := ev_at (Aa := Aa) (K := K) (ca := ca) hev (by simp) hx
        subst e1
        have hF := hev.s (g := p) (t := 42) (cs := #[.int .i64 8, .slice A m c]) (by simp)
        have c0 : wr.cell? ⟨p, 0, none⟩ = some (.int .i64 8) := hF.cell 0
        have c1 : wr.cell? ⟨p, 1, none⟩ = some (.slice A m c) := hF.cell 1
        have hval := ev_value (v := .slice A m c) (L := L) (hev.addM hbl) (by simp) HOk.out hbl hx8 true (by rw [fail_none (List.mem_of_getElem? hx)]; rfl)
        have hki : (k : Int) < (K : Int) := by omega
        have HV := Lib.hid hval; have HNx := Lib.hid hlt; have HX := Lib.hid hx; have HX8 := Lib.hid hx8
        clear hval hev hx hx8 hlt hbl hF H6
        by_cases hk0 : k = 0
        · have hq1 : decide (0 < k) = false := decide_eq_false (by omega)
          have hq2 : decide ((k : Int) > 0) = false := decide_eq_false (by omega)
          have hq3 : ¬ 0 < k := by omega
          clear hk0 HX HX8
          go_wp2_with fail
          refine HV.out.mono ?_
          rintro e wx ⟨rfl, hx⟩
          have HX := Lib.hid hx.dropM
          clear hx
          go_wp2_with fail
          go_roundw
          case rel => exact ⟨k + 1, HNx.out, by go_num, HX.out⟩
          case measure => simp [intOf]; have := HNx.out; omega
        · obtain ⟨y, hy⟩ : ∃ y, (modelsB 8 L)[k - 1]? = some y := ⟨_, List.getElem?_eq_getElem (by have := HKl.out; have := HNx.out; omega)⟩
          have hq1 : decide (0 < k) = true := decide_eq_true (by omega)
          have hq2 : decide ((k : Int) > 0) = true := decide_eq_true (by omega)
          have hq3 : 0 < k := by omega
          have hq4 : (0 : Int) ≤ (k : Int) - 1 := by omega
          have hq5 : (k : Int) - 1 < (K : Int) := by omega
          have hq6 : ((k : Int) - 1).toNat = k - 1 := by omega
          have hlx := models_step (L := L) hy (by rw [show k - 1 + 1 = k by omega]; exact HX.out)
          have hy8 := models_len (List.mem_of_getElem? hy)
          have HY := Lib.hid hy; have HLx := Lib.hid hlx; have HY8 := Lib.hid hy8
          clear hk0 hy hlx hy8
          go_wp2_with fail
          refine HV.out.mono ?_
          rintro e wx ⟨rfl, hex⟩
          obtain ⟨b', off', As', cs', e1, hc', hbl'⟩ := ev_at (Aa := some ⟨b, off, none⟩) (K := K) (ca := ca) hex (by simp) HY.out
          obtain ⟨rfl, rfl⟩ : b = b' ∧ off = off' := by cases e1; exact ⟨rfl, rfl⟩
          have cq : wx.cell? ⟨q, 0, none⟩ = some (.slice (some ⟨b, off, none⟩) K ca) := (hex.s (g := q) (t := 44) (cs := #[.slice (some ⟨b, off, none⟩) K ca]) (by simp)).cell 0
          have hle := ev_less hex hbl' (hex.m (v := .slice As x.length cs) (m := x) (by simp)) (by have := HY8.out; omega) (by rw [HY8.out, HX8.out]) true HLx.out
          have HLe := Lib.hid hle
          clear e1 hbl' hle hex
          go_wp2_with fail
          refine HLe.out.mono ?_
          rintro e wy ⟨rfl, hx⟩
          have HW := Lib.hid hx.dropM
          clear hx
          go_wp2_with fail
          go_roundw
          case rel => exact ⟨k + 1, HNx.out, by go_num, HW.out⟩
          case measure => simp [intOf]; have := HNx.out; omega
        -->
      · obtain rfl : k = K := by omega
        have hF := hev.s (g := p) (t := 42) (cs := #[.int .i64 8, .slice A m c]) (by simp)
        have c0 : wr.cell? ⟨p, 0, none⟩ = some (.int .i64 8) := hF.cell 0
        have c1 : wr.cell? ⟨p, 1, none⟩ = some (.slice A m c) := hF.cell 1
        have hmo := ev_models (v := .slice A m c) (L := L) hev (by simp) HOk.out
        have HMo := Lib.hid hmo
        clear hev hF hmo H6
        go_wp2_with fail
        refine HMo.out.mono ?_
        rintro e V ⟨bf, bv, g, cf, rfl, hmd, hev⟩
        have hnf := eql_fn_nil
        have HMd := Lib.hid hmd; have HEv := Lib.hid hev
        clear hmd hev HMo c0 c1
        go_wp2_with fail
        obtain ⟨G, hG⟩ : ∃ G, min S k = G := ⟨_, rfl⟩
        have hGm : min (S : Int) (k : Int) = (G : Int) := by omega
        have bV := below1a V (.cells #[.int .i64 0] 3)
        have nV := Whole.made V 3 #[.int .i64 0]
        have h0 : Hid (YI V (S : Int) 0 (V.alloc (.cells #[.int .i64 0] 3))) := Lib.hid ⟨bV, nV, by omega⟩
        have hsz : (V.alloc (.cells #[.int .i64 0] 3)).heap.size = V.heap.size + 1 := by simp
        have HSz := Lib.hid hsz; have HGm := Lib.hid hGm
        have HGk := Lib.hid hG
        clear bV nV hsz hGm hG
        refine wpIn_wide.1 (range_models2 (n' := 5) (by decide) 8 (by decide) L bf bv g cf (V.heap.size + 1) rfl rfl (YI V (S : Int)) (YX V G) (yi_steady (by rw [HSz.out]; omega)) (yx_steady (by rw [HSz.out]; omega)) h0.out
          (fun s W h => (HMd.out.below h.1).more (Nat.le_succ _) h.2.1.lt) ?a1 ?assign ?body ?hend)
        case assign =>
          intro l v W K hK
          gi_wp2_with fail
          exact hK
        case body =>
          rintro l s x v W ⟨hbV, hgc, hsS⟩ hx hrow
          --<
          have hev := HEv.out.on hbV
          have hsl := (List.getElem?_eq_some_iff.1 hx).1
          have hsk : s < k := by rw [HKl.out] at hsl; exact hsl
          have cg : W.cell? ⟨V.heap.size, 0, none⟩ = some (.int .i64 (s : Nat)) := hgc.cell 0
          have fg := hgc.frozen 0
          have cs : W.cell? ⟨w.heap.size, 0, none⟩ = some (.int .u8 (S : Int)) := (hev.s (g := w.heap.size) (t := 5) (cs := #[.int .u8 (S : Int)]) (by simp)).cell 0
          have cq : W.cell? ⟨q, 0, none⟩ = some (.slice Aa k ca) := (hev.s (g := q) (t := 44) (cs := #[.slice Aa k ca]) (by simp)).cell 0
          have hwst : IntKind.i64.wrap (S : Int) = (S : Int) := by rw [IntKind.wrap_i64]; omega
          obtain ⟨Av, cv, rfl⟩ := own_shape0 hrow
          by_cases heq : (s : Int) = (S : Int)
          · have hq : ((s : Int) == (S : Int)) = true := by rw [heq]; simp
            have hX : YX V G W := ⟨hbV, by rw [show (G : Int) = (s : Int) by rw [← HGm.out]; omega]; exact hgc⟩
            have HX := Lib.hid hX
            clear hX hbV hgc hev hx hrow hsl heq h0 fg
            gi_wp2_with fail
            exact ⟨Odd.refl _, rfl, HX.out⟩
          · have hq : ((s : Int) == (S : Int)) = false := by rw [beq_eq_false_iff_ne]; exact heq
            have hg1 : decide ((s : Int) ≥ (k : Int)) = false := decide_eq_false (by omega)
            have hg2 : decide (k ≤ s) = false := decide_eq_false (by omega)
            have hg3 : ¬ k ≤ s := by omega
            have hg4 : (s : Int) < (k : Int) := by omega
            have hx8 := models_len (List.mem_of_getElem? hx)
            obtain ⟨b, off, As, cs', e1, hc, hbl⟩ := ev_at (Aa := Aa) (K := k) (ca := ca) hev (by simp) hx
            subst e1
            have hvx : Bools W.heap.size W (.slice Av 8 cv) x := rowV_own hrow
            have heqc := equal_bools W (by omega) hvx hbl
            rw [decide_eq_true (rfl : x = x)] at heqc
            have HEq := Lib.hid heqc; have HbV := Lib.hid hbV; have Hgc := Lib.hid hgc; have HLt := Lib.hid (show (s : Int) + 1 ≤ (S : Int) by omega)
            rw [hx8] at hc HEq
            clear hbV hgc hev hx hrow hsl heq h0 hvx hbl heqc hx8
            have hs62 : s ≤ 256 := by omega
            gi_wp2_with fail
            refine ⟨trivial, ?_⟩
            gi_at_call 21
            refine (CallsIn.inRound l (callsIn_wide.2 HEq.out)).mono ?_
            rintro r w3 ⟨rfl, qn, hw3⟩
            have hb3 : Below W.heap.size W w3 := by rw [hw3]; exact below_dN _ _
            have hg3' := Hgc.out.same (hb3.block _ Hgc.out.lt)
            have cg3 : w3.cell? ⟨V.heap.size, 0, none⟩ = some (.int .i64 (s : Nat)) := hg3'.cell 0
            have fg3 := hg3'.frozen 0
            have hO := (Odd.of_below hb3).trans (Odd.set hg3' 0 (.int .i64 ((s : Int) + 1)))
            have hbw := (HbV.out.trans (hb3.mono HbV.out.size)).setCell (p := ⟨V.heap.size, 0, none⟩) (Nat.le_refl _) (.int .i64 ((s : Int) + 1))
            have hgw := hg3'.store 0 (.int .i64 ((s : Int) + 1))
            have HRs := Lib.hid (show Odd W (w3.setCell ⟨V.heap.size, 0, none⟩ (.int .i64 ((s : Int) + 1))) ∧ ∃ s' : Nat, s' = s + 1 ∧ YI V (S : Int) s' (w3.setCell ⟨V.heap.size, 0, none⟩ (.int .i64 ((s : Int) + 1))) from ⟨hO, s + 1, rfl, hbw, hgw, HLt.out⟩)
            clear hw3 hb3 hg3' hO hbw hgw HEq HbV Hgc
            gi_wp2_with fail
            exact HRs.out
          -->
        case hend =>
          rintro D W hD hi hd
          have hyx : YX V G W := by
            rcases hi with ⟨h1, h2, h3⟩ | h
            · rw [HKl.out] at h2 h3
              exact ⟨h1, by rw [show (G : Int) = (k : Int) by rw [← HGm.out]; omega]; exact h2⟩
            · exact h
          obtain ⟨hbV, hgc⟩ := hyx
          have hev := HEv.out.on hbV
          have hev := (hev.addS hgc).addD hd
          have HEv2 := Lib.hid hev; have HEvV := HEv
          have cg : W.cell? ⟨V.heap.size, 0, none⟩ = some (.int .i64 (G : Nat)) := hgc.cell 0
          obtain ⟨gq, hgq⟩ : ∃ x, V.heap.size = x := ⟨_, rfl⟩
          rw [hgq] at HEv2
          clear hi hd hbV hgc hev h0 HEv HMd
          obtain ⟨i0, hi, hz0, hz1, hz2⟩ := info_parts infoBool
          go_wp2_with (at_make; refine wpList_make_full _ rfl _ _ 23 rfl W.heap.size 4 i0 (.bool false) 1 Try.underlying23 hi hz0 hz1 .i64 .i64 _ _ 8 rfl rfl rfl rfl (by rw [hz2]; omega) (by unfold maxLen; omega) (Nat.le_refl _) ?_; intro w1 hown1 hg1)
          rw [made_bools] at hown1
          have hb1 : Below W.heap.size W w1 := (Below.refl _ _).grown hg1 (Nat.le_refl _) (fun k e => by cases e)
          have hown0 : w1.ownsRow W.heap.size 4 1 (.slice (some ⟨W.heap.size, 0, none⟩) 8 8) 8 ((List.range 8).map fun j => Value.bool (decide (j < 0) && N.testBit j)) := by
            rw [show ((List.range 8).map fun j => Value.bool (decide (j < 0) && N.testBit j)) = List.replicate 8 (.bool false) by simp [List.range_succ]]
            exact hown1
          have hwm := Whole.made w1 23 #[.slice (some ⟨W.heap.size, 0, none⟩) 8 8]
          have hbm := below1a w1 (.cells #[.slice (some ⟨W.heap.size, 0, none⟩) 8 8] 23)
          have hgm : W.heap.size < w1.heap.size := (hown1.lt W.heap.size rfl).2
          have H0 := Lib.hid (⟨0, by omega, rfl, owns_on0 hown0 hbm, below_cat hb1 hbm, hwm⟩ : MkRel N W w1.heap.size (.int .i64 0) (w1.alloc (.cells #[.slice (some ⟨W.heap.size, 0, none⟩) 8 8] 23)))
          obtain ⟨gm, hgmq⟩ : ∃ x, w1.heap.size = x := ⟨_, rfl⟩
          rw [hgmq] at H0 hgm ⊢
          clear hown1 hown0 hb1 hwm hbm hg1 hgmq cg hi hz0 hz1 hz2 i0
          go_loopw [151] (fun i wr => MkRel N W gm i wr) (fun i _ => 8 - (intOf i).toNat)
          case atStart => exact H0.out
          case round =>
            obtain ⟨j, hj, rfl, hrow, hbw, hwm⟩ := hrel
            by_cases hlt : j < 8
            ·
              --<
              have cm : wr.cell? ⟨gm, 0, none⟩ = some (.slice (some ⟨W.heap.size, 0, none⟩) 8 8) := hwm.cell 0
              have c1 : wr.cell? ⟨W.heap.size, j, none⟩ = some (.bool (decide (j < j) && N.testBit j)) := by
                rw [hrow.cellAt j (by omega), List.getElem?_map, List.getElem?_range hlt]
                rfl
              have f1 : wr.frozen? ⟨W.heap.size, j, none⟩ = false := hrow.frozenAt j
              obtain ⟨b, hb⟩ : ∃ b, N.testBit j = b := ⟨_, rfl⟩
              have hw2 := (hrow.stored j (.bool b)).1
              rw [range_put] at hw2
              have hw3 : ((List.range 8).map fun i => Value.bool (if i = j then b else (decide (i < j) && N.testBit i))) = (List.range 8).map fun i => Value.bool (decide (i < j + 1) && N.testBit i) := List.map_congr_left fun i hi => by
                by_cases e : i = j
                · subst e; rw [if_pos rfl, hb]; simp
                · rw [if_neg e]
                  have : decide (i < j) = decide (i < j + 1) := by rw [decide_eq_decide]; omega
                  rw [this]
              rw [hw3] at hw2
              have hji : (j : Int) < 8 := by omega
              have s0 : min j 64 = j := Nat.min_eq_left (by omega)
              obtain ⟨r, hr⟩ : ∃ r, N / 2 ^ j = r := ⟨_, rfl⟩
              have s2 : (N : Int) / 2 ^ j = (r : Int) := by rw [← hr]; norm_cast
              have hr8 : r < 2 ^ 8 := by rw [← hr]; exact Nat.lt_of_le_of_lt (Nat.div_le_self _ _) (by omega)
              obtain ⟨u, hu⟩ : ∃ u, r &&& 1 = u := ⟨_, rfl⟩
              have s3 : bits .and .u8 (r : Int) 1 = (u : Int) := by rw [← hu]; exact (bits_nat .u8 8 (by decide) (fun n h k => by rw [IntKind.wrap_u8]; omega) r 1 hr8 (by decide)).1
              have s4 : ((u : Int) == 1) = b := by
                rw [← hb, Nat.testBit_eq_decide_div_mod_eq, hr, ← Nat.and_one_is_mod, hu, Bool.eq_iff_iff, beq_iff_eq, decide_eq_true_eq]
                omega
              have HW2 := Lib.hid hw2; have HBw := Lib.hid hbw; have HNx := Lib.hid hlt; have HWm := Lib.hid hwm
              clear hw2 hw3 hbw hlt hrow hwm hb hr H0 hu hr8
              go_wp2_with fail
              go_region
              all_goals
                go_wp2_with fail
                go_roundw
                case rel => exact ⟨j + 1, HNx.out, by go_num, World.ownsRow.drew HW2.out, (HBw.out.setCell (p := ⟨W.heap.size, j, none⟩) (Nat.le_refl _) _).drew, whole_drew (HWm.out.beside (by omega) _)⟩
                case measure => simp [intOf]; omega
              -->
            · obtain rfl : j = 8 := by omega
              have e : ((List.range 8).map fun i => Value.bool (decide (i < 8) && N.testBit i)) = ((List.range 8).map (fun i => N.testBit i)).map Value.bool := by
                rw [List.map_map]
                refine List.map_congr_left fun i hi => ?_
                rw [decide_eq_true (List.mem_range.1 hi)]
                rfl
              rw [e] at hrow
              have hmb : Bools wr.heap.size wr (.slice (some ⟨W.heap.size, 0, none⟩) 8 8) ((List.range 8).map (fun i => N.testBit i)) := rowV_own hrow
              have hl8 : ((List.range 8).map (fun i => N.testBit i)).length = 8 := by simp
              obtain ⟨mb, hmbq⟩ : ∃ x, (List.range 8).map (fun i => N.testBit i) = x := ⟨_, rfl⟩
              have hff := HFF.out
              rw [hmbq] at hmb hl8 hff
              have hev := ((HEv2.out.on hbw).addM hmb).addS hwm
              have HEv3 := Lib.hid hev; have HMb := Lib.hid hl8; have HFf := Lib.hid hff
              have hF := hev.s (g := p) (t := 42) (cs := #[.int .i64 8, .slice A m c]) (by simp)
              have c0 : wr.cell? ⟨p, 0, none⟩ = some (.int .i64 8) := hF.cell 0
              have c1 : wr.cell? ⟨p, 1, none⟩ = some (.slice A m c) := hF.cell 1
              have cm : wr.cell? ⟨gm, 0, none⟩ = some (.slice (some ⟨W.heap.size, 0, none⟩) 8 8) := hwm.cell 0
              clear e hrow hmb hl8 hmbq hev hF hbw hwm H0 HEv2 hff HFF
              go_wp2_with fail
              obtain ⟨fi, hfi⟩ : ∃ x, (failP mb 0 L).1 = x := ⟨_, rfl⟩
              have hff := HFf.out
              have hfa := ev_fails (v := .slice A m c) (L := L) HEv3.out (by simp) HOk.out (HEv3.out.m (v := .slice (some ⟨W.heap.size, 0, none⟩) 8 8) (m := mb) (by simp)) HMb.out
              rw [hfi, hff] at hfa
              have HFa := Lib.hid hfa; have HFi := Lib.hid hfi
              clear hfa hfi hff c0 c1 cm
              refine HFa.out.mono ?_
              rintro e x1 ⟨rfl, hev⟩
              have hF := hev.s (g := p) (t := 42) (cs := #[.int .i64 8, .slice A m c]) (by simp)
              have c0 : x1.cell? ⟨p, 0, none⟩ = some (.int .i64 8) := hF.cell 0
              have c1 : x1.cell? ⟨p, 1, none⟩ = some (.slice A m c) := hF.cell 1
              have cm : x1.cell? ⟨gm, 0, none⟩ = some (.slice (some ⟨W.heap.size, 0, none⟩) 8 8) := (hev.s (g := gm) (t := 23) (cs := #[.slice (some ⟨W.heap.size, 0, none⟩) 8 8]) (by simp)).cell 0
              have hva := ev_value (v := .slice A m c) (L := L) hev (by simp) HOk.out (hev.m (v := .slice (some ⟨W.heap.size, 0, none⟩) 8 8) (m := mb) (by simp)) HMb.out true (by rw [HFf.out]; rfl)
              have HVa := Lib.hid hva
              clear hva hev hF HFa HEv3
              go_wp2_with fail
              refine HVa.out.mono ?_
              rintro e x2 ⟨rfl, hev⟩
              have cq : x2.cell? ⟨q, 0, none⟩ = some (.slice Aa k ca) := (hev.s (g := q) (t := 44) (cs := #[.slice Aa k ca]) (by simp)).cell 0
              have HEv4 := Lib.hid hev
              clear hev c0 c1 cm HVa
              go_wp2_with fail
              have hen : ∀ args w, (callFunc 27 args).run Try.prog w = .ok (.enter 27 args) w := enters_of Try.func27 (by kernel_rfl) rfl
              have hco := containsF_any 27 #[.pointer (some ⟨gm, 0, none⟩)] (fun x => decide (x = mb)) HEv4.out (A := Aa) (c := ca) (by simp) HKl.out (by omega) hen
                (fun W' v x hW hv hx => clo_any hW (gm := gm) (mv := .slice (some ⟨W.heap.size, 0, none⟩) 8 8) (by simp) (by simp) hv (by have := models_len hx; omega))
              rw [there_is HMb.out, HFf.out, show (!false) = true from rfl] at hco
              have HCo := Lib.hid hco
              clear hco hen cq HEv4
              refine HCo.out.mono ?_
              rintro e x3 ⟨rfl, hev⟩
              have HEv5 := Lib.hid hev
              clear hev HCo
              have hEv := HEv5.out
              have cq : x3.cell? ⟨q, 0, none⟩ = some (.slice Aa k ca) := (hEv.s (g := q) (t := 44) (cs := #[.slice Aa k ca]) (by simp)).cell 0
              have cg : x3.cell? ⟨gq, 0, none⟩ = some (.int .i64 (G : Nat)) := (hEv.s (g := gq) (t := 3) (cs := #[.int .i64 (G : Nat)]) (by simp)).cell 0
              have cs : x3.cell? ⟨w.heap.size, 0, none⟩ = some (.int .u8 (S : Int)) := (hEv.s (g := w.heap.size) (t := 5) (cs := #[.int .u8 (S : Int)]) (by simp)).cell 0
              have hF := hEv.s (g := p) (t := 42) (cs := #[.int .i64 8, .slice A m c]) (by simp)
              have c0 : x3.cell? ⟨p, 0, none⟩ = some (.int .i64 8) := hF.cell 0
              have c1 : x3.cell? ⟨p, 1, none⟩ = some (.slice A m c) := hF.cell 1
              have hwst : IntKind.i64.wrap (S : Int) = (S : Int) := by rw [IntKind.wrap_i64]; omega
              have hGm := HGm.out
              clear hEv hF
              have hfi0 : fi = 0 := by
                have h := HFi.out
                rw [failP_no L 0 (failP_all L 0 HFf.out)] at h
                exact h.symm
              have hq1 : decide (fi < 0) = false := decide_eq_false (by omega)
              have HFi0 := Lib.hid hfi0
              clear hfi0
              go_wp2_with fail
              go_loopw [219] (fun i wr => LqRel w [(.slice A m c, L)] [(.slice (some ⟨W.heap.size, 0, none⟩) 8 8, mb)] [(.slice Aa k ca, modelsB 8 L)] [(gm, 23, #[.slice (some ⟨W.heap.size, 0, none⟩) 8 8]), (gq, 3, #[.int .i64 (G : Nat)]), (q, 44, #[.slice Aa k ca]), (p, 42, #[.int .i64 8, .slice A m c]), (w.heap.size + 1, 4, #[.bool false]), (w.heap.size, 5, #[.int .u8 (S : Int)])] [D] m i wr) (fun i _ => m - (intOf i).toNat)
              case atStart => exact ⟨0, Nat.zero_le _, rfl, HEv5.out⟩
              case round =>
                obtain ⟨j, hj, rfl, hev⟩ := hrel
                by_cases hlt : j < m
                · obtain ⟨zs, hx⟩ : ∃ x, L[j]? = some x := ⟨_, List.getElem?_eq_getElem (by have := HM.out; omega)⟩
                  obtain ⟨b, off, As, cs', e1, hc, hcl⟩ := ev_clause (A := A) (m := m) (c := c) hev (by simp) hx
                  subst e1
                  have cm : wr.cell? ⟨gm, 0, none⟩ = some (.slice (some ⟨W.heap.size, 0, none⟩) 8 8) := (hev.s (g := gm) (t := 23) (cs := #[.slice (some ⟨W.heap.size, 0, none⟩) 8 8]) (by simp)).cell 0
                  have hcz := HOk.out.cl zs (List.mem_of_getElem? hx)
                  have hji : (j : Int) < (m : Int) := by omega
                  have HEv := Lib.hid hev; have HNx := Lib.hid hlt; have HCz := Lib.hid hcz
                  clear hev hx hlt hcz HEv5
                  have hmv := HEv.out.m (v := .slice (some ⟨W.heap.size, 0, none⟩) 8 8) (m := mb) (by simp)
                  have hgl : gm < wr.heap.size := (HEv.out.s (g := gm) (t := 23) (cs := #[.slice (some ⟨W.heap.size, 0, none⟩) 8 8]) (by simp)).lt
                  have hho := fun W' => r_holds (W' := W') hcl hmv HCz.out HMb.out
                  have hli := fun W' => r_lits (W' := W') hmv HMb.out
                  have hch := fun W' A7 c7 => r_clholds (W' := W') (A7 := A7) (c7 := c7) hcl HCz.out HMb.out
                  obtain ⟨hh, hhq⟩ : ∃ x, holdsM mb zs = x := ⟨_, rfl⟩
                  rw [hhq] at hho hch
                  have HHo := Lib.hid hho; have HLi := Lib.hid hli; have HCh := Lib.hid hch
                  clear hcl hmv hho hli hch hhq
                  go_wp2_with fail
                  have HS := Lib.hid (show wr.drew.cell? ⟨gm, 0, none⟩ = some (.slice (some ⟨W.heap.size, 0, none⟩) 8 8) from cm)
                  refine wp_region_noPanic ?_
                  refine wp_region_held_drew (S := fun W' => W'.cell? ⟨gm, 0, none⟩ = some (.slice (some ⟨W.heap.size, 0, none⟩) 8 8)) (by kernel_rfl) HS.out (fun _ => ?_)
                  refine wpAnyH_take (i := 0) (v := .bool false) rfl (by kernel_rfl) (by kernel_rfl) (by kernel_rfl) (fun _ _ _ h => h) (Or.inl ⟨by kernel_rfl, fun w hS => by go_simp⟩) HS.out ?_
                  refine wpAnyH_take (i := 1) (v := .bool false) rfl (by kernel_rfl) (by kernel_rfl) (by kernel_rfl) (fun _ _ _ h => h) (Or.inl ⟨by kernel_rfl, fun w hS => by go_simp⟩) HS.out ?_
                  refine wpAnyH_take (i := 2) (v := undef) rfl (by kernel_rfl) (by kernel_rfl) (by kernel_rfl) (fun _ _ _ h => h) (Or.inr ⟨by kernel_rfl, rfl⟩) HS.out ?_
                  refine wpAnyH_take (i := 3) (v := undef) rfl (by kernel_rfl) (by kernel_rfl) (by kernel_rfl) (fun _ _ _ h => h) (Or.inr ⟨by kernel_rfl, rfl⟩) HS.out ?_
                  refine wpAnyH_take (i := 4) (v := undef) rfl (by kernel_rfl) (by kernel_rfl) (by kernel_rfl) (fun _ _ _ h => h) (Or.inr ⟨by kernel_rfl, rfl⟩) HS.out ?_
                  refine wpAnyH_take (i := 5) (v := .bool false) rfl (by kernel_rfl) (by kernel_rfl) (by kernel_rfl) (fun _ _ _ h => h) (Or.inl ⟨by kernel_rfl, fun w hS => by go_simp⟩) HS.out ?_
                  refine wpAnyH_take (i := 6) (v := .bool false) rfl (by kernel_rfl) (by kernel_rfl) (by kernel_rfl) (fun _ _ _ h => h) (Or.inl ⟨by kernel_rfl, fun w hS => by go_simp⟩) HS.out ?_
                  refine wpAnyH_take (i := 7) (v := undef) rfl (by kernel_rfl) (by kernel_rfl) (by kernel_rfl) (fun _ _ _ h => h) (Or.inr ⟨by kernel_rfl, rfl⟩) HS.out ?_
                  refine wpAnyH_take (i := 8) (v := undef) rfl (by kernel_rfl) (by kernel_rfl) (by kernel_rfl) (fun _ _ _ h => h) (Or.inr ⟨by kernel_rfl, rfl⟩) HS.out ?_
                  refine wpAnyH_take (i := 9) (v := undef) rfl (by kernel_rfl) (by kernel_rfl) (by kernel_rfl) (fun _ _ _ h => h) (Or.inr ⟨by kernel_rfl, rfl⟩) HS.out ?_
                  refine wpAnyH_take (i := 10) (v := undef) rfl (by kernel_rfl) (by kernel_rfl) (by kernel_rfl) (fun _ _ _ h => h) (Or.inr ⟨by kernel_rfl, rfl⟩) HS.out ?_
                  refine wpAnyH_take (i := 11) (v := .bool false) rfl (by kernel_rfl) (by kernel_rfl) (by kernel_rfl) (fun _ _ _ h => h) (Or.inl ⟨by kernel_rfl, fun w hS => by go_simp⟩) HS.out ?_
                  refine wpAnyH_take (i := 12) (v := .bool false) rfl (by kernel_rfl) (by kernel_rfl) (by kernel_rfl) (fun _ _ _ h => h) (Or.inl ⟨by kernel_rfl, fun w hS => by go_simp⟩) HS.out ?_
                  refine wpAnyH_take (i := 13) (v := .bool false) rfl (by kernel_rfl) (by kernel_rfl) (by kernel_rfl) (fun _ _ _ h => h) (Or.inl ⟨by kernel_rfl, fun w hS => by go_simp⟩) HS.out ?_
                  refine wpAnyH_take (i := 14) (v := .bool false) rfl (by kernel_rfl) (by kernel_rfl) (by kernel_rfl) (fun _ _ _ h => h) (Or.inl ⟨by kernel_rfl, fun w hS => by go_simp⟩) HS.out ?_
                  refine wpAnyH_take (i := 15) (v := undef) rfl (by kernel_rfl) (by kernel_rfl) (by kernel_rfl) (fun _ _ _ h => h) (Or.inr ⟨by kernel_rfl, rfl⟩) HS.out ?_
                  refine wpAnyH_take (i := 16) (v := undef) rfl (by kernel_rfl) (by kernel_rfl) (by kernel_rfl) (fun _ _ _ h => h) (Or.inr ⟨by kernel_rfl, rfl⟩) HS.out ?_
                  refine wpAnyH_take (i := 17) (v := undef) rfl (by kernel_rfl) (by kernel_rfl) (by kernel_rfl) (fun _ _ _ h => h) (Or.inr ⟨by kernel_rfl, rfl⟩) HS.out ?_
                  refine wpAnyH_take (i := 18) (v := .bool false) rfl (by kernel_rfl) (by kernel_rfl) (by kernel_rfl) (fun _ _ _ h => h) (Or.inl ⟨by kernel_rfl, fun w hS => by go_simp⟩) HS.out ?_
                  refine wpAnyH_take (i := 19) (v := .bool false) rfl (by kernel_rfl) (by kernel_rfl) (by kernel_rfl) (fun _ _ _ h => h) (Or.inl ⟨by kernel_rfl, fun w hS => by go_simp⟩) HS.out ?_
                  refine wpAnyH_take (i := 20) (v := undef) rfl (by kernel_rfl) (by kernel_rfl) (by kernel_rfl) (fun _ _ _ h => h) (Or.inr ⟨by kernel_rfl, rfl⟩) HS.out ?_
                  refine wpAnyH_take (i := 21) (v := undef) rfl (by kernel_rfl) (by kernel_rfl) (by kernel_rfl) (fun _ _ _ h => h) (Or.inr ⟨by kernel_rfl, rfl⟩) HS.out ?_
                  refine wpAnyH_take (i := 22) (v := undef) rfl (by kernel_rfl) (by kernel_rfl) (by kernel_rfl) (fun _ _ _ h => h) (Or.inr ⟨by kernel_rfl, rfl⟩) HS.out ?_
                  refine wpAnyH_take (i := 23) (v := .bool false) rfl (by kernel_rfl) (by kernel_rfl) (by kernel_rfl) (fun _ _ _ h => h) (Or.inl ⟨by kernel_rfl, fun w hS => by go_simp⟩) HS.out ?_
                  refine wpAnyH_take (i := 24) (v := .bool false) rfl (by kernel_rfl) (by kernel_rfl) (by kernel_rfl) (fun _ _ _ h => h) (Or.inl ⟨by kernel_rfl, fun w hS => by go_simp⟩) HS.out ?_
                  refine wpAnyH_take (i := 25) (v := .bool false) rfl (by kernel_rfl) (by kernel_rfl) (by kernel_rfl) (fun _ _ _ h => h) (Or.inl ⟨by kernel_rfl, fun w hS => by go_simp⟩) HS.out ?_
                  refine wpAnyH_take (i := 26) (v := .slice As zs.length cs') rfl (by kernel_rfl) (by kernel_rfl) (by kernel_rfl) (fun _ _ _ h => h) (Or.inl ⟨by kernel_rfl, fun w hS => by go_simp⟩) HS.out ?_
                  refine wpAnyH_take (i := 27) (v := .slice (some ⟨W.heap.size, 0, none⟩) 8 8) rfl (by kernel_rfl) (by kernel_rfl) (by kernel_rfl) (fun _ _ _ h => h) (Or.inl ⟨by kernel_rfl, fun w hS => by go_simp⟩) HS.out ?_
                  refine wpAnyH_take (i := 29) (v := .slice As zs.length cs') rfl (by kernel_rfl) (by kernel_rfl) (by kernel_rfl) (fun _ _ _ h => h) (Or.inl ⟨by kernel_rfl, fun w hS => by go_simp⟩) HS.out ?_
                  refine wpAnyH_take (i := 30) (v := .slice (some ⟨W.heap.size, 0, none⟩) 8 8) rfl (by kernel_rfl) (by kernel_rfl) (by kernel_rfl) (fun _ _ _ h => h) (Or.inl ⟨by kernel_rfl, fun w hS => by go_simp⟩) HS.out ?_
                  refine wpAnyH_ready (rs := [28]) (by kernel_rfl) (by simp) (AllReadyH.cons rfl (fun K hK => ?_) AllReadyH.nil)
                  go_simp
                  refine (HHo.out _ (Below.refl _ _).drew).mono ?_
                  rintro r v1 ⟨rfl, hbx⟩
                  have HB1 := Lib.hid hbx; have HS1 := Lib.hid ((hbx.cell (p := ⟨gm, 0, none⟩) hgl).trans cm)
                  clear hbx
                  go_simp
                  refine hK.out _ _ HS1.out (fun _ => ?_)
                  clear hK K
                  refine wpAnyH_ready (rs := [31]) (by kernel_rfl) (by simp) (AllReadyH.cons rfl (fun K hK => ?_) AllReadyH.nil)
                  go_simp
                  refine (HLi.out _ HB1.out).mono ?_
                  rintro r v2 ⟨A7, c7, rfl, hi7, hbx⟩
                  have HB2 := Lib.hid hbx; have HS2 := Lib.hid ((hbx.cell (p := ⟨gm, 0, none⟩) hgl).trans cm)
                  clear hbx
                  go_simp
                  refine hK.out _ _ HS2.out (fun _ => ?_)
                  clear hK K
                  have HI7 := Lib.hid hi7
                  clear hi7
                  refine wpAnyH_ready (rs := [32]) (by kernel_rfl) (by simp) (AllReadyH.cons rfl (fun K hK => ?_) AllReadyH.nil)
                  go_simp
                  refine (HCh.out _ A7 c7 HB2.out HI7.out).mono ?_
                  rintro r v3 ⟨rfl, hbx⟩
                  have HB3 := Lib.hid hbx; have HS3 := Lib.hid ((hbx.cell (p := ⟨gm, 0, none⟩) hgl).trans cm)
                  clear hbx
                  go_simp
                  refine hK.out _ _ HS3.out (fun _ => ?_)
                  clear hK K
                  refine wpAnyH_take (i := 33) (v := .bool false) rfl (by kernel_rfl) (by kernel_rfl) (by kernel_rfl) (fun _ _ _ h => h) (Or.inl ⟨by kernel_rfl, fun w hS => by go_simp⟩) HS3.out ?_
                  refine wpAnyH_take (i := 34) (v := .bool false) rfl (by kernel_rfl) (by kernel_rfl) (by kernel_rfl) (fun _ _ _ h => h) (Or.inl ⟨by kernel_rfl, fun w hS => by go_simp⟩) HS3.out ?_
                  refine wpAnyH_done (by kernel_rfl) ?_ _
                  refine NoPanic.normal ?_
                  go_simp
                  have HFin := Lib.hid (HEv.out.on HB3.out)
                  go_wp2_with fail
                  go_roundw
                  case rel => exact ⟨j + 1, HNx.out, by go_num, HFin.out⟩
                  case measure => simp [intOf]; have := HNx.out; omega
                · obtain rfl : j = m := by omega
                  have hDn : w.heap.size + 1 < D := by
                    have h1 := (HEvV.out.s (g := w.heap.size + 1) (t := 4) (cs := #[.bool false]) (by simp)).lt
                    simp only [World.size_alloc] at hD
                    omega
                  have HEw := Lib.hid hev
                  clear hev HEv5
                  go_wp2_with fail
                  refine (awake_any wr).mono ?_
                  rintro e wz ⟨rfl, hbz⟩
                  have hez := HEw.out.on hbz
                  have mW := hez.s (g := w.heap.size + 1) (t := 4) (cs := #[.bool false]) (by simp)
                  have hDz := hez.de D (by simp)
                  have hD1s := (Odd.set mW 0 (.bool true)).same D _ hDz rfl
                  have cr : wz.cell? ⟨w.heap.size + 1, 0, none⟩ = some (.bool false) := mW.cell 0
                  have hfr := mW.frozen 0
                  have cr2 : (wz.setCell ⟨w.heap.size + 1, 0, none⟩ (.bool true)).cell? ⟨w.heap.size + 1, 0, none⟩ = some (.bool true) := (mW.store 0 _).cell 0
                  have hbw : Below w.heap.size w (wz.setCell ⟨w.heap.size + 1, 0, none⟩ (.bool true)) := hez.below.setCell (p := ⟨w.heap.size + 1, 0, none⟩) (Nat.le_succ _) _
                  have HD1s := Lib.hid hD1s; have HC2 := Lib.hid cr2; have HBz := Lib.hid hbw
                  clear hez mW hDz hD1s cr2 hbw hbz HEw
                  go_wp2_with fail
                  refine ⟨by simp, .inl ⟨_, _, rfl, run_takeDeferred HD1s.out, ?_⟩⟩
                  obtain ⟨wy, hwy⟩ : ∃ X, wz.setCell ⟨w.heap.size + 1, 0, none⟩ (.bool true) = X := ⟨_, rfl⟩
                  rw [hwy] at HC2 HBz ⊢
                  have hc5 : (wy.putObj D (.deferred none)).cell? ⟨w.heap.size + 1, 0, none⟩ = some (.bool true) := (World.cell?_of_block (World.putObj_heap_other (k := w.heap.size + 1) (by omega))).trans HC2.out
                  have hb5 := HBz.out.grown (grownBy_putObj' _ D (.deferred none)) HBz.out.size (fun k e => by cases e; omega)
                  refine ⟨.bool true, ?_, rfl, hb5⟩
                  simp [results, Try.f4, go_sem, hc5]
end Go.Proofs.Ytfbmagmelebkbaa.formulaYields
