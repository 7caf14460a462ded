/- salvorlaw05.awake. -/
import Derived.Test.YtgoflapolglfcaaGreatFoSteps
namespace Go.Proofs.YtgoflapolglfcaaGreat
open Go.RowKit Go.ChangeAt Go.ChangeShapes Go.WideShapes Go.Shelf Go.Sort

abbrev exF : List (List Int) := [[1, 2], [-1, 3]]
abbrev exN : List (List Int) := [[2, 1, 2], [3, -3], [1, 2]]
theorem ex_small : smallF exF ∧ smallF exN ∧ smallF [] ∧ smallF [[]] ∧ smallF [[3]] ∧ smallF [[2]] ∧ smallF [[1, 2]] := by
  simp [smallF]
theorem ex_chk : (chkI ((3 : Nat) : Int) exF).2 = 0 ∧ (chkI 3 exF).2 = 0 ∧ (chkI 3 exN).2 = 0 ∧ (chkI ((3 : Nat) : Int) []).2 = 0 ∧ (chkI ((3 : Nat) : Int) [[]]).2 = 0 := by decide
theorem ex_count : (modelsB 3 exF).length = 4 ∧ (modelsB 3 exF)[0]? = some [false, true, false] ∧ (modelsB 3 []).length = 8 ∧ (modelsB 3 [[]]).length = 0 := by decide
theorem ex_fails : failsR 3 exF [true, false, false] = (1, true, 0) := by decide
theorem ex_assign : asgL 1 exF = [[3]] ∧ asgL (-1) exF = [[2]] ∧ hasV 3 1 = true ∧ hasV 3 (-1) = true := by decide
theorem ex_norm : nrmF exN = [[1, 2]] := by
  have h0 : Inc [1, 2] := (incB_iff _).1 rfl
  have h1 : normL [2, 1, 2] = [1, 2] := norm_unique h0 fun x => by simp only [List.mem_cons, List.not_mem_nil, or_false]; omega
  have h2 : normL [1, 2] = [1, 2] := norm_of_inc h0
  have h3 : nrmRaw exN = [[1, 2], [1, 2]] := by
    unfold nrmRaw
    rw [show (exN.filter fun c => !alwB c) = [[2, 1, 2], [1, 2]] by decide, List.map_cons, List.map_cons, List.map_nil, h1, h2]
  exact (nrm_unique (List.pairwise_singleton _ _) fun x => by rw [h3]; simp).symm
/-- A literal of clauses. -/
theorem lit_two (w : World) (a b : List Int) (T U : TypeId) : RowsL (((w.alloc (.cells (a.map (Value.int .i64)).toArray T)).alloc (.cells (b.map (Value.int .i64)).toArray T)).alloc (.cells #[.slice (some ⟨w.heap.size, 0, none⟩) a.length a.length, .slice (some ⟨w.heap.size + 1, 0, none⟩) b.length b.length] U)).heap.size
    (((w.alloc (.cells (a.map (Value.int .i64)).toArray T)).alloc (.cells (b.map (Value.int .i64)).toArray T)).alloc (.cells #[.slice (some ⟨w.heap.size, 0, none⟩) a.length a.length, .slice (some ⟨w.heap.size + 1, 0, none⟩) b.length b.length] U)) (.slice (some ⟨w.heap.size + 1 + 1, 0, none⟩) 2 2) [a, b] := by
  have n1 := Whole.made w T (a.map (Value.int .i64)).toArray
  have n2 := Whole.made (w.alloc (.cells (a.map (Value.int .i64)).toArray T)) T (b.map (Value.int .i64)).toArray
  have n1 := whole_alloc n1 (.cells (b.map (Value.int .i64)).toArray T)
  have n3 := Whole.made ((w.alloc (.cells (a.map (Value.int .i64)).toArray T)).alloc (.cells (b.map (Value.int .i64)).toArray T)) U #[.slice (some ⟨w.heap.size, 0, none⟩) a.length a.length, .slice (some ⟨w.heap.size + 1, 0, none⟩) b.length b.length]
  have n1 := whole_alloc n1 (.cells #[.slice (some ⟨w.heap.size, 0, none⟩) a.length a.length, .slice (some ⟨w.heap.size + 1, 0, none⟩) b.length b.length] U)
  have n2 := whole_alloc n2 (.cells #[.slice (some ⟨w.heap.size, 0, none⟩) a.length a.length, .slice (some ⟨w.heap.size + 1, 0, none⟩) b.length b.length] U)
  simp only [World.size_alloc] at n1 n2 n3
  refine rows_block (T := U) [.slice (some ⟨w.heap.size, 0, none⟩) a.length a.length, .slice (some ⟨w.heap.size + 1, 0, none⟩) b.length b.length] [a, b] n3 n3.lt rfl ?_
  intro j sv zs h1 h2
  match j with
  | 0 =>
    simp only [List.getElem?_cons_zero, Option.some.injEq] at h1 h2
    subst h1; subst h2
    exact lits_block a n1 n1.lt
  | 1 =>
    simp only [List.getElem?_cons_succ, List.getElem?_cons_zero, Option.some.injEq] at h1 h2
    subst h1; subst h2
    exact lits_block b n2 n2.lt
  | j + 2 => simp at h1
theorem lit_three (w : World) (a b c : List Int) (T U : TypeId) : RowsL ((((w.alloc (.cells (a.map (Value.int .i64)).toArray T)).alloc (.cells (b.map (Value.int .i64)).toArray T)).alloc (.cells (c.map (Value.int .i64)).toArray T)).alloc (.cells #[.slice (some ⟨w.heap.size, 0, none⟩) a.length a.length, .slice (some ⟨w.heap.size + 1, 0, none⟩) b.length b.length, .slice (some ⟨w.heap.size + 1 + 1, 0, none⟩) c.length c.length] U)).heap.size
    ((((w.alloc (.cells (a.map (Value.int .i64)).toArray T)).alloc (.cells (b.map (Value.int .i64)).toArray T)).alloc (.cells (c.map (Value.int .i64)).toArray T)).alloc (.cells #[.slice (some ⟨w.heap.size, 0, none⟩) a.length a.length, .slice (some ⟨w.heap.size + 1, 0, none⟩) b.length b.length, .slice (some ⟨w.heap.size + 1 + 1, 0, none⟩) c.length c.length] U)) (.slice (some ⟨w.heap.size + 1 + 1 + 1, 0, none⟩) 3 3) [a, b, c] := by
  obtain ⟨u, hu⟩ : ∃ u, Array.mk [Value.slice (some ⟨w.heap.size, 0, none⟩) a.length a.length, .slice (some ⟨w.heap.size + 1, 0, none⟩) b.length b.length, .slice (some ⟨w.heap.size + 1 + 1, 0, none⟩) c.length c.length] = u := ⟨_, rfl⟩
  have n1 := whole_alloc (whole_alloc (whole_alloc (Whole.made w T (a.map (Value.int .i64)).toArray) (.cells (b.map (Value.int .i64)).toArray T)) (.cells (c.map (Value.int .i64)).toArray T)) (.cells u U)
  have n2 := whole_alloc (whole_alloc (Whole.made (w.alloc (.cells (a.map (Value.int .i64)).toArray T)) T (b.map (Value.int .i64)).toArray) (.cells (c.map (Value.int .i64)).toArray T)) (.cells u U)
  have n3 := whole_alloc (Whole.made ((w.alloc (.cells (a.map (Value.int .i64)).toArray T)).alloc (.cells (b.map (Value.int .i64)).toArray T)) T (c.map (Value.int .i64)).toArray) (.cells u U)
  have n4 := Whole.made (((w.alloc (.cells (a.map (Value.int .i64)).toArray T)).alloc (.cells (b.map (Value.int .i64)).toArray T)).alloc (.cells (c.map (Value.int .i64)).toArray T)) U u
  simp only [World.size_alloc] at n1 n2 n3 n4
  subst hu
  refine rows_block (T := U) [.slice (some ⟨w.heap.size, 0, none⟩) a.length a.length, .slice (some ⟨w.heap.size + 1, 0, none⟩) b.length b.length, .slice (some ⟨w.heap.size + 1 + 1, 0, none⟩) c.length c.length] [a, b, c] n4 n4.lt rfl ?_
  intro j sv zs h1 h2
  match j with
  | 0 =>
    simp only [List.getElem?_cons_zero, Option.some.injEq] at h1 h2
    subst h1; subst h2
    exact lits_block a n1 n1.lt
  | 1 =>
    simp only [List.getElem?_cons_succ, List.getElem?_cons_zero, Option.some.injEq] at h1 h2
    subst h1; subst h2
    exact lits_block b n2 n2.lt
  | 2 =>
    simp only [List.getElem?_cons_succ, List.getElem?_cons_zero, Option.some.injEq] at h1 h2
    subst h1; subst h2
    exact lits_block c n3 n3.lt
  | j + 3 => simp at h1
theorem lit_one (w : World) (a : List Int) (T U : TypeId) : RowsL ((w.alloc (.cells (a.map (Value.int .i64)).toArray T)).alloc (.cells #[.slice (some ⟨w.heap.size, 0, none⟩) a.length a.length] U)).heap.size
    ((w.alloc (.cells (a.map (Value.int .i64)).toArray T)).alloc (.cells #[.slice (some ⟨w.heap.size, 0, none⟩) a.length a.length] U)) (.slice (some ⟨w.heap.size + 1, 0, none⟩) 1 1) [a] := by
  have n1 := whole_alloc (Whole.made w T (a.map (Value.int .i64)).toArray) (.cells #[.slice (some ⟨w.heap.size, 0, none⟩) a.length a.length] U)
  have n2 := Whole.made (w.alloc (.cells (a.map (Value.int .i64)).toArray T)) U #[.slice (some ⟨w.heap.size, 0, none⟩) a.length a.length]
  simp only [World.size_alloc] at n1 n2
  refine rows_block (T := U) [.slice (some ⟨w.heap.size, 0, none⟩) a.length a.length] [a] n2 n2.lt rfl ?_
  intro j sv zs h1 h2
  match j with
  | 0 =>
    simp only [List.getElem?_cons_zero, Option.some.injEq] at h1 h2
    subst h1; subst h2
    exact lits_block a n1 n1.lt
  | j + 1 => simp at h1
theorem lit_nil (w : World) (U : TypeId) : RowsL (w.alloc (.cells #[.slice none 0 0] U)).heap.size (w.alloc (.cells #[.slice none 0 0] U)) (.slice (some ⟨w.heap.size, 0, none⟩) 1 1) [[]] := by
  have n2 := Whole.made w U #[.slice none 0 0]
  refine rows_block (T := U) [.slice none 0 0] [[]] n2 n2.lt rfl ?_
  intro j sv zs h1 h2
  match j with
  | 0 =>
    simp only [List.getElem?_cons_zero, Option.some.injEq] at h1 h2
    subst h1; subst h2
    exact lits_none _ _
  | j + 1 => simp at h1
theorem lit_bools (w : World) (m : List Bool) (U : TypeId) : Bools (w.alloc (.cells (m.map Value.bool).toArray U)).heap.size (w.alloc (.cells (m.map Value.bool).toArray U)) (.slice (some ⟨w.heap.size, 0, none⟩) m.length m.length) m :=
  bools_block m (Whole.made w U (m.map Value.bool).toArray) (Whole.made w U (m.map Value.bool).toArray).lt
theorem below4 (w : World) (a b c d : Obj) : Below w.heap.size w ((((w.alloc a).alloc b).alloc c).alloc d) := (((below1a w a).alloc (by simp) b).alloc (by simp; omega) c).alloc (by simp; omega) d
theorem below3 (w : World) (a b c : Obj) : Below w.heap.size w (((w.alloc a).alloc b).alloc c) := ((below1a w a).alloc (by simp) b).alloc (by simp; omega) c
theorem below2z (w : World) (a b : Obj) : Below w.heap.size w ((w.alloc a).alloc b) := (below1a w a).alloc (by simp) b
theorem awx_one (x : Int) {w W : World} {fs : List (Value × List (List Int))} {ms : List (Value × List Bool)} {ss : List (Nat × Value)} (h : Aw w W fs ms ss) (T U : TypeId) :
    Calls Tryz.prog 5 #[.int .i64 3, .slice (some ⟨W.heap.size + 1, 0, none⟩) 1 1] ((W.alloc (.cells #[.int .i64 x] T)).alloc (.cells #[.slice (some ⟨W.heap.size, 0, none⟩) 1 1] U)) fun e w' => ∃ v', e = .returned (.agg #[.int .i64 3, v']) ∧ Aw w w' ((v', [[x]]) :: fs) ms ss :=
  aw_of 3 h (below2z W _ _) (by simp [smallF]) (lit_one W [x] T U)
theorem awx_pair (x y : Int) {w W : World} {fs : List (Value × List (List Int))} {ms : List (Value × List Bool)} {ss : List (Nat × Value)} (h : Aw w W fs ms ss) (T U : TypeId) :
    Calls Tryz.prog 5 #[.int .i64 3, .slice (some ⟨W.heap.size + 1, 0, none⟩) 1 1] ((W.alloc (.cells #[.int .i64 x, .int .i64 y] T)).alloc (.cells #[.slice (some ⟨W.heap.size, 0, none⟩) 2 2] U)) fun e w' => ∃ v', e = .returned (.agg #[.int .i64 3, v']) ∧ Aw w w' ((v', [[x, y]]) :: fs) ms ss :=
  aw_of 3 h (below2z W _ _) (by simp [smallF]) (lit_one W [x, y] T U)
theorem awx_equal {w W : World} {fs : List (Value × List (List Int))} {ms : List (Value × List Bool)} {ss : List (Nat × Value)} (h : Aw w W fs ms ss) {mv : Value} (hp : (mv, [false, true, false]) ∈ ms) (U : TypeId) :
    Calls Tryz.prog 35 #[mv, .slice (some ⟨W.heap.size, 0, none⟩) 3 3] ((W.alloc (.cells #[.bool false, .bool true, .bool false] U)).drew) fun e w' => e = .returned (.bool true) ∧ Aw w w' fs ms ss :=
  aw_equal (h.on ((Below.refl _ _).drew)) hp (by simp) (below1a W.drew _) (lit_bools W.drew [false, true, false] U)
set_option maxRecDepth 100000 in
set_option maxHeartbeats 8000000 in
theorem awake_any (w : World) : Calls Tryz.prog 9 #[] w fun e w' => e = .returned (.bool true) ∧ Below w.heap.size w w' := by
  obtain ⟨s1, s2, s3, s4, s5, s6, s7⟩ := ex_small
  obtain ⟨k1, k2, k3, k4, k5⟩ := ex_chk
  obtain ⟨n1, n2, n3, n4⟩ := ex_count
  obtain ⟨a1, a2, a3, a4⟩ := ex_assign
  have HS := Lib.hid (And.intro s1 (And.intro s2 (And.intro s3 (And.intro s4 (And.intro s5 (And.intro s6 s7))))))
  have HK := Lib.hid (And.intro k1 (And.intro k2 (And.intro k3 (And.intro k4 k5))))
  have HN := Lib.hid (And.intro n1 (And.intro n2 (And.intro n3 n4)))
  have HA := Lib.hid (And.intro a1 (And.intro a2 (And.intro a3 a4)))
  clear s1 s2 s3 s4 s5 s6 s7 k1 k2 k3 k4 k5 n1 n2 n3 n4 a1 a2 a3 a4
  go_enter Tryz.func9, Tryz.ntmps9
  go_wp2_with fail
  refine (aw_of 3 (Aw.start w) (below3 w _ _ _) HS.out.1 (lit_two w [1, 2] [-1, 3] _ _)).mono ?_
  rintro e w1 ⟨v1, rfl, h1⟩
  obtain ⟨A1, c1, rfl, -⟩ := rowsL_shape (h1.f (v := v1) (L := exF) (by simp))
  have H1 := Lib.hid h1; clear h1
  go_wp2_with fail
  have h1b := H1.out.box (.slice A1 2 c1)
  obtain ⟨g1, hg1⟩ : ∃ g, w1.heap.size = g := ⟨_, rfl⟩
  obtain ⟨w1b, hw1b⟩ : ∃ W, w1.alloc (.cells #[.int .i64 3, .slice A1 2 c1] 27) = W := ⟨_, rfl⟩
  rw [hw1b] at h1b ⊢
  rw [hg1] at h1b ⊢
  have H1b := Lib.hid h1b; clear h1b hg1 hw1b H1
  refine (aw_count 3 4 H1b.out (v := .slice A1 2 c1) (L := exF) (by simp) HS.out.1 (by decide) HK.out.1 HN.out.1).mono ?_
  rintro e w2 ⟨rfl, h2⟩
  obtain ⟨p2, q2⟩ := h2.s g1 (.slice A1 2 c1) (by simp)
  have H2 := Lib.hid h2; clear h2 H1b
  go_wp2_with fail
  clear p2 q2
  refine (aw_first 3 H2.out (v := .slice A1 2 c1) (L := exF) (by simp) HS.out.1 (by decide) HK.out.1 _ HN.out.2.1).mono ?_
  rintro e w3 ⟨fv, rfl, h3⟩
  obtain ⟨p3, q3⟩ := h3.s g1 (.slice A1 2 c1) (by simp)
  obtain ⟨Af, cf, rfl, -⟩ := bools_shape (h3.m (v := fv) (m := [false, true, false]) (by simp))
  have H3 := Lib.hid h3; clear h3 H2
  go_wp2_with fail
  clear p3 q3
  refine (aw_fails 3 H3.out (v := .slice A1 2 c1) (L := exF) (by simp) HS.out.1 (below1a w3 _) (lit_bools w3 [true, false, false] _) 1 true ex_fails).mono ?_
  rintro e w4 ⟨rfl, h4⟩
  obtain ⟨p4, q4⟩ := h4.s g1 (.slice A1 2 c1) (by simp)
  have H4 := Lib.hid h4; clear h4 H3
  go_wp2_with fail
  clear p4 q4
  refine (aw_assign 3 1 H4.out (v := .slice A1 2 c1) (L := exF) (by simp) HS.out.1 HK.out.2.1 HA.out.2.2.1 _ HA.out.1).mono ?_
  rintro e w5 ⟨v5, rfl, h5⟩
  obtain ⟨A5, c5, rfl, -⟩ := rowsL_shape (h5.f (v := v5) (L := [[3]]) (by simp))
  have h5b := h5.box (.slice A5 1 c5)
  obtain ⟨p5, q5⟩ := h5b.s g1 (.slice A1 2 c1) (by simp)
  have H5b := Lib.hid h5b; clear h5 h5b H4
  go_wp2_with fail
  clear p5 q5
  obtain ⟨g5, hg5⟩ : ∃ g, w5.heap.size = g := ⟨_, rfl⟩
  obtain ⟨w5b, hw5b⟩ : ∃ W, w5.alloc (.cells #[.int .i64 3, .slice A5 1 c5] 27) = W := ⟨_, rfl⟩
  have h5b := H5b.out
  rw [hw5b] at h5b ⊢
  rw [hg5] at h5b ⊢
  have H5c := Lib.hid h5b; clear h5b hg5 hw5b H5b
  refine (aw_assign 3 (-1) H5c.out (v := .slice A1 2 c1) (L := exF) (by simp) HS.out.1 HK.out.2.1 HA.out.2.2.2 _ HA.out.2.1).mono ?_
  rintro e w6 ⟨v6, rfl, h6⟩
  obtain ⟨A6, c6, rfl, -⟩ := rowsL_shape (h6.f (v := v6) (L := [[2]]) (by simp))
  have H6 := Lib.hid h6; clear h6 H5c
  go_wp2_with fail
  have h6b := H6.out.box (.slice A6 1 c6)
  obtain ⟨g6, hg6⟩ : ∃ g, w6.heap.size = g := ⟨_, rfl⟩
  obtain ⟨w6b, hw6b⟩ : ∃ W, w6.alloc (.cells #[.int .i64 3, .slice A6 1 c6] 27) = W := ⟨_, rfl⟩
  have hs6 : g6 + 1 = w6b.heap.size := by rw [← hw6b, ← hg6]; simp
  rw [hw6b] at h6b ⊢
  rw [hg6] at h6b ⊢
  rw [hs6]
  have H6b := Lib.hid h6b; clear h6b hg6 hw6b H6 hs6
  refine (aw_of 3 H6b.out (below4 w6b _ _ _ _) HS.out.2.1 (lit_three w6b [2, 1, 2] [3, -3] [1, 2] _ _)).mono ?_
  rintro e w7 ⟨v7, rfl, h7⟩
  obtain ⟨A7, c7, rfl, -⟩ := rowsL_shape (h7.f (v := v7) (L := exN) (by simp))
  have H7 := Lib.hid h7; clear h7 H6b
  go_wp2_with fail
  refine (aw_norm 3 H7.out (v := .slice A7 3 c7) (L := exN) (by simp) HS.out.2.1 HK.out.2.2.1 _ ex_norm).mono ?_
  rintro e w8 ⟨v8, rfl, h8⟩
  obtain ⟨A8, c8, rfl, -⟩ := rowsL_shape (h8.f (v := v8) (L := [[1, 2]]) (by simp))
  have H8 := Lib.hid h8; clear h8 H7
  go_wp2_with fail
  have h8b := H8.out.box (.slice A8 1 c8)
  obtain ⟨g8, hg8⟩ : ∃ g, w8.heap.size = g := ⟨_, rfl⟩
  obtain ⟨w8b, hw8b⟩ : ∃ W, w8.alloc (.cells #[.int .i64 3, .slice A8 1 c8] 27) = W := ⟨_, rfl⟩
  rw [hw8b] at h8b ⊢
  rw [hg8] at h8b ⊢
  have H8b := Lib.hid h8b; clear h8b hg8 hw8b H8
  refine (aw_of 3 H8b.out (Below.refl _ _) HS.out.2.2.1 (rows_none _ _)).mono ?_
  rintro e w9 ⟨v9, rfl, h9⟩
  obtain ⟨A9, c9, rfl, -⟩ := rowsL_shape (h9.f (v := v9) (L := []) (by simp))
  have H9 := Lib.hid h9; clear h9 H8b
  go_wp2_with fail
  refine (aw_count 3 8 H9.out (v := .slice A9 0 c9) (L := []) (by simp) HS.out.2.2.1 (by decide) HK.out.2.2.2.1 HN.out.2.2.1).mono ?_
  rintro e w10 ⟨rfl, h10⟩
  have H10 := Lib.hid h10; clear h10 H9
  go_wp2_with fail
  refine (aw_of 3 H10.out (below1a w10 _) HS.out.2.2.2.1 (lit_nil w10 _)).mono ?_
  rintro e w11 ⟨v11, rfl, h11⟩
  obtain ⟨A11, c11, rfl, -⟩ := rowsL_shape (h11.f (v := v11) (L := [[]]) (by simp))
  have H11 := Lib.hid h11; clear h11 H10
  go_wp2_with fail
  refine (aw_count 3 0 H11.out (v := .slice A11 1 c11) (L := [[]]) (by simp) HS.out.2.2.2.1 (by decide) HK.out.2.2.2.2 HN.out.2.2.2).mono ?_
  rintro e w12 ⟨rfl, h12⟩
  have H12 := Lib.hid h12; clear h12 H11
  have hS : ∀ (fs : List (Value × List (List Int))) (ms : List (Value × List Bool)) (ss : List (Nat × Value)) (W' : World), Aw w W' fs ms ss → (g5, Value.slice A5 1 c5) ∈ ss → (g6, Value.slice A6 1 c6) ∈ ss → (g8, Value.slice A8 1 c8) ∈ ss → (W'.cell? ⟨g5, 0, none⟩ = some (.int .i64 3) ∧ W'.cell? ⟨g5, 1, none⟩ = some (.slice A5 1 c5) ∧ W'.cell? ⟨g6, 0, none⟩ = some (.int .i64 3) ∧ W'.cell? ⟨g6, 1, none⟩ = some (.slice A6 1 c6) ∧ W'.cell? ⟨g8, 0, none⟩ = some (.int .i64 3) ∧ W'.cell? ⟨g8, 1, none⟩ = some (.slice A8 1 c8)) := fun fs ms ss W' h m5 m6 m8 => ⟨(h.s _ _ m5).1, (h.s _ _ m5).2, (h.s _ _ m6).1, (h.s _ _ m6).2, (h.s _ _ m8).1, (h.s _ _ m8).2⟩
  have HSS := Lib.hid hS; clear hS
  have hS0 := HSS.out _ _ _ _ H12.out (by simp) (by simp) (by simp)
  have hS1 := HSS.out _ _ _ _ (H12.out.on (Below.refl _ _).drew) (by simp) (by simp) (by simp)
  have hS2 := fun o => HSS.out _ _ _ _ ((H12.out.on (Below.refl _ _).drew).on (below1a w12.drew o)) (by simp) (by simp) (by simp)
  obtain ⟨p5, q5, p6, q6, p8, q8⟩ := hS0
  go_wp2_with fail
  dsimp only [List.append]
  go_region_held3 (fun W' => (W'.cell? ⟨g5, 0, none⟩ = some (.int .i64 3) ∧ W'.cell? ⟨g5, 1, none⟩ = some (.slice A5 1 c5) ∧ W'.cell? ⟨g6, 0, none⟩ = some (.int .i64 3) ∧ W'.cell? ⟨g6, 1, none⟩ = some (.slice A6 1 c6) ∧ W'.cell? ⟨g8, 0, none⟩ = some (.int .i64 3) ∧ W'.cell? ⟨g8, 1, none⟩ = some (.slice A8 1 c8))) (first | assumption | exact hS2 _ | exact hS13a _ | exact hS13b _ _ | exact hS15a _ | exact hS15b _ _ | exact hS17a _ | exact hS17b _ _) (first
    | (go_at_call 35; (with_reducible refine (awx_equal H12.out (mv := .slice Af 3 cf) (by simp) _).mono ?_); rintro r w13 ⟨rfl, h13⟩; have hS13 := HSS.out _ _ _ _ h13 (by simp) (by simp) (by simp); have hS13a := fun o => HSS.out _ _ _ _ (h13.on (below1a w13 o)) (by simp) (by simp) (by simp); have hS13b := fun o o' => HSS.out _ _ _ _ (h13.on (below2z w13 o o')) (by simp) (by simp) (by simp); have H13 := Lib.hid h13; clear h13)
    | (go_at_call 5; (with_reducible refine (awx_one 3 H13.out _ _).mono ?_); rintro r w14 ⟨v14, rfl, h14⟩; obtain ⟨A14, c14, rfl, -⟩ := rowsL_shape (h14.f (v := v14) (L := [[3]]) (by simp)); have hS14 := HSS.out _ _ _ _ h14 (by simp) (by simp) (by simp); have H14 := Lib.hid h14; clear h14)
    | (go_at_call 14; (with_reducible refine (aw_same 3 H14.out (v := .slice A5 1 c5) (v' := .slice A14 1 c14) (L := [[3]]) (by simp) (by simp) HS.out.2.2.2.2.1).mono ?_); rintro r w15 ⟨rfl, h15⟩; have hS15 := HSS.out _ _ _ _ h15 (by simp) (by simp) (by simp); have hS15a := fun o => HSS.out _ _ _ _ (h15.on (below1a w15 o)) (by simp) (by simp) (by simp); have hS15b := fun o o' => HSS.out _ _ _ _ (h15.on (below2z w15 o o')) (by simp) (by simp) (by simp); have H15 := Lib.hid h15; clear h15)
    | (go_at_call 5; (with_reducible refine (awx_one 2 H15.out _ _).mono ?_); rintro r w16 ⟨v16, rfl, h16⟩; obtain ⟨A16, c16, rfl, -⟩ := rowsL_shape (h16.f (v := v16) (L := [[2]]) (by simp)); have hS16 := HSS.out _ _ _ _ h16 (by simp) (by simp) (by simp); have H16 := Lib.hid h16; clear h16)
    | (go_at_call 14; (with_reducible refine (aw_same 3 H16.out (v := .slice A6 1 c6) (v' := .slice A16 1 c16) (L := [[2]]) (by simp) (by simp) HS.out.2.2.2.2.2.1).mono ?_); rintro r w17 ⟨rfl, h17⟩; have hS17 := HSS.out _ _ _ _ h17 (by simp) (by simp) (by simp); have hS17a := fun o => HSS.out _ _ _ _ (h17.on (below1a w17 o)) (by simp) (by simp) (by simp); have hS17b := fun o o' => HSS.out _ _ _ _ (h17.on (below2z w17 o o')) (by simp) (by simp) (by simp); have H17 := Lib.hid h17; clear h17)
    | (go_at_call 5; (with_reducible refine (awx_pair 1 2 H17.out _ _).mono ?_); rintro r w18 ⟨v18, rfl, h18⟩; obtain ⟨A18, c18, rfl, -⟩ := rowsL_shape (h18.f (v := v18) (L := [[1, 2]]) (by simp)); have hS18 := HSS.out _ _ _ _ h18 (by simp) (by simp) (by simp); have H18 := Lib.hid h18; clear h18)
    | (go_at_call 14; (with_reducible refine (aw_same 3 H18.out (v := .slice A8 1 c8) (v' := .slice A18 1 c18) (L := [[1, 2]]) (by simp) (by simp) HS.out.2.2.2.2.2.2).mono ?_); rintro r w19 ⟨rfl, h19⟩; have hS19 := HSS.out _ _ _ _ h19 (by simp) (by simp) (by simp); have H19 := Lib.hid h19; clear h19))
  go_wp2_with fail
  go_ret
  exact ⟨rfl, H19.out.below⟩
end Go.Proofs.YtgoflapolglfcaaGreat
