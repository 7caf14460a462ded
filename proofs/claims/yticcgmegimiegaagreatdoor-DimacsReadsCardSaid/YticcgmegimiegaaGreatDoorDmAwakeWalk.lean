/- salvorlaw06.awake. -/
/- salvorlaw06.awake: its walk. -/
import Derived.Test.YticcgmegimiegaaGreatDoorDmEv
import Derived.Deep.RegionHeld3
namespace Go.Proofs.YticcgmegimiegaaGreatDoor
open Go.RowKit Go.ChangeAt Go.ChangeShapes Go.WideShapes Go.Shelf Go.Sort

/-- A literal of two clauses, laid in either order; of three, the middle one nil. -/
theorem lit_two (w : World) (a b : List Int) (T U : TypeId) : RowsL (((w.alloc (.cells (a.map (Value.int .i64)).toArray T)).alloc (.cells (b.map (Value.int .i64)).toArray T)).alloc (.cells #[.slice (some ⟨w.heap.size, 0, none⟩) a.length a.length, .slice (some ⟨w.heap.size + 1, 0, none⟩) b.length b.length] U)).heap.size
    (((w.alloc (.cells (a.map (Value.int .i64)).toArray T)).alloc (.cells (b.map (Value.int .i64)).toArray T)).alloc (.cells #[.slice (some ⟨w.heap.size, 0, none⟩) a.length a.length, .slice (some ⟨w.heap.size + 1, 0, none⟩) b.length b.length] U)) (.slice (some ⟨w.heap.size + 1 + 1, 0, none⟩) 2 2) [a, b] := by
  obtain ⟨u, hu⟩ : ∃ u, Array.mk [Value.slice (some ⟨w.heap.size, 0, none⟩) a.length a.length, .slice (some ⟨w.heap.size + 1, 0, none⟩) b.length b.length] = u := ⟨_, rfl⟩
  have n1 := whole_alloc (whole_alloc (Whole.made w T (a.map (Value.int .i64)).toArray) (.cells (b.map (Value.int .i64)).toArray T)) (.cells u U)
  have n2 := whole_alloc (Whole.made (w.alloc (.cells (a.map (Value.int .i64)).toArray T)) T (b.map (Value.int .i64)).toArray) (.cells u U)
  have n3 := Whole.made ((w.alloc (.cells (a.map (Value.int .i64)).toArray T)).alloc (.cells (b.map (Value.int .i64)).toArray T)) U u
  simp only [World.size_alloc] at n1 n2 n3
  subst hu
  refine rows_block (T := U) [.slice (some ⟨w.heap.size, 0, none⟩) a.length a.length, .slice (some ⟨w.heap.size + 1, 0, none⟩) b.length b.length] [a, b] n3 n3.lt rfl ?_
  intro j sv zs h1 h2
  match j with
  | 0 =>
    simp only [List.getElem?_cons_zero, Option.some.injEq] at h1 h2
    subst h1; subst h2
    exact lits_block a n1 n1.lt
  | 1 =>
    simp only [List.getElem?_cons_succ, List.getElem?_cons_zero, Option.some.injEq] at h1 h2
    subst h1; subst h2
    exact lits_block b n2 n2.lt
  | j + 2 => simp at h1
theorem lit_swap (w : World) (a b : List Int) (T U : TypeId) : RowsL (((w.alloc (.cells (b.map (Value.int .i64)).toArray T)).alloc (.cells (a.map (Value.int .i64)).toArray T)).alloc (.cells #[.slice (some ⟨w.heap.size + 1, 0, none⟩) a.length a.length, .slice (some ⟨w.heap.size, 0, none⟩) b.length b.length] U)).heap.size
    (((w.alloc (.cells (b.map (Value.int .i64)).toArray T)).alloc (.cells (a.map (Value.int .i64)).toArray T)).alloc (.cells #[.slice (some ⟨w.heap.size + 1, 0, none⟩) a.length a.length, .slice (some ⟨w.heap.size, 0, none⟩) b.length b.length] U)) (.slice (some ⟨w.heap.size + 1 + 1, 0, none⟩) 2 2) [a, b] := by
  obtain ⟨u, hu⟩ : ∃ u, Array.mk [Value.slice (some ⟨w.heap.size + 1, 0, none⟩) a.length a.length, .slice (some ⟨w.heap.size, 0, none⟩) b.length b.length] = u := ⟨_, rfl⟩
  have n1 := whole_alloc (whole_alloc (Whole.made w T (b.map (Value.int .i64)).toArray) (.cells (a.map (Value.int .i64)).toArray T)) (.cells u U)
  have n2 := whole_alloc (Whole.made (w.alloc (.cells (b.map (Value.int .i64)).toArray T)) T (a.map (Value.int .i64)).toArray) (.cells u U)
  have n3 := Whole.made ((w.alloc (.cells (b.map (Value.int .i64)).toArray T)).alloc (.cells (a.map (Value.int .i64)).toArray T)) U u
  simp only [World.size_alloc] at n1 n2 n3
  subst hu
  refine rows_block (T := U) [.slice (some ⟨w.heap.size + 1, 0, none⟩) a.length a.length, .slice (some ⟨w.heap.size, 0, none⟩) b.length b.length] [a, b] n3 n3.lt rfl ?_
  intro j sv zs h1 h2
  match j with
  | 0 =>
    simp only [List.getElem?_cons_zero, Option.some.injEq] at h1 h2
    subst h1; subst h2
    exact lits_block a n2 n2.lt
  | 1 =>
    simp only [List.getElem?_cons_succ, List.getElem?_cons_zero, Option.some.injEq] at h1 h2
    subst h1; subst h2
    exact lits_block b n1 n1.lt
  | j + 2 => simp at h1
theorem lit_mid (w : World) (a b : List Int) (T U : TypeId) : RowsL (((w.alloc (.cells (a.map (Value.int .i64)).toArray T)).alloc (.cells (b.map (Value.int .i64)).toArray T)).alloc (.cells #[.slice (some ⟨w.heap.size, 0, none⟩) a.length a.length, .slice none 0 0, .slice (some ⟨w.heap.size + 1, 0, none⟩) b.length b.length] U)).heap.size
    (((w.alloc (.cells (a.map (Value.int .i64)).toArray T)).alloc (.cells (b.map (Value.int .i64)).toArray T)).alloc (.cells #[.slice (some ⟨w.heap.size, 0, none⟩) a.length a.length, .slice none 0 0, .slice (some ⟨w.heap.size + 1, 0, none⟩) b.length b.length] U)) (.slice (some ⟨w.heap.size + 1 + 1, 0, none⟩) 3 3) [a, [], b] := by
  obtain ⟨u, hu⟩ : ∃ u, Array.mk [Value.slice (some ⟨w.heap.size, 0, none⟩) a.length a.length, .slice none 0 0, .slice (some ⟨w.heap.size + 1, 0, none⟩) b.length b.length] = u := ⟨_, rfl⟩
  have n1 := whole_alloc (whole_alloc (Whole.made w T (a.map (Value.int .i64)).toArray) (.cells (b.map (Value.int .i64)).toArray T)) (.cells u U)
  have n2 := whole_alloc (Whole.made (w.alloc (.cells (a.map (Value.int .i64)).toArray T)) T (b.map (Value.int .i64)).toArray) (.cells u U)
  have n3 := Whole.made ((w.alloc (.cells (a.map (Value.int .i64)).toArray T)).alloc (.cells (b.map (Value.int .i64)).toArray T)) U u
  simp only [World.size_alloc] at n1 n2 n3
  subst hu
  refine rows_block (T := U) [.slice (some ⟨w.heap.size, 0, none⟩) a.length a.length, .slice none 0 0, .slice (some ⟨w.heap.size + 1, 0, none⟩) b.length b.length] [a, [], b] n3 n3.lt rfl ?_
  intro j sv zs h1 h2
  match j with
  | 0 =>
    simp only [List.getElem?_cons_zero, Option.some.injEq] at h1 h2
    subst h1; subst h2
    exact lits_block a n1 n1.lt
  | 1 =>
    simp only [List.getElem?_cons_succ, List.getElem?_cons_zero, Option.some.injEq] at h1 h2
    subst h1; subst h2
    exact lits_none _ _
  | 2 =>
    simp only [List.getElem?_cons_succ, List.getElem?_cons_zero, Option.some.injEq] at h1 h2
    subst h1; subst h2
    exact lits_block b n2 n2.lt
  | j + 3 => simp at h1
theorem below3 (w : World) (a b c : Obj) : Below w.heap.size w (((w.alloc a).alloc b).alloc c) := ((below1a w a).alloc (by simp) b).alloc (by simp; omega) c

/-! ### The examples of the chapter -/
abbrev exS : List UInt8 := [99, 32, 120, 10, 112, 32, 99, 110, 102, 32, 50, 32, 50, 10, 49, 32, 50, 10, 48, 32, 45, 49, 32, 48]
abbrev exT : List UInt8 := [112, 32, 99, 110, 102, 32, 51, 32, 51, 10, 49, 32, 45, 50, 32, 48, 10, 48, 10, 51, 32, 48, 10]
theorem ex_write : writeT 3 [[1, -2], [], [3]] = (exT, 0) := by decide +kernel
theorem ex_read : readAll exS = .inr (2, [[1, 2], [-1]]) := by decide +kernel
abbrev exTs : List (List UInt8) := [[112, 32, 99, 110, 102, 32, 49, 32, 49, 10, 50, 32, 48], [112, 32, 99, 110, 102, 32, 49, 32, 49, 10, 49, 32, 48, 32, 49, 32, 48], [112, 32, 99, 110, 102, 32, 49, 32, 49, 10, 49], [112, 32, 99, 110, 102, 32, 49, 32, 49, 10, 49, 32, 120, 32, 48], [112, 32, 99, 110, 102, 32, 48, 49, 32, 49], []]
abbrev exNs : List Nat := [2, 2, 3, 2, 1, 2]
abbrev exEs : List Int := [62, 63, 63, 61, 60, 60]
theorem ex_faults : exTs.map readAll = [.inl (2, 62), .inl (2, 63), .inl (3, 63), .inl (2, 61), .inl (1, 60), .inl (2, 60)] := by decide +kernel
theorem ex_at {k : Nat} (hk : k < 6) : ∃ (T : List UInt8) (n : Nat) (e : Int), exTs[k]? = some T ∧ exNs[k]? = some n ∧ exEs[k]? = some e ∧ T.length ≤ 100 ∧ readAll T = .inl (n, e) := by
  have h := ex_faults
  simp only [List.map_cons, List.map_nil, List.cons.injEq, and_true] at h
  obtain ⟨h0, h1, h2, h3, h4, h5⟩ := h
  match k with
  | 0 => exact ⟨_, _, _, rfl, rfl, rfl, by decide, h0⟩
  | 1 => exact ⟨_, _, _, rfl, rfl, rfl, by decide, h1⟩
  | 2 => exact ⟨_, _, _, rfl, rfl, rfl, by decide, h2⟩
  | 3 => exact ⟨_, _, _, rfl, rfl, rfl, by decide, h3⟩
  | 4 => exact ⟨_, _, _, rfl, rfl, rfl, by decide, h4⟩
  | 5 => exact ⟨_, _, _, rfl, rfl, rfl, by decide, h5⟩
  | k + 6 => omega
end Go.Proofs.YticcgmegimiegaaGreatDoor
namespace Go.Proofs.YticcgmegimiegaaGreatDoor
open Go.RowKit Go.ChangeAt Go.ChangeShapes Go.WideShapes Go.Shelf Go.Sort

section
variable {w W : World} {fs : List (Value × List (List Int))} {ss : List (Nat × Int × Value)}
theorem aw_two (h : Dm w W fs ss) (T U : TypeId) :
    Calls Tryz.prog 15 #[.int .i64 2, .slice (some ⟨W.heap.size + 1 + 1, 0, none⟩) 2 2] ((((W.alloc (.cells #[.int .i64 1, .int .i64 2] T)).alloc (.cells #[.int .i64 (-1)] T)).alloc (.cells #[.slice (some ⟨W.heap.size, 0, none⟩) 2 2, .slice (some ⟨W.heap.size + 1, 0, none⟩) 1 1] U)).drew) fun e w' => ∃ A c, e = .returned (.agg #[.int .i64 2, .slice A 2 c]) ∧ Dm w w' ((.slice A 2 c, [[1, 2], [-1]]) :: fs) ss :=
  dm_of (L := [[1, 2], [-1]]) 2 (h.on ((Below.refl _ _).drew)) (below3 W.drew _ _ _) (by simp) (by simp) (lit_two W.drew [1, 2] [-1] T U)
theorem aw_swap (h : Dm w W fs ss) (T U : TypeId) :
    Calls Tryz.prog 15 #[.int .i64 2, .slice (some ⟨W.heap.size + 1 + 1, 0, none⟩) 2 2] ((((W.alloc (.cells #[.int .i64 (-1)] T)).alloc (.cells #[.int .i64 1, .int .i64 2] T)).alloc (.cells #[.slice (some ⟨W.heap.size + 1, 0, none⟩) 2 2, .slice (some ⟨W.heap.size, 0, none⟩) 1 1] U)).drew) fun e w' => ∃ A c, e = .returned (.agg #[.int .i64 2, .slice A 2 c]) ∧ Dm w w' ((.slice A 2 c, [[1, 2], [-1]]) :: fs) ss :=
  dm_of (L := [[1, 2], [-1]]) 2 (h.on ((Below.refl _ _).drew)) (below3 W.drew _ _ _) (by simp) (by simp) (lit_swap W.drew [1, 2] [-1] T U)
end
/-- Between two of the six texts. -/
def AwRel (w : World) (b : Nat) (i : Value) (wr : World) : Prop := ∃ k : Nat, k ≤ 6 ∧ i = .int .i64 k ∧ Dm w wr [] [] ∧ ∃ T, Whole wr b T (exTs.map str).toArray
theorem Dm.bare {w W : World} {fs : List (Value × List (List Int))} {ss : List (Nat × Int × Value)} (h : Dm w W fs ss) : Dm w W [] [] := ⟨h.below, h.env, fun _ h => by simp at h, fun _ h => by simp at h⟩
set_option maxRecDepth 100000 in
set_option maxHeartbeats 1000000 in
theorem awake_any (w : World) (he : Env w) : Calls Tryz.prog 13 #[] w fun e w' => e = .returned (.bool true) ∧ Below w.heap.size w w' := by
  have hr1 := rd_ok ex_read
  have H0 := Lib.hid (Dm.start w he); have HR1 := Lib.hid hr1
  clear he hr1
  go_enter Tryz.func13, Tryz.ntmps13
  go_wp2_with fail
  refine (dm_of 3 H0.out (below3 w _ _ _) (by simp) (by simp) (lit_mid w [1, -2] [3] _ _)).mono ?_
  rintro e w1 ⟨A1, c1, rfl, h1⟩
  have H1 := Lib.hid h1; clear h1 H0
  go_wp2_with fail
  refine (dm_write 3 H1.out (v := .slice A1 3 c1) (L := [[1, -2], [], [3]]) (by simp) (by simp) (by simp) ex_write).mono ?_
  rintro e w2 ⟨rfl, h2⟩
  have H2 := Lib.hid h2; clear h2 H1
  go_wp2_with fail
  refine (dm_read exS (by simp) H2.out HR1.out).mono ?_
  rintro e w3 ⟨A3, c3, rfl, h3⟩
  have h3b := (show Dm w w3 [(.slice A3 2 c3, [[1, 2], [-1]]), (.slice A1 3 c1, [[1, -2], [], [3]])] [] from h3).box 2 (.slice A3 2 c3)
  have H3 := Lib.hid h3b; clear h3 H2 h3b
  go_wp2_with fail
  obtain ⟨g, hg⟩ : ∃ x, w3.heap.size = x := ⟨_, rfl⟩
  obtain ⟨W, hW⟩ : ∃ x, w3.alloc (.cells #[.int .i64 2, .slice A3 2 c3] 24) = x := ⟨_, rfl⟩
  rw [hg, hW] at H3
  rw [hg, hW]
  have hS : ∀ (fs : List (Value × List (List Int))) (ss : List (Nat × Int × Value)) (W' : World), Dm w W' fs ss → (g, (2 : Int), Value.slice A3 2 c3) ∈ ss → (W'.cell? ⟨g, 0, none⟩ = some (.int .i64 2) ∧ W'.cell? ⟨g, 1, none⟩ = some (.slice A3 2 c3)) := fun fs ss W' h m => h.s _ _ _ m
  have HSS := Lib.hid hS; clear hS
  have hS0 := HSS.out _ _ _ H3.out (by simp)
  have hS1 := HSS.out _ _ _ (H3.out.on (Below.refl _ _).drew) (by simp)
  have hS2 := fun o => HSS.out _ _ _ ((H3.out.on (Below.refl _ _).drew).on (below1a W.drew o)) (by simp)
  have hS3 := fun o o' => HSS.out _ _ _ (((H3.out.on (Below.refl _ _).drew).on (below1a W.drew o)).on (below1a _ o')) (by simp)
  have hS4 := fun o o' o'' => HSS.out _ _ _ ((H3.out.on (Below.refl _ _).drew).on (below3 W.drew o o' o'')) (by simp)
  obtain ⟨p3, q3⟩ := hS0
  clear hg hW
  go_region_held3 (fun W' => W'.cell? ⟨g, 0, none⟩ = some (.int .i64 2) ∧ W'.cell? ⟨g, 1, none⟩ = some (.slice A3 2 c3)) (first | assumption | exact hS2 _ | exact hS3 _ _ | exact hS4 _ _ _ | exact hS5 | exact hS6) (first
    | (go_at_call 15; (first | (with_reducible refine (aw_two H3.out _ _).mono ?_) | (with_reducible refine (aw_swap H3.out _ _).mono ?_)); rintro r w5 ⟨A5, c5, rfl, h5⟩; have hS5 := HSS.out _ _ _ h5 (by simp); have H5 := Lib.hid h5; clear h5)
    | (go_at_call 21; (with_reducible refine (dm_same 2 2 H5.out (v := .slice A3 2 c3) (v' := .slice A5 2 c5) (L := [[1, 2], [-1]]) (L' := [[1, 2], [-1]]) (by simp) (by simp) (by simp) (by simp) (by simp)).mono ?_); rintro r w6 ⟨rfl, h6⟩; have hS6 := HSS.out _ _ _ h6 (by simp); have H6 := Lib.hid h6; clear h6))
  all_goals
    have H7 := Lib.hid H6.out.bare
    clear H6 hS6
    go_wp2_with fail
    obtain ⟨b, hb⟩ : ∃ x, w6.heap.size = x := ⟨_, rfl⟩
    have hst : AwRel w b (.int .i64 0) (w6.alloc (.cells (exTs.map str).toArray 9)) := ⟨0, by omega, rfl, H7.out.on (below1a w6 _), _, by rw [← hb]; exact Whole.made w6 _ _⟩
    have HSt := Lib.hid hst
    rw [hb]
    clear hst hb
    go_loopw [47] (fun i wr => AwRel w b i wr) (fun i _ => 6 - (intOf i).toNat)
    case atStart => exact HSt.out
    case round =>
      clear HSt
      obtain ⟨k, hk, rfl, hd, T0, hw⟩ := hrel
      by_cases hlt : k < 6
      · obtain ⟨T, n, e, e1, e2, e3, hl, hr⟩ := ex_at hlt
        have hrd := rd_no hr
        have c0 : wr.cell? ⟨b, k, none⟩ = some (str T) := by rw [hw.cell k]; simp only [List.getElem?_toArray, List.getElem?_map, e1]; rfl
        have d1 : [Value.int .i64 2, .int .i64 2, .int .i64 3, .int .i64 2, .int .i64 1, .int .i64 2][k]? = some (.int .i64 (n : Int)) := by
          rw [show [Value.int .i64 2, .int .i64 2, .int .i64 3, .int .i64 2, .int .i64 1, .int .i64 2] = exNs.map (fun (n : Nat) => Value.int .i64 (n : Int)) from rfl, List.getElem?_map, e2]; rfl
        have d2 : [Value.int .i64 62, .int .i64 63, .int .i64 63, .int .i64 61, .int .i64 60, .int .i64 60][k]? = some (.int .i64 e) := by
          rw [show [Value.int .i64 62, .int .i64 63, .int .i64 63, .int .i64 61, .int .i64 60, .int .i64 60] = exEs.map (fun n => Value.int .i64 n) from rfl, List.getElem?_map, e3]; rfl
        have hki : (k : Int) < 6 := by omega
        have HD := Lib.hid hd; have HW := Lib.hid hw; have HRd := Lib.hid hrd; have HL := Lib.hid hl; have HLt := Lib.hid hlt
        clear hd hw hr hrd e1 e2 e3 hl hlt hk
        go_wp2_with fail
        refine (dm_read T (by have := HL.out; omega) (Dm.start wr HD.out.env) HRd.out).mono ?_
        rintro r w7 ⟨A7, c7, rfl, h7⟩
        have H8 := Lib.hid ((HD.out.on h7.below).on (below1a w7 (.cells #[.int .i64 0, .slice A7 0 c7] 24)))
        have HW7 := Lib.hid (whole_alloc (HW.out.same (h7.below.block _ HW.out.lt)) (.cells #[.int .i64 0, .slice A7 0 c7] 24))
        clear h7 c0
        go_wp2_with fail
        go_roundw
        case rel => exact ⟨k + 1, HLt.out, by go_num, (H8.out.on (below1a _ _)).on (below1a _ _), _, whole_alloc (whole_alloc HW7.out _) _⟩
        case measure => simp [intOf]; have := HLt.out; omega
      · obtain rfl : k = 6 := by omega
        have HD := Lib.hid hd.below
        clear hd hw hlt hk
        go_wp2_with fail
        go_ret
        exact ⟨rfl, HD.out⟩
theorem dm_awake {w W : World} {fs : List (Value × List (List Int))} {ss : List (Nat × Int × Value)} (h : Dm w W fs ss) : Calls Tryz.prog 13 #[] W fun e w' => e = .returned (.bool true) ∧ Dm w w' fs ss :=
  (awake_any W h.env).mono fun _ _ ⟨he, hb⟩ => ⟨he, h.on hb⟩
end Go.Proofs.YticcgmegimiegaaGreatDoor
