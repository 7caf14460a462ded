/- The walk of LitsVars. -/
import Derived.Test.YtjipmjimggggbaaDoorVarsOwn
import Derived.Test.YtjipmjimggggbaaDoorAwake
namespace Go.Proofs.YtjipmjimggggbaaDoor.litsVars
open Go.RowKit Go.ChangeAt Go.ChangeShapes Go.WideShapes

def madeL (zs : List Int) : List Int := (zs.take 60).map fun x => madeI (Int.tmod x 64)
theorem madeL_le (zs : List Int) : (madeL zs).length ≤ 60 := by unfold madeL; rw [List.length_map, List.length_take]; omega

theorem madeI_lit (n : Int) : litB (madeI n) = true := by
  obtain ⟨z, z0, z1, h | h⟩ := madeI_is n
  · rw [h]; exact litB_yes (by omega) (by omega) (by omega)
  · rw [h]; exact litB_yes (by omega) (by omega) (by omega)
theorem madeL_lit (zs : List Int) (n : Int) (hn : n ∈ madeL zs) : litB n = true := by
  obtain ⟨x, -, rfl⟩ := List.mem_map.1 hn
  exact madeI_lit _
theorem pair_cells (W : World) (p q : Value) (t : TypeId) : (W.alloc (.cells #[p, q] t)).cell? ⟨W.heap.size, 0, none⟩ = some p ∧ (W.alloc (.cells #[p, q] t)).cell? ⟨W.heap.size, 1, none⟩ = some q := by
  constructor
  · rw [cell_of_row _ _ 0 _ _ (0, 0) (World.alloc_heap_new W _)]; rfl
  · rw [cell_of_row _ _ 1 _ _ (0, 0) (World.alloc_heap_new W _)]; rfl
theorem up {W W' : World} {v : Value} {xs : List Int} (hb : Below W.heap.size W W') (h : Hid (IntsN W.heap.size W v xs)) : Hid (IntsN W'.heap.size W' v xs) := (h.out.below hb).more hb.size

def turnL (a : List Int) (k : Nat) : List Int := a.mapIdx fun j x => if j < k then negI x else x
theorem turn_at (a : List Int) (k : Nat) (h : k < a.length) : (turnL a k)[k]? = some (a[k]?.getD 0) := by
  unfold turnL
  rw [List.getElem?_mapIdx, List.getElem?_eq_getElem h]
  simp
theorem turn_step (a : List Int) (k : Nat) (h : k < a.length) : (turnL a k).set k (negI (a[k]?.getD 0)) = turnL a (k + 1) := by
  apply List.ext_getElem?
  intro j
  unfold turnL
  rw [List.getElem?_set, List.getElem?_mapIdx, List.getElem?_mapIdx, List.length_mapIdx]
  by_cases e : k = j
  · subst e
    rw [if_pos rfl, if_pos h, List.getElem?_eq_getElem h]
    simp
  · rw [if_neg e]
    have h1 : (j < k + 1) = (j < k) := by apply propext; omega
    simp only [h1]
theorem turn_zero (a : List Int) : turnL a 0 = a := by
  apply List.ext_getElem?
  intro j
  unfold turnL
  rw [List.getElem?_mapIdx]
  cases a[j]? <;> simp
theorem turn_all (a : List Int) : turnL a a.length = a.map negI := by
  apply List.ext_getElem?
  intro j
  unfold turnL
  rw [List.getElem?_mapIdx, List.getElem?_map]
  by_cases h : j < a.length
  · rw [List.getElem?_eq_getElem h]
    simp [h]
  · rw [List.getElem?_eq_none (by omega)]
    rfl
theorem turn_len (a : List Int) (k : Nat) : (turnL a k).length = a.length := List.length_mapIdx
def TRel (w12 : World) (a : List Int) (At : Option Addr) (ct : Nat) (i : Value) (wr : World) : Prop :=
  ∃ k : Nat, k ≤ a.length ∧ i = .int .i64 k ∧ Below w12.heap.size w12 wr ∧ wr.ownsRow w12.heap.size 27 1 (.slice At a.length ct) a.length ((turnL a k).map (Value.int .i64))

set_option maxRecDepth 100000 in
set_option maxHeartbeats 4000000 in
theorem litsVars_walk (k : Value) (zk : List Int) (hmk : zk.length ≤ maxLen) (hwk : ∀ x ∈ zk, (Lit.int .i32 x).wf = true) (hfk : Fits k) (l : Value) (zl : List Int) (hml : zl.length ≤ maxLen) (hwl : ∀ x ∈ zl, (Lit.int .i32 x).wf = true) (hfl : Fits l) (w : World)
    (hk : IntsK .i32 w.heap.size w k zk) (hl : IntsK .i32 w.heap.size w l zl) (ht : Tab w) :
    Calls Tryd.prog 10 #[k, l] w fun e w' => e = .returned (.bool true) ∧ Below w.heap.size w w' := by
  have HTab : Hid (∀ w', Below w.heap.size w w' → Tab w') := fun w' hb => ht.below hb
  clear ht
  have HK := Lib.hid hk; have HL := Lib.hid hl; clear hk hl
  have HMK := Lib.hid (made_list k zk hmk hwk hfk); have HML := Lib.hid (made_list l zl hml hwl hfl); clear hwk hwl hfk hfl
  go_enter Tryd.func10, Tryd.ntmps10
  go_wp2_with fail
  refine (HMK.out w HK.out).mono ?_
  rintro e w1 ⟨va, rfl, hr1, hw1⟩
  have Ka1 : Hid (IntsN w1.heap.size w1 va (madeL zk)) := intsN_own hr1
  have hA := madeL_le zk
  have hLa := fun n hn => madeL_lit zk n hn
  clear hr1 HMK
  obtain ⟨a, ea⟩ : ∃ a, madeL zk = a := ⟨_, rfl⟩
  rw [ea] at hA Ka1 hLa
  clear ea
  have HLa := Lib.hid hLa; clear hLa
  obtain ⟨Aa, ca, rfl⟩ := Ka1.out.shape
  have hl1 : IntsK .i32 w1.heap.size w1 l zl := by
    rcases HL.out.below hw1 with h | ⟨b, off, cap, e, hb, hc⟩
    · exact .inl h
    · exact .inr ⟨b, off, cap, e, Nat.lt_of_lt_of_le hb hw1.size, hc⟩
  have HL1 := Lib.hid hl1; clear hl1 HL HK
  go_wp2_with fail
  refine (HML.out w1 HL1.out).mono ?_
  rintro e w2 ⟨vb, rfl, hr2, hb2⟩
  have hw2 : Below w.heap.size w w2 := hw1.trans (hb2.mono hw1.size)
  have Kb2 : Hid (IntsN w2.heap.size w2 vb (madeL zl)) := intsN_own hr2
  have Ka2 := up hb2 Ka1
  have hB := madeL_le zl
  clear hr2 HML HL1 Ka1 hb2
  obtain ⟨b, eb⟩ : ∃ b, madeL zl = b := ⟨_, rfl⟩
  rw [eb] at hB Kb2
  clear eb
  obtain ⟨Ab, cb, rfl⟩ := Kb2.out.shape
  go_wp2_with fail
  refine (vars_any _ a (by omega) w2 Ka2.out.ints).mono ?_
  rintro e w3 ⟨vx, rfl, hr3, -, hb3⟩
  have hw3 : Below w.heap.size w w3 := hw2.trans (hb3.mono hw2.size)
  have Kx3 : Hid (IntsN w3.heap.size w3 vx (varsL a)) := intsN_own hr3
  have Ka3 := up hb3 Ka2; have Kb3 := up hb3 Kb2
  have hX := litsLists.varsL_length a
  clear hr3 Ka2 Kb2 hb3
  obtain ⟨xs, ex⟩ : ∃ xs, varsL a = xs := ⟨_, rfl⟩
  rw [ex] at hX Kx3
  have Hex := Lib.hid ex; clear ex
  obtain ⟨Ax, cx, rfl⟩ := Kx3.out.shape
  go_wp2_with fail
  refine (vars_any _ b (by omega) w3 Kb3.out.ints).mono ?_
  rintro e w4 ⟨vy, rfl, hr4, -, hb4⟩
  have hw4 : Below w.heap.size w w4 := hw3.trans (hb4.mono hw3.size)
  have Ky4 : Hid (IntsN w4.heap.size w4 vy (varsL b)) := intsN_own hr4
  have Ka4 := up hb4 Ka3; have Kb4 := up hb4 Kb3; have Kx4 := up hb4 Kx3
  have hY := litsLists.varsL_length b
  clear hr4 Ka3 Kb3 Kx3 hb4
  obtain ⟨ys, ey⟩ : ∃ ys, varsL b = ys := ⟨_, rfl⟩
  rw [ey] at hY Ky4
  have Hey := Lib.hid ey; clear ey
  obtain ⟨Ay, cy, rfl⟩ := Ky4.out.shape
  go_wp2_with fail
  obtain ⟨p50, p51⟩ := pair_cells w4 (.slice Aa a.length ca) (.slice Ab b.length cb) 26
  have hb5 := (Below.refl w4.heap.size w4).alloc (Nat.le_refl _) (.cells #[.slice Aa a.length ca, .slice Ab b.length cb] 26)
  have hs5 : w4.heap.size < (w4.alloc (.cells #[.slice Aa a.length ca, .slice Ab b.length cb] 26)).heap.size := by simp
  obtain ⟨w5, e5⟩ : ∃ w5, w4.alloc (.cells #[.slice Aa a.length ca, .slice Ab b.length cb] 26) = w5 := ⟨_, rfl⟩
  rw [e5] at p50 p51 hb5 hs5 ⊢
  have hw5 : Below w.heap.size w w5 := hw4.trans (hb5.mono hw4.size)
  have Ka5 := up hb5 Ka4; have Kb5 := up hb5 Kb4; have Kx5 := up hb5 Kx4; have Ky5 := up hb5 Ky4
  clear e5 hb5 Ka4 Kb4 Kx4 Ky4
  refine (concatLit w4.heap.size _ _ a b (by omega) (by omega) w5 hs5 Ka5.out Kb5.out p50 p51).mono ?_
  rintro e w6 ⟨vc, rfl, hr6, hb6⟩
  have hw6 : Below w.heap.size w w6 := hw5.trans (hb6.mono hw5.size)
  have Kc6 : Hid (IntsN w6.heap.size w6 vc (a ++ b)) := intsN_own hr6
  have Ka6 := up hb6 Ka5; have Kx6 := up hb6 Kx5; have Ky6 := up hb6 Ky5
  clear hr6 hb6 p50 p51 hs5 Ka5 Kb5 Kx5 Ky5
  have hab : (a ++ b).length ≤ 120 := by rw [List.length_append]; omega
  have hall := both_is a b
  obtain ⟨ab, eab⟩ : ∃ ab, a ++ b = ab := ⟨_, rfl⟩
  rw [eab] at hab Kc6 hall
  clear eab
  have Hall := Lib.hid hall; clear hall
  obtain ⟨Ac, cc, rfl⟩ := Kc6.out.shape
  go_wp2_with fail
  refine (vars_any _ ab (by omega) w6 Kc6.out.ints).mono ?_
  rintro e w7 ⟨vo, rfl, hr7, -, hb7⟩
  have hw7 : Below w.heap.size w w7 := hw6.trans (hb7.mono hw6.size)
  have Ko7 : Hid (IntsN w7.heap.size w7 vo (varsL ab)) := intsN_own hr7
  have Ka7 := up hb7 Ka6; have Kx7 := up hb7 Kx6; have Ky7 := up hb7 Ky6
  have hO := litsLists.varsL_length ab
  clear hr7 hb7 Ka6 Kx6 Ky6 Kc6
  obtain ⟨os, eo⟩ : ∃ os, varsL ab = os := ⟨_, rfl⟩
  rw [eo] at hO Ko7 Hall
  clear eo
  obtain ⟨Ao, co, rfl⟩ := Ko7.out.shape
  go_wp2_with fail
  obtain ⟨p80, p81⟩ := pair_cells w7 (.slice Ax xs.length cx) (.slice Ay ys.length cy) 25
  have hb8 := (Below.refl w7.heap.size w7).alloc (Nat.le_refl _) (.cells #[.slice Ax xs.length cx, .slice Ay ys.length cy] 25)
  have hs8 : w7.heap.size < (w7.alloc (.cells #[.slice Ax xs.length cx, .slice Ay ys.length cy] 25)).heap.size := by simp
  obtain ⟨w8, e8⟩ : ∃ w8, w7.alloc (.cells #[.slice Ax xs.length cx, .slice Ay ys.length cy] 25) = w8 := ⟨_, rfl⟩
  rw [e8] at p80 p81 hb8 hs8 ⊢
  have hw8 : Below w.heap.size w w8 := hw7.trans (hb8.mono hw7.size)
  have Ka8 := up hb8 Ka7; have Kx8 := up hb8 Kx7; have Ky8 := up hb8 Ky7; have Ko8 := up hb8 Ko7
  clear e8 hb8 Ka7 Kx7 Ky7 Ko7
  refine (concatInt w7.heap.size _ _ xs ys (by omega) (by omega) w8 hs8 Kx8.out Ky8.out p80 p81).mono ?_
  rintro e w9 ⟨vd, rfl, hr9, hb9⟩
  have hw9 : Below w.heap.size w w9 := hw8.trans (hb9.mono hw8.size)
  have Kd9 : Hid (IntsN w9.heap.size w9 vd (xs ++ ys)) := intsN_own hr9
  have Ka9 := up hb9 Ka8; have Kx9 := up hb9 Kx8; have Ko9 := up hb9 Ko8
  clear hr9 hb9 p80 p81 hs8 Ka8 Kx8 Ky8 Ko8
  have hxy : (xs ++ ys).length ≤ 120 := by rw [List.length_append]; omega
  obtain ⟨zs, ez⟩ : ∃ zs, xs ++ ys = zs := ⟨_, rfl⟩
  rw [ez] at hxy Kd9
  rw [Hex.out, Hey.out, ez] at Hall
  clear ez
  obtain ⟨Ad, cd, rfl⟩ := Kd9.out.shape
  go_wp2_with fail
  refine ((callsIn_wide (n := 1)).1 (values_in 1 _ _ zs w9 Kd9.out.ints)).mono ?_
  rintro e w' ⟨rfl, rfl⟩
  have hb10 := (Below.refl w9.heap.size w9).alloc (Nat.le_refl _) (.cells #[.slice Ad zs.length cd] 25)
  have hs10 : w9.heap.size < (w9.alloc (.cells #[.slice Ad zs.length cd] 25)).heap.size := by simp
  have p10 : (w9.alloc (.cells #[.slice Ad zs.length cd] 25)).cell? ⟨w9.heap.size, 0, none⟩ = some (.slice Ad zs.length cd) := by rw [cell_of_row _ _ 0 _ _ (0, 0) (World.alloc_heap_new w9 _)]; rfl
  obtain ⟨w10, e10⟩ : ∃ w10, w9.alloc (.cells #[.slice Ad zs.length cd] 25) = w10 := ⟨_, rfl⟩
  rw [e10] at hb10 hs10 p10 ⊢
  have hw10 : Below w.heap.size w w10 := hw9.trans (hb10.mono hw9.size)
  have Ka10 := up hb10 Ka9; have Kx10 := up hb10 Kx9; have Ko10 := up hb10 Ko9; have Kd10 := up hb10 Kd9
  clear e10 hb10 Ka9 Kx9 Ko9 Kd9
  go_wp2_with fail
  refine ((callsIn_wide (n := 4)).1 (sorted_in 4 w9.heap.size w10.heap.size (by omega) _ zs (by omega) w10 hs10 (Nat.le_refl _) p10 Kd10.out.ints)).mono ?_
  rintro e w11 ⟨ve, rfl, hr11, -, hb11⟩
  clear p10 hs10 Kd10
  have hsl : (zs.mergeSort fun x y => decide (x ≤ y)).length ≤ 1000000 := by rw [List.length_mergeSort]; omega
  obtain ⟨ms, em⟩ : ∃ ms, (zs.mergeSort fun x y => decide (x ≤ y)) = ms := ⟨_, rfl⟩
  rw [em] at hsl hr11 Hall
  clear em
  have HCo := Lib.hid (compact_own w11 ve ms hsl hr11 hb11.size)
  obtain ⟨Ae, ce, rfl⟩ := (intsN_own hr11).shape
  clear hr11 hsl
  go_wp2_with fail
  refine HCo.out.mono ?_
  rintro e w12 ⟨vf, rfl, hf12, hb12⟩
  rw [Hall.out] at hf12
  have hb12' : Below w10.heap.size w10 w12 := hb11.trans hb12
  have hw12 : Below w.heap.size w w12 := hw10.trans (hb12'.mono hw10.size)
  have Kf12 : Hid (Ints w12.heap.size w12 vf os) := hf12
  have Ka12 := up hb12' Ka10; have Kx12 := up hb12' Kx10; have Ko12 := up hb12' Ko10
  obtain ⟨Af, cf, rfl, -⟩ := litsLists.ints_shape hf12
  clear hf12 hb12 hb11 hb12' Ka10 Kx10 Ko10 HCo Hall Hey hY hxy
  go_wp2_with fail
  refine (clone_lits w12 (by omega) Ka12.out.ints).mono ?_
  rintro e w13 ⟨vt, rfl, -, hr13, hb13⟩
  have hw13 : Below w.heap.size w w13 := hw12.trans (hb13.mono hw12.size)
  have HR13 := Lib.hid hr13
  obtain ⟨At, ct, rfl⟩ := (intsN_own hr13).shape
  clear hr13
  go_wp2_with fail
  go_loopw [43] (fun i wr => TRel w12 a At ct i wr) (fun i _ => a.length - (intOf i).toNat)
  case atStart => exact ⟨0, by omega, rfl, hb13, by rw [turn_zero]; exact HR13.out⟩
  case round =>
    obtain ⟨k, hk, rfl, hbr, hrow⟩ := hrel
    by_cases hlt : k < a.length
    · obtain ⟨g, rfl⟩ : ∃ g, At = some ⟨g, 0, none⟩ := by
        rcases hrow.2 with ⟨-, h⟩ | ⟨g, cap, cur, h, -⟩
        · omega
        · cases h; exact ⟨g, rfl⟩
      have hc : wr.cell? ⟨g, k, none⟩ = some (.int .i64 (a[k]?.getD 0)) := by rw [hrow.cellAt k (by omega), List.getElem?_map, turn_at a k hlt]; rfl
      have hf := hrow.frozenAt k
      have hst := hrow.stored k (.int .i64 (negI (a[k]?.getD 0)))
      rw [← List.map_set, turn_step a k hlt] at hst
      obtain ⟨x, ex⟩ : ∃ x, a[k]?.getD 0 = x := ⟨_, rfl⟩
      rw [ex] at hc hst
      have hbg := (hrow.lt g rfl).1
      have hbn : Below w12.heap.size w12 (wr.setCell ⟨g, k, none⟩ (.int .i64 (negI x))) := hbr.setCell (p := ⟨g, k, none⟩) hbg _
      have Hst := Lib.hid hst.1
      clear ex hrow hst
      go_wp2_with (go_at_call 23; refine (neg_any _ _).mono ?_; rintro e w' ⟨rfl, rfl⟩)
      go_roundw
      case rel => exact ⟨k + 1, by omega, by go_num, hbn, Hst.out⟩
      case measure => simp [intOf]; omega
    · obtain rfl : k = a.length := by omega
      rw [turn_all] at hrow
      have hT := turned_is a
      have hS := varsL_sorted a
      have hC := compact_vars a
      rw [Hex.out] at hT hS hC
      have HTu := Lib.hid hT; have HSo := Lib.hid hS; have HCp := Lib.hid hC
      obtain ⟨w14, ew⟩ : ∃ w14 : World, w14 = wr := ⟨_, rfl⟩
      rw [← ew] at hbr hrow ⊢
      clear ew hT hS hC hk hlt
      have hw14 : Below w.heap.size w w14 := hw12.trans (hbr.mono hw12.size)
      have Ka14 := up hbr Ka12; have Kx14 := up hbr Kx12; have Ko14 := up hbr Ko12
      have Kf14 : Hid (Ints w14.heap.size w14 (.slice Af os.length cf) os) := (Kf12.out.below hbr).more hbr.size
      have hml : (a.map negI).length = a.length := List.length_map _
      have Kt14 : Hid (IntsN w14.heap.size w14 (.slice At a.length ct) (a.map negI)) := by
        exact intsN_own hrow
      clear hrow Ka12 Kx12 Ko12 Kf12 hml
      obtain ⟨ta, eta⟩ : ∃ ta, a.map negI = ta := ⟨_, rfl⟩
      have htl : ta.length ≤ 60 := by rw [← eta, List.length_map]; exact hA
      rw [eta] at Kt14 HTu
      clear eta
      go_wp2_with fail
      refine (equal_ints w14 (by omega) (by omega) Ko14.out.ints Kf14.out).mono ?_
      rintro e w' ⟨rfl, q1, rfl⟩
      rw [beq_self_eq_true]
      have hq1 : Below w14.heap.size w14 (w14.drewN q1) := below_drewN (Below.refl _ _) q1
      obtain ⟨w15, e15⟩ : ∃ w15, w14.drewN q1 = w15 := ⟨_, rfl⟩
      rw [e15] at hq1 ⊢
      have hw15 : Below w.heap.size w w15 := hw14.trans (hq1.mono hw14.size)
      have Ka15 := up hq1 Ka14; have Kx15 := up hq1 Kx14; have Kt15 := up hq1 Kt14
      clear e15 hq1 Ka14 Kx14 Ko14 Kf14 Kt14
      go_wp2_with fail
      refine (vars_any _ ta (by omega) w15 Kt15.out.ints).mono ?_
      rintro e w16 ⟨vz, rfl, hr16, -, hb16⟩
      rw [HTu.out] at hr16
      have hw16 : Below w.heap.size w w16 := hw15.trans (hb16.mono hw15.size)
      have Ka16 := up hb16 Ka15; have Kx16 := up hb16 Kx15
      have Kz16 : Hid (IntsN w16.heap.size w16 vz xs) := intsN_own hr16
      clear hr16 hb16 Ka15 Kx15 Kt15
      obtain ⟨Az, cz, rfl⟩ := Kz16.out.shape
      go_wp2_with fail
      refine (equal_ints w16 (by omega) (by omega) Kz16.out.ints Kx16.out.ints).mono ?_
      rintro e w' ⟨rfl, q2, rfl⟩
      rw [beq_self_eq_true]
      have hq2 : Below w16.heap.size w16 (w16.drewN q2) := below_drewN (Below.refl _ _) q2
      obtain ⟨w17, e17⟩ : ∃ w17, w16.drewN q2 = w17 := ⟨_, rfl⟩
      rw [e17] at hq2 ⊢
      have hw17 : Below w.heap.size w w17 := hw16.trans (hq2.mono hw16.size)
      have Ka17 := up hq2 Ka16; have Kx17 := up hq2 Kx16
      clear e17 hq2 Ka16 Kx16 Kz16
      go_wp2_with fail
      refine (isSorted_any _ xs (by omega) HSo.out w17 Kx17.out.ints).mono ?_
      rintro e w' ⟨rfl, q3, rfl⟩
      have hq3 : Below w17.heap.size w17 (w17.drewN q3) := below_drewN (Below.refl _ _) q3
      obtain ⟨w18, e18⟩ : ∃ w18, w17.drewN q3 = w18 := ⟨_, rfl⟩
      rw [e18] at hq3 ⊢
      have hw18 : Below w.heap.size w w18 := hw17.trans (hq3.mono hw17.size)
      have Ka18 := up hq3 Ka17; have Kx18 := up hq3 Kx17
      clear e18 hq3 Ka17 Kx17
      go_wp2_with fail
      refine (clone_int w18 (by omega) Kx18.out.ints).mono ?_
      rintro e w19 ⟨vk, rfl, hr19, hb19⟩
      have HCk := Lib.hid (compact_own w19 vk xs (by omega) hr19 hb19.size)
      obtain ⟨Ak, ck, rfl⟩ := (intsN_own hr19).shape
      clear hr19
      go_wp2_with fail
      refine HCk.out.mono ?_
      rintro e w20 ⟨vm, rfl, hf20, hb20⟩
      rw [HCp.out] at hf20
      have hb20' : Below w18.heap.size w18 w20 := hb19.trans hb20
      have hw20 : Below w.heap.size w w20 := hw18.trans (hb20'.mono hw18.size)
      have Ka20 := up hb20' Ka18; have Kx20 := up hb20' Kx18
      obtain ⟨Am, cm, rfl, -⟩ := litsLists.ints_shape hf20
      clear hf20 hb19 hb20 hb20' HCk Ka18 Kx18
      go_wp2_with fail
      go_loop [82] (fun i => ∃ k : Nat, k ≤ a.length ∧ i = .int .i64 k) (fun i => a.length - (intOf i).toNat)
      case atStart => exact ⟨0, by omega, rfl⟩
      case round =>
        obtain ⟨k, hk, rfl⟩ := hrel
        by_cases hlt : k < a.length
        · rcases Ka20.out with ⟨-, h⟩ | ⟨b', off', cap', e, -, hcs⟩
          · rw [h] at hlt; exact absurd hlt (Nat.not_lt_zero _)
          · obtain ⟨rfl, rfl⟩ : Aa = some ⟨b', off', none⟩ ∧ ca = cap' := by cases e; exact ⟨rfl, rfl⟩
            have hc := hcs k hlt
            have hin : a[k]?.getD 0 ∈ a := by rw [List.getElem?_eq_getElem hlt]; exact List.getElem_mem hlt
            have hvm : varI (a[k]?.getD 0) ∈ xs := by
              rw [← Hex.out, varsL_mem]
              exact List.mem_map.2 ⟨_, List.mem_filter.2 ⟨hin, HLa.out _ hin⟩, rfl⟩
            obtain ⟨x, ex⟩ : ∃ x, a[k]?.getD 0 = x := ⟨_, rfl⟩
            rw [ex] at hc hvm
            have HCt := Lib.hid (contains_int (varI x) hvm w20 (by omega) Kx20.out.ints)
            clear ex hin hvm e hcs
            go_wp2_with (first
              | (go_at_call 26; refine (var_any _ _).mono ?_; rintro e w' ⟨rfl, rfl⟩)
              | (go_at_call 41; refine HCt.out.mono ?_; rintro e w' ⟨rfl, rfl⟩))
            go_round
            case rel => exact ⟨k + 1, by omega, by go_num⟩
            case measure => simp [intOf]; omega
        · obtain rfl : k = a.length := by omega
          clear hk hlt
          have hG : Hid (∀ m, xs.length = m + 1 → maxL (vl a) = xs[m]?.getD 0) := fun m h => by
            have := greatest_last a m (by rw [Hex.out]; exact h)
            rw [this, Hex.out]
          have hG0 : Hid (xs.length = 0 → maxL (vl a) = 0) := fun h => greatest_none a (by rw [Hex.out]; exact h)
          have HGr := Lib.hid (greatest_any _ a (by omega) w20 Ka20.out.ints)
          obtain ⟨G, eG⟩ : ∃ G, maxL (vl a) = G := ⟨_, rfl⟩
          rw [eG] at hG hG0 HGr
          clear eG
          by_cases h0 : xs.length = 0
          · obtain rfl := hG0.out h0
            obtain rfl : xs = [] := List.eq_nil_of_length_eq_zero h0
            go_wp2_with (first
              | (go_at_call 17; refine HGr.out.mono ?_; rintro e w21 ⟨rfl, hb21⟩; have hw21 : Below w.heap.size w w21 := hw20.trans (hb21.mono hw20.size))
              | (go_at_call 13; refine (awake_any w21 (HTab.out w21 hw21)).mono ?_; rintro e w22 ⟨rfl, hb22⟩))
            go_ret
            exact ⟨rfl, hw21.trans (hb22.mono hw21.size)⟩
          · obtain ⟨m, hm⟩ : ∃ m, xs.length = m + 1 := ⟨xs.length - 1, by omega⟩
            have hGm := hG.out m hm
            rcases Kx20.out with ⟨-, h⟩ | ⟨b', off', cap', e, -, hcs⟩
            · rw [h] at h0; exact absurd rfl h0
            · obtain ⟨rfl, rfl⟩ : Ax = some ⟨b', off', none⟩ ∧ cx = cap' := by cases e; exact ⟨rfl, rfl⟩
              have hc := hcs m (by omega)
              rw [← hGm] at hc
              have i0 : (0 : Int) < (xs.length : Int) := by omega
              have i1 : (xs.length : Int) - 1 = (m : Int) := by omega
              have i2 : (m : Int) < (xs.length : Int) := by omega
              have i3 : m < xs.length := by omega
              have i4 : (xs.length : Int) ≤ (a.length : Int) := by omega
              clear e hcs hG hG0 hGm h0
              have HM := Lib.hid hm; clear hm
              go_wp2_with (first
                | (go_at_call 17; refine HGr.out.mono ?_; rintro e w21 ⟨rfl, hb21⟩; have hw21 : Below w.heap.size w w21 := hw20.trans (hb21.mono hw20.size))
                | (go_at_call 13; refine (awake_any w21 (HTab.out w21 hw21)).mono ?_; rintro e w22 ⟨rfl, hb22⟩))
              go_ret
              exact ⟨rfl, hw21.trans (hb22.mono hw21.size)⟩
end Go.Proofs.YtjipmjimggggbaaDoor.litsVars
