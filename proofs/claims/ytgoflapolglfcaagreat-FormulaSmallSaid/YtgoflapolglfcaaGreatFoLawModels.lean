/- salvorlaw05.models: the models of a formula against those of the reference; salvorlaw05.few. -/
import Derived.Test.YtgoflapolglfcaaGreatFoTheirs
import Derived.Test.YtgoflapolglfcaaGreatFoRefNrm
import Derived.Test.YtgoflapolglfcaaGreatFoModelsMath
import Derived.Control
import Derived.Deep.RegionHeld3
import Derived.Test.YtgoflapolglfcaaGreatRoundRegion
namespace Go.Proofs.YtgoflapolglfcaaGreat
open Go.RowKit Go.ChangeAt Go.ChangeShapes Go.WideShapes Go.Shelf Go.Sort

attribute [local go_sem] Oper.semAt_some

/-! ### few -/
/-! ### models -/
theorem MdAt.more5 {n : Nat} {L : List (List Int)} {bf bv g cf B B' : Nat} {W : World} (h : MdAt n L bf bv g cf B W) (hB : B ≤ B') (hs : B' ≤ W.heap.size) : MdAt n L bf bv g cf B' W := by
  obtain ⟨h1, h2, h3, h4, h5, h6, h7⟩ := h
  exact ⟨h1, h2, h3, by omega, by omega, by omega, hs⟩
theorem eql_fn_nil5 (W : World) (env : Array Value) : (binOp .eql 57 (.func (.func 51) #[] env) .nilFunc).run Tryz.prog W = .ok (.bool false) W := by
  have run_eq : ∀ (d : Nat) (t : TypeId) {x y : Array TypeId} {b : Bool} (f : Fn) (ts env : Array Value), Tryz.prog.underlying t = some (.func x y b) → (Op.equalIn (d + 1) t (.func f ts env) .nilFunc).run Tryz.prog W = .ok false W := fun d t x y b f ts env h => by simp [Op.equalIn, run_underlying h]
  simp only [binOp]
  simp [Op.equal, Op.maxDepth, run_eq 9999 _ _ _ env Tryz.underlying57]
/-- Between two models: the result's cell, what is wanted, how many came. -/
structure MlI (n : Nat) (L : List (List Int)) (bf bv g cf B : Nat) (w : World) (r q c : Nat) (vW : Value) (s : Nat) (W : World) : Prop where
  md : MdAt n L bf bv g cf B W
  bl : Below w.heap.size w W
  wr : Whole W r 4 #[.bool false]
  wq : Whole W q 23 #[vW]
  wc : Whole W c 3 #[.int .i64 (s : Nat)]
  rows : RowsL q W vW (wantM n L)
theorem MlI.on {n : Nat} {L : List (List Int)} {bf bv g cf B : Nat} {w : World} {r q c : Nat} {vW : Value} {s : Nat} {W W' : World} (hB : B ≤ c) (hw : w.heap.size ≤ c) (hr : r < c) (hq : q < c) (h : MlI n L bf bv g cf B w r q c vW s W) (hb : Below (c + 1) W W') : MlI n L bf bv g cf B w r q c vW s W' :=
  ⟨h.md.below (hb.mono (by omega)), h.bl.trans (hb.mono (by omega)), h.wr.same (hb.block _ (by omega)), h.wq.same (hb.block _ (by omega)), h.wc.same (hb.block _ (by omega)), h.rows.below (hb.mono (by omega))⟩
theorem steady_ml {n : Nat} {L : List (List Int)} {bf bv g cf B B0 : Nat} {w : World} {r q c : Nat} {vW : Value} (hB0 : c < B0) (hB : B ≤ c) (hw : w.heap.size ≤ c) (hr : r < c) (hq : q < c) (s : Nat) : Steady B0 (MlI n L bf bv g cf B w r q c vW s) := fun W W' row h hg hr' =>
  h.on hB hw hr hq ((Below.refl _ _).grown hg h.wc.lt (fun k e => by have := (hr' k e).1; omega))
theorem MlI.next {n : Nat} {L : List (List Int)} {bf bv g cf B : Nat} {w : World} {r q c : Nat} {vW : Value} {s : Nat} {W : World} (hB : B ≤ c) (hw : w.heap.size ≤ c) (hr : r < c) (hq : q < c) (h : MlI n L bf bv g cf B w r q c vW s W) : MlI n L bf bv g cf B w r q c vW (s + 1) (W.setCell ⟨c, 0, none⟩ (.int .i64 ((s + 1 : Nat) : Int))) := by
  have hb : ∀ D, D ≤ c → Below D W (W.setCell ⟨c, 0, none⟩ (.int .i64 ((s + 1 : Nat) : Int))) := fun D hD => (Below.refl D W).setCell (p := ⟨c, 0, none⟩) hD _
  exact ⟨h.md.below (hb _ hB), h.bl.trans (hb _ hw), h.wr.same ((hb _ (Nat.le_refl _)).block _ hr), h.wq.same ((hb _ (Nat.le_refl _)).block _ hq), h.wc.store 0 _, h.rows.below (hb _ (by omega))⟩
/-- While a model that came is turned over. -/
def TvRel (n B : Nat) (v : Value) (w1 : World) (i : Value) (wr : World) : Prop := ∃ (j : Nat) (ys : List Bool), j ≤ n ∧ i = .int .i64 j ∧ wr.ownsRow B 4 1 v n (ys.map Value.bool) ∧ Below B w1 wr ∧ Odd w1 wr
theorem wantM_len {n : Nat} {L : List (List Int)} (hok : (chkI (n : Int) L).2 = 0) : (wantM n L).length = (modelsB n L).length := by rw [want_models hok, List.length_map]
theorem wantM_at {n : Nat} {L : List (List Int)} (hok : (chkI (n : Int) L).2 = 0) {s : Nat} {x : List Bool} (hx : (modelsB n L)[s]? = some x) : (wantM n L)[s]? = some (x.map b2i) := by rw [want_models hok, List.getElem?_map, hx]; rfl
theorem rows_cells5 {C : Nat} {W : World} {v : Value} {L : List (List Int)} {e : TypeId} {B : Nat} (h : OwnRows e B W v (cells5 L)) (hC : W.heap.size = C) : RowsL C W v L := by subst hC; exact OwnRows.rowsV h
set_option maxRecDepth 100000 in
set_option maxHeartbeats 2000000 in
theorem lawModels_any {C : Nat} {rv fv : Value} {L : List (List Int)} {x : List Bool} (n : Nat) (hn8 : n ≤ 8) (w : World) (hC : C ≤ w.heap.size) (hnl : L.length ≤ 262144) (hz : ∀ zs ∈ L, zs.length ≤ 1000000) (hok : (chkI (n : Int) L).2 = 0)
    (hr : RowsL C w rv L) (hx : Bools C w fv x) (hxm : x = (modelsB n L)[0]?.getD []) (K : Nat) (hK : (modelsB n L).length = K) (bf bv g cf B : Nat) (hB : B ≤ w.heap.size) (hmd : MdAt n L bf bv g cf B w) :
    Calls Tryz.prog 26 #[.agg #[.int .i64 (n : Nat), rv], .int .i64 (K : Nat), fv, .bool (decide (0 < K)), .func (.func 51) #[] #[.pointer (some ⟨bf, 0, none⟩), .pointer (some ⟨bv, 0, none⟩)]] w fun e w' => e = .returned (.bool true) ∧ Below w.heap.size w w' := by
  have hKl : K ≤ 256 := by rw [← hK]; exact Nat.le_trans (models_count n L) (Nat.pow_le_pow_right (by omega) hn8 : 2 ^ n ≤ 2 ^ 8)
  obtain ⟨A, cap, rfl, -⟩ := rowsL_shape hr
  obtain ⟨Af, capf, rfl, -⟩ := bools_shape hx
  obtain ⟨ob, hob⟩ : ∃ b, decide (0 < K) = b := ⟨_, rfl⟩
  obtain ⟨xl, hxe⟩ : ∃ m, x.length = m := ⟨_, rfl⟩
  rw [hob]
  rw [hxe] at hx ⊢
  have HOb := Lib.hid hob; have HXe := Lib.hid hxe
  clear hob hxe
  have hwl := wantM_len hok
  have hwa := fun s x h => wantM_at hok (s := s) (x := x) h
  have hb1 : Below w.heap.size w ((w.alloc (.cells #[.int .i64 (n : Nat), .slice A L.length cap] 40)).alloc (.cells #[.bool false] 4)) := (below1a w _).alloc (by simp) _
  have m1 := whole_alloc (Whole.made w 40 #[.int .i64 (n : Nat), .slice A L.length cap]) (.cells #[.bool false] 4)
  have m2 := Whole.made (w.alloc (.cells #[.int .i64 (n : Nat), .slice A L.length cap] 40)) 4 #[.bool false]
  rw [World.size_alloc] at m2
  obtain ⟨w1, hw1⟩ : ∃ y, (w.alloc (.cells #[.int .i64 (n : Nat), .slice A L.length cap] 40)).alloc (.cells #[.bool false] 4) = y := ⟨_, rfl⟩
  rw [hw1] at hb1 m1 m2
  have c0 : w1.cell? ⟨w.heap.size, 0, none⟩ = some (.int .i64 (n : Nat)) := m1.cell 0
  have c1 : w1.cell? ⟨w.heap.size, 1, none⟩ = some (.slice A L.length cap) := m1.cell 1
  have hmo := ref05_models n hn8 w1 (Nat.le_trans hC hb1.size) (by omega) (fun zs h => by have := hz zs h; omega) (rowsI_of (hr.below (hb1.mono hC)))
  have HMo := Lib.hid hmo; have HB1 := Lib.hid hb1; have HM2 := Lib.hid m2; have HW1 := Lib.hid hw1; have HX := Lib.hid hx; have HXm := Lib.hid hxm; have HK := Lib.hid hK; have HMd := Lib.hid hmd; have HWl := Lib.hid hwl; have HWa := Lib.hid hwa; have HBl := Lib.hid hB
  clear hmo hb1 m1 m2 hw1 hx hxm hK hmd hwl hwa hr hz hok hB
  refine (callsIn_wide (n := 5)).1 ?_
  refine callsIn_of_wp_marks Tryz.func26 rfl trivial ?_ rfl
  simp only [Tryz.ntmps26, List.size_toArray, List.length_cons, List.length_nil, Nat.reduceAdd, Nat.reduceSub, Array.replicate_succ, Array.replicate_zero, List.push_toArray, List.append_toArray, List.nil_append, List.cons_append]
  refine wpIn_wide.2 ?_
  go_wp2_with fail
  rw [HW1.out]
  go_wp2_with fail
  refine HMo.out.mono ?_
  rintro e w2 ⟨vW, rfl, hown, hb2⟩
  have hrw := rows_cells5 hown rfl
  obtain ⟨AW, cW, rfl, hat⟩ := rowsL_shape hrw
  rw [HWl.out, HK.out] at hrw ⊢
  have HRw := Lib.hid hrw; have HAtW := Lib.hid hat; have HB2 := Lib.hid (HB1.out.trans (hb2.mono HB1.out.size)); have HM22 := Lib.hid (HM2.out.same (hb2.block _ HM2.out.lt))
  clear hown hrw hat hb2 c0 c1 HMo HM2
  -- the box of what is wanted
  have hb3 := below1a w2 (.cells #[.slice AW K cW] 23)
  have m3 := Whole.made w2 23 #[.slice AW K cW]
  have m4 := HM22.out.same (hb3.block _ HM22.out.lt)
  go_upto_region 2 with fail
  obtain ⟨q, hq⟩ : ∃ q, w2.heap.size = q := ⟨_, rfl⟩
  obtain ⟨w3, hw3⟩ : ∃ y, w2.alloc (.cells #[.slice AW K cW] 23) = y := ⟨_, rfl⟩
  rw [hw3] at hb3 m3 m4 ⊢
  rw [hq] at m3 ⊢
  have d0 : w3.cell? ⟨q, 0, none⟩ = some (.slice AW K cW) := m3.cell 0
  have HM3 := Lib.hid m3; have HM4 := Lib.hid m4; have HB3 := Lib.hid (HB2.out.trans (hb3.mono HB2.out.size)); have HRw3 := Lib.hid ((HRw.out.below hb3).more hb3.size); have HQ := Lib.hid (show q < w3.heap.size from m3.lt)
  have HB23 := Lib.hid hb3
  have HQe := Lib.hid hq
  clear hb3 m3 m4 hq hw3
  go_cut [48] from 17 to 48 (fun s wx => s = .bool false ∧ ∃ W, W = wx ∧ Below w3.heap.size w3 W)
  case first =>
   by_cases hk0 : K = 0
   · subst hk0
     have hx0 : x = [] := by rw [HXm.out, List.eq_nil_of_length_eq_zero HK.out]; rfl
     subst hx0
     obtain rfl : xl = 0 := HXe.out.symm
     obtain rfl : ob = false := HOb.out.symm
     --A
     have HS := Lib.hid (show w3.drew.cell? ⟨q, 0, none⟩ = some (.slice AW 0 cW) from d0)
     refine wp_region_noPanic ?_
     refine wp_region_held_drew (S := fun W' => W'.cell? ⟨q, 0, none⟩ = some (.slice AW 0 cW)) (by kernel_rfl) HS.out (fun _ => ?_)
     refine wpAnyH_take (i := 0) (v := .int .i64 0) rfl (by kernel_rfl) (by kernel_rfl) (by kernel_rfl) (fun _ _ _ h => h) (Or.inl ⟨by kernel_rfl, fun w hS => by go_simp⟩) HS.out ?_
     refine wpAnyH_take (i := 1) (v := .slice AW 0 cW) rfl (by kernel_rfl) (by kernel_rfl) (by kernel_rfl) (fun _ _ _ h => h) (Or.inl ⟨by kernel_rfl, fun w hS => by go_simp⟩) HS.out ?_
     refine wpAnyH_take (i := 2) (v := .int .i64 0) rfl (by kernel_rfl) (by kernel_rfl) (by kernel_rfl) (fun _ _ _ h => h) (Or.inl ⟨by kernel_rfl, fun w hS => by go_simp⟩) HS.out ?_
     refine wpAnyH_take (i := 3) (v := .bool false) rfl (by kernel_rfl) (by kernel_rfl) (by kernel_rfl) (fun _ _ _ h => h) (Or.inl ⟨by kernel_rfl, fun w hS => by go_simp⟩) HS.out ?_
     refine wpAnyH_take (i := 4) (v := .bool false) rfl (by kernel_rfl) (by kernel_rfl) (by kernel_rfl) (fun _ _ _ h => h) (Or.inl ⟨by kernel_rfl, fun w hS => by go_simp⟩) HS.out ?_
     refine wpAnyH_take (i := 5) (v := .bool false) rfl (by kernel_rfl) (by kernel_rfl) (by kernel_rfl) (fun _ _ _ h => h) (Or.inl ⟨by kernel_rfl, fun w hS => by go_simp⟩) HS.out ?_
     refine wpAnyH_take (i := 6) (v := .slice AW 0 cW) rfl (by kernel_rfl) (by kernel_rfl) (by kernel_rfl) (fun _ _ _ h => h) (Or.inl ⟨by kernel_rfl, fun w hS => by go_simp⟩) HS.out ?_
     refine wpAnyH_take (i := 7) (v := .int .i64 0) rfl (by kernel_rfl) (by kernel_rfl) (by kernel_rfl) (fun _ _ _ h => h) (Or.inl ⟨by kernel_rfl, fun w hS => by go_simp⟩) HS.out ?_
     refine wpAnyH_take (i := 8) (v := .bool false) rfl (by kernel_rfl) (by kernel_rfl) (by kernel_rfl) (fun _ _ _ h => h) (Or.inl ⟨by kernel_rfl, fun w hS => by go_simp⟩) HS.out ?_
     refine wpAnyH_take (i := 9) (v := .bool false) rfl (by kernel_rfl) (by kernel_rfl) (by kernel_rfl) (fun _ _ _ h => h) (Or.inl ⟨by kernel_rfl, fun w hS => by go_simp⟩) HS.out ?_
     refine wpAnyH_take (i := 10) (v := .bool false) rfl (by kernel_rfl) (by kernel_rfl) (by kernel_rfl) (fun _ _ _ h => h) (Or.inl ⟨by kernel_rfl, fun w hS => by go_simp⟩) HS.out ?_
     refine wpAnyH_take (i := 11) (v := .bool false) rfl (by kernel_rfl) (by kernel_rfl) (by kernel_rfl) (fun _ _ _ h => h) (Or.inl ⟨by kernel_rfl, fun w hS => by go_simp⟩) HS.out ?_
     refine wpAnyH_take (i := 12) (v := .bool false) rfl (by kernel_rfl) (by kernel_rfl) (by kernel_rfl) (fun _ _ _ h => h) (Or.inl ⟨by kernel_rfl, fun w hS => by go_simp⟩) HS.out ?_
     refine wpAnyH_take (i := 13) (v := .bool false) rfl (by kernel_rfl) (by kernel_rfl) (by kernel_rfl) (fun _ _ _ h => h) (Or.inl ⟨by kernel_rfl, fun w hS => by go_simp⟩) HS.out ?_
     refine wpAnyH_take (i := 14) (v := undef) rfl (by kernel_rfl) (by kernel_rfl) (by kernel_rfl) (fun _ _ _ h => h) (Or.inr ⟨by kernel_rfl, rfl⟩) HS.out ?_
     refine wpAnyH_take (i := 15) (v := undef) rfl (by kernel_rfl) (by kernel_rfl) (by kernel_rfl) (fun _ _ _ h => h) (Or.inr ⟨by kernel_rfl, rfl⟩) HS.out ?_
     refine wpAnyH_take (i := 16) (v := undef) rfl (by kernel_rfl) (by kernel_rfl) (by kernel_rfl) (fun _ _ _ h => h) (Or.inr ⟨by kernel_rfl, rfl⟩) HS.out ?_
     refine wpAnyH_take (i := 17) (v := undef) rfl (by kernel_rfl) (by kernel_rfl) (by kernel_rfl) (fun _ _ _ h => h) (Or.inr ⟨by kernel_rfl, rfl⟩) HS.out ?_
     refine wpAnyH_take (i := 18) (v := undef) rfl (by kernel_rfl) (by kernel_rfl) (by kernel_rfl) (fun _ _ _ h => h) (Or.inr ⟨by kernel_rfl, rfl⟩) HS.out ?_
     refine wpAnyH_take (i := 19) (v := undef) rfl (by kernel_rfl) (by kernel_rfl) (by kernel_rfl) (fun _ _ _ h => h) (Or.inr ⟨by kernel_rfl, rfl⟩) HS.out ?_
     refine wpAnyH_take (i := 20) (v := undef) rfl (by kernel_rfl) (by kernel_rfl) (by kernel_rfl) (fun _ _ _ h => h) (Or.inr ⟨by kernel_rfl, rfl⟩) HS.out ?_
     refine wpAnyH_take (i := 21) (v := .bool false) rfl (by kernel_rfl) (by kernel_rfl) (by kernel_rfl) (fun _ _ _ h => h) (Or.inl ⟨by kernel_rfl, fun w hS => by go_simp⟩) HS.out ?_
     refine wpAnyH_take (i := 22) (v := .bool false) rfl (by kernel_rfl) (by kernel_rfl) (by kernel_rfl) (fun _ _ _ h => h) (Or.inl ⟨by kernel_rfl, fun w hS => by go_simp⟩) HS.out ?_
     refine wpAnyH_take (i := 23) (v := .bool false) rfl (by kernel_rfl) (by kernel_rfl) (by kernel_rfl) (fun _ _ _ h => h) (Or.inl ⟨by kernel_rfl, fun w hS => by go_simp⟩) HS.out ?_
     refine wpAnyH_take (i := 24) (v := .bool false) rfl (by kernel_rfl) (by kernel_rfl) (by kernel_rfl) (fun _ _ _ h => h) (Or.inl ⟨by kernel_rfl, fun w hS => by go_simp⟩) HS.out ?_
     refine wpAnyH_take (i := 25) (v := .bool true) rfl (by kernel_rfl) (by kernel_rfl) (by kernel_rfl) (fun _ _ _ h => h) (Or.inl ⟨by kernel_rfl, fun w hS => by go_simp⟩) HS.out ?_
     refine wpAnyH_take (i := 26) (v := .bool true) rfl (by kernel_rfl) (by kernel_rfl) (by kernel_rfl) (fun _ _ _ h => h) (Or.inl ⟨by kernel_rfl, fun w hS => by go_simp⟩) HS.out ?_
     refine wpAnyH_take (i := 27) (v := .slice Af 0 capf) rfl (by kernel_rfl) (by kernel_rfl) (by kernel_rfl) (fun _ _ _ h => h) (Or.inl ⟨by kernel_rfl, fun w hS => by go_simp⟩) HS.out ?_
     refine wpAnyH_take (i := 28) (v := .int .i64 0) rfl (by kernel_rfl) (by kernel_rfl) (by kernel_rfl) (fun _ _ _ h => h) (Or.inl ⟨by kernel_rfl, fun w hS => by go_simp⟩) HS.out ?_
     refine wpAnyH_take (i := 29) (v := .bool false) rfl (by kernel_rfl) (by kernel_rfl) (by kernel_rfl) (fun _ _ _ h => h) (Or.inl ⟨by kernel_rfl, fun w hS => by go_simp⟩) HS.out ?_
     refine wpAnyH_take (i := 30) (v := .bool false) rfl (by kernel_rfl) (by kernel_rfl) (by kernel_rfl) (fun _ _ _ h => h) (Or.inl ⟨by kernel_rfl, fun w hS => by go_simp⟩) HS.out ?_
     refine wpAnyH_take (i := 31) (v := .bool false) rfl (by kernel_rfl) (by kernel_rfl) (by kernel_rfl) (fun _ _ _ h => h) (Or.inl ⟨by kernel_rfl, fun w hS => by go_simp⟩) HS.out ?_
     refine wpAnyH_done (by kernel_rfl) ?_ _
     refine NoPanic.normal ?_
     go_simp
     --a
     go_wp2_with fail
     go_meet
     exact ⟨rfl, _, rfl, (Below.refl _ _).drew⟩
   · obtain rfl : ob = true := HOb.out.symm.trans (decide_eq_true (by omega))
     have hx1 : (modelsB n L)[0]? = some x := by
       rw [HXm.out, List.getElem?_eq_getElem (by rw [HK.out]; omega)]; rfl
     have hxl := models_len (List.mem_of_getElem? hx1)
     obtain rfl : n = xl := (HXe.out.symm.trans hxl).symm
     obtain ⟨bq, oq, As, cs, rfl, hbq, hcq, hIq⟩ := HAtW.out 0 _ (HWa.out 0 x hx1)
     have hcq := (HB23.out.cell (p := ⟨bq, oq, none⟩) hbq).trans hcq
     rw [List.length_map, hxl] at hcq hIq
     have hbits : ∀ W, Below w3.heap.size w3 W → Calls Tryz.prog 12 #[.slice Af n capf] W fun e W' => ∃ A1 c1, e = .returned (.slice A1 n c1) ∧ Ints W'.heap.size W' (.slice A1 n c1) (x.map b2i) ∧ W'.cell? ⟨q, 0, none⟩ = some (.slice (some ⟨bq, oq, none⟩) K cW) ∧ W'.cell? ⟨bq, oq, none⟩ = some (.slice As n cs) ∧ Below w3.heap.size w3 W' := fun W hb => by
       have h := bits_any (mv := .slice Af n capf) (bs := x) (by omega) W (Nat.le_refl _) (by
         have := HX.out
         exact (this.below ((HB3.out.trans (hb.mono HB3.out.size)).mono hC)).more (Nat.le_trans hC (Nat.le_trans HB3.out.size hb.size)))
       refine h.mono fun e W' ⟨v, he, ho, hb'⟩ => ?_
       obtain ⟨A1, c1, rfl⟩ := own_shape0 ho
       rw [List.length_map, hxl] at he ho
       have hbb := hb.trans (hb'.mono hb.size)
       refine ⟨A1, c1, he, ?_, (hbb.cell (p := ⟨q, 0, none⟩) HQ.out).trans d0, (hbb.cell (p := ⟨bq, oq, none⟩) (Nat.lt_of_lt_of_le hbq HB23.out.size)).trans hcq, hbb⟩
       have := (rowV_lits.1 (rowV_own ho)).ints
       exact this
     have hlm : (x.map b2i).length = n := by rw [List.length_map, hxl]
     have hequ : ∀ W A1 c1, Below w3.heap.size w3 W → Ints W.heap.size W (.slice A1 n c1) (x.map b2i) → W.cell? ⟨q, 0, none⟩ = some (.slice (some ⟨bq, oq, none⟩) K cW) → W.cell? ⟨bq, oq, none⟩ = some (.slice As n cs) → Calls Tryz.prog 22 #[.slice A1 n c1, .slice As n cs] W fun e W' => e = .returned (.bool true) ∧ W'.cell? ⟨q, 0, none⟩ = some (.slice (some ⟨bq, oq, none⟩) K cW) ∧ W'.cell? ⟨bq, oq, none⟩ = some (.slice As n cs) ∧ Below w3.heap.size w3 W' := fun W A1 c1 hb h1 hq1 hq2 => by
       have h2 : Ints W.heap.size W (.slice As n cs) (x.map b2i) := ((hIq.ints.below HB23.out).below (hb.mono HB23.out.size)).more (Nat.le_trans HB23.out.size hb.size)
       have := equal_int W (by omega) (by omega) h1 h2
       rw [beq_self_eq_true] at this
       refine this.mono fun e W' ⟨he, k, hw⟩ => ?_
       subst hw
       exact ⟨he, hq1, hq2, hb.trans (below_dN _ _ |>.mono hb.size)⟩
     have HBi := Lib.hid hbits; have HEq := Lib.hid hequ; have HXl := Lib.hid hxl
     have hkk : (0 : Int) < (K : Int) := by omega
     have hkn : 0 < K := by omega
     clear hbits hequ hIq hbq hx1 hlm
     --B
     have HS := Lib.hid (show w3.drew.cell? ⟨q, 0, none⟩ = some (.slice (some ⟨bq, oq, none⟩) K cW) ∧ w3.drew.cell? ⟨bq, oq, none⟩ = some (.slice As n cs) from ⟨d0, hcq⟩)
     refine wp_region_noPanic ?_
     refine wp_region_held_drew (S := fun W' => W'.cell? ⟨q, 0, none⟩ = some (.slice (some ⟨bq, oq, none⟩) K cW) ∧ W'.cell? ⟨bq, oq, none⟩ = some (.slice As n cs)) (by kernel_rfl) HS.out (fun _ => ?_)
     refine wpAnyH_take (i := 0) (v := .int .i64 (K : Nat)) rfl (by kernel_rfl) (by kernel_rfl) (by kernel_rfl) (fun _ _ _ h => h) (Or.inl ⟨by kernel_rfl, fun w hS => by go_simp⟩) HS.out ?_
     refine wpAnyH_take (i := 1) (v := .slice (some ⟨bq, oq, none⟩) K cW) rfl (by kernel_rfl) (by kernel_rfl) (by kernel_rfl) (fun _ _ _ h => h) (Or.inl ⟨by kernel_rfl, fun w hS => by go_simp⟩) HS.out ?_
     refine wpAnyH_take (i := 2) (v := .int .i64 (K : Nat)) rfl (by kernel_rfl) (by kernel_rfl) (by kernel_rfl) (fun _ _ _ h => h) (Or.inl ⟨by kernel_rfl, fun w hS => by go_simp⟩) HS.out ?_
     refine wpAnyH_take (i := 3) (v := .bool false) rfl (by kernel_rfl) (by kernel_rfl) (by kernel_rfl) (fun _ _ _ h => h) (Or.inl ⟨by kernel_rfl, fun w hS => by go_simp⟩) HS.out ?_
     refine wpAnyH_take (i := 4) (v := .bool false) rfl (by kernel_rfl) (by kernel_rfl) (by kernel_rfl) (fun _ _ _ h => h) (Or.inl ⟨by kernel_rfl, fun w hS => by go_simp⟩) HS.out ?_
     refine wpAnyH_take (i := 5) (v := .bool true) rfl (by kernel_rfl) (by kernel_rfl) (by kernel_rfl) (fun _ _ _ h => h) (Or.inl ⟨by kernel_rfl, fun w hS => by go_simp⟩) HS.out ?_
     refine wpAnyH_take (i := 6) (v := .slice (some ⟨bq, oq, none⟩) K cW) rfl (by kernel_rfl) (by kernel_rfl) (by kernel_rfl) (fun _ _ _ h => h) (Or.inl ⟨by kernel_rfl, fun w hS => by go_simp⟩) HS.out ?_
     refine wpAnyH_take (i := 7) (v := .int .i64 (K : Nat)) rfl (by kernel_rfl) (by kernel_rfl) (by kernel_rfl) (fun _ _ _ h => h) (Or.inl ⟨by kernel_rfl, fun w hS => by go_simp⟩) HS.out ?_
     refine wpAnyH_take (i := 8) (v := .bool true) rfl (by kernel_rfl) (by kernel_rfl) (by kernel_rfl) (fun _ _ _ h => h) (Or.inl ⟨by kernel_rfl, fun w hS => by go_simp⟩) HS.out ?_
     refine wpAnyH_take (i := 9) (v := .bool false) rfl (by kernel_rfl) (by kernel_rfl) (by kernel_rfl) (fun _ _ _ h => h) (Or.inl ⟨by kernel_rfl, fun w hS => by go_simp⟩) HS.out ?_
     refine wpAnyH_take (i := 10) (v := .bool false) rfl (by kernel_rfl) (by kernel_rfl) (by kernel_rfl) (fun _ _ _ h => h) (Or.inl ⟨by kernel_rfl, fun w hS => by go_simp⟩) HS.out ?_
     refine wpAnyH_take (i := 11) (v := .bool false) rfl (by kernel_rfl) (by kernel_rfl) (by kernel_rfl) (fun _ _ _ h => h) (Or.inl ⟨by kernel_rfl, fun w hS => by go_simp⟩) HS.out ?_
     refine wpAnyH_take (i := 12) (v := .bool true) rfl (by kernel_rfl) (by kernel_rfl) (by kernel_rfl) (fun _ _ _ h => h) (Or.inl ⟨by kernel_rfl, fun w hS => by go_simp⟩) HS.out ?_
     refine wpAnyH_take (i := 13) (v := .bool true) rfl (by kernel_rfl) (by kernel_rfl) (by kernel_rfl) (fun _ _ _ h => h) (Or.inl ⟨by kernel_rfl, fun w hS => by go_simp⟩) HS.out ?_
     refine wpAnyH_take (i := 14) (v := .slice Af n capf) rfl (by kernel_rfl) (by kernel_rfl) (by kernel_rfl) (fun _ _ _ h => h) (Or.inl ⟨by kernel_rfl, fun w hS => by go_simp⟩) HS.out ?_
     refine wpAnyH_take (i := 16) (v := .slice (some ⟨bq, oq, none⟩) K cW) rfl (by kernel_rfl) (by kernel_rfl) (by kernel_rfl) (fun _ _ _ h => h) (Or.inl ⟨by kernel_rfl, fun w hS => by go_simp⟩) HS.out ?_
     refine wpAnyH_take (i := 17) (v := .pointer (some ⟨bq, oq, none⟩)) rfl (by kernel_rfl) (by kernel_rfl) (by kernel_rfl) (fun _ _ _ h => h) (Or.inl ⟨by kernel_rfl, fun w hS => by go_simp⟩) HS.out ?_
     refine wpAnyH_take (i := 18) (v := .slice As n cs) rfl (by kernel_rfl) (by kernel_rfl) (by kernel_rfl) (fun _ _ _ h => h) (Or.inl ⟨by kernel_rfl, fun w hS => by go_simp⟩) HS.out ?_
     refine wpAnyH_ready (rs := [15]) (by kernel_rfl) (by simp) (AllReadyH.cons rfl (fun K hK => ?_) AllReadyH.nil)
     go_simp
     refine (HBi.out _ (Below.refl _ _).drew).mono ?_
     rintro r v1 ⟨A1, c1, rfl, hi5, hq5, hq6, hb5⟩
     have HS1 := Lib.hid (And.intro hq5 hq6)
     have HI5 := Lib.hid hi5; have HB5 := Lib.hid hb5
     clear hi5 hb5 hq5 hq6
     go_simp
     refine hK.out _ _ HS1.out (fun _ => ?_)
     clear hK K
     refine wpAnyH_ready (rs := [19]) (by kernel_rfl) (by simp) (AllReadyH.cons rfl (fun K hK => ?_) AllReadyH.nil)
     go_simp
     refine (HEq.out _ _ _ HB5.out HI5.out HS1.out.1 HS1.out.2).mono ?_
     rintro r v2 ⟨rfl, hq7, hq8, hb6⟩
     have HS2 := Lib.hid (And.intro hq7 hq8)
     have HB6 := Lib.hid hb6
     clear hb6 hq7 hq8
     go_simp
     refine hK.out _ _ HS2.out (fun _ => ?_)
     clear hK K
     refine wpAnyH_take (i := 20) (v := .bool false) rfl (by kernel_rfl) (by kernel_rfl) (by kernel_rfl) (fun _ _ _ h => h) (Or.inl ⟨by kernel_rfl, fun w hS => by go_simp⟩) HS2.out ?_
     refine wpAnyH_take (i := 21) (v := .bool false) rfl (by kernel_rfl) (by kernel_rfl) (by kernel_rfl) (fun _ _ _ h => h) (Or.inl ⟨by kernel_rfl, fun w hS => by go_simp⟩) HS2.out ?_
     refine wpAnyH_take (i := 22) (v := .bool false) rfl (by kernel_rfl) (by kernel_rfl) (by kernel_rfl) (fun _ _ _ h => h) (Or.inl ⟨by kernel_rfl, fun w hS => by go_simp⟩) HS2.out ?_
     refine wpAnyH_take (i := 23) (v := .bool false) rfl (by kernel_rfl) (by kernel_rfl) (by kernel_rfl) (fun _ _ _ h => h) (Or.inl ⟨by kernel_rfl, fun w hS => by go_simp⟩) HS2.out ?_
     refine wpAnyH_take (i := 24) (v := .bool true) rfl (by kernel_rfl) (by kernel_rfl) (by kernel_rfl) (fun _ _ _ h => h) (Or.inl ⟨by kernel_rfl, fun w hS => by go_simp⟩) HS2.out ?_
     refine wpAnyH_take (i := 25) (v := .bool false) rfl (by kernel_rfl) (by kernel_rfl) (by kernel_rfl) (fun _ _ _ h => h) (Or.inl ⟨by kernel_rfl, fun w hS => by go_simp⟩) HS2.out ?_
     refine wpAnyH_take (i := 26) (v := .bool false) rfl (by kernel_rfl) (by kernel_rfl) (by kernel_rfl) (fun _ _ _ h => h) (Or.inl ⟨by kernel_rfl, fun w hS => by go_simp⟩) HS2.out ?_
     refine wpAnyH_take (i := 27) (v := undef) rfl (by kernel_rfl) (by kernel_rfl) (by kernel_rfl) (fun _ _ _ h => h) (Or.inr ⟨by kernel_rfl, rfl⟩) HS2.out ?_
     refine wpAnyH_take (i := 28) (v := undef) rfl (by kernel_rfl) (by kernel_rfl) (by kernel_rfl) (fun _ _ _ h => h) (Or.inr ⟨by kernel_rfl, rfl⟩) HS2.out ?_
     refine wpAnyH_take (i := 29) (v := undef) rfl (by kernel_rfl) (by kernel_rfl) (by kernel_rfl) (fun _ _ _ h => h) (Or.inr ⟨by kernel_rfl, rfl⟩) HS2.out ?_
     refine wpAnyH_take (i := 30) (v := .bool false) rfl (by kernel_rfl) (by kernel_rfl) (by kernel_rfl) (fun _ _ _ h => h) (Or.inl ⟨by kernel_rfl, fun w hS => by go_simp⟩) HS2.out ?_
     refine wpAnyH_take (i := 31) (v := .bool false) rfl (by kernel_rfl) (by kernel_rfl) (by kernel_rfl) (fun _ _ _ h => h) (Or.inl ⟨by kernel_rfl, fun w hS => by go_simp⟩) HS2.out ?_
     refine wpAnyH_done (by kernel_rfl) ?_ _
     refine NoPanic.normal ?_
     go_simp
     --b
     go_wp2_with fail
     go_meet
     exact ⟨rfl, _, rfl, HB6.out⟩
  case rest =>
    obtain ⟨rfl, wx, rfl, hb4⟩ := hcut
    have m4 := HM4.out.same (hb4.block _ HM4.out.lt)
    have q4 := HM3.out.same (hb4.block _ HM3.out.lt)
    go_wp2_with fail
    have hb5 := below1a wx (.cells #[.int .i64 0] 3)
    have mc := Whole.made wx 3 #[.int .i64 0]
    have h0 : MlI n L bf bv g cf B w (w.heap.size + 1) q wx.heap.size (.slice AW K cW) 0 (wx.alloc (.cells #[.int .i64 0] 3)) :=
      ⟨(HMd.out.below ((HB3.out.mono HBl.out).trans ((hb4.mono (Nat.le_trans HBl.out HB3.out.size)).trans (hb5.mono (Nat.le_trans HBl.out (Nat.le_trans HB3.out.size hb4.size)))))), below_cat (below_cat HB3.out hb4) hb5, m4.same (hb5.block _ m4.lt), q4.same (hb5.block _ q4.lt), mc, (by have h := ((HRw.out.below HB23.out).below (hb4.mono HB23.out.size)).below (hb5.mono (Nat.le_trans HB23.out.size hb4.size)); rw [HQe.out] at h; exact h)⟩
    have hlr := m4.lt
    have hlq := q4.lt
    have hwx : w.heap.size ≤ wx.heap.size := Nat.le_trans HB3.out.size hb4.size
    obtain ⟨c, hc⟩ : ∃ c, wx.heap.size = c := ⟨_, rfl⟩
    have hsz : (wx.alloc (.cells #[.int .i64 0] 3)).heap.size = c + 1 := by rw [← hc]; simp
    obtain ⟨w6, hw6⟩ : ∃ y, wx.alloc (.cells #[.int .i64 0] 3) = y := ⟨_, rfl⟩
    rw [hw6] at h0 hsz ⊢
    rw [hc] at h0 hlr hlq hwx ⊢
    have HB' : Hid (B ≤ c) := Lib.hid (Nat.le_trans HBl.out hwx)
    have H0 := Lib.hid h0; have HSz := Lib.hid hsz
    clear h0 hsz mc m4 q4 hb5 hw6 hc HRw HB23 HM22 HM3 HM4 HB2 HB1 HW1 HRw3 HQ d0 hb4
    refine wpIn_wide.1 (range_models (n' := 5) (by decide) n (by omega) L bf bv g cf (c + 1) rfl rfl (MlI n L bf bv g cf B w (w.heap.size + 1) q c (.slice AW K cW)) (fun _ _ => False) (steady_ml (by rw [HSz.out]; omega) HB'.out hwx hlr hlq) (fun _ => steady_true False) H0.out
      (fun s W h => h.md.more5 (Nat.le_succ_of_le HB'.out) h.wc.lt) ?a1 ?assign ?body ?done ?stop)
    case assign =>
      intro l v W K hK
      gi_wp2_with fail
      exact hK
    case body =>
      rintro l s x' v W hI hx hrow
      have hsl := (List.getElem?_eq_some_iff.1 hx).1
      rw [HK.out] at hsl
      have hxl := models_len (List.mem_of_getElem? hx)
      obtain ⟨Av, cv, rfl⟩ := own_shape0 hrow
      obtain ⟨_, _, esh, hatw⟩ := rowsL_shape hI.rows
      rw [HWl.out, HK.out] at esh
      cases esh
      obtain ⟨b, off, As, cs, rfl, hbq, hcq, hIq⟩ := hatw s _ (HWa.out s x' hx)
      rw [List.length_map, hxl] at hcq hIq
      have hcc := hI.wc.lt
      have hlc : W.cell? ⟨c, 0, none⟩ = some (.int .i64 (s : Nat)) := hI.wc.cell 0
      have hlq2 : W.cell? ⟨q, 0, none⟩ = some (.slice (some ⟨b, off, none⟩) K cW) := hI.wq.cell 0
      have hlm : (x'.map b2i).length = n := by rw [List.length_map, hxl]
      have hS : ∀ W', Below W.heap.size W W' → (fun W' : World => W'.cell? ⟨c, 0, none⟩ = some (.int .i64 (s : Nat)) ∧ W'.cell? ⟨q, 0, none⟩ = some (.slice (some ⟨b, off, none⟩) K cW) ∧ W'.cell? ⟨b, off + s, none⟩ = some (.slice As n cs)) W' := fun W' hb => ⟨(hb.cell (p := ⟨c, 0, none⟩) hcc).trans hlc, (hb.cell (p := ⟨q, 0, none⟩) hI.wq.lt).trans hlq2, (hb.cell (p := ⟨b, off + s, none⟩) (Nat.lt_of_lt_of_le hbq (Nat.le_of_lt hI.wq.lt))).trans hcq⟩
      have hbits : ∀ W', Below W.heap.size W W' → Calls Tryz.prog 12 #[.slice Av n cv] W' fun e W'' => ∃ A1 c1, e = .returned (.slice A1 n c1) ∧ Ints W''.heap.size W'' (.slice A1 n c1) (x'.map b2i) ∧ (fun W' : World => W'.cell? ⟨c, 0, none⟩ = some (.int .i64 (s : Nat)) ∧ W'.cell? ⟨q, 0, none⟩ = some (.slice (some ⟨b, off, none⟩) K cW) ∧ W'.cell? ⟨b, off + s, none⟩ = some (.slice As n cs)) W'' ∧ Below W.heap.size W W'' := fun W' hb => by
        have h := bits_any (mv := .slice Av n cv) (bs := x') (by omega) W' (Nat.le_refl _) (((rowV_own hrow).below hb).more hb.size)
        refine h.mono fun e W'' ⟨v, he, ho, hb'⟩ => ?_
        obtain ⟨A1, c1, rfl⟩ := own_shape0 ho
        rw [List.length_map, hxl] at he ho
        exact ⟨A1, c1, he, (rowV_lits.1 (rowV_own ho)).ints, hS _ (hb.trans (hb'.mono hb.size)), hb.trans (hb'.mono hb.size)⟩
      have hequ : ∀ W' A1 c1, Below W.heap.size W W' → Ints W'.heap.size W' (.slice A1 n c1) (x'.map b2i) → (fun W' : World => W'.cell? ⟨c, 0, none⟩ = some (.int .i64 (s : Nat)) ∧ W'.cell? ⟨q, 0, none⟩ = some (.slice (some ⟨b, off, none⟩) K cW) ∧ W'.cell? ⟨b, off + s, none⟩ = some (.slice As n cs)) W' → Calls Tryz.prog 22 #[.slice A1 n c1, .slice As n cs] W' fun e W'' => e = .returned (.bool true) ∧ (fun W' : World => W'.cell? ⟨c, 0, none⟩ = some (.int .i64 (s : Nat)) ∧ W'.cell? ⟨q, 0, none⟩ = some (.slice (some ⟨b, off, none⟩) K cW) ∧ W'.cell? ⟨b, off + s, none⟩ = some (.slice As n cs)) W'' ∧ Below W.heap.size W W'' := fun W' A1 c1 hb h1 hs => by
        have h2 : Ints W'.heap.size W' (.slice As n cs) (x'.map b2i) := (hIq.ints.below (hb.mono (Nat.le_of_lt hI.wq.lt))).more (Nat.le_trans (Nat.le_of_lt hI.wq.lt) hb.size)
        have := equal_int W' (by omega) (by omega) h1 h2
        rw [beq_self_eq_true] at this
        refine this.mono fun e W'' ⟨he, k, hw⟩ => ?_
        subst hw
        exact ⟨he, hs, hb.trans (below_dN _ _ |>.mono hb.size)⟩
      have HBi := Lib.hid hbits; have HEq := Lib.hid hequ; have HI := Lib.hid hI; have HRo := Lib.hid hrow; have HS := Lib.hid (hS W.drew (Below.refl _ _).drew); have HXl := Lib.hid hxl
      have hg1 : decide ((s : Int) ≥ (K : Int)) = false := decide_eq_false (by omega)
      have hg2 : decide (K ≤ s) = false := decide_eq_false (by omega)
      have hg3 : ¬ K ≤ s := by omega
      have hg4 : (s : Int) < (K : Int) := by omega
      have hg5 : (0 : Int) ≤ (s : Int) := by omega
      have hg6 : (s : Int) ≤ 256 := by omega
      clear hbits hequ hI hrow hS hatw hIq hbq hcq hx hlm hcc hlc hlq2 hxl
      gi_wp2_with fail
      refine wpIn_round_held (fun W' : World => W'.cell? ⟨c, 0, none⟩ = some (.int .i64 (s : Nat)) ∧ W'.cell? ⟨q, 0, none⟩ = some (.slice (some ⟨b, off, none⟩) K cW) ∧ W'.cell? ⟨b, off + s, none⟩ = some (.slice As n cs)) (by kernel_rfl) (by kernel_rfl) (by rintro ⟨a, w, h⟩; exact h) ?_
      refine wpAnyH_take (i := 0) (v := .int .i64 (s : Nat)) rfl (by kernel_rfl) (by kernel_rfl) (by kernel_rfl) (fun _ _ _ h => h) (Or.inl ⟨by kernel_rfl, fun w hS => by go_simp⟩) HS.out ?_
      refine wpAnyH_take (i := 1) (v := .slice (some ⟨b, off, none⟩) K cW) rfl (by kernel_rfl) (by kernel_rfl) (by kernel_rfl) (fun _ _ _ h => h) (Or.inl ⟨by kernel_rfl, fun w hS => by go_simp⟩) HS.out ?_
      refine wpAnyH_take (i := 2) (v := .int .i64 (K : Nat)) rfl (by kernel_rfl) (by kernel_rfl) (by kernel_rfl) (fun _ _ _ h => h) (Or.inl ⟨by kernel_rfl, fun w hS => by go_simp⟩) HS.out ?_
      refine wpAnyH_take (i := 3) (v := .bool false) rfl (by kernel_rfl) (by kernel_rfl) (by kernel_rfl) (fun _ _ _ h => h) (Or.inl ⟨by kernel_rfl, fun w hS => by go_simp⟩) HS.out ?_
      refine wpAnyH_take (i := 4) (v := .bool false) rfl (by kernel_rfl) (by kernel_rfl) (by kernel_rfl) (fun _ _ _ h => h) (Or.inl ⟨by kernel_rfl, fun w hS => by go_simp⟩) HS.out ?_
      refine wpAnyH_take (i := 5) (v := .slice Av n cv) rfl (by kernel_rfl) (by kernel_rfl) (by kernel_rfl) (fun _ _ _ h => h) (Or.inl ⟨by kernel_rfl, fun w hS => by go_simp⟩) HS.out ?_
      refine wpAnyH_take (i := 7) (v := .slice (some ⟨b, off, none⟩) K cW) rfl (by kernel_rfl) (by kernel_rfl) (by kernel_rfl) (fun _ _ _ h => h) (Or.inl ⟨by kernel_rfl, fun w hS => by go_simp⟩) HS.out ?_
      refine wpAnyH_take (i := 8) (v := .int .i64 (s : Nat)) rfl (by kernel_rfl) (by kernel_rfl) (by kernel_rfl) (fun _ _ _ h => h) (Or.inl ⟨by kernel_rfl, fun w hS => by go_simp⟩) HS.out ?_
      refine wpAnyH_take (i := 9) (v := .pointer (some ⟨b, off + s, none⟩)) rfl (by kernel_rfl) (by kernel_rfl) (by kernel_rfl) (fun _ _ _ h => h) (Or.inl ⟨by kernel_rfl, fun w hS => by go_simp⟩) HS.out ?_
      refine wpAnyH_take (i := 10) (v := .slice As n cs) rfl (by kernel_rfl) (by kernel_rfl) (by kernel_rfl) (fun _ _ _ h => h) (Or.inl ⟨by kernel_rfl, fun w hS => by go_simp⟩) HS.out ?_
      refine wpAnyH_ready (rs := [6]) (by kernel_rfl) (by simp) (AllReadyH.cons rfl (fun K hK => ?_) AllReadyH.nil)
      go_simp
      refine (HBi.out _ (Below.refl _ _).drew).mono ?_
      rintro r v1 ⟨A1, c1, rfl, hi5, hS5, hb5⟩
      have HS1 := Lib.hid (hS5)
      have HI5 := Lib.hid hi5; have HB5 := Lib.hid hb5
      clear hi5 hb5 hS5
      go_simp
      refine hK.out _ _ HS1.out (fun _ => ?_)
      clear hK K
      refine wpAnyH_ready (rs := [11]) (by kernel_rfl) (by simp) (AllReadyH.cons rfl (fun K hK => ?_) AllReadyH.nil)
      go_simp
      refine (HEq.out _ _ _ HB5.out HI5.out HS1.out).mono ?_
      rintro r v2 ⟨rfl, hS6, hb6⟩
      have HS2 := Lib.hid (hS6)
      have HB6 := Lib.hid hb6
      clear hb6 hS6
      go_simp
      refine hK.out _ _ HS2.out (fun _ => ?_)
      clear hK K
      refine wpAnyH_take (i := 12) (v := .bool false) rfl (by kernel_rfl) (by kernel_rfl) (by kernel_rfl) (fun _ _ _ h => h) (Or.inl ⟨by kernel_rfl, fun w hS => by go_simp⟩) HS2.out ?_
      refine wpAnyH_take (i := 13) (v := .bool false) rfl (by kernel_rfl) (by kernel_rfl) (by kernel_rfl) (fun _ _ _ h => h) (Or.inl ⟨by kernel_rfl, fun w hS => by go_simp⟩) HS2.out ?_
      refine wpAnyH_done (by kernel_rfl) ?_ _
      go_simp
      have hcw : c + 1 ≤ W.heap.size := HI.out.wc.lt
      have hi7 := HI.out.on HB'.out hwx hlr hlq (HB6.out.mono hcw)
      have hst : TvRel n (c + 1) (.slice Av n cv) v2 (.int .i64 0) v2 := ⟨0, x', Nat.zero_le _, rfl, owns_on5 HRo.out HB6.out, Below.refl _ _, Odd.refl _⟩
      have HI7 := Lib.hid hi7; have HSt := Lib.hid hst; have HOd := Lib.hid (Odd.of_below HB6.out)
      have hn0 : (0 : Int) ≤ (n : Int) := by omega
      clear hi7 hst HBi HEq HS HS1 HS2 HI5 HB5 HI HB6 HRo hcw H0
      gi_wp2_with fail
      gi_loopw [67] (fun i wr => TvRel n (c + 1) (.slice Av n cv) v2 i wr) (fun i _ => n - (intOf i).toNat)
      case atStart => exact HSt.out
      case round =>
        clear HSt
        obtain ⟨j, ys, hj, rfl, hro, hbe, hod⟩ := hrel
        by_cases hlt : j < n
        · rcases hro.2 with ⟨-, h0⟩ | ⟨gm, cap', cur, e, -, hg, hgn, -, -, -⟩
          · omega
          · injection e with e1 e2 e3
            subst e1 e3
            clear e2
            have hyl : ys.length = n := by simpa using hro.1
            have c0 : wr.cell? ⟨gm, j, none⟩ = some (.bool (ys[j]?.getD false)) := by
              rw [hro.cellAt j (by omega), List.getElem?_map, List.getElem?_eq_getElem (by omega)]; rfl
            have f0 : wr.frozen? ⟨gm, j, none⟩ = false := hro.frozenAt j
            have hji : (j : Int) < (n : Int) := by omega
            have hj0 : (0 : Int) ≤ (j : Int) := by omega
            obtain ⟨y, hy⟩ : ∃ y, ys[j]?.getD false = y := ⟨_, rfl⟩
            rw [hy] at c0
            have hst := (hro.stored j (.bool !y)).1
            rw [← List.map_set] at hst
            have hgw := (hro.lt gm rfl).1
            have hnew : TvRel n (c + 1) (.slice (some ⟨gm, 0, none⟩) n cv) v2 (.int .i64 ((j + 1 : Nat) : Int)) (wr.setCell ⟨gm, j, none⟩ (.bool !y)) := ⟨j + 1, ys.set j (!y), by omega, rfl, hst, hbe.setCell (p := ⟨gm, j, none⟩) hgw _, hod.trans (Odd.set (show Whole wr gm 4 cur from hg) j _)⟩
            have HNew := Lib.hid hnew
            clear hro hbe hod hst hnew hg hy hgn hyl hgw
            gi_wp2_with fail
            go_roundw
            case rel => exact HNew.out
            case measure => simp only [intOf]; omega
        · obtain rfl : j = n := by omega
          have hi8 := HI7.out.on HB'.out hwx hlr hlq hbe
          have k0 : wr.cell? ⟨c, 0, none⟩ = some (.int .i64 (s : Nat)) := hi8.wc.cell 0
          have k1 := hi8.wc.frozen 0
          have hnx := hi8.next HB'.out hwx hlr hlq
          have hox := (HOd.out.trans hod).trans (Odd.set hi8.wc 0 (.int .i64 ((s + 1 : Nat) : Int)))
          have HNx := Lib.hid hnx; have HOx := Lib.hid hox
          clear hro hbe hod hi8 hnx hox HI7 HOd
          gi_wp2_with fail
          exact ⟨HOx.out, s + 1, rfl, HNx.out⟩
    case done =>
      rintro D W hD hI hd
      rw [HK.out] at hI
      obtain ⟨_, _, esh, -⟩ := rowsL_shape hI.rows
      have c0 : W.cell? ⟨c, 0, none⟩ = some (.int .i64 (K : Nat)) := hI.wc.cell 0
      have c1 : W.cell? ⟨q, 0, none⟩ = some (.slice AW K cW) := hI.wq.cell 0
      have c2 : W.cell? ⟨w.heap.size + 1, 0, none⟩ = some (.bool false) := hI.wr.cell 0
      have f2 := hI.wr.frozen 0
      have hrr : (W.setCell ⟨w.heap.size + 1, 0, none⟩ (.bool true)).cell? ⟨w.heap.size + 1, 0, none⟩ = some (.bool true) := (hI.wr.store 0 _).cell 0
      have hd3 := (Odd.set hI.wr 0 (.bool true)).same D _ hd rfl
      have hbw : Below w.heap.size w (W.setCell ⟨w.heap.size + 1, 0, none⟩ (.bool true)) := hI.bl.setCell (p := ⟨w.heap.size + 1, 0, none⟩) (Nat.le_succ _) _
      have HRr := Lib.hid hrr; have HD3 := Lib.hid hd3; have HBw := Lib.hid hbw; have HDl := Lib.hid (show c + 1 ≤ D by rw [← HSz.out]; exact hD)
      clear hI hd hrr hd3 hbw esh H0
      go_wp2_with fail
      refine ⟨by simp, .inl ⟨_, _, rfl, run_takeDeferred HD3.out, ?_⟩⟩
      obtain ⟨wy, hwy⟩ : ∃ X, W.setCell ⟨w.heap.size + 1, 0, none⟩ (.bool true) = X := ⟨_, rfl⟩
      rw [hwy] at HRr HBw ⊢
      have hc5 : (wy.putObj D (.deferred none)).cell? ⟨w.heap.size + 1, 0, none⟩ = some (.bool true) := (World.cell?_of_block (World.putObj_heap_other (k := w.heap.size + 1) (by have := HDl.out; omega))).trans HRr.out
      have hb5 := HBw.out.grown (grownBy_putObj' _ D (.deferred none)) HBw.out.size (fun k e => by cases e; have := HDl.out; omega)
      refine ⟨.bool true, ?_, rfl, hb5⟩
      simp [results, Tryz.f26, go_sem, hc5]
    case stop => rintro D c W hD h; exact h.elim
end Go.Proofs.YtgoflapolglfcaaGreat
