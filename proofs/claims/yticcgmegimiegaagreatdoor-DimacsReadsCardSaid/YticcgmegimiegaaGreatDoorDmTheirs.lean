/- slices.Equal of two lists of numbers. -/
/- salvorlaw05.Theirs, Equal, as stage 6 has them. -/
import Derived.Test.YticcgmegimiegaaGreatDoorEqual
import Derived.Test.YticcgmegimiegaaGreatDoorDmForm
import Derived.Test.YticcgmegimiegaaGreatDoorMade02
namespace Go.Proofs.YticcgmegimiegaaGreatDoor
open Go.RowKit Go.ChangeAt Go.ChangeShapes Go.WideShapes

set_option maxHeartbeats 400000 in
theorem equal_int_lens (a1 a2 : Option Addr) (n c m d : Nat) (w : World) (h : n ≠ m) : Calls Tryz.prog 76 #[.slice a1 n c, .slice a2 m d] w fun e w' => e = .returned (.bool false) ∧ w' = w := by
  have hq : ((n : Int) == (m : Int)) = false := by rw [beq_eq_false_iff_ne]; omega
  have hq2 : (n == m) = false := by rw [beq_eq_false_iff_ne]; exact h
  go_enter Tryz.func76, Tryz.ntmps76
  go_wp2
  go_ret
  exact ⟨rfl, rfl⟩
theorem equal_int {B : Nat} {v1 v2 : Value} {xs ys : List Int} (w : World) (hx : xs.length ≤ 9223372036854775807) (hy : ys.length ≤ 9223372036854775807) (h1 : Ints B w v1 xs) (h2 : Ints B w v2 ys) :
    Calls Tryz.prog 76 #[v1, v2] w fun e w' => e = .returned (.bool (xs == ys)) ∧ ∃ q, w' = w.drewN q := by
  by_cases hl : xs.length = ys.length
  · rcases h1 with ⟨A, c, rfl, -, rfl⟩ | ⟨b, off, cap, rfl, -, hc⟩
    · obtain ⟨A', c', rfl, -⟩ := ints_shape h2
      refine (Tryz.slices_Equal_int_empty_f76 _ _ _ _ _ w hy).mono fun e w' ⟨he, hw⟩ => ⟨?_, 0, hw⟩
      rw [he]
      cases ys <;> rfl
    · rcases h2 with ⟨A', c', rfl, -, rfl⟩ | ⟨b', off', cap', rfl, -, hc'⟩
      · obtain rfl : xs = [] := List.eq_nil_of_length_eq_zero hl
        exact (Tryz.slices_Equal_int_empty_f76 _ _ _ _ _ w (by omega)).mono fun e w' ⟨he, hw⟩ => ⟨by rw [he]; rfl, 0, hw⟩
      · refine (Tryz.slices_Equal_int_f76 b off xs.length cap b' off' ys.length cap' xs ys w (Nat.le_refl _) (Nat.le_refl _) hx hy (fun j hj => by rw [List.getD_eq_getElem?_getD]; exact hc j hj) (fun j hj => by rw [List.getD_eq_getElem?_getD]; exact hc' j hj)).mono fun e w' ⟨he, hw⟩ => ⟨?_, hw⟩
        rw [he, List.take_length, List.take_length]
  · obtain ⟨A, c, rfl, -⟩ := ints_shape h1
    obtain ⟨A', c', rfl, -⟩ := ints_shape h2
    refine (equal_int_lens _ _ _ _ _ _ w hl).mono fun e w' ⟨he, hw⟩ => ⟨?_, 0, hw⟩
    have hne : (xs == ys) = false := by rw [beq_eq_false_iff_ne]; rintro rfl; exact hl rfl
    rw [he, hne]
end Go.Proofs.YticcgmegimiegaaGreatDoor
namespace Go.Proofs.YticcgmegimiegaaGreatDoor
open Go.RowKit Go.ChangeAt Go.ChangeShapes Go.WideShapes Go.Shelf Go.Sort

theorem below_dN (w : World) (q : Nat) : Below w.heap.size w (w.drewN q) := ⟨rfl, rfl, rfl, Nat.le_refl _, fun _ _ => rfl⟩
theorem infoInts : (Tryz.prog.info? 30).map (fun i => (i.zero, i.size, i.bytes)) = some (some (.slice none 0 0), 1, 24) := by kernel_rfl
/-- A slice of slices of numbers of the call's own. -/
abbrev OwnI (B : Nat) (W : World) (v : Value) (L : List (List Int)) : Prop := OwnRows 30 B W v (cellsL L)
theorem OwnI.rowsL {B : Nat} {W : World} {v : Value} {L : List (List Int)} (h : OwnI B W v L) : RowsL W.heap.size W v L := OwnRows.rowsV h
theorem rowsI_of {C : Nat} {W : World} {v : Value} {L : List (List Int)} (h : RowsL C W v L) : RowsI C W v L := by
  obtain ⟨A, cap, rfl, hat⟩ := rowsL_shape h
  by_cases h0 : L = []
  · subst h0; exact .inl ⟨_, _, rfl, rfl⟩
  · obtain ⟨zs, L', rfl⟩ := List.exists_cons_of_ne_nil h0
    obtain ⟨b, off, As, cs, rfl, hb, hc, hI⟩ := hat 0 zs rfl
    refine .inr ⟨b, off, cap, rfl, hb, fun j ys hj => ?_⟩
    obtain ⟨b', off', As', cs', e, hb', hc', hI'⟩ := hat j ys hj
    cases e
    exact ⟨_, hc', hI'.ints⟩
def ThRel (vars : Int) (L : List (List Int)) (w1 : World) (g : Nat) (i : Value) (wr : World) : Prop := ∃ (k : Nat) (v : Value), k ≤ L.length ∧ i = .int .i64 k ∧ Whole wr g 69 #[.int .i64 vars, v] ∧ OwnI (g + 1) wr v (L.take k) ∧ Keeps (fun i => i = g) w1 wr
set_option maxRecDepth 100000 in
set_option maxHeartbeats 2000000 in
theorem theirs_any {C : Nat} {v : Value} {L : List (List Int)} (vars : Int) (w : World) (hC : C ≤ w.heap.size) (hn : L.length ≤ 262144) (hz : ∀ zs ∈ L, zs.length ≤ 1000000) (hL : RowsL C w v L) :
    Calls Tryz.prog 35 #[.agg #[.int .i64 vars, v]] w fun e w' => ∃ v', e = .returned (.agg #[.int .i64 vars, v']) ∧ OwnI w.heap.size w' v' L ∧ Below w.heap.size w w' := by
  obtain ⟨A, cap, rfl, hat⟩ := rowsL_shape hL
  have h0 := (fo_new w vars (.slice A L.length cap) 24)
  have c0 := h0.1
  have c1 := h0.2.1
  have c2 : ((w.alloc (.cells #[.int .i64 vars, .slice A L.length cap] 24)).alloc (.cells #[.int .i64 0, .slice none 0 0] 69)).cell? ⟨w.heap.size, 0, none⟩ = some (.int .i64 vars) := (h0.on (below1a _ _)).1
  have c3 : ((w.alloc (.cells #[.int .i64 vars, .slice A L.length cap] 24)).alloc (.cells #[.int .i64 0, .slice none 0 0] 69)).cell? ⟨w.heap.size, 1, none⟩ = some (.slice A L.length cap) := (h0.on (below1a _ _)).2.1
  have c4 : (((w.alloc (.cells #[.int .i64 vars, .slice A L.length cap] 24)).alloc (.cells #[.int .i64 0, .slice none 0 0] 69)).alloc (.cells #[.int .i64 vars, .slice none 0 0] 69)).cell? ⟨w.heap.size, 1, none⟩ = some (.slice A L.length cap) := ((h0.on (below1a _ _)).on (below1a _ _)).2.1
  obtain ⟨i0, hi, hz0, hz1, hz2⟩ := info_parts infoInts
  have hr := whole_alloc (Whole.made (w.alloc (.cells #[.int .i64 vars, .slice A L.length cap] 24)) 69 #[.int .i64 0, .slice none 0 0]) (.cells #[.int .i64 vars, .slice none 0 0] 69)
  have hg := Whole.made ((w.alloc (.cells #[.int .i64 vars, .slice A L.length cap] 24)).alloc (.cells #[.int .i64 0, .slice none 0 0] 69)) 69 #[.int .i64 vars, .slice none 0 0]
  have hbw : Below w.heap.size w (((w.alloc (.cells #[.int .i64 vars, .slice A L.length cap] 24)).alloc (.cells #[.int .i64 0, .slice none 0 0] 69)).alloc (.cells #[.int .i64 vars, .slice none 0 0] 69)) := ((below1a w _).alloc (by simp) _).alloc (by simp; omega) _
  have hsz : (((w.alloc (.cells #[.int .i64 vars, .slice A L.length cap] 24)).alloc (.cells #[.int .i64 0, .slice none 0 0] 69)).alloc (.cells #[.int .i64 vars, .slice none 0 0] 69)).heap.size = w.heap.size + 3 := by simp
  simp only [World.size_alloc] at hr hg
  have HR0 := Lib.hid hr; have HG0 := Lib.hid hg; have HBw0 := Lib.hid hbw; have HS0 := Lib.hid hsz; have HAt := Lib.hid hat; have HZ := Lib.hid hz
  clear hr hg hbw hsz h0 hat hz hL
  go_enter Tryz.func35, Tryz.ntmps35
  go_wp2_with fail
  clear c0 c1 c2 c3 c4
  obtain ⟨w4, hw4⟩ : ∃ W, ((w.alloc (.cells #[.int .i64 vars, .slice A L.length cap] 24)).alloc (.cells #[.int .i64 0, .slice none 0 0] 69)).alloc (.cells #[.int .i64 vars, .slice none 0 0] 69) = W := ⟨_, rfl⟩
  rw [hw4] at HR0 HG0 HBw0 HS0 ⊢
  have HR4 := HR0; have HL4 := HG0; have HB4 := HBw0; have HS4 := HS0
  clear hw4 HR0 HG0 HBw0 HS0
  obtain ⟨g, hg⟩ : ∃ g, w.heap.size + 1 + 1 = g := ⟨_, rfl⟩
  rw [hg] at HL4 ⊢
  go_loopw [12] (fun i wr => ThRel vars L w4 g i wr) (fun i _ => L.length - (intOf i).toNat)
  case atStart => exact ⟨0, .slice none 0 0, Nat.zero_le _, rfl, HL4.out, ownRows_nil _ _ _, Keeps.refl _ _⟩
  case round =>
    obtain ⟨k, v, hk, rfl, hwh, hown, hkp⟩ := hrel
    have hBr : Below w.heap.size w wr := HB4.out.trans (hkp.below (by have := HS4.out; omega) (fun i e => by omega))
    have hlw : g < wr.heap.size := hwh.lt
    have hr4 : wr.heap[w.heap.size + 1]? = w4.heap[w.heap.size + 1]? := hkp.block (w.heap.size + 1) HR4.out.lt (fun e => by omega)
    by_cases hlt : k < L.length
    · obtain ⟨zs, hx⟩ : ∃ zs, L[k]? = some zs := ⟨_, List.getElem?_eq_getElem hlt⟩
      obtain ⟨b, off, As, cs, rfl, hb, hc, hI⟩ := HAt.out k zs hx
      have hc := (hBr.cell (p := ⟨b, off + k, none⟩) (Nat.lt_of_lt_of_le hb hC)).trans hc
      have hzl := HZ.out zs (List.mem_of_getElem? hx)
      have htk := takeL_one L hx
      have hki : (k : Int) < (L.length : Int) := by omega
      have hcl : ∀ W, Below wr.heap.size wr W → Calls Tryz.prog 73 #[.slice As zs.length cs] W (GivesE 3 W zs) := fun W hb => intsOf_any C _ zs hzl W (Nat.le_trans hC (Nat.le_trans hBr.size hb.size)) (((hI.below (hBr.mono hC)).below (hb.mono (Nat.le_trans hC hBr.size))).ints)
      obtain ⟨svs, hrow, hinr⟩ := hown
      obtain ⟨Av, cv, rfl⟩ := own_shape0 hrow
      have g1 : wr.cell? ⟨g, 1, none⟩ = some (.slice Av (cellsL (L.take k)).length cv) := hwh.cell 1
      obtain ⟨n, hn'⟩ : ∃ n, (cellsL (L.take k)).length = n := ⟨_, rfl⟩
      have hnn : n ≤ 262144 := by
        rw [← hn', cellsL_len]
        simp; omega
      have HNl := Lib.hid hn'.symm
      rw [hn'] at hrow hinr hwh g1
      have hgo : ∀ b, (Value.slice Av n cv).ownBlock = some b → g + 1 ≤ b ∧ b < wr.heap.size := fun b hb => hrow.lt b hb
      have HCl := Lib.hid hcl; have HNx := Lib.hid hlt; have HTk := Lib.hid htk; have HWh := Lib.hid hwh; have HRow := Lib.hid hrow; have HInr := Lib.hid hinr; have HKp := Lib.hid hkp; have HGo := Lib.hid hgo
      clear hcl hx hb hI hzl htk hwh hrow hinr hkp hr4 hBr hgo HAt HZ hn'
      go_upto_region 5 with fail
      go_region_law (first
          | (refine step_append_lies _ (by rfl) _ _ 32 (by rfl) (g + 1) 30 i0 _ 1 24 Tryz.underlying32 hi hz0 hz1 hz2 (by rfl) (by decide) _ n svs (by rfl) (by repeat (first | exact HS5.out | apply World.ownsRow.drew | apply World.ownsRow.alloc)) _ 1 1 [.slice A5 zs.length c5] (by rfl) (by rfl) (World.news_of_block (cs := #[.slice A5 zs.length c5]) (t := 30) (fr := (0, 0)) (heap_alloc_new _ _)) (by simp [Value.oneCell']) (by decide) (by unfold maxLen; omega) (by omega) (by simp; omega) _ rfl ?_; intro gg cap w7 hown7 hg7 hloc hl7; have hw7 : Whole w7 g 69 #[.int .i64 vars, .slice Av n cv] := whole_grown hg7 (fun e => by have := HGo.out g e.symm; omega) (by repeat (first | exact HW5.out | apply whole_drew | apply whole_alloc)); have g7 : w7.cell? ⟨g, 1, none⟩ = some (.slice Av n cv) := hw7.cell 1; have f7 : w7.frozen? ⟨g, 1, none⟩ = false := hw7.frozen 1; have HO7 := Lib.hid hown7; have HG7 := Lib.hid hg7; have HLoc := Lib.hid hloc; have HW7 := Lib.hid hw7; clear hown7 hg7 hloc hw7)
          | (go_simp; go_at_call 73; (with_reducible refine (HCl.out _ (Below.refl _ _).drew).mono ?_); rintro r w5 ⟨v5, rfl, hr5, hb5⟩; obtain ⟨A5, c5, rfl⟩ := own_shape0 hr5; have hb5' : Below wr.heap.size wr w5 := (Below.refl _ _).drew.trans hb5; have hl5 : wr.heap.size ≤ w5.heap.size := hb5'.size; have g5 : w5.cell? ⟨g, 1, none⟩ = some (.slice Av n cv) := (hb5'.cell (p := ⟨g, 1, none⟩) hlw).trans g1; have HS5 := Lib.hid (owns_on0 HRow.out hb5'); have HR5 := Lib.hid hr5; have HB5 := Lib.hid hb5'; have HW5 := Lib.hid (HWh.out.same (hb5'.block g hlw)); have g6 : (w5.alloc (.cells #[.slice A5 zs.length c5] 30)).cell? ⟨g, 1, none⟩ = some (.slice Av n cv) := (whole_alloc HW5.out _).cell 1; clear hr5 hb5 hb5'))
      all_goals
        obtain ⟨p1, p2, p3⟩ := field_push _ HWh.out HRow.out HInr.out HKp.out HB5.out HR5.out (Nat.le_refl _) HG7.out HO7.out HLoc.out HW7.out HNl.out (fun i hv hi => by have := (HGo.out i hv).1; have := HS4.out; omega)
        rw [← cellsL_one] at p2
        have HP := Lib.hid (And.intro p1 (And.intro p2 p3))
        clear p1 p2 p3 HO7 HG7 HLoc HW7 HS5 HR5 HB5 HW5 g5 g6 g7 f7
        go_wp2_with fail
        go_roundw
        case rel => exact ⟨k + 1, _, HNx.out, by go_num, HP.out.1, by rw [HTk.out]; exact HP.out.2.1, HP.out.2.2⟩
        case measure => simp [intOf]; omega
    · obtain rfl : k = L.length := by omega
      rw [List.take_length] at hown
      have y0 : wr.cell? ⟨g, 0, none⟩ = some (.int .i64 vars) := hwh.cell 0
      have y1 : wr.cell? ⟨g, 1, none⟩ = some v := hwh.cell 1
      have hrr := HR4.out.same hr4
      have r0 : wr.cell? ⟨w.heap.size + 1, 0, none⟩ = some (.int .i64 0) := hrr.cell 0
      have r1 : wr.cell? ⟨w.heap.size + 1, 1, none⟩ = some (.slice none 0 0) := hrr.cell 1
      have f0 := hrr.frozen 0
      have f1 := hrr.frozen 1
      obtain ⟨Av, cv, rfl⟩ := hown.len
      have HRR := Lib.hid ((hrr.store 0 (.int .i64 vars)).store 1 (.slice Av (cellsL L).length cv)); have HOwn := Lib.hid hown; have HBr := Lib.hid hBr
      clear hrr hown hBr hwh hkp hr4 HAt HZ
      go_wp2_with fail
      refine bodyPost_ret (results_cell_row rfl _ _ (w.heap.size + 1) 69 _ (0, 0) _ rfl HRR.out Tryz.underlying69 rfl (by kernel_rfl)) rfl ?_
      refine ⟨_, rfl, ?_, (HBr.out.setCell (p := ⟨w.heap.size + 1, 0, none⟩) (by simp) _).setCell (p := ⟨w.heap.size + 1, 1, none⟩) (by simp) _⟩
      exact (HOwn.out.kept (K := fun i => i = w.heap.size + 1) (((Keeps.refl (fun i => i = w.heap.size + 1) wr).setCell (p := ⟨w.heap.size + 1, 0, none⟩) (.inl rfl) _).setCell (p := ⟨w.heap.size + 1, 1, none⟩) (.inl rfl) _) (fun i h => by omega)).less (by omega)
/-! ### Equal -/
set_option maxRecDepth 100000 in
set_option maxHeartbeats 1000000 in
theorem equal1_any {C : Nat} {av bv : Value} {zs ys : List Int} (w : World) (hC : C ≤ w.heap.size) (hz : zs.length ≤ 1000000) (hy : ys.length ≤ 1000000) (ha : Ints C w av zs) (hb : Ints C w bv ys) :
    Calls Tryz.prog 75 #[av, bv] w fun e w' => e = .returned (.bool (zs == ys)) ∧ Below w.heap.size w w' := by
  have HA := Lib.hid ha; have HB := Lib.hid hb
  obtain ⟨A, c, rfl, -⟩ := ints_shape ha
  obtain ⟨A', c', rfl, -⟩ := ints_shape hb
  clear ha hb
  go_enter Tryz.func75, Tryz.ntmps75
  go_wp2_with fail
  refine (intsOf_any C _ zs hz w hC HA.out).mono ?_
  rintro e w1 ⟨v1, rfl, hr1, hb1⟩
  obtain ⟨A1, c1, rfl⟩ := own_shape0 hr1
  have h1 : Ints w1.heap.size w1 (.slice A1 zs.length c1) zs := (rowV_lits.1 (rowV_own hr1)).ints
  have heq := equal_int w1 (by omega) (by omega) h1 ((HB.out.below (hb1.mono hC)).more (Nat.le_trans hC hb1.size))
  have HEq := Lib.hid heq; have HB1 := Lib.hid hb1
  clear hr1 h1 heq hb1
  go_wp2_with fail
  refine HEq.out.mono ?_
  rintro e w2 ⟨rfl, q, hw2⟩
  have HB2 := Lib.hid (below_cat HB1.out (show Below w1.heap.size w1 w2 by rw [hw2]; exact below_dN _ _))
  clear hw2
  go_wp2_with fail
  go_ret
  exact ⟨rfl, HB2.out⟩
theorem eg_equal1 : ∀ args w, (callFunc 75 args).run Tryz.prog w = .ok (.enter 75 args) w := enters_of Tryz.func75 (by kernel_rfl) rfl
set_option maxRecDepth 100000 in
set_option maxHeartbeats 1000000 in
theorem equalR_any {C : Nat} {v v' : Value} {L L' : List (List Int)} (w : World) (hC : C ≤ w.heap.size) (hn : L.length ≤ 1000000000) (hz : ∀ zs ∈ L, zs.length ≤ 1000000) (hz' : ∀ zs ∈ L', zs.length ≤ 1000000) (hL : RowsL C w v L) (hL' : RowsL C w v' L') :
    Calls Tryz.prog 74 #[v, v', .func (.func 75) #[] #[]] w fun e w' => e = .returned (.bool (decide (L = L'))) ∧ Below w.heap.size w w' := by
  obtain ⟨A, cap, rfl, hat⟩ := rowsL_shape hL
  obtain ⟨A', cap', rfl, hat'⟩ := rowsL_shape hL'
  have HAt := Lib.hid hat; have HAt' := Lib.hid hat'; have HZ := Lib.hid hz; have HZ' := Lib.hid hz'
  clear hat hat' hz hz' hL hL'
  by_cases hl : L.length = L'.length
  · have HLn := Lib.hid hl
    rw [← hl]
    clear hl
    go_enter Tryz.func74, Tryz.ntmps74
    go_wp2_with fail
    go_loopw [17] (fun i wr => ∃ k : Nat, k ≤ L.length ∧ i = .int .i64 k ∧ Below w.heap.size w wr ∧ L.take k = L'.take k) (fun i _ => L.length - (intOf i).toNat)
    case atStart => exact ⟨0, Nat.zero_le _, rfl, Below.refl _ _, rfl⟩
    case round =>
      obtain ⟨k, hk, rfl, hB, htk⟩ := hrel
      by_cases hlt : k < L.length
      · obtain ⟨zs, hx⟩ : ∃ zs, L[k]? = some zs := ⟨_, List.getElem?_eq_getElem hlt⟩
        obtain ⟨ys, hy⟩ : ∃ ys, L'[k]? = some ys := ⟨_, List.getElem?_eq_getElem (by have := HLn.out; omega)⟩
        obtain ⟨b, off, As, cs, rfl, hb, hc, hI⟩ := HAt.out k zs hx
        obtain ⟨b', off', As', cs', rfl, hb', hc', hI'⟩ := HAt'.out k ys hy
        have hc := (hB.cell (p := ⟨b, off + k, none⟩) (Nat.lt_of_lt_of_le hb hC)).trans hc
        have hc' := (hB.cell (p := ⟨b', off' + k, none⟩) (Nat.lt_of_lt_of_le hb' hC)).trans hc'
        have hzl := HZ.out zs (List.mem_of_getElem? hx)
        have hyl := HZ'.out ys (List.mem_of_getElem? hy)
        have hone := take_one_eq hx hy htk
        have hki : (k : Int) < (L.length : Int) := by omega
        have heq := equal1_any wr (Nat.le_trans hC hB.size) hzl hyl (hI.below (hB.mono hC)).ints (hI'.below (hB.mono hC)).ints
        obtain ⟨t, ht⟩ : ∃ b, (zs == ys) = b := ⟨_, rfl⟩
        rw [ht] at heq
        have HOne := Lib.hid hone; have HEq := Lib.hid heq; have HT := Lib.hid ht; have HNx := Lib.hid hlt; have HBr := Lib.hid hB
        clear hone heq ht hzl hyl hI hI' hb hb' hx hy htk HAt HAt' HZ HZ' hlt hB
        cases t
        · go_wp2_with fail
          refine HEq.out.mono ?_
          rintro e w' ⟨rfl, hb1⟩
          have HB1 := Lib.hid (below_cat HBr.out hb1)
          clear hb1
          go_wp2_with fail
          go_ret
          have hne : L ≠ L' := fun e => by
            have h1 := HOne.out.1 (by rw [e])
            have h2 := HT.out
            rw [h1] at h2
            simp at h2
          exact ⟨by rw [decide_eq_false hne]; rfl, HB1.out⟩
        · go_wp2_with fail
          refine HEq.out.mono ?_
          rintro e w' ⟨rfl, hb1⟩
          have HB1 := Lib.hid (below_cat HBr.out hb1)
          clear hb1
          go_wp2_with fail
          go_roundw
          case rel => exact ⟨k + 1, HNx.out, by go_num, HB1.out, HOne.out.2 (eq_of_beq HT.out)⟩
          case measure => simp [intOf]; have := HNx.out; omega
      · obtain rfl : k = L.length := by omega
        have hfull : L = L' := by rw [List.take_length, HLn.out, List.take_length] at htk; exact htk
        have HF := Lib.hid hfull; have HBr := Lib.hid hB
        clear hfull htk HAt HAt' HZ HZ' hB
        go_wp2_with fail
        go_ret
        exact ⟨by rw [decide_eq_true HF.out]; rfl, HBr.out⟩
  · have hq : ((L.length : Int) == (L'.length : Int)) = false := by rw [beq_eq_false_iff_ne]; omega
    have hne : L ≠ L' := fun e => hl (by rw [e])
    rw [decide_eq_false hne]
    clear HAt HAt' HZ HZ' hne hl
    go_enter Tryz.func74, Tryz.ntmps74
    go_wp2_with fail
    go_ret
    exact ⟨rfl, Below.refl _ _⟩
set_option maxRecDepth 100000 in
set_option maxHeartbeats 1000000 in
theorem lawEqual_any {C : Nat} {v v' : Value} {L L' : List (List Int)} (x y : Int) (w : World) (hC : C ≤ w.heap.size) (hn : L.length ≤ 1000000000) (hz : ∀ zs ∈ L, zs.length ≤ 1000000) (hz' : ∀ zs ∈ L', zs.length ≤ 1000000) (hL : RowsL C w v L) (hL' : RowsL C w v' L') :
    Calls Tryz.prog 36 #[.agg #[.int .i64 x, v], .agg #[.int .i64 y, v']] w fun e w' => e = .returned (.bool (decide (x = y ∧ L = L'))) ∧ Below w.heap.size w w' := by
  have hb2 : Below w.heap.size w ((w.alloc (.cells #[.int .i64 x, v] 24)).alloc (.cells #[.int .i64 y, v'] 69)) := (below1a w _).alloc (by simp) _
  have h1 := (fo_new w x v 24).on (below1a (w.alloc (.cells #[.int .i64 x, v] 24)) (.cells #[.int .i64 y, v'] 69))
  have h2 := fo_new (w.alloc (.cells #[.int .i64 x, v] 24)) y v' 69
  rw [World.size_alloc] at h2
  obtain ⟨w2, hw2⟩ : ∃ W, (w.alloc (.cells #[.int .i64 x, v] 24)).alloc (.cells #[.int .i64 y, v'] 69) = W := ⟨_, rfl⟩
  rw [hw2] at hb2 h1 h2
  have hef := equalR_any w2 (Nat.le_trans hC hb2.size) hn hz hz' (hL.below (hb2.mono hC)) (hL'.below (hb2.mono hC))
  obtain ⟨A, cap, rfl, -⟩ := rowsL_shape hL
  obtain ⟨A', cap', rfl, -⟩ := rowsL_shape hL'
  obtain ⟨c0, c1, -⟩ := h1
  obtain ⟨d0, d1, -⟩ := h2
  have HE := Lib.hid hef; have HB := Lib.hid hb2; have HW := Lib.hid hw2
  clear hef hb2 hL hL' hz hz' hw2
  by_cases h : x = y
  · subst h
    have hd : decide (x = x ∧ L = L') = decide (L = L') := by simp
    rw [hd]
    obtain ⟨t, ht⟩ : ∃ b, decide (L = L') = b := ⟨_, rfl⟩
    rw [ht] at HE ⊢
    clear hd ht
    go_enter Tryz.func36, Tryz.ntmps36
    go_wp2_with fail
    rw [HW.out]
    go_wp2_with fail
    refine HE.out.mono ?_
    rintro e w' ⟨rfl, hb⟩
    have HB2 := Lib.hid (below_cat HB.out hb)
    clear hb
    go_wp2_with fail
    go_ret
    exact ⟨rfl, HB2.out⟩
  · have hq : (x == y) = false := by rw [beq_eq_false_iff_ne]; exact h
    have hd : decide (x = y ∧ L = L') = false := decide_eq_false fun e => h e.1
    rw [hd]
    clear HE hd
    go_enter Tryz.func36, Tryz.ntmps36
    go_wp2_with fail
    rw [HW.out]
    go_wp2_with fail
    go_ret
    exact ⟨rfl, HB.out⟩
/-! ### few -/
def sumL (L : List (List Int)) : Nat := (L.map List.length).sum
theorem sumL_take {L : List (List Int)} {j : Nat} {x : List Int} (h : L[j]? = some x) : sumL (L.take (j + 1)) = sumL (L.take j) + x.length := by
  rw [List.take_add_one, h]
  simp [sumL]
theorem sumL_le {L : List (List Int)} (h : ∀ x ∈ L, x.length ≤ 17592186044416) (j : Nat) : sumL (L.take j) ≤ j * 17592186044416 := by
  induction j with
  | zero => simp [sumL]
  | succ j ih =>
    cases hx : L[j]? with
    | none =>
      have hl := List.getElem?_eq_none_iff.1 hx
      rw [List.take_of_length_le hl] at ih
      rw [List.take_of_length_le (by omega)]
      exact Nat.le_trans ih (Nat.mul_le_mul_right _ (Nat.le_succ j))
    | some x =>
      have := h x (List.mem_of_getElem? hx)
      rw [sumL_take hx, Nat.succ_mul]
      omega
theorem sumL_mem {L : List (List Int)} {x : List Int} (h : x ∈ L) : x.length ≤ sumL L := by
  induction L with
  | nil => cases h
  | cons y r ih =>
    have e : sumL (y :: r) = y.length + sumL r := by simp [sumL]
    rcases List.mem_cons.1 h with rfl | h
    · omega
    · have := ih h
      omega
def fewF (L : List (List Int)) : Bool := decide (L.length ≤ 100) && decide (sumL (L.take 101) ≤ 1000)
theorem fewF_of {L : List (List Int)} (h : fewF L = true) : L.length ≤ 100 ∧ ∀ zs ∈ L, zs.length ≤ 1000 := by
  unfold fewF at h
  simp only [Bool.and_eq_true, decide_eq_true_eq] at h
  obtain ⟨h1, h2⟩ := h
  rw [List.take_of_length_le (by omega)] at h2
  exact ⟨h1, fun zs hz => Nat.le_trans (sumL_mem hz) h2⟩
def FewF (L : List (List Int)) (n : Nat) (w1 : World) (s i : Value) (wr : World) : Prop := ∃ j : Nat, j ≤ n ∧ s = .int .i64 (sumL (L.take j) : Nat) ∧ i = .int .i64 j ∧ Below w1.heap.size w1 wr
end Go.Proofs.YticcgmegimiegaaGreatDoor
