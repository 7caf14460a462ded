/- salvorlaw05.Of. -/
/- slices.EqualFunc at clauses; formula.Same. -/
/- slices.Equal of truths. -/
/- Formulas and models that lie in a world, and what is done with them: for closed examples. -/
import Derived.Test.YtgoflapolglfcaaGreatFoAssign
import Derived.Test.YtgoflapolglfcaaGreatConv
import Derived.Laws.Rows
import Derived.Test.YtgoflapolglfcaaGreatEqualIntF
import Derived.Test.YtgoflapolglfcaaGreatFoNorm
import Derived.Test.YtgoflapolglfcaaGreatFoFirst
namespace Go.Proofs.YtgoflapolglfcaaGreat
open Go.RowKit Go.ChangeAt Go.ChangeShapes Go.WideShapes Go.Shelf Go.Sort

def OfRel (vars : Int) (L : List (List Int)) (w1 : World) (g : Nat) (i : Value) (wr : World) : Prop := ∃ (k : Nat) (v : Value), k ≤ L.length ∧ i = .int .i64 k ∧ Whole wr g 27 #[.int .i64 vars, v] ∧ OwnL (g + 1) wr v (L.take k) ∧ Keeps (fun i => i = g) w1 wr
set_option maxRecDepth 100000 in
set_option maxHeartbeats 1000000 in
theorem foof_any {C : Nat} {v : Value} {L : List (List Int)} (vars : Int) (w : World) (hC : C ≤ w.heap.size) (hn : L.length ≤ 262144) (hz : ∀ zs ∈ L, zs.length ≤ 1000000) (hL : RowsL C w v L) :
    Calls Tryz.prog 5 #[.int .i64 vars, v] w fun e w' => ∃ v', e = .returned (.agg #[.int .i64 vars, v']) ∧ OwnL w.heap.size w' v' L ∧ Below w.heap.size w w' := by
  obtain ⟨A, cap, rfl, hat⟩ := rowsL_shape hL
  obtain ⟨i0, hi, hz0, hz1, hz2⟩ := info_parts infoClause
  have hw1 := Whole.made w 27 #[.int .i64 0, .slice none 0 0]
  have hw2 := Whole.made (w.alloc (.cells #[.int .i64 0, .slice none 0 0] 27)) 27 #[.int .i64 vars, .slice none 0 0]
  have hw3 := whole_alloc hw1 (.cells #[.int .i64 vars, .slice none 0 0] 27)
  have hbw : Below w.heap.size w ((w.alloc (.cells #[.int .i64 0, .slice none 0 0] 27)).alloc (.cells #[.int .i64 vars, .slice none 0 0] 27)) := (below1a w _).alloc (by simp) _
  have hsz : ((w.alloc (.cells #[.int .i64 0, .slice none 0 0] 27)).alloc (.cells #[.int .i64 vars, .slice none 0 0] 27)).heap.size = w.heap.size + 2 := by simp
  rw [World.size_alloc] at hw2
  have HAt := Lib.hid hat; have HZ := Lib.hid hz
  clear hL hat hz
  go_enter Tryz.func5, Tryz.ntmps5
  go_wp2_with fail
  obtain ⟨w4, hw4⟩ : ∃ W, (w.alloc (.cells #[.int .i64 0, .slice none 0 0] 27)).alloc (.cells #[.int .i64 vars, .slice none 0 0] 27) = W := ⟨_, rfl⟩
  rw [hw4] at hw2 hw3 hbw hsz ⊢
  have HR4 := Lib.hid hw3; have HL4 := Lib.hid hw2; have HB4 := Lib.hid hbw; have HS4 := Lib.hid hsz
  clear hw1 hw2 hw3 hbw hw4 hsz
  obtain ⟨g, hg⟩ : ∃ g, w.heap.size + 1 = g := ⟨_, rfl⟩
  rw [hg] at HL4 ⊢
  go_loopw [12] (fun i wr => OfRel vars L w4 g i wr) (fun i _ => L.length - (intOf i).toNat)
  case atStart => exact ⟨0, .slice none 0 0, Nat.zero_le _, rfl, HL4.out, ownL_nil _ _, Keeps.refl _ _⟩
  case round =>
    obtain ⟨k, v, hk, rfl, hwh, hown, hkp⟩ := hrel
    have hBr : Below w.heap.size w wr := HB4.out.trans (hkp.below (by have := HS4.out; omega) (fun i e => by omega))
    have hlw : g < wr.heap.size := hwh.lt
    have hr4 : wr.heap[w.heap.size]? = w4.heap[w.heap.size]? := hkp.block w.heap.size HR4.out.lt (fun e => by omega)
    by_cases hlt : k < L.length
    · obtain ⟨zs, hx⟩ : ∃ zs, L[k]? = some zs := ⟨_, List.getElem?_eq_getElem hlt⟩
      obtain ⟨b, off, As, cs, rfl, hb, hc, hI⟩ := HAt.out k zs hx
      have hc := (hBr.cell (p := ⟨b, off + k, none⟩) (Nat.lt_of_lt_of_le hb hC)).trans hc
      have hzl := HZ.out zs (List.mem_of_getElem? hx)
      have htk := takeL_one L hx
      have hki : (k : Int) < (L.length : Int) := by omega
      have hcl : ∀ W, Below wr.heap.size wr W → Calls Tryz.prog 27 #[.slice As zs.length cs] W (GivesE 35 W zs) := fun W hb => clause_any C _ zs hzl W (Nat.le_trans hC (Nat.le_trans hBr.size hb.size)) (((hI.below (hBr.mono hC)).below (hb.mono (Nat.le_trans hC hBr.size))).ints)
      obtain ⟨svs, hrow, hinr⟩ := hown
      obtain ⟨Av, cv, rfl⟩ := own_shape0 hrow
      have g1 : wr.cell? ⟨g, 1, none⟩ = some (.slice Av (cellsL (L.take k)).length cv) := hwh.cell 1
      obtain ⟨n, hn'⟩ : ∃ n, (cellsL (L.take k)).length = n := ⟨_, rfl⟩
      have hnn : n ≤ 262144 := by
        rw [← hn', cellsL_len]
        simp; omega
      have HNl := Lib.hid hn'.symm
      rw [hn'] at hrow hinr hwh g1
      have hgo : ∀ b, (Value.slice Av n cv).ownBlock = some b → g + 1 ≤ b ∧ b < wr.heap.size := fun b hb => hrow.lt b hb
      have HCl := Lib.hid hcl; have HNx := Lib.hid hlt; have HTk := Lib.hid htk; have HWh := Lib.hid hwh; have HRow := Lib.hid hrow; have HInr := Lib.hid hinr; have HKp := Lib.hid hkp; have HGo := Lib.hid hgo
      clear hcl hx hb hI hzl htk hwh hrow hinr hkp hr4 hBr hgo HAt HZ hn'
      go_upto_region 5 with fail
      go_region_law (first
          | (refine step_append_lies _ (by rfl) _ _ 25 (by rfl) (g + 1) 65 i0 _ 1 24 Tryz.underlying25 hi hz0 hz1 hz2 (by rfl) (by decide) _ n svs (by rfl) (by repeat (first | exact HS5.out | apply World.ownsRow.drew | apply World.ownsRow.alloc)) _ 1 1 [.slice A5 zs.length c5] (by rfl) (by rfl) (World.news_of_block (cs := #[.slice A5 zs.length c5]) (t := 65) (fr := (0, 0)) (heap_alloc_new _ _)) (by simp [Value.oneCell']) (by decide) (by unfold maxLen; omega) (by omega) (by simp; omega) _ rfl ?_; intro gg cap w7 hown7 hg7 hloc hl7; have hw7 : Whole w7 g 27 #[.int .i64 vars, .slice Av n cv] := whole_grown hg7 (fun e => by have := HGo.out g e.symm; omega) (by repeat (first | exact HW5.out | apply whole_drew | apply whole_alloc)); have g7 : w7.cell? ⟨g, 1, none⟩ = some (.slice Av n cv) := hw7.cell 1; have f7 : w7.frozen? ⟨g, 1, none⟩ = false := hw7.frozen 1; have HO7 := Lib.hid hown7; have HG7 := Lib.hid hg7; have HLoc := Lib.hid hloc; have HW7 := Lib.hid hw7; clear hown7 hg7 hloc hw7)
          | (go_simp; go_at_call 27; (with_reducible refine (HCl.out _ (Below.refl _ _).drew).mono ?_); rintro r w5 ⟨v5, rfl, hr5, hb5⟩; obtain ⟨A5, c5, rfl⟩ := own_shape0 hr5; have hb5' : Below wr.heap.size wr w5 := (Below.refl _ _).drew.trans hb5; have hl5 : wr.heap.size ≤ w5.heap.size := hb5'.size; have g5 : w5.cell? ⟨g, 1, none⟩ = some (.slice Av n cv) := (hb5'.cell (p := ⟨g, 1, none⟩) hlw).trans g1; have HS5 := Lib.hid (owns_on0 HRow.out hb5'); have HR5 := Lib.hid hr5; have HB5 := Lib.hid hb5'; have HW5 := Lib.hid (HWh.out.same (hb5'.block g hlw)); have g6 : (w5.alloc (.cells #[.slice A5 zs.length c5] 65)).cell? ⟨g, 1, none⟩ = some (.slice Av n cv) := (whole_alloc HW5.out _).cell 1; clear hr5 hb5 hb5'))
      all_goals
        obtain ⟨p1, p2, p3⟩ := field_push _ HWh.out HRow.out HInr.out HKp.out HB5.out HR5.out (Nat.le_refl _) HG7.out HO7.out HLoc.out HW7.out HNl.out (fun i hv hi => by have := (HGo.out i hv).1; have := HS4.out; omega)
        rw [← cellsL_one] at p2
        have HP := Lib.hid (And.intro p1 (And.intro p2 p3))
        clear p1 p2 p3 HO7 HG7 HLoc HW7 HS5 HR5 HB5 HW5 g5 g6 g7 f7
        go_wp2_with fail
        go_roundw
        case rel => exact ⟨k + 1, _, HNx.out, by go_num, HP.out.1, by rw [HTk.out]; exact HP.out.2.1, HP.out.2.2⟩
        case measure => simp [intOf]; omega
    · obtain rfl : k = L.length := by omega
      rw [List.take_length] at hown
      have y0 : wr.cell? ⟨g, 0, none⟩ = some (.int .i64 vars) := hwh.cell 0
      have y1 : wr.cell? ⟨g, 1, none⟩ = some v := hwh.cell 1
      have hrr := HR4.out.same hr4
      have r0 : wr.cell? ⟨w.heap.size, 0, none⟩ = some (.int .i64 0) := hrr.cell 0
      have r1 : wr.cell? ⟨w.heap.size, 1, none⟩ = some (.slice none 0 0) := hrr.cell 1
      have f0 := hrr.frozen 0
      have f1 := hrr.frozen 1
      obtain ⟨Av, cv, rfl⟩ := hown.len
      have HRR := Lib.hid ((hrr.store 0 (.int .i64 vars)).store 1 (.slice Av (cellsL L).length cv)); have HOwn := Lib.hid hown; have HBr := Lib.hid hBr
      clear hrr hown hBr hwh hkp hr4 HAt HZ
      go_wp2_with fail
      refine bodyPost_ret (results_cell_row rfl _ _ w.heap.size 27 _ (0, 0) _ rfl HRR.out Tryz.underlying27 rfl (by kernel_rfl)) rfl ?_
      refine ⟨_, rfl, ?_, (HBr.out.setCell (p := ⟨w.heap.size, 0, none⟩) (by simp) _).setCell (p := ⟨w.heap.size, 1, none⟩) (by simp) _⟩
      exact (HOwn.out.kept (K := fun i => i = w.heap.size) (((Keeps.refl (fun i => i = w.heap.size) wr).setCell (p := ⟨w.heap.size, 0, none⟩) (.inl rfl) _).setCell (p := ⟨w.heap.size, 1, none⟩) (.inl rfl) _) (fun i h => by omega)).less (by omega)
end Go.Proofs.YtgoflapolglfcaaGreat
namespace Go.Proofs.YtgoflapolglfcaaGreat
open Go.RowKit Go.ChangeAt Go.ChangeShapes Go.WideShapes Go.Shelf Go.Sort

theorem take_one_eq {L L' : List (List Int)} {k : Nat} {zs ys : List Int} (hx : L[k]? = some zs) (hy : L'[k]? = some ys) (h : L.take k = L'.take k) : (L.take (k + 1) = L'.take (k + 1)) ↔ zs = ys := by
  rw [takeL_one L hx, takeL_one L' hy, h]
  simp
set_option maxRecDepth 100000 in
set_option maxHeartbeats 1000000 in
theorem equalF_any {C : Nat} {v v' : Value} {L L' : List (List Int)} (w : World) (hn : L.length ≤ 1000000000) (hz : ∀ zs ∈ L, zs.length ≤ 1000000) (hz' : ∀ zs ∈ L', zs.length ≤ 1000000) (hL : RowsL C w v L) (hL' : RowsL C w v' L') :
    Calls Tryz.prog 39 #[v, v', .func (.func 40) #[] #[]] w fun e w' => e = .returned (.bool (decide (L = L'))) ∧ ∃ q, w' = w.drewN q := by
  obtain ⟨A, cap, rfl, hat⟩ := rowsL_shape hL
  obtain ⟨A', cap', rfl, hat'⟩ := rowsL_shape hL'
  have HAt := Lib.hid hat; have HAt' := Lib.hid hat'; have HZ := Lib.hid hz; have HZ' := Lib.hid hz'
  clear hat hat' hz hz' hL hL'
  by_cases hl : L.length = L'.length
  · have HLn := Lib.hid hl
    rw [← hl]
    clear hl
    go_enter Tryz.func39, Tryz.ntmps39
    go_wp2_with fail
    go_loopw [17] (fun i wr => ∃ k q : Nat, k ≤ L.length ∧ i = .int .i64 k ∧ wr = w.drewN q ∧ L.take k = L'.take k) (fun i _ => L.length - (intOf i).toNat)
    case atStart => exact ⟨0, 0, Nat.zero_le _, rfl, rfl, rfl⟩
    case round =>
      obtain ⟨k, q, hk, rfl, rfl, htk⟩ := hrel
      by_cases hlt : k < L.length
      · obtain ⟨zs, hx⟩ : ∃ zs, L[k]? = some zs := ⟨_, List.getElem?_eq_getElem hlt⟩
        obtain ⟨ys, hy⟩ : ∃ ys, L'[k]? = some ys := ⟨_, List.getElem?_eq_getElem (by have := HLn.out; omega)⟩
        obtain ⟨b, off, As, cs, rfl, hb, hc, hI⟩ := HAt.out k zs hx
        obtain ⟨b', off', As', cs', rfl, hb', hc', hI'⟩ := HAt'.out k ys hy
        have hzl := HZ.out zs (List.mem_of_getElem? hx)
        have hyl := HZ'.out ys (List.mem_of_getElem? hy)
        have hone := take_one_eq hx hy htk
        have hki : (k : Int) < (L.length : Int) := by omega
        have heq := fun q => equal_cl (w.drewN q) (by omega) (by omega) (show Ints C (w.drewN q) (.slice As zs.length cs) zs from hI.ints) (show Ints C (w.drewN q) (.slice As' ys.length cs') ys from hI'.ints)
        obtain ⟨t, ht⟩ : ∃ b, (zs == ys) = b := ⟨_, rfl⟩
        rw [ht] at heq
        have HOne := Lib.hid hone; have HEq := Lib.hid heq; have HT := Lib.hid ht; have HNx := Lib.hid hlt; have HX := Lib.hid (And.intro hx hy)
        clear hone heq ht hzl hyl hI hI' hb hb' hx hy htk HAt HAt' HZ HZ' hlt
        cases t
        · go_wp2_with fail
          refine (HEq.out _).mono ?_
          rintro e w' ⟨rfl, q', rfl⟩
          go_wp2_with fail
          go_ret
          have hne : L ≠ L' := fun e => by
            have h1 := HOne.out.1 (by rw [e])
            have h2 := HT.out
            rw [h1] at h2
            simp at h2
          exact ⟨by rw [decide_eq_false hne]; rfl, _, rfl⟩
        · go_wp2_with fail
          refine (HEq.out _).mono ?_
          rintro e w' ⟨rfl, q', rfl⟩
          go_wp2_with fail
          go_roundw
          case rel => exact ⟨k + 1, _, HNx.out, by go_num, rfl, HOne.out.2 (eq_of_beq HT.out)⟩
          case measure => simp [intOf]; have := HNx.out; omega
      · obtain rfl : k = L.length := by omega
        have hfull : L = L' := by rw [List.take_length, HLn.out, List.take_length] at htk; exact htk
        have HF := Lib.hid hfull
        clear hfull htk HAt HAt' HZ HZ'
        go_wp2_with fail
        go_ret
        exact ⟨by rw [decide_eq_true HF.out]; rfl, _, rfl⟩
  · have hq : ((L.length : Int) == (L'.length : Int)) = false := by rw [beq_eq_false_iff_ne]; omega
    have hne : L ≠ L' := fun e => hl (by rw [e])
    rw [decide_eq_false hne]
    clear HAt HAt' HZ HZ' hne hl
    go_enter Tryz.func39, Tryz.ntmps39
    go_wp2_with fail
    go_ret
    exact ⟨rfl, 0, rfl⟩
set_option maxRecDepth 100000 in
set_option maxHeartbeats 1000000 in
theorem fosame_any {C : Nat} {v v' : Value} {L L' : List (List Int)} (x y : Int) (w : World) (hC : C ≤ w.heap.size) (hn : L.length ≤ 1000000000) (hz : ∀ zs ∈ L, zs.length ≤ 1000000) (hz' : ∀ zs ∈ L', zs.length ≤ 1000000) (hL : RowsL C w v L) (hL' : RowsL C w v' L') :
    Calls Tryz.prog 14 #[.agg #[.int .i64 x, v], .agg #[.int .i64 y, v']] w fun e w' => e = .returned (.bool (decide (x = y ∧ L = L'))) ∧ Below w.heap.size w w' := by
  have hb2 : Below w.heap.size w ((w.alloc (.cells #[.int .i64 x, v] 27)).alloc (.cells #[.int .i64 y, v'] 27)) := (below1a w _).alloc (by simp) _
  have h1 := (fo_new w x v 27).on (below1a (w.alloc (.cells #[.int .i64 x, v] 27)) (.cells #[.int .i64 y, v'] 27))
  have h2 := fo_new (w.alloc (.cells #[.int .i64 x, v] 27)) y v' 27
  rw [World.size_alloc] at h2
  obtain ⟨w2, hw2⟩ : ∃ W, (w.alloc (.cells #[.int .i64 x, v] 27)).alloc (.cells #[.int .i64 y, v'] 27) = W := ⟨_, rfl⟩
  rw [hw2] at hb2 h1 h2
  have hef := equalF_any w2 hn hz hz' (hL.below (hb2.mono hC)) (hL'.below (hb2.mono hC))
  obtain ⟨A, cap, rfl, -⟩ := rowsL_shape hL
  obtain ⟨A', cap', rfl, -⟩ := rowsL_shape hL'
  obtain ⟨c0, c1, -⟩ := h1
  obtain ⟨d0, d1, -⟩ := h2
  have HE := Lib.hid hef; have HB := Lib.hid hb2; have HW := Lib.hid hw2
  clear hef hb2 hL hL' hz hz' hw2
  by_cases h : x = y
  · subst h
    have hd : decide (x = x ∧ L = L') = decide (L = L') := by simp
    rw [hd]
    obtain ⟨t, ht⟩ : ∃ b, decide (L = L') = b := ⟨_, rfl⟩
    rw [ht] at HE ⊢
    clear hd ht
    go_enter Tryz.func14, Tryz.ntmps14
    go_wp2_with fail
    rw [HW.out]
    go_wp2_with fail
    refine HE.out.mono ?_
    rintro e w' ⟨rfl, q', rfl⟩
    go_wp2_with fail
    go_ret
    exact ⟨rfl, HB.out.trans ⟨rfl, rfl, rfl, Nat.le_refl _, fun _ _ => rfl⟩⟩
  · have hq : (x == y) = false := by rw [beq_eq_false_iff_ne]; exact h
    have hd : decide (x = y ∧ L = L') = false := decide_eq_false fun e => h e.1
    rw [hd]
    clear hd h HE
    go_enter Tryz.func14, Tryz.ntmps14
    go_wp2_with fail
    rw [HW.out]
    go_wp2_with fail
    go_ret
    exact ⟨rfl, HB.out⟩
end Go.Proofs.YtgoflapolglfcaaGreat
namespace Go.Proofs.YtgoflapolglfcaaGreat
open Go.RowKit Go.ChangeAt Go.ChangeShapes Go.WideShapes Go.Shelf Go.Sort

theorem takeB_one (L : List Bool) {k : Nat} {b : Bool} (h : L[k]? = some b) : L.take (k + 1) = L.take k ++ [b] := by
  rw [List.take_add_one, h]; rfl
theorem takeB_eq {L L' : List Bool} {k : Nat} {b c : Bool} (hx : L[k]? = some b) (hy : L'[k]? = some c) (h : L.take k = L'.take k) : (L.take (k + 1) = L'.take (k + 1)) ↔ b = c := by
  rw [takeB_one L hx, takeB_one L' hy, h]
  simp
set_option maxRecDepth 100000 in
set_option maxHeartbeats 1000000 in
theorem equal_bools {C : Nat} {v v' : Value} {L L' : List Bool} (w : World) (hn : L.length ≤ 1000000000) (hL : Bools C w v L) (hL' : Bools C w v' L') :
    Calls Tryz.prog 35 #[v, v'] w fun e w' => e = .returned (.bool (decide (L = L'))) ∧ ∃ q, w' = w.drewN q := by
  obtain ⟨A, cap, rfl, hat⟩ := bools_shape hL
  obtain ⟨A', cap', rfl, hat'⟩ := bools_shape hL'
  have HAt := Lib.hid hat; have HAt' := Lib.hid hat'
  clear hat hat' hL hL'
  by_cases hl : L.length = L'.length
  · have HLn := Lib.hid hl
    rw [← hl]
    clear hl
    go_enter Tryz.func35, Tryz.ntmps35
    go_wp2_with fail
    go_loopw [13] (fun i wr => ∃ k q : Nat, k ≤ L.length ∧ i = .int .i64 k ∧ wr = w.drewN q ∧ L.take k = L'.take k) (fun i _ => L.length - (intOf i).toNat)
    case atStart => exact ⟨0, 0, Nat.zero_le _, rfl, rfl, rfl⟩
    case round =>
      obtain ⟨k, q, hk, rfl, rfl, htk⟩ := hrel
      by_cases hlt : k < L.length
      · obtain ⟨b, hx⟩ : ∃ b, L[k]? = some b := ⟨_, List.getElem?_eq_getElem hlt⟩
        obtain ⟨c, hy⟩ : ∃ c, L'[k]? = some c := ⟨_, List.getElem?_eq_getElem (by have := HLn.out; omega)⟩
        obtain ⟨b1, o1, rfl, -, hc⟩ := HAt.out k hlt
        obtain ⟨b2, o2, rfl, -, hc'⟩ := HAt'.out k (by have := HLn.out; omega)
        rw [hx] at hc
        rw [hy] at hc'
        have hone := takeB_eq hx hy htk
        have hki : (k : Int) < (L.length : Int) := by omega
        have HOne := Lib.hid hone; have HNx := Lib.hid hlt
        clear hone hx hy htk HAt HAt' hlt
        have hbc : b = c ∨ b ≠ c := Decidable.em _
        rcases hbc with rfl | hne
        · cases b
          all_goals
            simp only [Option.getD_some] at hc hc'
            go_upto_region 6 with fail
            go_quiet (fail)
            go_wp2_with fail
            go_roundw
            case rel => exact ⟨k + 1, _, HNx.out, by go_num, rfl, HOne.out.2 rfl⟩
            case measure => simp [intOf]; have := HNx.out; omega
        · have hne' : L ≠ L' := fun e => hne (HOne.out.1 (by rw [e]))
          have HNe := Lib.hid hne'
          clear hne' HLn
          cases b <;> cases c
          · exact absurd rfl hne
          · simp only [Option.getD_some] at hc hc'
            go_upto_region 6 with fail
            go_quiet (fail)
            go_wp2_with fail
            go_ret
            exact ⟨by rw [decide_eq_false HNe.out]; rfl, _, World.drewN_drewN _ _ _⟩
          · simp only [Option.getD_some] at hc hc'
            go_upto_region 6 with fail
            go_quiet (fail)
            go_wp2_with fail
            go_ret
            exact ⟨by rw [decide_eq_false HNe.out]; rfl, _, World.drewN_drewN _ _ _⟩
          · exact absurd rfl hne
      · obtain rfl : k = L.length := by omega
        have hfull : L = L' := by rw [List.take_length, HLn.out, List.take_length] at htk; exact htk
        have HFu := Lib.hid hfull
        clear hfull htk HAt HAt'
        go_wp2_with fail
        go_ret
        exact ⟨by rw [decide_eq_true HFu.out]; rfl, _, rfl⟩
  · have hq : ((L.length : Int) == (L'.length : Int)) = false := by rw [beq_eq_false_iff_ne]; omega
    have hne : L ≠ L' := fun e => hl (by rw [e])
    rw [decide_eq_false hne]
    clear HAt HAt' hne hl
    go_enter Tryz.func35, Tryz.ntmps35
    go_wp2_with fail
    go_ret
    exact ⟨rfl, 0, rfl⟩
end Go.Proofs.YtgoflapolglfcaaGreat
namespace Go.Proofs.YtgoflapolglfcaaGreat
open Go.RowKit Go.ChangeAt Go.ChangeShapes Go.WideShapes Go.Shelf Go.Sort

/-- Formulas' clauses, and models, that lie in W; what lay in w has not turned. -/
structure Aw (w W : World) (fs : List (Value × List (List Int))) (ms : List (Value × List Bool)) (ss : List (Nat × Value)) : Prop where
  below : Below w.heap.size w W
  fo : ∀ p ∈ fs, RowsL W.heap.size W p.1 p.2
  mo : ∀ p ∈ ms, Bools W.heap.size W p.1 p.2
  st : ∀ p ∈ ss, Whole W p.1 27 #[.int .i64 3, p.2]
section
variable {w W W' : World} {fs : List (Value × List (List Int))} {ms : List (Value × List Bool)} {ss : List (Nat × Value)}
theorem Aw.on (h : Aw w W fs ms ss) (hb : Below W.heap.size W W') : Aw w W' fs ms ss :=
  ⟨h.below.trans (hb.mono h.below.size), fun p hp => (RowsV.below hb (h.fo p hp)).more hb.size, fun p hp => ((h.mo p hp).below hb).more hb.size, fun p hp => (h.st p hp).same (hb.block _ (h.st p hp).lt)⟩
theorem Aw.start (w : World) : Aw w w [] [] [] := ⟨Below.refl _ _, fun _ h => by simp at h, fun _ h => by simp at h, fun _ h => by simp at h⟩
theorem Aw.addF (h : Aw w W fs ms ss) {v : Value} {L : List (List Int)} (hL : RowsL W.heap.size W v L) : Aw w W ((v, L) :: fs) ms ss :=
  ⟨h.below, fun p hp => by
    rcases List.mem_cons.1 hp with rfl | hp
    · exact hL
    · exact h.fo p hp, h.mo, h.st⟩
theorem Aw.addM (h : Aw w W fs ms ss) {v : Value} {m : List Bool} (hm : Bools W.heap.size W v m) : Aw w W fs ((v, m) :: ms) ss :=
  ⟨h.below, h.fo, fun p hp => by
    rcases List.mem_cons.1 hp with rfl | hp
    · exact hm
    · exact h.mo p hp, h.st⟩
theorem Aw.addS (h : Aw w W fs ms ss) {g : Nat} {v : Value} (hw : Whole W g 27 #[.int .i64 3, v]) : Aw w W fs ms ((g, v) :: ss) :=
  ⟨h.below, h.fo, h.mo, fun p hp => by
    rcases List.mem_cons.1 hp with rfl | hp
    · exact hw
    · exact h.st p hp⟩
/-- A formula's own block, new, is written. -/
theorem Aw.box (h : Aw w W fs ms ss) (v : Value) : Aw w (W.alloc (.cells #[.int .i64 3, v] 27)) fs ms ((W.heap.size, v) :: ss) :=
  (h.on (below1a W _)).addS (Whole.made W 27 #[.int .i64 3, v])
theorem Aw.s (h : Aw w W fs ms ss) (g : Nat) (v : Value) (hp : (g, v) ∈ ss) : W.cell? ⟨g, 0, none⟩ = some (.int .i64 3) ∧ W.cell? ⟨g, 1, none⟩ = some v := ⟨(h.st _ hp).cell 0, (h.st _ hp).cell 1⟩
theorem Aw.f (h : Aw w W fs ms ss) {v : Value} {L : List (List Int)} (hp : (v, L) ∈ fs) : RowsL W.heap.size W v L := h.fo _ hp
theorem Aw.m (h : Aw w W fs ms ss) {v : Value} {m : List Bool} (hp : (v, m) ∈ ms) : Bools W.heap.size W v m := h.mo _ hp
end
/-- Small enough for all contracts. -/
def smallF (L : List (List Int)) : Prop := L.length ≤ 1000 ∧ ∀ zs ∈ L, zs.length ≤ 1000
section
variable {w W : World} {fs : List (Value × List (List Int))} {ms : List (Value × List Bool)} {ss : List (Nat × Value)} {v : Value} {L : List (List Int)}
theorem aw_of (vars : Int) (h : Aw w W fs ms ss) {W1 : World} (hb : Below W.heap.size W W1) (hs : smallF L) (hL : RowsL W1.heap.size W1 v L) :
    Calls Tryz.prog 5 #[.int .i64 vars, v] W1 fun e w' => ∃ v', e = .returned (.agg #[.int .i64 vars, v']) ∧ Aw w w' ((v', L) :: fs) ms ss :=
  (foof_any vars W1 (Nat.le_refl _) (by have := hs.1; omega) (fun zs hz => by have := hs.2 zs hz; omega) hL).mono fun e w' ⟨v', he, ho, hB⟩ => ⟨v', he, ((h.on hb).on hB).addF ho.rowsL⟩
theorem aw_count (n k : Nat) (h : Aw w W fs ms ss) (hp : (v, L) ∈ fs) (hs : smallF L) (hn : n ≤ 16) (hok : (chkI (n : Int) L).2 = 0) (hk : (modelsB n L).length = k) :
    Calls Tryz.prog 7 #[.agg #[.int .i64 (n : Nat), v]] W fun e w' => e = .returned (.tuple #[.int .i64 (k : Nat), .int .i64 0]) ∧ Aw w w' fs ms ss :=
  (count_ok n hn W (Nat.le_refl _) (fun zs hz => by have := hs.2 zs hz; omega) (h.f hp) hok).mono fun e w' ⟨he, hB⟩ => ⟨by rw [he, hk], h.on hB⟩
theorem aw_first (n : Nat) (h : Aw w W fs ms ss) (hp : (v, L) ∈ fs) (hs : smallF L) (hn : n ≤ 16) (hok : (chkI (n : Int) L).2 = 0) (m : List Bool) (hm : (modelsB n L)[0]? = some m) :
    Calls Tryz.prog 20 #[.agg #[.int .i64 (n : Nat), v]] W fun e w' => ∃ fv, e = .returned (.tuple #[fv, .bool true, .int .i64 0]) ∧ Aw w w' fs ((fv, m) :: ms) ss :=
  (callsIn_wide.1 (first_in n hn W (Nat.le_refl _) (fun zs hz => by have := hs.2 zs hz; omega) (h.f hp) hok)).mono fun e w' ⟨fv, he, hr, hB⟩ => by
    have hne : modelsB n L ≠ [] := fun e => by rw [e] at hm; simp at hm
    rw [decide_eq_true hne] at he
    rw [hm] at hr
    exact ⟨fv, he, (h.on hB).addM (rowV_own hr)⟩
theorem aw_fails (vars : Int) (h : Aw w W fs ms ss) (hp : (v, L) ∈ fs) (hs : smallF L) {W1 : World} (hb : Below W.heap.size W W1) {mv : Value} {m : List Bool} (hm : Bools W1.heap.size W1 mv m) (i : Int) (b : Bool) (hr : failsR vars L m = (i, b, 0)) :
    Calls Tryz.prog 17 #[.agg #[.int .i64 vars, v], mv] W1 fun e w' => e = .returned (.tuple #[.int .i64 i, .bool b, .int .i64 0]) ∧ Aw w w' fs ms ss :=
  (fails_any vars W1 (Nat.le_refl _) (by have := hs.1; omega) (fun zs hz => by have := hs.2 zs hz; omega) ((RowsV.below hb (h.f hp)).more hb.size) hm).mono fun e w' ⟨he, hB⟩ => ⟨by rw [he, hr], (h.on hb).on hB⟩
theorem aw_assign (vars l : Int) (h : Aw w W fs ms ss) (hp : (v, L) ∈ fs) (hs : smallF L) (hok : (chkI vars L).2 = 0) (hl : hasV vars l = true) (L' : List (List Int)) (hr : asgL l L = L') :
    Calls Tryz.prog 18 #[.agg #[.int .i64 vars, v], .int .i64 l] W fun e w' => ∃ v', e = .returned (.tuple #[.agg #[.int .i64 vars, v'], .int .i64 0]) ∧ Aw w w' ((v', L') :: fs) ms ss :=
  (assign_ok vars l W (Nat.le_refl _) (fun zs hz => by have := hs.2 zs hz; omega) (h.f hp) hok hl).mono fun e w' ⟨v', he, ho, hB⟩ => ⟨v', he, (h.on hB).addF (hr ▸ ho.rowsL)⟩
theorem aw_norm (vars : Int) (h : Aw w W fs ms ss) (hp : (v, L) ∈ fs) (hs : smallF L) (hok : (chkI vars L).2 = 0) (L' : List (List Int)) (hr : nrmF L = L') :
    Calls Tryz.prog 19 #[.agg #[.int .i64 vars, v]] W fun e w' => ∃ v', e = .returned (.tuple #[.agg #[.int .i64 vars, v'], .int .i64 0]) ∧ Aw w w' ((v', L') :: fs) ms ss :=
  (fonorm_ok vars W (Nat.le_refl _) (fun zs hz => by have := hs.2 zs hz; omega) (h.f hp) hok).mono fun e w' ⟨v', he, ho, hB⟩ => ⟨v', he, (h.on hB).addF (hr ▸ ho.rowsL)⟩
theorem aw_same (vars : Int) (h : Aw w W fs ms ss) (hp : (v, L) ∈ fs) {v' : Value} (hp' : (v', L) ∈ fs) (hs : smallF L) :
    Calls Tryz.prog 14 #[.agg #[.int .i64 vars, v], .agg #[.int .i64 vars, v']] W fun e w' => e = .returned (.bool true) ∧ Aw w w' fs ms ss :=
  (fosame_any vars vars W (Nat.le_refl _) (by have := hs.1; omega) (fun zs hz => by have := hs.2 zs hz; omega) (fun zs hz => by have := hs.2 zs hz; omega) (h.f hp) (h.f hp')).mono fun e w' ⟨he, hB⟩ => ⟨by rw [he]; simp, h.on hB⟩
theorem below_dN (w : World) (q : Nat) : Below w.heap.size w (w.drewN q) := ⟨rfl, rfl, rfl, Nat.le_refl _, fun _ _ => rfl⟩
theorem aw_equal (h : Aw w W fs ms ss) {mv : Value} {m : List Bool} (hp : (mv, m) ∈ ms) (hs : m.length ≤ 1000) {W1 : World} (hb : Below W.heap.size W W1) {mv' : Value} (hm : Bools W1.heap.size W1 mv' m) :
    Calls Tryz.prog 35 #[mv, mv'] W1 fun e w' => e = .returned (.bool true) ∧ Aw w w' fs ms ss :=
  (equal_bools W1 (by omega) (((h.m hp).below hb).more hb.size) hm).mono fun e w' ⟨he, q, hw⟩ => ⟨by rw [he]; simp, by rw [hw]; exact (h.on hb).on (below_dN _ _)⟩
end
/-! ### literals -/
theorem lits_block {C : Nat} {W : World} {b : Nat} {T : TypeId} (xs : List Int) (h : Whole W b T (xs.map (Value.int .i64)).toArray) (hb : b < C) : Lits C W (.slice (some ⟨b, 0, none⟩) xs.length xs.length) xs := by
  have h := show W.heap[b]? = _ from h
  refine .inr ⟨b, 0, _, rfl, hb, fun j hj => ?_⟩
  rw [bang_get, Nat.zero_add]
  have hj' : j < xs.length := by simpa using hj
  simp [World.cell?, World.frozen?, h, hj']
theorem bools_block {C : Nat} {W : World} {b : Nat} {T : TypeId} (m : List Bool) (h : Whole W b T (m.map Value.bool).toArray) (hb : b < C) : Bools C W (.slice (some ⟨b, 0, none⟩) m.length m.length) m := by
  have h := show W.heap[b]? = _ from h
  refine .inr ⟨b, 0, _, by rw [List.length_map], hb, fun j hj => ?_⟩
  have hj' : j < m.length := by simpa using hj
  rw [Nat.zero_add]
  simp [World.cell?, World.frozen?, h]
theorem rows_block {C : Nat} {W : World} {b : Nat} {T : TypeId} (svs : List Value) (L : List (List Int)) (h : Whole W b T svs.toArray) (hb : b < C) (hl : svs.length = L.length) (hs : ∀ (j : Nat) (sv : Value) (zs : List Int), svs[j]? = some sv → L[j]? = some zs → Lits C W sv zs) : RowsL C W (.slice (some ⟨b, 0, none⟩) L.length L.length) L := by
  have h := show W.heap[b]? = _ from h
  refine .inr ⟨b, 0, L.length, by simp, hb, fun j xs hx => ?_⟩
  change (cellsL L)[j]? = some xs at hx
  have hj : j < L.length := by have := (List.getElem?_eq_some_iff.1 hx).1; rwa [cellsL_len] at this
  have hxs : xs = L[j].map (Value.int .i64) := by simp [cellsL, hj] at hx; exact hx.symm
  refine ⟨svs[j]'(by omega), ?_, ?_, ?_⟩
  · rw [Nat.zero_add]; simp [World.cell?, h, hl, hj]
  · rw [Nat.zero_add]; simp [World.frozen?, h]
  · rw [hxs]; exact rowV_lits.2 (hs j _ _ (List.getElem?_eq_getElem (by omega)) (List.getElem?_eq_getElem hj))
theorem lits_none (C : Nat) (W : World) : Lits C W (.slice none 0 0) [] := .inl ⟨_, _, rfl, fun _ => rfl, rfl⟩
theorem rows_none (C : Nat) (W : World) : RowsL C W (.slice none 0 0) [] := .inl ⟨_, _, rfl, fun _ => rfl, rfl⟩
end Go.Proofs.YtgoflapolglfcaaGreat
