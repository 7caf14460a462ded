/- salvorlaw05.Made. -/
import Derived.Test.YtmghmmkljplnfaaGreatFoSteps
import Derived.Test.YtmghmmkljplnfaaGreatMade02
import Derived.Test.YtmghmmkljplnfaaGreatRows2
namespace Go.Proofs.YtmghmmkljplnfaaGreat
open Go.RowKit Go.ChangeAt Go.ChangeShapes Go.WideShapes Go.Shelf Go.Sort

/-- The clauses of a made formula. -/
def madeF (zss : List (List Int)) : List (List Int) := (zss.take 30).map madeL
def MfRel (zss : List (List Int)) (n : Nat) (w1 : World) (g : Nat) (i : Value) (wr : World) : Prop := ∃ (k : Nat) (v : Value), k ≤ n ∧ i = .int .i64 k ∧ Whole wr g 24 #[.int .i64 8, v] ∧ OwnL (g + 1) wr v ((zss.take k).map madeL) ∧ Keeps (fun i => i = g) w1 wr
set_option maxRecDepth 100000 in
set_option maxHeartbeats 1000000 in
theorem foMade_any {C : Nat} {v : Value} {zss : List (List Int)} (w : World) (hC : C ≤ w.heap.size) (hz : ∀ zs ∈ zss, zs.length ≤ maxLen ∧ ∀ x ∈ zs, (Lit.int .u8 x).wf = true) (hL : Rows2 .u8 C w v zss) :
    Calls Tryz.prog 13 #[v] w fun e w' => ∃ v', e = .returned (.agg #[.int .i64 8, v']) ∧ OwnL w.heap.size w' v' (madeF zss) ∧ Below w.heap.size w w' := by
  obtain ⟨A, cap, rfl, -, hcap, hat⟩ := Rows2.shape hL
  obtain ⟨n, hnn⟩ : ∃ n, (zss.take 30).length = n := ⟨_, rfl⟩
  have hn30 : n ≤ 30 ∧ n ≤ zss.length := by rw [← hnn, List.length_take]; omega
  have hmin : min (zss.length : Int) 30 = (n : Int) := by rw [← hnn, List.length_take]; omega
  have hmax : max (n : Int) 0 = (n : Int) := by omega
  have hn0 : (0 : Int) ≤ (n : Int) := by omega
  have hnc : (n : Int) ≤ (cap : Int) := by omega
  have hnz : (n : Int) ≤ (zss.length : Int) := by omega
  have HNn := Lib.hid hnn
  clear hnn
  obtain ⟨i0, hi, hz0, hz1, hz2⟩ := info_parts infoClause
  have hw1 := Whole.made w 24 #[.int .i64 0, .slice none 0 0]
  have hw2 := Whole.made (w.alloc (.cells #[.int .i64 0, .slice none 0 0] 24)) 24 #[.int .i64 8, .slice none 0 0]
  have hw3 := whole_alloc hw1 (.cells #[.int .i64 8, .slice none 0 0] 24)
  have hbw : Below w.heap.size w ((w.alloc (.cells #[.int .i64 0, .slice none 0 0] 24)).alloc (.cells #[.int .i64 8, .slice none 0 0] 24)) := (below1a w _).alloc (by simp) _
  have hsz : ((w.alloc (.cells #[.int .i64 0, .slice none 0 0] 24)).alloc (.cells #[.int .i64 8, .slice none 0 0] 24)).heap.size = w.heap.size + 2 := by simp
  rw [World.size_alloc] at hw2
  have HAt := Lib.hid hat; have HZ := Lib.hid hz
  clear hL hat hz
  go_enter Tryz.func13, Tryz.ntmps13
  go_wp2_with fail
  obtain ⟨w4, hw4⟩ : ∃ W, (w.alloc (.cells #[.int .i64 0, .slice none 0 0] 24)).alloc (.cells #[.int .i64 8, .slice none 0 0] 24) = W := ⟨_, rfl⟩
  rw [hw4] at hw2 hw3 hbw hsz ⊢
  have HR4 := Lib.hid hw3; have HL4 := Lib.hid hw2; have HB4 := Lib.hid hbw; have HS4 := Lib.hid hsz
  clear hw1 hw2 hw3 hbw hw4 hsz
  obtain ⟨g, hg⟩ : ∃ g, w.heap.size + 1 = g := ⟨_, rfl⟩
  rw [hg] at HL4 ⊢
  go_loopw [13] (fun i wr => MfRel zss n w4 g i wr) (fun i _ => n - (intOf i).toNat)
  case atStart => exact ⟨0, .slice none 0 0, Nat.zero_le _, rfl, HL4.out, by rw [List.take_zero]; exact ownL_nil _ _, Keeps.refl _ _⟩
  case round =>
    obtain ⟨k, v, hk, rfl, hwh, hown, hkp⟩ := hrel
    have hBr : Below w.heap.size w wr := HB4.out.trans (hkp.below (by have := HS4.out; omega) (fun i e => by omega))
    have hlw : g < wr.heap.size := hwh.lt
    have hr4 : wr.heap[w.heap.size]? = w4.heap[w.heap.size]? := hkp.block w.heap.size HR4.out.lt (fun e => by omega)
    by_cases hlt : k < n
    · have hkz : k < zss.length := by omega
      obtain ⟨zs, hx⟩ : ∃ zs, zss[k]? = some zs := ⟨_, List.getElem?_eq_getElem hkz⟩
      obtain ⟨b, off, sv, rfl, hb, hc, hI, hfit⟩ := HAt.out k hkz
      rw [hx, Option.getD_some] at hI
      obtain ⟨As, cs, rfl, -⟩ := intsK_shape hI
      have hc := (hBr.cell (p := ⟨b, off + k, none⟩) (Nat.lt_of_lt_of_le hb hC)).trans hc
      have hzl := HZ.out zs (List.mem_of_getElem? hx)
      have htk : (zss.take (k + 1)).map madeL = (zss.take k).map madeL ++ [madeL zs] := by rw [takeL_one zss hx, List.map_append]; rfl
      have hki : (k : Int) < (n : Int) := by omega
      have hcl : ∀ W, Below wr.heap.size wr W → Calls Tryz.prog 14 #[.slice As zs.length cs] W (GivesE 37 W (madeL zs)) := fun W hb => made_any C _ zs (by have := hzl.1; unfold maxLen at this; omega) hzl.2 hfit W (Nat.le_trans hC (Nat.le_trans hBr.size hb.size)) ((hI.below (hBr.mono hC)).below (hb.mono (Nat.le_trans hC hBr.size)))
      obtain ⟨ys, hys⟩ : ∃ ys, madeL zs = ys := ⟨_, rfl⟩
      rw [hys] at hcl htk
      obtain ⟨svs, hrow, hinr⟩ := hown
      obtain ⟨Av, cv, rfl⟩ := own_shape0 hrow
      have g1 : wr.cell? ⟨g, 1, none⟩ = some (.slice Av (cellsL ((zss.take k).map madeL)).length cv) := hwh.cell 1
      obtain ⟨m, hn'⟩ : ∃ m, (cellsL ((zss.take k).map madeL)).length = m := ⟨_, rfl⟩
      have hnn : m ≤ 262144 := by
        rw [← hn', cellsL_len]
        simp; omega
      have HNl := Lib.hid hn'.symm
      rw [hn'] at hrow hinr hwh g1
      have hgo : ∀ b, (Value.slice Av m cv).ownBlock = some b → g + 1 ≤ b ∧ b < wr.heap.size := fun b hb => hrow.lt b hb
      have HCl := Lib.hid hcl; have HNx := Lib.hid hlt; have HTk := Lib.hid htk; have HWh := Lib.hid hwh; have HRow := Lib.hid hrow; have HInr := Lib.hid hinr; have HKp := Lib.hid hkp; have HGo := Lib.hid hgo
      clear hcl hx hb hI hzl htk hfit hys hwh hrow hinr hkp hr4 hBr hgo HAt HZ hn'
      go_upto_region 5 with fail
      go_region_law (first
          | (refine step_append_lies _ (by rfl) _ _ 22 (by rfl) (g + 1) 41 i0 _ 1 24 Tryz.underlying22 hi hz0 hz1 hz2 (by rfl) (by decide) _ m svs (by rfl) (by repeat (first | exact HS5.out | apply World.ownsRow.drew | apply World.ownsRow.alloc)) _ 1 1 [.slice A5 ys.length c5] (by rfl) (by rfl) (World.news_of_block (cs := #[.slice A5 ys.length c5]) (t := 41) (fr := (0, 0)) (heap_alloc_new _ _)) (by simp [Value.oneCell']) (by decide) (by unfold maxLen; omega) (by omega) (by simp; omega) _ rfl ?_; intro gg cap w7 hown7 hg7 hloc hl7; have hw7 : Whole w7 g 24 #[.int .i64 8, .slice Av m cv] := whole_grown hg7 (fun e => by have := HGo.out g e.symm; omega) (by repeat (first | exact HW5.out | apply whole_drew | apply whole_alloc)); have g7 : w7.cell? ⟨g, 1, none⟩ = some (.slice Av m cv) := hw7.cell 1; have f7 : w7.frozen? ⟨g, 1, none⟩ = false := hw7.frozen 1; have HO7 := Lib.hid hown7; have HG7 := Lib.hid hg7; have HLoc := Lib.hid hloc; have HW7 := Lib.hid hw7; clear hown7 hg7 hloc hw7)
          | (go_simp; go_at_call 14; (with_reducible refine (HCl.out _ (Below.refl _ _).drew).mono ?_); rintro r w5 ⟨v5, rfl, hr5, hb5⟩; obtain ⟨A5, c5, rfl⟩ := own_shape0 hr5; have hb5' : Below wr.heap.size wr w5 := (Below.refl _ _).drew.trans hb5; have hl5 : wr.heap.size ≤ w5.heap.size := hb5'.size; have g5 : w5.cell? ⟨g, 1, none⟩ = some (.slice Av m cv) := (hb5'.cell (p := ⟨g, 1, none⟩) hlw).trans g1; have HS5 := Lib.hid (owns_on0 HRow.out hb5'); have HR5 := Lib.hid hr5; have HB5 := Lib.hid hb5'; have HW5 := Lib.hid (HWh.out.same (hb5'.block g hlw)); have g6 : (w5.alloc (.cells #[.slice A5 ys.length c5] 41)).cell? ⟨g, 1, none⟩ = some (.slice Av m cv) := (whole_alloc HW5.out _).cell 1; clear hr5 hb5 hb5'))
      all_goals
        obtain ⟨p1, p2, p3⟩ := field_push _ HWh.out HRow.out HInr.out HKp.out HB5.out HR5.out (Nat.le_refl _) HG7.out HO7.out HLoc.out HW7.out HNl.out (fun i hv hi => by have := (HGo.out i hv).1; have := HS4.out; omega)
        rw [← cellsL_one] at p2
        have HP := Lib.hid (And.intro p1 (And.intro p2 p3))
        clear p1 p2 p3 HO7 HG7 HLoc HW7 HS5 HR5 HB5 HW5 g5 g6 g7 f7
        go_wp2_with fail
        go_roundw
        case rel => exact ⟨k + 1, _, HNx.out, by go_num, HP.out.1, by rw [HTk.out]; exact HP.out.2.1, HP.out.2.2⟩
        case measure => simp [intOf]; omega
    · obtain rfl : k = n := by omega
      have hfu : (zss.take k).map madeL = madeF zss := by
        unfold madeF
        rw [← HNn.out, List.length_take]
        congr 1
        rcases Nat.le_total 30 zss.length with h | h
        · rw [Nat.min_eq_left h]
        · rw [Nat.min_eq_right h, List.take_length, List.take_of_length_le h]
      rw [hfu] at hown
      clear hfu
      have y0 : wr.cell? ⟨g, 0, none⟩ = some (.int .i64 8) := hwh.cell 0
      have y1 : wr.cell? ⟨g, 1, none⟩ = some v := hwh.cell 1
      have hrr := HR4.out.same hr4
      have r0 : wr.cell? ⟨w.heap.size, 0, none⟩ = some (.int .i64 0) := hrr.cell 0
      have r1 : wr.cell? ⟨w.heap.size, 1, none⟩ = some (.slice none 0 0) := hrr.cell 1
      have f0 := hrr.frozen 0
      have f1 := hrr.frozen 1
      obtain ⟨Av, cv, rfl⟩ := hown.len
      have HRR := Lib.hid ((hrr.store 0 (.int .i64 8)).store 1 (.slice Av (cellsL (madeF zss)).length cv)); have HOwn := Lib.hid hown; have HBr := Lib.hid hBr
      clear hrr hown hBr hwh hkp hr4 HAt HZ
      go_wp2_with fail
      refine bodyPost_ret (results_cell_row rfl _ _ w.heap.size 24 _ (0, 0) _ rfl HRR.out Tryz.underlying24 rfl (by kernel_rfl)) rfl ?_
      refine ⟨_, rfl, ?_, (HBr.out.setCell (p := ⟨w.heap.size, 0, none⟩) (by simp) _).setCell (p := ⟨w.heap.size, 1, none⟩) (by simp) _⟩
      exact (HOwn.out.kept (K := fun i => i = w.heap.size) (((Keeps.refl (fun i => i = w.heap.size) wr).setCell (p := ⟨w.heap.size, 0, none⟩) (.inl rfl) _).setCell (p := ⟨w.heap.size, 1, none⟩) (.inl rfl) _) (fun i h => by omega)).less (by omega)
end Go.Proofs.YtmghmmkljplnfaaGreat
