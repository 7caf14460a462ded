/- The reference of formulas: Assign. -/
import Derived.Test.YtgoflapolglfcaaGreatFoRef5
import Derived.Test.YtgoflapolglfcaaGreatFoAssign
namespace Go.Proofs.YtgoflapolglfcaaGreat
open Go.RowKit Go.ChangeAt Go.ChangeShapes Go.WideShapes Go.Shelf Go.Sort

def RaRel (vars l : Int) (L : List (List Int)) (w1 : World) (g : Nat) (i : Value) (wr : World) : Prop := ∃ (k : Nat) (v : Value), k ≤ L.length ∧ i = .int .i64 k ∧ Whole wr g 40 #[.int .i64 vars, v] ∧ OwnRows 22 (g + 1) wr v (cells5 (asgL l (L.take k))) ∧ Keeps (fun i => i = g) w1 wr
def RaIn (l : Int) (zs : List Int) (w0 : World) (c i : Value) (wr : World) : Prop := ∃ k : Nat, k ≤ zs.length ∧ i = .int .i64 k ∧ wr.ownsRow w0.heap.size 3 1 c (dropL (-l) (zs.take k)).length ((dropL (-l) (zs.take k)).map (Value.int .i64)) ∧ Below w0.heap.size w0 wr
theorem asg_drop {l : Int} {L : List (List Int)} {zs : List Int} (h : l ∉ zs) : asgL l (L ++ [zs]) = asgL l L ++ [dropL (-l) zs] := asgL_hasnt h
theorem asg_len (l : Int) (L : List (List Int)) : (asgL l L).length ≤ L.length := by unfold asgL; rw [List.length_map]; exact List.length_filter_le _ _
set_option maxRecDepth 100000 in
set_option maxHeartbeats 2000000 in
theorem ref05_assign {C : Nat} {v : Value} {L : List (List Int)} (vars l : Int) (hl0 : -1048576 ≤ l) (hl1 : l ≤ 1048576) (w : World) (hC : C ≤ w.heap.size) (hn : L.length ≤ 262144) (hz : ∀ zs ∈ L, zs.length ≤ 1000000) (hL : RowsL C w v L) :
    Calls Tryz.prog 24 #[.agg #[.int .i64 vars, v], .int .i64 l] w fun e w' => ∃ v', e = .returned (.agg #[.int .i64 vars, v']) ∧ OwnRows 22 w.heap.size w' v' (cells5 (asgL l L)) ∧ Below w.heap.size w w' := by
  obtain ⟨A, cap, rfl, hat⟩ := rowsL_shape hL
  obtain ⟨i0, hi, hz0, hz1, hz2⟩ := info_parts infoInts5
  obtain ⟨i1, hi1, hy0, hy1, hy2⟩ := info_parts infoInt5
  have h0 := (fo_new w vars (.slice A L.length cap) 40)
  have c0 := h0.1
  have c1 := h0.2.1
  have h0b := h0.on (below1a _ (.cells #[.int .i64 0, .slice none 0 0] 40))
  have c2 := h0b.1
  have hr := whole_alloc (Whole.made (w.alloc (.cells #[.int .i64 vars, .slice A L.length cap] 40)) 40 #[.int .i64 0, .slice none 0 0]) (.cells #[.int .i64 vars, .slice none 0 0] 40)
  have hg := Whole.made ((w.alloc (.cells #[.int .i64 vars, .slice A L.length cap] 40)).alloc (.cells #[.int .i64 0, .slice none 0 0] 40)) 40 #[.int .i64 vars, .slice none 0 0]
  have hf := h0b.on (below1a _ (.cells #[.int .i64 vars, .slice none 0 0] 40))
  have hbw : Below w.heap.size w (((w.alloc (.cells #[.int .i64 vars, .slice A L.length cap] 40)).alloc (.cells #[.int .i64 0, .slice none 0 0] 40)).alloc (.cells #[.int .i64 vars, .slice none 0 0] 40)) := ((below1a w _).alloc (by simp) _).alloc (by simp; omega) _
  have hsz : (((w.alloc (.cells #[.int .i64 vars, .slice A L.length cap] 40)).alloc (.cells #[.int .i64 0, .slice none 0 0] 40)).alloc (.cells #[.int .i64 vars, .slice none 0 0] 40)).heap.size = w.heap.size + 3 := by simp
  simp only [World.size_alloc] at hr hg
  have HR0 := Lib.hid hr; have HG0 := Lib.hid hg; have HBw0 := Lib.hid hbw; have HS0 := Lib.hid hsz; have HF0 := Lib.hid hf; have HAt := Lib.hid hat; have HZ := Lib.hid hz
  clear hr hg hbw hsz h0 h0b hf hat hz hL
  go_enter Tryz.func24, Tryz.ntmps24
  go_wp2_with fail
  clear c0 c1 c2
  obtain ⟨w4, hw4⟩ : ∃ W, ((w.alloc (.cells #[.int .i64 vars, .slice A L.length cap] 40)).alloc (.cells #[.int .i64 0, .slice none 0 0] 40)).alloc (.cells #[.int .i64 vars, .slice none 0 0] 40) = W := ⟨_, rfl⟩
  rw [hw4] at HR0 HG0 HBw0 HS0 HF0 ⊢
  have HR4 := HR0; have HL4 := HG0; have HB4 := HBw0; have HS4 := HS0; have HF4 := HF0
  clear hw4 HR0 HG0 HBw0 HS0 HF0
  obtain ⟨g, hg⟩ : ∃ g, w.heap.size + 1 + 1 = g := ⟨_, rfl⟩
  rw [hg] at HL4 ⊢
  have hnw : IntKind.i64.wrap (-l) = -l := IntWalk.i64_in _ (by omega)
  go_loopw [6] (fun i wr => RaRel vars l L w4 g i wr) (fun i _ => L.length - (intOf i).toNat)
  case atStart => exact ⟨0, .slice none 0 0, Nat.zero_le _, rfl, HL4.out, ownRows_nil _ _ _, Keeps.refl _ _⟩
  case round =>
    obtain ⟨k, v, hk, rfl, hwh, hown, hkp⟩ := hrel
    have hBr : Below w.heap.size w wr := HB4.out.trans (hkp.below (by have := HS4.out; omega) (fun i e => by omega))
    have hlw : g < wr.heap.size := hwh.lt
    have hr4 : wr.heap[w.heap.size + 1]? = w4.heap[w.heap.size + 1]? := hkp.block (w.heap.size + 1) HR4.out.lt (fun e => by omega)
    have hf4 : wr.heap[w.heap.size]? = w4.heap[w.heap.size]? := hkp.block w.heap.size HF4.out.2.2 (fun e => by omega)
    have hbf : w.heap.size < wr.heap.size := Nat.lt_of_lt_of_le HF4.out.2.2 hkp.size
    have y0 : wr.cell? ⟨w.heap.size, 0, none⟩ = some (.int .i64 vars) := (World.cell?_of_block hf4).trans HF4.out.1
    have y1 : wr.cell? ⟨w.heap.size, 1, none⟩ = some (.slice A L.length cap) := (World.cell?_of_block hf4).trans HF4.out.2.1
    by_cases hlt : k < L.length
    · obtain ⟨zs, hx⟩ : ∃ zs, L[k]? = some zs := ⟨_, List.getElem?_eq_getElem hlt⟩
      obtain ⟨b, off, As, cs, rfl, hb, hc, hI⟩ := HAt.out k zs hx
      have hbr : b < wr.heap.size := Nat.lt_of_lt_of_le (Nat.lt_of_lt_of_le hb hC) hBr.size
      have hc := (hBr.cell (p := ⟨b, off + k, none⟩) (Nat.lt_of_lt_of_le hb hC)).trans hc
      have hzl := HZ.out zs (List.mem_of_getElem? hx)
      have htk := takeL_one L hx
      have hki : (k : Int) < (L.length : Int) := by omega
      have hIr : Ints C wr (.slice As zs.length cs) zs := (hI.below (hBr.mono hC)).ints
      have hct := ref_has C _ zs l (by omega) wr hIr
      obtain ⟨hs, hhs⟩ : ∃ b, hasB zs l = b := ⟨_, rfl⟩
      rw [hhs] at hct
      have HCt := Lib.hid hct; have HNx := Lib.hid hlt; have HTk := Lib.hid htk; have HWh := Lib.hid hwh; have HOwn := Lib.hid hown; have HKp := Lib.hid hkp; have HHs := Lib.hid hhs; have HBr := Lib.hid hBr
      obtain ⟨_, _, esh, hcz⟩ := ints_shape hIr
      cases esh
      have HCz := Lib.hid hcz
      clear hct hx hb hI hIr htk hwh hown hkp hr4 hf4 hBr HAt HZ hhs hcz
      cases hs
      · have hnin : l ∉ zs := fun h => by have h1 := HHs.out; rw [hasB_iff.2 h] at h1; cases h1
        have HNin := Lib.hid hnin
        clear hnin
        go_wp2_with fail
        refine HCt.out.mono ?_
        rintro e w' ⟨rfl, rfl⟩
        obtain ⟨w5, rfl⟩ : ∃ y : World, y = wr := ⟨_, rfl⟩
        go_wp2_with fail
        go_loopw [7, 8] (fun c i wr => RaIn l zs w5 c i wr) (fun _ i _ => zs.length - (intOf i).toNat)
        case atStart => exact ⟨0, Nat.zero_le _, rfl, World.ownsRow_nil _ _ _ _, Below.refl _ _⟩
        case round =>
          obtain ⟨q, hq, rfl, hrow, hbq⟩ := hrel
          have z1 := (hbq.cell (p := ⟨w.heap.size, 1, none⟩) hbf).trans y1
          have z2 := (hbq.cell (p := ⟨b, off + k, none⟩) hbr).trans hc
          have hdl := Nat.le_trans (dropL_len (-l) (zs.take q)) (show (zs.take q).length ≤ 1000000 by simp; omega)
          obtain ⟨ys, hys⟩ : ∃ ys, dropL (-l) (zs.take q) = ys := ⟨_, rfl⟩
          rw [hys] at hrow hdl
          by_cases hltq : q < zs.length
          · obtain ⟨bz, oz, rfl, hbz, hck⟩ := HCz.out q hltq
            have hck := (hbq.cell (p := ⟨bz, oz + q, none⟩) (Nat.lt_of_lt_of_le hbz (Nat.le_trans hC HBr.out.size))).trans hck
            have htq := take_one zs hltq
            obtain ⟨x, hx⟩ : ∃ x, zs[q]?.getD 0 = x := ⟨_, rfl⟩
            rw [hx] at hck htq
            have hqi : (q : Int) < (zs.length : Int) := by omega
            have HR := Lib.hid hrow; have HT := Lib.hid htq; have HY := Lib.hid hys; have HBq := Lib.hid hbq; have HLq := Lib.hid hltq
            clear hrow htq hys hx hbq hltq
            by_cases hxl : x = -l
            · have hqq : (x != -l) = false := by simp [hxl]
              have HX := Lib.hid hxl
              have hnew := fun c (hr : wr.ownsRow w5.heap.size 3 1 c ys.length (ys.map (Value.int .i64))) => (⟨q + 1, HLq.out, rfl, by rw [HT.out, dropL_no HX.out, HY.out]; exact hr, HBq.out⟩ : RaIn l zs w5 c (.int .i64 ((q + 1 : Nat) : Int)) wr)
              have HNew := Lib.hid hnew
              clear hxl hnew
              go_wp2_with fail
              go_roundw
              case rel => exact HNew.out _ HR.out
              case measure => simp only [intOf]; have := HLq.out; omega
            · have hqq : (x != -l) = true := by simp [hxl]
              have HX := Lib.hid (show x ≠ -l from hxl)
              clear hxl
              go_wp2_with (at_builtin; refine wpList_append_own _ rfl _ _ 22 rfl w5.heap.size 3 i1 (.int .i64 0) 1 8 Tryz.underlying22 hi1 hy0 hy1 hy2 rfl (by decide) _ _ _ rfl (HR.out.alloc _) ⟨wr.heap.size, 0, none⟩ 1 1 [.int .i64 x] rfl rfl (cell_one_new _ _ _) (by simp [Value.oneCell']) (by unfold maxLen; omega) (by omega) (by have := HBq.out.size; simp; omega) ?_; intro v' w2 hown' hgrow _)
              have hbn : Below w5.heap.size w5 w2 := by
                refine (HBq.out.alloc HBq.out.size _).grown hgrow (by have := HBq.out.size; simp; omega) (fun k e => ?_)
                exact (HR.out.lt k e).1
              have hnew : RaIn l zs w5 v' (.int .i64 ((q + 1 : Nat) : Int)) w2 := ⟨q + 1, HLq.out, rfl, by rw [HT.out, dropL_yes HX.out, HY.out, List.map_append, List.length_append]; exact hown', hbn⟩
              have HNew := Lib.hid hnew
              clear hnew hbn hown' hgrow
              go_roundw
              case rel => exact HNew.out
              case measure => simp only [intOf]; have := HLq.out; omega
          · obtain rfl : q = zs.length := by omega
            rw [List.take_length] at hys
            obtain ⟨Ac, cc, rfl⟩ := own_shape0 hrow
            obtain ⟨svs, hrow2, hinr⟩ := HOwn.out
            obtain ⟨Av, cv, rfl⟩ := own_shape0 hrow2
            have hno2 := hrow2.lt
            obtain ⟨n, hn'⟩ : ∃ n, (cells5 (asgL l (L.take k))).length = n := ⟨_, rfl⟩
            have hnn : n ≤ 262144 := by
              rw [← hn', cells5_len]
              refine Nat.le_trans (asg_len _ _) ?_
              simp; omega
            have hwg := HWh.out
            rw [hn'] at hrow2 hinr hno2 hwg
            have hrow3 := owns_on5 hrow2 hbq
            have hw3 := hwg.same (hbq.block _ hlw)
            have g1 : ∀ o, (wr.alloc o).cell? ⟨g, 1, none⟩ = some (.slice Av n cv) := fun o => (whole_alloc hw3 o).cell 1
            have g0 : wr.cell? ⟨g, 1, none⟩ = some (.slice Av n cv) := hw3.cell 1
            have hgo : ∀ b, (Value.slice Av n cv).ownBlock = some b → g + 1 ≤ b ∧ b < w5.heap.size := fun b hb => hno2 b hb
            have hasg : asgL l (L.take (k + 1)) = asgL l (L.take k) ++ [ys] := by rw [HTk.out, asg_drop HNin.out, hys]
            have HRow2 := Lib.hid hrow2; have HInr := Lib.hid hinr; have HRow3 := Lib.hid hrow3; have HW3 := Lib.hid hw3; have HWg := Lib.hid hwg; have HBq := Lib.hid hbq; have HGo := Lib.hid hgo; have HAsg := Lib.hid hasg; have HN' := Lib.hid hn'; have HRc := Lib.hid hrow
            clear hrow2 hinr hno2 hrow3 hw3 hwg hbq hgo hasg hn' hrow hys HCz HOwn
            go_wp2_with (at_builtin; refine wpList_append_lies _ rfl _ _ 23 rfl (g + 1) 22 i0 (.slice none 0 0) 1 24 Tryz.underlying23 hi hz0 hz1 hz2 rfl (by decide) _ n svs rfl (HRow3.out.alloc _) _ 1 1 [.slice Ac ys.length cc] rfl rfl (World.news_of_block (cs := #[.slice Ac ys.length cc]) (t := 22) (fr := (0, 0)) (heap_alloc_new _ _)) (by simp [Value.oneCell']) (by decide) (by unfold maxLen; omega) (by omega) (by have := HBq.out.size; simp; omega) _ rfl ?_; intro gg cap' w7 hown7 hg7 hloc hl7; have hw7 : Whole w7 g 40 #[.int .i64 vars, .slice Av n cv] := whole_grown hg7 (fun e => by have := HGo.out g e.symm; omega) (whole_alloc HW3.out _); have f7 := hw7.frozen 1; have g7 : w7.cell? ⟨g, 1, none⟩ = some (.slice Av n cv) := hw7.cell 1; have HO7 := Lib.hid hown7; have HG7 := Lib.hid hg7; have HLoc := Lib.hid hloc; have HW7 := Lib.hid hw7; clear hown7 hg7 hloc hw7)
            obtain ⟨p1, p2, p3⟩ := field_push _ HWg.out HRow2.out HInr.out HKp.out HBq.out HRc.out (Nat.le_refl _) HG7.out HO7.out HLoc.out HW7.out HN'.out.symm (fun i hv hi => by have := (HGo.out i hv).1; have := HS4.out; omega)
            rw [← cells5_one, ← HAsg.out] at p2
            have HP := Lib.hid (And.intro p1 (And.intro p2 p3))
            clear p1 p2 p3
            go_roundw
            case rel => exact ⟨k + 1, _, HNx.out, by go_num, HP.out.1, HP.out.2.1, HP.out.2.2⟩
            case measure => simp only [intOf]; have := HNx.out; omega
      · have hin : l ∈ zs := hasB_iff.1 HHs.out
        have hasg : asgL l (L.take (k + 1)) = asgL l (L.take k) := by rw [HTk.out, asgL_has hin]
        have HAsg := Lib.hid hasg
        clear hin hasg HCz
        go_wp2_with fail
        refine HCt.out.mono ?_
        rintro e w' ⟨rfl, rfl⟩
        go_wp2_with fail
        go_roundw
        case rel => exact ⟨k + 1, _, HNx.out, by go_num, HWh.out, by rw [HAsg.out]; exact HOwn.out, HKp.out⟩
        case measure => simp only [intOf]; have := HNx.out; omega
    · obtain rfl : k = L.length := by omega
      rw [List.take_length] at hown
      have x0 : wr.cell? ⟨g, 0, none⟩ = some (.int .i64 vars) := hwh.cell 0
      have x1 : wr.cell? ⟨g, 1, none⟩ = some v := hwh.cell 1
      have hrr := HR4.out.same hr4
      have r0 : wr.cell? ⟨w.heap.size + 1, 0, none⟩ = some (.int .i64 0) := hrr.cell 0
      have r1 : wr.cell? ⟨w.heap.size + 1, 1, none⟩ = some (.slice none 0 0) := hrr.cell 1
      have f0 := hrr.frozen 0
      have f1 := hrr.frozen 1
      obtain ⟨Av, cv, rfl⟩ := hown.len
      have HRR := Lib.hid ((hrr.store 0 (.int .i64 vars)).store 1 (.slice Av (cells5 (asgL l L)).length cv)); have HOwn := Lib.hid hown; have HBr := Lib.hid hBr
      clear hrr hown hBr hwh hkp hr4 hf4 HAt HZ
      go_wp2_with fail
      refine bodyPost_ret (results_cell_row rfl _ _ (w.heap.size + 1) 40 _ (0, 0) _ rfl HRR.out Tryz.underlying40 rfl (by kernel_rfl)) rfl ?_
      refine ⟨_, rfl, ?_, (HBr.out.setCell (p := ⟨w.heap.size + 1, 0, none⟩) (by simp) _).setCell (p := ⟨w.heap.size + 1, 1, none⟩) (by simp) _⟩
      exact (HOwn.out.kept (K := fun i => i = w.heap.size + 1) (((Keeps.refl (fun i => i = w.heap.size + 1) wr).setCell (p := ⟨w.heap.size + 1, 0, none⟩) (.inl rfl) _).setCell (p := ⟨w.heap.size + 1, 1, none⟩) (.inl rfl) _) (fun i h => by omega)).less (by omega)
end Go.Proofs.YtgoflapolglfcaaGreat
