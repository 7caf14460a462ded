/- The reference of formulas: Norm. -/
import Derived.Test.YtgoflapolglfcaaGreatFoRefAsg
import Derived.Test.YtgoflapolglfcaaGreatFoRefMath
import Derived.Test.YtgoflapolglfcaaGreatRefCmp
namespace Go.Proofs.YtgoflapolglfcaaGreat
open Go.RowKit Go.ChangeAt Go.ChangeShapes Go.WideShapes Go.Shelf Go.Sort

def NmRel (vars : Int) (L : List (List Int)) (w1 : World) (g q : Nat) (wr : World) : Prop := ∃ (O : List (List Int)) (v : Value), q + O.length = L.length + 1 ∧ Whole wr g 40 #[.int .i64 vars, v] ∧ OwnRows 22 (g + 1) wr v (cells5 O) ∧ UptoF L O ∧ Keeps (fun i => i = g) w1 wr
def NmIn (L O : List (List Int)) (w0 : World) (best i : Value) (wr : World) : Prop := ∃ (k : Nat) (b : Int), k ≤ L.length ∧ i = .int .i64 k ∧ best = .int .i64 b ∧ BestF L O k b ∧ Below w0.heap.size w0 wr
theorem bestF_bd {L O : List (List Int)} {k : Nat} {b : Int} (h : BestF L O k b) : b = -1 ∨ ∃ (i : Nat) (c : List Int), b = i ∧ L[i]? = some c ∧ i < k := by
  rcases h with ⟨h, -⟩ | ⟨i, c, h, hi, hc, -⟩
  · exact .inl h
  · exact .inr ⟨i, c, h, hc, hi⟩
set_option maxRecDepth 100000 in
set_option maxHeartbeats 2000000 in
theorem ref05_norm {C : Nat} {v : Value} {L : List (List Int)} (vars : Int) (w : World) (hC : C ≤ w.heap.size) (hn : L.length ≤ 262144) (hz : ∀ zs ∈ L, rightB zs = true) (hL : RowsL C w v L) :
    Calls Tryz.prog 25 #[.agg #[.int .i64 vars, v]] w fun e w' => ∃ v', e = .returned (.agg #[.int .i64 vars, v']) ∧ OwnRows 22 w.heap.size w' v' (cells5 (nrmF L)) ∧ Below w.heap.size w w' := by
  obtain ⟨A, cap, rfl, hat⟩ := rowsL_shape hL
  obtain ⟨i0, hi, hz0, hz1, hz2⟩ := info_parts infoInts5
  have h0 := (fo_new w vars (.slice A L.length cap) 40)
  have c0 := h0.1
  have h0b := h0.on (below1a _ (.cells #[.int .i64 0, .slice none 0 0] 40))
  have c2 := h0b.1
  have hr := whole_alloc (Whole.made (w.alloc (.cells #[.int .i64 vars, .slice A L.length cap] 40)) 40 #[.int .i64 0, .slice none 0 0]) (.cells #[.int .i64 vars, .slice none 0 0] 40)
  have hg := Whole.made ((w.alloc (.cells #[.int .i64 vars, .slice A L.length cap] 40)).alloc (.cells #[.int .i64 0, .slice none 0 0] 40)) 40 #[.int .i64 vars, .slice none 0 0]
  have hf := h0b.on (below1a _ (.cells #[.int .i64 vars, .slice none 0 0] 40))
  have hbw : Below w.heap.size w (((w.alloc (.cells #[.int .i64 vars, .slice A L.length cap] 40)).alloc (.cells #[.int .i64 0, .slice none 0 0] 40)).alloc (.cells #[.int .i64 vars, .slice none 0 0] 40)) := ((below1a w _).alloc (by simp) _).alloc (by simp; omega) _
  have hsz : (((w.alloc (.cells #[.int .i64 vars, .slice A L.length cap] 40)).alloc (.cells #[.int .i64 0, .slice none 0 0] 40)).alloc (.cells #[.int .i64 vars, .slice none 0 0] 40)).heap.size = w.heap.size + 3 := by simp
  simp only [World.size_alloc] at hr hg
  have HR0 := Lib.hid hr; have HG0 := Lib.hid hg; have HBw0 := Lib.hid hbw; have HS0 := Lib.hid hsz; have HF0 := Lib.hid hf; have HAt := Lib.hid hat; have HZ := Lib.hid hz
  clear hr hg hbw hsz h0 h0b hf hat hz hL
  go_enter Tryz.func25, Tryz.ntmps25
  go_wp2_with fail
  clear c0 c2
  obtain ⟨w4, hw4⟩ : ∃ W, ((w.alloc (.cells #[.int .i64 vars, .slice A L.length cap] 40)).alloc (.cells #[.int .i64 0, .slice none 0 0] 40)).alloc (.cells #[.int .i64 vars, .slice none 0 0] 40) = W := ⟨_, rfl⟩
  rw [hw4] at HR0 HG0 HBw0 HS0 HF0 ⊢
  have HR4 := HR0; have HL4 := HG0; have HB4 := HBw0; have HS4 := HS0; have HF4 := HF0
  clear hw4 HR0 HG0 HBw0 HS0 HF0
  obtain ⟨g, hg⟩ : ∃ g, w.heap.size + 1 + 1 = g := ⟨_, rfl⟩
  rw [hg] at HL4 ⊢
  go_loopg [4] (L.length + 1) (fun q _ wr => NmRel vars L w4 g q wr)
  case atStart => exact ⟨[], .slice none 0 0, rfl, HL4.out, ownRows_nil _ _ _, uptoF_nil L, Keeps.refl _ _⟩
  case round =>
    obtain ⟨O, v, hq, hwh, hown, hup, hkp⟩ := hrel
    have hBr : Below w.heap.size w wr := HB4.out.trans (hkp.below (by have := HS4.out; omega) (fun i e => by omega))
    have hlw : g < wr.heap.size := hwh.lt
    have hr4 : wr.heap[w.heap.size + 1]? = w4.heap[w.heap.size + 1]? := hkp.block (w.heap.size + 1) HR4.out.lt (fun e => by omega)
    have hf4 : wr.heap[w.heap.size]? = w4.heap[w.heap.size]? := hkp.block w.heap.size HF4.out.2.2 (fun e => by omega)
    have hbf : w.heap.size < wr.heap.size := Nat.lt_of_lt_of_le HF4.out.2.2 hkp.size
    have y1 : wr.cell? ⟨w.heap.size, 1, none⟩ = some (.slice A L.length cap) := (World.cell?_of_block hf4).trans HF4.out.2.1
    have hOl := uptoF_len hup
    obtain ⟨w5, rfl⟩ : ∃ y : World, y = wr := ⟨_, rfl⟩
    obtain ⟨Av, cv, rfl⟩ := hown.len
    rw [cells5_len] at hwh hown
    obtain ⟨n, hn'⟩ : ∃ n, O.length = n := ⟨_, rfl⟩
    rw [hn'] at hwh hown hOl
    have hrl : RowsL w5.heap.size w5 (.slice Av n cv) O := OwnRows.rowsV hown
    obtain ⟨_, _, esh, hoat⟩ := rowsL_shape hrl
    rw [hn'] at esh
    cases esh
    have hol : ∀ o ∈ O, (∀ x ∈ o, litB x = true) ∧ o.length ≤ 4096 := fun o ho => by
      obtain ⟨d, hd, rfl⟩ := List.mem_map.1 (hup.raw o ho)
      have h1 := HZ.out d (List.mem_filter.1 hd).1
      have h2 := rightB_of h1
      have h3 := norm_length d
      exact ⟨norm_lit h2.2, by omega⟩
    have HQ := Lib.hid hq; have HWh := Lib.hid hwh; have HOwn := Lib.hid hown; have HUp := Lib.hid hup; have HKp := Lib.hid hkp; have HBr := Lib.hid hBr; have HN := Lib.hid hn'; have HOat := Lib.hid hoat; have HOl := Lib.hid hol; have HR5 := Lib.hid hr4
    clear hq hwh hown hup hkp hBr hn' hoat hol hrl hr4 hf4
    go_wp2_with fail
    go_loopw [4, 5] (fun best i wr => NmIn L O w5 best i wr) (fun _ i _ => L.length - (intOf i).toNat)
    case atStart => exact ⟨0, -1, Nat.zero_le _, rfl, rfl, bestF_start L O, Below.refl _ _⟩
    case round =>
      obtain ⟨k, b, hk, rfl, rfl, hbest, hbw⟩ := hrel
      have z1 := (hbw.cell (p := ⟨w.heap.size, 1, none⟩) hbf).trans y1
      have hw5g := HWh.out.same (hbw.block _ hlw)
      have g1 : wr.cell? ⟨g, 1, none⟩ = some (.slice Av n cv) := hw5g.cell 1
      by_cases hlt : k < L.length
      · obtain ⟨zs, hx⟩ : ∃ zs, L[k]? = some zs := ⟨_, List.getElem?_eq_getElem hlt⟩
        obtain ⟨b', off, As, cs, rfl, hb, hc, hI⟩ := HAt.out k zs hx
        have hbr := HBr.out.trans (hbw.mono HBr.out.size)
        have hc := (hbr.cell (p := ⟨b', off + k, none⟩) (Nat.lt_of_lt_of_le hb hC)).trans hc
        have hki : (k : Int) < (L.length : Int) := by omega
        have hzr := rightB_of (HZ.out zs (List.mem_of_getElem? hx))
        have hIr : Ints C wr (.slice As zs.length cs) zs := (hI.below (hbr.mono hC)).ints
        have hal := ref_always C _ zs (by omega) hzr.2 wr hIr
        obtain ⟨al, hae⟩ : ∃ a, alwB zs = a := ⟨_, rfl⟩
        rw [hae] at hal
        have HI0 := Lib.hid hI.ints; have HX := Lib.hid hx; have HZr := Lib.hid hzr; have HI := Lib.hid hIr; have HAl := Lib.hid hal; have HAe := Lib.hid hae; have HBest := Lib.hid hbest; have HBw := Lib.hid hbw; have HLt := Lib.hid hlt; have HBr2 := Lib.hid hbr
        clear hx hzr hI hIr hal hae hbest hbw hb hw5g hbr
        cases al
        · clear hlt
          by_cases hn0 : n = 0
          · subst hn0
            have hcand : CandF O zs := ⟨HAe.out, fun o ho => by rw [List.eq_nil_of_length_eq_zero HN.out] at ho; cases ho⟩
            have HCand := Lib.hid hcand
            clear hcand
            rcases bestF_bd HBest.out with rfl | ⟨i, c, rfl, hic, hik⟩
            · have hnew := fun W (hb : Below w5.heap.size w5 W) => (⟨k + 1, (k : Int), HLt.out, rfl, rfl, bestF_first HBest.out HX.out HCand.out, hb⟩ : NmIn L O w5 (.int .i64 (k : Int)) (.int .i64 ((k + 1 : Nat) : Int)) W)
              have HNew := Lib.hid hnew
              clear hnew
              go_wp2_with fail
              refine HAl.out.mono ?_
              rintro e w' ⟨rfl, rfl⟩
              go_wp2_with fail
              go_roundw
              case rel => exact HNew.out _ HBw.out
              case measure => simp only [intOf]; have := HLt.out; omega
            · obtain ⟨bc, oc, Ac, cc, ebc, hbc, hcc, hIc⟩ := HAt.out i c hic
              have hb2 : ∃ b2, b2 = bc := ⟨_, rfl⟩
              have hii : (i : Int) < (L.length : Int) := by omega
              have hi0 : (0 : Int) ≤ (i : Int) := by omega
              have hneg : ¬ (i : Int) < 0 := by omega
              have hcr := rightB_of (HZ.out c (List.mem_of_getElem? hic))
              injection ebc with ebc
              injection ebc with e1 e2
              subst e1 e2
              have HIc := Lib.hid hIc; have HCr := Lib.hid hcr; have HIk := Lib.hid (And.intro hic hik); have HCc := Lib.hid hcc; have HBc := Lib.hid hbc
              obtain ⟨y, hye⟩ : ∃ y, clCmp zs c = y := ⟨_, rfl⟩
              have HYe := Lib.hid hye
              clear hIc hcr hic hik hcc hbc hb2 hye
              go_wp2_with fail
              refine HAl.out.mono ?_
              rintro e w' ⟨rfl, rfl⟩
              have u1 := (HBw.out.cell (p := ⟨w.heap.size, 1, none⟩) hbf).trans y1
              have u2 := ((HBr.out.trans (HBw.out.mono HBr.out.size)).cell (p := ⟨b', off + i, none⟩) (Nat.lt_of_lt_of_le HBc.out hC)).trans HCc.out
              have hbr2 := HBr.out.trans (HBw.out.mono HBr.out.size)
              have hcm2 := ref_cl_compare C (.slice As zs.length cs) (.slice Ac c.length cc) zs c (by have := HZr.out.1; omega) (by have := HCr.out.1; omega) HZr.out.2 HCr.out.2 wr (Nat.le_trans hC hbr2.size) ((HI0.out.below (hbr2.mono hC))) ((HIc.out.below (hbr2.mono hC)).ints)
              rw [HYe.out] at hcm2
              have HCm2 := Lib.hid hcm2; have HW2 := Lib.hid HBw.out
              clear hcm2 hbr2
              by_cases hy : y < 0
              · go_wp2_with fail
                refine HCm2.out.mono ?_
                rintro e w7 ⟨rfl, hb7⟩
                have hnew : NmIn L O w5 (.int .i64 (k : Int)) (.int .i64 ((k + 1 : Nat) : Int)) w7 := ⟨k + 1, (k : Int), HLt.out, rfl, rfl, bestF_less HBest.out HIk.out.1 HX.out HCand.out (by rw [HYe.out]; omega), HW2.out.trans (hb7.mono HW2.out.size)⟩
                have HNew := Lib.hid hnew
                clear hnew hb7
                go_wp2_with fail
                go_roundw
                case rel => exact HNew.out
                case measure => simp only [intOf]; have := HLt.out; omega
              · go_wp2_with fail
                refine HCm2.out.mono ?_
                rintro e w7 ⟨rfl, hb7⟩
                have hnew : NmIn L O w5 (.int .i64 (i : Int)) (.int .i64 ((k + 1 : Nat) : Int)) w7 := ⟨k + 1, (i : Int), HLt.out, rfl, rfl, bestF_more HBest.out HIk.out.1 HX.out (by rw [HYe.out]; omega), HW2.out.trans (hb7.mono HW2.out.size)⟩
                have HNew := Lib.hid hnew
                clear hnew hb7
                go_wp2_with fail
                go_roundw
                case rel => exact HNew.out
                case measure => simp only [intOf]; have := HLt.out; omega
          · obtain ⟨o, ho⟩ : ∃ o, O[n - 1]? = some o := ⟨_, List.getElem?_eq_getElem (by have := HN.out; omega)⟩
            have hlast : O.getLast? = some o := by rw [List.getLast?_eq_getElem?, HN.out]; exact ho
            obtain ⟨bo, oo, Ao, co, rfl, hbo, hco, hIo⟩ := HOat.out _ o ho
            have hco := (HBw.out.cell (p := ⟨bo, oo + (n - 1), none⟩) hbo).trans hco
            have hoo := HOl.out o (List.mem_of_getElem? ho)
            have hcm := ref_cl_compare wr.heap.size (.slice As zs.length cs) (.slice Ao o.length co) zs o (by have := HZr.out.1; omega) (by have := hoo.2; omega) HZr.out.2 hoo.1 wr (Nat.le_refl _) (HI.out.more (Nat.le_trans hC HBr2.out.size)) ((hIo.ints.below HBw.out).more HBw.out.size)
            obtain ⟨x, hxe⟩ : ∃ x, clCmp zs o = x := ⟨_, rfl⟩
            rw [hxe] at hcm
            have hn1 : (0 : Int) < (n : Int) := by omega
            have hn2 : (n : Int) - 1 = ((n - 1 : Nat) : Int) := by omega
            have hn3 : ((n - 1 : Nat) : Int) < (n : Int) := by omega
            have hw1 : IntKind.i64.wrap ((n : Int) - 1) = ((n - 1 : Nat) : Int) := by rw [hn2]; exact IntWalk.i64_in _ (by omega)
            have HCm := Lib.hid hcm; have HXe := Lib.hid hxe; have HLast := Lib.hid hlast
            clear hcm ho hoo hIo hbo hxe hlast
            by_cases hx0 : x ≤ 0
            · have hnew := fun W (hb : Below w5.heap.size w5 W) => (⟨k + 1, b, HLt.out, rfl, rfl, bestF_skip HBest.out HX.out (fun h => h.2 o HLast.out (by rw [HXe.out]; exact hx0)), hb⟩ : NmIn L O w5 (.int .i64 b) (.int .i64 ((k + 1 : Nat) : Int)) W)
              have HNew := Lib.hid hnew
              clear hnew
              go_wp2_with fail
              refine HAl.out.mono ?_
              rintro e w' ⟨rfl, rfl⟩
              go_wp2_with fail
              refine HCm.out.mono ?_
              rintro e w6 ⟨rfl, hb6⟩
              have HB6 := Lib.hid (HBw.out.trans (hb6.mono HBw.out.size))
              clear hb6
              go_wp2_with fail
              go_roundw
              case rel => exact HNew.out _ HB6.out
              case measure => simp only [intOf]; have := HLt.out; omega
            · have hcand : CandF O zs := ⟨HAe.out, fun o' ho' => by rw [HLast.out] at ho'; cases ho'; rw [HXe.out]; exact hx0⟩
              have HCand := Lib.hid hcand
              clear hcand
              rcases bestF_bd HBest.out with rfl | ⟨i, c, rfl, hic, hik⟩
              · have hnew := fun W (hb : Below w5.heap.size w5 W) => (⟨k + 1, (k : Int), HLt.out, rfl, rfl, bestF_first HBest.out HX.out HCand.out, hb⟩ : NmIn L O w5 (.int .i64 (k : Int)) (.int .i64 ((k + 1 : Nat) : Int)) W)
                have HNew := Lib.hid hnew
                clear hnew
                go_wp2_with fail
                refine HAl.out.mono ?_
                rintro e w' ⟨rfl, rfl⟩
                go_wp2_with fail
                refine HCm.out.mono ?_
                rintro e w6 ⟨rfl, hb6⟩
                have HB6 := Lib.hid (HBw.out.trans (hb6.mono HBw.out.size))
                clear hb6
                go_wp2_with fail
                go_roundw
                case rel => exact HNew.out _ HB6.out
                case measure => simp only [intOf]; have := HLt.out; omega
              · obtain ⟨bc, oc, Ac, cc, ebc, hbc, hcc, hIc⟩ := HAt.out i c hic
                have hb2 : ∃ b2, b2 = bc := ⟨_, rfl⟩
                have hii : (i : Int) < (L.length : Int) := by omega
                have hi0 : (0 : Int) ≤ (i : Int) := by omega
                have hneg : ¬ (i : Int) < 0 := by omega
                have hcr := rightB_of (HZ.out c (List.mem_of_getElem? hic))
                injection ebc with ebc
                injection ebc with e1 e2
                subst e1 e2
                have HIc := Lib.hid hIc; have HCr := Lib.hid hcr; have HIk := Lib.hid (And.intro hic hik); have HCc := Lib.hid hcc; have HBc := Lib.hid hbc
                obtain ⟨y, hye⟩ : ∃ y, clCmp zs c = y := ⟨_, rfl⟩
                have HYe := Lib.hid hye
                clear hIc hcr hic hik hcc hbc hb2 hye
                go_wp2_with fail
                refine HAl.out.mono ?_
                rintro e w' ⟨rfl, rfl⟩
                go_wp2_with fail
                refine HCm.out.mono ?_
                rintro e w6 ⟨rfl, hb6⟩
                have HB6 := Lib.hid (HBw.out.trans (hb6.mono HBw.out.size))
                clear hb6
                have u1 := (HB6.out.cell (p := ⟨w.heap.size, 1, none⟩) hbf).trans y1
                have u2 := ((HBr.out.trans (HB6.out.mono HBr.out.size)).cell (p := ⟨b', off + i, none⟩) (Nat.lt_of_lt_of_le HBc.out hC)).trans HCc.out
                have hbr2 := HBr.out.trans (HB6.out.mono HBr.out.size)
                have hcm2 := ref_cl_compare C (.slice As zs.length cs) (.slice Ac c.length cc) zs c (by have := HZr.out.1; omega) (by have := HCr.out.1; omega) HZr.out.2 HCr.out.2 w6 (Nat.le_trans hC hbr2.size) ((HI0.out.below (hbr2.mono hC))) ((HIc.out.below (hbr2.mono hC)).ints)
                rw [HYe.out] at hcm2
                have HCm2 := Lib.hid hcm2; have HW2 := Lib.hid HB6.out
                clear hcm2 hbr2
                by_cases hy : y < 0
                · go_wp2_with fail
                  refine HCm2.out.mono ?_
                  rintro e w7 ⟨rfl, hb7⟩
                  have hnew : NmIn L O w5 (.int .i64 (k : Int)) (.int .i64 ((k + 1 : Nat) : Int)) w7 := ⟨k + 1, (k : Int), HLt.out, rfl, rfl, bestF_less HBest.out HIk.out.1 HX.out HCand.out (by rw [HYe.out]; omega), HW2.out.trans (hb7.mono HW2.out.size)⟩
                  have HNew := Lib.hid hnew
                  clear hnew hb7
                  go_wp2_with fail
                  go_roundw
                  case rel => exact HNew.out
                  case measure => simp only [intOf]; have := HLt.out; omega
                · go_wp2_with fail
                  refine HCm2.out.mono ?_
                  rintro e w7 ⟨rfl, hb7⟩
                  have hnew : NmIn L O w5 (.int .i64 (i : Int)) (.int .i64 ((k + 1 : Nat) : Int)) w7 := ⟨k + 1, (i : Int), HLt.out, rfl, rfl, bestF_more HBest.out HIk.out.1 HX.out (by rw [HYe.out]; omega), HW2.out.trans (hb7.mono HW2.out.size)⟩
                  have HNew := Lib.hid hnew
                  clear hnew hb7
                  go_wp2_with fail
                  go_roundw
                  case rel => exact HNew.out
                  case measure => simp only [intOf]; have := HLt.out; omega
        · have hnew : NmIn L O w5 (.int .i64 b) (.int .i64 ((k + 1 : Nat) : Int)) wr := ⟨k + 1, b, HLt.out, rfl, rfl, bestF_skip HBest.out HX.out (fun h => by have h1 := HAe.out; rw [h.1] at h1; cases h1), HBw.out⟩
          have HNew := Lib.hid hnew
          clear hnew hlt
          go_wp2_with fail
          refine HAl.out.mono ?_
          rintro e w' ⟨rfl, rfl⟩
          go_wp2_with fail
          go_roundw
          case rel => exact HNew.out
          case measure => simp only [intOf]; have := HLt.out; omega
      · obtain rfl : k = L.length := by omega
        have hBx := HBr.out.trans (hbw.mono HBr.out.size)
        have hkx := HKp.out.then_below hbw
        have hr5 := HR4.out.same ((hbw.block _ (by have := HR4.out.lt; exact Nat.lt_of_lt_of_le this HKp.out.size)).trans HR5.out)
        rcases hbest with ⟨rfl, hno⟩ | ⟨i, c, rfl, hik, hic, hcc, hle⟩
        · have hO : O = nrmF L := uptoF_done HUp.out fun d hd => by
            obtain ⟨m, hm⟩ := List.mem_iff_getElem?.1 hd
            exact hno m d (List.getElem?_eq_some_iff.1 hm).1 hm
          have x0 : wr.cell? ⟨g, 0, none⟩ = some (.int .i64 vars) := hw5g.cell 0
          have r0 : wr.cell? ⟨w.heap.size + 1, 0, none⟩ = some (.int .i64 0) := hr5.cell 0
          have r1 : wr.cell? ⟨w.heap.size + 1, 1, none⟩ = some (.slice none 0 0) := hr5.cell 1
          have f0 := hr5.frozen 0
          have f1 := hr5.frozen 1
          have HRR := Lib.hid ((hr5.store 0 (.int .i64 vars)).store 1 (.slice Av n cv)); have HOwn2 := Lib.hid (OwnRows.on HOwn.out hbw); have HBx := Lib.hid hBx; have HO := Lib.hid hO
          clear hr5 hw5g hkx hBx hno hO hbw hlt HAt
          go_wp2_with fail
          refine bodyPost_ret (results_cell_row rfl _ _ (w.heap.size + 1) 40 _ (0, 0) _ rfl HRR.out Tryz.underlying40 rfl (by kernel_rfl)) rfl ?_
          refine ⟨_, rfl, ?_, (HBx.out.setCell (p := ⟨w.heap.size + 1, 0, none⟩) (by simp) _).setCell (p := ⟨w.heap.size + 1, 1, none⟩) (by simp) _⟩
          rw [← HO.out]
          exact (HOwn2.out.kept (K := fun i => i = w.heap.size + 1) (((Keeps.refl (fun i => i = w.heap.size + 1) wr).setCell (p := ⟨w.heap.size + 1, 0, none⟩) (.inl rfl) _).setCell (p := ⟨w.heap.size + 1, 1, none⟩) (.inl rfl) _) (fun i h => by omega)).less (by omega)
        · obtain ⟨bc, oc, Ac, cc, rfl, hbc, hcc2, hIc⟩ := HAt.out i c hic
          have hcc2 := (hBx.cell (p := ⟨bc, oc + i, none⟩) (Nat.lt_of_lt_of_le hbc hC)).trans hcc2
          have hcr := rightB_of (HZ.out c (List.mem_of_getElem? hic))
          have hup := uptoF_next HUp.out (List.mem_of_getElem? hic) hcc fun d hd hd2 => by
            obtain ⟨m, hm⟩ := List.mem_iff_getElem?.1 hd
            exact hle m d (List.getElem?_eq_some_iff.1 hm).1 hm hd2
          have hii : (i : Int) < (L.length : Int) := by omega
          have hi0 : (0 : Int) ≤ (i : Int) := by omega
          have hneg : ¬ (i : Int) < 0 := by omega
          obtain ⟨svs, hrow, hinr⟩ := OwnRows.on HOwn.out hbw
          rw [cells5_len, HN.out] at hrow
          have hlw2 : g < wr.heap.size := hw5g.lt
          have hgo : ∀ b, (Value.slice Av n cv).ownBlock = some b → g + 1 ≤ b ∧ b < wr.heap.size := fun b hb => hrow.lt b hb
          have hcl : ∀ W, Below wr.heap.size wr W → Calls Tryz.prog 57 #[.slice Ac c.length cc] W (GivesE 3 W (normL c)) := fun W hb => ref_norm C _ c (by omega) hcr.2 W (Nat.le_trans hC (Nat.le_trans hBx.size hb.size)) (((hIc.below (hBx.mono hC)).below (hb.mono (Nat.le_trans hC hBx.size))).ints)
          have hnl : (normL c).length ≤ 4096 := Nat.le_trans (norm_length c) hcr.1
          obtain ⟨Z, hZe⟩ : ∃ Z, normL c = Z := ⟨_, rfl⟩
          rw [hZe] at hcl hup hnl
          have HCl := Lib.hid hcl; have HRow := Lib.hid hrow; have HInr := Lib.hid hinr; have HKp2 := Lib.hid hkx; have HWh2 := Lib.hid hw5g; have HGo := Lib.hid hgo; have HUp2 := Lib.hid hup
          have hnn : n ≤ 262144 := by omega
          have HNl := Lib.hid (show n = (cells5 O).length by rw [cells5_len, HN.out])
          clear hcl hrow hinr hkx hw5g hgo hup hbc hic hcc hle hIc hcr hZe hBx hr5 hbw HAt HZ hlt
          go_upto_region 12 with fail
          go_region_law (first
            | (refine step_append_lies _ (by rfl) _ _ 23 (by rfl) (g + 1) 22 i0 _ 1 24 Tryz.underlying23 hi hz0 hz1 hz2 (by rfl) (by decide) _ n svs (by rfl) (by repeat (first | exact HS5.out | apply World.ownsRow.drew | apply World.ownsRow.alloc)) _ 1 1 [.slice A5 Z.length c5] (by rfl) (by rfl) (World.news_of_block (cs := #[.slice A5 Z.length c5]) (t := 22) (fr := (0, 0)) (heap_alloc_new _ _)) (by simp [Value.oneCell']) (by decide) (by unfold maxLen; omega) (by omega) (by simp; omega) _ rfl ?_; intro gg cap w7 hown7 hg7 hloc hl7; have hw7 : Whole w7 g 40 #[.int .i64 vars, .slice Av n cv] := whole_grown hg7 (fun e => by have := HGo.out g e.symm; omega) (by repeat (first | exact HW5.out | apply whole_drew | apply whole_alloc)); have g7 : w7.cell? ⟨g, 1, none⟩ = some (.slice Av n cv) := hw7.cell 1; have f7 : w7.frozen? ⟨g, 1, none⟩ = false := hw7.frozen 1; have HO7 := Lib.hid hown7; have HG7 := Lib.hid hg7; have HLoc := Lib.hid hloc; have HW7 := Lib.hid hw7; clear hown7 hg7 hloc hw7)
            | (go_simp; go_at_call 57; (with_reducible refine (HCl.out _ (Below.refl _ _).drew).mono ?_); rintro r w5 ⟨v5, rfl, hr5, hb5⟩; obtain ⟨A5, c5, rfl⟩ := own_shape0 hr5; have hb5' : Below wr.heap.size wr w5 := (Below.refl _ _).drew.trans hb5; have hl5 : wr.heap.size ≤ w5.heap.size := hb5'.size; have g5 : w5.cell? ⟨g, 1, none⟩ = some (.slice Av n cv) := (hb5'.cell (p := ⟨g, 1, none⟩) hlw2).trans g1; have HS5 := Lib.hid (owns_on5 HRow.out hb5'); have HR5 := Lib.hid hr5; have HB5 := Lib.hid hb5'; have HW5 := Lib.hid (HWh2.out.same (hb5'.block g hlw2)); have g6 : (w5.alloc (.cells #[.slice A5 Z.length c5] 22)).cell? ⟨g, 1, none⟩ = some (.slice Av n cv) := (whole_alloc HW5.out _).cell 1; clear hr5 hb5 hb5'))
          all_goals
            obtain ⟨p1, p2, p3⟩ := field_push _ HWh2.out HRow.out HInr.out HKp2.out HB5.out HR5.out (Nat.le_refl _) HG7.out HO7.out HLoc.out HW7.out HNl.out (fun i hv hi => by have := (HGo.out i hv).1; have := HS4.out; omega)
            rw [← cells5_one] at p2
            have HP := Lib.hid (And.intro p1 (And.intro p2 p3))
            clear p1 p2 p3 HO7 HG7 HLoc HW7 HS5 HR5 HB5 HW5 g5 g6 g7 f7
            go_wp2_with fail
            go_roundg (L.length - n)
            case measure => have h1 := HQ.out; have h2 := HN.out; omega
            case rel => exact ⟨O ++ [Z], _, by rw [List.length_append, List.length_singleton, HN.out]; omega, HP.out.1, HP.out.2.1, HUp2.out, HP.out.2.2⟩
end Go.Proofs.YtgoflapolglfcaaGreat
