/- The reference of formulas: Fails, Check. -/
import Derived.Test.YtgoflapolglfcaaGreatFoMath
import Derived.Test.YtgoflapolglfcaaGreatRef02
import Derived.Test.YtgoflapolglfcaaGreatFoMem
import Derived.Deep.QuietTactic
import Derived.BigQuiet
import Derived.Test.YtgoflapolglfcaaGreatRefHolds
import Derived.Test.YtgoflapolglfcaaGreatRefMore
namespace Go.Proofs.YtgoflapolglfcaaGreat
open Go.RowKit Go.ChangeAt Go.ChangeShapes Go.WideShapes

def FailRel (ms : List Int) (L : List (List Int)) (i : Value) : Prop := ∃ k : Nat, k ≤ L.length ∧ i = .int .i64 k ∧ ∀ (m : Nat) (ys : List Int), m < k → L[m]? = some ys → holdF ys ms = true
set_option maxRecDepth 100000 in
set_option maxHeartbeats 2000000 in
theorem ref05_fails {C : Nat} {v mv : Value} {L : List (List Int)} {ms : List Int} (vars : Int) (w : World) (hC : C ≤ w.heap.size) (hn : L.length ≤ 1000000000) (hz : ∀ zs ∈ L, zs.length ≤ 1000000000) (hL : RowsI C w v L) (hm : Ints C w mv ms) :
    Calls Tryz.prog 23 #[.agg #[.int .i64 vars, v], mv] w fun e w' => e = .returned (.int .i64 (failI ms 0 L)) ∧ Below w.heap.size w w' := by
  obtain ⟨A, cap, rfl, hat⟩ := hL.shape
  have b1 := below1a w (.cells #[.int .i64 vars, .slice A L.length cap] 40)
  have m1 := Whole.made w 40 #[.int .i64 vars, .slice A L.length cap]
  have hm1 := hm.below (b1.mono hC)
  obtain ⟨w1, hw1⟩ : ∃ y, w.alloc (.cells #[.int .i64 vars, .slice A L.length cap] 40) = y := ⟨_, rfl⟩
  rw [hw1] at b1 m1 hm1
  have c1 : w1.cell? ⟨w.heap.size, 1, none⟩ = some (.slice A L.length cap) := m1.cell 1
  have HB := Lib.hid b1; have HW := Lib.hid hw1; have HAt := Lib.hid hat; have HM := Lib.hid hm1; have HZ := Lib.hid hz
  clear b1 m1 hm1 hw1 hat hL hm hz
  go_enter Tryz.func23, Tryz.ntmps23
  go_wp2_with fail
  rw [HW.out]
  go_loop [5] (fun i => FailRel ms L i) (fun i => L.length - (intOf i).toNat)
  case atStart => exact ⟨0, Nat.zero_le _, rfl, fun m ys hm => by omega⟩
  case round =>
    obtain ⟨k, hk, rfl, hall⟩ := hrel
    by_cases hlt : k < L.length
    · obtain ⟨zs, hx⟩ : ∃ zs, L[k]? = some zs := ⟨_, List.getElem?_eq_getElem hlt⟩
      obtain ⟨b, off, As, cs, rfl, hb, hc, hI⟩ := HAt.out k zs hx
      have hc := (HB.out.cell (p := ⟨b, off + k, none⟩) (Nat.lt_of_lt_of_le hb hC)).trans hc
      have hh := ref05_holds w1 (HZ.out zs (List.mem_of_getElem? hx)) (hI.below (HB.out.mono hC)) HM.out
      have hki : (k : Int) < (L.length : Int) := by omega
      have HH := Lib.hid hh; have HAll := Lib.hid hall; have HX := Lib.hid hx; have HNx := Lib.hid hlt
      clear hh hI hall hx hb HAt HM HZ
      cases hf : holdF zs ms
      · have HF := Lib.hid (failI_at (ms := ms) L 0 k zs HX.out HAll.out hf)
        have HFa := Lib.hid hf
        clear hf
        go_wp2_with fail
        refine (HH.out).mono ?_
        rintro e w' ⟨rfl, rfl⟩
        rw [HFa.out]
        go_wp2_with fail
        go_ret
        exact ⟨by rw [HF.out, Nat.zero_add]; rfl, HB.out⟩
      · have HFa := Lib.hid hf
        clear hf
        go_wp2_with fail
        refine (HH.out).mono ?_
        rintro e w' ⟨rfl, rfl⟩
        rw [HFa.out]
        go_wp2_with fail
        go_round
        case rel => exact ⟨k + 1, HNx.out, by go_num, fun m ys hm hy => by
          rcases Nat.lt_or_ge m k with h | h
          · exact HAll.out m ys h hy
          · obtain rfl : m = k := by omega
            rw [HX.out] at hy
            cases hy
            exact HFa.out⟩
        case measure => simp [intOf]; omega
    · obtain rfl : k = L.length := by omega
      have HF := Lib.hid (failI_no (ms := ms) L 0 (fun zs hzs => by
        obtain ⟨m, hm⟩ := List.mem_iff_getElem?.1 hzs
        exact hall m zs (List.getElem?_eq_some_iff.1 hm).1 hm))
      clear hall HAt HM HZ
      go_wp2_with fail
      go_ret
      exact ⟨by rw [HF.out]; rfl, HB.out⟩
def ChkRel (vars : Int) (L : List (List Int)) (w1 : World) (i : Value) (wr : World) : Prop := ∃ k : Nat, k ≤ L.length ∧ i = .int .i64 k ∧ (∀ (m : Nat) (ys : List Int), m < k → L[m]? = some ys → badE vars ys = 0) ∧ Below w1.heap.size w1 wr
def ChkIn (vars : Int) (zs : List Int) (w1 : World) (i : Value) (wr : World) : Prop := ∃ k : Nat, k ≤ zs.length ∧ i = .int .i64 k ∧ (∀ l ∈ zs.take k, varI l ≤ vars) ∧ Below w1.heap.size w1 wr
set_option maxRecDepth 100000 in
set_option maxHeartbeats 2000000 in
theorem ref05_check {C : Nat} {v : Value} {L : List (List Int)} (vars : Int) (w : World) (hC : C ≤ w.heap.size) (hn : L.length ≤ 1000000000) (hz : ∀ zs ∈ L, zs.length ≤ 1000000000) (hL : RowsI C w v L) :
    Calls Tryz.prog 15 #[.agg #[.int .i64 vars, v]] w fun e w' => e = .returned (.tuple #[.int .i64 (chkI vars L).1, .int .i64 (chkI vars L).2]) ∧ Below w.heap.size w w' := by
  obtain ⟨A, cap, rfl, hat⟩ := hL.shape
  have b1 := below1a w (.cells #[.int .i64 vars, .slice A L.length cap] 40)
  have m1 := Whole.made w 40 #[.int .i64 vars, .slice A L.length cap]
  obtain ⟨w1, hw1⟩ : ∃ y, w.alloc (.cells #[.int .i64 vars, .slice A L.length cap] 40) = y := ⟨_, rfl⟩
  rw [hw1] at b1 m1
  have c0 : w1.cell? ⟨w.heap.size, 0, none⟩ = some (.int .i64 vars) := m1.cell 0
  have c1 : w1.cell? ⟨w.heap.size, 1, none⟩ = some (.slice A L.length cap) := m1.cell 1
  have HB := Lib.hid b1; have HW := Lib.hid hw1; have HAt := Lib.hid hat; have HZ := Lib.hid hz; have HL1 := Lib.hid m1.lt
  clear b1 m1 hw1 hat hL hz
  obtain ⟨r1, hr1⟩ : ∃ r, (chkI vars L).1 = r := ⟨_, rfl⟩
  obtain ⟨r2, hr2⟩ : ∃ r, (chkI vars L).2 = r := ⟨_, rfl⟩
  rw [hr1, hr2]
  by_cases hv : vars < 0 ∨ 1048576 < vars
  · rw [chkI_vars hv] at hr1 hr2
    dsimp only at hr1 hr2
    subst hr1 hr2
    rcases hv with hv | hv
    all_goals
      clear HAt HZ
      go_enter Tryz.func15, Tryz.ntmps15
      go_wp2_with fail
      rw [HW.out]
      go_ret2
      exact ⟨rfl, HB.out⟩
  · have HV := Lib.hid hv
    have hv1 : ¬ vars < 0 := by omega
    have hv2 : ¬ 1048576 < vars := by omega
    clear hv
    by_cases hm : 262144 < L.length
    · rw [chkI_many HV.out hm] at hr1 hr2
      dsimp only at hr1 hr2
      subst hr1 hr2
      have hmi : (262144 : Int) < (L.length : Int) := by omega
      clear HAt HZ hm
      go_enter Tryz.func15, Tryz.ntmps15
      go_wp2_with fail
      rw [HW.out]
      go_ret2
      exact ⟨rfl, HB.out⟩
    · have HM := Lib.hid hm
      have HR1 := Lib.hid hr1; have HR2 := Lib.hid hr2
      have hmi : ¬ (262144 : Int) < (L.length : Int) := by omega
      clear hm hr1 hr2
      go_enter Tryz.func15, Tryz.ntmps15
      go_wp2_with fail
      rw [HW.out]
      go_loopw [4] (fun i wr => ChkRel vars L w1 i wr) (fun i _ => L.length - (intOf i).toNat)
      case atStart => exact ⟨0, Nat.zero_le _, rfl, (fun m ys hm => by omega), Below.refl _ _⟩
      case round =>
        obtain ⟨k, hk, rfl, hall, hB1⟩ := hrel
        have hlt1 : w.heap.size < w1.heap.size := HL1.out
        have c0 := (hB1.cell (p := ⟨w.heap.size, 0, none⟩) hlt1).trans c0
        have c1 := (hB1.cell (p := ⟨w.heap.size, 1, none⟩) hlt1).trans c1
        have HBf := Lib.hid (below_cat HB.out hB1); have HB1 := Lib.hid hB1
        by_cases hlt : k < L.length
        · obtain ⟨zs, hx⟩ : ∃ zs, L[k]? = some zs := ⟨_, List.getElem?_eq_getElem hlt⟩
          obtain ⟨b, off, As, cs, rfl, hb, hc, hI⟩ := HAt.out k zs hx
          have hc := (HBf.out.cell (p := ⟨b, off + k, none⟩) (Nat.lt_of_lt_of_le hb hC)).trans hc
          have hI1 := hI.below (HBf.out.mono hC)
          have hzl := HZ.out zs (List.mem_of_getElem? hx)
          have hri := ref02_right C _ zs (by omega) wr hI1
          obtain ⟨_, _, esh, hcz⟩ := ints_shape hI1
          cases esh
          have hki : (k : Int) < (L.length : Int) := by omega
          have HRi := Lib.hid hri; have HAll := Lib.hid hall; have HX := Lib.hid hx; have HNx := Lib.hid hlt; have HCz := Lib.hid hcz; have HCC := Lib.hid hC; have HL := Lib.hid hlt1
          clear hri hI hI1 hall hx hb HAt HZ hcz hB1 hlt1
          cases hr : rightB zs
          · have HF := Lib.hid (chkI_at HV.out HM.out HX.out HAll.out (badE_none hr) (by decide))
            have HRr := Lib.hid hr
            clear hr
            go_wp2_with fail
            refine (HRi.out).mono ?_
            rintro e w' ⟨rfl, rfl⟩
            rw [HRr.out]
            go_wp2_with fail
            go_ret2
            exact ⟨by rw [← HR1.out, ← HR2.out, HF.out]; rfl, HBf.out⟩
          · have HRr := Lib.hid hr
            clear hr
            go_wp2_with fail
            refine (HRi.out).mono ?_
            rintro e w' ⟨rfl, rfl⟩
            rw [HRr.out]
            clear HRi
            go_wp2_with fail
            obtain ⟨w2, rfl⟩ : ∃ y : World, y = wr := ⟨_, rfl⟩
            go_loopw [6] (fun i wq => ChkIn vars zs w2 i wq) (fun i _ => zs.length - (intOf i).toNat)
            case atStart => exact ⟨0, Nat.zero_le _, rfl, (fun l hl => by cases hl), Below.refl _ _⟩
            case round =>
              obtain ⟨q, hq, rfl, hin, hB2⟩ := hrel
              have hs2 : w1.heap.size ≤ w2.heap.size := HB1.out.size
              have c0 := (hB2.cell (p := ⟨w.heap.size, 0, none⟩) (Nat.lt_of_lt_of_le HL.out hs2)).trans c0
              have c1 := (hB2.cell (p := ⟨w.heap.size, 1, none⟩) (Nat.lt_of_lt_of_le HL.out hs2)).trans c1
              by_cases hlq : q < zs.length
              · obtain ⟨bz, oz, rfl, hbz, hck⟩ := HCz.out q hlq
                have hck := (hB2.cell (p := ⟨bz, oz + q, none⟩) (Nat.lt_of_lt_of_le hbz (Nat.le_trans HCC.out HBf.out.size))).trans hck
                have htk := take_one zs hlq
                have hmem := get_mem hlq
                obtain ⟨y, hy⟩ : ∃ y, zs[q]?.getD 0 = y := ⟨_, rfl⟩
                rw [hy] at hck htk hmem
                obtain ⟨u, hu⟩ : ∃ u : Int, varI y = u := ⟨_, rfl⟩
                have hva : ∀ n, Calls Tryz.prog 42 #[.int .i64 y] (wr.drewN n) fun e w' => e = .returned (.int .i64 u) ∧ w' = wr.drewN n := fun n => by
                  have := ref_var y (wr.drewN n)
                  rw [hu] at this
                  exact this.mono fun _ _ ⟨a, b⟩ => ⟨a, b.symm⟩
                have hqi : (q : Int) < (zs.length : Int) := by omega
                have HVa := Lib.hid hva; have HTk := Lib.hid htk; have HMem := Lib.hid hmem; have HU := Lib.hid hu; have HIn := Lib.hid hin; have HNq := Lib.hid hlq; have HB2 := Lib.hid hB2
                clear hva htk hmem hu hin hy HCz hB2 hs2
                by_cases hfar : vars < u
                · have HF := Lib.hid (chkI_at HV.out HM.out HX.out HAll.out (badE_lit HRr.out HMem.out (by rw [HU.out]; exact hfar)) (by decide))
                  go_wp2_with fail
                  go_quiet (first | (go_at_call 42; exact Calls.quiet_of_same (HVa.out _)))
                  go_wp2_with fail
                  go_ret2
                  exact ⟨by rw [← HR1.out, ← HR2.out, HF.out]; rfl, below_drewN (below_cat HBf.out HB2.out) _⟩
                · go_wp2_with fail
                  go_quiet (first | (go_at_call 42; exact Calls.quiet_of_same (HVa.out _)))
                  go_wp2_with fail
                  refine ⟨⟨q + 1, HNq.out, by go_num, fun l hl => ?_, below_drewN HB2.out _⟩, ?_⟩
                  · rw [HTk.out, List.mem_append] at hl
                    rcases hl with hl | hl
                    · exact HIn.out l hl
                    · obtain rfl := List.mem_singleton.1 hl
                      rw [HU.out]
                      omega
                  · simp [intOf]; omega
              · obtain rfl : q = zs.length := by omega
                rw [List.take_length] at hin
                have HBad := Lib.hid (badE_ok HRr.out hin); have HB2 := Lib.hid hB2
                clear hin HCz hB2
                go_wp2_with fail
                refine ⟨⟨k + 1, HNx.out, by go_num, fun m ys hm hy => ?_, below_cat HB1.out HB2.out⟩, ?_⟩
                · rcases Nat.lt_or_ge m k with h | h
                  · exact HAll.out m ys h hy
                  · obtain rfl : m = k := by omega
                    rw [HX.out] at hy
                    cases hy
                    exact HBad.out
                · simp [intOf]; omega
        · obtain rfl : k = L.length := by omega
          have HF := Lib.hid (chkI_ok HV.out HM.out (fun zs hzs => by
            obtain ⟨m, hm⟩ := List.mem_iff_getElem?.1 hzs
            exact hall m zs (List.getElem?_eq_some_iff.1 hm).1 hm))
          clear hall HAt HZ hB1
          go_wp2_with fail
          go_ret2
          exact ⟨by rw [← HR1.out, ← HR2.out, HF.out]; rfl, HBf.out⟩
end Go.Proofs.YtgoflapolglfcaaGreat
