/- The reference of formulas: Holds. -/
import Derived.Test.YtgoflapolglfcaaGreatFoMath
import Derived.Test.YtgoflapolglfcaaGreatRef02
import Derived.Test.YtgoflapolglfcaaGreatFoMem
import Derived.Deep.QuietTactic
import Derived.BigQuiet
namespace Go.Proofs.YtgoflapolglfcaaGreat
open Go.RowKit Go.ChangeAt Go.ChangeShapes Go.WideShapes

def HoldRel (zs ms : List Int) (is i : Value) : Prop := ∃ k : Nat, k ≤ zs.length ∧ is = .bool ((zs.take k).any (satI ms)) ∧ i = .int .i64 k ∧ ∀ l ∈ zs.take k, l.natAbs ≤ ms.length
set_option maxRecDepth 100000 in
set_option maxHeartbeats 2000000 in
theorem ref05_holds {C : Nat} {cv mv : Value} {zs ms : List Int} (w : World) (hz : zs.length ≤ 1000000000) (hc : Ints C w cv zs) (hmi : Ints C w mv ms) : Calls Tryz.prog 53 #[cv, mv] w fun e w' => e = .returned (.bool (holdF zs ms)) ∧ w = w' := by
  have hri := ref02_right C cv zs (by omega) w hc
  obtain ⟨Ac, cc, rfl, hcc⟩ := ints_shape hc
  obtain ⟨Am, cm, rfl, hcm⟩ := ints_shape hmi
  cases hr : rightB zs
  · rw [hr] at hri
    rw [holdF_none hr]
    have HR := Lib.hid hri
    clear hri hr hcc hcm hc hmi
    go_enter Tryz.func53, Tryz.ntmps53
    go_wp2_with fail
    refine (HR.out).mono ?_
    rintro e w' ⟨rfl, rfl⟩
    go_wp2_with fail
    go_ret
    exact ⟨rfl, rfl⟩
  · rw [hr] at hri
    obtain ⟨hl4, hlit⟩ := rightB_of hr
    have HR := Lib.hid hri; have HRt := Lib.hid hr; have HCc := Lib.hid hcc; have HCm := Lib.hid hcm; have HLit := Lib.hid hlit
    clear hri hr hcc hcm hc hmi hlit
    go_enter Tryz.func53, Tryz.ntmps53
    go_wp2_with fail
    refine (HR.out).mono ?_
    rintro e w' ⟨rfl, rfl⟩
    go_wp2_with fail
    go_loop [5, 6] (fun is i => HoldRel zs ms is i) (fun _ i => zs.length - (intOf i).toNat)
    case atStart => exact ⟨0, Nat.zero_le _, rfl, rfl, fun l hl => by cases hl⟩
    case round =>
      obtain ⟨k, hk, rfl, rfl, hall⟩ := hrel
      by_cases hlt : k < zs.length
      · obtain ⟨bc, oc, rfl, -, hck⟩ := HCc.out k hlt
        have htk := take_one zs hlt
        have hmem := get_mem hlt
        obtain ⟨y, hy⟩ : ∃ y, zs[k]?.getD 0 = y := ⟨_, rfl⟩
        rw [hy] at hck htk hmem
        have hly := HLit.out y hmem
        obtain ⟨y0, y1, y2⟩ := litB_of hly
        have hvy : varI y = (y.natAbs : Int) := by unfold varI; rw [hly]; simp only [if_true]; split <;> omega
        obtain ⟨v, hv⟩ : ∃ v : Int, varI y = v := ⟨_, rfl⟩
        rw [hv] at hvy
        have hva := ref_var y w
        rw [hv] at hva
        have HVa := Lib.hid hva
        have v1 : 1 ≤ v := by omega
        have v2 : v ≤ 1048576 := by omega
        by_cases hfar : (ms.length : Int) < v
        · have HF := Lib.hid (holdF_far hmem (by omega : ms.length < y.natAbs))
          clear hva htk hmem hy hly hvy hv hall HCc HCm HLit
          go_wp2_with fail
          refine (HVa.out).mono ?_
          rintro e w' ⟨rfl, rfl⟩
          go_wp2_with fail
          go_ret
          exact ⟨ret_bool HF.out.symm, rfl⟩
        · obtain ⟨bm, om, rfl, -, hmk⟩ := HCm.out (y.natAbs - 1) (by omega)
          have hvn : v.toNat - 1 = y.natAbs - 1 := by omega
          obtain ⟨q, hq⟩ : ∃ q, ms[y.natAbs - 1]?.getD 0 = q := ⟨_, rfl⟩
          rw [hq] at hmk
          rw [← hvn] at hmk
          have hget : ms[y.natAbs - 1]?.getD 2 = q := by rw [← hq, List.getElem?_eq_getElem (by omega)]; rfl
          have hsat : satI ms y = ((decide (q = 1) && decide (0 < y)) || (decide (q = 0) && decide (y < 0))) := by unfold satI; rw [hget]
          have hall2 : ∀ l ∈ zs.take (k + 1), l.natAbs ≤ ms.length := fun l hl => by
            rw [htk, List.mem_append] at hl
            rcases hl with hl | hl
            · exact hall l hl
            · obtain rfl := List.mem_singleton.1 hl
              omega
          have hany : (zs.take (k + 1)).any (satI ms) = ((zs.take k).any (satI ms) || satI ms y) := by rw [htk, any_snoc]
          obtain ⟨b0, hb0⟩ : ∃ b0, (zs.take k).any (satI ms) = b0 := ⟨_, rfl⟩
          rw [hb0] at hany ⊢
          have HSat := Lib.hid hsat; have HAll := Lib.hid hall2; have HAny := Lib.hid hany; have HNx := Lib.hid hlt
          have v3 : v - 1 < (ms.length : Int) := by omega
          have v4 : 0 ≤ v - 1 := by omega
          clear hva htk hmem hy hly hvy hv hall HCc HCm HLit hvn hq hget hsat hall2 hany hb0
          have hcase : (0 < y ∧ ¬ y < 0) ∨ (y < 0 ∧ ¬ 0 < y) := by omega
          have hqc : (q = 1 ∧ q ≠ 0) ∨ (q ≠ 1 ∧ q = 0) ∨ (q ≠ 1 ∧ q ≠ 0) := by omega
          go_wp2_with fail
          refine (HVa.out).mono ?_
          rintro e w' ⟨rfl, rfl⟩
          clear HVa
          rcases hcase with ⟨s1, s2⟩ | ⟨s1, s2⟩ <;> rcases hqc with ⟨t1, t2⟩ | ⟨t1, t2⟩ | ⟨t1, t2⟩
          all_goals
            have q1 : (q == 1) = decide (q = 1) := by rw [Bool.eq_iff_iff]; simp
            have q0 : (q == 0) = decide (q = 0) := by rw [Bool.eq_iff_iff]; simp
            first
              | (have HQ1 := Lib.hid (decide_eq_true t1); rw [decide_eq_true t1] at q1)
              | (have HQ1 := Lib.hid (decide_eq_false t1); rw [decide_eq_false t1] at q1)
            first
              | (have HQ0 := Lib.hid (decide_eq_true t2); rw [decide_eq_true t2] at q0)
              | (have HQ0 := Lib.hid (decide_eq_false t2); rw [decide_eq_false t2] at q0)
            first
              | (have HS1 := Lib.hid (show decide (0 < y) = true ∧ decide (y < 0) = false from ⟨decide_eq_true (by omega), decide_eq_false (by omega)⟩))
              | (have HS1 := Lib.hid (show decide (0 < y) = false ∧ decide (y < 0) = true from ⟨decide_eq_false (by omega), decide_eq_true (by omega)⟩))
            clear t1 t2
            go_wp2_with fail
          all_goals
            go_round
            case rel => exact ⟨k + 1, HNx.out, by rw [HAny.out, HSat.out, HS1.out.1, HS1.out.2, HQ1.out, HQ0.out]; cases b0 <;> rfl, by go_num, HAll.out⟩
            case measure => simp [intOf]; omega
      · obtain rfl : k = zs.length := by omega
        rw [List.take_length] at hall ⊢
        have HF := Lib.hid (holdF_near HRt.out hall)
        clear hall HCc HCm HLit
        go_wp2_with fail
        go_ret
        exact ⟨ret_bool HF.out.symm, rfl⟩
end Go.Proofs.YtgoflapolglfcaaGreat
