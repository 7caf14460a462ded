/- The law FormulaSmall: its walk. -/
/- The law FormulaSmall of layer salvorlaw05 holds for every input.
   Conditions: none beyond those of the given row. -/
import Derived.Test.YtgoflapolglfcaaGreatFsTail
import Derived.Test.YtgoflapolglfcaaGreatPlain
namespace Go.Proofs.YtgoflapolglfcaaGreat.formulaSmall
open Go.RowKit Go.ChangeAt Go.ChangeShapes Go.WideShapes Go.Shelf Go.Sort

/-- Between rounds: so many clauses are done, beside some that are looked at. -/
def R1 (w : World) (b : Nat) (i : Value) (wr : World) : Prop := ∃ k : Nat, k ≤ 16 ∧ i = .int .i64 k ∧ Sx w wr b
def R2 (w : World) (b : Nat) (sa : Value) (za : List Int) (i : Value) (wr : World) : Prop := ∃ k : Nat, k ≤ 16 ∧ i = .int .i64 k ∧ Sx w wr b ∧ Lits wr.heap.size wr sa za
def R3 (w : World) (b : Nat) (sa sb : Value) (za zb : List Int) (i : Value) (wr : World) : Prop := ∃ k : Nat, k ≤ 4 ∧ i = .int .i64 k ∧ Sx w wr b ∧ Lits wr.heap.size wr sa za ∧ Lits wr.heap.size wr sb zb
theorem two_bools {W : World} {g : Nat} {T : TypeId} {p q : Bool} (h : Whole W g T #[.bool p, .bool q]) : Bools W.heap.size W (.slice (some ⟨g, 0, none⟩) 2 2) [p, q] := bools_block [p, q] h h.lt
set_option maxRecDepth 100000 in
set_option maxHeartbeats 4000000 in
theorem formulaSmall_walk (w : World) : Calls Tryz.prog 3 #[] w fun e w' => e = .returned (.bool true) ∧ Below w.heap.size w w' := by
  have hst := sx_start w 3 22
  simp only [sixL, List.drop_succ_cons, List.drop_zero, layR, svsR, List.map_cons, List.map_nil, List.length_cons, List.length_nil, Nat.zero_add, Nat.reduceAdd] at hst
  obtain ⟨M, hM, hmn⟩ := mk_nils
  have HSt := Lib.hid hst; have HM := Lib.hid hM; have HMn := Lib.hid hmn
  clear hst hM hmn
  go_enter Tryz.func3, Tryz.ntmps3
  go_wp2_with fail
  obtain ⟨b, hb⟩ : ∃ x, w.heap.size + 1 + 1 + 1 + 1 + 1 + 1 + 1 + 1 + 1 + 1 + 1 + 1 + 1 + 1 + 1 = x := ⟨_, rfl⟩
  rw [hb] at HSt ⊢
  clear hb
  go_loopw [38] (fun i wr => R1 w b i wr) (fun i _ => 16 - (intOf i).toNat)
  case atStart => exact ⟨0, by omega, rfl, HSt.out⟩
  case round =>
    clear HSt
    obtain ⟨i, hi, rfl, hS⟩ := hrel
    by_cases hlt : i < 16
    · obtain ⟨za, Aa, ca, hza, hca, hla⟩ := hS.at hlt
      have hii : (i : Int) < 16 := by omega
      have hi0 : (0 : Int) ≤ (i : Int) := by omega
      have HS := Lib.hid hS; have HLa := Lib.hid hla; have HZa := Lib.hid hza; have HLt := Lib.hid hlt
      clear hS hla hza hlt hi
      go_wp2_with fail
      go_loopw [45] (fun k wr => R2 w b (.slice Aa za.length ca) za k wr) (fun k _ => 16 - (intOf k).toNat)
      case atStart => exact ⟨0, by omega, rfl, HS.out, HLa.out⟩
      case round =>
        clear HS HLa hca
        obtain ⟨k, hk, rfl, hS, hla⟩ := hrel
        by_cases hlt : k < 16
        · obtain ⟨zb, Ab, cb, hzb, hcb, hlb⟩ := hS.at hlt
          have hki : (k : Int) < 16 := by omega
          have hk0 : (0 : Int) ≤ (k : Int) := by omega
          have hzz : ∀ zs ∈ [za, zb], zs.length ≤ 1000 := fun zs h => by
            have := HZa.out
            rcases List.mem_cons.1 h with rfl | h
            · omega
            · rw [List.mem_singleton.1 h]; omega
          have hz3 : ∀ zs ∈ [za, zb, za], zs.length ≤ 1000 := fun zs h => by
            have := HZa.out
            rcases List.mem_cons.1 h with rfl | h
            · omega
            · exact hzz zs (by rcases List.mem_cons.1 h with rfl | h; exact .tail _ (.head _); rw [List.mem_singleton.1 h]; exact .head _)
          have HS := Lib.hid hS; have HLa := Lib.hid hla; have HLb := Lib.hid hlb; have HZb := Lib.hid hzb; have HLk := Lib.hid hlt; have HZz := Lib.hid hzz; have HZ3 := Lib.hid hz3
          clear hS hla hlb hzb hlt hk hzz hz3
          go_wp2_with fail
          go_loopw [50] (fun n wr => R3 w b (.slice Aa za.length ca) (.slice Ab zb.length cb) za zb n wr) (fun n _ => 4 - (intOf n).toNat)
          case atStart => exact ⟨0, by omega, rfl, HS.out, HLa.out, HLb.out⟩
          case round =>
            clear HS HLa HLb hcb
            obtain ⟨n, hn, rfl, hS, hla, hlb⟩ := hrel
            by_cases hlt : n < 4
            · have hni : (n : Int) < 4 := by omega
              have hn0 : (0 : Int) ≤ (n : Int) := by omega
              have HS := Lib.hid hS; have HLa := Lib.hid hla; have HLb := Lib.hid hlb; have HLn := Lib.hid hlt
              clear hS hla hlb hlt hn
              go_wp2_with fail
              refine (sm_of2 2 (Whole.made _ _ _) (Lits.on (below_b1 _ _) HLa.out) (Lits.on (below_b1 _ _) HLb.out) HZa.out HZb.out).mono ?_
              rintro e w5 ⟨A5, c5, rfl, hr5, hb5⟩
              have HR5 := Lib.hid hr5; have HB5 := Lib.hid (below_cat (below_b1 wr (.cells #[.slice Aa za.length ca, .slice Ab zb.length cb] 22)) hb5)
              clear hr5 hb5
              go_wp2_with fail
              refine (sm_tells 2 _ (L := [za, zb]) (by simp) (HZz.out) (x := [_, _]) (by simp) ((RowsV.below (below_b1 _ _) HR5.out).more (below_b1 _ _).size) (two_bools (Whole.made _ _ _))).mono ?_
              rintro e w6 ⟨rfl, hb6⟩
              have HB6 := Lib.hid (below_cat (below_cat HB5.out (below_b1 w5 _)) hb6)
              clear hb6
              go_wp2_with fail
              go_roundw
              case rel => exact ⟨n + 1, HLn.out, by go_num, HS.out.on HB6.out, Lits.on HB6.out HLa.out, Lits.on HB6.out HLb.out⟩
              case measure => simp [intOf]; have := HLn.out; omega
            · obtain rfl : n = 4 := by omega
              have HS := Lib.hid hS; have HLa := Lib.hid hla; have HLb := Lib.hid hlb
              clear hS hla hlb hlt hn
              obtain ⟨q, hq⟩ : ∃ q : Nat, Int.tmod (k : Int) 4 = (q : Int) := ⟨k % 4, by rw [Int.tmod_eq_emod_of_nonneg (by omega)]; omega⟩
              have hq3 : q ≤ 3 := by have := Int.tmod_eq_emod_of_nonneg (a := (k : Int)) (b := 4) (by omega); omega
              have hmk := fun W => mk_falses q (by omega) W
              have HQ := Lib.hid hq3
              clear hq3
              obtain ⟨r, hr⟩ : ∃ r : Nat, Int.tmod ((i : Int) + (k : Int)) 4 = (r : Int) := ⟨(i + k) % 4, by rw [Int.tmod_eq_emod_of_nonneg (by omega)]; omega⟩
              have hr3 : (r : Int) ≤ 3 := by have := Int.tmod_eq_emod_of_nonneg (a := (i : Int) + (k : Int)) (b := 4) (by omega); omega
              have hr0 : (0 : Int) ≤ (r : Int) := by omega
              go_wp2_with fail
              go_region_held3 (fun _ => True) (trivial) (first
                | (go_at_call 5; (with_reducible refine (sm_of3a _ HLa.out HLb.out HZa.out HZb.out).mono ?_); rintro e w5 ⟨A5, c5, rfl, hr5, hb5⟩; have HR5 := Lib.hid hr5; have HB5 := Lib.hid hb5; clear hr5 hb5)
                | (go_at_call 5; (with_reducible refine (sm_of3b _ q HLa.out HLb.out HZa.out HZb.out).mono ?_); rintro e w5 ⟨A5, c5, rfl, hr5, hb5, hm5⟩; have HR5 := Lib.hid hr5; have HB5 := Lib.hid hb5; have HM5 := Lib.hid hm5; clear hr5 hb5 hm5)
                | (go_at_call 5; (with_reducible refine (sm_of3c _ q HLa.out HLb.out HZa.out HZb.out).mono ?_); rintro e w5 ⟨A5, c5, rfl, hr5, hb5, hm5⟩; have HR5 := Lib.hid hr5; have HB5 := Lib.hid hb5; have HM5 := Lib.hid hm5; clear hr5 hb5 hm5)
                | (go_at_call 4; (with_reducible refine (sm_tells_new _ _ q (by simp) HZ3.out (by have := HQ.out; omega) HR5.out).mono ?_); rintro e w6 ⟨rfl, hb6⟩; have HB6 := Lib.hid (below_cat HB5.out hb6); clear hb6)
                | (go_at_call 4; (with_reducible refine (sm_tells_old _ _ q (by simp) HZ3.out (by have := HQ.out; omega) HR5.out HM5.out).mono ?_); rintro e w6 ⟨rfl, hb6⟩; have HB6 := Lib.hid (below_cat HB5.out hb6); clear hb6))
              all_goals
                go_wp2_with fail
                go_roundw
                case rel => exact ⟨k + 1, HLk.out, by go_num, HS.out.on HB6.out, Lits.on HB6.out HLa.out⟩
                case measure => simp [intOf]; have := HLk.out; omega
        · obtain rfl : k = 16 := by omega
          have HS := Lib.hid hS
          clear hS hla hlt hk
          go_wp2_with fail
          go_roundw
          case rel => exact ⟨i + 1, HLt.out, by go_num, HS.out⟩
          case measure => simp [intOf]; have := HLt.out; omega
    · obtain rfl : i = 16 := by omega
      have HS := Lib.hid hS
      clear hS hlt hi
      repeat (first | exact tl_whole (f := Tryz.f3) 3 rfl rfl (fs_tail _ rfl w _ HS.out.below) | go_step)
end Go.Proofs.YtgoflapolglfcaaGreat.formulaSmall
namespace Go.Proofs.YtgoflapolglfcaaGreat.formulaSmall
open Go.ChangeShapes Go.WideShapes Go.ChangeAt Go.RowKit

set_option maxRecDepth 100000 in
theorem lifted (os : Os) (started : os.Started) (H : Type) (enc : TypeId × Value → H) :
    ReturnsInHanded {} Tryz.checked os 3 .any (Rows.formulaSmallSpec.pre6 enc Tryz.prog Tryz.f3 Rows.formulaSmallRow.domain false) (Rows.formulaSmallSpec.post enc Tryz.prog Tryz.f3 false true false false) := by
  refine returnsInHanded_of_change (C := Tryz.checked) own started (by kernel_rfl) Tryz.func3
    (ChangeSpec.witness6 (enc := enc) (C := Tryz.checked) false ⟨#[], #[], []⟩ 8 (by kernel_rfl) (by kernel_rfl) (by kernel_rfl) (by kernel_rfl)) ?_
  intro W base args ds gs before hval0 hW hcnd _
  have hval : ∀ (j : Nat) t v, Tryz.f3.params[j]? = some t → args[j]? = some v → Value.okWide Tryz.prog W .any base t v := hval0
  have hW' := hW
  obtain ⟨p, q, hA0, hV, rfl, hfz, hnd⟩ := hW
  have hA : DataW.TrodAll enc Tryz.prog W 0 (fun _ => true) true Tryz.f3.params.toList args.toList ds p := hA0
  rw [Tryz.params3] at hA hval
  obtain ⟨hargs, rfl, rfl⟩ := trodAll_nil hA
  obtain rfl : args = #[] := Array.toList_inj.1 hargs
  obtain ⟨rfl, rfl⟩ := trodVars_none hV
  clear hA0 hval0
  simp only [List.append_nil] at hW'
  refine (formulaSmall_walk W ).mono fun e W' ⟨he, hg⟩ => ?_
  subst he
  exact ⟨_, rfl, law_post laidOut hW' rfl rfl rfl Tryz.underlying4 (params_ok (by kernel_rfl)) hg⟩

theorem said : Rows.FormulaSmallSaid :=
  OpenClaim.holds_of_wide 3 Tryz.f3 rfl rfl rfl rfl rfl rfl rfl ⟨rfl, rfl, rfl, rfl, rfl⟩ rfl rfl rfl rfl rfl (by kernel_rfl) Tryz.func3 (by kernel_rfl)
    (of_decide_eq_true (by kernel_rfl)) (by unfold Func.isWrapper; first | (rw [if_pos (by decide +kernel)]; kernel_rfl) | (rw [if_neg (by decide +kernel)]; exact ⟨rfl, rfl⟩))
    (fun os started H enc _ => lifted os started H enc)
end Go.Proofs.YtgoflapolglfcaaGreat.formulaSmall
