/- The law FormulaBack: its walk. -/
import Derived.Test.YtfbmagmelebkbaaFoAwake
import Derived.Test.YtfbmagmelebkbaaFoContains
namespace Go.Proofs.Ytfbmagmelebkbaa.formulaBack
open Go.RowKit Go.ChangeAt Go.ChangeShapes Go.WideShapes Go.Shelf Go.Sort

def BkRel (n : Nat) (w5 : World) (i : Value) (wr : World) : Prop := ∃ j : Nat, j ≤ n ∧ i = .int .i64 j ∧ Below w5.heap.size w5 wr
theorem hold_one {C : Nat} {W : World} {bs : List Bool} {mv : Value} (x : Int) (hbl : bs.length ≤ 300) (hC : C ≤ W.heap.size) (hm : Bools C W mv bs) (T : TypeId) :
    Calls Try.prog 12 #[.slice (some ⟨W.heap.size, 0, none⟩) 1 1, mv] (W.alloc (.cells #[.int .i64 x] T)) fun e w' => e = .returned (.bool (holdP [x] bs)) ∧ Below W.heap.size W w' := by
  have hb := below1a W (.cells #[.int .i64 x] T)
  have hn := Whole.made W T #[.int .i64 x]
  exact (foholds_any (zs := [x]) (W.alloc (.cells #[.int .i64 x] T)) (Nat.le_refl _) (by simp) (by omega) (lits_block [x] hn hn.lt) ((hm.below (hb.mono hC)).more (Nat.le_trans hC hb.size))).mono fun e w' ⟨he, hB⟩ => ⟨he, hb.trans (hB.mono hb.size)⟩
theorem bools_part {W : World} {g n c base : Nat} {xs : List Bool} {e : TypeId} (h : W.ownsRow base e 1 (.slice (some ⟨g, 0, none⟩) n c) n (xs.map Value.bool)) (off m c' : Nat) (hm : off + m ≤ xs.length) : Bools W.heap.size W (.slice (some ⟨g, off, none⟩) m c') ((xs.drop off).take m) := by
  have hl : xs.length = n := by simpa using h.1
  refine .inr ⟨g, off, c', by simp; omega, (h.lt g rfl).2, fun j hj => ?_⟩
  have hj' : j < m := by simp at hj; omega
  refine ⟨?_, h.frozenAt _⟩
  rw [h.cellAt (off + j) (by omega), List.getElem?_map, List.getElem?_map, List.getElem?_take_of_lt hj', List.getElem?_drop]
set_option maxRecDepth 100000 in
set_option maxHeartbeats 4000000 in
theorem formulaBack_walk (mv : Value) (bs : List Bool) (_hl : bs.length ≤ maxLen) (hf : Fits mv) (more : Int) (hw : (Lit.int .u8 more).wf = true) (W : World) (hm : Bools W.heap.size W mv bs) :
    Calls Try.prog 5 #[mv, .int .u8 more] W fun e w' => e = .returned (.bool true) ∧ Below W.heap.size W w' := by
  obtain ⟨k, rfl, hk⟩ : ∃ k : Nat, more = (k : Int) ∧ k ≤ 255 := ⟨more.toNat, by have := u8_wf hw; omega, by have := u8_wf hw; omega⟩
  obtain ⟨A, cap, rfl, -⟩ := bools_shape hm
  have HM := Lib.hid hm; have HF := Lib.hid hf
  clear hm hf hw
  by_cases h300 : 300 < bs.length
  · have HAw := Lib.hid (awake_any W)
    go_enter Try.func5, Try.ntmps5
    go_wp2_with fail
    refine HAw.out.mono ?_
    rintro e w' ⟨rfl, hb⟩
    go_wp2_with fail
    go_ret
    exact ⟨rfl, hb⟩
  · go_enter Try.func5, Try.ntmps5
    go_wp2_with fail
    refine (folits_any (by omega) W (Nat.le_refl _) HM.out HF.out).mono ?_
    rintro e w1 ⟨lv, rfl, hr1, hb1⟩
    rw [litsM_len] at hr1
    obtain ⟨A1, c1, rfl⟩ := own_shape0 hr1
    have hI1 : Ints w1.heap.size w1 (.slice A1 bs.length c1) (litsM bs) := (rowV_lits.1 (rowV_own hr1)).ints
    have HI1 := Lib.hid hI1; have HR1 := Lib.hid hr1; have HB1 := Lib.hid hb1
    clear hI1 hr1 hb1
    go_wp2_with fail
    refine (model_any (bs.length : Nat) (by rw [litsM_len]; omega) w1 (Nat.le_refl _) HI1.out).mono ?_
    rintro e w2 ⟨v2, rfl, hr2, hb2⟩
    have hmd := mdl_lits (bs := bs) (n := bs.length) (Nat.le_refl _) (by omega)
    rw [hmd] at hr2 ⊢
    have hmb := modB_lits bs 0
    rw [Nat.add_zero, List.replicate_zero, List.append_nil] at hmb
    rw [if_pos rfl, Int.toNat_natCast, hmb] at hr2
    clear hmd hmb
    obtain ⟨A2, c2, rfl⟩ := own_shape0 hr2
    have HR2 := Lib.hid hr2; have HB2 := Lib.hid hb2
    clear hr2 hb2
    go_wp2_with fail
    have hI2 := HI1.out.on HB2.out
    rw [show (bs.length : Int) + (k : Int) = ((bs.length + k : Nat) : Int) by omega]
    refine (model_any ((bs.length + k : Nat) : Int) (by rw [litsM_len]; omega) w2 (Nat.le_refl _) hI2).mono ?_
    rintro e w3 ⟨v3, rfl, hr3, hb3⟩
    have hmd := mdl_lits (bs := bs) (n := bs.length + k) (by omega) (by omega)
    rw [hmd] at hr3 ⊢
    have hmb := modB_lits bs k
    rw [if_pos rfl, Int.toNat_natCast, hmb] at hr3
    clear hmd hmb
    have hl3 : (bs ++ List.replicate k false).length = bs.length + k := by simp
    rw [hl3] at hr3
    obtain ⟨A3, c3, rfl⟩ := own_shape0 hr3
    have HR3 := Lib.hid hr3; have HB3 := Lib.hid hb3
    clear hr3 hb3 hl3 hI2
    go_wp2_with fail
    have hm3 : Bools w3.heap.size w3 (.slice A bs.length cap) bs := (RowV.below (HB1.out.trans ((HB2.out.trans (HB3.out.mono HB2.out.size)).mono HB1.out.size)) HM.out).more (Nat.le_trans HB1.out.size (Nat.le_trans HB2.out.size HB3.out.size))
    have h23 : Bools w3.heap.size w3 (.slice A2 bs.length c2) bs := ((rowV_own HR2.out).below HB3.out).more HB3.out.size
    have HM3 := Lib.hid hm3
    refine (equal_bools w3 (by omega) h23 hm3).mono ?_
    rintro e w4 ⟨rfl, q4, hw4⟩
    rw [decide_eq_true (rfl : bs = bs)]
    clear hm3 h23
    have hb4 : Below w3.heap.size w3 w4 := by rw [hw4]; exact below_dN _ _
    have HR4 := Lib.hid (owns_on0 HR3.out hb4); have HM4 := Lib.hid ((RowV.below hb4 HM3.out).more hb4.size); have HB4 := Lib.hid (HB3.out.trans (hb4.mono HB3.out.size))
    clear hw4 hb4
    rcases HR4.out.2 with ⟨h30, h31⟩ | ⟨g3, cap3, cur3, h3v, -, hg3, h3n, -, -, -⟩
    · have hb0 : bs = [] := List.eq_nil_of_length_eq_zero (by omega)
      have hk0 : k = 0 := by omega
      have e3 : A3 = none ∧ c3 = 0 := by injection h30 with a b c; exact ⟨a, c⟩
      obtain ⟨rfl, rfl⟩ := e3
      subst hk0
      have hbW : Below W.heap.size W w4 := HB1.out.trans ((HB2.out.trans (HB4.out.mono HB2.out.size)).mono HB1.out.size)
      have HBW := Lib.hid hbW
      clear hbW h30 h31 HR4 HR3 HB3 HB4 HM3
      have hem : Bools w4.heap.size w4 (.slice none 0 0) [] := .inl ⟨_, _, rfl, fun _ => rfl, rfl⟩
      have hcn := (contains_bools true w4 (by simp) hem)
      have heqn := equal_bools w4 (by simp) hem HM4.out
      rw [decide_eq_true hb0.symm] at heqn
      have HCn := Lib.hid hcn; have HEn := Lib.hid heqn
      have hl0 : bs.length = 0 := by rw [hb0]; rfl
      have HM4' := HM4.out
      obtain ⟨n, hn⟩ : ∃ n, bs.length = n := ⟨_, rfl⟩
      rw [hn] at hl0 HEn ⊢
      subst hl0
      clear hcn heqn hem HM4' hb0 HM4
      go_wp2_with fail
      refine HEn.out.mono ?_
      rintro e w5 ⟨rfl, q5, hw5⟩
      have hb5 : Below w4.heap.size w4 w5 := by rw [hw5]; exact below_dN _ _
      have HB5 := Lib.hid (HBW.out.trans (hb5.mono HBW.out.size))
      have hem : Bools w5.heap.size w5 (.slice none 0 0) [] := .inl ⟨_, _, rfl, fun _ => rfl, rfl⟩
      have HC5 := Lib.hid (contains_bools true w5 (by simp) hem)
      clear hw5 hb5 hem HCn HEn
      go_wp2_with fail
      refine HC5.out.mono ?_
      rintro e w' ⟨rfl, rfl⟩
      go_wp2_with fail
      go_loopw [82] (fun i wr => i = .int .i64 0 ∧ Below W.heap.size W wr) (fun _ _ => 0)
      case atStart => exact ⟨rfl, HB5.out⟩
      case round =>
        obtain ⟨rfl, hb⟩ := hrel
        have HB6 := Lib.hid hb
        clear hb
        go_wp2_with fail
        refine (awake_any wr).mono ?_
        rintro e w' ⟨rfl, hb⟩
        go_wp2_with fail
        go_ret
        exact ⟨rfl, below_cat HB6.out hb⟩
    · have hR4 := HR4.out
      rw [h3v] at hR4 ⊢
      have h3n' : bs.length ≤ cap3 := by omega
      have HR5 := Lib.hid hR4
      clear hR4 hg3 h3v HR4
      go_wp2_with fail
      have hp := bools_part HR5.out 0 bs.length cap3 (by simp)
      rw [List.drop_zero, List.take_left] at hp
      refine (equal_bools w4 (by omega) hp HM4.out).mono ?_
      rintro e w5 ⟨rfl, q5, hw5⟩
      rw [decide_eq_true (rfl : bs = bs)]
      clear hp
      have hb5 : Below w4.heap.size w4 w5 := by rw [hw5]; exact below_dN _ _
      have HR6 := Lib.hid (owns_on0 HR5.out hb5); have HM5 := Lib.hid ((RowV.below hb5 HM4.out).more hb5.size); have HB5 := Lib.hid (HB4.out.trans (hb5.mono HB4.out.size))
      have hkc : bs.length + k ≤ cap3 := h3n
      have hcA : Calls Try.prog 29 #[.slice (some ⟨g3, bs.length, none⟩) k (cap3 - bs.length), .bool true] w5 fun e w' => e = .returned (.bool false) ∧ w' = w5 := by
        have hp := bools_part HR6.out bs.length k (cap3 - bs.length) (by simp)
        rw [List.drop_left, List.take_of_length_le (by simp)] at hp
        refine (contains_bools true w5 (by simp; omega) hp).mono fun e w' ⟨he, hw⟩ => ⟨?_, hw⟩
        rw [he]
        congr 2
        rw [List.any_eq_false]
        intro y hy
        rw [(List.mem_replicate.1 hy).2]
        decide
      have hcB : k = 0 → Calls Try.prog 29 #[.slice (some ⟨g3, 0, none⟩) k 0, .bool true] w5 fun e w' => e = .returned (.bool false) ∧ w' = w5 := fun h0 => by
        subst h0
        have hp : Bools w5.heap.size w5 (.slice (some ⟨g3, 0, none⟩) 0 0) [] := .inl ⟨_, _, rfl, (fun e => by cases e), rfl⟩
        exact (contains_bools true w5 (by simp) hp).mono fun e w' ⟨he, hw⟩ => ⟨by rw [he]; rfl, hw⟩
      have HcA := Lib.hid hcA; have HcB := Lib.hid hcB
      clear hw5 hb5 HR5 HM4 HB4 hcA hcB
      rcases (Decidable.em (cap3 - bs.length = 0)) with hz | hz
      all_goals
        go_wp2_with fail
        first
          | (with_reducible refine (HcB.out (by omega)).mono ?_)
          | (with_reducible refine HcA.out.mono ?_)
        rintro e w5 ⟨rfl, rfl⟩
        clear hz HcA HcB
        go_wp2_with fail
        go_loopw [82] (fun i wr => BkRel bs.length w5 i wr) (fun i _ => bs.length - (intOf i).toNat)
        case atStart => exact ⟨0, Nat.zero_le _, rfl, Below.refl _ _⟩
        case round =>
          obtain ⟨j, hj, rfl, hbr⟩ := hrel
          by_cases hlt : j < bs.length
          · have hmr : Bools wr.heap.size wr (.slice A bs.length cap) bs := (RowV.below hbr HM5.out).more hbr.size
            have hb15 : Below w1.heap.size w1 wr := (HB2.out.trans (HB5.out.mono HB2.out.size)).trans (hbr.mono (Nat.le_trans HB2.out.size HB5.out.size))
            have hir : Ints wr.heap.size wr (.slice A1 bs.length c1) (litsM bs) := HI1.out.on hb15
            obtain ⟨A1', c1', e1, hcl⟩ := ints_shape hir
            obtain ⟨b1, o1, eb, -, hc1⟩ := hcl j (by rw [litsM_len]; exact hlt)
            obtain ⟨A', c', e2, hcm⟩ := bools_shape hmr
            obtain ⟨b0, o0, ec, hb0, hc0⟩ := hcm j hlt
            have eA1 : A1 = some ⟨b1, o1, none⟩ := by injection e1 with h1 h2 h3; exact h1.trans eb
            have eA : A = some ⟨b0, o0, none⟩ := by injection e2 with h1 h2 h3; exact h1.trans ec
            subst eA1; subst eA
            rw [litAt_get hlt, Option.getD_some] at hc1
            have hji : (j : Int) < (bs.length : Int) := by omega
            obtain ⟨x, hx⟩ : ∃ x, litAt bs j = x := ⟨_, rfl⟩
            have hxa := litAt_abs bs j
            have hlv := litAt_lit (bs := bs) (i := j) (by omega)
            have hvv := litAt_var (bs := bs) (i := j) (by omega)
            have hsg := litAt_sign bs j
            have hh1 := holdP_one hlt (by omega) x (.inl hx.symm)
            have hh2 := holdP_one hlt (by omega) (-x) (.inr (by rw [hx]))
            rw [hx] at hc1 hxa hlv hvv hsg hh1 hh2
            rw [decide_eq_true rfl] at hh1
            rw [decide_eq_false (by omega)] at hh2
            have hx0 : -1048576 ≤ x := by omega
            have hx1 : x ≤ 1048576 := by omega
            have hva := fun W => var_any x W
            rw [hvv] at hva
            have hna := fun W => negd_any x W
            have hnx : negdB x = !(bs[j]?.getD false) := by unfold negdB; rw [hlv, hsg, Bool.and_true]
            rw [hnx] at hna
            have ho1 := hold_one x (by omega) (Nat.le_refl _) hmr 65
            rw [hh1] at ho1
            have ho1 : Calls Try.prog 12 #[.slice (some ⟨wr.heap.size, 0, none⟩) 1 1, .slice (some ⟨b0, o0, none⟩) bs.length cap] ((wr.alloc (.cells #[.int .i64 x] 65)).drew) fun e w' => e = .returned (.bool true) ∧ Below wr.heap.size wr w' := by
              have hd := hold_one (W := wr.drew) x (by omega) (Nat.le_refl _) (RowV.below (Below.refl _ _).drew hmr) 65
              rw [hh1] at hd
              exact hd.mono fun e w' ⟨he, hB⟩ => ⟨he, (Below.refl _ _).drew.trans hB⟩
            have ho2 := fun W (hb : Below wr.heap.size wr W) => hold_one (-x) (by omega) hb.size (hmr.below hb) 65
            rw [hh2] at ho2
            have hwj : IntKind.i64.wrap ((j : Int) + 1) = (j : Int) + 1 := IntWalk.i64_in _ (by omega)
            have hwx : IntKind.i64.wrap (-x) = -x := IntWalk.i64_in _ (by omega)
            have hk2 : ∀ W, Below wr.heap.size wr W → W.cell? ⟨b0, o0 + j, none⟩ = wr.cell? ⟨b0, o0 + j, none⟩ := fun W hb => hb.cell (p := ⟨b0, o0 + j, none⟩) hb0
            obtain ⟨b, hb⟩ : ∃ b, bs[j]?.getD false = b := ⟨_, rfl⟩
            rw [hb] at hna hc0
            have HVa := Lib.hid hva; have HNa := Lib.hid hna; have HO1 := Lib.hid ho1; have HO2 := Lib.hid ho2; have HK2 := Lib.hid hk2; have HNx := Lib.hid hlt; have HBr := Lib.hid hbr
            clear hva hna ho1 ho2 hk2 hlt hbr hmr hb15 hir e1 hcl eb e2 hcm ec hx hxa hlv hvv hsg hh1 hh2 hnx hb hb0
            cases b
            · go_upto_region 11 with fail
              go_region_held3 (fun W' => W'.cell? ⟨b0, o0 + j, none⟩ = some (.bool false)) (first | go_keep | assumption | exact (HK2.out _ (Below.refl _ _).drew).trans hc0 | exact (HK2.out _ ((Below.refl _ _).drew.alloc (Nat.le_refl _) _)).trans hc0 | exact (HK2.out _ (hbA.alloc hbA.size _)).trans hc0) (first
                | (go_at_call 30; (with_reducible refine (HVa.out _).mono ?_); rintro r wn ⟨rfl, rfl⟩)
                | (go_at_call 31; (with_reducible refine (HNa.out _).mono ?_); rintro r wn ⟨rfl, rfl⟩)
                | (go_at_call 12; (with_reducible refine HO1.out.mono ?_); rintro r wA ⟨rfl, hbA⟩; have hcA := (HK2.out _ hbA).trans hc0)
                | (go_at_call 12; (with_reducible refine (HO2.out wA hbA).mono ?_); rintro r wB ⟨rfl, hbB⟩; have hbB := hbA.trans (hbB.mono hbA.size); have hcB := (HK2.out _ hbB).trans hc0))
              all_goals
                have HBB := Lib.hid hbB
                clear hbA hbB hcA hcB hc0 hc1
                go_wp2_with fail
                go_roundw
                case rel => exact ⟨j + 1, HNx.out, by go_num, below_cat HBr.out HBB.out⟩
                case measure => simp [intOf]; have := HNx.out; omega
            · go_upto_region 11 with fail
              go_region_held3 (fun W' => W'.cell? ⟨b0, o0 + j, none⟩ = some (.bool true)) (first | go_keep | assumption | exact (HK2.out _ (Below.refl _ _).drew).trans hc0 | exact (HK2.out _ ((Below.refl _ _).drew.alloc (Nat.le_refl _) _)).trans hc0 | exact (HK2.out _ (hbA.alloc hbA.size _)).trans hc0) (first
                | (go_at_call 30; (with_reducible refine (HVa.out _).mono ?_); rintro r wn ⟨rfl, rfl⟩)
                | (go_at_call 31; (with_reducible refine (HNa.out _).mono ?_); rintro r wn ⟨rfl, rfl⟩)
                | (go_at_call 12; (with_reducible refine HO1.out.mono ?_); rintro r wA ⟨rfl, hbA⟩; have hcA := (HK2.out _ hbA).trans hc0)
                | (go_at_call 12; (with_reducible refine (HO2.out wA hbA).mono ?_); rintro r wB ⟨rfl, hbB⟩; have hbB := hbA.trans (hbB.mono hbA.size); have hcB := (HK2.out _ hbB).trans hc0))
              all_goals
                have HBB := Lib.hid hbB
                clear hbA hbB hcA hcB hc0 hc1
                go_wp2_with fail
                go_roundw
                case rel => exact ⟨j + 1, HNx.out, by go_num, below_cat HBr.out HBB.out⟩
                case measure => simp [intOf]; have := HNx.out; omega
          · obtain rfl : j = bs.length := by omega
            have hmr : Bools wr.heap.size wr (.slice A bs.length cap) bs := (RowV.below hbr HM5.out).more hbr.size
            have hb15 : Below w1.heap.size w1 wr := (HB2.out.trans (HB5.out.mono HB2.out.size)).trans (hbr.mono (Nat.le_trans HB2.out.size HB5.out.size))
            have hbW : Below W.heap.size W wr := HB1.out.trans (hb15.mono HB1.out.size)
            have hrr := owns_on0 HR1.out hb15
            have HBW := Lib.hid hbW; have HRr := Lib.hid hrr; have HI := Lib.hid (HI1.out.on hb15)
            clear hmr hb15 hbW hrr hbr
            by_cases h0 : bs.length = 0
            · have hz : ((bs.length : Int) == 0) = true := by rw [h0]; rfl
              go_wp2_with fail
              refine (awake_any wr).mono ?_
              rintro e w' ⟨rfl, hb⟩
              go_wp2_with fail
              go_ret
              exact ⟨rfl, below_cat HBW.out hb⟩
            · have hz : ((bs.length : Int) == 0) = false := by rw [beq_eq_false_iff_ne]; omega
              obtain ⟨i0, hi, hz0, hz1, hz2⟩ := info_parts infoLit
              have hx0 := litAt_abs bs 0
              have hms := mdl_snoc (bs := bs) (by omega) (by omega)
              have hrr := HRr.out
              rcases hrr.2 with ⟨-, h1⟩ | ⟨g1, cap1, cur1, e1, -, -, -, -, -, -⟩
              · exact absurd h1 h0
              · have e2 : A1 = some ⟨g1, 0, none⟩ := by injection e1
                subst e2
                have hc1 : wr.cell? ⟨g1, 0, none⟩ = some (.int .i64 (litAt bs 0)) := by
                  rw [hrr.cellAt 0 (by omega), List.getElem?_map, litAt_get (by omega)]; rfl
                obtain ⟨x, hx⟩ : ∃ x, litAt bs 0 = x := ⟨_, rfl⟩
                rw [hx] at hc1 hx0 hms
                have hwx : IntKind.i64.wrap (-x) = -x := IntWalk.i64_in _ (by omega)
                have hpos : 0 < bs.length := by omega
                have hWs : W.heap.size ≤ wr.heap.size := HBW.out.size
                have HMs := Lib.hid hms
                clear hms hx hx0 hrr e1
                go_wp2_with (at_builtin; (refine wpList_append_lies _ (by rfl) _ _ 29 (by rfl) W.heap.size 65 i0 _ 1 8 Try.underlying29 hi hz0 hz1 hz2 (by rfl) (by decide) _ bs.length _ (by rfl) (HRr.out.alloc _) _ 1 1 [.int .i64 (-x)] (by rfl) (by rfl) (World.news_of_block (cs := #[.int .i64 (-x)]) (t := 65) (fr := (0, 0)) (heap_alloc_new _ _)) (by simp [Value.oneCell']) (by decide) (by unfold maxLen; omega) (by omega) (by simp; omega) _ rfl ?_; intro gg cap7 w7 hown7 hg7 hloc hl7; have HO7 := Lib.hid hown7; have HG7 := Lib.hid hg7; clear hown7 hg7 hloc))
                have hbl : Below W.heap.size W w7 := (HBW.out.alloc hWs (.cells #[.int .i64 (-x)] 65)).grown HG7.out (by simp; omega) (fun b e => by
                  have := (HRr.out.lt b e).1; omega)
                have hI7 : Ints w7.heap.size w7 (.slice (some ⟨gg, 0, none⟩) (bs.length + 1) cap7) (litsM bs ++ [-x]) := by
                  have h := HO7.out
                  rw [show (litsM bs).map (Value.int .i64) ++ [Value.int .i64 (-x)] = (litsM bs ++ [-x]).map (Value.int .i64) by simp] at h
                  exact (rowV_lits.1 (rowV_own h)).ints
                refine (model_any (bs.length : Nat) (by rw [List.length_append, litsM_len]; simp; omega) w7 (Nat.le_refl _) hI7).mono ?_
                rintro e w8 ⟨v8, rfl, hr8, hb8⟩
                rw [HMs.out]
                obtain ⟨A8, c8, rfl⟩ := own_shape0 hr8
                have HB8 := Lib.hid (below_cat hbl hb8)
                clear hr8 hb8 hbl hI7 HO7 HG7
                go_wp2_with fail
                all_goals
                  refine (awake_any w8).mono ?_
                  rintro e w' ⟨rfl, hb⟩
                  go_wp2_with fail
                  go_ret
                  exact ⟨rfl, below_cat HB8.out hb⟩
end Go.Proofs.Ytfbmagmelebkbaa.formulaBack
