/- salvorlaw05.Bits; salvorref05.Model. -/
import Derived.Test.YtfbmagmelebkbaaFoContains
import Derived.Test.YtfbmagmelebkbaaRefHolds
import Derived.Test.YtfbmagmelebkbaaConv
import Derived.Deep.OwnRows
namespace Go.Proofs.Ytfbmagmelebkbaa
open Go.RowKit Go.ChangeAt Go.ChangeShapes Go.WideShapes Go.Shelf Go.Sort

def BtRel (w : World) (bs : List Bool) (own i : Value) (wr : World) : Prop :=
  ∃ (k : Nat) (o : Value), o = own ∧ k ≤ bs.length ∧ i = .int .i64 k ∧ wr.ownsRow w.heap.size 3 1 o k (((bs.map b2i).take k).map (Value.int .i64)) ∧ Below w.heap.size w wr
set_option maxRecDepth 100000 in
set_option maxHeartbeats 2000000 in
theorem bits_any {B : Nat} {mv : Value} {bs : List Bool} (hl : bs.length ≤ 1000000) (w : World) (hB : B ≤ w.heap.size) (hm : Bools B w mv bs) : Calls Try.prog 8 #[mv] w (GivesE 3 w (bs.map b2i)) := by
  obtain ⟨i0, hi, hz0, hz1, hz2⟩ := info_parts infoInt
  obtain ⟨A, cap, rfl, hc⟩ := bools_shape hm
  have HC := Lib.hid hc; clear hc hm
  go_enter Try.func8, Try.ntmps8
  go_wp2_with fail
  go_loopw [3, 9] (fun own i wr => BtRel w bs own i wr) (fun _ i _ => bs.length - (intOf i).toNat)
  case atStart => exact ⟨0, _, rfl, by omega, rfl, World.ownsRow_nil _ _ _ _, Below.refl _ _⟩
  case round =>
    obtain ⟨k, own, rfl, hk, rfl, hrow, hbw⟩ := hrel
    by_cases hlt : k < bs.length
    · obtain ⟨b, off, rfl, hb, hck⟩ := HC.out k hlt
      have hck : wr.cell? ⟨b, off + k, none⟩ = some (.bool (bs[k]?.getD false)) := (hbw.cell (p := ⟨b, off + k, none⟩) (Nat.lt_of_lt_of_le hb hB)).trans hck
      have htk : ((bs.map b2i).take (k + 1)).map (Value.int .i64) = ((bs.map b2i).take k).map (Value.int .i64) ++ [Value.int .i64 (b2i (bs[k]?.getD false))] := by
        rw [List.take_add_one, List.getElem?_map, List.getElem?_eq_getElem hlt]
        simp
      obtain ⟨x, hx⟩ : ∃ x, bs[k]?.getD false = x := ⟨_, rfl⟩
      rw [hx] at hck htk
      clear hx
      have HR := Lib.hid hrow; have HT := Lib.hid htk; clear hrow htk
      cases x
      · go_wp2_with (at_builtin; refine wpList_append_own _ rfl _ _ 22 rfl w.heap.size 3 i0 (.int .i64 0) 1 8 Try.underlying22 hi hz0 hz1 hz2 rfl (by decide) _ _ _ rfl (HR.out.alloc _) ⟨wr.heap.size, 0, none⟩ 1 1 [.int .i64 0] rfl rfl (cell_one_new _ _ _) (by simp [Value.oneCell']) (by unfold maxLen; omega) (by omega) (by have := hbw.size; simp; omega) ?_; intro v' w2 hown' hgrow _)
        have hbn : Below w.heap.size w w2 := by
          refine (hbw.alloc hbw.size _).grown hgrow (by have := hbw.size; simp; omega) (fun k e => ?_)
          exact (HR.out.lt k e).1
        refine ⟨⟨k + 1, _, rfl, by omega, by go_num, ?_, hbn⟩, ?_⟩
        · rw [HT.out]; exact hown'
        · simp [intOf]; omega
      · go_wp2_with (at_builtin; refine wpList_append_own _ rfl _ _ 22 rfl w.heap.size 3 i0 (.int .i64 0) 1 8 Try.underlying22 hi hz0 hz1 hz2 rfl (by decide) _ _ _ rfl (HR.out.alloc _) ⟨wr.heap.size, 0, none⟩ 1 1 [.int .i64 1] rfl rfl (cell_one_new _ _ _) (by simp [Value.oneCell']) (by unfold maxLen; omega) (by omega) (by have := hbw.size; simp; omega) ?_; intro v' w2 hown' hgrow _)
        have hbn : Below w.heap.size w w2 := by
          refine (hbw.alloc hbw.size _).grown hgrow (by have := hbw.size; simp; omega) (fun k e => ?_)
          exact (HR.out.lt k e).1
        refine ⟨⟨k + 1, _, rfl, by omega, by go_num, ?_, hbn⟩, ?_⟩
        · rw [HT.out]; exact hown'
        · simp [intOf]; omega
    · obtain rfl : k = bs.length := by omega
      rw [List.take_of_length_le (by simp)] at hrow
      have HR := Lib.hid hrow; clear hrow
      go_wp2_with fail
      go_ret
      exact ⟨own, rfl, by rw [List.length_map]; exact HR.out, hbw⟩
theorem ints_head {B : Nat} {W : World} {A : Option Addr} {n cc t : Nat} {c : List Int} (hn : n = c.length) (h : Ints B W (.slice A n cc) c) (ht : t < c.length) : Ints B W (.slice A t cc) (c.take t) := by
  subst hn
  have hl : (c.take t).length = t := by rw [List.length_take]; omega
  rcases h with ⟨A', c', e, h1, h2⟩ | ⟨b, off, cap, e, hb, hc⟩
  · rw [h2] at ht; simp at ht
  · injection e with e1 e2 e3
    subst e1; subst e3
    refine .inr ⟨b, off, cc, by rw [hl], hb, fun j hj => ?_⟩
    rw [hl] at hj
    rw [hc j (by omega), List.getElem?_take_of_lt hj]
theorem made_nums (n : Nat) : (madeCells (Value.int .i64 0).cells (n * 1)).toList = List.replicate n (Value.int .i64 0) := by
  apply List.ext_getElem?
  intro i
  by_cases h : i < n
  · simp [madeCells, Value.cells, h, Nat.mod_one]
  · simp [madeCells, Value.cells, h]
def RmRel (n g : Nat) (ls : List Int) (w : World) (i : Value) (wr : World) : Prop := ∃ k : Nat, k ≤ ls.length ∧ i = .int .i64 k ∧ wr.ownsRow w.heap.size 3 1 (.slice (some ⟨g, 0, none⟩) n n) n ((modL n (ls.take k)).map (Value.int .i64)) ∧ (∀ (m : Nat) (y : Int), m < k → ls[m]? = some y → litE n (ls.take m) y = 0) ∧ Below w.heap.size w wr
set_option maxRecDepth 100000 in
set_option maxHeartbeats 2000000 in
theorem ref05_model {B : Nat} {lv : Value} {ls : List Int} (vars : Int) (hl : ls.length ≤ 1000000000) (w : World) (hB : B ≤ w.heap.size) (hI : Ints B w lv ls) (hF : Fits lv) :
    Calls Try.prog 11 #[.int .i64 vars, lv] w fun e w' => ∃ v, e = .returned (.tuple #[v, .int .i64 (mdlE vars ls)]) ∧ w'.ownsRow w.heap.size 3 1 v (if mdlE vars ls = 0 then modL vars.toNat ls else []).length ((if mdlE vars ls = 0 then modL vars.toNat ls else []).map (Value.int .i64)) ∧ Below w.heap.size w w' := by
  have hI0 := hI
  obtain ⟨A, cap, rfl, hc⟩ := ints_shape hI
  have hcap : ls.length ≤ cap := hF _ _ _ rfl
  have HC := Lib.hid hc; have HI := Lib.hid hI0
  clear hc hI hI0 hF
  by_cases hv : vars < 0 ∨ 1048576 < vars
  · have he : mdlE vars ls = 50 := by unfold mdlE; rw [if_pos hv]
    rw [he]
    clear HC HI
    by_cases h1 : vars < 0
    · go_enter Try.func11, Try.ntmps11
      go_wp2_with fail
      go_ret2
      exact ⟨_, rfl, World.ownsRow_nil _ _ _ _, Below.refl _ _⟩
    · have h2 : 1048576 < vars := by omega
      go_enter Try.func11, Try.ntmps11
      go_wp2_with fail
      go_ret2
      exact ⟨_, rfl, World.ownsRow_nil _ _ _ _, Below.refl _ _⟩
  · have he : mdlE vars ls = modE vars [] ls := by unfold mdlE; rw [if_neg hv]
    rw [he]
    obtain ⟨n, rfl⟩ : ∃ n : Nat, vars = n := ⟨vars.toNat, by omega⟩
    rw [Int.toNat_natCast]
    obtain ⟨er, her⟩ : ∃ er, modE (n : Int) [] ls = er := ⟨_, rfl⟩
    obtain ⟨R, hR⟩ : ∃ R, (if er = 0 then modL n ls else []) = R := ⟨_, rfl⟩
    rw [her, hR]
    obtain ⟨i0, hi, hz0, hz1, hz2⟩ := info_parts infoInt
    have HE := Lib.hid her; have HR := Lib.hid hR
    have hn0 : (0 : Int) ≤ (n : Int) := by omega
    have hn1 : (n : Int) ≤ 1048576 := by omega
    have hmk : ∀ W : World, (Instr.makeSlice 22 (.int .i64 (n : Nat)) (.int .i64 (n : Nat))).run Try.prog W = .ok (.slice (some ⟨W.heap.size, 0, none⟩) n n) (W.alloc (.cells (madeCells #[.int .i64 0] n) 3)) := fun W => run_make_row' 22 3 (.int .i64 0) 8 Try.underlying22 infoInt rfl .i64 .i64 n (by omega) (by omega) W
    have hro : (w.alloc (.cells (madeCells #[.int .i64 0] n) 3)).ownsRow w.heap.size 3 1 (.slice (some ⟨w.heap.size, 0, none⟩) n n) n ((modL n []).map (Value.int .i64)) := by
      have hl : (madeCells #[Value.int .i64 0] n).toList = List.replicate n (.int .i64 0) := by
        have := made_nums n
        simpa [Value.cells] using this
      have h1 := World.ownsRow_lit (base := w.heap.size) (e := 3) (size := 1) w (madeCells #[.int .i64 0] n) n (Nat.le_refl _) (by unfold maxLen; omega) (by rw [← Array.length_toList, hl]; simp)
      rw [hl] at h1
      rw [modL_nil, List.map_replicate]
      exact h1
    have HRo := Lib.hid hro; have HBw := Lib.hid (below1a w (.cells (madeCells #[.int .i64 0] n) 3))
    clear her hR he hro hv
    go_enter Try.func11, Try.ntmps11
    go_wp2_with fail
    obtain ⟨w1, hw1⟩ : ∃ W, w.alloc (.cells (madeCells #[.int .i64 0] n) 3) = W := ⟨_, rfl⟩
    obtain ⟨g, hg⟩ : ∃ g, w.heap.size = g := ⟨_, rfl⟩
    rw [hw1] at HRo HBw ⊢
    have HRo' := HRo.out
    rw [hg]
    rw [show (Value.slice (some ⟨w.heap.size, 0, none⟩) n n) = .slice (some ⟨g, 0, none⟩) n n by rw [hg]] at HRo'
    have HRg := Lib.hid HRo'
    have hgl : g < w1.heap.size := (HRo'.lt g rfl).2
    clear HRo HRo' hw1 hmk hg
    go_loopw [7] (fun i wr => RmRel n g ls w i wr) (fun i _ => ls.length - (intOf i).toNat)
    case atStart => exact ⟨0, Nat.zero_le _, rfl, HRg.out, (fun m y hm => by omega), HBw.out⟩
    case round =>
      obtain ⟨k, hk, rfl, hrm, hno, hbw⟩ := hrel
      by_cases hlt : k < ls.length
      · obtain ⟨bc, oc, rfl, hb, hck⟩ := HC.out k hlt
        have hck := (hbw.cell (p := ⟨bc, oc + k, none⟩) (Nat.lt_of_lt_of_le hb hB)).trans hck
        have htk := take_one ls hlt
        obtain ⟨x, hx⟩ : ∃ x, ls[k]? = some x := ⟨_, List.getElem?_eq_getElem hlt⟩
        rw [hx, Option.getD_some] at hck htk
        have hki : (k : Int) < (ls.length : Int) := by omega
        have hk0 : (0 : Int) ≤ (k : Int) := by omega
        obtain ⟨v, hv⟩ : ∃ v, varI x = v := ⟨_, rfl⟩
        have hvar := fun W => ref_var x W
        rw [hv] at hvar
        have hq := hx
        by_cases hbad : v < 1 ∨ (n : Int) < v
        · have hle : litE n (ls.take k) x = 51 := by unfold litE; rw [hv, if_pos hbad]
          have hmo := modE_at (vars := (n : Int)) ls [] k x hx (fun m y hm hy => by simpa using hno m y hm hy) (by rw [List.nil_append, hle]; decide)
          rw [List.nil_append, hle] at hmo
          have her : er = 51 := by rw [← HE.out, hmo]
          have hRe : R = [] := by rw [← HR.out, her]; rfl
          subst her
          subst hRe
          have HV := Lib.hid hvar; have HBr := Lib.hid hbw
          clear hvar hle hmo hno hrm hx htk hbw HC HE HR HI HRg hq hv
          by_cases h1 : v < 1
          · go_wp2_with fail
            refine (HV.out _).mono ?_
            rintro e w' ⟨rfl, rfl⟩
            go_wp2_with fail
            go_ret2
            exact ⟨_, rfl, World.ownsRow_nil _ _ _ _, HBr.out⟩
          · have h2 : (n : Int) < v := by omega
            go_wp2_with fail
            refine (HV.out _).mono ?_
            rintro e w' ⟨rfl, rfl⟩
            go_wp2_with fail
            go_ret2
            exact ⟨_, rfl, World.ownsRow_nil _ _ _ _, HBr.out⟩
        · have h1 : ¬ v < 1 := by omega
          have h2 : ¬ (n : Int) < v := by omega
          have h1' : 1 ≤ v := by omega
          have h2' : v ≤ (n : Int) := by omega
          have hlb : litB x = true := by
            cases hc : litB x
            · unfold varI at hv; rw [hc] at hv; simp at hv; omega
            · rfl
          have hxb := litB_of hlb
          have hva : v = (x.natAbs : Int) := by rw [← hv]; unfold varI; rw [hlb]; simp only [if_true]; split <;> omega
          have hle : litE n (ls.take k) x = if -x ∈ ls.take k then 52 else 0 := by unfold litE; rw [hv, if_neg hbad]
          have hwx : IntKind.i64.wrap (-x) = -x := IntWalk.i64_in _ (by omega)
          have hIk : Ints B wr (.slice (some ⟨bc, oc, none⟩) k cap) (ls.take k) := ints_head rfl (HI.out.below (hbw.mono hB)) hlt
          have hhas := fun q => ref_has B _ (ls.take k) (-x) (by rw [List.length_take]; omega) (wr.drewN q) (show Ints B (wr.drewN q) _ _ from hIk)
          have hkl : k ≤ ls.length := by omega
          have hkc : k ≤ cap := by omega
          have hkc2 : (k : Int) ≤ (cap : Int) := by omega
          obtain ⟨q, hqq⟩ : ∃ q, x.natAbs - 1 = q := ⟨_, rfl⟩
          have s1 : IntKind.i64.wrap (v - 1) = (q : Int) := by rw [show v - 1 = (q : Int) by omega]; exact IntWalk.i64_in _ (by omega)
          have hqn : q < n := by omega
          by_cases hin : -x ∈ ls.take k
          · rw [if_pos hin] at hle
            have hmo := modE_at (vars := (n : Int)) ls [] k x hx (fun m y hm hy => by simpa using hno m y hm hy) (by rw [List.nil_append, hle]; decide)
            rw [List.nil_append, hle] at hmo
            have her : er = 52 := by rw [← HE.out, hmo]
            have hRe : R = [] := by rw [← HR.out, her]; rfl
            subst her
            subst hRe
            have hb1 : hasB (ls.take k) (-x) = true := decide_eq_true hin
            rw [hb1] at hhas
            have HV := Lib.hid hvar; have HH := Lib.hid hhas; have HBr := Lib.hid hbw
            clear hvar hhas hle hmo hno hrm hx htk hbw HC HE HR HI HRg hq hv hin hb1 hIk hbad hva hlb hxb hqq
            go_wp2_with fail
            refine (HV.out _).mono ?_
            rintro e w' ⟨rfl, rfl⟩
            go_upto_region 10 with fail
            go_quiet (first | (go_at_call 43; exact Calls.quiet_of_same ((HH.out _).mono fun _ _ ⟨he, hw⟩ => ⟨he, hw.symm⟩)))
            go_wp2_with fail
            go_ret2
            exact ⟨_, rfl, World.ownsRow_nil _ _ _ _, ⟨HBr.out.os, HBr.out.tape, HBr.out.output, HBr.out.size, HBr.out.block⟩⟩
          · rw [if_neg hin] at hle
            have hb1 : hasB (ls.take k) (-x) = false := decide_eq_false hin
            rw [hb1] at hhas
            have f1 : wr.frozen? ⟨g, q, none⟩ = false := hrm.frozenAt q
            have c1 : wr.cell? ⟨g, q, none⟩ = some (.int .i64 ((modL n (ls.take k))[q]?.getD 0)) := by
              rw [hrm.cellAt q (by omega), List.getElem?_map, List.getElem?_eq_getElem (by rw [modL_len]; exact hqn)]; rfl
            have hokn : ∀ (m : Nat) (y : Int), m < k + 1 → ls[m]? = some y → litE n (ls.take m) y = 0 := fun m y hm hy => by
              rcases Nat.lt_or_ge m k with hmk | hmk
              · exact hno m y hmk hy
              · obtain rfl : m = k := by omega
                rw [hx] at hy
                cases hy
                exact hle
            have hx0 : x ≠ 0 := hxb.1
            by_cases hp : 0 < x
            · have hst := (hrm.stored q (.int .i64 1)).1
              have e1 : ((modL n (ls.take k)).map (Value.int .i64)).set q (.int .i64 1) = (modL n (ls.take (k + 1))).map (Value.int .i64) := by
                rw [htk, modL_pos hp, hqq, List.map_set]
              rw [e1] at hst
              have hbs := hbw.setCell (p := ⟨g, q, none⟩) (hrm.lt g rfl).1 (.int .i64 1)
              have HV := Lib.hid hvar; have HH := Lib.hid hhas; have HOk := Lib.hid (And.intro hst (And.intro hokn hbs)); have HNx := Lib.hid hlt
              clear hvar hhas hle hno hrm hx htk hbw HC HE HR HI HRg hq hv hin hb1 hIk hbad hva hlb hxb hqq hst e1 hokn hbs
              go_wp2_with fail
              refine (HV.out _).mono ?_
              rintro e w' ⟨rfl, rfl⟩
              go_upto_region 10 with fail
              go_quiet (first | (go_at_call 43; exact Calls.quiet_of_same ((HH.out _).mono fun _ _ ⟨he, hw⟩ => ⟨he, hw.symm⟩)))
              go_wp2_with fail
              go_roundw
              case rel => exact ⟨k + 1, HNx.out, by go_num, HOk.out.1, HOk.out.2.1, ⟨HOk.out.2.2.os, HOk.out.2.2.tape, HOk.out.2.2.output, HOk.out.2.2.size, HOk.out.2.2.block⟩⟩
              case measure => simp [intOf]; have := HNx.out; omega
            · have hp' : x < 0 := by omega
              have e1 : (modL n (ls.take k)).map (Value.int .i64) = (modL n (ls.take (k + 1))).map (Value.int .i64) := by
                rw [htk, modL_neg hp']
              rw [e1] at hrm
              have HV := Lib.hid hvar; have HH := Lib.hid hhas; have HOk := Lib.hid (And.intro hrm (And.intro hokn hbw)); have HNx := Lib.hid hlt
              clear hvar hhas hle hno hrm hx htk hbw HC HE HR HI HRg hq hv hin hb1 hIk hbad hva hlb hxb hqq e1 hokn
              go_wp2_with fail
              refine (HV.out _).mono ?_
              rintro e w' ⟨rfl, rfl⟩
              go_upto_region 10 with fail
              go_quiet (first | (go_at_call 43; exact Calls.quiet_of_same ((HH.out _).mono fun _ _ ⟨he, hw⟩ => ⟨he, hw.symm⟩)))
              go_wp2_with fail
              go_roundw
              case rel => exact ⟨k + 1, HNx.out, by go_num, HOk.out.1, HOk.out.2.1, ⟨HOk.out.2.2.os, HOk.out.2.2.tape, HOk.out.2.2.output, HOk.out.2.2.size, HOk.out.2.2.block⟩⟩
              case measure => simp [intOf]; have := HNx.out; omega
      · obtain rfl : k = ls.length := by omega
        rw [List.take_length] at hrm
        have her : er = 0 := HE.out.symm.trans (modE_no ls [] fun m y hy => by
          rw [List.nil_append]
          exact hno m y (List.getElem?_eq_some_iff.1 hy).1 hy)
        have hRe : R = modL n ls := by rw [← HR.out, her]; rfl
        subst her
        subst hRe
        have HRm := Lib.hid hrm; have HBr := Lib.hid hbw
        clear hrm hbw hno HC HE HR HI HRg
        go_wp2_with fail
        go_ret2
        exact ⟨_, rfl, by rw [modL_len]; exact HRm.out, HBr.out⟩
end Go.Proofs.Ytfbmagmelebkbaa
