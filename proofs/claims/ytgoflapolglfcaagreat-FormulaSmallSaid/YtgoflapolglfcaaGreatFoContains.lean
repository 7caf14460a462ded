/- formula.Lits. -/
/- formula.Model. -/
/- The literals of a model, and the model of literals; slices of truths that come in. -/
/- slices.Contains of truths. -/
import Derived.Test.YtgoflapolglfcaaGreatFoFails
import Derived.Test.YtgoflapolglfcaaGreatConv
import Derived.Test.YtgoflapolglfcaaGreatPlain
import Derived.Test.YtgoflapolglfcaaGreatFoTriedAll
import Derived.Deep.OwnRows
import Derived.Test.YtgoflapolglfcaaGreatRoundRegion
import Derived.Deep.DeepCutAuto
import Derived.Deep.Grids
import Derived.Test.YtgoflapolglfcaaGreatShelf
namespace Go.Proofs.YtgoflapolglfcaaGreat
open Go.ChangeShapes Go.WideShapes Go.ChangeAt Go.RowKit Go.Shelf Go.Sort

/-- The literals of a model. -/
def litsM (bs : List Bool) : List Int := (List.range bs.length).map fun (i : Nat) => if bs[i]?.getD false then ((i : Int) + 1) else -((i : Int) + 1)
theorem litsM_len (bs : List Bool) : (litsM bs).length = bs.length := by simp [litsM]
theorem litsM_at {bs : List Bool} {i : Nat} (h : i < bs.length) : (litsM bs)[i]? = some (if bs[i]?.getD false then ((i : Int) + 1) else -((i : Int) + 1)) := by simp [litsM, h]
def LiRel (w : World) (bs : List Bool) (own i : Value) (wr : World) : Prop :=
  ∃ (k : Nat) (o : Value), o = own ∧ k ≤ bs.length ∧ i = .int .i64 k ∧ wr.ownsRow w.heap.size 35 1 o k (((litsM bs).take k).map (Value.int .i64)) ∧ Below w.heap.size w wr
end Go.Proofs.YtgoflapolglfcaaGreat
namespace Go.Proofs.YtgoflapolglfcaaGreat
open Go.ChangeShapes Go.WideShapes Go.ChangeAt Go.RowKit Go.Shelf Go.Sort

/-- P5.5: the values, and the error. -/
def modB (n : Nat) (ls : List Int) : List Bool := (List.range n).map fun (v : Nat) => decide (((v : Int) + 1) ∈ ls)
def knwB (n : Nat) (ls : List Int) : List Bool := (List.range n).map fun (v : Nat) => decide (((v : Int) + 1) ∈ ls ∨ -((v : Int) + 1) ∈ ls)
theorem modB_len (n : Nat) (ls : List Int) : (modB n ls).length = n := by simp [modB]
def mdlE (vars : Int) (ls : List Int) : Int := if vars < 0 ∨ 1048576 < vars then 50 else modE vars [] ls
theorem litE_has {vars : Int} {before : List Int} {x : Int} (h : hasV vars x = false) : litE vars before x = 51 := by
  unfold litE
  rw [if_pos]
  unfold hasV at h
  cases hl : litB x
  · left; unfold varI; rw [hl]; simp
  · rw [hl] at h
    right
    simpa using h
theorem litE_hasnt {vars : Int} {before : List Int} {x : Int} (h : hasV vars x = true) : litE vars before x = if -x ∈ before then 52 else 0 := by
  unfold hasV at h
  rw [Bool.and_eq_true] at h
  unfold litE
  rw [if_neg]
  have hb := litB_of h.1
  have hv := of_decide_eq_true h.2
  have : 1 ≤ varI x := by unfold varI; rw [h.1]; simp only [if_true]; split <;> omega
  omega
theorem modB_set {n : Nat} {ls : List Int} {x : Int} (hx : -x ∉ ls) (h0 : x ≠ 0) : ((modB n ls).map Value.bool).set (x.natAbs - 1) (.bool (!decide (x < 0))) = (modB n (ls ++ [x])).map Value.bool := by
  unfold modB
  rw [List.map_map, List.map_map]
  show ((List.range n).map fun v => Value.bool _).set _ _ = _
  rw [range_put]
  refine List.map_congr_left fun v _ => ?_
  show Value.bool (if v = x.natAbs - 1 then !decide (x < 0) else decide (((v : Int) + 1) ∈ ls)) = Value.bool (decide (((v : Int) + 1) ∈ ls ++ [x]))
  congr 1
  simp only [List.mem_append, List.mem_singleton]
  by_cases e : v = x.natAbs - 1
  · rw [if_pos e]
    by_cases hn : x < 0
    · have : ¬ (((v : Int) + 1) ∈ ls ∨ (v : Int) + 1 = x) := by
        rintro (h | h)
        · exact hx (by rw [show -x = (v : Int) + 1 by omega]; exact h)
        · omega
      rw [decide_eq_false this, decide_eq_true hn]; rfl
    · rw [decide_eq_true (show ((v : Int) + 1) ∈ ls ∨ (v : Int) + 1 = x from .inr (by omega)), decide_eq_false hn]; rfl
  · rw [if_neg e]
    have : (v : Int) + 1 ≠ x := by omega
    simp [this]
theorem knwB_set {n : Nat} {ls : List Int} {x : Int} (h0 : x ≠ 0) : ((knwB n ls).map Value.bool).set (x.natAbs - 1) (.bool true) = (knwB n (ls ++ [x])).map Value.bool := by
  unfold knwB
  rw [List.map_map, List.map_map]
  show ((List.range n).map fun v => Value.bool _).set _ _ = _
  rw [range_put]
  refine List.map_congr_left fun v _ => ?_
  show Value.bool (if v = x.natAbs - 1 then true else decide (((v : Int) + 1) ∈ ls ∨ -((v : Int) + 1) ∈ ls)) = Value.bool (decide (((v : Int) + 1) ∈ ls ++ [x] ∨ -((v : Int) + 1) ∈ ls ++ [x]))
  congr 1
  simp only [List.mem_append, List.mem_singleton]
  by_cases e : v = x.natAbs - 1
  · rw [if_pos e]
    symm
    refine decide_eq_true ?_
    rcases Int.lt_or_le x 0 with h | h
    · exact .inr (.inr (by omega))
    · exact .inl (.inr (by omega))
  · rw [if_neg e]
    have : (v : Int) + 1 ≠ x := by omega
    have h2 : -((v : Int) + 1) ≠ x := by omega
    simp [this, h2]
/-- A literal whose negation stands before it. -/
theorem model_clash {n : Nat} {vars : Int} {ls : List Int} {k : Nat} {x : Int} (hv : vars = n) (hx : hasV vars x = true) (hno : ∀ (m : Nat) (y : Int), m < k → ls[m]? = some y → litE vars (ls.take m) y = 0) :
    ((knwB n (ls.take k))[x.natAbs - 1]?.getD false && ((modB n (ls.take k))[x.natAbs - 1]?.getD false != !decide (x < 0))) = decide (-x ∈ ls.take k) := by
  unfold hasV at hx
  rw [Bool.and_eq_true] at hx
  have hb := litB_of hx.1
  have hvv := of_decide_eq_true hx.2
  have hva : varI x = (x.natAbs : Int) := by unfold varI; rw [hx.1]; simp only [if_true]; split <;> omega
  have hi : x.natAbs - 1 < n := by omega
  have e1 : (knwB n (ls.take k))[x.natAbs - 1]?.getD false = decide ((((x.natAbs - 1 : Nat) : Int) + 1) ∈ ls.take k ∨ -(((x.natAbs - 1 : Nat) : Int) + 1) ∈ ls.take k) := by simp [knwB, hi]
  have e2 : (modB n (ls.take k))[x.natAbs - 1]?.getD false = decide ((((x.natAbs - 1 : Nat) : Int) + 1) ∈ ls.take k) := by simp [modB, hi]
  have hboth : ∀ y : Int, y ∈ ls.take k → -y ∈ ls.take k → False := by
    suffices h : ∀ (y : Int) (a b : Nat), a < b → b < k → ls[a]? = some y → ls[b]? = some (-y) → False by
      intro y h1 h2
      obtain ⟨a, ha⟩ := List.mem_iff_getElem?.1 h1
      obtain ⟨b, hb'⟩ := List.mem_iff_getElem?.1 h2
      have la := (List.getElem?_eq_some_iff.1 ha).1
      have lb := (List.getElem?_eq_some_iff.1 hb').1
      simp only [List.length_take] at la lb
      rw [List.getElem?_take_of_lt (by omega)] at ha hb'
      rcases Nat.lt_trichotomy a b with hab | hab | hab
      · exact h y a b hab (by omega) ha hb'
      · subst hab
        rw [ha] at hb'
        have hy : y = -y := by injection hb'
        have hz : y = 0 := by omega
        subst hz
        have := hno a 0 (by omega) ha
        unfold litE at this
        rw [if_pos (by left; decide)] at this
        cases this
      · exact h (-y) b a hab (by omega) hb' (by rw [Int.neg_neg]; exact ha)
    intro y a b hab hbk ha hb'
    have := hno b (-y) hbk hb'
    have hm : -(-y) ∈ ls.take b := by
      rw [Int.neg_neg]
      exact List.mem_iff_getElem?.2 ⟨a, by rw [List.getElem?_take_of_lt hab]; exact ha⟩
    unfold litE at this
    rw [if_pos hm] at this
    split at this <;> omega
  rw [e1, e2, Bool.eq_iff_iff, Bool.and_eq_true, decide_eq_true_eq, decide_eq_true_eq]
  rcases Int.lt_or_le x 0 with h | h
  · have e3 : (((x.natAbs - 1 : Nat) : Int) + 1) = -x := by omega
    rw [e3, Int.neg_neg, decide_eq_true h]
    constructor
    · rintro ⟨-, h2⟩; simpa using h2
    · intro h2; exact ⟨.inl h2, by simpa using h2⟩
  · have e3 : (((x.natAbs - 1 : Nat) : Int) + 1) = x := by omega
    rw [e3, decide_eq_false (show ¬ x < 0 by omega)]
    constructor
    · rintro ⟨h1, h2⟩
      rcases h1 with h1 | h1
      · simp [h1] at h2
      · exact h1
    · intro h2
      refine ⟨.inr h2, ?_⟩
      have : x ∉ ls.take k := fun h3 => hboth x h3 h2
      simp [this]
def MdCut (n : Nat) (w : World) (s6 s7 : Value) (wx : World) : Prop := ∃ a b : Nat, a ≠ b ∧ s6 = .slice (some ⟨a, 0, none⟩) n n ∧ s7 = .slice (some ⟨b, 0, none⟩) n n ∧ wx.ownsRow w.heap.size 4 1 s6 n ((modB n []).map Value.bool) ∧ wx.ownsRow w.heap.size 4 1 s7 n ((knwB n []).map Value.bool) ∧ Below w.heap.size w wx
theorem modB_nil (n : Nat) : (modB n []).map Value.bool = List.replicate n (.bool false) := by
  rw [List.eq_replicate_iff]
  exact ⟨by simp [modB], fun b hb => by
    obtain ⟨x, hx, rfl⟩ := List.mem_map.1 hb
    obtain ⟨v, -, rfl⟩ := List.mem_map.1 hx
    simp⟩
theorem knwB_nil (n : Nat) : (knwB n []).map Value.bool = List.replicate n (.bool false) := by
  rw [List.eq_replicate_iff]
  exact ⟨by simp [knwB], fun b hb => by
    obtain ⟨x, hx, rfl⟩ := List.mem_map.1 hb
    obtain ⟨v, -, rfl⟩ := List.mem_map.1 hx
    simp⟩
/-- Two new rows of truths. -/
theorem made_two (n : Nat) (hn : n ≤ 1048576) (w : World) : let W := ((w.alloc (.cells (madeCells #[.bool false] n) 4)).alloc (.cells (madeCells #[.bool false] n) 4)).drew
    W.ownsRow w.heap.size 4 1 (.slice (some ⟨w.heap.size, 0, none⟩) n n) n ((modB n []).map Value.bool) ∧ W.ownsRow w.heap.size 4 1 (.slice (some ⟨w.heap.size + 1, 0, none⟩) n n) n ((modB n []).map Value.bool) ∧
    W.ownsRow w.heap.size 4 1 (.slice (some ⟨w.heap.size, 0, none⟩) n n) n ((knwB n []).map Value.bool) ∧ W.ownsRow w.heap.size 4 1 (.slice (some ⟨w.heap.size + 1, 0, none⟩) n n) n ((knwB n []).map Value.bool) ∧ Below w.heap.size w W := by
  have hl : (madeCells #[.bool false] n).toList = List.replicate n (Value.bool false) := by
    have := made_bools n
    simpa [Value.cells] using this
  have h1 := World.ownsRow_lit (base := w.heap.size) (e := 4) (size := 1) w (madeCells #[.bool false] n) n (Nat.le_refl _) (by unfold maxLen; omega) (by rw [← Array.length_toList, hl]; simp)
  have h2 := World.ownsRow_lit (base := w.heap.size) (e := 4) (size := 1) (w.alloc (.cells (madeCells #[.bool false] n) 4)) (madeCells #[.bool false] n) n (by simp) (by unfold maxLen; omega) (by rw [← Array.length_toList, hl]; simp)
  rw [hl] at h1 h2
  rw [World.size_alloc] at h2
  have h3 := h1.alloc (.cells (madeCells #[.bool false] n) 4)
  rw [modB_nil, knwB_nil]
  exact ⟨h3, h2, h3, h2, (((Below.refl _ _).alloc (Nat.le_refl _) _).alloc (by simp) _).drew⟩
def MdlRel (n a b : Nat) (ls : List Int) (w : World) (i : Value) (wr : World) : Prop := ∃ k : Nat, k ≤ ls.length ∧ i = .int .i64 k ∧ wr.ownsRow w.heap.size 4 1 (.slice (some ⟨a, 0, none⟩) n n) n ((modB n (ls.take k)).map Value.bool) ∧
  wr.ownsRow w.heap.size 4 1 (.slice (some ⟨b, 0, none⟩) n n) n ((knwB n (ls.take k)).map Value.bool) ∧ (∀ (m : Nat) (y : Int), m < k → ls[m]? = some y → litE n (ls.take m) y = 0) ∧ Below w.heap.size w wr
set_option maxRecDepth 100000 in
set_option maxHeartbeats 2000000 in
theorem model_any {B : Nat} {lv : Value} {ls : List Int} (vars : Int) (hl : ls.length ≤ 1000000000) (w : World) (hB : B ≤ w.heap.size) (hI : Ints B w lv ls) :
    Calls Tryz.prog 8 #[.int .i64 vars, lv] w fun e w' => ∃ v, e = .returned (.tuple #[v, .int .i64 (mdlE vars ls)]) ∧ w'.ownsRow w.heap.size 4 1 v (if mdlE vars ls = 0 then modB vars.toNat ls else []).length ((if mdlE vars ls = 0 then modB vars.toNat ls else []).map Value.bool) ∧ Below w.heap.size w w' := by
  obtain ⟨A, cap, rfl, hc⟩ := ints_shape hI
  have hcn := fun W => counted_any vars W
  have HC := Lib.hid hc
  clear hc hI
  by_cases hv : vars < 0 ∨ 1048576 < vars
  · have he : mdlE vars ls = 50 := by unfold mdlE; rw [if_pos hv]
    rw [he]
    have hcb : cntB vars = false := by unfold cntB; simp; omega
    rw [hcb] at hcn
    have HCn := Lib.hid hcn
    clear hcn hcb HC
    go_enter Tryz.func8, Tryz.ntmps8
    go_wp2_with fail
    refine (HCn.out _).mono ?_
    rintro e w' ⟨rfl, rfl⟩
    go_wp2_with fail
    go_ret2
    exact ⟨_, rfl, World.ownsRow_nil _ _ _ _, Below.refl _ _⟩
  · have he : mdlE vars ls = modE vars [] ls := by unfold mdlE; rw [if_neg hv]
    rw [he]
    have hcb : cntB vars = true := by unfold cntB; simp; omega
    rw [hcb] at hcn
    obtain ⟨n, rfl⟩ : ∃ n : Nat, vars = n := ⟨vars.toNat, by omega⟩
    rw [Int.toNat_natCast]
    obtain ⟨er, her⟩ : ∃ er, modE (n : Int) [] ls = er := ⟨_, rfl⟩
    obtain ⟨R, hR⟩ : ∃ R, (if er = 0 then modB n ls else []) = R := ⟨_, rfl⟩
    rw [her, hR]
    obtain ⟨i0, hi, hz0, hz1, hz2⟩ := info_parts infoBool
    have HCn := Lib.hid hcn; have HE := Lib.hid her; have HR := Lib.hid hR
    clear hcn hcb he her hR
    go_enter Tryz.func8, Tryz.ntmps8
    go_wp2_with fail
    refine (HCn.out _).mono ?_
    rintro e w' ⟨rfl, rfl⟩
    go_wp2_with fail
    have hmk : ∀ W : World, (Instr.makeSlice 29 (.int .i64 (n : Nat)) (.int .i64 (n : Nat))).run Tryz.prog W = .ok (.slice (some ⟨W.heap.size, 0, none⟩) n n) (W.alloc (.cells (madeCells #[.bool false] n) 4)) := fun W => run_make_row' 29 4 (.bool false) 1 Tryz.underlying29 infoBool rfl .i64 .i64 n (by omega) (by omega) W
    go_cut [6, 7] (fun s6 s7 wx => MdCut n w s6 s7 wx)
    case first =>
      have hro := made_two n (by omega) w
      have HRo := Lib.hid hro
      clear hro
      go_region
      all_goals
        go_wp2_with fail
        go_meet
        first
          | exact ⟨_, _, by omega, rfl, rfl, HRo.out.1, HRo.out.2.2.2.1, HRo.out.2.2.2.2⟩
          | exact ⟨_, _, by omega, rfl, rfl, HRo.out.2.1, HRo.out.2.2.1, HRo.out.2.2.2.2⟩
    case rest =>
      obtain ⟨a, b, hab, rfl, rfl, hr6, hr7, hbw⟩ := hcut
      have HR6 := Lib.hid hr6; have HR7 := Lib.hid hr7; have HBw := Lib.hid hbw
      clear hr6 hr7 hbw hmk
      go_wp2_with fail
      go_loopw [21] (fun i wr => MdlRel n a b ls w i wr) (fun i _ => ls.length - (intOf i).toNat)
      case atStart => exact ⟨0, Nat.zero_le _, rfl, HR6.out, HR7.out, (fun m y hm => by omega), HBw.out⟩
      case round =>
        obtain ⟨k, hk, rfl, hrm, hrk, hno, hbw⟩ := hrel
        by_cases hlt : k < ls.length
        · obtain ⟨bc, oc, rfl, hb, hck⟩ := HC.out k hlt
          have hck := (hbw.cell (p := ⟨bc, oc + k, none⟩) (Nat.lt_of_lt_of_le hb hB)).trans hck
          have htk := take_one ls hlt
          obtain ⟨x, hx⟩ : ∃ x, ls[k]? = some x := ⟨_, List.getElem?_eq_getElem hlt⟩
          rw [hx, Option.getD_some] at hck htk
          have hhas := fun W => hasv_any (n : Int) x W
          have hki : (k : Int) < (ls.length : Int) := by omega
          cases hh : hasV (n : Int) x
          · have hle := litE_has (before := ls.take k) hh
            have hmo := modE_at (vars := (n : Int)) ls [] k x hx (fun m y hm hy => by simpa using hno m y hm hy) (by rw [List.nil_append, hle]; decide)
            rw [List.nil_append, hle] at hmo
            have her : er = 51 := by rw [← HE.out, hmo]
            have hRe : R = [] := by rw [← HR.out, her]; rfl
            subst her
            subst hRe
            rw [hh] at hhas
            have HH := Lib.hid hhas; have HBr := Lib.hid hbw
            clear hhas hh hle hmo hno hrm hrk hx htk hbw HR6 HR7 HC HE HR
            go_wp2_with fail
            refine (HH.out _).mono ?_
            rintro e w' ⟨rfl, rfl⟩
            go_wp2_with fail
            go_ret2
            exact ⟨_, rfl, World.ownsRow_nil _ _ _ _, HBr.out⟩
          · rw [hh] at hhas
            have hle := litE_hasnt (before := ls.take k) hh
            have hcl := model_clash rfl hh hno
            have hhv := hh
            unfold hasV at hhv
            rw [Bool.and_eq_true] at hhv
            have hxb := litB_of hhv.1
            have hvv := of_decide_eq_true hhv.2
            have hva : varI x = (x.natAbs : Int) := by unfold varI; rw [hhv.1]; simp only [if_true]; split <;> omega
            obtain ⟨v, hv⟩ : ∃ v, varI x = v := ⟨_, rfl⟩
            have hvar := fun W => var_any x W
            have hneg := fun W => negd_any x W
            have hnb : negdB x = decide (x < 0) := by unfold negdB; rw [hhv.1, Bool.and_true]
            rw [hv] at hvar hvv hva
            rw [hnb] at hneg
            obtain ⟨q, hq⟩ : ∃ q, x.natAbs - 1 = q := ⟨_, rfl⟩
            have s1 : IntKind.i64.wrap (v - 1) = (q : Int) := by rw [show v - 1 = (q : Int) by omega]; exact IntWalk.i64_in _ (by omega)
            have hqn : q < n := by omega
            have hqi : (q : Int) < (n : Int) := by omega
            obtain ⟨mv, hmv⟩ : ∃ mv, (modB n (ls.take k))[q]?.getD false = mv := ⟨_, rfl⟩
            obtain ⟨kv, hkv⟩ : ∃ kv, (knwB n (ls.take k))[q]?.getD false = kv := ⟨_, rfl⟩
            obtain ⟨s, hs⟩ : ∃ s, decide (x < 0) = s := ⟨_, rfl⟩
            have c1 : wr.cell? ⟨a, q, none⟩ = some (.bool mv) := by
              rw [hrm.cellAt q (by omega), List.getElem?_map, ← hmv, List.getElem?_eq_getElem (by rw [modB_len]; exact hqn)]; rfl
            have c2 : wr.cell? ⟨b, q, none⟩ = some (.bool kv) := by
              rw [hrk.cellAt q (by omega), List.getElem?_map, ← hkv, List.getElem?_eq_getElem (by simp [knwB]; exact hqn)]; rfl
            rw [hq, hmv, hkv, hs] at hcl
            rw [hs] at hneg
            have HH := Lib.hid hhas; have HVar := Lib.hid hvar; have HNeg := Lib.hid hneg; have HBr := Lib.hid hbw; have HRm := Lib.hid hrm; have HRk := Lib.hid hrk; have HNo := Lib.hid hno; have HLe := Lib.hid hle; have HX := Lib.hid hx; have HT := Lib.hid htk; have HCl := Lib.hid hcl; have HNx := Lib.hid hlt; have HS := Lib.hid hs; have HQ := Lib.hid hq; have HX0 := Lib.hid hxb.1
            clear hhas hvar hneg hbw hrm hrk hno hle hx htk hcl hlt hs hmv hkv hh hhv hnb hv hvv hva hxb hq HC HR6 HR7
            have f1 : wr.frozen? ⟨a, q, none⟩ = false := HRm.out.frozenAt q
            have f2 : wr.frozen? ⟨b, q, none⟩ = false := HRk.out.frozenAt q
            have HOk := Lib.hid (fun (h : decide (-x ∈ ls.take k) = false) => (show MdlRel n a b ls w (.int .i64 ((k : Int) + 1)) ((wr.setCell ⟨a, q, none⟩ (.bool (!s))).setCell ⟨b, q, none⟩ (.bool true)) from by
              have hne := of_decide_eq_false h
              have w1 := (HRm.out.stored q (.bool (!s))).1
              have w2 := HRk.out.kept (grown_set wr a q (.bool (!s))) (.inr (by simp [Value.ownBlock]; omega))
              have w3 := (w2.stored q (.bool true)).1
              have w4 := w1.kept (grown_set (wr.setCell ⟨a, q, none⟩ (.bool (!s))) b q (.bool true)) (.inr (by simp [Value.ownBlock]; omega))
              have e1 := modB_set (n := n) hne HX0.out
              have e2 := knwB_set (n := n) (ls := ls.take k) HX0.out
              rw [HS.out, HQ.out, ← HT.out] at e1
              rw [HQ.out, ← HT.out] at e2
              refine ⟨k + 1, HNx.out, by go_num, by rw [← e1]; exact w4, by rw [← e2]; exact w3, fun m y hm hy => ?_, (HBr.out.setCell (p := ⟨a, q, none⟩) (HRm.out.lt a rfl).1 _).setCell (p := ⟨b, q, none⟩) (HRk.out.lt b rfl).1 _⟩
              rcases Nat.lt_or_ge m k with hmk | hmk
              · exact HNo.out m y hmk hy
              · obtain rfl : m = k := by omega
                rw [HX.out] at hy
                cases hy
                rw [HLe.out, if_neg hne]))
            have HBad := Lib.hid (fun (h : decide (-x ∈ ls.take k) = true) => (show er = 52 ∧ R = [] from by
              have hin := of_decide_eq_true h
              have hle := HLe.out
              rw [if_pos hin] at hle
              have hmo := modE_at (vars := (n : Int)) ls [] k x HX.out (fun m y hm hy => by simpa using HNo.out m y hm hy) (by rw [List.nil_append, hle]; decide)
              rw [List.nil_append, hle] at hmo
              have her : er = 52 := by rw [← HE.out, hmo]
              exact ⟨her, by rw [← HR.out, her]; rfl⟩))
            cases kv <;> cases mv <;> cases s
            all_goals
              go_wp2_with (first
                | (go_at_call 32; refine (HH.out _).mono ?_; rintro e w' ⟨rfl, rfl⟩)
                | (go_at_call 33; refine (HVar.out _).mono ?_; rintro e w' ⟨rfl, rfl⟩)
                | (go_at_call 34; refine (HNeg.out _).mono ?_; rintro e w' ⟨rfl, rfl⟩))
            all_goals
              first
                | (refine ⟨HOk.out (by rw [← HCl.out]; rfl), ?_⟩
                   simp [intOf]
                   omega)
                | (obtain ⟨he, hr⟩ := HBad.out (by rw [← HCl.out]; rfl)
                   go_ret2
                   exact ⟨.slice none 0 0, by rw [he]; rfl, by rw [hr]; exact World.ownsRow_nil _ _ _ _, HBr.out⟩)
        · obtain rfl : k = ls.length := by omega
          have hmo := modE_no (vars := (n : Int)) ls [] (fun m y hy => by simpa using hno m y (List.getElem?_eq_some_iff.1 hy).1 hy)
          have her : er = 0 := by rw [← HE.out, hmo]
          rw [List.take_length] at hrm
          subst her
          have hRe : R = modB n ls := by rw [← HR.out]; rfl
          subst hRe
          have HRm := Lib.hid hrm; have HBr := Lib.hid hbw
          clear hno hrm hrk hmo hbw HR6 HR7 HC HE HR
          go_wp2_with fail
          go_ret2
          exact ⟨_, rfl, by rw [modB_len]; exact HRm.out, HBr.out⟩
end Go.Proofs.YtgoflapolglfcaaGreat
namespace Go.Proofs.YtgoflapolglfcaaGreat
open Go.ChangeShapes Go.WideShapes Go.ChangeAt Go.RowKit Go.Shelf Go.Sort

def litAt (bs : List Bool) (i : Nat) : Int := if bs[i]?.getD false then ((i : Int) + 1) else -((i : Int) + 1)
theorem litAt_abs (bs : List Bool) (i : Nat) : (litAt bs i).natAbs = i + 1 := by unfold litAt; split <;> omega
theorem litAt_get {bs : List Bool} {i : Nat} (h : i < bs.length) : (litsM bs)[i]? = some (litAt bs i) := litsM_at h
theorem litAt_lit {bs : List Bool} {i : Nat} (h : i < 1048576) : litB (litAt bs i) = true := by
  have := litAt_abs bs i
  exact litB_yes (by omega) (by omega) (by omega)
theorem litAt_var {bs : List Bool} {i : Nat} (h : i < 1048576) : varI (litAt bs i) = (i : Int) + 1 := by
  unfold varI
  rw [litAt_lit h, if_pos rfl]
  unfold litAt
  split <;> split <;> omega
theorem litAt_sign (bs : List Bool) (i : Nat) : decide (litAt bs i < 0) = !(bs[i]?.getD false) := by
  unfold litAt
  cases bs[i]?.getD false
  · simp only [Bool.false_eq_true, if_false, Bool.not_false]
    exact decide_eq_true (by omega)
  · simp only [if_true, Bool.not_true]
    exact decide_eq_false (by omega)
theorem litsM_take {bs : List Bool} {m : Nat} {x : Int} (h : x ∈ (litsM bs).take m) : ∃ i, i < m ∧ i < bs.length ∧ x = litAt bs i := by
  obtain ⟨i, hi, e⟩ := List.getElem_of_mem h
  rw [List.length_take, litsM_len] at hi
  rw [List.getElem_take] at e
  have h2 := litAt_get (bs := bs) (i := i) (by omega)
  rw [List.getElem?_eq_getElem (by rw [litsM_len]; omega)] at h2
  exact ⟨i, by omega, by omega, by rw [← e]; exact Option.some.inj h2⟩
theorem litsM_mem {bs : List Bool} {x : Int} : x ∈ litsM bs ↔ ∃ i, i < bs.length ∧ x = litAt bs i := by
  constructor
  · intro h
    obtain ⟨i, -, h1, h2⟩ := litsM_take (m := bs.length) (by rwa [List.take_of_length_le (by rw [litsM_len]; exact Nat.le_refl _)])
    exact ⟨i, h1, h2⟩
  · rintro ⟨i, h, rfl⟩
    exact List.mem_of_getElem? (litAt_get h)
theorem litE_lits {bs : List Bool} {n m : Nat} (hm : m < bs.length) (hn : bs.length ≤ n) (h2 : n ≤ 1048576) : litE n ((litsM bs).take m) (litAt bs m) = 0 := by
  unfold litE
  rw [litAt_var (by omega), if_neg (by omega), if_neg]
  intro h
  obtain ⟨i, h1, -, e⟩ := litsM_take h
  have a := litAt_abs bs i
  have b := litAt_abs bs m
  omega
theorem mdl_lits {bs : List Bool} {n : Nat} (hn : bs.length ≤ n) (h2 : n ≤ 1048576) : mdlE (n : Int) (litsM bs) = 0 := by
  unfold mdlE
  rw [if_neg (by omega)]
  refine modE_no _ _ fun m x hx => ?_
  have hm : m < bs.length := by have := (List.getElem?_eq_some_iff.1 hx).1; rwa [litsM_len] at this
  rw [litAt_get hm] at hx
  cases hx
  rw [List.nil_append]
  exact litE_lits hm hn h2
theorem mdl_snoc {bs : List Bool} (h0 : 0 < bs.length) (h2 : bs.length ≤ 1048576) : mdlE (bs.length : Int) (litsM bs ++ [-litAt bs 0]) = 52 := by
  unfold mdlE
  rw [if_neg (by omega)]
  have hv : litE (bs.length : Int) (litsM bs) (-litAt bs 0) = 52 := by
    have ha := litAt_abs bs 0
    have hl : litB (-litAt bs 0) = true := litB_yes (by omega) (by omega) (by omega)
    unfold litE
    rw [if_neg, if_pos]
    · rw [Int.neg_neg]; exact litsM_mem.2 ⟨0, h0, rfl⟩
    · unfold varI
      rw [hl]
      simp only [if_true]
      split <;> omega
  have h := modE_at (vars := (bs.length : Int)) (litsM bs ++ [-litAt bs 0]) [] bs.length (-litAt bs 0) (by rw [List.getElem?_append_right (by rw [litsM_len]; exact Nat.le_refl _), litsM_len]; simp) (fun m x hm hx => by
    rw [List.getElem?_append_left (by rw [litsM_len]; exact hm), litAt_get hm] at hx
    cases hx
    rw [List.nil_append, List.take_append_of_le_length (by rw [litsM_len]; omega)]
    exact litE_lits hm (Nat.le_refl _) h2)
  rw [List.nil_append, List.take_append_of_le_length (by rw [litsM_len]; exact Nat.le_refl _), List.take_of_length_le (by rw [litsM_len]; exact Nat.le_refl _)] at h
  rw [h (by rw [hv]; decide), hv]
theorem modB_lits (bs : List Bool) (k : Nat) : modB (bs.length + k) (litsM bs) = bs ++ List.replicate k false := by
  apply List.ext_getElem?
  intro v
  unfold modB
  rw [List.getElem?_map]
  by_cases h : v < bs.length + k
  · rw [List.getElem?_range h]
    simp only [Option.map_some]
    by_cases h1 : v < bs.length
    · rw [List.getElem?_append_left h1, List.getElem?_eq_getElem h1]
      congr 1
      cases hb : bs[v]
      · refine decide_eq_false fun hm => ?_
        obtain ⟨i, hi, e⟩ := litsM_mem.1 hm
        have ha := litAt_abs bs i
        obtain rfl : i = v := by omega
        unfold litAt at e
        rw [List.getElem?_eq_getElem h1, hb] at e
        simp at e
        omega
      · refine decide_eq_true (litsM_mem.2 ⟨v, h1, ?_⟩)
        unfold litAt
        rw [List.getElem?_eq_getElem h1, hb]
        rfl
    · rw [List.getElem?_append_right (by omega), List.getElem?_replicate, if_pos (by omega)]
      congr 1
      refine decide_eq_false fun hm => ?_
      obtain ⟨i, hi, e⟩ := litsM_mem.1 hm
      have ha := litAt_abs bs i
      omega
  · rw [List.getElem?_eq_none (by simp; omega), List.getElem?_eq_none (by simp; omega)]
    rfl
theorem holdP_one {bs : List Bool} {i : Nat} (hi : i < bs.length) (h2 : bs.length ≤ 1048576) (x : Int) (hx : x = litAt bs i ∨ x = -litAt bs i) : holdP [x] bs = decide (x = litAt bs i) := by
  have ha := litAt_abs bs i
  have hxa : x.natAbs = i + 1 := by omega
  have hl : litB x = true := litB_yes (by omega) (by omega) (by omega)
  have hr : rightB [x] = true := by unfold rightB; simp [hl]
  have hv : varI x = (i : Int) + 1 := by
    unfold varI; rw [hl]; simp only [if_true]; split <;> omega
  unfold holdP
  rw [hr, decide_eq_true ((greatest_le (rightB_of hr).2 (x := (bs.length : Int)) (by omega)).2 (fun l h => by
    obtain rfl : l = x := by simpa using h
    omega))]
  unfold holdsM satB
  simp only [List.any_cons, List.any_nil, Bool.or_false, Bool.true_and]
  rw [hxa, show i + 1 - 1 = i by omega]
  have hs := litAt_sign bs i
  rcases hx with rfl | rfl
  · rw [hs, decide_eq_true rfl]
    cases bs[i]?.getD false <;> rfl
  · have hne : -litAt bs i ≠ litAt bs i := by omega
    rw [decide_eq_false hne]
    have : decide (-litAt bs i < 0) = bs[i]?.getD false := by
      cases hb : bs[i]?.getD false
      · rw [hb] at hs
        have := of_decide_eq_true hs
        exact decide_eq_false (by omega)
      · rw [hb] at hs
        have := of_decide_eq_false hs
        exact decide_eq_true (by omega)
    rw [this]
    cases bs[i]?.getD false <;> rfl
/-! ### slices of truths that come in -/
theorem bools_of {H : Type} {enc : TypeId × Value → H} {P : Program} {W : World} {r : Reach} {b0 : Nat} {hd : Bool} {t e : TypeId} {v : Value} {d : DataW H} {ps : List MemPlace} (ht : P.underlying t = some (.slice e)) (he : P.underlying e = some .bool) (hc : P.cellsOf e = 1)
    (hval : Value.okWide P W r b0 t v) (h : DataW.Trod enc P W 0 (fun _ => true) hd t v d ps) (hfz : ∀ x ∈ ps, MemPlace.frozenIn W x = false) : ∃ bs, Bools W.heap.size W v bs ∧ bs.length ≤ maxLen ∧ Fits v := by
  obtain ⟨a0, len, cap, rfl⟩ := okWide_slice ht hval
  obtain ⟨fuel, hf⟩ := h
  rcases Go.Deep.open_bools ht he hc hf with ⟨hcs, -⟩ | ⟨a, len', cap', B, hcs, -, hl, hm, hx, hcell⟩
  · simp [Value.cells] at hcs
    obtain ⟨rfl, rfl, rfl⟩ := hcs
    exact ⟨[], .inl ⟨_, _, rfl, fun _ => rfl, rfl⟩, Nat.zero_le _, fun A n c e => by cases e; exact Nat.le_refl _⟩
  · simp [Value.cells] at hcs
    obtain ⟨rfl, rfl, rfl⟩ := hcs
    refine ⟨(List.range len).map B, ?_, by simp; omega, fun A n c e => by cases e; exact hl⟩
    by_cases h0 : len = 0
    · subst h0
      exact .inl ⟨_, _, rfl, (fun e => by cases e), rfl⟩
    · obtain ⟨b, off, sp'⟩ := a
      have h0' := hcell 0 (by omega)
      have hpl : sp' = none := by simpa [Addr.add] using World.cell?_spot h0'
      subst hpl
      have hadd : ∀ j, (⟨b, off, none⟩ : Addr).add j = ⟨b, off + j, none⟩ := fun j => addr_add b off j
      have hb := World.block_lt_of_cell? W _ h0'
      rw [hadd] at hb
      refine .inr ⟨b, off, cap, by simp, hb, fun j hj => ?_⟩
      have hj' : j < len := by simpa using hj
      refine ⟨by rw [← hadd j, hcell j (by omega)]; simp [hj'], ?_⟩
      have hp : ps = MemPlace.row ⟨b, off, none⟩ cap := by
        have := congrArg Prod.snd hx
        exact this
      have := hfz (.cell b (off + j)) (by rw [hp]; exact MemPlace.mem_row.2 ⟨j, by omega, rfl⟩)
      exact this
end Go.Proofs.YtgoflapolglfcaaGreat
namespace Go.Proofs.YtgoflapolglfcaaGreat
open Go.RowKit Go.ChangeAt Go.ChangeShapes Go.WideShapes Go.Shelf Go.Sort
end Go.Proofs.YtgoflapolglfcaaGreat
