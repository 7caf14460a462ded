/- formula: what is small: counted, has, holding, Holds, Value's closure. -/
/- formula.Check. -/
/- formula.Fails, formula.Value, formula.Holds. -/
import Derived.Test.YticcgmegimiegaaGreatDoorFoBits
import Derived.Test.YticcgmegimiegaaGreatDoorOwnRows
import Derived.Test.YticcgmegimiegaaGreatDoorFoGreat
import Derived.Test.YticcgmegimiegaaGreatDoorFoMem
import Derived.Test.YticcgmegimiegaaGreatDoorRef02
import Derived.Deep.QuietTactic
import Derived.BigQuiet
import Derived.IntWalk
import Derived.Deep.RegionHeld3
import Derived.WalkMore
namespace Go.Proofs.YticcgmegimiegaaGreatDoor
open Go.RowKit Go.ChangeAt Go.ChangeShapes Go.WideShapes

def cntB (v : Int) : Bool := decide (0 ≤ v ∧ v ≤ 1048576)
def hasV (v l : Int) : Bool := litB l && decide (varI l ≤ v)
set_option maxHeartbeats 400000 in
theorem counted_any (v : Int) (w : World) : Calls Tryz.prog 59 #[.int .i64 v] w fun e w' => e = .returned (.bool (cntB v)) ∧ w = w' := by
  by_cases h0 : 0 ≤ v
  · by_cases h1 : v ≤ 1048576
    · go_enter Tryz.func59, Tryz.ntmps59
      go_wp2
      go_ret
      exact ⟨ret_bool (by unfold cntB; simp [h0, h1]), rfl⟩
    · go_enter Tryz.func59, Tryz.ntmps59
      go_wp2
      go_ret
      exact ⟨ret_bool (by unfold cntB; simp [h0, h1]), rfl⟩
  · go_enter Tryz.func59, Tryz.ntmps59
    go_wp2
    go_ret
    exact ⟨ret_bool (by unfold cntB; simp; omega), rfl⟩
/-! ### whether a clause holds -/
def HoldgRel (w : World) (zs : List Int) (bs : List Bool) (i : Value) (wr : World) : Prop := ∃ k q : Nat, k ≤ zs.length ∧ i = .int .i64 k ∧ holdsM bs (zs.take k) = false ∧ wr = w.drewN q
theorem holdsM_snoc (bs : List Bool) (zs : List Int) (l : Int) : holdsM bs (zs ++ [l]) = (holdsM bs zs || satB bs l) := by unfold holdsM; simp
end Go.Proofs.YticcgmegimiegaaGreatDoor
namespace Go.Proofs.YticcgmegimiegaaGreatDoor
open Go.RowKit Go.ChangeAt Go.ChangeShapes Go.WideShapes

/-- A slice of clauses: the lists L; all lies below C. -/
abbrev RowsL (C : Nat) (W : World) (v : Value) (L : List (List Int)) : Prop := RowsV C W v (L.map fun zs => zs.map (Value.int .i64))
theorem rowsL_shape {C : Nat} {W : World} {v : Value} {L : List (List Int)} (h : RowsL C W v L) : ∃ A cap, v = .slice A L.length cap ∧ ∀ (j : Nat) (zs : List Int), L[j]? = some zs → ∃ b off As cs, A = some ⟨b, off, none⟩ ∧ b < C ∧ W.cell? ⟨b, off + j, none⟩ = some (.slice As zs.length cs) ∧ Lits C W (.slice As zs.length cs) zs := by
  obtain ⟨A, cap, rfl, hs⟩ := RowsV.shape h
  refine ⟨A, cap, by rw [List.length_map], fun j zs hz => ?_⟩
  obtain ⟨b, off, As, cs, h1, h2, h3, h4⟩ := hs j (zs.map (Value.int .i64)) (by rw [List.getElem?_map, hz]; rfl)
  rw [List.length_map] at h3 h4
  exact ⟨b, off, As, cs, h1, h2, h3, rowV_lits.1 h4⟩
theorem maxL_le {l : List Int} {x : Int} (h0 : 0 ≤ x) : maxL l ≤ x ↔ ∀ y ∈ l, y ≤ x := by
  suffices h : ∀ (l : List Int) (a : Int), l.foldl (fun a b => max a b) a ≤ x ↔ a ≤ x ∧ ∀ y ∈ l, y ≤ x by
    rw [maxL, h]
    exact ⟨fun h => h.2, fun h => ⟨h0, h⟩⟩
  intro l
  induction l with
  | nil => intro a; simp
  | cons y l ih =>
    intro a
    rw [List.foldl_cons, ih, Int.max_le]
    simp
    constructor
    · rintro ⟨⟨h1, h2⟩, h3⟩; exact ⟨h1, h2, h3⟩
    · rintro ⟨h1, h2, h3⟩; exact ⟨⟨h1, h2⟩, h3⟩
theorem greatest_le {zs : List Int} (hr : ∀ l ∈ zs, litB l = true) {x : Int} (h0 : 0 ≤ x) : maxL (vl zs) ≤ x ↔ ∀ l ∈ zs, varI l ≤ x := by
  rw [maxL_le h0]
  unfold vl
  constructor
  · intro h l hl
    exact h _ (List.mem_map.2 ⟨l, List.mem_filter.2 ⟨hl, hr l hl⟩, rfl⟩)
  · intro h y hy
    obtain ⟨l, hl, rfl⟩ := List.mem_map.1 hy
    exact h l (List.mem_filter.1 hl).1
/-- A formula lies in a block of its own. -/
def FoAt (w1 : World) (g : Nat) (vars : Int) (v : Value) : Prop := w1.cell? ⟨g, 0, none⟩ = some (.int .i64 vars) ∧ w1.cell? ⟨g, 1, none⟩ = some v ∧ g < w1.heap.size
theorem FoAt.on {w1 w2 : World} {g : Nat} {vars : Int} {v : Value} (h : FoAt w1 g vars v) (hb : Below w1.heap.size w1 w2) : FoAt w2 g vars v :=
  ⟨(hb.cell (p := ⟨g, 0, none⟩) h.2.2).trans h.1, (hb.cell (p := ⟨g, 1, none⟩) h.2.2).trans h.2.1, Nat.lt_of_lt_of_le h.2.2 hb.size⟩
theorem fo_new (w : World) (vars : Int) (v : Value) (T : TypeId) : FoAt (w.alloc (.cells #[.int .i64 vars, v] T)) w.heap.size vars v := by
  have m := Whole.made w T #[.int .i64 vars, v]
  exact ⟨m.cell 0, m.cell 1, m.lt⟩
def ChkR (vars : Int) (L : List (List Int)) (w1 : World) (i : Value) (wr : World) : Prop := ∃ k : Nat, k ≤ L.length ∧ i = .int .i64 k ∧ (∀ (m : Nat) (ys : List Int), m < k → L[m]? = some ys → badE vars ys = 0) ∧ Below w1.heap.size w1 wr
set_option maxRecDepth 100000 in
set_option maxHeartbeats 2000000 in
theorem check_any {C : Nat} {v : Value} {L : List (List Int)} (vars : Int) (w : World) (hC : C ≤ w.heap.size) (hn : L.length ≤ 1000000000) (hz : ∀ zs ∈ L, zs.length ≤ 1000000) (hL : RowsL C w v L) :
    Calls Tryz.prog 22 #[.agg #[.int .i64 vars, v]] w fun e w' => e = .returned (.tuple #[.int .i64 (chkI vars L).1, .int .i64 (chkI vars L).2]) ∧ Below w.heap.size w w' := by
  obtain ⟨A, cap, rfl, hat⟩ := rowsL_shape hL
  have b1 := below1a w (.cells #[.int .i64 vars, .slice A L.length cap] 24)
  have m1 := fo_new w vars (.slice A L.length cap) 24
  obtain ⟨w1, hw1⟩ : ∃ y, w.alloc (.cells #[.int .i64 vars, .slice A L.length cap] 24) = y := ⟨_, rfl⟩
  rw [hw1] at b1 m1
  have c0 := m1.1
  have c1 := m1.2.1
  have HB := Lib.hid b1; have HW := Lib.hid hw1; have HAt := Lib.hid hat; have HZ := Lib.hid hz; have HF1 := Lib.hid m1
  clear b1 m1 hw1 hat hL hz
  have hcn := fun W => counted_any vars W
  obtain ⟨r1, hr1⟩ : ∃ r, (chkI vars L).1 = r := ⟨_, rfl⟩
  obtain ⟨r2, hr2⟩ : ∃ r, (chkI vars L).2 = r := ⟨_, rfl⟩
  rw [hr1, hr2]
  by_cases hv : vars < 0 ∨ 1048576 < vars
  · rw [chkI_vars hv] at hr1 hr2
    dsimp only at hr1 hr2
    subst hr1 hr2
    have hcb : cntB vars = false := by unfold cntB; simp; omega
    rw [hcb] at hcn
    have HCn := Lib.hid hcn
    clear HAt HZ hcn hcb hv
    go_enter Tryz.func22, Tryz.ntmps22
    go_wp2_with fail
    rw [HW.out]
    go_wp2_with fail
    refine (HCn.out _).mono ?_
    rintro e w' ⟨rfl, rfl⟩
    go_wp2_with fail
    go_ret2
    exact ⟨rfl, HB.out⟩
  · have HV := Lib.hid hv
    have hv1 : ¬ vars < 0 := by omega
    have hv2 : ¬ 1048576 < vars := by omega
    have hcb : cntB vars = true := by unfold cntB; simp; omega
    rw [hcb] at hcn
    have HCn := Lib.hid hcn
    clear hv hcn hcb
    by_cases hm : 262144 < L.length
    · rw [chkI_many HV.out hm] at hr1 hr2
      dsimp only at hr1 hr2
      subst hr1 hr2
      have hmi : (262144 : Int) < (L.length : Int) := by omega
      clear HAt HZ hm
      go_enter Tryz.func22, Tryz.ntmps22
      go_wp2_with fail
      rw [HW.out]
      go_wp2_with fail
      refine (HCn.out _).mono ?_
      rintro e w' ⟨rfl, rfl⟩
      go_wp2_with fail
      go_ret2
      exact ⟨rfl, HB.out⟩
    · have HM := Lib.hid hm
      have HR1 := Lib.hid hr1; have HR2 := Lib.hid hr2
      have hmi : ¬ (262144 : Int) < (L.length : Int) := by omega
      clear hm hr1 hr2
      go_enter Tryz.func22, Tryz.ntmps22
      go_wp2_with fail
      rw [HW.out]
      go_wp2_with fail
      refine (HCn.out _).mono ?_
      rintro e w' ⟨rfl, rfl⟩
      go_wp2_with fail
      go_loopw [19] (fun i wr => ChkR vars L w1 i wr) (fun i _ => L.length - (intOf i).toNat)
      case atStart => exact ⟨0, Nat.zero_le _, rfl, (fun m ys hm => by omega), Below.refl _ _⟩
      case round =>
        obtain ⟨k, hk, rfl, hall, hB1⟩ := hrel
        obtain ⟨c0, c1, -⟩ := HF1.out.on hB1
        have HBf := Lib.hid (below_cat HB.out hB1); have HB1 := Lib.hid hB1
        by_cases hlt : k < L.length
        · obtain ⟨zs, hx⟩ : ∃ zs, L[k]? = some zs := ⟨_, List.getElem?_eq_getElem hlt⟩
          obtain ⟨b, off, As, cs, rfl, hb, hc, hI⟩ := HAt.out k zs hx
          have hc := (HBf.out.cell (p := ⟨b, off + k, none⟩) (Nat.lt_of_lt_of_le hb hC)).trans hc
          have hI1 := hI.below (HBf.out.mono hC)
          have hzl := HZ.out zs (List.mem_of_getElem? hx)
          have hri := clright_any C _ zs (by omega) wr hI1.ints
          have hgr : ∀ W', Below wr.heap.size wr W' → Calls Tryz.prog 61 #[.slice As zs.length cs] W' fun e w' => e = .returned (.int .i64 (maxL (vl zs))) ∧ Below wr.heap.size wr w' := fun W' hb =>
            (greatest_any _ zs (by omega) W' (((hI1.more (Nat.le_trans hC HBf.out.size)).on hb).ints)).mono fun _ _ ⟨a, b⟩ => ⟨a, below_cat hb b⟩
          have hki : (k : Int) < (L.length : Int) := by omega
          have HRi := Lib.hid hri; have HAll := Lib.hid hall; have HX := Lib.hid hx; have HNx := Lib.hid hlt; have HGr := Lib.hid hgr
          clear hri hI hI1 hall hx hb HAt HZ hB1 hgr
          cases hr : rightB zs
          · have HF := Lib.hid (chkI_at HV.out HM.out HX.out HAll.out (badE_none hr) (by decide))
            have HRr := Lib.hid hr
            clear hr
            go_wp2_with fail
            refine (HRi.out).mono ?_
            rintro e w' ⟨rfl, rfl⟩
            rw [HRr.out]
            go_wp2_with fail
            go_ret2
            exact ⟨by rw [← HR1.out, ← HR2.out, HF.out]; rfl, HBf.out⟩
          · have HRr := Lib.hid hr
            have hg := greatest_le (rightB_of hr).2 (x := vars) (by omega)
            clear hr
            by_cases hle : maxL (vl zs) ≤ vars
            · have HE := Lib.hid (badE_ok HRr.out (hg.1 hle))
              obtain ⟨mx, hmx⟩ : ∃ mx, maxL (vl zs) = mx := ⟨_, rfl⟩
              rw [hmx] at hle HGr
              clear hg hmx
              go_wp2_with fail
              refine (HRi.out).mono ?_
              rintro e w' ⟨rfl, rfl⟩
              rw [HRr.out]
              go_wp2_with fail
              have hl0 : w.heap.size < wr.heap.size := (HF1.out.on HB1.out).2.2
              go_region_held3 (fun W' => W'.cell? ⟨w.heap.size, 0, none⟩ = some (.int .i64 vars)) (first | go_keep | exact hy2) (first
                | (go_at_call 61; (with_reducible refine (HGr.out _ (Below.refl _ _).drew).mono ?_); rintro r w2 ⟨rfl, hb2⟩; have hy2 : w2.cell? ⟨w.heap.size, 0, none⟩ = some (.int .i64 vars) := (hb2.cell (p := ⟨w.heap.size, 0, none⟩) hl0).trans c0))
              all_goals
                have HB2 := Lib.hid hb2
                clear hb2
                go_simp
                go_wp2_with fail
                go_roundw
                case rel => exact ⟨k + 1, HNx.out, by go_num, fun m ys hm hy => by
                  rcases Nat.lt_or_ge m k with h | h
                  · exact HAll.out m ys h hy
                  · obtain rfl : m = k := by omega
                    rw [HX.out] at hy
                    cases hy
                    exact HE.out, below_cat HB1.out HB2.out⟩
                case measure => simp [intOf]; omega
            · have hE : badE vars zs = 51 := by
                have : ∃ l ∈ zs, vars < varI l := Classical.byContradiction fun hn => hle (hg.2 fun l hl => by
                  rcases Int.lt_or_le vars (varI l) with h | h
                  · exact absurd ⟨l, hl, h⟩ hn
                  · exact h)
                obtain ⟨l, hl, hv⟩ := this
                exact badE_lit HRr.out hl hv
              have HF := Lib.hid (chkI_at HV.out HM.out HX.out HAll.out hE (by decide))
              obtain ⟨mx, hmx⟩ : ∃ mx, maxL (vl zs) = mx := ⟨_, rfl⟩
              rw [hmx] at hle HGr
              clear hg hmx hE
              go_wp2_with fail
              refine (HRi.out).mono ?_
              rintro e w' ⟨rfl, rfl⟩
              rw [HRr.out]
              go_wp2_with fail
              have hl0 : w.heap.size < wr.heap.size := (HF1.out.on HB1.out).2.2
              go_region_held3 (fun W' => W'.cell? ⟨w.heap.size, 0, none⟩ = some (.int .i64 vars)) (first | go_keep | exact hy2) (first
                | (go_at_call 61; (with_reducible refine (HGr.out _ (Below.refl _ _).drew).mono ?_); rintro r w2 ⟨rfl, hb2⟩; have hy2 : w2.cell? ⟨w.heap.size, 0, none⟩ = some (.int .i64 vars) := (hb2.cell (p := ⟨w.heap.size, 0, none⟩) hl0).trans c0))
              all_goals
                have HB2 := Lib.hid hb2
                clear hb2
                go_simp
                go_wp2_with fail
                go_ret2
                exact ⟨by rw [← HR1.out, ← HR2.out, HF.out]; rfl, below_cat HBf.out HB2.out⟩
        · obtain rfl : k = L.length := by omega
          have HF := Lib.hid (chkI_ok HV.out HM.out (fun zs hzs => by
            obtain ⟨m, hm⟩ := List.mem_iff_getElem?.1 hzs
            exact hall m zs (List.getElem?_eq_some_iff.1 hm).1 hm))
          clear hall HAt HZ hB1
          go_wp2_with fail
          go_ret2
          exact ⟨by rw [← HR1.out, ← HR2.out, HF.out]; rfl, HBf.out⟩
end Go.Proofs.YticcgmegimiegaaGreatDoor
namespace Go.Proofs.YticcgmegimiegaaGreatDoor
open Go.RowKit Go.ChangeAt Go.ChangeShapes Go.WideShapes

/-- The first clause that does not hold. -/
def failP (bs : List Bool) : Nat → List (List Int) → Int × Bool
  | _, [] => (0, false)
  | k, zs :: L => if holdsM bs zs then failP bs (k + 1) L else ((k : Int), true)
theorem failP_at {bs : List Bool} : ∀ (L : List (List Int)) (k j : Nat) (zs : List Int), L[j]? = some zs → (∀ (m : Nat) (ys : List Int), m < j → L[m]? = some ys → holdsM bs ys = true) → holdsM bs zs = false → failP bs k L = (((k + j : Nat) : Int), true)
  | [], _, _, _, h, _, _ => by simp at h
  | y :: L, k, 0, zs, h, _, hb => by
    obtain rfl : y = zs := by simpa using h
    unfold failP
    rw [if_neg (by rw [hb]; decide)]; rfl
  | y :: L, k, j + 1, zs, h, hall, hb => by
    unfold failP
    rw [if_pos (hall 0 y (by omega) rfl), failP_at L (k + 1) j zs (by simpa using h) (fun m ys hm hy => hall (m + 1) ys (by omega) (by simpa using hy)) hb]
    congr 2
    omega
theorem failP_no {bs : List Bool} : ∀ (L : List (List Int)) (k : Nat), (∀ zs ∈ L, holdsM bs zs = true) → failP bs k L = (0, false)
  | [], _, _ => rfl
  | y :: L, k, h => by
    unfold failP
    rw [if_pos (h y (by simp))]
    exact failP_no L (k + 1) fun zs hz => h zs (by simp [hz])
theorem chk_ok {vars : Int} {L : List (List Int)} (h : (chkI vars L).2 = 0) : 0 ≤ vars ∧ vars ≤ 1048576 ∧ L.length ≤ 262144 ∧ ∀ zs ∈ L, rightB zs = true ∧ ∀ l ∈ zs, litB l = true ∧ (l.natAbs : Int) ≤ vars := by
  unfold chkI at h
  split at h
  · cases h
  · rename_i hv
    split at h
    · cases h
    · rename_i hl
      refine ⟨by omega, by omega, by omega, ?_⟩
      suffices hh : ∀ (L : List (List Int)) (k : Nat), firstBad vars k L = none → ∀ zs ∈ L, badE vars zs = 0 by
        cases hf : firstBad vars 0 L with
        | some p =>
          exfalso
          rw [hf] at h
          suffices hg : ∀ (L : List (List Int)) (k : Nat) (p : Nat × Int), firstBad vars k L = some p → p.2 ≠ 0 by
            exact hg L 0 p hf h
          intro L
          induction L with
          | nil => intro k p hp; cases hp
          | cons z L ih =>
            intro k p hp
            unfold firstBad at hp
            split at hp
            · exact ih _ _ hp
            · rename_i hb
              cases hp
              exact hb
        | none =>
          intro zs hz
          have hb := hh L 0 hf zs hz
          unfold badE at hb
          split at hb
          · rename_i hr
            split at hb
            · rename_i ha
              obtain ⟨-, h2⟩ := rightB_of hr
              refine ⟨hr, fun l hl => ⟨h2 l hl, ?_⟩⟩
              have := ha l hl
              unfold varI at this
              rw [h2 l hl] at this
              simp only [if_true] at this
              split at this <;> omega
            · cases hb
          · cases hb
      intro L
      induction L with
      | nil => intro k _ zs hz; cases hz
      | cons z L ih =>
        intro k hk zs hz
        unfold firstBad at hk
        split at hk
        · rename_i hb
          rcases List.mem_cons.1 hz with rfl | hz
          · exact hb
          · exact ih _ hk zs hz
        · cases hk
theorem chk_small {vars : Int} {n : Nat} {L : List (List Int)} (h : (chkI vars L).2 = 0) (hn : vars = n) : Small n L := fun zs hz l hl => by
  obtain ⟨-, -, -, h4⟩ := chk_ok h
  obtain ⟨-, h5⟩ := h4 zs hz
  obtain ⟨h6, h7⟩ := h5 l hl
  have := litB_of h6
  omega
/-- P5.2. -/
def failsR (vars : Int) (L : List (List Int)) (bs : List Bool) : Int × Bool × Int := if (chkI vars L).2 = 0 then (if (bs.length : Int) = vars then ((failP bs 0 L).1, (failP bs 0 L).2, 0) else (0, false, 52)) else (0, false, (chkI vars L).2)
def FlsR (bs : List Bool) (L : List (List Int)) (w1 : World) (first fails i : Value) (wr : World) : Prop := ∃ k : Nat, k ≤ L.length ∧ first = .int .i64 0 ∧ fails = .bool false ∧ i = .int .i64 k ∧ (∀ (m : Nat) (ys : List Int), m < k → L[m]? = some ys → holdsM bs ys = true) ∧ Below w1.heap.size w1 wr
def valueR (vars : Int) (L : List (List Int)) (bs : List Bool) : Bool := decide ((failsR vars L bs).2.2 = 0) && !(failsR vars L bs).2.1
/-- P5.2: Holds. -/
def holdP (zs : List Int) (bs : List Bool) : Bool := rightB zs && (decide (maxL (vl zs) ≤ bs.length) && holdsM bs zs)
end Go.Proofs.YticcgmegimiegaaGreatDoor
