/- The reference of the trail: a list of what was assigned. -/
import Derived.Test.YtdeedmfofjdbjaaTrBeside
import Derived.Test.YtdeedmfofjdbjaaRef
namespace Go.Proofs.Ytdeedmfofjdbjaa
open Go.RowKit Go.ChangeAt Go.ChangeShapes Go.WideShapes Go.Sort

/-- The cells of what was assigned. -/
def itV (its : List It) : List Value := its.flatMap fun x => [.int .i64 x.lit, .int .i64 x.reason, .int .i64 (x.level : Int)]
theorem itV_cons (x : It) (its : List It) : itV (x :: its) = .int .i64 x.lit :: .int .i64 x.reason :: .int .i64 (x.level : Int) :: itV its := rfl
theorem itV_app (a b : List It) : itV (a ++ b) = itV a ++ itV b := by unfold itV; exact List.flatMap_append
theorem itV_len : ∀ its : List It, (itV its).length = its.length * 3
  | [] => rfl
  | x :: its => by rw [itV_cons]; simp [itV_len its]; omega
theorem itV_at : ∀ (its : List It) (j : Nat) (x : It), its[j]? = some x → (itV its)[j * 3]? = some (.int .i64 x.lit) ∧ (itV its)[j * 3 + 1]? = some (.int .i64 x.reason) ∧ (itV its)[j * 3 + 2]? = some (.int .i64 (x.level : Int))
  | [], _, _, h => by simp at h
  | y :: its, 0, x, h => by
    obtain rfl : y = x := by simpa using h
    exact ⟨rfl, rfl, rfl⟩
  | y :: its, j + 1, x, h => by
    obtain ⟨h1, h2, h3⟩ := itV_at its j x (by simpa using h)
    rw [itV_cons]
    refine ⟨?_, ?_, ?_⟩
    · rw [show (j + 1) * 3 = j * 3 + 3 by omega]; simpa using h1
    · rw [show (j + 1) * 3 + 1 = j * 3 + 1 + 3 by omega]; simpa using h2
    · rw [show (j + 1) * 3 + 2 = j * 3 + 2 + 3 by omega]; simpa using h3
/-- A row of what was assigned. -/
def RRow (B : Nat) (W : World) (av : Value) (its : List It) : Prop := W.ownsRow B 90 3 av its.length (itV its)
section
variable {B : Nat} {W W' : World} {av : Value} {its : List It}
theorem RRow.at_ (h : RRow B W av its) : ∃ A cap, av = .slice A its.length cap ∧ (A = none → cap = 0) ∧ ∀ (j : Nat) (x : It), its[j]? = some x → ∃ b, A = some ⟨b, 0, none⟩ ∧ b < W.heap.size ∧ W.cell? ⟨b, j * 3, none⟩ = some (.int .i64 x.lit) ∧ W.cell? ⟨b, j * 3 + 1, none⟩ = some (.int .i64 x.reason) ∧ W.cell? ⟨b, j * 3 + 2, none⟩ = some (.int .i64 (x.level : Int)) := by
  rcases h.2 with ⟨rfl, h0⟩ | ⟨b, cap, cur, rfl, -, hg, hn, -⟩
  · rw [h0]
    exact ⟨_, _, rfl, fun _ => rfl, fun j p hp => by
      have := (List.getElem?_eq_some_iff.1 hp).1
      omega⟩
  · refine ⟨_, _, rfl, (fun e => by cases e), fun j x hx => ?_⟩
    obtain ⟨h1, h2, h3⟩ := itV_at its j x hx
    have hc : ∀ j u, (itV its)[j]? = some u → W.cell? ⟨b, j, none⟩ = some u := fun j u hj => by
      have := h.cells (g := b) rfl j u hj
      rwa [addr_add, Nat.zero_add] at this
    exact ⟨b, rfl, (Array.getElem?_eq_some_iff.1 hg).1, hc _ _ h1, hc _ _ h2, hc _ _ h3⟩
theorem RRow.keeps {K : Nat → Prop} (h : RRow B W av its) (t : Keeps K W W') (hn : ∀ b, av.ownBlock = some b → ¬ K b) : RRow B W' av its := row_turn h t hn
theorem RRow.on (h : RRow B W av its) (hb : Below W.heap.size W W') : RRow B W' av its := h.keeps (K := fun _ => False) (Keeps.of_below hb) (fun _ _ x => x)
theorem rrow_nil (B : Nat) (W : World) : RRow B W (.slice none 0 0) [] := World.ownsRow_nil _ _ _ _
end
/-- The reference's value. -/
def refT (nv now : Int) (iv sv : Value) : Value := .agg #[.int .i64 nv, .int .i64 now, iv, sv]
/-- Where a variable is. -/
def plI : Option (Nat × It) → Int
  | none => -1
  | some (p, _) => p
def PlaceRel (its : List It) (v : Int) (w : World) (i : Value) (wr : World) : Prop := ∃ j : Nat, j ≤ its.length ∧ i = .int .i64 j ∧ (∀ (m : Nat) (x : It), m < j → its[m]? = some x → (x.vr : Int) ≠ v) ∧ Below w.heap.size w wr
set_option maxRecDepth 100000 in
set_option maxHeartbeats 2000000 in
theorem place_ref {B : Nat} {iv sv : Value} {nv : Nat} {its : List It} {st : List Nat} (now : Int) (v : Int) (o : Option (Nat × It)) (w : World) (hg : TG nv its st) (h : RRow B w iv its) (ho : OAt its v o) : Calls Try.prog 52 #[refT nv now iv sv, .int .i64 v] w fun r w' =>
    r = .returned (.int .i64 (plI o)) ∧ Below w.heap.size w w' := by
  have hnv := hg.nvmax
  have hlen := hg.len
  obtain ⟨A, cap, rfl, -, hat⟩ := h.at_
  obtain ⟨n, hn⟩ : ∃ n : Int, (nv : Int) = n := ⟨_, rfl⟩
  unfold refT
  rw [hn]
  have HAt := Lib.hid hat; have HG := Lib.hid hg; have HO := Lib.hid ho
  clear h hat hg ho hn
  go_enter Try.func52, Try.ntmps52
  go_wp2_with fail
  have hb0 := Whole.made w 69 #[.int .i64 n, .int .i64 now, .slice A its.length cap, sv]
  have hbl := below1a w (.cells #[.int .i64 n, .int .i64 now, .slice A its.length cap, sv] 69)
  have HB0 := Lib.hid hb0; have HBl := Lib.hid hbl
  clear hb0 hbl
  go_loopw [5] (fun i wr => PlaceRel its v (w.alloc (.cells #[.int .i64 n, .int .i64 now, .slice A its.length cap, sv] 69)) i wr) (fun i _ => its.length - (intOf i).toNat)
  case atStart => exact ⟨0, Nat.zero_le _, rfl, fun m p hm => by omega, Below.refl _ _⟩
  case round =>
    obtain ⟨j, hj, rfl, hall, hB⟩ := hrel
    have hcb : wr.cell? ⟨w.heap.size, 2, none⟩ = some (.slice A its.length cap) := (hB.cell (p := ⟨w.heap.size, 2, none⟩) HB0.out.lt).trans (HB0.out.cell 2)
    have HBw := Lib.hid (HBl.out.trans (hB.mono (by simp)))
    by_cases hlt : j < its.length
    · have hx := List.getElem?_eq_getElem hlt
      obtain ⟨x, hxn⟩ : ∃ x, its[j] = x := ⟨_, rfl⟩
      rw [hxn] at hx
      obtain ⟨b, rfl, hb, hc0, -, -⟩ := HAt.out j x hx
      have hc0 := (HBw.out.cell (p := ⟨b, j * 3, none⟩) hb).trans hc0
      have hr : 1 ≤ x.lit.natAbs ∧ x.lit.natAbs ≤ nv := HG.out.lit x (List.mem_of_getElem? hx)
      have hvx := varI_nat (l := x.lit) (litB_yes (by omega) (by omega) (by omega))
      obtain ⟨y, hy⟩ : ∃ y, x.lit = y := ⟨_, rfl⟩
      obtain ⟨u, hu⟩ : ∃ u : Int, (x.vr : Int) = u := ⟨_, rfl⟩
      have hu' : ((x.lit.natAbs : Nat) : Int) = u := hu
      rw [hu', hy] at hvx
      rw [hy] at hc0
      have hu1 : 1 ≤ u := by omega
      have HAll := Lib.hid hall; have HB := Lib.hid hB; have HXj := Lib.hid hx; have HU := Lib.hid hu; have HV := Lib.hid hvx
      clear hall hB hx hxn hr hvx hy hu hu' HAt HB0 HBl
      have next : (x.vr : Int) ≠ v → ∀ (m : Nat) (x : It), m < j + 1 → its[m]? = some x → (x.vr : Int) ≠ v := fun hne m q hm hq => by
        rcases Nat.lt_or_ge m j with h | h
        · exact HAll.out m q h hq
        · obtain rfl : m = j := by omega
          rw [HXj.out] at hq
          cases hq
          exact hne
      have HN := Lib.hid next; clear next
      by_cases hv0 : 0 < v
      · by_cases hid : u = v
        · have HId := Lib.hid ((HO.out j x).2 ⟨HXj.out, HU.out.trans hid⟩)
          go_wp2_with fail
          refine (ref_var _ _).mono ?_
          rintro r w' ⟨rfl, rfl⟩
          rw [HV.out]
          go_wp2_with fail
          go_ret
          exact ⟨by rw [HId.out]; rfl, HBw.out⟩
        · have hidq : (u == v) = false := by rw [beq_eq_false_iff_ne]; exact hid
          have HNn := Lib.hid (HN.out (by rw [HU.out]; exact hid))
          go_wp2_with fail
          refine (ref_var _ _).mono ?_
          rintro r w' ⟨rfl, rfl⟩
          rw [HV.out]
          go_wp2_with fail
          refine ⟨⟨j + 1, hlt, by go_num, HNn.out, HB.out⟩, ?_⟩
          simp [intOf]; omega
      · have HNn := Lib.hid (HN.out (by rw [HU.out]; omega))
        go_wp2_with fail
        refine ⟨⟨j + 1, hlt, by go_num, HNn.out, HB.out⟩, ?_⟩
        simp [intOf]; omega
    · obtain rfl : j = its.length := by omega
      have hno : o = none := by
        rcases o with _ | ⟨p, x⟩
        · rfl
        · have := (HO.out p x).1 rfl
          exact absurd this.2 (hall p x (List.getElem?_eq_some_iff.1 this.1).1 this.1)
      subst hno
      clear hall hB HAt HB0 HBl
      go_wp2_with fail
      go_ret
      exact ⟨rfl, HBw.out⟩
def ValRel (its : List It) (l : Int) (w : World) (i : Value) (wr : World) : Prop := ∃ j : Nat, j ≤ its.length ∧ i = .int .i64 j ∧ (litB l = true → ∀ (m : Nat) (x : It), m < j → its[m]? = some x → x.lit ≠ l ∧ x.lit ≠ -l) ∧ Below w.heap.size w wr
theorem valR_off {nv : Nat} {its : List It} {st : List Nat} (h : TG nv its st) {l : Int} (hl : litB l = false) : valI its l = 0 := by
  have hn := lit_not h hl
  unfold valI
  rw [if_neg (fun ⟨x, hx, e⟩ => hn x hx (by show x.lit.natAbs = _; omega)), if_neg (fun ⟨x, hx, e⟩ => hn x hx (by show x.lit.natAbs = _; omega))]
theorem valR_none {its : List It} {l : Int} (h : ∀ (m : Nat) (x : It), m < its.length → its[m]? = some x → x.lit ≠ l ∧ x.lit ≠ -l) : valI its l = 0 := by
  have hh : ∀ x ∈ its, x.lit ≠ l ∧ x.lit ≠ -l := fun x hx => by
    obtain ⟨m, hm⟩ := List.mem_iff_getElem?.1 hx
    exact h m x (List.getElem?_eq_some_iff.1 hm).1 hm
  unfold valI
  rw [if_neg (fun ⟨x, hx, e⟩ => (hh x hx).1 e), if_neg (fun ⟨x, hx, e⟩ => (hh x hx).2 e)]
theorem valR_neg {nv : Nat} {its : List It} {st : List Nat} (h : TG nv its st) {l : Int} {x : It} (hx : x ∈ its) (hl : litB l = true) (e : x.lit = -l) : valI its l = -1 := by
  unfold valI
  obtain ⟨p, hp⟩ := List.mem_iff_getElem?.1 hx
  have h0 := (litB_of hl).1
  rw [if_neg (fun ⟨y, hy, e2⟩ => by
    obtain ⟨q, hq⟩ := List.mem_iff_getElem?.1 hy
    have := h.pos hp hq (by show x.lit.natAbs = y.lit.natAbs; omega)
    subst this
    rw [hp] at hq
    cases hq
    omega), if_pos ⟨x, hx, e⟩]
theorem valR_yes {its : List It} {l : Int} {x : It} (hx : x ∈ its) (e : x.lit = l) : valI its l = 1 := by unfold valI; rw [if_pos ⟨x, hx, e⟩]
set_option maxRecDepth 100000 in
set_option maxHeartbeats 2000000 in
theorem value_ref {B : Nat} {iv sv : Value} {nv : Nat} {its : List It} {st : List Nat} (now : Int) (l : Int) (w : World) (hg : TG nv its st) (h : RRow B w iv its) : Calls Try.prog 51 #[refT nv now iv sv, .int .i64 l] w fun r w' =>
    r = .returned (.int .i64 (valI its l)) ∧ Below w.heap.size w w' := by
  have hnv := hg.nvmax
  have hlen := hg.len
  obtain ⟨A, cap, rfl, -, hat⟩ := h.at_
  obtain ⟨n, hn⟩ : ∃ n : Int, (nv : Int) = n := ⟨_, rfl⟩
  unfold refT
  rw [hn]
  have HAt := Lib.hid hat; have HG := Lib.hid hg
  clear h hat hg hn
  go_enter Try.func51, Try.ntmps51
  go_wp2_with fail
  have hb0 := Whole.made w 69 #[.int .i64 n, .int .i64 now, .slice A its.length cap, sv]
  have hbl := below1a w (.cells #[.int .i64 n, .int .i64 now, .slice A its.length cap, sv] 69)
  have HB0 := Lib.hid hb0; have HBl := Lib.hid hbl
  clear hb0 hbl
  go_loopw [5] (fun i wr => ValRel its l (w.alloc (.cells #[.int .i64 n, .int .i64 now, .slice A its.length cap, sv] 69)) i wr) (fun i _ => its.length - (intOf i).toNat)
  case atStart => exact ⟨0, Nat.zero_le _, rfl, fun _ m p hm => by omega, Below.refl _ _⟩
  case round =>
    obtain ⟨j, hj, rfl, hall, hB⟩ := hrel
    have hcb : wr.cell? ⟨w.heap.size, 2, none⟩ = some (.slice A its.length cap) := (hB.cell (p := ⟨w.heap.size, 2, none⟩) HB0.out.lt).trans (HB0.out.cell 2)
    have HBw := Lib.hid (HBl.out.trans (hB.mono (by simp)))
    by_cases hlt : j < its.length
    · have hx := List.getElem?_eq_getElem hlt
      obtain ⟨x, hxn⟩ : ∃ x, its[j] = x := ⟨_, rfl⟩
      rw [hxn] at hx
      obtain ⟨b, rfl, hb, hc0, -, -⟩ := HAt.out j x hx
      have hc0 := (HBw.out.cell (p := ⟨b, j * 3, none⟩) hb).trans hc0
      obtain ⟨y, hy⟩ : ∃ y, x.lit = y := ⟨_, rfl⟩
      rw [hy] at hc0
      have HAll := Lib.hid hall; have HB := Lib.hid hB; have HXj := Lib.hid hx; have HY := Lib.hid hy
      clear hall hB hx hxn hy HAt HB0 HBl
      cases hl : litB l
      · have HL := Lib.hid hl
        clear hl
        go_wp2_with fail
        refine (ref_right _ _).mono ?_
        rintro r w' ⟨rfl, rfl⟩
        rw [HL.out]
        go_wp2_with fail
        refine (ref_right _ _).mono ?_
        rintro r w' ⟨rfl, rfl⟩
        rw [HL.out]
        go_wp2_with fail
        refine ⟨⟨j + 1, hlt, by go_num, (fun e => by rw [HL.out] at e; cases e), HB.out⟩, ?_⟩
        simp [intOf]; omega
      · have HL := Lib.hid hl
        have hlb := litB_of hl
        have hsm : IntKind.i64.wrap (-l) = -l := IntWalk.i64_in _ (by omega)
        clear hl
        by_cases h1 : y = l
        · have HV := Lib.hid (valR_yes (List.mem_of_getElem? HXj.out) (HY.out.trans h1))
          go_wp2_with fail
          refine (ref_right _ _).mono ?_
          rintro r w' ⟨rfl, rfl⟩
          rw [HL.out]
          go_wp2_with fail
          go_ret
          exact ⟨ret_i HV.out.symm, HBw.out⟩
        · have h1q : (y == l) = false := by rw [beq_eq_false_iff_ne]; exact h1
          by_cases h2 : y = -l
          · have HV := Lib.hid (valR_neg HG.out (List.mem_of_getElem? HXj.out) HL.out (HY.out.trans h2))
            go_wp2_with fail
            refine (ref_right _ _).mono ?_
            rintro r w' ⟨rfl, rfl⟩
            rw [HL.out]
            go_wp2_with fail
            refine (ref_right _ _).mono ?_
            rintro r w' ⟨rfl, rfl⟩
            rw [HL.out]
            go_wp2_with fail
            go_ret
            exact ⟨ret_i HV.out.symm, HBw.out⟩
          · have h2q : (y == -l) = false := by rw [beq_eq_false_iff_ne]; exact h2
            have next : litB l = true → ∀ (m : Nat) (x : It), m < j + 1 → its[m]? = some x → x.lit ≠ l ∧ x.lit ≠ -l := fun hl m q hm hq => by
              rcases Nat.lt_or_ge m j with h | h
              · exact HAll.out hl m q h hq
              · obtain rfl : m = j := by omega
                rw [HXj.out] at hq
                cases hq
                rw [HY.out]
                exact ⟨h1, h2⟩
            have HN := Lib.hid next; clear next
            go_wp2_with fail
            refine (ref_right _ _).mono ?_
            rintro r w' ⟨rfl, rfl⟩
            rw [HL.out]
            go_wp2_with fail
            refine (ref_right _ _).mono ?_
            rintro r w' ⟨rfl, rfl⟩
            rw [HL.out]
            go_wp2_with fail
            refine ⟨⟨j + 1, hlt, by go_num, HN.out, HB.out⟩, ?_⟩
            simp [intOf]; omega
    · obtain rfl : j = its.length := by omega
      have hv : valI its l = 0 := by
        cases hl : litB l
        · exact valR_off HG.out hl
        · exact valR_none (hall hl)
      have HV := Lib.hid hv
      clear hall hB HAt HB0 HBl hv
      go_wp2_with fail
      go_ret
      exact ⟨ret_i HV.out.symm, HBw.out⟩
end Go.Proofs.Ytdeedmfofjdbjaa
