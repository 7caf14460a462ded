/- The reference of the arena: a list of clauses. -/
import Derived.Test.YtjkhhnfmefbohaaBeside
import Derived.Test.YtjkhhnfmefbohaaRefRight
namespace Go.Proofs.Ytjkhhnfmefbohaa
open Go.RowKit Go.ChangeAt Go.ChangeShapes Go.WideShapes Go.Sort

/-- The cells of a list of entries, whose literals lie in vs. -/
def refV : List (Int × List Int) → List Value → List Value
  | p :: L, v :: vs => .int .i64 p.1 :: v :: refV L vs
  | _, _ => []
theorem refV_len : ∀ (L : List (Int × List Int)) (vs : List Value), vs.length = L.length → (refV L vs).length = L.length * 2
  | [], _, _ => by simp [refV]
  | p :: L, [], h => by simp at h
  | p :: L, v :: vs, h => by
    have := refV_len L vs (by simpa using h)
    simp [refV, this]
    omega
theorem refV_app : ∀ (L : List (Int × List Int)) (vs : List Value) (p : Int × List Int) (v : Value), vs.length = L.length → refV (L ++ [p]) (vs ++ [v]) = refV L vs ++ [.int .i64 p.1, v]
  | [], [], _, _, _ => by simp [refV]
  | [], _ :: _, _, _, h => by simp at h
  | q :: L, [], _, _, h => by simp at h
  | q :: L, u :: vs, p, v, h => by
    have := refV_app L vs p v (by simpa using h)
    simp [refV, this]
theorem refV_at : ∀ (L : List (Int × List Int)) (vs : List Value) (j : Nat) (p : Int × List Int), vs.length = L.length → L[j]? = some p → ∃ v, vs[j]? = some v ∧ (refV L vs)[j * 2]? = some (.int .i64 p.1) ∧ (refV L vs)[j * 2 + 1]? = some v
  | [], _, _, _, _, h => by simp at h
  | q :: L, [], _, _, h, _ => by simp at h
  | q :: L, u :: vs, 0, p, _, hp => by
    obtain rfl : q = p := by simpa using hp
    exact ⟨u, rfl, by simp [refV], by simp [refV]⟩
  | q :: L, u :: vs, j + 1, p, h, hp => by
    obtain ⟨v, h1, h2, h3⟩ := refV_at L vs j p (by simpa using h) (by simpa using hp)
    refine ⟨v, by simpa using h1, ?_, ?_⟩
    · rw [show (j + 1) * 2 = j * 2 + 2 by omega]; simpa [refV] using h2
    · rw [show (j + 1) * 2 + 1 = j * 2 + 1 + 2 by omega]; simpa [refV] using h3
/-- A row of entries: their literals lie below C. -/
def RefRow (B C : Nat) (W : World) (av : Value) (L : List (Int × List Int)) : Prop :=
  ∃ vs : List Value, vs.length = L.length ∧ W.ownsRow B 88 2 av L.length (refV L vs) ∧ ∀ (j : Nat) (p : Int × List Int) (v : Value), L[j]? = some p → vs[j]? = some v → Ints C W v p.2
section
variable {B C : Nat} {W W' : World} {av : Value} {L : List (Int × List Int)}
theorem RefRow.at_ (h : RefRow B C W av L) : ∃ A cap, av = .slice A L.length cap ∧ (A = none → cap = 0) ∧ ∀ (j : Nat) (p : Int × List Int), L[j]? = some p → ∃ b v, A = some ⟨b, 0, none⟩ ∧ b < W.heap.size ∧ W.cell? ⟨b, j * 2, none⟩ = some (.int .i64 p.1) ∧ W.cell? ⟨b, j * 2 + 1, none⟩ = some v ∧ Ints C W v p.2 := by
  obtain ⟨vs, hl, hr, hv⟩ := h
  rcases hr.2 with ⟨rfl, h0⟩ | ⟨b, cap, cur, rfl, -, hg, hn, -⟩
  · rw [h0]
    exact ⟨_, _, rfl, fun _ => rfl, fun j p hp => by
      have := (List.getElem?_eq_some_iff.1 hp).1
      omega⟩
  · refine ⟨_, _, rfl, (fun e => by cases e), fun j p hp => ?_⟩
    obtain ⟨v, h1, h2, h3⟩ := refV_at L vs j p hl hp
    have hc : ∀ j u, (refV L vs)[j]? = some u → W.cell? ⟨b, j, none⟩ = some u := fun j u hj => by
      have := hr.cells (g := b) rfl j u hj
      rwa [addr_add, Nat.zero_add] at this
    exact ⟨b, v, rfl, (Array.getElem?_eq_some_iff.1 hg).1, hc _ _ h2, hc _ _ h3, hv j p v hp h1⟩
theorem RefRow.keeps {K : Nat → Prop} (h : RefRow B C W av L) (t : Keeps K W W') (hn : ∀ b, av.ownBlock = some b → ¬ K b) (hb : Below C W W') : RefRow B C W' av L := by
  obtain ⟨vs, hl, hr, hv⟩ := h
  exact ⟨vs, hl, row_turn hr t hn, fun j p v h1 h2 => (hv j p v h1 h2).below hb⟩
theorem RefRow.on (h : RefRow B C W av L) (hC : C ≤ W.heap.size) (hb : Below W.heap.size W W') : RefRow B C W' av L := h.keeps (K := fun _ => False) (Keeps.of_below hb) (fun _ _ x => x) (hb.mono hC)
theorem refRow_nil (B C : Nat) (W : World) : RefRow B C W (.slice none 0 0) [] := ⟨[], rfl, World.ownsRow_nil _ _ _ _, fun j p v h => by simp at h⟩
end

def FindRel (L : List (Int × List Int)) (id : Int) (w : World) (i : Value) (wr : World) : Prop := ∃ j : Nat, j ≤ L.length ∧ i = .int .i64 j ∧ (∀ (m : Nat) (p : Int × List Int), m < j → L[m]? = some p → p.1 ≠ id) ∧ Below w.heap.size w wr
/-- Where a number stands. -/
def whereI (L : List (Int × List Int)) (id : Int) : Int := match L.findIdx? fun p => decide (p.1 = id) with
  | some k => (k : Int)
  | none => -1
theorem whereI_yes {L : List (Int × List Int)} {id : Int} {j : Nat} {p : Int × List Int} (h : L[j]? = some p) (hp : p.1 = id) (hn : ∀ (m : Nat) (p : Int × List Int), m < j → L[m]? = some p → p.1 ≠ id) : whereI L id = j := by
  obtain ⟨hl, rfl⟩ := List.getElem?_eq_some_iff.1 h
  have : L.findIdx? (fun p => decide (p.1 = id)) = some j := List.findIdx?_eq_some_iff_getElem.2 ⟨hl, decide_eq_true hp, fun m hm => by
    have := hn m _ hm (List.getElem?_eq_getElem (by omega))
    simpa using this⟩
  unfold whereI
  rw [this]
theorem whereI_no {L : List (Int × List Int)} {id : Int} (hn : ∀ p ∈ L, p.1 ≠ id) : whereI L id = -1 := by
  have : L.findIdx? (fun p => decide (p.1 = id)) = none := List.findIdx?_eq_none_iff.2 fun p hp => decide_eq_false (hn p hp)
  unfold whereI
  rw [this]
set_option maxRecDepth 100000 in
set_option maxHeartbeats 2000000 in
theorem find_ref {B C : Nat} {av : Value} {L : List (Int × List Int)} {last : Int} (id : Int) (w : World) (h : RefRow B C w av L) (hL : L.length ≤ 1073741824) : Calls Try.prog 47 #[.agg #[av, .int .i64 last], .int .i64 id] w fun r w' =>
    r = .returned (.int .i64 (whereI L id)) ∧ Below w.heap.size w w' := by
  obtain ⟨A, cap, rfl, -, hat⟩ := h.at_
  have HAt := Lib.hid hat
  clear h hat
  go_enter Try.func47, Try.ntmps47
  go_wp2_with fail
  have hb0 := Whole.made w 65 #[.slice A L.length cap, .int .i64 last]
  have hbl := below1a w (.cells #[.slice A L.length cap, .int .i64 last] 65)
  have HB0 := Lib.hid hb0; have HBl := Lib.hid hbl
  clear hb0 hbl
  go_loopw [5] (fun i wr => FindRel L id (w.alloc (.cells #[.slice A L.length cap, .int .i64 last] 65)) i wr) (fun i _ => L.length - (intOf i).toNat)
  case atStart => exact ⟨0, Nat.zero_le _, rfl, fun m p hm => by omega, Below.refl _ _⟩
  case round =>
    obtain ⟨j, hj, rfl, hall, hB⟩ := hrel
    have hcb : wr.cell? ⟨w.heap.size, 0, none⟩ = some (.slice A L.length cap) := (hB.cell (p := ⟨w.heap.size, 0, none⟩) HB0.out.lt).trans (HB0.out.cell 0)
    have HBw := Lib.hid (HBl.out.trans (hB.mono (by simp)))
    by_cases hlt : j < L.length
    · obtain ⟨b, v, rfl, hb, hc0, hc1, -⟩ := HAt.out j _ (List.getElem?_eq_getElem hlt)
      have hc0 := (HBw.out.cell (p := ⟨b, j * 2, none⟩) hb).trans hc0
      have hp := List.getElem?_eq_getElem hlt
      obtain ⟨p, hpn⟩ : ∃ p, L[j] = p := ⟨_, rfl⟩
      rw [hpn] at hc0 hp
      have HAll := Lib.hid hall; have HB := Lib.hid hB; have HPj := Lib.hid hp
      clear hpn hc1 hall hB hp HAt HB0 HBl
      by_cases hid : p.1 = id
      · have HId := Lib.hid (whereI_yes HPj.out hid HAll.out)
        go_wp2_with fail
        go_ret
        exact ⟨by rw [HId.out]; rfl, HBw.out⟩
      · go_wp2_with fail
        refine ⟨⟨j + 1, hlt, by go_num, fun m q hm hq => ?_, HB.out⟩, ?_⟩
        · rcases Nat.lt_or_ge m j with h | h
          · exact HAll.out m q h hq
          · obtain rfl : m = j := by omega
            rw [HPj.out] at hq
            cases hq
            exact hid
        · simp [intOf]; omega
    · obtain rfl : j = L.length := by omega
      have HNo := Lib.hid (whereI_no (L := L) (id := id) fun p hp => by
        obtain ⟨m, hm⟩ := List.mem_iff_getElem?.1 hp
        exact hall m p (List.getElem?_eq_some_iff.1 hm).1 hm)
      clear hall hB HAt HB0 HBl
      go_wp2_with fail
      go_ret
      exact ⟨by rw [HNo.out]; rfl, HBw.out⟩
def UsedRel (L : List (Int × List Int)) (w : World) (n i : Value) (wr : World) : Prop := ∃ j : Nat, j ≤ L.length ∧ n = .int .i64 (sumL (L.take j) : Nat) ∧ i = .int .i64 j ∧ Below w.heap.size w wr
theorem sumL_take {L : List (Int × List Int)} {j : Nat} (h : j < L.length) : sumL (L.take (j + 1)) = sumL (L.take j) + L[j].2.length := by
  rw [List.take_succ_eq_append_getElem h, sumL_app]
  simp [sumL]
theorem sumL_take_le (L : List (Int × List Int)) (j : Nat) : sumL (L.take j) ≤ sumL L := by
  conv => rhs; rw [← List.take_append_drop j L]
  rw [sumL_app]
  omega
set_option maxRecDepth 100000 in
set_option maxHeartbeats 2000000 in
theorem used_ref {B C : Nat} {av : Value} {L : List (Int × List Int)} {last : Int} (w : World) (h : RefRow B C w av L) (hL : L.length ≤ 1073741824) (hS : sumL L ≤ 1073741824) : Calls Try.prog 46 #[.agg #[av, .int .i64 last]] w fun r w' =>
    r = .returned (.int .i64 (sumL L : Nat)) ∧ Below w.heap.size w w' := by
  obtain ⟨A, cap, rfl, -, hat⟩ := h.at_
  have HAt := Lib.hid hat
  clear h hat
  go_enter Try.func46, Try.ntmps46
  go_wp2_with fail
  have hb0 := Whole.made w 65 #[.slice A L.length cap, .int .i64 last]
  have hbl := below1a w (.cells #[.slice A L.length cap, .int .i64 last] 65)
  have HB0 := Lib.hid hb0; have HBl := Lib.hid hbl
  clear hb0 hbl
  go_loopw [3, 4] (fun n i wr => UsedRel L (w.alloc (.cells #[.slice A L.length cap, .int .i64 last] 65)) n i wr) (fun _ i _ => L.length - (intOf i).toNat)
  case atStart => exact ⟨0, Nat.zero_le _, rfl, rfl, Below.refl _ _⟩
  case round =>
    obtain ⟨j, hj, rfl, rfl, hB⟩ := hrel
    have hcb : wr.cell? ⟨w.heap.size, 0, none⟩ = some (.slice A L.length cap) := (hB.cell (p := ⟨w.heap.size, 0, none⟩) HB0.out.lt).trans (HB0.out.cell 0)
    have HBw := Lib.hid (HBl.out.trans (hB.mono (by simp)))
    by_cases hlt : j < L.length
    · obtain ⟨b, v, rfl, hb, hc0, hc1, hI⟩ := HAt.out j _ (List.getElem?_eq_getElem hlt)
      have hc1 := (HBw.out.cell (p := ⟨b, j * 2 + 1, none⟩) hb).trans hc1
      obtain ⟨Av, cv, rfl, -⟩ := ints_shape hI
      have hst := sumL_take hlt
      have hs1 := sumL_take_le L (j + 1)
      obtain ⟨u, hu⟩ : ∃ u, sumL (L.take j) = u := ⟨_, rfl⟩
      obtain ⟨ls, hls⟩ : ∃ ls, L[j].2 = ls := ⟨_, rfl⟩
      rw [hu, hls] at hst
      rw [hu]
      rw [hls] at hc1
      have hul : u + ls.length ≤ 1073741824 := by omega
      have HSt := Lib.hid hst; have HB := Lib.hid hB
      clear hst hs1 hu hls hI hB HAt HB0 HBl hc0
      go_wp2_with fail
      refine ⟨⟨j + 1, hlt, by rw [HSt.out]; go_num, by go_num, HB.out⟩, ?_⟩
      simp [intOf]; omega
    · obtain rfl : j = L.length := by omega
      rw [List.take_length]
      clear hB HAt HB0 HBl
      go_wp2_with fail
      go_ret
      exact ⟨rfl, HBw.out⟩
end Go.Proofs.Ytjkhhnfmefbohaa
