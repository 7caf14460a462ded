/- The law's same: a trail is what the reference has. -/
import Derived.Test.YtdeedmfofjdbjaaTrLists
import Derived.Test.YtdeedmfofjdbjaaRefTrYes
import Derived.Test.YtdeedmfofjdbjaaTrLevMath
import Derived.BigQuiet
import Derived.Deep.QuietTactic
import Derived.Deep.RegionHeld3
namespace Go.Proofs.Ytdeedmfofjdbjaa
open Go.RowKit Go.ChangeAt Go.ChangeShapes Go.WideShapes Go.Sort

theorem below_cat {a b c : World} (h : Below a.heap.size a b) (k : Below b.heap.size b c) : Below a.heap.size a c := h.trans (k.mono h.size)
theorem start_at {st : List Nat} {j : Nat} (h : j ≤ st.length) : (0 :: stI st)[j]? = some (startI st (j : Int)) := by
  rcases Nat.eq_zero_or_pos j with h0 | h0
  · subst h0
    rw [show ((0 : Nat) : Int) = 0 from rfl, startI_0]
    rfl
  · obtain ⟨k, rfl⟩ : ∃ k, j = k + 1 := ⟨j - 1, by omega⟩
    rw [startI_succ (by omega : k < st.length), List.getElem?_cons_succ]
    unfold stI
    rw [List.getElem?_map, List.getElem?_eq_getElem (by omega : k < st.length)]
    rfl
/-- What the law asks of a variable. -/
def VRel (m : Nat) (w2 : World) (i : Value) (wr : World) : Prop := ∃ v : Int, -1 ≤ v ∧ v ≤ (m : Int) + 2 ∧ i = .int .i64 v ∧ Below w2.heap.size w2 wr
set_option maxRecDepth 100000 in
set_option maxHeartbeats 1000000 in
theorem same_any {K : Nat → Prop} {g nv B : Nat} {its : List It} {st : List Nat} {iv sv : Value} (w : World) (h : Trl K w g nv its st) (hR : RRow B w iv its) (hs : w.ownsRow B 3 1 sv (st.length + 1) ((0 :: stI st).map (Value.int .i64))) :
    Calls Try.prog 38 #[.pointer (some ⟨g, 0, none⟩), refT nv (st.length : Nat) iv sv] w fun r w' => r = .returned (.bool true) ∧ Below w.heap.size w w' := by
  have hnv := h.good.nvmax
  have hln := h.good.len
  have hst := h.good.now
  obtain ⟨A, cap, rfl, -, hat⟩ := hR.at_
  obtain ⟨As, cs, rfl⟩ := own_shape1 hs
  unfold refT
  obtain ⟨n, hn⟩ : ∃ n : Int, (nv : Int) = n := ⟨_, rfl⟩
  obtain ⟨now, hw⟩ : ∃ now : Int, ((st.length : Nat) : Int) = now := ⟨_, rfl⟩
  have b1 := below1a w (.cells #[.int .i64 nv, .int .i64 (st.length : Nat), .slice A its.length cap, .slice As (st.length + 1) cs] 69)
  have m1 := Whole.made w 69 #[.int .i64 nv, .int .i64 (st.length : Nat), .slice A its.length cap, .slice As (st.length + 1) cs]
  have hT1 := h.on b1
  obtain ⟨w1, hw1⟩ : ∃ y, w.alloc (.cells #[.int .i64 nv, .int .i64 (st.length : Nat), .slice A its.length cap, .slice As (st.length + 1) cs] 69) = y := ⟨_, rfl⟩
  rw [hw1] at b1 m1 hT1
  have H1 := Lib.hid hw1; have M1 := Lib.hid m1; have BB := Lib.hid b1; have HT1 := Lib.hid hT1; have HR := Lib.hid hR; have HS := Lib.hid hs; have HAt := Lib.hid hat
  have c0 : w1.cell? ⟨w.heap.size, 0, none⟩ = some (.int .i64 (nv : Nat)) := m1.cell 0
  have c1 : w1.cell? ⟨w.heap.size, 1, none⟩ = some (.int .i64 (st.length : Nat)) := m1.cell 1
  have c2 : w1.cell? ⟨w.heap.size, 2, none⟩ = some (.slice A its.length cap) := m1.cell 2
  have hnow : ∀ q, Calls Try.prog 15 #[.pointer (some ⟨g, 0, none⟩)] (w1.drewN q) fun e w' => e = .returned (.int .i64 (st.length : Nat)) ∧ w' = w1.drewN q := fun q =>
    (now_tr (w1.drewN q) (hT1.on (below_drewN (Below.refl _ _) q))).mono fun e w' ⟨h1, h2⟩ => ⟨h1, h2.symm⟩
  have hlen : ∀ q, Calls Try.prog 18 #[.pointer (some ⟨g, 0, none⟩)] (w1.drewN q) fun e w' => e = .returned (.int .i64 (its.length : Nat)) ∧ w' = w1.drewN q := fun q =>
    (len_tr (w1.drewN q) (hT1.on (below_drewN (Below.refl _ _) q))).mono fun e w' ⟨h1, h2⟩ => ⟨h1, h2.symm⟩
  have hvar : ∀ q, Calls Try.prog 27 #[.pointer (some ⟨g, 0, none⟩)] (w1.drewN q) fun e w' => e = .returned (.int .i64 (nv : Nat)) ∧ w' = w1.drewN q := fun q =>
    (vars_tr (w1.drewN q) (hT1.on (below_drewN (Below.refl _ _) q))).mono fun e w' ⟨h1, h2⟩ => ⟨h1, h2.symm⟩
  have HNw := Lib.hid hnow; have HLn := Lib.hid hlen; have HVr := Lib.hid hvar
  clear hw1 m1 b1 hT1 hR hs hat hnow hlen hvar hn hw
  go_enter Try.func38, Try.ntmps38
  go_wp2_with fail
  rw [H1.out]
  go_quiet (first
    | (go_at_call 15; exact Calls.quiet_of_same (HNw.out _))
    | (go_at_call 18; exact Calls.quiet_of_same (HLn.out _))
    | (go_at_call 27; exact Calls.quiet_of_same (HVr.out _)))
  go_wp2_with fail
  have hb2 := below_drewN (Below.refl w1.heap.size w1) nq
  obtain ⟨w2, hw2⟩ : ∃ y, w1.drewN nq = y := ⟨_, rfl⟩
  rw [hw2] at hb2 ⊢
  have hbb2 := below_cat BB.out hb2
  have hgood := h.good
  have hT2 : ∀ W', Below w2.heap.size w2 W' → Trl K W' g nv its st := fun W' hb => HT1.out.on (below_cat hb2 hb)
  have hR2 : ∀ W', Below w2.heap.size w2 W' → RRow B W' (.slice A its.length cap) its := fun W' hb => HR.out.on (below_cat hbb2 hb)
  have hM2 := M1.out.same (hb2.block _ M1.out.lt)
  have hC : ∀ W', Below w2.heap.size w2 W' → W'.cell? ⟨w.heap.size, 0, none⟩ = some (.int .i64 (nv : Nat)) ∧ W'.cell? ⟨w.heap.size, 1, none⟩ = some (.int .i64 (st.length : Nat)) ∧ W'.cell? ⟨w.heap.size, 2, none⟩ = some (.slice A its.length cap) ∧ W'.cell? ⟨w.heap.size, 3, none⟩ = some (.slice As (st.length + 1) cs) := fun W' hb => by
    have := hM2.same (hb.block _ hM2.lt)
    exact ⟨this.cell 0, this.cell 1, this.cell 2, this.cell 3⟩
  have hVt : ∀ (l : Int) W', Below w2.heap.size w2 W' → Calls Try.prog 26 #[.pointer (some ⟨g, 0, none⟩), .int .i64 l] W' fun r w' => r = .returned (.int .i64 (valI its l)) ∧ Below W'.heap.size W' w' := fun l W' hb => value_tr l W' (hT2 W' hb)
  have hVr : ∀ (l : Int) W', Below w2.heap.size w2 W' → Calls Try.prog 51 #[.agg #[.int .i64 (nv : Nat), .int .i64 (st.length : Nat), .slice A its.length cap, .slice As (st.length + 1) cs], .int .i64 l] W' fun r w' => r = .returned (.int .i64 (valI its l)) ∧ Below W'.heap.size W' w' := fun l W' hb => value_ref _ l W' hgood (hR2 W' hb)
  have HG := Lib.hid hgood; have HT2 := Lib.hid hT2; have HR2 := Lib.hid hR2; have HC := Lib.hid hC; have HVt := Lib.hid hVt; have HVref := Lib.hid hVr; have HB2 := Lib.hid hbb2
  have HSt : Hid (Below w2.heap.size w2 w2) := Lib.hid (Below.refl _ _)
  obtain ⟨m, hm⟩ : ∃ m : Nat, min nv 40 = m := ⟨_, rfl⟩
  have hmin : (¬ nv < 40 ∧ m = 40) ∨ (nv < 40 ∧ m = nv) := by omega
  have HMin := Lib.hid hmin
  have hm40 : m ≤ 40 := by omega
  clear hgood hT2 hR2 hM2 hC hVt hVr hbb2 hb2 hw2 HNw HLn HVr hm hmin c0 c1 c2 h HT1
  go_loopw [5] (fun i wr => VRel m w2 i wr) (fun i _ => ((m : Int) + 3 - intOf i).toNat)
  case atStart => exact ⟨-1, by omega, by omega, rfl, HSt.out⟩
  case round =>
    obtain ⟨v, hv1, hv2, rfl, hB⟩ := hrel
    have q0 : wr.cell? ⟨w.heap.size, 0, none⟩ = some (.int .i64 (nv : Nat)) := (HC.out wr hB).1
    have q1 : wr.cell? ⟨w.heap.size, 1, none⟩ = some (.int .i64 (st.length : Nat)) := (HC.out wr hB).2.1
    have q2 : wr.cell? ⟨w.heap.size, 2, none⟩ = some (.slice A its.length cap) := (HC.out wr hB).2.2.1
    have q3 : wr.cell? ⟨w.heap.size, 3, none⟩ = some (.slice As (st.length + 1) cs) := (HC.out wr hB).2.2.2
    have HB := Lib.hid hB
    have hminI : min (nv : Int) 40 = (m : Int) := by have := HMin.out; omega
    by_cases hlo : v ≤ (m : Int) + 1
    · obtain ⟨o, ho⟩ := oat_ex HG.out v
      have hPl : ∀ W', Below w2.heap.size w2 W' → Calls Try.prog 52 #[.agg #[.int .i64 (nv : Nat), .int .i64 (st.length : Nat), .slice A its.length cap, .slice As (st.length + 1) cs], .int .i64 v] W' fun r w' => r = .returned (.int .i64 (plI o)) ∧ Below W'.heap.size W' w' := fun W' hb => place_ref _ v o W' HG.out (HR2.out W' hb) ho
      have hLv : ∀ W', Below w2.heap.size w2 W' → Calls Try.prog 21 #[.pointer (some ⟨g, 0, none⟩), .int .i64 v] W' fun r w' => r = .returned (.tuple #[.int .i64 (fld o 1), .bool o.isSome]) ∧ Below W'.heap.size W' w' := fun W' hb => level_tr v o ho W' (HT2.out W' hb)
      have hRs : ∀ W', Below w2.heap.size w2 W' → Calls Try.prog 22 #[.pointer (some ⟨g, 0, none⟩), .int .i64 v] W' fun r w' => r = .returned (.tuple #[.int .i64 (fld o 2), .bool o.isSome]) ∧ Below W'.heap.size W' w' := fun W' hb => reason_tr v o ho W' (HT2.out W' hb)
      have hPc : ∀ W', Below w2.heap.size w2 W' → Calls Try.prog 23 #[.pointer (some ⟨g, 0, none⟩), .int .i64 v] W' fun r w' => r = .returned (.tuple #[.int .i64 (fld o 3), .bool o.isSome]) ∧ Below W'.heap.size W' w' := fun W' hb => place_tr v o ho W' (HT2.out W' hb)
      have hit : ∀ p x, o = some (p, x) → its[p]? = some x := fun p x e => ((ho p x).1 e).1
      obtain ⟨pl, a0, b0, c0, hv, hfit⟩ : ∃ (pl a0 b0 c0 : Int), (plI o = pl ∧ fld o 1 = a0 ∧ fld o 2 = b0 ∧ fld o 3 = c0 ∧ o.isSome = decide (0 ≤ pl) ∧ max pl 0 = c0) ∧ ((pl = -1 ∧ a0 = 0 ∧ b0 = 0) ∨ ∃ (p : Nat) (x : It), its[p]? = some x ∧ pl = p ∧ a0 = x.level ∧ b0 = x.reason) := by
        rcases o with _ | ⟨p, x⟩
        · exact ⟨-1, 0, 0, 0, ⟨rfl, rfl, rfl, rfl, rfl, rfl⟩, .inl ⟨rfl, rfl, rfl⟩⟩
        · exact ⟨p, x.level, x.reason, p, ⟨rfl, rfl, rfl, rfl, (decide_eq_true (by omega)).symm, by omega⟩, .inr ⟨p, x, hit p x rfl, rfl, rfl, rfl⟩⟩
      obtain ⟨e1, e2, e3, e4, e5, hmax⟩ := hv
      rw [e1] at hPl
      rw [e2, e5] at hLv
      rw [e3, e5] at hRs
      rw [e4, e5] at hPc
      have hneg : IntKind.i64.wrap (-v) = -v := IntWalk.i64_in _ (by omega)
      have HPl := Lib.hid hPl; have HLv := Lib.hid hLv; have HRs := Lib.hid hRs; have HPc := Lib.hid hPc; have HFit := Lib.hid hfit
      clear hPl hLv hRs hPc ho hB hit e1 e2 e3 e4 e5 hfit
      go_wp2_with fail
      refine (HPl.out _ HB.out).mono ?_
      rintro r w3 ⟨rfl, hb3⟩
      have hB3 := below_cat HB.out hb3
      have hB4 := below_cat hB3 (below1a w3 (.cells #[.int .i64 0, .int .i64 0, .int .i64 0] 90))
      have hW4 := Whole.made w3 90 #[.int .i64 0, .int .i64 0, .int .i64 0]
      have HB4 := Lib.hid hB4; have HW4 := Lib.hid hW4; have HB3 := Lib.hid hB3; have HMax := Lib.hid hmax
      clear hB3 hB4 hW4 hb3 HPl q0 q1 q2 q3 HB hmax
      go_upto_if 63 with fail
      go_cut [] (fun wx => (∃ y0 : Value, Whole wx w3.heap.size 90 #[y0, .int .i64 b0, .int .i64 a0]) ∧ Below w2.heap.size w2 wx)
      case first =>
        rcases HFit.out with ⟨rfl, rfl, rfl⟩ | ⟨p, ⟨xl, xv, xr⟩, hx, rfl, rfl, rfl⟩
        · go_wp2_with fail
          go_meet
          exact ⟨⟨_, HW4.out⟩, HB4.out⟩
        · have hpl := (List.getElem?_eq_some_iff.1 hx).1
          obtain ⟨b, rfl, hb, e0, e1, e2⟩ := HAt.out p _ hx
          have hbw := HB2.out.trans (HB4.out.mono HB2.out.size)
          have e0 := (hbw.cell (p := ⟨b, p * 3, none⟩) hb).trans e0
          have e1 := (hbw.cell (p := ⟨b, p * 3 + 1, none⟩) hb).trans e1
          have e2 := (hbw.cell (p := ⟨b, p * 3 + 2, none⟩) hb).trans e2
          dsimp only at e0 e1 e2
          have d2 : (w3.alloc (.cells #[.int .i64 0, .int .i64 0, .int .i64 0] 90)).cell? ⟨w.heap.size, 2, none⟩ = some (.slice (some ⟨b, 0, none⟩) its.length cap) := (HC.out _ HB4.out).2.2.1
          obtain ⟨lq, hlq⟩ : ∃ lq : Int, (xv : Int) = lq := ⟨_, rfl⟩
          rw [hlq] at e2
          have HLq := Lib.hid hlq
          have hpi : (p : Int) < (its.length : Int) := by omega
          clear hbw hx hlq HAt HFit
          go_wp2_with fail
          go_meet
          exact ⟨⟨_, by rw [HLq.out]; exact Whole.made _ _ _⟩, below_cat HB3.out (below1a w3 _)⟩
      case rest =>
        obtain ⟨⟨y0, hW4⟩, hB4⟩ := hcut
        obtain ⟨wb, hwb⟩ : ∃ y, w3.heap.size = y := ⟨_, rfl⟩
        rw [hwb] at hW4 ⊢
        have HB4 := Lib.hid hB4; have HW4 := Lib.hid hW4
        clear hB4 hW4 hwb HFit
        go_wp2_with fail
        refine (HLv.out _ HB4.out).mono ?_
        rintro r w5 ⟨rfl, hb5⟩
        have HB5 := Lib.hid (below_cat HB4.out hb5); have HW5 := Lib.hid (HW4.out.same (hb5.block _ HW4.out.lt))
        clear hb5 HB4 HW4 HLv
        go_wp2_with fail
        refine (HRs.out _ HB5.out).mono ?_
        rintro r w6 ⟨rfl, hb6⟩
        have HB6 := Lib.hid (below_cat HB5.out hb6); have HW6 := Lib.hid (HW5.out.same (hb6.block _ HW5.out.lt))
        clear hb6 HB5 HW5 HRs
        go_wp2_with fail
        refine (HPc.out _ HB6.out).mono ?_
        rintro r w7 ⟨rfl, hb7⟩
        have HB7 := Lib.hid (below_cat HB6.out hb7); have HW7 := Lib.hid (HW6.out.same (hb7.block _ HW6.out.lt))
        clear hb7 HB6 HW6 HPc
        go_upto_region 13 with fail
        have hmax := HMax.out
        have hS : ∀ W', Below w7.heap.size w7 W' → (W'.cell? ⟨w.heap.size, 0, none⟩ = some (.int .i64 (nv : Nat)) ∧ W'.cell? ⟨w.heap.size, 1, none⟩ = some (.int .i64 (st.length : Nat)) ∧ W'.cell? ⟨w.heap.size, 2, none⟩ = some (.slice A its.length cap) ∧ W'.cell? ⟨w.heap.size, 3, none⟩ = some (.slice As (st.length + 1) cs) ∧ W'.cell? ⟨wb, 1, none⟩ = some (.int .i64 b0) ∧ W'.cell? ⟨wb, 2, none⟩ = some (.int .i64 a0)) := fun W' hb => by
          have := HC.out W' (below_cat HB7.out hb)
          have hw := HW7.out.same (hb.block _ HW7.out.lt)
          exact ⟨this.1, this.2.1, this.2.2.1, this.2.2.2, hw.cell 1, hw.cell 2⟩
        have hSt := hS w7 (Below.refl _ _)
        have HS7 := Lib.hid hS
        have hVt : ∀ (l : Int) W', Below w7.heap.size w7 W' → Calls Try.prog 26 #[.pointer (some ⟨g, 0, none⟩), .int .i64 l] W' fun r w' => r = .returned (.int .i64 (valI its l)) ∧ Below w7.heap.size w7 w' := fun l W' hb => (HVt.out l W' (below_cat HB7.out hb)).mono fun r w' ⟨h1, h2⟩ => ⟨h1, below_cat hb h2⟩
        have hVr : ∀ (l : Int) W', Below w7.heap.size w7 W' → Calls Try.prog 51 #[.agg #[.int .i64 (nv : Nat), .int .i64 (st.length : Nat), .slice A its.length cap, .slice As (st.length + 1) cs], .int .i64 l] W' fun r w' => r = .returned (.int .i64 (valI its l)) ∧ Below w7.heap.size w7 w' := fun l W' hb => (HVref.out l W' (below_cat HB7.out hb)).mono fun r w' ⟨h1, h2⟩ => ⟨h1, below_cat hb h2⟩
        have HVt7 := Lib.hid hVt; have HVr7 := Lib.hid hVr
        have s0 := hSt.1; have s1 := hSt.2.1; have s2 := hSt.2.2.1; have s3 := hSt.2.2.2.1; have s4 := hSt.2.2.2.2.1; have s5 := hSt.2.2.2.2.2
        clear hS hVt hVr hSt
        go_region_held3 (fun W' => W'.cell? ⟨w.heap.size, 0, none⟩ = some (.int .i64 (nv : Nat)) ∧ W'.cell? ⟨w.heap.size, 1, none⟩ = some (.int .i64 (st.length : Nat)) ∧ W'.cell? ⟨w.heap.size, 2, none⟩ = some (.slice A its.length cap) ∧ W'.cell? ⟨w.heap.size, 3, none⟩ = some (.slice As (st.length + 1) cs) ∧ W'.cell? ⟨wb, 1, none⟩ = some (.int .i64 b0) ∧ W'.cell? ⟨wb, 2, none⟩ = some (.int .i64 a0)) (first | assumption | exact HS7.out _ (by first | exact (Below.refl _ _).drew | exact hbA | exact hbB)) (first
          | (go_at_call 26; (with_reducible refine (HVt7.out _ _ (by first | exact (Below.refl _ _).drew | exact hbA | exact hbB)).mono ?_); rintro r wA ⟨rfl, hbA⟩)
          | (go_at_call 51; (with_reducible refine (HVr7.out _ _ (by first | exact (Below.refl _ _).drew | exact hbA | exact hbB)).mono ?_); rintro r wB ⟨rfl, hbB⟩))
        all_goals
          have HBf := Lib.hid (below_cat HB7.out hbB)
          clear s0 s1 s2 s3 s4 s5 hmax
          go_simp
          go_wp2_with fail
          refine ⟨⟨v + 1, by omega, by omega, rfl, HBf.out⟩, ?_⟩
          simp [intOf]
          omega
    · go_wp2_with fail
      go_loopw [142] (fun i wr' => ∃ j : Nat, j ≤ its.length ∧ i = .int .i64 j ∧ Below w2.heap.size w2 wr') (fun i _ => its.length - (intOf i).toNat)
      case atStart => exact ⟨0, Nat.zero_le _, rfl, HB.out⟩
      case round =>
        obtain ⟨j, hj, rfl, hB⟩ := hrel
        clear q0 q1 q2 q3 HB
        have HB := Lib.hid hB
        by_cases hlt : j < its.length
        · have hx : its[j]? = some its[j] := List.getElem?_eq_getElem hlt
          obtain ⟨⟨xl, xv, xr⟩, hxe⟩ : ∃ x, its[j] = x := ⟨_, rfl⟩
          rw [hxe] at hx
          obtain ⟨b, rfl, hb, e0, e1, e2⟩ := HAt.out j _ hx
          have hbw := HB2.out.trans (hB.mono HB2.out.size)
          have e0 := (hbw.cell (p := ⟨b, j * 3, none⟩) hb).trans e0
          have e1 := (hbw.cell (p := ⟨b, j * 3 + 1, none⟩) hb).trans e1
          have e2 := (hbw.cell (p := ⟨b, j * 3 + 2, none⟩) hb).trans e2
          dsimp only at e0 e1 e2
          obtain ⟨lq, hlq⟩ : ∃ lq : Int, (xv : Int) = lq := ⟨_, rfl⟩
          rw [hlq] at e2
          have hB4 := below_cat hB (below1a wr (.cells #[.int .i64 xl, .int .i64 xr, .int .i64 lq] 90))
          have hW4 := Whole.made wr 90 #[.int .i64 xl, .int .i64 xr, .int .i64 lq]
          have hat := at_in (g := g) (nv := nv) (its := its) (st := st) (K := K) hx _ (HT2.out _ hB4)
          dsimp only at hat
          have e3 : (wr.alloc (.cells #[.int .i64 xl, .int .i64 xr, .int .i64 lq] 90)).cell? ⟨wr.heap.size, 0, none⟩ = some (.int .i64 xl) := hW4.cell 0
          have HA4 := Lib.hid hat; have HB4 := Lib.hid hB4; have HNext := Lib.hid hlt
          have hji : (j : Int) < (its.length : Int) := by omega
          clear hat hB4 hW4 hbw hx hxe hlq hB HB HAt hlt
          go_wp2_with (go_at_call 19; refine (HA4.out).mono ?_; rintro e w' ⟨rfl, rfl⟩)
          refine ⟨⟨j + 1, HNext.out, by go_num, HB4.out⟩, ?_⟩
          simp [intOf]
          omega
        · obtain rfl : j = its.length := by omega
          have q3 : wr.cell? ⟨w.heap.size, 3, none⟩ = some (.slice As (st.length + 1) cs) := (HC.out wr hB).2.2.2
          have HB := Lib.hid hB
          clear hB hlt HAt
          go_wp2_with fail
          go_loopw [165] (fun i wr' => ∃ j : Nat, j ≤ st.length + 1 ∧ i = .int .i64 j ∧ Below w2.heap.size w2 wr') (fun i _ => st.length + 1 - (intOf i).toNat)
          case atStart => exact ⟨0, Nat.zero_le _, rfl, HB.out⟩
          case round =>
            obtain ⟨j, hj, rfl, hB⟩ := hrel
            clear q3 HB
            by_cases hlt : j < st.length + 1
            · have hbw := HB2.out.trans (hB.mono HB2.out.size)
              obtain ⟨bp, rfl, hcs, hbp, e0⟩ := own_at (owns_on0 HS.out hbw) (start_at (st := st) (by omega : j ≤ st.length))
              have hstt := start_tr (g := g) (nv := nv) (its := its) (st := st) (K := K) (j : Int) (by omega) (by omega) wr (HT2.out _ hB)
              obtain ⟨z, hz⟩ : ∃ z, startI st (j : Int) = z := ⟨_, rfl⟩
              rw [hz] at hstt e0
              have HSt2 := Lib.hid hstt; have HB4 := Lib.hid hB; have HNext := Lib.hid hlt
              have hji : (j : Int) < ((st.length + 1 : Nat) : Int) := by omega
              clear hstt hz hbw hB hlt
              go_wp2_with (go_at_call 20; refine (HSt2.out).mono ?_; rintro e w' ⟨rfl, rfl⟩)
              refine ⟨⟨j + 1, HNext.out, by go_num, HB4.out⟩, ?_⟩
              simp [intOf]
              omega
            · obtain rfl : j = st.length + 1 := by omega
              have q0 : wr.cell? ⟨w.heap.size, 0, none⟩ = some (.int .i64 (nv : Nat)) := (HC.out wr hB).1
              have q1 : wr.cell? ⟨w.heap.size, 1, none⟩ = some (.int .i64 (st.length : Nat)) := (HC.out wr hB).2.1
              have q2 : wr.cell? ⟨w.heap.size, 2, none⟩ = some (.slice A its.length cap) := (HC.out wr hB).2.2.1
              have q3 : wr.cell? ⟨w.heap.size, 3, none⟩ = some (.slice As (st.length + 1) cs) := (HC.out wr hB).2.2.2
              have ha1 := at_out (g := g) (nv := nv) (its := its) (st := st) (K := K) (v := (its.length : Nat)) (.inr (by omega)) wr (HT2.out _ hB)
              have ha2 := at_out (g := g) (nv := nv) (its := its) (st := st) (K := K) (v := -1) (.inl (by omega)) wr (HT2.out _ hB)
              have hs1 := start_no (g := g) (nv := nv) (its := its) (st := st) (K := K) ((st.length : Int) + 1) (.inr (by omega)) wr (HT2.out _ hB)
              have hs2 := start_no (g := g) (nv := nv) (its := its) (st := st) (K := K) (-1) (.inl (by omega)) wr (HT2.out _ hB)
              have hli := lists_any (sv := .slice As (st.length + 1) cs) (st.length : Nat) wr (HT2.out _ hB) (HR2.out _ hB)
              unfold refT at hli
              have HA1 := Lib.hid ha1; have HA2 := Lib.hid ha2; have HS1 := Lib.hid hs1; have HS2 := Lib.hid hs2; have HLi := Lib.hid hli; have HB := Lib.hid hB
              clear ha1 ha2 hs1 hs2 hli hB hlt
              go_wp2_with fail
              refine (HA1.out).mono ?_
              rintro e w' ⟨rfl, rfl⟩
              go_wp2_with fail
              refine (HA2.out).mono ?_
              rintro e w' ⟨rfl, rfl⟩
              go_wp2_with fail
              refine (HS1.out).mono ?_
              rintro e w' ⟨rfl, rfl⟩
              go_wp2_with fail
              refine (HS2.out).mono ?_
              rintro e w' ⟨rfl, rfl⟩
              go_wp2_with fail
              refine (HLi.out).mono ?_
              rintro e w9 ⟨rfl, hb9⟩
              have HBf := Lib.hid (HB2.out.trans ((below_cat HB.out hb9).mono HB2.out.size))
              clear hb9 q0 q1 q2 q3
              go_wp2_with fail
              go_ret
              exact ⟨rfl, HBf.out⟩
end Go.Proofs.Ytdeedmfofjdbjaa
