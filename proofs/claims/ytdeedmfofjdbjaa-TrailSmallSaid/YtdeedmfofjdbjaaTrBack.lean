/- The trail's Back. -/
import Derived.Test.YtdeedmfofjdbjaaTrOps
namespace Go.Proofs.Ytdeedmfofjdbjaa
open Go.RowKit Go.ChangeAt Go.ChangeShapes Go.WideShapes

theorem own_take {w : World} {B : Nat} {e : TypeId} {A : Option Addr} {n cap k : Nat} {xs : List Value} (h : w.ownsRow B e 1 (.slice A n cap) n xs) (hk : k ≤ n) : w.ownsRow B e 1 (.slice A k cap) k (xs.take k) := by
  have hl := h.1
  refine ⟨by rw [List.length_take]; omega, ?_⟩
  rcases h.2 with ⟨he, h0⟩ | ⟨g, c, cur, he, hg, hh, hn, hm, hs, ht⟩
  · injection he with h1 h2 h3
    exact .inl ⟨by rw [h1, h3, show k = 0 by omega], by omega⟩
  · injection he with h1 h2 h3
    subst h3
    refine .inr ⟨g, _, cur, by rw [h1], hg, hh, by omega, hm, hs, ?_⟩
    rw [← ht, List.take_take]
    congr 1
    omega
theorem litsOf_take (its : List It) (n : Nat) : litsOf (its.take n) = (litsOf its).take n := by simp [litsOf, List.map_take]
theorem stI_take (st : List Nat) (n : Nat) : stI (st.take n) = (stI st).take n := by simp [stI, List.map_take]
/-- While those from a place on are cleared. -/
def BackRel (K : Nat → Prop) (w : World) (g b nv : Nat) (m : Nat → Option (Nat × It)) (pv sv : Value) (its : List It) (st : List Nat) (n : Nat) (i : Value) (wr : World) : Prop :=
  ∃ (k : Nat) (cs : Array Value), n + k ≤ its.length ∧ i = .int .i64 k ∧ Whole wr g 41 (trC b nv pv sv) ∧ Whole wr b 80 cs ∧ VarsAt cs nv (cleared m n k) ∧
    wr.ownsRow 0 36 1 pv its.length ((litsOf its).map (Value.int .i64)) ∧ wr.ownsRow 0 3 1 sv st.length ((stI st).map (Value.int .i64)) ∧ Turn K w K wr
theorem own_at {w : World} {B : Nat} {e : TypeId} {A : Option Addr} {n cap k : Nat} {xs : List Int} {x : Int} (h : w.ownsRow B e 1 (.slice A n cap) n (xs.map (Value.int .i64))) (hx : xs[k]? = some x) : ∃ bp, A = some ⟨bp, 0, none⟩ ∧ n ≤ cap ∧ bp < w.heap.size ∧ w.cell? ⟨bp, k, none⟩ = some (.int .i64 x) := by
  have hl := (List.getElem?_eq_some_iff.1 hx).1
  have h1 := h.1
  have hc := fun b => h.cells (g := b)
  rw [List.length_map] at h1
  rcases h.2 with ⟨he, h0⟩ | ⟨bp, c, cur, he, -, hg, hn, -⟩
  · omega
  · injection he with he1 he2 he3
    subst he1 he3
    refine ⟨bp, rfl, hn, (Array.getElem?_eq_some_iff.1 hg).1, ?_⟩
    have := hc bp rfl k (.int .i64 x) (by simp [hx])
    rwa [addr_add, Nat.zero_add] at this
set_option maxRecDepth 100000 in
set_option maxHeartbeats 2000000 in
theorem back_now {K : Nat → Prop} {g nv : Nat} {its : List It} {st : List Nat} (w : World) (h : Trl K w g nv its st) :
    Calls Try.prog 17 #[.pointer (some ⟨g, 0, none⟩), .int .i64 (st.length : Nat)] w fun e w' => e = .returned (.int .i64 0) ∧ w = w' := by
  have hck := check_tr (st.length : Nat) w h
  rw [show levE st.length (st.length : Nat) = 0 from if_pos (by omega)] at hck
  have HC := Lib.hid hck
  have HA := Lib.hid h
  clear hck h
  go_enter Try.func17, Try.ntmps17
  go_wp2_with (first
    | (go_at_call 43; refine (HC.out).mono ?_; rintro e w' ⟨rfl, rfl⟩)
    | (go_at_call 15; refine (now_tr _ HA.out).mono ?_; rintro e w' ⟨rfl, rfl⟩))
  go_ret
  exact ⟨rfl, rfl⟩
set_option maxRecDepth 100000 in
set_option maxHeartbeats 2000000 in
theorem back_no {K : Nat → Prop} {g nv : Nat} {its : List It} {st : List Nat} (v : Int) (hv : v < 0 ∨ (st.length : Int) < v) (w : World) (h : Trl K w g nv its st) :
    Calls Try.prog 17 #[.pointer (some ⟨g, 0, none⟩), .int .i64 v] w fun e w' => e = .returned (.int .i64 42) ∧ w = w' := by
  have hck := check_tr v w h
  rw [show levE st.length v = 42 from if_neg (by omega)] at hck
  have HC := Lib.hid hck
  clear hck h hv
  go_enter Try.func17, Try.ntmps17
  go_wp2_with (go_at_call 43; refine (HC.out).mono ?_; rintro e w' ⟨rfl, rfl⟩)
  go_ret
  exact ⟨rfl, rfl⟩
theorem back_done {K : Nat → Prop} {w wr : World} {g b nv n k cP cS : Nat} {cs : Array Value} {m : Nat → Option (Nat × It)} {Ap As : Option Addr} {its : List It} {st : List Nat}
    (hw : Whole wr g 41 (trC b nv (.slice Ap its.length cP) (.slice As st.length cS))) (hb : Whole wr b 80 cs) (hv : VarsAt cs nv m) (hm : Maps m (its.take n))
    (hp : wr.ownsRow 0 36 1 (.slice Ap its.length cP) its.length ((litsOf its).map (Value.int .i64))) (hs : wr.ownsRow 0 3 1 (.slice As st.length cS) st.length ((stI st).map (Value.int .i64)))
    (hg : TG nv (its.take n) (st.take k)) (t : Turn K w K wr) (hn : n ≤ its.length) (hk : k ≤ st.length) (kg : K g) (kb : K b) (kp : ∀ j, (Value.slice Ap its.length cP).ownBlock = some j → K j) (ks : ∀ j, (Value.slice As st.length cS).ownBlock = some j → K j) :
    ∃ K', Trl K' ((wr.setCell ⟨g, 1, none⟩ (.slice Ap n cP)).setCell ⟨g, 2, none⟩ (.slice As k cS)) g nv (its.take n) (st.take k) ∧ Turn K w K' ((wr.setCell ⟨g, 1, none⟩ (.slice Ap n cP)).setCell ⟨g, 2, none⟩ (.slice As k cS)) := by
  have hgb : g ≠ b := hw.ne hb (by decide)
  have g1 := grownBy_set wr g 1 (.slice Ap n cP)
  have g2 := grownBy_set (wr.setCell ⟨g, 1, none⟩ (.slice Ap n cP)) g 2 (.slice As k cS)
  have w1 := hw.store 1 (.slice Ap n cP)
  have b1 : Whole (wr.setCell ⟨g, 1, none⟩ (.slice Ap n cP)) b 80 cs := hb.same (g1.block b hb.lt (fun x => hgb (by injection x with x; exact x.symm)))
  have p1 := hp.kept g1 (.inr (hw.row_ne hp (by decide)))
  have s1 := hs.kept g1 (.inr (hw.row_ne hs (by decide)))
  have p2 := own_take (p1.kept g2 (.inr (w1.row_ne p1 (by decide)))) hn
  have s2 := own_take (s1.kept g2 (.inr (w1.row_ne s1 (by decide)))) hk
  have hl1 : (its.take n).length = n := by rw [List.length_take]; omega
  have hl2 : (st.take k).length = k := by rw [List.length_take]; omega
  refine trl_of (w := w) (Kx := K) (w1.store 2 (.slice As k cS)) (b1.same (g2.block b b1.lt (fun x => hgb (by injection x with x; exact x.symm)))) hv hm ?_ ?_ hg ((t.grown g1 (fun r e => by cases e; exact .inl kg)).grown g2 (fun r e => by cases e; exact .inl kg)) kg kb (fun j e => kp j (by cases Ap <;> exact e)) (fun j e => ks j (by cases As <;> exact e))
  · rw [hl1, litsOf_take, List.map_take]; exact p2
  · rw [hl2, stI_take, List.map_take]; exact s2
set_option maxRecDepth 100000 in
set_option maxHeartbeats 2000000 in
theorem back_less {K : Nat → Prop} {g nv : Nat} {its : List It} {st : List Nat} (k : Nat) (hk : k < st.length) (w : World) (h : Trl K w g nv its st) :
    Calls Try.prog 17 #[.pointer (some ⟨g, 0, none⟩), .int .i64 (k : Nat)] w fun e w' => ∃ K', e = .returned (.int .i64 0) ∧ Trl K' w' g nv (its.take (endOf its st k)) (st.take k) ∧ Turn K w K' w' := by
  have hck := check_tr (k : Nat) w h
  rw [show levE st.length (k : Nat) = 0 from if_pos (by omega)] at hck
  have HC := Lib.hid hck
  have HA := Lib.hid h
  have hgood := Lib.hid (h.good.back k)
  have hlit := Lib.hid h.good.lit
  have hnv := Lib.hid h.good.nvmax
  have hle := h.good.end_le k
  have hlen := Lib.hid h.good.len
  obtain ⟨n, hn⟩ : ∃ n, endOf its st k = n := ⟨_, rfl⟩
  rw [hn] at hgood hle ⊢
  obtain ⟨b, cs, m, pv, sv, h1, h2, h3, h4, h5, h6, h7, h8, h9, h10, h11, h12⟩ := h
  obtain ⟨Ap, cP, rfl⟩ := own_shape1 h5
  obtain ⟨As, cS, rfl⟩ := own_shape1 h6
  have hsn : (stI st)[k]? = some (n : Int) := by
    rw [← hn]; unfold endOf stI
    rw [List.getElem?_map, List.getElem?_eq_getElem hk]; rfl
  obtain ⟨bs, rfl, hkS, hbsl, hst⟩ := own_at h6 hsn
  have hc1 : w.cell? ⟨g, 1, none⟩ = some (.slice Ap its.length cP) := h1.cell 1
  have hc2 : w.cell? ⟨g, 2, none⟩ = some (.slice (some ⟨bs, 0, none⟩) st.length cS) := h1.cell 2
  have hne : ¬ ((k : Int) = (st.length : Int)) := by omega
  have hks : (k : Int) < (st.length : Int) := by omega
  have hcap : its.length ≤ cP ∧ cP ≤ maxLen := by
    rcases h5.2 with ⟨he, h0⟩ | ⟨_, c, _, he, -, -, hnc, hm, -⟩
    · injection he with _ h2 h3; subst h3; exact ⟨by omega, by unfold maxLen; omega⟩
    · injection he with _ _ h3; subst h3; exact ⟨hnc, hm⟩
  have HW := Lib.hid h1; have HB := Lib.hid h2; have HV := Lib.hid h3; have HM := Lib.hid h4; have HP := Lib.hid h5; have HS := Lib.hid h6; have HKp := Lib.hid h10; have HKs := Lib.hid h11
  clear h1 h2 h3 h4 h5 h6 h7 h10 h11 h12 hck hn hsn
  by_cases hcn : cP = n
  · have hnl : n = its.length := by omega
    have hz : its.length - n = 0 := by omega
    have hmc : Maps m (its.take n) := by rw [hnl, List.take_length]; exact HM.out
    have HMr := Lib.hid hmc
    clear hmc hnl
    obtain rfl : cP = n := hcn
    go_enter Try.func17, Try.ntmps17
    go_wp2_with (first
      | (go_at_call 43; refine (HC.out).mono ?_; rintro e w' ⟨rfl, rfl⟩)
      | (go_at_call 15; refine (now_tr _ HA.out).mono ?_; rintro e w' ⟨rfl, rfl⟩))
    have hkk : ((k : Int) == (st.length : Int)) = false := by rw [beq_eq_false_iff_ne]; omega
    try rw [hkk]
    go_loopw [35] (fun i wr => i = .int .i64 0 ∧ wr = w) (fun _ _ => 0)
    case atStart => exact ⟨rfl, rfl⟩
    case round =>
      obtain ⟨rfl, rfl⟩ := hrel
      have HWr := HW; have HBr := HB; have HVr := HV; have HPr := HP; have HSr := HS; have HTr := Lib.hid (Turn.refl K wr)
      have hc1' : wr.cell? ⟨g, 1, none⟩ = some (.slice Ap its.length cP) := HWr.out.cell 1
      have hc2' : wr.cell? ⟨g, 2, none⟩ = some (.slice (some ⟨bs, 0, none⟩) st.length cS) := HWr.out.cell 2
      have hf1 := HWr.out.frozen 1
      have hf2 := HWr.out.frozen 2
      have hgl := HWr.out.lt
      have hfin := back_done (K := K) (w := wr) HWr.out HBr.out HVr.out HMr.out HPr.out HSr.out hgood.out HTr.out hle (Nat.le_of_lt hk) h8 h9 HKp.out HKs.out
      have HF := Lib.hid hfin
      clear hfin
      go_wp2_with fail
      go_ret
      obtain ⟨K', hA, hT⟩ := HF.out
      exact ⟨K', rfl, hA, hT⟩
  · obtain ⟨bp, rfl⟩ : ∃ bp, Ap = some ⟨bp, 0, none⟩ := by
      rcases HP.out.2 with ⟨he, h0⟩ | ⟨gp, _, _, he, -⟩
      · injection he with _ h2 h3; omega
      · injection he with h1 _ _; exact ⟨gp, h1⟩
    have hcg : n < cP := by omega
    go_enter Try.func17, Try.ntmps17
    go_wp2_with (first
      | (go_at_call 43; refine (HC.out).mono ?_; rintro e w' ⟨rfl, rfl⟩)
      | (go_at_call 15; refine (now_tr _ HA.out).mono ?_; rintro e w' ⟨rfl, rfl⟩))
    have hkk : ((k : Int) == (st.length : Int)) = false := by rw [beq_eq_false_iff_ne]; omega
    try rw [hkk]
    go_loopw [35] (fun i wr => BackRel K w g b nv m (.slice (some ⟨bp, 0, none⟩) its.length cP) (.slice (some ⟨bs, 0, none⟩) st.length cS) its st n i wr) (fun i _ => (its.length - n) - (intOf i).toNat)
    case atStart => exact ⟨0, cs, hle, rfl, HW.out, HB.out, by rw [cleared_0]; exact HV.out, HP.out, HS.out, Turn.refl K w⟩
    case round =>
      obtain ⟨j, ds, hj, rfl, hwr, hbr, hvr, hpr, hsr, htr⟩ := hrel
      by_cases hlt : n + j < its.length
      · obtain ⟨x, hx⟩ : ∃ x, its[n + j]? = some x := ⟨its[n + j]'hlt, List.getElem?_eq_getElem _⟩
        have hxl : (litsOf its)[n + j]? = some x.lit := by simp [litsOf, hx]
        obtain ⟨bp', hbp, -, hbl, hcx⟩ := own_at hpr hxl
        obtain rfl : bp = bp' := by injection hbp with hbp; injection hbp
        have hxv := hlit.out x (List.mem_of_getElem? hx)
        have hnv' := hnv.out
        have hxv' : 1 ≤ x.lit.natAbs ∧ x.lit.natAbs ≤ nv := hxv
        have hva := varI_nat (l := x.lit) (litB_yes (by omega) (by omega) (by omega))
        have hup := cleared_succ HM.out hx
        obtain ⟨u, hu⟩ : ∃ u, x.vr = u := ⟨_, rfl⟩
        have hu' : x.lit.natAbs = u := hu
        rw [hu'] at hva
        rw [hu] at hup hxv
        have hold := hvr.2 u
        have hvs := hvr.set hxv.2 none
        rw [hup] at hvs
        have d0 := (hbr.cell _).trans (hold 0 hxv.2 (by omega))
        have d1 := (hbr.cell _).trans (hold 1 hxv.2 (by omega))
        have d2 := (hbr.cell _).trans (hold 2 hxv.2 (by omega))
        have d3 := (hbr.cell _).trans (hold 3 hxv.2 (by omega))
        rw [Nat.add_zero] at d0
        have e0 := hbr.frozen (u * 4)
        have e1 := hbr.frozen (u * 4 + 1)
        have e2 := hbr.frozen (u * 4 + 2)
        have e3 := hbr.frozen (u * 4 + 3)
        have hc0 : wr.cell? ⟨g, 0, none⟩ = some (.slice (some ⟨b, 0, none⟩) (nv + 1) (nv + 1)) := hwr.cell 0
        have hgl := hwr.lt
        have hbl2 := hbr.lt
        have s1 : (u : Int) < (nv : Int) + 1 := by omega
        have s2 : j < its.length - n := by omega
        have s3 : (j : Int) < 1048576 := by have := hlen.out; omega
        obtain ⟨y, hy⟩ : ∃ y, x.lit = y := ⟨_, rfl⟩
        rw [hy] at hcx hva
        obtain ⟨w2, hw2, a1, a2, a3, a4, a5⟩ := after_var (K := K) hwr hbr hpr hsr h9 u none
        have hstep : BackRel K w g b nv m (.slice (some ⟨bp, 0, none⟩) its.length cP) (.slice (some ⟨bs, 0, none⟩) st.length cS) its st n (.int .i64 ((j + 1 : Nat) : Int)) w2.drew := ⟨j + 1, set4 ds u none, by omega, rfl, a1, a2, hvs, a3.drew, a4.drew, htr.trans (a5.trans (Turn.of_below (Below.refl _ _).drew))⟩
        rw [hw2] at hstep
        simp only [fld] at hstep
        have HSt := Lib.hid hstep; have HVa := Lib.hid hva
        clear hwr hbr hvr hpr hsr htr hold hvs hup hu hu' hxl hbp hx hxv hva hw2 a1 a2 a3 a4 a5 hstep hlt hj hy hxv' hc1 hc2 hst HW HB HP HS HV HM hnv'
        go_upto_region 8 with fail
        go_region_law (go_simp; go_at_call 31; refine (var_any _ _).mono ?_; rintro e w' ⟨rfl, rfl⟩; rw [HVa.out])
        all_goals
          go_simp
          go_wp2_with fail
          go_roundw
          case rel => exact HSt.out
          case measure =>
            simp [intOf]; omega
      · obtain rfl : j = its.length - n := by omega
        have hmr := HM.out.cleared hle
        have HWr := Lib.hid hwr; have HBr := Lib.hid hbr; have HVr := Lib.hid hvr; have HPr := Lib.hid hpr; have HSr := Lib.hid hsr; have HTr := Lib.hid htr; have HMr := Lib.hid hmr
        clear hwr hbr hvr hpr hsr htr hmr hc1 hc2 hst
        have hc1' : wr.cell? ⟨g, 1, none⟩ = some (.slice (some ⟨bp, 0, none⟩) its.length cP) := HWr.out.cell 1
        have hc2' : wr.cell? ⟨g, 2, none⟩ = some (.slice (some ⟨bs, 0, none⟩) st.length cS) := HWr.out.cell 2
        have hf1 := HWr.out.frozen 1
        have hf2 := HWr.out.frozen 2
        have hgl := HWr.out.lt
        have hfin := back_done (K := K) (w := w) HWr.out HBr.out HVr.out HMr.out HPr.out HSr.out hgood.out HTr.out hle (Nat.le_of_lt hk) h8 h9 HKp.out HKs.out
        have HF := Lib.hid hfin
        clear hfin
        go_wp2_with fail
        go_ret
        obtain ⟨K', hA, hT⟩ := HF.out
        exact ⟨K', rfl, hA, hT⟩
theorem back_tr {K : Nat → Prop} {g nv : Nat} {its : List It} {st : List Nat} (k : Nat) (hk : k ≤ st.length) (w : World) (h : Trl K w g nv its st) :
    Calls Try.prog 17 #[.pointer (some ⟨g, 0, none⟩), .int .i64 (k : Nat)] w fun e w' => ∃ K', e = .returned (.int .i64 0) ∧ Trl K' w' g nv (its.take (endOf its st k)) (st.take k) ∧ Turn K w K' w' := by
  rcases Nat.lt_or_ge k st.length with h1 | h1
  · exact back_less k h1 w h
  · obtain rfl : k = st.length := by omega
    refine (back_now w h).mono ?_
    rintro e w' ⟨rfl, rfl⟩
    rw [endOf_now, List.take_length, List.take_length]
    exact ⟨K, rfl, h, Turn.refl K w⟩
end Go.Proofs.Ytdeedmfofjdbjaa
