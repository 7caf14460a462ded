/- salvorlaw06.reads: Read, Canonical and ParseHeader agree with the reference. -/
import Derived.Test.YticcgmegimiegaaGreatDoorDmRdRead
import Derived.Test.YticcgmegimiegaaGreatDoorDmTheirs
namespace Go.Proofs.YticcgmegimiegaaGreatDoor
open Go.RowKit Go.ChangeAt Go.ChangeShapes Go.WideShapes Go.Shelf Go.Sort

theorem rdF_any (S : List UInt8) (hS : S.length ≤ 4000000000) (w : World) (he : Env w) : Calls Tryz.prog 17 #[str S] w fun e w' => ∃ A c, e = .returned (.tuple #[.agg #[.int .i64 (rsV S), .slice A (rsL S).length c], .int .i64 (rsN S), .int .i64 (rsE S)]) ∧ RowsL w'.heap.size w' (.slice A (rsL S).length c) (rsL S) ∧ Below w.heap.size w w' :=
  (callsIn_wide.1 (dmRead_any S hS w he)).mono fun e w' ⟨hr', hb⟩ => by
    unfold rsV rsL rsN rsE
    cases hx : readAll S with
    | inl x => rw [hx] at hr'; exact ⟨_, _, hr', rows_none _ _, hb⟩
    | inr x =>
      rw [hx] at hr'
      obtain ⟨v, he, ho⟩ := hr'
      have hl := OwnL.rowsL (L := x.2) ho
      obtain ⟨A, c, rfl, -⟩ := rowsL_shape hl
      exact ⟨A, c, he, hl, hb⟩
theorem rfF_any (S : List UInt8) (hS : S.length ≤ 4000000000) (w : World) : Calls Tryz.prog 43 #[str S] w fun e w' => ∃ A c, e = .returned (.tuple #[.agg #[.int .i64 (rsV S), .slice A (rsL S).length c], .int .i64 (rsN S), .int .i64 (rsE S)]) ∧ RowsL w'.heap.size w' (.slice A (rsL S).length c) (rsL S) ∧ Below w.heap.size w w' := by
  have h := read06_any ⟨S.toArray⟩ w (by show S.toArray.size ≤ _; rw [List.size_toArray]; exact hS)
  dsimp only at h
  rw [rf_all] at h
  refine h.mono fun e w' ⟨hr', hb⟩ => ?_
  unfold rsV rsL rsN rsE
  cases hx : readAll S with
  | inl x => rw [hx] at hr'; exact ⟨_, _, hr', rows_none _ _, hb⟩
  | inr x =>
    rw [hx] at hr'
    obtain ⟨v, he, ho⟩ := hr'
    have hl := OwnI.rowsL (L := x.2) ho
    obtain ⟨A, c, rfl, -⟩ := rowsL_shape hl
    exact ⟨A, c, he, hl, hb⟩
/-- What is known of what a text says. -/
theorem rds_facts {S : List UInt8} (hS : S.length ≤ 100000) : ∃ T Q, canT S = (T, rsN S, rsE S) ∧ (chkI (rsV S) (rsL S)).2 = 0 ∧ (writeT (rsV S) (rsL S)).1 = Q ∧ T.length ≤ 4194304 ∧ Q.length ≤ 4194304 ∧ ((rsE S = 0 ∧ T = Q) ∨ (rsE S ≠ 0 ∧ T = [])) := by
  cases h : readAll S with
  | inl x =>
    obtain ⟨n, e⟩ := x
    obtain ⟨h1, h2, h3, h4⟩ := rd_no h
    have hc : canT S = ([], (n : Int), e) := by unfold canT; rw [h]
    rw [h1, h2, h3, h4]
    exact ⟨[], _, hc, by decide, rfl, by simp, by decide +kernel, .inr ⟨(readAll_fault h).1, rfl⟩⟩
  | inr x =>
    obtain ⟨V, L⟩ := x
    obtain ⟨h1, h2, h3, h4⟩ := rd_ok h
    obtain ⟨k1, k2, k3, k4, k5⟩ := readAll_ok h
    have hh := hdr_len (v := V) (n := (L.length : Int)) k1 k2 (by omega) (by omega)
    have hl : (textF V L).length ≤ 4194304 := by
      unfold textF
      simp only [List.length_append, List.length_cons, List.length_nil]
      omega
    have hck := chk_okC k1 k2 k3 k4
    have hw : writeT V L = (textF V L, 0) := by unfold writeT; rw [hck, if_pos rfl, if_neg (by omega)]
    have hc : canT S = (textF V L, 0, 0) := by unfold canT; rw [h]; dsimp only; rw [hw]
    rw [h1, h2, h3, h4]
    exact ⟨_, _, hc, by rw [hck], rfl, hl, by rw [hw]; exact hl, .inl ⟨rfl, by rw [hw]⟩⟩
theorem rds_row {B n : Nat} {ls : List (List UInt8)} {W : World} {sl : Value} (hn : ls.length = n ∧ 1 ≤ n) (h : W.ownsRow B 9 1 sl ls.length (ls.map str)) : ∃ lb cap, sl = .slice (some ⟨lb, 0, none⟩) n cap ∧ n ≤ cap ∧ lb < W.heap.size ∧ ∀ (j : Nat) (x : List UInt8), ls[j]? = some x → W.cell? ⟨lb, j, none⟩ = some (str x) := by
  obtain ⟨rfl, hn⟩ := hn
  have h' := h
  rcases h'.2 with ⟨-, h0⟩ | ⟨g, cap, cur, rfl, hbg, -, hnc, -⟩
  · omega
  · refine ⟨g, cap, rfl, hnc, (h.lt g rfl).2, fun j x hx => ?_⟩
    have hj : j < ls.length := (List.getElem?_eq_some_iff.1 hx).1
    have hc := h.cellAt j (by rw [Nat.mul_one]; exact hj)
    rw [hc]
    simp [hx]
/-- The loop over the lines. -/
def RdsRel (w : World) (m : Nat) (wb : World) (iv : Value) (wr : World) : Prop := ∃ k : Nat, k ≤ m ∧ iv = .int .i64 k ∧ Below w.heap.size w wr ∧ Below wb.heap.size wb wr
set_option maxRecDepth 100000 in
set_option maxHeartbeats 1000000 in
theorem reads_any (S : List UInt8) (hS : S.length ≤ 100000) (w : World) (he : Env w) : Calls Tryz.prog 14 #[str S] w fun e w' => e = .returned (.bool true) ∧ Below w.heap.size w w' := by
  have hr1 := rdF_any S (by omega) w he
  have hr2 := fun W => rfF_any S (by omega) W
  have hca := fun (W : World) (hb : Below w.heap.size w W) => canonical_any S (by omega) W (he.below hb)
  obtain ⟨T, Q, hT, hck, hQ, hTl, hQl, hTQ⟩ := rds_facts hS
  have hsm := rd_small S
  rw [hT] at hca
  dsimp only at hca
  obtain ⟨V, hV⟩ : ∃ y, rsV S = y := ⟨_, rfl⟩
  obtain ⟨L, hL⟩ : ∃ y, rsL S = y := ⟨_, rfl⟩
  obtain ⟨n, hn⟩ : ∃ y, rsN S = y := ⟨_, rfl⟩
  obtain ⟨E, hE⟩ : ∃ y, rsE S = y := ⟨_, rfl⟩
  rw [hV, hL] at hck hQ
  rw [hE] at hTQ
  rw [hL] at hsm
  simp only [hV, hL, hn, hE] at hr1 hr2 hca
  have heq := fun (C : Nat) (v v' : Value) (W : World) (h1 : C ≤ W.heap.size) (h2 : RowsL C W v L) (h3 : RowsL C W v' L) => lawEqual_any V V W h1 (by omega) (fun zs hz => by have := hsm.2 zs hz; omega) (fun zs hz => by have := hsm.2 zs hz; omega) h2 h3
  have hwr := fun (B : Nat) (v : Value) (W : World) (h1 : B ≤ W.heap.size) (h2 : RowsI B W v L) => write06_any V W h1 hck h2
  rw [hQ] at hwr
  obtain ⟨q, hq⟩ : ∃ q, L.length = q := ⟨_, rfl⟩
  rw [hq] at hr1 hr2
  have hsp := fun W => split06_any ⟨S.toArray⟩ (by show S.toArray.size ≤ _; rw [List.size_toArray]; omega) W
  dsimp only at hsp
  have hn1 := segs_pos 10 S
  have hsh : ∀ x ∈ segs 10 S, x.length ≤ 100000 := fun x hx => by have := segs_short hx; omega
  have hn2 := segs_le 10 S
  obtain ⟨ls, hls⟩ : ∃ ls, segs 10 S = ls := ⟨_, rfl⟩
  rw [hls] at hn1 hsh hn2
  simp only [hls] at hsp
  obtain ⟨n0, hn0'⟩ : ∃ y, ls.length = y := ⟨_, rfl⟩
  rw [hn0'] at hn1 hn2
  have hn4 : (n0 : Int) ≤ 100001 := by omega
  have HSp := Lib.hid hsp; have HSh := Lib.hid hsh; have HNn := Lib.hid (And.intro hn0' hn1)
  clear hsp hsh hn0' hn1 hn2 hls
  have hph := fun (W : World) (hb : Below w.heap.size w W) (x : List UInt8) (hx : x.length ≤ 100000) => parseHeader_any x (by omega) W (he.below hb)
  have hpr := fun (W : World) (x : List UInt8) (hx : x.length ≤ 100000) => prs06_any ⟨x.toArray⟩ W (by show x.toArray.size ≤ _; rw [List.size_toArray]; omega)
  dsimp only at hpr
  have HPh := Lib.hid hph; have HPr := Lib.hid hpr
  clear hph hpr
  have H1 := Lib.hid hr1; have H2 := Lib.hid hr2; have HCa := Lib.hid hca; have HEq := Lib.hid heq; have HWr := Lib.hid hwr; have HE := Lib.hid he; have HTQ := Lib.hid hTQ; have HQ := Lib.hid hq; have HS := Lib.hid hS
  clear hr1 hr2 hca heq hwr he hTQ hT hQ hV hL hn hE hck hsm hq hS
  go_enter Tryz.func14, Tryz.ntmps14
  go_wp2_with fail
  refine H1.out.mono ?_
  rintro e w1 ⟨A1, c1, rfl, hl1, hb1⟩
  have hm1 := Whole.made w1 24 #[.int .i64 V, .slice A1 q c1]
  have hb2 := below1a w1 (.cells #[.int .i64 V, .slice A1 q c1] 24)
  have HL1 := Lib.hid hl1; have HB1 := Lib.hid hb1; have HM1 := Lib.hid hm1; have HB2 := Lib.hid hb2
  clear hl1 hb1 hm1 hb2
  go_wp2_with fail
  obtain ⟨w2, hw2⟩ : ∃ x, w1.alloc (.cells #[.int .i64 V, .slice A1 q c1] 24) = x := ⟨_, rfl⟩
  rw [hw2] at HM1 HB2 ⊢
  clear hw2
  refine (H2.out w2).mono ?_
  rintro e w3 ⟨A3, c3, rfl, hl3, hb3⟩
  have hm3 := Whole.made w3 69 #[.int .i64 V, .slice A3 q c3]
  have hb4 := below1a w3 (.cells #[.int .i64 V, .slice A3 q c3] 69)
  have HL3 := Lib.hid hl3; have HB3 := Lib.hid hb3; have HM3 := Lib.hid hm3; have HB4 := Lib.hid hb4
  clear hl3 hb3 hm3 hb4
  go_wp2_with fail
  obtain ⟨w4, hw4⟩ : ∃ x, w3.alloc (.cells #[.int .i64 V, .slice A3 q c3] 69) = x := ⟨_, rfl⟩
  rw [hw4] at HM3 HB4 ⊢
  clear hw4
  have b24 : Below w2.heap.size w2 w4 := HB3.out.trans (HB4.out.mono HB3.out.size)
  have b14 : Below w1.heap.size w1 w4 := HB2.out.trans (b24.mono HB2.out.size)
  have bw4 : Below w.heap.size w w4 := HB1.out.trans (b14.mono HB1.out.size)
  have s14 := b14.size
  have s34 := HB4.out.size
  have HB := Lib.hid bw4
  refine (HCa.out w4 bw4).mono ?_
  rintro e w5 ⟨rfl, hb5⟩
  have m1 := HM1.out.same ((b24.trans (hb5.mono b24.size)).block _ HM1.out.lt)
  have m3 := HM3.out.same (hb5.block _ HM3.out.lt)
  have r1 : RowsL w4.heap.size w5 (.slice A1 q c1) L := RowsV.more s14 (RowsV.below (b14.trans (hb5.mono s14)) HL1.out)
  have r3 : RowsL w4.heap.size w5 (.slice A3 q c3) L := RowsV.more s34 (RowsV.below (HB4.out.trans (hb5.mono s34)) HL3.out)
  have heq := HEq.out w4.heap.size _ _ w5 hb5.size r1 r3
  simp only [and_self, decide_true] at heq
  have c0 : w5.cell? ⟨w1.heap.size, 0, none⟩ = some (.int .i64 V) := m1.cell 0
  have c1' : w5.cell? ⟨w1.heap.size, 1, none⟩ = some (.slice A1 q c1) := m1.cell 1
  have d0 : w5.cell? ⟨w3.heap.size, 0, none⟩ = some (.int .i64 V) := m3.cell 0
  have d1 : w5.cell? ⟨w3.heap.size, 1, none⟩ = some (.slice A3 q c3) := m3.cell 1
  have HB5 := Lib.hid hb5; have HM5 := Lib.hid m3; have HR3 := Lib.hid r3; have HE5 := Lib.hid heq
  clear hb5 m1 m3 r1 r3 heq b24 b14 bw4 s14 s34 HL1 HL3 HM1 HM3 HB1 HB2 HB3 HB4 H1 H2 HCa HEq
  go_wp2_with fail
  refine HE5.out.mono ?_
  rintro e w6 ⟨rfl, hb6⟩
  have m6 := HM5.out.same (hb6.block _ HM5.out.lt)
  have e0 : w6.cell? ⟨w3.heap.size, 0, none⟩ = some (.int .i64 V) := m6.cell 0
  have e1 : w6.cell? ⟨w3.heap.size, 1, none⟩ = some (.slice A3 q c3) := m6.cell 1
  have HWr6 := Lib.hid (HWr.out w4.heap.size _ w6 (Nat.le_trans HB5.out.size hb6.size) (rowsI_of (RowsV.below (hb6.mono HB5.out.size) HR3.out)))
  have HB6 := Lib.hid ((HB.out.trans (HB5.out.mono HB.out.size)).trans (hb6.mono (Nat.le_trans HB.out.size HB5.out.size)))
  clear hb6 m6 c0 c1' d0 d1 HE5 HR3 HM5 HB5 HWr HB
  go_wp2_with fail
  refine HWr6.out.mono ?_
  rintro e w7 ⟨rfl, hb7⟩
  have HB7 := Lib.hid (HB6.out.trans (hb7.mono HB6.out.size))
  clear hb7 e0 e1 HWr6 HB6
  rcases HTQ.out with ⟨rfl, rfl⟩ | ⟨hE0, rfl⟩
  · clear HTQ
    go_wp2_with fail
    refine (HSp.out w7).mono ?_
    rintro e w8 ⟨sl, rfl, hsl, hb8⟩
    obtain ⟨lb, cap, rfl, hcap, hlb1, hln⟩ := rds_row HNn.out hsl
    have hn1 := HNn.out.2
    obtain ⟨m, hm, hmi⟩ : ∃ m : Nat, m = min n0 20 ∧ min (n0 : Int) 20 = (m : Int) := ⟨min n0 20, rfl, by omega⟩
    have hm0 : (0 : Int) ≤ (m : Int) := by omega
    have hmc : (m : Int) ≤ (cap : Int) := by omega
    have hc0 : ¬ cap = 0 := by omega
    have hmn : m ≤ n0 := by omega
    have hm20 : (m : Int) ≤ 20 := by omega
    have HB8 := Lib.hid (HB7.out.trans (hb8.mono HB7.out.size)); have HLn := Lib.hid hln; have HLb := Lib.hid hlb1; have HMn := Lib.hid hmn
    clear hsl hb8 hln hlb1 hcap hm hmn hn1
    go_wp2_with fail
    go_loopw [93] (fun iv wr => RdsRel w m w8 iv wr) (fun iv _ => m - (intOf iv).toNat)
    case atStart => exact ⟨0, Nat.zero_le _, rfl, HB8.out, Below.refl _ _⟩
    case round =>
      obtain ⟨k, hk, rfl, hbw, hb8⟩ := hrel
      by_cases hlt : k < m
      · obtain ⟨x, hx⟩ : ∃ x, ls[k]? = some x := ⟨_, List.getElem?_eq_getElem (by have := HNn.out.1; have := HMn.out; omega)⟩
        have hcx := (hb8.cell (p := ⟨lb, k, none⟩) HLb.out).trans (HLn.out k x hx)
        have hxl := HSh.out x (List.mem_of_getElem? hx)
        have hph := HPh.out wr hbw x hxl
        have hpr := fun W => HPr.out W x hxl
        have hki : (k : Int) < (m : Int) := by omega
        have HLt := Lib.hid hlt; have HBw := Lib.hid hbw; have HB8' := Lib.hid hb8
        clear hx hlt hbw hb8 hxl hk
        cases hp : prsH x
        · rw [hp, if_neg (by decide)] at hph
          rw [prsE_no hp] at hpr
          have HA := Lib.hid hph; have HBb := Lib.hid hpr
          clear hph hpr hp
          go_wp2_with fail
          refine HA.out.mono ?_
          rintro e w9 ⟨rfl, hb9⟩
          go_wp2_with fail
          refine (HBb.out w9).mono ?_
          rintro e w10 ⟨rfl, hb10⟩
          have hnx : RdsRel w m w8 (.int .i64 ((k : Int) + 1)) w10 := by
            have h10 := hb9.trans (hb10.mono hb9.size)
            exact ⟨k + 1, by have := HLt.out; omega, by go_num, HBw.out.trans (h10.mono HBw.out.size), HB8'.out.trans (h10.mono HB8'.out.size)⟩
          have HNx := Lib.hid hnx
          clear hb9 hb10 hnx
          go_wp2_with fail
          go_roundw
          case rel => exact HNx.out
          case measure => simp [intOf]; have := HLt.out; omega
        · rw [hp, if_pos rfl] at hph
          rw [prsE_yes hp rfl rfl] at hpr
          obtain ⟨a, ha⟩ : ∃ a, prsV x = a := ⟨_, rfl⟩
          obtain ⟨b, hb⟩ : ∃ b, prsN x = b := ⟨_, rfl⟩
          rw [ha, hb] at hph
          rw [ha, hb] at hpr
          have HA := Lib.hid hph; have HBb := Lib.hid hpr
          clear hph hpr hp ha hb
          go_wp2_with fail
          refine HA.out.mono ?_
          rintro e w9 ⟨rfl, hb9⟩
          go_wp2_with fail
          refine (HBb.out w9).mono ?_
          rintro e w10 ⟨rfl, hb10⟩
          have hnx : RdsRel w m w8 (.int .i64 ((k : Int) + 1)) w10 := by
            have h10 := hb9.trans (hb10.mono hb9.size)
            exact ⟨k + 1, by have := HLt.out; omega, by go_num, HBw.out.trans (h10.mono HBw.out.size), HB8'.out.trans (h10.mono HB8'.out.size)⟩
          have HNx := Lib.hid hnx
          clear hb9 hb10 hnx
          go_wp2_with fail
          go_roundw
          case rel => exact HNx.out
          case measure => simp [intOf]; have := HLt.out; omega
      · obtain rfl : k = m := by omega
        clear hb8 hlt
        go_wp2_with fail
        go_ret
        exact ⟨rfl, hbw⟩
  · have hEb : (E == 0) = false := by simpa using hE0
    have hEc : (E != 0) = true := by simpa using hE0
    clear HTQ hE0
    go_wp2_with fail
    refine (HSp.out w7).mono ?_
    rintro e w8 ⟨sl, rfl, hsl, hb8⟩
    obtain ⟨lb, cap, rfl, hcap, hlb1, hln⟩ := rds_row HNn.out hsl
    have hn1 := HNn.out.2
    obtain ⟨m, hm, hmi⟩ : ∃ m : Nat, m = min n0 20 ∧ min (n0 : Int) 20 = (m : Int) := ⟨min n0 20, rfl, by omega⟩
    have hm0 : (0 : Int) ≤ (m : Int) := by omega
    have hmc : (m : Int) ≤ (cap : Int) := by omega
    have hc0 : ¬ cap = 0 := by omega
    have hmn : m ≤ n0 := by omega
    have hm20 : (m : Int) ≤ 20 := by omega
    have HB8 := Lib.hid (HB7.out.trans (hb8.mono HB7.out.size)); have HLn := Lib.hid hln; have HLb := Lib.hid hlb1; have HMn := Lib.hid hmn
    clear hsl hb8 hln hlb1 hcap hm hmn hn1
    go_wp2_with fail
    go_loopw [93] (fun iv wr => RdsRel w m w8 iv wr) (fun iv _ => m - (intOf iv).toNat)
    case atStart => exact ⟨0, Nat.zero_le _, rfl, HB8.out, Below.refl _ _⟩
    case round =>
      obtain ⟨k, hk, rfl, hbw, hb8⟩ := hrel
      by_cases hlt : k < m
      · obtain ⟨x, hx⟩ : ∃ x, ls[k]? = some x := ⟨_, List.getElem?_eq_getElem (by have := HNn.out.1; have := HMn.out; omega)⟩
        have hcx := (hb8.cell (p := ⟨lb, k, none⟩) HLb.out).trans (HLn.out k x hx)
        have hxl := HSh.out x (List.mem_of_getElem? hx)
        have hph := HPh.out wr hbw x hxl
        have hpr := fun W => HPr.out W x hxl
        have hki : (k : Int) < (m : Int) := by omega
        have HLt := Lib.hid hlt; have HBw := Lib.hid hbw; have HB8' := Lib.hid hb8
        clear hx hlt hbw hb8 hxl hk
        cases hp : prsH x
        · rw [hp, if_neg (by decide)] at hph
          rw [prsE_no hp] at hpr
          have HA := Lib.hid hph; have HBb := Lib.hid hpr
          clear hph hpr hp
          go_wp2_with fail
          refine HA.out.mono ?_
          rintro e w9 ⟨rfl, hb9⟩
          go_wp2_with fail
          refine (HBb.out w9).mono ?_
          rintro e w10 ⟨rfl, hb10⟩
          have hnx : RdsRel w m w8 (.int .i64 ((k : Int) + 1)) w10 := by
            have h10 := hb9.trans (hb10.mono hb9.size)
            exact ⟨k + 1, by have := HLt.out; omega, by go_num, HBw.out.trans (h10.mono HBw.out.size), HB8'.out.trans (h10.mono HB8'.out.size)⟩
          have HNx := Lib.hid hnx
          clear hb9 hb10 hnx
          go_wp2_with fail
          go_roundw
          case rel => exact HNx.out
          case measure => simp [intOf]; have := HLt.out; omega
        · rw [hp, if_pos rfl] at hph
          rw [prsE_yes hp rfl rfl] at hpr
          obtain ⟨a, ha⟩ : ∃ a, prsV x = a := ⟨_, rfl⟩
          obtain ⟨b, hb⟩ : ∃ b, prsN x = b := ⟨_, rfl⟩
          rw [ha, hb] at hph
          rw [ha, hb] at hpr
          have HA := Lib.hid hph; have HBb := Lib.hid hpr
          clear hph hpr hp ha hb
          go_wp2_with fail
          refine HA.out.mono ?_
          rintro e w9 ⟨rfl, hb9⟩
          go_wp2_with fail
          refine (HBb.out w9).mono ?_
          rintro e w10 ⟨rfl, hb10⟩
          have hnx : RdsRel w m w8 (.int .i64 ((k : Int) + 1)) w10 := by
            have h10 := hb9.trans (hb10.mono hb9.size)
            exact ⟨k + 1, by have := HLt.out; omega, by go_num, HBw.out.trans (h10.mono HBw.out.size), HB8'.out.trans (h10.mono HB8'.out.size)⟩
          have HNx := Lib.hid hnx
          clear hb9 hb10 hnx
          go_wp2_with fail
          go_roundw
          case rel => exact HNx.out
          case measure => simp [intOf]; have := HLt.out; omega
      · obtain rfl : k = m := by omega
        clear hb8 hlt
        go_wp2_with fail
        go_ret
        exact ⟨rfl, hbw⟩
end Go.Proofs.YticcgmegimiegaaGreatDoor
