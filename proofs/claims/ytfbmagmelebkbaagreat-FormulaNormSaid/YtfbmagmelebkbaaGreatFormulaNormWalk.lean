/- The law FormulaNorm: its walk. -/
import Derived.Test.YtfbmagmelebkbaaGreatFoAwake
import Derived.Test.YtfbmagmelebkbaaGreatFoTurn
namespace Go.Proofs.YtfbmagmelebkbaaGreat.formulaNorm
open Go.RowKit Go.ChangeAt Go.ChangeShapes Go.WideShapes Go.Shelf Go.Sort

set_option maxRecDepth 100000 in
set_option maxHeartbeats 1000000 in
theorem eqf_any {w W : World} {fs : List (Value × List (List Int))} {ms : List (Value × List Bool)} {rs : List (Value × List (List Bool))} {ss : List (Nat × TypeId × Array Value)} {ds : List Nat} {v v' : Value} {x : List Bool} (h : Ev w W fs ms rs ss ds) (hv : Bools W.heap.size W v x) (hv' : Bools W.heap.size W v' x) (hx : x.length = 8) :
    Calls Tryz.prog 31 #[v, v'] W fun e w' => e = .returned (.bool true) ∧ Ev w w' fs ms rs ss ds := by
  obtain ⟨A, c, rfl, -⟩ := bools_shape hv
  obtain ⟨A', c', rfl, -⟩ := bools_shape hv'
  have heq := ev_equal h hv hv' (by omega) true (decide_eq_true rfl)
  rw [hx] at heq
  rw [hx]
  have HEq := Lib.hid heq
  clear heq hv hv' h hx
  go_enter Tryz.func31, Tryz.ntmps31
  go_wp2_with fail
  refine HEq.out.mono ?_
  rintro e w1 ⟨rfl, h1⟩
  have H1 := Lib.hid h1
  clear h1
  go_wp2_with fail
  go_ret
  exact ⟨rfl, H1.out⟩
set_option maxRecDepth 100000 in
set_option maxHeartbeats 1000000 in
theorem same_fn {w W : World} {fs : List (Value × List (List Int))} {ms : List (Value × List Bool)} {rs : List (Value × List (List Bool))} {ss : List (Nat × TypeId × Array Value)} {ds : List Nat} {gr : Nat} {rv v : Value} {r x : List Int} (h : Ev w W fs ms rs ss ds) (hg : (gr, 41, #[rv]) ∈ ss) (hr : Lits w.heap.size w rv r) (hf : r.length ≤ 1000) (hv : Lits W.heap.size W v x) (hx : x.length ≤ 1000) :
    Calls Tryz.prog 35 #[v, .pointer (some ⟨gr, 0, none⟩)] W fun e w' => e = .returned (.bool (withinB x r && withinB r x)) ∧ Ev w w' fs ms rs ss ds := by
  have cm : W.cell? ⟨gr, 0, none⟩ = some rv := (h.s hg).cell 0
  have hrw : Lits W.heap.size W rv r := rowV_lits.1 ((RowV.below h.below (rowV_lits.2 hr)).more h.below.size)
  obtain ⟨Am, cam, rfl, -⟩ := ints_shape hr.ints
  obtain ⟨Av, cav, rfl, -⟩ := ints_shape hv.ints
  have hs := same_any W.heap.size (.slice Av x.length cav) (.slice Am r.length cam) x r (by omega) (by omega) W (Nat.le_refl _) hv hrw
  obtain ⟨t, ht⟩ : ∃ t, (withinB x r && withinB r x) = t := ⟨_, rfl⟩
  rw [ht] at hs ⊢
  have HS := Lib.hid hs; have H := Lib.hid h
  clear hs h hg hr hv hrw ht
  go_enter Tryz.func35, Tryz.ntmps35
  go_wp2_with fail
  refine HS.out.mono ?_
  rintro e w1 ⟨rfl, hb⟩
  have H1 := Lib.hid (H.out.on hb)
  clear hb
  go_wp2_with fail
  go_ret
  exact ⟨rfl, H1.out⟩
theorem ev_made_cap {w W : World} {v : Value} {fs : List (Value × List (List Int))} {ms : List (Value × List Bool)} {rs : List (Value × List (List Bool))} {ss : List (Nat × TypeId × Array Value)} {ds : List Nat} {zss : List (List Int)} (h : Ev w W fs ms rs ss ds) (hz : ∀ zs ∈ zss, zs.length ≤ maxLen ∧ ∀ x ∈ zs, (Lit.int .u8 x).wf = true) (hR : Rows2 .u8 w.heap.size w v zss) :
    Calls Tryz.prog 15 #[v] W fun e w' => ∃ A c, e = .returned (.agg #[.int .i64 8, .slice A (madeF zss).length c]) ∧ Ev w w' ((.slice A (madeF zss).length c, madeF zss) :: fs) ms rs ss ds ∧ (madeF zss).length ≤ c ∧ (A = none ∧ (madeF zss).length = 0 ∧ c = 0 ∨ ∃ g, A = some ⟨g, 0, none⟩) :=
  (foMade_any W (Nat.le_refl _) hz (rows2_more h.below.size (hR.below h.below))).mono fun e w' ⟨v', he, ho, hB⟩ => by
    obtain ⟨svs, hrow, -⟩ := id ho
    obtain ⟨A, c, rfl⟩ := ho.len
    rw [cellsL_len] at he ho hrow
    refine ⟨A, c, he, (h.on hB).addF ho.rowsL, ?_⟩
    rcases hrow.2 with ⟨e, h0⟩ | ⟨g, cap, cur, e, -, -, h1, -⟩
    · injection e with e1 e2 e3
      exact ⟨by omega, .inl ⟨e1, h0, e3⟩⟩
    · injection e with e1 e2 e3
      exact ⟨by omega, .inr ⟨g, e1⟩⟩
theorem lits_on {wb W' : World} {v : Value} {xs : List Int} (hl : Lits wb.heap.size wb v xs) (hb : Below wb.heap.size wb W') : Lits W'.heap.size W' v xs := rowV_lits.1 ((RowV.below hb (rowV_lits.2 hl)).more hb.size)
theorem r_normal {wb W' : World} {v : Value} {xs : List Int} (hl : Lits wb.heap.size wb v xs) (hx : xs.length ≤ 1000) (hn : (rightB xs && incB xs) = true) (hb : Below wb.heap.size wb W') :
    Calls Tryz.prog 32 #[v] W' fun e w' => e = .returned (.bool true) ∧ Below wb.heap.size wb w' :=
  (clnormal_any W'.heap.size v xs (by omega) W' (lits_on hl hb).ints).mono fun e w' ⟨he, q, hw⟩ => ⟨by rw [he, hn], by rw [hw]; exact hb.trans ((below_dN _ _).mono hb.size)⟩
theorem r_always {wb W' : World} {v : Value} {xs : List Int} (hl : Lits wb.heap.size wb v xs) (hx : xs.length ≤ 1000) (hn : (rightB xs && alwB xs) = false) (hb : Below wb.heap.size wb W') :
    Calls Tryz.prog 23 #[v] W' fun e w' => e = .returned (.bool false) ∧ Below wb.heap.size wb w' :=
  (always_any W'.heap.size v xs (by omega) W' (Nat.le_refl _) (lits_on hl hb)).mono fun e w' ⟨he, hw⟩ => ⟨by rw [he, hn], hb.trans (hw.mono hb.size)⟩
theorem r_compare {wb W' : World} {v v' : Value} {xs ys : List Int} (t : Int) (hl : Lits wb.heap.size wb v xs) (hl' : Lits wb.heap.size wb v' ys) (hx : xs.length ≤ 1000) (hy : ys.length ≤ 1000) (hn : (if rightB xs && rightB ys then clCmp xs ys else 0) = t) (hb : Below wb.heap.size wb W') :
    Calls Tryz.prog 33 #[v, v'] W' fun e w' => e = .returned (.int .i64 t) ∧ Below wb.heap.size wb w' :=
  (clcompare_any W'.heap.size v v' xs ys (by omega) (by omega) W' (Nat.le_refl _) (lits_on hl hb) (lits_on hl' hb)).mono fun e w' ⟨he, hw⟩ => ⟨by rw [he, hn], hb.trans (hw.mono hb.size)⟩
theorem r_contains {w wb W' : World} {fs : List (Value × List (List Int))} {ms : List (Value × List Bool)} {rs : List (Value × List (List Bool))} {ss : List (Nat × TypeId × Array Value)} {ds : List Nat} {gc : Nat} {rv : Value} {A : Option Addr} {m c : Nat} {L : List (List Int)} {r : List Int} (h : Ev w wb fs ms rs ss ds) (hg : (gc, 41, #[rv]) ∈ ss) (hp : (Value.slice A m c, L) ∈ fs) (hm : L.length = m) (hm2 : m ≤ 1000) (hr : Lits wb.heap.size wb rv r) (hf : r.length ≤ 1000) (hL : ∀ x ∈ L, x.length ≤ 1000) (ht : L.any (fun x => withinB x r && withinB r x) = true) (hb : Below wb.heap.size wb W') :
    Calls Tryz.prog 34 #[.slice A m c, .func (.func 35) #[] #[.pointer (some ⟨gc, 0, none⟩)]] W' fun e w' => e = .returned (.bool true) ∧ Below wb.heap.size wb w' := by
  have hen : ∀ args w, (callFunc 35 args).run Tryz.prog w = .ok (.enter 35 args) w := enters_of Tryz.func35 (by kernel_rfl) rfl
  have h' := h.on hb
  have hc := containsC_any 35 #[.pointer (some ⟨gc, 0, none⟩)] (fun x => withinB x r && withinB r x) (⟨Below.refl _ _, h'.fo, h'.mo, h'.ro, h'.st, h'.de⟩ : Ev W' W' _ _ _ _ _) (A := A) (c := c) (K := m) (l := L) hp hm (by omega) hen
    (fun W v x hW hv hx => same_fn hW hg (lits_on hr hb) hf hv (hL x hx))
  rw [ht] at hc
  exact hc.mono fun e w' ⟨he, hev⟩ => ⟨he, hb.trans (hev.below.mono hb.size)⟩
set_option maxRecDepth 100000 in
set_option maxHeartbeats 4000000 in
theorem formulaNorm_walk (v : Value) (zss : List (List Int)) (_hl : zss.length ≤ maxLen) (hz : ∀ zs ∈ zss, zs.length ≤ maxLen ∧ ∀ x ∈ zs, (Lit.int .u8 x).wf = true) (turn : Int) (hw : (Lit.int .u8 turn).wf = true) (w : World) (hR : Rows2 .u8 w.heap.size w v zss) :
    Calls Tryz.prog 6 #[v, .int .u8 turn] w fun e w' => e = .returned (.bool true) ∧ Below w.heap.size w w' := by
  obtain ⟨TU, rfl⟩ : ∃ x : Nat, turn = (x : Int) := ⟨turn.toNat, by have := u8_wf hw; omega⟩
  have hTU : TU ≤ 255 := by have := u8_wf hw; omega
  have HZ := Lib.hid hz; have HR := Lib.hid hR
  clear hz hR hw
  go_enter Tryz.func6, Tryz.ntmps6
  go_wp2_with fail
  refine (ev_made_cap (Ev.start w) HZ.out HR.out).mono ?_
  rintro e w1 ⟨A, c, rfl, h1, hmc, hnone⟩
  have hk := ok_made zss
  have hm30 := madeF_len zss
  obtain ⟨L, hL⟩ : ∃ x, madeF zss = x := ⟨_, rfl⟩
  obtain ⟨m, hm⟩ : ∃ x, L.length = x := ⟨_, rfl⟩
  obtain ⟨M, hM⟩ : ∃ x, modelsB 8 L = x := ⟨_, rfl⟩
  obtain ⟨K, hK⟩ : ∃ x, M.length = x := ⟨_, rfl⟩
  obtain ⟨N, hN⟩ : ∃ x, nrmF L = x := ⟨_, rfl⟩
  obtain ⟨n, hn⟩ : ∃ x, N.length = x := ⟨_, rfl⟩
  have hK256 : K ≤ 256 := by have := models_count 8 L; rw [hM] at this; omega
  have hn30 : n ≤ m := by have := nrm_len L; rw [hN] at this; omega
  rw [hL] at hk hm30 h1 hmc hnone ⊢
  rw [hm] at hm30 h1 hmc hnone ⊢
  have HNone := Lib.hid hnone
  clear hnone
  have hkN := ok_nrm hk
  have hMN := models_nrm hk
  rw [hN] at hkN hMN
  rw [hM] at hMN
  have HOk := Lib.hid hk; have HM := Lib.hid hm; have HMd := Lib.hid hM; have HKl := Lib.hid hK; have H1 := Lib.hid h1; have HN := Lib.hid hN; have HNl := Lib.hid hn; have HOkN := Lib.hid hkN; have HMN := Lib.hid hMN
  clear hk hL hm hK h1 HZ HR hN hn hkN hMN hM
  go_wp2_with fail
  have h2 := H1.out.box 24 #[.int .i64 8, .slice A m c]
  obtain ⟨p, hp⟩ : ∃ x, w1.heap.size = x := ⟨_, rfl⟩
  obtain ⟨w2, hw2⟩ : ∃ x, w1.alloc (.cells #[.int .i64 8, .slice A m c] 24) = x := ⟨_, rfl⟩
  have hb2 := below1a w1 (.cells #[.int .i64 8, .slice A m c] 24)
  have hpw := H1.out.below.size
  rw [hp] at hpw
  have hlow := H1.out.f (v := .slice A m c) (L := L) (by simp)
  rw [hw2, hp] at h2
  rw [hw2, hp] at hb2
  rw [hp] at hlow
  rw [hw2, hp]
  have hps : p < w2.heap.size := (h2.s (g := p) (t := 24) (cs := #[.int .i64 8, .slice A m c]) (by simp)).lt
  have hno := fonorm_ok 8 w2 (Nat.le_refl _) HOk.out.short (h2.f (v := .slice A m c) (L := L) (by simp)) HOk.out.chk2
  rw [HN.out] at hno
  have HNo := Lib.hid hno; have H2 := Lib.hid h2; have HLow := Lib.hid hlow; have HB2 := Lib.hid hb2; have HPs := Lib.hid hps
  clear hno h2 hp hw2 H1 hlow hb2 hps
  refine HNo.out.mono ?_
  rintro e w3 ⟨vn, rfl, hon, hb3⟩
  obtain ⟨An, cn, rfl⟩ := hon.len
  rw [cellsL_len, HNl.out] at hon ⊢
  have h3 := (H2.out.on hb3).addF (v := .slice An n cn) (L := N) hon.rowsL
  have hkn : KRows p w3 (.slice An n cn) N := krows_own hon HPs.out
  have hkl : KRows p w3 (.slice A m c) L := krows_low (RowsV.below (HB2.out.trans (hb3.mono (Nat.le_of_lt HPs.out))) HLow.out) (by have := HPs.out; have := hb3.size; omega)
  have hwb3 : Below w.heap.size w w3 := h3.below
  have h3' : Ev w3 w3 _ _ _ _ _ := ⟨Below.refl _ _, h3.fo, h3.mo, h3.ro, h3.st, h3.de⟩
  have H3 := Lib.hid h3'; have HKn := Lib.hid hkn; have HKL := Lib.hid hkl; have HWb := Lib.hid hwb3; have HPw := Lib.hid hpw; have HP3 := Lib.hid (show p < w3.heap.size by have := HPs.out; have := hb3.size; omega)
  clear hpw h3 h3' HNo hkn hkl hwb3 hon hb3 HLow HB2 HPs H2
  go_wp2_with fail
  have h4 := H3.out.box 24 #[.int .i64 8, .slice An n cn]
  obtain ⟨pn, hpn⟩ : ∃ x, w3.heap.size = x := ⟨_, rfl⟩
  obtain ⟨w4, hw4⟩ : ∃ x, w3.alloc (.cells #[.int .i64 8, .slice An n cn] 24) = x := ⟨_, rfl⟩
  have hpp := HP3.out
  rw [hpn] at hpp
  have HPn := Lib.hid hpp
  clear hpp
  rw [hw4, hpn] at h4
  rw [hw4, hpn]
  have hno := ev_norm (v := .slice An n cn) (L := N) h4 (by simp) HOkN.out (N := N) (by rw [← HN.out, nrm_idem]) n HNl.out
  have HNo := Lib.hid hno
  clear hno h4 hpn hw4 H3
  refine HNo.out.mono ?_
  rintro e w5 ⟨Ag, cg, rfl, h5⟩
  have H5 := Lib.hid h5
  clear h5 HNo
  have h6 := H5.out.box 24 #[.int .i64 8, .slice Ag n cg]
  obtain ⟨pa, hpa⟩ : ∃ x, w5.heap.size = x := ⟨_, rfl⟩
  obtain ⟨w6, hw6⟩ : ∃ x, w5.alloc (.cells #[.int .i64 8, .slice Ag n cg] 24) = x := ⟨_, rfl⟩
  rw [hw6, hpa] at h6
  have hF := h6.s (g := p) (t := 24) (cs := #[.int .i64 8, .slice A m c]) (by simp)
  have c0 : w6.cell? ⟨p, 0, none⟩ = some (.int .i64 8) := hF.cell 0
  have c1 : w6.cell? ⟨p, 1, none⟩ = some (.slice A m c) := hF.cell 1
  have hco := ev_collected (v := .slice A m c) (L := L) h6 (by simp) HOk.out K (by rw [HMd.out, HKl.out])
  rw [HMd.out] at hco
  have HCo := Lib.hid hco
  clear hco h6 hF H5
  go_wp2_with fail
  refine HCo.out.mono ?_
  rintro e w7 ⟨B1, d1, rfl, h7⟩
  have hF := h7.s (g := pn) (t := 24) (cs := #[.int .i64 8, .slice An n cn]) (by simp)
  have c0 : w7.cell? ⟨pn, 0, none⟩ = some (.int .i64 8) := hF.cell 0
  have c1 : w7.cell? ⟨pn, 1, none⟩ = some (.slice An n cn) := hF.cell 1
  have hco := ev_collected (v := .slice An n cn) (L := N) h7 (by simp) HOkN.out K (by rw [HMN.out, HKl.out])
  rw [HMN.out] at hco
  have HCo2 := Lib.hid hco
  clear hco h7 hF HCo hw6 hpa
  go_wp2_with fail
  refine HCo2.out.mono ?_
  rintro e w8 ⟨B2, d2, rfl, h8⟩
  have hF := h8.s (g := pn) (t := 24) (cs := #[.int .i64 8, .slice An n cn]) (by simp)
  have hG := h8.s (g := pa) (t := 24) (cs := #[.int .i64 8, .slice Ag n cg]) (by simp)
  have c0 : w8.cell? ⟨pn, 0, none⟩ = some (.int .i64 8) := hF.cell 0
  have c1 : w8.cell? ⟨pn, 1, none⟩ = some (.slice An n cn) := hF.cell 1
  have c2 : w8.cell? ⟨pa, 0, none⟩ = some (.int .i64 8) := hG.cell 0
  have c3 : w8.cell? ⟨pa, 1, none⟩ = some (.slice Ag n cg) := hG.cell 1
  have hsa := ev_same (v := .slice An n cn) (v' := .slice Ag n cg) (L := N) h8 (by simp) (by simp) HOkN.out
  have H8 := Lib.hid h8; have HSa := Lib.hid hsa
  clear h8 hsa hF hG HCo2
  go_wp2_with fail
  refine HSa.out.mono ?_
  rintro e w9 ⟨rfl, h9⟩
  have hen : ∀ args w, (callFunc 31 args).run Tryz.prog w = .ok (.enter 31 args) w := enters_of Tryz.func31 (by kernel_rfl) rfl
  have heq := eqBools_any (A := B1) (A' := B2) (K := K) (c := d1) (c' := d2) (l := M) 31 h9 (by simp) (by simp) HKl.out (by omega) hen
    (fun W v v' x hW hv hv' hx => eqf_any hW hv hv' (models_len (n := 8) (L := L) (by rw [HMd.out]; exact hx)))
  have HEq := Lib.hid heq
  clear heq hen h9 HSa H8 c0 c1 c2 c3
  go_wp2_with fail
  refine HEq.out.mono ?_
  rintro e x0 ⟨rfl, h0⟩
  have hF := h0.s (g := pn) (t := 24) (cs := #[.int .i64 8, .slice An n cn]) (by simp)
  have c0 : x0.cell? ⟨pn, 0, none⟩ = some (.int .i64 8) := hF.cell 0
  have c1 : x0.cell? ⟨pn, 1, none⟩ = some (.slice An n cn) := hF.cell 1
  have H0 := Lib.hid h0
  clear h0 hF HEq
  go_wp2_with fail
  clear c0 c1
  go_loopw [68] (fun i wr => EqRel w3 [(.slice Ag n cg, N), (.slice An n cn, N), (.slice A m c, L)] [] [(.slice B2 K d2, M), (.slice B1 K d1, M)] [(pa, 24, #[.int .i64 8, .slice Ag n cg]), (pn, 24, #[.int .i64 8, .slice An n cn]), (p, 24, #[.int .i64 8, .slice A m c])] [] n i wr) (fun i _ => n - (intOf i).toNat)
  case atStart => exact ⟨0, Nat.zero_le _, rfl, H0.out⟩
  case round =>
    obtain ⟨i, hi, rfl, hev⟩ := hrel
    by_cases hlt : i < n
    · obtain ⟨xs, hx⟩ : ∃ x, N[i]? = some x := ⟨_, List.getElem?_eq_getElem (by have := HNl.out; omega)⟩
      obtain ⟨b, off, Ax, cx, e1, hc, hlx⟩ := ev_clause (A := An) (m := n) (c := cn) hev (by simp) hx
      subst e1
      have hji : (i : Int) < (n : Int) := by omega
      have HE := Lib.hid hev; have HLt := Lib.hid hlt; have HLx := Lib.hid hlx; have HX := Lib.hid hx
      clear hev hlt hlx hx H0
      go_upto_region 11 with fail
      have hev2 := HE.out.box 41 #[.slice Ax xs.length cx]
      have hbo := below1a wr (.cells #[.slice Ax xs.length cx] 41)
      have hlb := lits_on HLx.out hbo
      obtain ⟨gc, hgc⟩ : ∃ x, wr.heap.size = x := ⟨_, rfl⟩
      obtain ⟨wb, hwb⟩ : ∃ x, wr.alloc (.cells #[.slice Ax xs.length cx] 41) = x := ⟨_, rfl⟩
      rw [hwb] at hev2 hbo hlb ⊢
      have HBo := Lib.hid hbo
      rw [hgc] at hev2 ⊢
      have hxN := List.mem_of_getElem? HX.out
      obtain ⟨y, hyL, hya, hyx⟩ := nrmF_mem.1 (by rw [HN.out]; exact hxN)
      have hx100 := HOkN.out.cl xs hxN
      have hrx : rightB xs = true := cl_right (by omega) hx100.2
      have hry : rightB y = true := cl_right (by have := (HOk.out.cl y hyL).1; omega) (HOk.out.cl y hyL).2
      have hix : Inc xs := by rw [← hyx]; exact norm_inc y
      have hnm := fun W' hb => r_normal (wb := wb) (W' := W') hlb (by omega) (by rw [hrx, (incB_iff xs).2 hix]; rfl) hb
      have haw := fun W' hb => r_always (wb := wb) (W' := W') hlb (by omega) (by rw [← hyx, alw_norm, hya, Bool.and_false]) hb
      have hcn := fun W' hb => r_contains (wb := wb) (W' := W') hev2 (gc := gc) (rv := .slice Ax xs.length cx) (by simp) (A := A) (m := m) (c := c) (L := L) (by simp) HM.out (by omega) hlb (by omega) (fun x hx => by have := (HOk.out.cl x hx).1; omega)
        (List.any_eq_true.2 ⟨y, hyL, by unfold withinB; rw [hrx, hry, withB_iff.2 fun a ha => by rw [← hyx]; exact norm_mem.2 ha, withB_iff.2 fun a ha => by rw [← hyx] at ha; exact norm_mem.1 ha]; rfl⟩) hb
      have hsp := hev2.s (g := p) (t := 24) (cs := #[.int .i64 8, .slice A m c]) (by simp)
      have hsn := hev2.s (g := pn) (t := 24) (cs := #[.int .i64 8, .slice (some ⟨b, off, none⟩) n cn]) (by simp)
      have hsc := hev2.s (g := gc) (t := 41) (cs := #[.slice Ax xs.length cx]) (by simp)
      have hi62 : i ≤ 30 := by have := HLt.out; omega
      rcases Nat.eq_zero_or_pos i with hi0 | hi0
      · subst hi0
        have hss : ∀ W', Below wb.heap.size wb W' → W'.cell? ⟨gc, 0, none⟩ = some (.slice Ax xs.length cx) ∧ W'.cell? ⟨pn, 1, none⟩ = some (.slice (some ⟨b, off, none⟩) n cn) ∧ W'.cell? ⟨p, 1, none⟩ = some (.slice A m c) ∧ W'.cell? ⟨p, 1, none⟩ = some (.slice A m c) := fun W' hb =>
          ⟨(hb.cell (p := ⟨gc, 0, none⟩) hsc.lt).trans (hsc.cell 0), (hb.cell (p := ⟨pn, 1, none⟩) hsn.lt).trans (hsn.cell 1), (hb.cell (p := ⟨p, 1, none⟩) hsp.lt).trans (hsp.cell 1), (hb.cell (p := ⟨p, 1, none⟩) hsp.lt).trans (hsp.cell 1)⟩
        have HS := Lib.hid (hss wb.drew ((Below.refl _ wb).drew)); have HSs := Lib.hid hss; have HNm := Lib.hid hnm; have HAw := Lib.hid haw; have HCn := Lib.hid hcn; have HB0 := Lib.hid ((Below.refl wb.heap.size wb).drew)
        clear hss hnm haw hcn hsp hsn hsc hev2 hbo hlb hgc hwb hxN hyL hya hyx hx100 hrx hry hix hc hji
        refine wp_region_noPanic ?_
        refine wp_region_held_drew (S := fun W' => W'.cell? ⟨gc, 0, none⟩ = some (.slice Ax xs.length cx) ∧ W'.cell? ⟨pn, 1, none⟩ = some (.slice (some ⟨b, off, none⟩) n cn) ∧ W'.cell? ⟨p, 1, none⟩ = some (.slice A m c) ∧ W'.cell? ⟨p, 1, none⟩ = some (.slice A m c)) (by kernel_rfl) HS.out (fun _ => ?_)
        refine wpAnyH_take (i := 0) (v := .slice Ax xs.length cx) rfl (by kernel_rfl) (by kernel_rfl) (by kernel_rfl) (fun _ _ _ h => h) (Or.inl ⟨by kernel_rfl, fun w hS => by obtain ⟨s1, s2, s3, s4⟩ := hS; go_simp⟩) HS.out ?_
        refine wpAnyH_ready (rs := [1]) (by kernel_rfl) (by simp) (AllReadyH.cons rfl (fun K hK => ?_) AllReadyH.nil)
        go_simp
        refine (HNm.out _ HB0.out).mono ?_
        rintro r v1 ⟨rfl, hbx⟩
        have HB1 := Lib.hid hbx; have HS1 := Lib.hid (HSs.out _ hbx)
        clear hbx
        go_simp
        refine hK.out _ _ HS1.out (fun _ => ?_)
        clear hK K
        refine wpAnyH_take (i := 2) (v := .bool false) rfl (by kernel_rfl) (by kernel_rfl) (by kernel_rfl) (fun _ _ _ h => h) (Or.inl ⟨by kernel_rfl, fun w hS => by obtain ⟨s1, s2, s3, s4⟩ := hS; go_simp⟩) HS1.out ?_
        refine wpAnyH_take (i := 3) (v := .bool false) rfl (by kernel_rfl) (by kernel_rfl) (by kernel_rfl) (fun _ _ _ h => h) (Or.inl ⟨by kernel_rfl, fun w hS => by obtain ⟨s1, s2, s3, s4⟩ := hS; go_simp⟩) HS1.out ?_
        refine wpAnyH_take (i := 4) (v := .slice Ax xs.length cx) rfl (by kernel_rfl) (by kernel_rfl) (by kernel_rfl) (fun _ _ _ h => h) (Or.inl ⟨by kernel_rfl, fun w hS => by obtain ⟨s1, s2, s3, s4⟩ := hS; go_simp⟩) HS1.out ?_
        refine wpAnyH_ready (rs := [5]) (by kernel_rfl) (by simp) (AllReadyH.cons rfl (fun K hK => ?_) AllReadyH.nil)
        go_simp
        refine (HAw.out _ HB1.out).mono ?_
        rintro r v2 ⟨rfl, hbx⟩
        have HB2 := Lib.hid hbx; have HS2 := Lib.hid (HSs.out _ hbx)
        clear hbx
        go_simp
        refine hK.out _ _ HS2.out (fun _ => ?_)
        clear hK K
        refine wpAnyH_take (i := 6) (v := .bool false) rfl (by kernel_rfl) (by kernel_rfl) (by kernel_rfl) (fun _ _ _ h => h) (Or.inl ⟨by kernel_rfl, fun w hS => by obtain ⟨s1, s2, s3, s4⟩ := hS; go_simp⟩) HS2.out ?_
        refine wpAnyH_take (i := 7) (v := .bool false) rfl (by kernel_rfl) (by kernel_rfl) (by kernel_rfl) (fun _ _ _ h => h) (Or.inl ⟨by kernel_rfl, fun w hS => by obtain ⟨s1, s2, s3, s4⟩ := hS; go_simp⟩) HS2.out ?_
        refine wpAnyH_take (i := 8) (v := .int .i64 0) rfl (by kernel_rfl) (by kernel_rfl) (by kernel_rfl) (fun _ _ _ h => h) (Or.inl ⟨by kernel_rfl, fun w hS => by obtain ⟨s1, s2, s3, s4⟩ := hS; go_simp⟩) HS2.out ?_
        refine wpAnyH_take (i := 9) (v := .bool false) rfl (by kernel_rfl) (by kernel_rfl) (by kernel_rfl) (fun _ _ _ h => h) (Or.inl ⟨by kernel_rfl, fun w hS => by obtain ⟨s1, s2, s3, s4⟩ := hS; go_simp⟩) HS2.out ?_
        refine wpAnyH_take (i := 10) (v := .bool false) rfl (by kernel_rfl) (by kernel_rfl) (by kernel_rfl) (fun _ _ _ h => h) (Or.inl ⟨by kernel_rfl, fun w hS => by obtain ⟨s1, s2, s3, s4⟩ := hS; go_simp⟩) HS2.out ?_
        refine wpAnyH_take (i := 11) (v := undef) rfl (by kernel_rfl) (by kernel_rfl) (by kernel_rfl) (fun _ _ _ h => h) (Or.inr ⟨by kernel_rfl, rfl⟩) HS2.out ?_
        refine wpAnyH_take (i := 12) (v := undef) rfl (by kernel_rfl) (by kernel_rfl) (by kernel_rfl) (fun _ _ _ h => h) (Or.inr ⟨by kernel_rfl, rfl⟩) HS2.out ?_
        refine wpAnyH_take (i := 13) (v := undef) rfl (by kernel_rfl) (by kernel_rfl) (by kernel_rfl) (fun _ _ _ h => h) (Or.inr ⟨by kernel_rfl, rfl⟩) HS2.out ?_
        refine wpAnyH_take (i := 14) (v := undef) rfl (by kernel_rfl) (by kernel_rfl) (by kernel_rfl) (fun _ _ _ h => h) (Or.inr ⟨by kernel_rfl, rfl⟩) HS2.out ?_
        refine wpAnyH_take (i := 15) (v := undef) rfl (by kernel_rfl) (by kernel_rfl) (by kernel_rfl) (fun _ _ _ h => h) (Or.inr ⟨by kernel_rfl, rfl⟩) HS2.out ?_
        refine wpAnyH_take (i := 16) (v := undef) rfl (by kernel_rfl) (by kernel_rfl) (by kernel_rfl) (fun _ _ _ h => h) (Or.inr ⟨by kernel_rfl, rfl⟩) HS2.out ?_
        refine wpAnyH_take (i := 17) (v := undef) rfl (by kernel_rfl) (by kernel_rfl) (by kernel_rfl) (fun _ _ _ h => h) (Or.inr ⟨by kernel_rfl, rfl⟩) HS2.out ?_
        refine wpAnyH_take (i := 18) (v := undef) rfl (by kernel_rfl) (by kernel_rfl) (by kernel_rfl) (fun _ _ _ h => h) (Or.inr ⟨by kernel_rfl, rfl⟩) HS2.out ?_
        refine wpAnyH_take (i := 19) (v := undef) rfl (by kernel_rfl) (by kernel_rfl) (by kernel_rfl) (fun _ _ _ h => h) (Or.inr ⟨by kernel_rfl, rfl⟩) HS2.out ?_
        refine wpAnyH_take (i := 20) (v := .bool false) rfl (by kernel_rfl) (by kernel_rfl) (by kernel_rfl) (fun _ _ _ h => h) (Or.inl ⟨by kernel_rfl, fun w hS => by obtain ⟨s1, s2, s3, s4⟩ := hS; go_simp⟩) HS2.out ?_
        refine wpAnyH_take (i := 21) (v := .bool false) rfl (by kernel_rfl) (by kernel_rfl) (by kernel_rfl) (fun _ _ _ h => h) (Or.inl ⟨by kernel_rfl, fun w hS => by obtain ⟨s1, s2, s3, s4⟩ := hS; go_simp⟩) HS2.out ?_
        refine wpAnyH_take (i := 22) (v := .bool false) rfl (by kernel_rfl) (by kernel_rfl) (by kernel_rfl) (fun _ _ _ h => h) (Or.inl ⟨by kernel_rfl, fun w hS => by obtain ⟨s1, s2, s3, s4⟩ := hS; go_simp⟩) HS2.out ?_
        refine wpAnyH_take (i := 23) (v := .pointer (some ⟨p, 1, none⟩)) rfl (by kernel_rfl) (by kernel_rfl) (by kernel_rfl) (fun _ _ _ h => h) (Or.inl ⟨by kernel_rfl, fun w hS => by obtain ⟨s1, s2, s3, s4⟩ := hS; go_simp⟩) HS2.out ?_
        refine wpAnyH_take (i := 24) (v := .slice A m c) rfl (by kernel_rfl) (by kernel_rfl) (by kernel_rfl) (fun _ _ _ h => h) (Or.inl ⟨by kernel_rfl, fun w hS => by obtain ⟨s1, s2, s3, s4⟩ := hS; go_simp⟩) HS2.out ?_
        refine wpAnyH_take (i := 25) (v := .func (.func 35) #[] #[.pointer (some ⟨gc, 0, none⟩)]) rfl (by kernel_rfl) (by kernel_rfl) (by kernel_rfl) (fun _ _ _ h => h) (Or.inl ⟨by kernel_rfl, fun w hS => by obtain ⟨s1, s2, s3, s4⟩ := hS; go_simp⟩) HS2.out ?_
        refine wpAnyH_ready (rs := [26]) (by kernel_rfl) (by simp) (AllReadyH.cons rfl (fun K hK => ?_) AllReadyH.nil)
        go_simp
        refine (HCn.out _ HB2.out).mono ?_
        rintro r v3 ⟨rfl, hbx⟩
        have HB3 := Lib.hid hbx; have HS3 := Lib.hid (HSs.out _ hbx)
        clear hbx
        go_simp
        refine hK.out _ _ HS3.out (fun _ => ?_)
        clear hK K
        refine wpAnyH_take (i := 27) (v := .bool false) rfl (by kernel_rfl) (by kernel_rfl) (by kernel_rfl) (fun _ _ _ h => h) (Or.inl ⟨by kernel_rfl, fun w hS => by obtain ⟨s1, s2, s3, s4⟩ := hS; go_simp⟩) HS3.out ?_
        refine wpAnyH_take (i := 28) (v := .bool false) rfl (by kernel_rfl) (by kernel_rfl) (by kernel_rfl) (fun _ _ _ h => h) (Or.inl ⟨by kernel_rfl, fun w hS => by obtain ⟨s1, s2, s3, s4⟩ := hS; go_simp⟩) HS3.out ?_
        refine wpAnyH_done (by kernel_rfl) ?_ _
        refine NoPanic.normal ?_
        go_simp
        have HFin := Lib.hid (HE.out.on (below_cat HBo.out HB3.out))
        go_wp2_with fail
        go_roundw
        case rel => exact ⟨0 + 1, HLt.out, by go_num, HFin.out⟩
        case measure => simp [intOf]; have := HLt.out; omega
      · obtain ⟨ps, hps⟩ : ∃ x, N[i - 1]? = some x := ⟨_, List.getElem?_eq_getElem (by have := HNl.out; have := HLt.out; omega)⟩
        obtain ⟨b', off', Ap, cp, e1, hcp, hlp⟩ := ev_clause (A := some ⟨b, off, none⟩) (m := n) (c := cn) HE.out (by simp) hps
        obtain ⟨rfl, rfl⟩ : b = b' ∧ off = off' := by cases e1; exact ⟨rfl, rfl⟩
        have hlpb := lits_on hlp HBo.out
        have hpN := List.mem_of_getElem? hps
        have hp100 := HOkN.out.cl ps hpN
        have hrp : rightB ps = true := cl_right (by omega) hp100.2
        obtain ⟨t, ht⟩ : ∃ t, clCmp ps xs = t := ⟨_, rfl⟩
        have ht0 : t < 0 := by
          have hpw := (nrmF_is L).1
          rw [HN.out] at hpw
          obtain ⟨j1, e1⟩ := List.getElem?_eq_some_iff.1 hps
          obtain ⟨j2, e2⟩ := List.getElem?_eq_some_iff.1 HX.out
          have := List.pairwise_iff_getElem.1 hpw (i - 1) i j1 j2 (by omega)
          rw [e1, e2, ht] at this
          exact this
        have hcm := fun W' hb => r_compare (wb := wb) (W' := W') t hlpb hlb (by omega) (by omega) (by rw [hrp, hrx, Bool.and_self, if_pos rfl, ht]) hb
        have hcpl := World.block_lt_of_cell? wr _ hcp
        have hcpb := (HBo.out.cell (p := ⟨b, off + (i - 1), none⟩) hcpl).trans hcp
        have hcpl2 := World.block_lt_of_cell? wb _ hcpb
        have hss : ∀ W', Below wb.heap.size wb W' → W'.cell? ⟨gc, 0, none⟩ = some (.slice Ax xs.length cx) ∧ W'.cell? ⟨pn, 1, none⟩ = some (.slice (some ⟨b, off, none⟩) n cn) ∧ W'.cell? ⟨p, 1, none⟩ = some (.slice A m c) ∧ W'.cell? ⟨b, off + (i - 1), none⟩ = some (.slice Ap ps.length cp) := fun W' hb =>
          ⟨(hb.cell (p := ⟨gc, 0, none⟩) hsc.lt).trans (hsc.cell 0), (hb.cell (p := ⟨pn, 1, none⟩) hsn.lt).trans (hsn.cell 1), (hb.cell (p := ⟨p, 1, none⟩) hsp.lt).trans (hsp.cell 1), (hb.cell (p := ⟨b, off + (i - 1), none⟩) hcpl2).trans hcpb⟩
        have hq1 : decide (0 < i) = true := decide_eq_true (by omega)
        have hq2 : decide ((i : Int) > 0) = true := decide_eq_true (by omega)
        have hq3 : 0 < i := by omega
        have hq4 : (0 : Int) ≤ (i : Int) - 1 := by omega
        have hq5 : (i : Int) - 1 < (n : Int) := by omega
        have hq6 : ((i : Int) - 1).toNat = i - 1 := by omega
        have hq10 : ¬ ((i : Int) < 1) := by omega
        have hq11 : IntKind.i64.wrap ((i : Int) - 1) = (i : Int) - 1 := by rw [IntKind.wrap_i64]; omega
        have hq7 : decide (t ≥ 0) = false := decide_eq_false (by omega)
        have hq8 : decide (0 ≤ t) = false := decide_eq_false (by omega)
        have hq9 : ¬ 0 ≤ t := by omega
        have HS := Lib.hid (hss wb.drew ((Below.refl _ wb).drew)); have HSs := Lib.hid hss; have HNm := Lib.hid hnm; have HAw := Lib.hid haw; have HCn := Lib.hid hcn; have HCm := Lib.hid hcm; have HB0 := Lib.hid ((Below.refl wb.heap.size wb).drew)
        clear hss hnm haw hcn hcm hsp hsn hsc hev2 hbo hlb hgc hwb hxN hyL hya hyx hx100 hrx hry hix hc hps hcp hlp hlpb hpN hp100 hrp ht e1 hcpl hcpb hcpl2
        refine wp_region_noPanic ?_
        refine wp_region_held_drew (S := fun W' => W'.cell? ⟨gc, 0, none⟩ = some (.slice Ax xs.length cx) ∧ W'.cell? ⟨pn, 1, none⟩ = some (.slice (some ⟨b, off, none⟩) n cn) ∧ W'.cell? ⟨p, 1, none⟩ = some (.slice A m c) ∧ W'.cell? ⟨b, off + (i - 1), none⟩ = some (.slice Ap ps.length cp)) (by kernel_rfl) HS.out (fun _ => ?_)
        refine wpAnyH_take (i := 0) (v := .slice Ax xs.length cx) rfl (by kernel_rfl) (by kernel_rfl) (by kernel_rfl) (fun _ _ _ h => h) (Or.inl ⟨by kernel_rfl, fun w hS => by obtain ⟨s1, s2, s3, s4⟩ := hS; go_simp⟩) HS.out ?_
        refine wpAnyH_ready (rs := [1]) (by kernel_rfl) (by simp) (AllReadyH.cons rfl (fun K hK => ?_) AllReadyH.nil)
        go_simp
        refine (HNm.out _ HB0.out).mono ?_
        rintro r v1 ⟨rfl, hbx⟩
        have HB1 := Lib.hid hbx; have HS1 := Lib.hid (HSs.out _ hbx)
        clear hbx
        go_simp
        refine hK.out _ _ HS1.out (fun _ => ?_)
        clear hK K
        refine wpAnyH_take (i := 2) (v := .bool false) rfl (by kernel_rfl) (by kernel_rfl) (by kernel_rfl) (fun _ _ _ h => h) (Or.inl ⟨by kernel_rfl, fun w hS => by obtain ⟨s1, s2, s3, s4⟩ := hS; go_simp⟩) HS1.out ?_
        refine wpAnyH_take (i := 3) (v := .bool false) rfl (by kernel_rfl) (by kernel_rfl) (by kernel_rfl) (fun _ _ _ h => h) (Or.inl ⟨by kernel_rfl, fun w hS => by obtain ⟨s1, s2, s3, s4⟩ := hS; go_simp⟩) HS1.out ?_
        refine wpAnyH_take (i := 4) (v := .slice Ax xs.length cx) rfl (by kernel_rfl) (by kernel_rfl) (by kernel_rfl) (fun _ _ _ h => h) (Or.inl ⟨by kernel_rfl, fun w hS => by obtain ⟨s1, s2, s3, s4⟩ := hS; go_simp⟩) HS1.out ?_
        refine wpAnyH_ready (rs := [5]) (by kernel_rfl) (by simp) (AllReadyH.cons rfl (fun K hK => ?_) AllReadyH.nil)
        go_simp
        refine (HAw.out _ HB1.out).mono ?_
        rintro r v2 ⟨rfl, hbx⟩
        have HB2 := Lib.hid hbx; have HS2 := Lib.hid (HSs.out _ hbx)
        clear hbx
        go_simp
        refine hK.out _ _ HS2.out (fun _ => ?_)
        clear hK K
        refine wpAnyH_take (i := 6) (v := .bool false) rfl (by kernel_rfl) (by kernel_rfl) (by kernel_rfl) (fun _ _ _ h => h) (Or.inl ⟨by kernel_rfl, fun w hS => by obtain ⟨s1, s2, s3, s4⟩ := hS; go_simp⟩) HS2.out ?_
        refine wpAnyH_take (i := 7) (v := .bool false) rfl (by kernel_rfl) (by kernel_rfl) (by kernel_rfl) (fun _ _ _ h => h) (Or.inl ⟨by kernel_rfl, fun w hS => by obtain ⟨s1, s2, s3, s4⟩ := hS; go_simp⟩) HS2.out ?_
        refine wpAnyH_take (i := 8) (v := .int .i64 (i : Nat)) rfl (by kernel_rfl) (by kernel_rfl) (by kernel_rfl) (fun _ _ _ h => h) (Or.inl ⟨by kernel_rfl, fun w hS => by obtain ⟨s1, s2, s3, s4⟩ := hS; go_simp⟩) HS2.out ?_
        refine wpAnyH_take (i := 9) (v := .bool true) rfl (by kernel_rfl) (by kernel_rfl) (by kernel_rfl) (fun _ _ _ h => h) (Or.inl ⟨by kernel_rfl, fun w hS => by obtain ⟨s1, s2, s3, s4⟩ := hS; go_simp⟩) HS2.out ?_
        refine wpAnyH_take (i := 10) (v := .bool true) rfl (by kernel_rfl) (by kernel_rfl) (by kernel_rfl) (fun _ _ _ h => h) (Or.inl ⟨by kernel_rfl, fun w hS => by obtain ⟨s1, s2, s3, s4⟩ := hS; go_simp⟩) HS2.out ?_
        refine wpAnyH_take (i := 11) (v := .pointer (some ⟨pn, 1, none⟩)) rfl (by kernel_rfl) (by kernel_rfl) (by kernel_rfl) (fun _ _ _ h => h) (Or.inl ⟨by kernel_rfl, fun w hS => by obtain ⟨s1, s2, s3, s4⟩ := hS; go_simp⟩) HS2.out ?_
        refine wpAnyH_take (i := 12) (v := .slice (some ⟨b, off, none⟩) n cn) rfl (by kernel_rfl) (by kernel_rfl) (by kernel_rfl) (fun _ _ _ h => h) (Or.inl ⟨by kernel_rfl, fun w hS => by obtain ⟨s1, s2, s3, s4⟩ := hS; go_simp⟩) HS2.out ?_
        refine wpAnyH_take (i := 13) (v := .int .i64 (i : Nat)) rfl (by kernel_rfl) (by kernel_rfl) (by kernel_rfl) (fun _ _ _ h => h) (Or.inl ⟨by kernel_rfl, fun w hS => by obtain ⟨s1, s2, s3, s4⟩ := hS; go_simp⟩) HS2.out ?_
        refine wpAnyH_take (i := 14) (v := .int .i64 ((i : Int) - 1)) rfl (by kernel_rfl) (by kernel_rfl) (by kernel_rfl) (fun _ _ _ h => h) (Or.inl ⟨by kernel_rfl, fun w hS => by obtain ⟨s1, s2, s3, s4⟩ := hS; go_simp⟩) HS2.out ?_
        refine wpAnyH_take (i := 15) (v := .pointer (some ⟨b, off + (i - 1), none⟩)) rfl (by kernel_rfl) (by kernel_rfl) (by kernel_rfl) (fun _ _ _ h => h) (Or.inl ⟨by kernel_rfl, fun w hS => by obtain ⟨s1, s2, s3, s4⟩ := hS; go_simp⟩) HS2.out ?_
        refine wpAnyH_take (i := 16) (v := .slice Ap ps.length cp) rfl (by kernel_rfl) (by kernel_rfl) (by kernel_rfl) (fun _ _ _ h => h) (Or.inl ⟨by kernel_rfl, fun w hS => by obtain ⟨s1, s2, s3, s4⟩ := hS; go_simp⟩) HS2.out ?_
        refine wpAnyH_take (i := 17) (v := .slice Ax xs.length cx) rfl (by kernel_rfl) (by kernel_rfl) (by kernel_rfl) (fun _ _ _ h => h) (Or.inl ⟨by kernel_rfl, fun w hS => by obtain ⟨s1, s2, s3, s4⟩ := hS; go_simp⟩) HS2.out ?_
        refine wpAnyH_ready (rs := [18]) (by kernel_rfl) (by simp) (AllReadyH.cons rfl (fun K hK => ?_) AllReadyH.nil)
        go_simp
        refine (HCm.out _ HB2.out).mono ?_
        rintro r v3 ⟨rfl, hbx⟩
        have HB3 := Lib.hid hbx; have HS3 := Lib.hid (HSs.out _ hbx)
        clear hbx
        go_simp
        refine hK.out _ _ HS3.out (fun _ => ?_)
        clear hK K
        refine wpAnyH_take (i := 19) (v := .bool false) rfl (by kernel_rfl) (by kernel_rfl) (by kernel_rfl) (fun _ _ _ h => h) (Or.inl ⟨by kernel_rfl, fun w hS => by obtain ⟨s1, s2, s3, s4⟩ := hS; go_simp⟩) HS3.out ?_
        refine wpAnyH_take (i := 20) (v := .bool false) rfl (by kernel_rfl) (by kernel_rfl) (by kernel_rfl) (fun _ _ _ h => h) (Or.inl ⟨by kernel_rfl, fun w hS => by obtain ⟨s1, s2, s3, s4⟩ := hS; go_simp⟩) HS3.out ?_
        refine wpAnyH_take (i := 21) (v := .bool false) rfl (by kernel_rfl) (by kernel_rfl) (by kernel_rfl) (fun _ _ _ h => h) (Or.inl ⟨by kernel_rfl, fun w hS => by obtain ⟨s1, s2, s3, s4⟩ := hS; go_simp⟩) HS3.out ?_
        refine wpAnyH_take (i := 22) (v := .bool false) rfl (by kernel_rfl) (by kernel_rfl) (by kernel_rfl) (fun _ _ _ h => h) (Or.inl ⟨by kernel_rfl, fun w hS => by obtain ⟨s1, s2, s3, s4⟩ := hS; go_simp⟩) HS3.out ?_
        refine wpAnyH_take (i := 23) (v := .pointer (some ⟨p, 1, none⟩)) rfl (by kernel_rfl) (by kernel_rfl) (by kernel_rfl) (fun _ _ _ h => h) (Or.inl ⟨by kernel_rfl, fun w hS => by obtain ⟨s1, s2, s3, s4⟩ := hS; go_simp⟩) HS3.out ?_
        refine wpAnyH_take (i := 24) (v := .slice A m c) rfl (by kernel_rfl) (by kernel_rfl) (by kernel_rfl) (fun _ _ _ h => h) (Or.inl ⟨by kernel_rfl, fun w hS => by obtain ⟨s1, s2, s3, s4⟩ := hS; go_simp⟩) HS3.out ?_
        refine wpAnyH_take (i := 25) (v := .func (.func 35) #[] #[.pointer (some ⟨gc, 0, none⟩)]) rfl (by kernel_rfl) (by kernel_rfl) (by kernel_rfl) (fun _ _ _ h => h) (Or.inl ⟨by kernel_rfl, fun w hS => by obtain ⟨s1, s2, s3, s4⟩ := hS; go_simp⟩) HS3.out ?_
        refine wpAnyH_ready (rs := [26]) (by kernel_rfl) (by simp) (AllReadyH.cons rfl (fun K hK => ?_) AllReadyH.nil)
        go_simp
        refine (HCn.out _ HB3.out).mono ?_
        rintro r v4 ⟨rfl, hbx⟩
        have HB4 := Lib.hid hbx; have HS4 := Lib.hid (HSs.out _ hbx)
        clear hbx
        go_simp
        refine hK.out _ _ HS4.out (fun _ => ?_)
        clear hK K
        refine wpAnyH_take (i := 27) (v := .bool false) rfl (by kernel_rfl) (by kernel_rfl) (by kernel_rfl) (fun _ _ _ h => h) (Or.inl ⟨by kernel_rfl, fun w hS => by obtain ⟨s1, s2, s3, s4⟩ := hS; go_simp⟩) HS4.out ?_
        refine wpAnyH_take (i := 28) (v := .bool false) rfl (by kernel_rfl) (by kernel_rfl) (by kernel_rfl) (fun _ _ _ h => h) (Or.inl ⟨by kernel_rfl, fun w hS => by obtain ⟨s1, s2, s3, s4⟩ := hS; go_simp⟩) HS4.out ?_
        refine wpAnyH_done (by kernel_rfl) ?_ _
        refine NoPanic.normal ?_
        go_simp
        have HFin := Lib.hid (HE.out.on (below_cat HBo.out HB4.out))
        go_wp2_with fail
        go_roundw
        case rel => exact ⟨i + 1, HLt.out, by go_num, HFin.out⟩
        case measure => simp [intOf]; have := HLt.out; omega
    · obtain rfl : i = n := by omega
      have hF := hev.s (g := p) (t := 24) (cs := #[.int .i64 8, .slice A m c]) (by simp)
      have c0 : wr.cell? ⟨p, 0, none⟩ = some (.int .i64 8) := hF.cell 0
      have c1 : wr.cell? ⟨p, 1, none⟩ = some (.slice A m c) := hF.cell 1
      have HE := Lib.hid hev
      clear hev H0 hF hlt
      have hkl := HKL.out.on HE.out.below
      have hkn := HKn.out.on HE.out.below
      have hwp := HE.out.s (g := p) (t := 24) (cs := #[.int .i64 8, .slice A m c]) (by simp)
      have hwn := HE.out.s (g := pn) (t := 24) (cs := #[.int .i64 8, .slice An i cn]) (by simp)
      have hplt := hwp.lt
      have HKn2 := Lib.hid hkn; have HWp := Lib.hid hwp; have HWn := Lib.hid hwn; have HKl2 := Lib.hid hkl; have HPlt := Lib.hid hplt
      have hwbr := below_cat HWb.out HE.out.below
      have HWbr := Lib.hid hwbr
      clear hkl hkn hwp hwn hplt hwbr hn30 HKL HKn HWb HE
      have hshape := HNone.out
      clear HNone
      rcases Nat.eq_zero_or_pos m with hm0 | hm0
      · subst hm0
        have hok2 : Ok8 ([] ++ ([] ++ [])) := ⟨by simp, fun zs hz => by simp at hz⟩
        have hnr : nrmF ([] ++ ([] ++ [])) = N := by rw [← HN.out, List.eq_nil_of_length_eq_zero HM.out]; rfl
        rcases hshape with ⟨rfl, -, rfl⟩ | ⟨g0, rfl⟩
        · have hcc := turn_any (B := wr.heap.size) (T := 22) (p := p) (s1 := .slice none 0 0) (s2 := .slice none 0 0) (u1 := []) (u2 := []) (M1 := []) (M2 := []) (.inl ⟨rfl, rfl⟩) (.inl ⟨rfl, rfl⟩) Pw.nil Pw.nil 0 rfl (by omega) HPlt.out ((below1a wr _).drew) (whole_drew (Whole.made wr _ _))
          clear HKl2
          have HCc := Lib.hid hcc; have HOk2 := Lib.hid hok2; have HNr := Lib.hid hnr
          clear hcc hok2 hnr
          go_upto_region 17 with fail
          go_region_law (first | (go_simp; go_at_call 19; (with_reducible refine HCc.out.mono ?_); rintro r w5 ⟨A5, c5, rfl, hk5, hb5⟩; have hw5 := HWp.out.same (hb5.block p HPlt.out); have g5 : w5.cell? ⟨p, 1, none⟩ = some (.slice none 0 0) := hw5.cell 1; have g0' : w5.cell? ⟨p, 0, none⟩ = some (.int .i64 8) := hw5.cell 0; have f5 : w5.frozen? ⟨p, 1, none⟩ = false := hw5.frozen 1; have HK5 := Lib.hid hk5; have HB5 := Lib.hid hb5; have HW5 := Lib.hid hw5; clear hk5 hb5 hw5))
          all_goals
            have hs6 := HW5.out.store 1 (.slice A5 0 c5)
            have hn6 : Whole (w5.setCell ⟨p, 1, none⟩ (.slice A5 0 c5)) pn _ _ := (HWn.out.same (HB5.out.block pn HWn.out.lt)).beside (by have := HPn.out; omega) _
            have hk6 := HK5.out.set 1 (.slice A5 0 c5)
            have hkn6 := (HKn2.out.on HB5.out).set 1 (.slice A5 0 c5)
            have hbw6 : Below w.heap.size w (w5.setCell ⟨p, 1, none⟩ (.slice A5 0 c5)) := (below_cat HWbr.out HB5.out).setCell (p := ⟨p, 1, none⟩) HPw.out _
            obtain ⟨w6, hw6⟩ : ∃ x, w5.setCell ⟨p, 1, none⟩ (.slice A5 0 c5) = x := ⟨_, rfl⟩
            rw [hw6] at hs6 hn6 hk6 hkn6 hbw6 ⊢
            have h6 : Ev w6 w6 [(.slice A5 0 c5, [] ++ ([] ++ [])), (.slice An i cn, N)] [] [] [(pn, 24, #[.int .i64 8, .slice An i cn])] [] := (((Ev.start w6).addF hkn6.rows).addF hk6.rows |>.addS hn6)
            have d0 : w6.cell? ⟨p, 0, none⟩ = some (.int .i64 8) := hs6.cell 0
            have d1 : w6.cell? ⟨p, 1, none⟩ = some (.slice A5 0 c5) := hs6.cell 1
            have hno := ev_norm (v := .slice A5 0 c5) (L := [] ++ ([] ++ [])) h6 (by simp) HOk2.out HNr.out i HNl.out
            have HNo := Lib.hid hno; have HBw6 := Lib.hid hbw6
            clear hno hs6 hn6 hk6 hkn6 hbw6 h6 HK5 HB5 HW5 g5 f5 g0' hw6
            go_wp2_with fail
            refine HNo.out.mono ?_
            rintro e w7 ⟨A7, c7, rfl, h7⟩
            have h8 := h7.box 24 #[.int .i64 8, .slice A7 i c7]
            obtain ⟨p7, hp7⟩ : ∃ x, w7.heap.size = x := ⟨_, rfl⟩
            obtain ⟨w8, hw8⟩ : ∃ x, w7.alloc (.cells #[.int .i64 8, .slice A7 i c7] 24) = x := ⟨_, rfl⟩
            rw [hw8, hp7] at h8
            have hF := h8.s (g := pn) (t := 24) (cs := #[.int .i64 8, .slice An i cn]) (by simp)
            have c0 : w8.cell? ⟨pn, 0, none⟩ = some (.int .i64 8) := hF.cell 0
            have c1 : w8.cell? ⟨pn, 1, none⟩ = some (.slice An i cn) := hF.cell 1
            have hG := h8.s (g := p7) (t := 24) (cs := #[.int .i64 8, .slice A7 i c7]) (by simp)
            have e0 : w8.cell? ⟨p7, 0, none⟩ = some (.int .i64 8) := hG.cell 0
            have e1 : w8.cell? ⟨p7, 1, none⟩ = some (.slice A7 i c7) := hG.cell 1
            have hsa := ev_same (v := .slice A7 i c7) (v' := .slice An i cn) (L := N) h8 (by simp) (by simp) HOkN.out
            have HSa := Lib.hid hsa
            clear hsa h8 hF hG h7 HNo d0 d1
            go_wp2_with fail
            refine HSa.out.mono ?_
            rintro e w9 ⟨rfl, h9⟩
            have HB9 := Lib.hid (below_cat HBw6.out h9.below)
            clear h9 HSa c0 c1 e0 e1 hw8 hp7
            go_wp2_with fail
            refine (awake_any w9).mono ?_
            rintro e w10 ⟨rfl, hb10⟩
            have HFin := Lib.hid (below_cat HB9.out hb10)
            clear hb10 HB9
            go_wp2_with fail
            go_ret
            exact ⟨rfl, HFin.out⟩
        · have hcc := turn_any (B := wr.heap.size) (T := 22) (p := p) (s1 := .slice (some ⟨g0, 0, none⟩) 0 c) (s2 := .slice (some ⟨g0, 0, none⟩) 0 c) (u1 := []) (u2 := []) (M1 := []) (M2 := []) (.inr ⟨g0, 0, c, rfl, fun j u h => by simp at h⟩) (.inr ⟨g0, 0, c, rfl, fun j u h => by simp at h⟩) Pw.nil Pw.nil 0 rfl (by omega) HPlt.out ((below1a wr _).drew) (whole_drew (Whole.made wr _ _))
          clear HKl2
          have HCc := Lib.hid hcc; have HOk2 := Lib.hid hok2; have HNr := Lib.hid hnr
          clear hcc hok2 hnr
          go_upto_region 17 with fail
          go_region_law (first | (go_simp; go_at_call 19; (with_reducible refine HCc.out.mono ?_); rintro r w5 ⟨A5, c5, rfl, hk5, hb5⟩; have hw5 := HWp.out.same (hb5.block p HPlt.out); have g5 : w5.cell? ⟨p, 1, none⟩ = some (.slice (some ⟨g0, 0, none⟩) 0 c) := hw5.cell 1; have g0' : w5.cell? ⟨p, 0, none⟩ = some (.int .i64 8) := hw5.cell 0; have f5 : w5.frozen? ⟨p, 1, none⟩ = false := hw5.frozen 1; have HK5 := Lib.hid hk5; have HB5 := Lib.hid hb5; have HW5 := Lib.hid hw5; clear hk5 hb5 hw5))
          all_goals
            have hs6 := HW5.out.store 1 (.slice A5 0 c5)
            have hn6 : Whole (w5.setCell ⟨p, 1, none⟩ (.slice A5 0 c5)) pn _ _ := (HWn.out.same (HB5.out.block pn HWn.out.lt)).beside (by have := HPn.out; omega) _
            have hk6 := HK5.out.set 1 (.slice A5 0 c5)
            have hkn6 := (HKn2.out.on HB5.out).set 1 (.slice A5 0 c5)
            have hbw6 : Below w.heap.size w (w5.setCell ⟨p, 1, none⟩ (.slice A5 0 c5)) := (below_cat HWbr.out HB5.out).setCell (p := ⟨p, 1, none⟩) HPw.out _
            obtain ⟨w6, hw6⟩ : ∃ x, w5.setCell ⟨p, 1, none⟩ (.slice A5 0 c5) = x := ⟨_, rfl⟩
            rw [hw6] at hs6 hn6 hk6 hkn6 hbw6 ⊢
            have h6 : Ev w6 w6 [(.slice A5 0 c5, [] ++ ([] ++ [])), (.slice An i cn, N)] [] [] [(pn, 24, #[.int .i64 8, .slice An i cn])] [] := (((Ev.start w6).addF hkn6.rows).addF hk6.rows |>.addS hn6)
            have d0 : w6.cell? ⟨p, 0, none⟩ = some (.int .i64 8) := hs6.cell 0
            have d1 : w6.cell? ⟨p, 1, none⟩ = some (.slice A5 0 c5) := hs6.cell 1
            have hno := ev_norm (v := .slice A5 0 c5) (L := [] ++ ([] ++ [])) h6 (by simp) HOk2.out HNr.out i HNl.out
            have HNo := Lib.hid hno; have HBw6 := Lib.hid hbw6
            clear hno hs6 hn6 hk6 hkn6 hbw6 h6 HK5 HB5 HW5 g5 f5 g0' hw6
            go_wp2_with fail
            refine HNo.out.mono ?_
            rintro e w7 ⟨A7, c7, rfl, h7⟩
            have h8 := h7.box 24 #[.int .i64 8, .slice A7 i c7]
            obtain ⟨p7, hp7⟩ : ∃ x, w7.heap.size = x := ⟨_, rfl⟩
            obtain ⟨w8, hw8⟩ : ∃ x, w7.alloc (.cells #[.int .i64 8, .slice A7 i c7] 24) = x := ⟨_, rfl⟩
            rw [hw8, hp7] at h8
            have hF := h8.s (g := pn) (t := 24) (cs := #[.int .i64 8, .slice An i cn]) (by simp)
            have c0 : w8.cell? ⟨pn, 0, none⟩ = some (.int .i64 8) := hF.cell 0
            have c1 : w8.cell? ⟨pn, 1, none⟩ = some (.slice An i cn) := hF.cell 1
            have hG := h8.s (g := p7) (t := 24) (cs := #[.int .i64 8, .slice A7 i c7]) (by simp)
            have e0 : w8.cell? ⟨p7, 0, none⟩ = some (.int .i64 8) := hG.cell 0
            have e1 : w8.cell? ⟨p7, 1, none⟩ = some (.slice A7 i c7) := hG.cell 1
            have hsa := ev_same (v := .slice A7 i c7) (v' := .slice An i cn) (L := N) h8 (by simp) (by simp) HOkN.out
            have HSa := Lib.hid hsa
            clear hsa h8 hF hG h7 HNo d0 d1
            go_wp2_with fail
            refine HSa.out.mono ?_
            rintro e w9 ⟨rfl, h9⟩
            have HB9 := Lib.hid (below_cat HBw6.out h9.below)
            clear h9 HSa c0 c1 e0 e1 hw8 hp7
            go_wp2_with fail
            refine (awake_any w9).mono ?_
            rintro e w10 ⟨rfl, hb10⟩
            have HFin := Lib.hid (below_cat HB9.out hb10)
            clear hb10 HB9
            go_wp2_with fail
            go_ret
            exact ⟨rfl, HFin.out⟩
      · obtain ⟨g0, rfl⟩ : ∃ g, A = some ⟨g, 0, none⟩ := by
          rcases hshape with ⟨-, h, -⟩ | h
          · omega
          · exact h
        obtain ⟨k, hk⟩ : ∃ k, TU % m = k := ⟨_, rfl⟩
        have hkm : k < m := by rw [← hk]; exact Nat.mod_lt _ hm0
        have hq : (TU : Int).tmod (m : Int) = (k : Int) := by rw [Int.tmod_eq_emod_of_nonneg (by omega), ← hk]; norm_cast
        have hnz : ¬ ((m : Int) = 0) := by omega
        have hmp : (0 : Int) < (m : Int) := by omega
        have hmp2 : decide ((m : Int) > 0) = true := decide_eq_true (by omega)
        have hmp3 : decide (0 < m) = true := decide_eq_true hm0
        have hkz : (k : Int) ≤ (m : Int) := by omega
        have hkc : (k : Int) ≤ (c : Int) := by omega
        have hmci : (m : Int) ≤ (c : Int) := by omega
        have hck : ¬ c = k := by omega
        obtain ⟨us, hpu, hcells⟩ := krows_vals HKl2.out HM.out
        have hus : us.length = m := by rw [hpu.1]; exact HM.out
        have hcc := turn_any (B := wr.heap.size) (T := 22) (p := p) (s1 := .slice (some ⟨g0, 0 + k, none⟩) (m - k) (c - k)) (s2 := .slice (some ⟨g0, 0, none⟩) k c) (vals_drop (k := k) hus hcells) (vals_take (k := k) hus (Nat.le_of_lt hkm) hcells) (hpu.drop k) (hpu.take k) (m + k) (by rw [List.length_drop, List.length_take, HM.out]; omega) (by omega) HPlt.out ((below1a wr _).drew) (whole_drew (Whole.made wr _ _))
        rw [Nat.zero_add] at hcc
        have hmem : ∀ z, z ∈ L.drop k ++ (L.take k ++ L.take k) ↔ z ∈ L := fun z => by
          have h1 : z ∈ L ↔ z ∈ L.take k ++ L.drop k := by rw [List.take_append_drop]
          rw [h1]
          simp only [List.mem_append]
          constructor
          · rintro (h | h | h) <;> simp [h]
          · rintro (h | h) <;> simp [h]
        have hok2 : Ok8 (L.drop k ++ (L.take k ++ L.take k)) := ⟨by have := HM.out; simp; omega, fun zs hz => HOk.out.cl zs ((hmem zs).1 hz)⟩
        have hnr : nrmF (L.drop k ++ (L.take k ++ L.take k)) = N := by rw [nrm_same hmem, HN.out]
        clear hk hpu hcells hus hmem hshape HKl2
        have HCc := Lib.hid hcc; have HOk2 := Lib.hid hok2; have HNr := Lib.hid hnr
        clear hcc hok2 hnr
        go_upto_region 17 with fail
        go_region_law (first | (go_simp; go_at_call 19; (with_reducible refine HCc.out.mono ?_); rintro r w5 ⟨A5, c5, rfl, hk5, hb5⟩; have hw5 := HWp.out.same (hb5.block p HPlt.out); have g5 : w5.cell? ⟨p, 1, none⟩ = some (.slice (some ⟨g0, 0, none⟩) m c) := hw5.cell 1; have g0' : w5.cell? ⟨p, 0, none⟩ = some (.int .i64 8) := hw5.cell 0; have f5 : w5.frozen? ⟨p, 1, none⟩ = false := hw5.frozen 1; have HK5 := Lib.hid hk5; have HB5 := Lib.hid hb5; have HW5 := Lib.hid hw5; clear hk5 hb5 hw5))
        all_goals
          have hs6 := HW5.out.store 1 (.slice A5 (m + k) c5)
          have hn6 : Whole (w5.setCell ⟨p, 1, none⟩ (.slice A5 (m + k) c5)) pn _ _ := (HWn.out.same (HB5.out.block pn HWn.out.lt)).beside (by have := HPn.out; omega) _
          have hk6 := HK5.out.set 1 (.slice A5 (m + k) c5)
          have hkn6 := (HKn2.out.on HB5.out).set 1 (.slice A5 (m + k) c5)
          have hbw6 : Below w.heap.size w (w5.setCell ⟨p, 1, none⟩ (.slice A5 (m + k) c5)) := (below_cat HWbr.out HB5.out).setCell (p := ⟨p, 1, none⟩) HPw.out _
          obtain ⟨w6, hw6⟩ : ∃ x, w5.setCell ⟨p, 1, none⟩ (.slice A5 (m + k) c5) = x := ⟨_, rfl⟩
          rw [hw6] at hs6 hn6 hk6 hkn6 hbw6 ⊢
          have h6 : Ev w6 w6 [(.slice A5 (m + k) c5, L.drop k ++ (L.take k ++ L.take k)), (.slice An i cn, N)] [] [] [(pn, 24, #[.int .i64 8, .slice An i cn])] [] := (((Ev.start w6).addF hkn6.rows).addF hk6.rows |>.addS hn6)
          have d0 : w6.cell? ⟨p, 0, none⟩ = some (.int .i64 8) := hs6.cell 0
          have d1 : w6.cell? ⟨p, 1, none⟩ = some (.slice A5 (m + k) c5) := hs6.cell 1
          have hno := ev_norm (v := .slice A5 (m + k) c5) (L := L.drop k ++ (L.take k ++ L.take k)) h6 (by simp) HOk2.out HNr.out i HNl.out
          have HNo := Lib.hid hno; have HBw6 := Lib.hid hbw6
          clear hno hs6 hn6 hk6 hkn6 hbw6 h6 HK5 HB5 HW5 g5 f5 g0' hw6
          go_wp2_with fail
          refine HNo.out.mono ?_
          rintro e w7 ⟨A7, c7, rfl, h7⟩
          have h8 := h7.box 24 #[.int .i64 8, .slice A7 i c7]
          obtain ⟨p7, hp7⟩ : ∃ x, w7.heap.size = x := ⟨_, rfl⟩
          obtain ⟨w8, hw8⟩ : ∃ x, w7.alloc (.cells #[.int .i64 8, .slice A7 i c7] 24) = x := ⟨_, rfl⟩
          rw [hw8, hp7] at h8
          have hF := h8.s (g := pn) (t := 24) (cs := #[.int .i64 8, .slice An i cn]) (by simp)
          have c0 : w8.cell? ⟨pn, 0, none⟩ = some (.int .i64 8) := hF.cell 0
          have c1 : w8.cell? ⟨pn, 1, none⟩ = some (.slice An i cn) := hF.cell 1
          have hG := h8.s (g := p7) (t := 24) (cs := #[.int .i64 8, .slice A7 i c7]) (by simp)
          have e0 : w8.cell? ⟨p7, 0, none⟩ = some (.int .i64 8) := hG.cell 0
          have e1 : w8.cell? ⟨p7, 1, none⟩ = some (.slice A7 i c7) := hG.cell 1
          have hsa := ev_same (v := .slice A7 i c7) (v' := .slice An i cn) (L := N) h8 (by simp) (by simp) HOkN.out
          have HSa := Lib.hid hsa
          clear hsa h8 hF hG h7 HNo d0 d1
          go_wp2_with fail
          refine HSa.out.mono ?_
          rintro e w9 ⟨rfl, h9⟩
          have HB9 := Lib.hid (below_cat HBw6.out h9.below)
          clear h9 HSa c0 c1 e0 e1 hw8 hp7
          go_wp2_with fail
          refine (awake_any w9).mono ?_
          rintro e w10 ⟨rfl, hb10⟩
          have HFin := Lib.hid (below_cat HB9.out hb10)
          clear hb10 HB9
          go_wp2_with fail
          go_ret
          exact ⟨rfl, HFin.out⟩
end Go.Proofs.YtfbmagmelebkbaaGreat.formulaNorm
