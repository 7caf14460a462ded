/- The law FormulaMore: its walk. -/
import Derived.Test.YtfbmagmelebkbaaGreatFoAwake
import Derived.Test.YtfbmagmelebkbaaGreatFoCopy
import Derived.Test.YtfbmagmelebkbaaGreatFoResolve
namespace Go.Proofs.YtfbmagmelebkbaaGreat.formulaMore
open Go.RowKit Go.ChangeAt Go.ChangeShapes Go.WideShapes Go.Shelf Go.Sort

theorem filter_at {α : Type} (p : α → Bool) : ∀ (l : List α) (j : Nat) (x : α), l[j]? = some x → p x = true → (l.filter p)[((l.take j).filter p).length]? = some x
  | [], _, _, h, _ => by simp at h
  | y :: l, 0, x, h, hp => by
    obtain rfl : y = x := by simpa using h
    simp [hp]
  | y :: l, j + 1, x, h, hp => by
    have ih := filter_at p l j x (by simpa using h) hp
    rw [List.take_succ_cons]
    cases hy : p y <;> simp [hy, ih]
theorem filter_step {α : Type} (p : α → Bool) {l : List α} {j : Nat} {x : α} (h : l[j]? = some x) : ((l.take (j + 1)).filter p).length = if p x then ((l.take j).filter p).length + 1 else ((l.take j).filter p).length := by
  rw [List.take_add_one, h, List.filter_append, List.length_append]
  cases hp : p x <;> simp [hp]
def M1Rel (V : World) (fs : List (Value × List (List Int))) (rs : List (Value × List (List Bool))) (ss : List (Nat × TypeId × Array Value)) (C : List Int) (Ms : List (List Bool)) (K : Nat) (k i : Value) (wr : World) : Prop := ∃ j : Nat, j ≤ K ∧ i = .int .i64 j ∧ k = .int .i64 (((Ms.take j).filter fun m => holdsM m C).length : Nat) ∧ Ev V wr fs [] rs ss []
theorem rowF_keeps {K : Nat → Prop} {W W' : World} {sv : Value} {xs : List Value} (h : RowF K W sv xs) (hk : Keeps K W W') : RowV W'.heap.size W' sv xs := by
  rcases h with e | ⟨b, off, cap, e, hl, hn, hc⟩
  · exact .inl e
  · have hb := hk.block b hl hn
    exact .inr ⟨b, off, cap, e, Nat.lt_of_lt_of_le hl hk.size, fun j hj => ⟨(World.cell?_of_block hb).trans (hc j hj).1, (World.frozen?_of_block hb).trans (hc j hj).2⟩⟩
theorem more_ne {w5 : World} {A B : Obj} {v : Value} {b0 gg : Nat} (h : ∀ b, v.ownBlock = some b → b0 ≤ b ∧ b < w5.heap.size) (hl : v.ownBlock = some gg ∨ gg = ((w5.alloc A).alloc B).heap.size) : gg ≠ w5.heap.size := by
  rcases hl with hl | hl
  · have := (h gg hl).2; omega
  · simp at hl; omega
theorem more_some {w5 : World} {v : Value} {b0 : Nat} (h : ∀ b, v.ownBlock = some b → b0 ≤ b ∧ b < w5.heap.size) : some w5.heap.size ≠ v.ownBlock := fun e => by have := (h _ e.symm).2; omega
/-- What lay below the law's start has not turned. -/
theorem more_below {w5 w6 w7 : World} {v : Value} {b0 : Nat} (hb : Below w5.heap.size w5 w6) (hg : w6.grownBy w7 v.ownBlock) (hw : b0 ≤ w5.heap.size) (h : ∀ b, v.ownBlock = some b → b0 ≤ b ∧ b < w5.heap.size) (u : Value) : Keeps (fun b => v.ownBlock = some b) w5 (w7.setCell ⟨w5.heap.size, 1, none⟩ u) ∧ Below b0 w5 (w7.setCell ⟨w5.heap.size, 1, none⟩ u) := by
  have hk : Keeps (fun b => v.ownBlock = some b) w5 (w7.setCell ⟨w5.heap.size, 1, none⟩ u) := ((Keeps.of_below (K := fun b => v.ownBlock = some b) hb).grown hg (fun r e => .inl e)).setCell (p := ⟨w5.heap.size, 1, none⟩) (.inr (Nat.le_refl _)) u
  exact ⟨hk, hk.below hw fun b hb => (h b hb).1⟩
def MoRel (V : World) (fs : List (Value × List (List Int))) (rs : List (Value × List (List Bool))) (ss : List (Nat × TypeId × Array Value)) (K : Nat) (i : Value) (wr : World) : Prop := ∃ j : Nat, j ≤ K ∧ i = .int .i64 j ∧ Ev V wr fs [] rs ss []
set_option maxRecDepth 100000 in
set_option maxHeartbeats 1000000 in
theorem clo_any {w W : World} {fs : List (Value × List (List Int))} {ms : List (Value × List Bool)} {rs : List (Value × List (List Bool))} {ss : List (Nat × TypeId × Array Value)} {ds : List Nat} {gr : Nat} {rv v : Value} {r : List Int} {x : List Bool} (h : Ev w W fs ms rs ss ds) (hg : (gr, 41, #[rv]) ∈ ss) (hr : Lits w.heap.size w rv r) (hf : Few8 r) (hv : Bools W.heap.size W v x) (hx : x.length = 8) :
    Calls Tryz.prog 41 #[v, .pointer (some ⟨gr, 0, none⟩)] W fun e w' => e = .returned (.bool (!holdsM x r)) ∧ Ev w w' fs ms rs ss ds := by
  have cm : W.cell? ⟨gr, 0, none⟩ = some rv := (h.s hg).cell 0
  have hrw : Lits W.heap.size W rv r := rowV_lits.1 ((RowV.below h.below (rowV_lits.2 hr)).more h.below.size)
  obtain ⟨Am, cam, rfl, -⟩ := ints_shape hr.ints
  obtain ⟨Av, cav, rfl, -⟩ := bools_shape hv
  have hho := ev_holds h hrw hv hf hx
  obtain ⟨t, ht⟩ : ∃ t, holdsM x r = t := ⟨_, rfl⟩
  rw [ht, hx] at hho
  rw [ht, hx]
  have HHo := Lib.hid hho
  clear hho h hg hr hv hrw ht hx hf
  cases t
  all_goals
    go_enter Tryz.func41, Tryz.ntmps41
    go_wp2_with fail
    refine HHo.out.mono ?_
    rintro e w1 ⟨rfl, h1⟩
    have H1 := Lib.hid h1
    clear h1
    go_wp2_with fail
    go_ret
    exact ⟨rfl, H1.out⟩
theorem ev_made_cap {w W : World} {v : Value} {fs : List (Value × List (List Int))} {ms : List (Value × List Bool)} {rs : List (Value × List (List Bool))} {ss : List (Nat × TypeId × Array Value)} {ds : List Nat} {zss : List (List Int)} (h : Ev w W fs ms rs ss ds) (hz : ∀ zs ∈ zss, zs.length ≤ maxLen ∧ ∀ x ∈ zs, (Lit.int .u8 x).wf = true) (hR : Rows2 .u8 w.heap.size w v zss) :
    Calls Tryz.prog 15 #[v] W fun e w' => ∃ A c, e = .returned (.agg #[.int .i64 8, .slice A (madeF zss).length c]) ∧ Ev w w' ((.slice A (madeF zss).length c, madeF zss) :: fs) ms rs ss ds ∧ (madeF zss).length ≤ c :=
  (foMade_any W (Nat.le_refl _) hz (rows2_more h.below.size (hR.below h.below))).mono fun e w' ⟨v', he, ho, hB⟩ => by
    obtain ⟨svs, hrow, -⟩ := id ho
    obtain ⟨A, c, rfl⟩ := ho.len
    rw [cellsL_len] at he ho hrow
    refine ⟨A, c, he, (h.on hB).addF ho.rowsL, ?_⟩
    rcases hrow.2 with ⟨-, e⟩ | ⟨g, cap, cur, e, -, -, h1, -⟩
    · omega
    · injection e with e1 e2 e3
      omega
set_option maxRecDepth 100000 in
set_option maxHeartbeats 4000000 in
theorem formulaMore_walk (v : Value) (zss : List (List Int)) (_hl : zss.length ≤ maxLen) (hz : ∀ zs ∈ zss, zs.length ≤ maxLen ∧ ∀ x ∈ zs, (Lit.int .u8 x).wf = true) (cv : Value) (cs : List Int) (hcl : cs.length ≤ maxLen) (hcw : ∀ x ∈ cs, (Lit.int .u8 x).wf = true) (hcf : Fits cv) (which : Int) (hw : (Lit.int .u8 which).wf = true) (w : World) (hR : Rows2 .u8 w.heap.size w v zss) (hC : IntsK .u8 w.heap.size w cv cs) :
    Calls Tryz.prog 7 #[v, cv, .int .u8 which] w fun e w' => e = .returned (.bool true) ∧ Below w.heap.size w w' := by
  obtain ⟨WH, rfl⟩ : ∃ x : Nat, which = (x : Int) := ⟨which.toNat, by have := u8_wf hw; omega⟩
  have hWH : WH ≤ 255 := by have := u8_wf hw; omega
  have HZ := Lib.hid hz; have HR := Lib.hid hR; have HC := Lib.hid hC; have HCw := Lib.hid hcw; have HCf := Lib.hid hcf
  clear hz hR hC hcw hw hcf
  unfold maxLen at hcl
  go_enter Tryz.func7, Tryz.ntmps7
  go_wp2_with fail
  refine (ev_made_cap (Ev.start w) HZ.out HR.out).mono ?_
  rintro e w1 ⟨A, c, rfl, h1, hmc⟩
  have hk := ok_made zss
  have hcl8 : ∀ zs ∈ madeF zss, Cl8 zs := madeF_cl
  have hm30 := madeF_len zss
  obtain ⟨L, hL⟩ : ∃ x, madeF zss = x := ⟨_, rfl⟩
  obtain ⟨m, hm⟩ : ∃ x, L.length = x := ⟨_, rfl⟩
  obtain ⟨K, hK⟩ : ∃ x, (modelsB 8 L).length = x := ⟨_, rfl⟩
  have hK256 : K ≤ 256 := by have := models_count 8 L; omega
  rw [hL] at hk hm30 h1 hmc hcl8 ⊢
  rw [hm] at hm30 h1 hmc ⊢
  have hcz := madeL_cl cs
  have hmd := made_any w.heap.size cv cs (by omega) HCw.out HCf.out w1 h1.below.size (HC.out.below h1.below)
  obtain ⟨C, hCq⟩ : ∃ x, madeL cs = x := ⟨_, rfl⟩
  rw [hCq] at hcz hmd
  have HCl8 := Lib.hid hcl8; have HOk := Lib.hid hk; have HM := Lib.hid hm; have HKl := Lib.hid hK; have H1 := Lib.hid h1; have HMd := Lib.hid hmd; have HCz := Lib.hid hcz
  clear hcl8 hk hL hm hK h1 HZ HR hmd hCq hcz HC HCw HCf
  go_wp2_with fail
  refine HMd.out.mono ?_
  rintro e w2 ⟨vm, rfl, hrm, hbm⟩
  obtain ⟨Am, cm, rfl⟩ := own_shape0 hrm
  obtain ⟨M, hM⟩ : ∃ x, C.length = x := ⟨_, rfl⟩
  rw [hM] at hrm ⊢
  have hM20 : M ≤ 20 := by have := HCz.out.1; omega
  have H2 := Lib.hid (H1.out.on hbm); have HRm := Lib.hid hrm; have HMq := Lib.hid hM
  clear hrm hbm hM H1 HMd
  go_wp2_with fail
  have h3 := H2.out.box 24 #[.int .i64 8, .slice A m c]
  have hRm3 := owns_on0 HRm.out (below1a w2 (.cells #[.int .i64 8, .slice A m c] 24))
  obtain ⟨p, hp⟩ : ∃ x, w2.heap.size = x := ⟨_, rfl⟩
  obtain ⟨w3, hw3⟩ : ∃ x, w2.alloc (.cells #[.int .i64 8, .slice A m c] 24) = x := ⟨_, rfl⟩
  rw [hp, hw3] at h3
  rw [hw3] at hRm3
  rw [hp, hw3]
  have H3 := Lib.hid h3; have HRm3 := Lib.hid hRm3
  clear h3 hRm3 hp hw3 H2 HRm
  have hco := ev_collected H3.out (v := .slice A m c) (L := L) (by simp) HOk.out K HKl.out
  have hbc := callsIn_wide.1 (collected_in 8 (Nat.le_refl _) w3 (Nat.le_refl _) HOk.out.short (H3.out.f (v := .slice A m c) (L := L) (by simp)) HOk.out.chk2)
  refine hbc.mono ?_
  rintro e w4 ⟨va, rfl, hoa, hb4⟩
  obtain ⟨Aa, ca, hva⟩ := hoa.len
  rw [show (boolsL (modelsB 8 L)).length = K by unfold boolsL; rw [List.length_map, HKl.out]] at hva
  subst hva
  have h4 := (H3.out.on hb4).addR (v := .slice Aa K ca) (l := modelsB 8 L) hoa.rowsV
  have hRm4 := owns_on0 HRm3.out hb4
  have hF := h4.s (g := p) (t := 24) (cs := #[.int .i64 8, .slice A m c]) (by simp)
  have c0 : w4.cell? ⟨p, 0, none⟩ = some (.int .i64 8) := hF.cell 0
  have c1 : w4.cell? ⟨p, 1, none⟩ = some (.slice A m c) := hF.cell 1
  have hcp := copy_any (L := L) 8 w4 (Nat.le_refl _) (by have := HOk.out.len; omega) HOk.out.short (h4.f (v := .slice A m c) (L := L) (by simp))
  have H4 := Lib.hid h4; have HRm4 := Lib.hid hRm4; have HCp := Lib.hid hcp
  clear h4 hRm4 hcp hF hoa hb4 hbc hco H3 HRm3
  go_wp2_with fail
  refine HCp.out.mono ?_
  rintro e w5 ⟨v5, rfl, ho5, hb5⟩
  obtain ⟨A5, c5, hv5⟩ := ho5.len
  rw [cellsL_len, HM.out] at hv5
  subst hv5
  have HRm5 := Lib.hid (owns_on0 HRm4.out hb5); have HO5 := Lib.hid ho5; have HB5 := Lib.hid hb5
  clear ho5 hb5 HCp c0 c1
  obtain ⟨svs, hrow, hin⟩ := HO5.out
  rw [cellsL_len, HM.out] at hrow
  have b1 := below1a w5 (.cells #[.int .i64 8, .slice A5 m c5] 24)
  have b2 := below1a (w5.alloc (.cells #[.int .i64 8, .slice A5 m c5] 24)) (.cells #[.slice Am M cm] 41)
  have hb7 := below_cat b1 b2
  have nW := (Whole.made w5 24 #[.int .i64 8, .slice A5 m c5])
  have nW := nW.same (b2.block _ nW.lt)
  have hrF : RowF (fun i => (Value.slice A5 m c5).ownBlock = some i) w5 (.slice Am M cm) (C.map (Value.int .i64)) := rowF_row HRm5.out fun g hg h => by
    rcases rows_ne HRm5.out hrow (by decide) with e | e
    · rw [e] at hg; cases hg
    · exact e (hg.trans h.symm)
  have hapx := fun (gg cap : Nat) (w7 : World) (u : Value) (hg : ((w5.alloc (.cells #[.int .i64 8, .slice A5 m c5] 24)).alloc (.cells #[.slice Am M cm] 41)).grownBy w7 (Value.slice A5 m c5).ownBlock)
      (h7 : w7.ownsRow w4.heap.size 41 1 (.slice (some ⟨gg, 0, none⟩) (m + 1) cap) (m + 1) (svs ++ [.slice Am M cm])) (hgg : gg ≠ w5.heap.size) =>
    rows_app (u := u) 1 (v := .slice A5 m c5) (L := L) (by rw [cellsL_len, HM.out]; exact hrow) hin hrF (Nat.le_refl _) hb7 hg (by rw [HM.out]; exact h7) hgg
  rw [HM.out] at hapx
  have hlt5 : ∀ b, (Value.slice A5 m c5).ownBlock = some b → w4.heap.size ≤ b ∧ b < w5.heap.size := fun b e => hrow.lt b e
  have hws : w4.heap.size ≤ w5.heap.size := HB5.out.size
  have hnew := Whole.made (w5.alloc (.cells #[.int .i64 8, .slice A5 m c5] 24)) 41 #[.slice Am M cm]
  rw [World.size_alloc] at hnew
  obtain ⟨i0, hi, hz0, hz1, hz2⟩ := info_parts infoClause
  have HNew := Lib.hid hnew; have HrF := Lib.hid hrF; have HApx := Lib.hid hapx; have HRow := Lib.hid (owns_on0 hrow hb7); have HNW := Lib.hid nW; have HLt5 := Lib.hid hlt5; have HB7 := Lib.hid hb7
  clear hnew hapx hrow hin b1 b2 nW hrF hlt5 hb7 HO5
  go_wp2_with (at_builtin; go_loud (refine wpList_append_lies _ (by rfl) _ _ 22 (by rfl) w4.heap.size 41 i0 _ 1 24 Tryz.underlying22 hi hz0 hz1 hz2 (by rfl) (by decide) _ m svs (by rfl) HRow.out ⟨w5.heap.size + 1, 0, none⟩ 1 1 [.slice Am M cm] (by rfl) (by rfl) (World.news_of_block (cs := #[.slice Am M cm]) (t := 41) (fr := (0, 0)) HNew.out) (by simp [Value.oneCell']) (by decide) (by unfold maxLen; omega) (by omega) (by simp; omega) _ rfl ?_; intro gg cap7 w7 hown7 hg7 hloc hl7; have hgg := more_ne HLt5.out hloc; have hW7 := whole_grown hg7 (more_some HLt5.out) HNW.out; have d0 : w7.cell? ⟨w5.heap.size, 0, none⟩ = some (.int .i64 8) := hW7.cell 0; have d1 : w7.cell? ⟨w5.heap.size, 1, none⟩ = some (.slice A5 m c5) := hW7.cell 1; have f1 := hW7.frozen 1; have hRL := HApx.out gg cap7 w7 (.slice (some ⟨gg, 0, none⟩) (m + 1) cap7) hg7 hown7 hgg; have hbl := more_below HB7.out hg7 hws HLt5.out (.slice (some ⟨gg, 0, none⟩) (m + 1) cap7); have HRL := Lib.hid hRL; have HW7 := Lib.hid hW7; have HBl := Lib.hid hbl; clear hRL hW7 hbl hown7 hg7 hloc hl7))
  obtain ⟨V, hV⟩ : ∃ x, w7.setCell ⟨w5.heap.size, 1, none⟩ (.slice (some ⟨gg, 0, none⟩) (m + 1) cap7) = x := ⟨_, rfl⟩
  have hwV := HW7.out.store 1 (.slice (some ⟨gg, 0, none⟩) (m + 1) cap7)
  have hrV := HRL.out
  have hbV := HBl.out
  rw [hV] at hwV hrV hbV
  rw [hV]
  have hbV4 : Below w4.heap.size w4 V := HB5.out.trans hbV.2
  have hRmV : Lits V.heap.size V (.slice Am M cm) C := rowV_lits.1 (rowF_keeps HrF.out hbV.1)
  have hV8 := ((H4.out.on hbV4).addF hrV).addS hwV
  obtain ⟨pg, hpg⟩ : ∃ x, w5.heap.size = x := ⟨_, rfl⟩
  rw [hpg] at hV8 ⊢
  have HBV := Lib.hid hV8.below
  have hV9 : Ev V V _ _ _ _ _ := ⟨Below.refl _ _, hV8.fo, hV8.mo, hV8.ro, hV8.st, hV8.de⟩
  have HV := Lib.hid hV9; have HMo := Lib.hid hRmV
  clear hV hwV hrV hbV hbV4 hV8 hV9 hRmV hpg HrF HW7 HRL HBl H4 HRm4 HRm5 HApx HRow HNW HLt5 HB7 HNew HB5 d0 d1 f1 hi hz0 hz1 hz2 i0 hws
  have hokg : Ok8 (L ++ [C]) := ⟨by have := HOk.out.len; have := HM.out; simp; omega, fun zs hz => by
    rcases List.mem_append.1 hz with h | h
    · exact HOk.out.cl zs h
    · obtain rfl : zs = C := by simpa using h
      exact ⟨by have := HCz.out.1; omega, HCz.out.2⟩⟩
  have hsn := models_snoc 8 L C
  obtain ⟨K2, hK2⟩ : ∃ x, (modelsB 8 (L ++ [C])).length = x := ⟨_, rfl⟩
  have hF := HV.out.s (g := pg) (t := 24) (cs := #[.int .i64 8, .slice (some ⟨gg, 0, none⟩) (m + 1) cap7]) (by simp)
  have e0 : V.cell? ⟨pg, 0, none⟩ = some (.int .i64 8) := hF.cell 0
  have e1 : V.cell? ⟨pg, 1, none⟩ = some (.slice (some ⟨gg, 0, none⟩) (m + 1) cap7) := hF.cell 1
  have hco := ev_collected (v := .slice (some ⟨gg, 0, none⟩) (m + 1) cap7) (L := L ++ [C]) HV.out (by simp) hokg K2 hK2
  have HCo := Lib.hid hco; have HSn := Lib.hid hsn; have HK2 := Lib.hid hK2
  clear hokg hsn hK2 hF hco HV
  go_wp2_with fail
  refine HCo.out.mono ?_
  rintro e x1 ⟨Ab, cb, rfl, hev⟩
  have HEv := Lib.hid hev
  clear hev HCo e0 e1
  go_wp2_with fail
  go_loopw [14, 55] (fun k i wr => M1Rel V [(.slice (some ⟨gg, 0, none⟩) (m + 1) cap7, L ++ [C]), (.slice A m c, L)] [(.slice Ab K2 cb, modelsB 8 (L ++ [C])), (.slice Aa K ca, modelsB 8 L)] [(pg, 24, #[.int .i64 8, .slice (some ⟨gg, 0, none⟩) (m + 1) cap7]), (p, 24, #[.int .i64 8, .slice A m c])] C (modelsB 8 L) K k i wr) (fun _ i _ => K - (intOf i).toNat)
  case atStart => exact ⟨0, Nat.zero_le _, rfl, rfl, HEv.out⟩
  case round =>
    obtain ⟨j, hj, rfl, rfl, hev⟩ := hrel
    have hkle : (((modelsB 8 L).take j).filter fun m => holdsM m C).length ≤ 256 := by
      refine Nat.le_trans (List.length_filter_le _ _) ?_
      rw [List.length_take]; omega
    obtain ⟨kk, hkk⟩ : ∃ x, (((modelsB 8 L).take j).filter fun m => holdsM m C).length = x := ⟨_, rfl⟩
    rw [hkk] at hkle ⊢
    have HKk := Lib.hid hkk
    clear hkk
    by_cases hlt : j < K
    ·
      obtain ⟨x, hx⟩ : ∃ x, (modelsB 8 L)[j]? = some x := ⟨_, List.getElem?_eq_getElem (by have := HKl.out; omega)⟩
      have hx8 := models_len (List.mem_of_getElem? hx)
      obtain ⟨b, off, As, cs', e1, hc, hbl⟩ := ev_at (Aa := Aa) (K := K) (ca := ca) hev (by simp) hx
      subst e1
      have hmo := rowV_lits.1 ((RowV.below hev.below (rowV_lits.2 HMo.out)).more hev.below.size)
      have hst := filter_step (fun m => holdsM m C) hx
      rw [HKk.out] at hst
      have hho := ev_holds (hev.addM hbl) hmo hbl ⟨by have := HCz.out.1; omega, HCz.out.2⟩ hx8
      obtain ⟨hh, hhq⟩ : ∃ y, holdsM x C = y := ⟨_, rfl⟩
      have hji : (j : Int) < (K : Int) := by omega
      rw [hhq] at hho hst
      have HHo := Lib.hid hho; have HNx := Lib.hid hlt; have HX := Lib.hid hx; have HX8 := Lib.hid hx8; have HSt := Lib.hid hst; have HHh := Lib.hid hhq
      clear hho hx hx8 hlt hev hbl hmo hst hhq HEv
      cases hh
      · go_wp2_with fail
        refine HHo.out.mono ?_
        rintro e y1 ⟨rfl, hev⟩
        have HE := Lib.hid hev.dropM
        clear hev
        go_wp2_with fail
        go_roundw
        case rel => exact ⟨j + 1, HNx.out, by go_num, by rw [HSt.out]; rfl, HE.out⟩
        case measure => simp [intOf]; have := HNx.out; omega
      · have hat := filter_at (fun m => holdsM m C) _ j x HX.out HHh.out
        rw [← HSn.out, HKk.out] at hat
        have hkl := (List.getElem?_eq_some_iff.1 hat).1
        rw [HK2.out] at hkl
        have HAt := Lib.hid hat
        clear hat
        go_wp2_with fail
        refine HHo.out.mono ?_
        rintro e y1 ⟨rfl, hev⟩
        obtain ⟨b2, off2, As2, cs2, e2, hc2, hbl2⟩ := ev_at (Aa := Ab) (K := K2) (ca := cb) hev (by simp) HAt.out
        subst e2
        have heq := ev_equal hev hbl2 (hev.m (v := .slice As x.length cs') (m := x) (by simp)) (by have := HX8.out; omega) true (decide_eq_true rfl)
        have hg1 : decide ((kk : Int) ≥ (K2 : Int)) = false := decide_eq_false (by omega)
        have hg2 : decide (K2 ≤ kk) = false := decide_eq_false (by omega)
        have hg3 : ¬ K2 ≤ kk := by omega
        have hg4 : (kk : Int) < (K2 : Int) := by omega
        have HEq := Lib.hid heq
        clear heq hev hbl2 HAt
        go_wp2_with fail
        refine HEq.out.mono ?_
        rintro e y2 ⟨rfl, hev⟩
        have HE := Lib.hid hev.dropM
        clear hev
        go_wp2_with fail
        go_roundw
        case rel => exact ⟨j + 1, HNx.out, by go_num, by rw [HSt.out]; go_num, HE.out⟩
        case measure => simp [intOf]; have := HNx.out; omega
    · obtain rfl : j = K := by omega
      have hk2 : K2 = kk := by rw [← HKk.out, ← HK2.out, HSn.out, List.take_of_length_le (by have := HKl.out; omega)]
      subst hk2
      have hF := hev.s (g := p) (t := 24) (cs := #[.int .i64 8, .slice A m c]) (by simp)
      have c0 : wr.cell? ⟨p, 0, none⟩ = some (.int .i64 8) := hF.cell 0
      have c1 : wr.cell? ⟨p, 1, none⟩ = some (.slice A m c) := hF.cell 1
      have HE := Lib.hid hev
      clear hev HEv hF
      go_wp2_with fail
      clear c0 c1
      go_loopw [85] (fun i wr => MoRel V [(.slice (some ⟨gg, 0, none⟩) (m + 1) cap7, L ++ [C]), (.slice A m c, L)] [(.slice Ab K2 cb, modelsB 8 (L ++ [C])), (.slice Aa j ca, modelsB 8 L)] [(pg, 24, #[.int .i64 8, .slice (some ⟨gg, 0, none⟩) (m + 1) cap7]), (p, 24, #[.int .i64 8, .slice A m c])] m i wr) (fun i _ => m - (intOf i).toNat)
      case atStart => exact ⟨0, Nat.zero_le _, rfl, HE.out⟩
      case round =>
        obtain ⟨i1, hi1, rfl, hev⟩ := hrel
        by_cases hlt : i1 < m
        · obtain ⟨xs, hx⟩ : ∃ x, L[i1]? = some x := ⟨_, List.getElem?_eq_getElem (by have := HM.out; omega)⟩
          have hx8 : Cl8 xs := HCl8.out xs (List.mem_of_getElem? hx)
          obtain ⟨b, off, Ax, cx, e1, hc, hlx⟩ := ev_clause (A := A) (m := m) (c := c) hev (by simp) hx
          subst e1
          have hF := hev.s (g := p) (t := 24) (cs := #[.int .i64 8, .slice (some ⟨b, off, none⟩) m c]) (by simp)
          have c1 : wr.cell? ⟨p, 1, none⟩ = some (.slice (some ⟨b, off, none⟩) m c) := hF.cell 1
          have hji : (i1 : Int) < (m : Int) := by omega
          have hjc : (i1 : Int) ≤ (c : Int) := by omega
          have HE1 := Lib.hid hev; have HLt := Lib.hid hlt; have HX8 := Lib.hid hx8; have HLx := Lib.hid hlx; have HX := Lib.hid hx
          clear hev hlt hx8 hlx hx HE hF
          go_wp2_with fail
          clear c1
          go_loopw [95] (fun i wx => MoRel wr [(.slice (some ⟨gg, 0, none⟩) (m + 1) cap7, L ++ [C]), (.slice (some ⟨b, off, none⟩) m c, L)] [(.slice Ab K2 cb, modelsB 8 (L ++ [C])), (.slice Aa j ca, modelsB 8 L)] [(pg, 24, #[.int .i64 8, .slice (some ⟨gg, 0, none⟩) (m + 1) cap7]), (p, 24, #[.int .i64 8, .slice (some ⟨b, off, none⟩) m c])] i1 i wx) (fun i _ => i1 - (intOf i).toNat)
          case atStart => exact ⟨0, Nat.zero_le _, rfl, ⟨Below.refl _ _, HE1.out.fo, HE1.out.mo, HE1.out.ro, HE1.out.st, HE1.out.de⟩⟩
          case round =>
            obtain ⟨i2, hi2, rfl, hev⟩ := hrel
            by_cases hlt : i2 < i1
            · obtain ⟨ys, hy⟩ : ∃ x, L[i2]? = some x := ⟨_, List.getElem?_eq_getElem (by have := HM.out; have := HLt.out; omega)⟩
              have hy8 : Cl8 ys := HCl8.out ys (List.mem_of_getElem? hy)
              obtain ⟨b', off', Ay, cy, e1, hc, hly⟩ := ev_clause (A := some ⟨b, off, none⟩) (m := m) (c := c) hev (by simp) hy
              obtain ⟨rfl, rfl⟩ : b = b' ∧ off = off' := by cases e1; exact ⟨rfl, rfl⟩
              have hlx : Lits wr.heap.size wr (.slice Ax xs.length cx) xs := rowV_lits.1 ((RowV.below hev.below (rowV_lits.2 HLx.out)).more hev.below.size)
              have hcl := clashes_cl8 (.slice Ax xs.length cx) (.slice Ay ys.length cy) xs ys HX8.out hy8 wr hlx hly
              obtain ⟨CL, hCL⟩ : ∃ x, normL (xs.filter fun x => hasB ys (-x)) = x := ⟨_, rfl⟩
              have hmem : ∀ x ∈ CL, x ∈ xs ∧ -x ∈ ys := fun x h => clash_mem.1 (by rw [hCL]; exact h)
              rw [hCL] at hcl
              obtain ⟨n, hn⟩ : ∃ x, CL.length = x := ⟨_, rfl⟩
              have hn100 : n ≤ 100 := by
                have h1 := norm_length (xs.filter fun x => hasB ys (-x))
                have h2 := List.length_filter_le (fun x => hasB ys (-x)) xs
                have h3 := HX8.out.1
                rw [hCL] at h1
                omega
              have hji2 : (i2 : Int) < (i1 : Int) := by omega
              have hjm2 : (i2 : Int) < (m : Int) := by have := HLt.out; omega
              have hym : ys ∈ L := List.mem_of_getElem? hy
              have HYm := Lib.hid hym
              have HE2 := Lib.hid hev; have HNx := Lib.hid hlt; have HY8 := Lib.hid hy8; have HLy := Lib.hid hly; have HLx2 := Lib.hid hlx; have HCl := Lib.hid hcl; have HMem := Lib.hid hmem; have HN := Lib.hid hn
              clear e1 hev hlt hy8 hly hlx hcl hmem hn hCL hy hym
              go_wp2_with fail
              refine HCl.out.mono ?_
              rintro e y1 ⟨v1, rfl, hr1, hb1⟩
              obtain ⟨A1, c1, rfl⟩ := own_shape0 hr1
              rw [HN.out] at hr1 ⊢
              have hev1 := HE2.out.on hb1
              rcases Nat.eq_zero_or_pos n with hn0 | hn0
              · subst hn0
                have HE3 := Lib.hid hev1
                clear hr1 hb1 hev1 HCl
                go_wp2_with fail
                go_roundw
                case rel => exact ⟨i2 + 1, HNx.out, by go_num, HE3.out⟩
                case measure => simp [intOf]; have := HNx.out; omega
              · have hl1 : Lits y1.heap.size y1 (.slice A1 n c1) CL := rowV_lits.1 (rowV_own hr1)
                have hlx1 : Lits y1.heap.size y1 (.slice Ax xs.length cx) xs := rowV_lits.1 ((RowV.below hb1 (rowV_lits.2 HLx2.out)).more hb1.size)
                have hly1 : Lits y1.heap.size y1 (.slice Ay ys.length cy) ys := rowV_lits.1 ((RowV.below hb1 (rowV_lits.2 HLy.out)).more hb1.size)
                obtain ⟨k, hk⟩ : ∃ k, WH % n = k := ⟨_, rfl⟩
                have hkn : k < n := by rw [← hk]; exact Nat.mod_lt _ hn0
                have hq : (WH : Int).tmod (n : Int) = (k : Int) := by rw [Int.tmod_eq_emod_of_nonneg (by omega), ← hk]; norm_cast
                have hnz : ¬ ((n : Int) = 0) := by omega
                have hnz2 : ¬ n = 0 := by omega
                have hkz : (k : Int) < (n : Int) := by omega
                obtain ⟨l, hl⟩ : ∃ l, CL[k]? = some l := ⟨_, List.getElem?_eq_getElem (by have := HN.out; omega)⟩
                obtain ⟨A1', c1', e1, hcells⟩ := ints_shape hl1.ints
                obtain ⟨b1, off1, e2, -, hcell⟩ := hcells k (by have := HN.out; omega)
                rw [hl] at hcell
                have hcell : y1.cell? ⟨b1, off1 + k, none⟩ = some (.int .i64 l) := hcell
                obtain rfl : A1 = some ⟨b1, off1, none⟩ := by rw [← e2]; injection e1
                obtain ⟨hlxs, hlys⟩ := HMem.out l (List.mem_of_getElem? hl)
                have hl8 := HX8.out.2 l hlxs
                obtain ⟨hre, hrf, hrs⟩ := resolve_cl8 HX8.out HY8.out hlxs hlys
                have hres := clresolve_any y1.heap.size (.slice Ax xs.length cx) (.slice Ay ys.length cy) xs ys l (by have := HX8.out.1; omega) (by have := HY8.out.1; omega) y1 (Nat.le_refl _) hlx1 hly1
                rw [hre] at hres
                obtain ⟨R, hR⟩ : ∃ x, clResL xs ys l = x := ⟨_, rfl⟩
                rw [hR] at hres hrf hrs
                have hsat : ∀ x ∈ modelsB 8 L, holdsM x R = true := fun x hxm => by
                  obtain ⟨N, -, -, h⟩ := models_mem.1 hxm
                  exact hrs x (h xs (List.mem_of_getElem? HX.out)) (h ys HYm.out)
                have hl64 : -9223372036854775808 ≤ l ∧ l ≤ 9223372036854775807 := by omega
                have HE3 := Lib.hid hev1; have HRes := Lib.hid hres; have HRf := Lib.hid hrf; have HSat := Lib.hid hsat
                clear hr1 hb1 hev1 HCl hl1 hlx1 hly1 hk hl e1 hcells e2 hlxs hlys hl8 hre hrf hrs hres hR hsat hnz2
                go_wp2_with fail
                refine HRes.out.mono ?_
                rintro e y2 ⟨v2, rfl, hr2, hb2⟩
                obtain ⟨A2, c2, rfl⟩ := own_shape0 hr2
                have hl2 : Lits y2.heap.size y2 (.slice A2 R.length c2) R := rowV_lits.1 (rowV_own hr2)
                have hev2 := HE3.out.on hb2
                have HE4 := Lib.hid hev2; have HL2 := Lib.hid hl2
                clear hr2 hb2 hev2 hl2 HRes HE3
                go_wp2_with fail
                have hen : ∀ args w, (callFunc 41 args).run Tryz.prog w = .ok (.enter 41 args) w := enters_of Tryz.func41 (by kernel_rfl) rfl
                have hb4 := below1a y2 (.cells #[.slice A2 R.length c2] 41)
                have hev4 := HE4.out.box 41 #[.slice A2 R.length c2]
                have hev5 := HE4.out.on hb4
                have hl4 : Lits _ _ (.slice A2 R.length c2) R := rowV_lits.1 ((RowV.below hb4 (rowV_lits.2 HL2.out)).more hb4.size)
                obtain ⟨gr, hgr⟩ : ∃ x, y2.heap.size = x := ⟨_, rfl⟩
                obtain ⟨Wz, hWz⟩ : ∃ x, y2.alloc (.cells #[.slice A2 R.length c2] 41) = x := ⟨_, rfl⟩
                rw [hWz] at hev4 hev5 hl4 ⊢
                rw [hgr] at hev4 ⊢
                have hco := containsF_any 41 #[.pointer (some ⟨gr, 0, none⟩)] (fun x => !holdsM x R) (⟨Below.refl _ _, hev4.fo, hev4.mo, hev4.ro, hev4.st, hev4.de⟩ : Ev Wz Wz _ _ _ _ _) (A := Aa) (c := ca) (K := j) (l := modelsB 8 L) (by simp) HKl.out (by omega) hen
                  (fun W' v x hW hv hx => clo_any hW (gr := gr) (rv := .slice A2 R.length c2) (by simp) hl4 HRf.out hv (models_len hx))
                rw [show ((modelsB 8 L).any fun x => !holdsM x R) = false from List.any_eq_false.2 fun x hx => by rw [HSat.out x hx]; decide] at hco
                have HCo := Lib.hid hco; have HE5 := Lib.hid hev5
                clear hco hen hev4 hev5 hl4 hb4 hgr hWz HE4 HL2
                refine HCo.out.mono ?_
                rintro e y3 ⟨rfl, hev⟩
                have HE6 := Lib.hid (HE5.out.on hev.below)
                clear hev HCo HE5
                go_wp2_with fail
                go_roundw
                case rel => exact ⟨i2 + 1, HNx.out, by go_num, HE6.out⟩
                case measure => simp [intOf]; have := HNx.out; omega
            · obtain rfl : i2 = i1 := by omega
              have HE2 := Lib.hid (HE1.out.on hev.below)
              clear hev
              go_wp2_with fail
              go_roundw
              case rel => exact ⟨i2 + 1, HLt.out, by go_num, HE2.out⟩
              case measure => simp [intOf]; have := HLt.out; omega
        · obtain rfl : i1 = m := by omega
          have HE1 := Lib.hid hev
          clear hev HE
          go_wp2_with fail
          refine (awake_any wr).mono ?_
          rintro e w' ⟨rfl, hB⟩
          have HFin := Lib.hid (below_cat HBV.out (HE1.out.below.trans (hB.mono HE1.out.below.size)))
          clear hB HE1
          go_wp2_with fail
          go_ret
          exact ⟨rfl, HFin.out⟩
end Go.Proofs.YtfbmagmelebkbaaGreat.formulaMore
