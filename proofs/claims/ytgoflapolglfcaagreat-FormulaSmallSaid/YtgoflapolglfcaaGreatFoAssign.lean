/- formula.without. -/
/- formula.Assign. -/
import Derived.Test.YtgoflapolglfcaaGreatFoFails
import Derived.Test.YtgoflapolglfcaaGreatConv
import Derived.Test.YtgoflapolglfcaaGreatFoBits
import Derived.Test.YtgoflapolglfcaaGreatClConcat
import Derived.Test.YtgoflapolglfcaaGreatAppend2
import Derived.Test.YtgoflapolglfcaaGreatRoundRegion
import Derived.Laws.ResultCell
import Derived.Deep.AppendLies
import Derived.Deep.DeepCutAuto
import Derived.Test.YtgoflapolglfcaaGreatFoTriedAll
namespace Go.Proofs.YtgoflapolglfcaaGreat
open Go.ChangeShapes Go.WideShapes Go.ChangeAt Go.RowKit Go.Shelf Go.Sort

/-- A clause without a literal; the others stay as they are. -/
def dropL (l : Int) (zs : List Int) : List Int := zs.filter fun x => decide (x ≠ l)
theorem dropL_no {l x : Int} {zs : List Int} (h : x = l) : dropL l (zs ++ [x]) = dropL l zs := by
  unfold dropL
  rw [List.filter_append, List.filter_cons_of_neg (by simpa using h)]
  simp
theorem dropL_yes {l x : Int} {zs : List Int} (h : x ≠ l) : dropL l (zs ++ [x]) = dropL l zs ++ [x] := by
  unfold dropL
  rw [List.filter_append, List.filter_cons_of_pos (by simpa using h)]
  rfl
theorem dropL_len (l : Int) (zs : List Int) : (dropL l zs).length ≤ zs.length := List.length_filter_le _ _
def WoRel (e : TypeId) (w : World) (l : Int) (zs : List Int) (own i : Value) (wr : World) : Prop :=
  ∃ (k : Nat) (o : Value), o = own ∧ k ≤ zs.length ∧ i = .int .i64 k ∧ wr.ownsRow w.heap.size e 1 o (dropL l (zs.take k)).length ((dropL l (zs.take k)).map (Value.int .i64)) ∧ Below w.heap.size w wr
set_option maxRecDepth 100000 in
set_option maxHeartbeats 2000000 in
theorem without_any {B : Nat} {sv : Value} {zs : List Int} (l : Int) (hz : zs.length ≤ 1000000) (w : World) (hB : B ≤ w.heap.size) (hI : Ints B w sv zs) : Calls Tryz.prog 45 #[sv, .int .i64 l] w (GivesE 35 w (dropL l zs)) := by
  obtain ⟨i0, hi, hz0, hz1, hz2⟩ := info_parts infoLit
  obtain ⟨A, cap, rfl, hc⟩ := ints_shape hI
  have HC := Lib.hid hc; clear hc hI
  go_enter Tryz.func45, Tryz.ntmps45
  go_wp2_with fail
  go_loopw [5, 10] (fun own i wr => WoRel 35 w l zs own i wr) (fun _ i _ => zs.length - (intOf i).toNat)
  case atStart => exact ⟨0, _, rfl, by omega, rfl, World.ownsRow_nil _ _ _ _, Below.refl _ _⟩
  case round =>
    obtain ⟨k, own, rfl, hk, rfl, hrow, hbw⟩ := hrel
    by_cases hlt : k < zs.length
    · obtain ⟨b, off, rfl, hb, hck⟩ := HC.out k hlt
      have hck : wr.cell? ⟨b, off + k, none⟩ = some (.int .i64 (zs[k]?.getD 0)) := (hbw.cell (p := ⟨b, off + k, none⟩) (Nat.lt_of_lt_of_le hb hB)).trans hck
      have htk := take_one zs hlt
      obtain ⟨x, hx⟩ : ∃ x, zs[k]?.getD 0 = x := ⟨_, rfl⟩
      rw [hx] at hck htk
      clear hx
      have hdl := Nat.le_trans (dropL_len l (zs.take k)) (show (zs.take k).length ≤ 1000000 by simp; omega)
      obtain ⟨ys, hys⟩ : ∃ ys, dropL l (zs.take k) = ys := ⟨_, rfl⟩
      rw [hys] at hrow hdl
      have HR := Lib.hid hrow; have HT := Lib.hid htk; have HY := Lib.hid hys; clear hrow htk hys
      by_cases hxl : x = l
      · have hq : (x == l) = true := by rw [beq_iff_eq]; exact hxl
        have HX := Lib.hid hxl
        clear hxl
        go_wp2_with fail
        refine ⟨⟨k + 1, _, rfl, by omega, by go_num, ?_, hbw⟩, ?_⟩
        · rw [HT.out, dropL_no HX.out, HY.out]; exact HR.out
        · simp [intOf]; omega
      · have hq : (x == l) = false := by rw [beq_eq_false_iff_ne]; exact hxl
        have HX := Lib.hid (show x ≠ l from hxl)
        clear hxl
        go_wp2_with (at_builtin; refine wpList_append_own _ rfl _ _ 65 rfl w.heap.size 35 i0 (.int .i64 0) 1 8 Tryz.underlying65 hi hz0 hz1 hz2 rfl (by decide) _ _ _ rfl (HR.out.alloc _) ⟨wr.heap.size, 0, none⟩ 1 1 [.int .i64 x] rfl rfl (cell_one_new _ _ _) (by simp [Value.oneCell']) (by unfold maxLen; omega) (by omega) (by have := hbw.size; simp; omega) ?_; intro v' w2 hown' hgrow _)
        have hbn : Below w.heap.size w w2 := by
          refine (hbw.alloc hbw.size _).grown hgrow (by have := hbw.size; simp; omega) (fun k e => ?_)
          exact (HR.out.lt k e).1
        refine ⟨⟨k + 1, _, rfl, by omega, by go_num, ?_, hbn⟩, ?_⟩
        · rw [HT.out, dropL_yes HX.out, HY.out, List.map_append, List.length_append]; exact hown'
        · simp [intOf]; omega
    · obtain rfl : k = zs.length := by omega
      rw [List.take_length] at hrow
      have HR := Lib.hid hrow; clear hrow
      go_wp2_with fail
      go_ret
      exact ⟨own, rfl, HR.out, hbw⟩
end Go.Proofs.YtgoflapolglfcaaGreat
namespace Go.Proofs.YtgoflapolglfcaaGreat
open Go.ChangeShapes Go.WideShapes Go.ChangeAt Go.RowKit Go.Shelf Go.Sort

theorem infoClause : (Tryz.prog.info? 65).map (fun i => (i.zero, i.size, i.bytes)) = some (some (.slice none 0 0), 1, 24) := by kernel_rfl
/-- Lists of numbers as rows of cells. -/
def cellsL (L : List (List Int)) : List (List Value) := L.map fun zs => zs.map (Value.int .i64)
theorem cellsL_len (L : List (List Int)) : (cellsL L).length = L.length := by simp [cellsL]
theorem cellsL_one (L : List (List Int)) (zs : List Int) : cellsL (L ++ [zs]) = cellsL L ++ [zs.map (Value.int .i64)] := by simp [cellsL]
theorem cellsL_snoc (L : List (List Int)) (zs : List Int) : cellsL (L ++ [zs]) = cellsL L ++ [zs.map (Value.int .i64)] := by simp [cellsL]
/-- A slice of clauses of the call's own. -/
abbrev OwnL (B : Nat) (W : World) (v : Value) (L : List (List Int)) : Prop := OwnRows 65 B W v (cellsL L)
theorem OwnL.rowsL {B : Nat} {W : World} {v : Value} {L : List (List Int)} (h : OwnL B W v L) : RowsL W.heap.size W v L := OwnRows.rowsV h
theorem ownL_nil (B : Nat) (W : World) : OwnL B W (.slice none 0 0) [] := ownRows_nil _ _ _
theorem results_cell_row2 {P : Program} {fn : Func} {p u : Tmp} {ty : TypeId} (h : fn.results = #[.cell p ty, .tmp u]) (tmps : Array Value) (w : World) (g : Nat) (t : TypeId) (cs : Array Value) (fr : Nat × Nat) (d : TypeDesc)
    (hp : tmps.getD p undef = .pointer (some ⟨g, 0, none⟩)) (hg : w.heap[g]? = some (.cells cs t fr))
    (hu : P.underlying ty = some d) (hd : (match d with | .struct _ | .array _ _ => true | _ => false) = true) (hi : (P.info? ty).map (·.size) = some cs.size) :
    (results fn tmps).run P w = .ok (.tuple #[.agg cs, tmps.getD u undef]) w := by
  rw [results_cell_tmp h, hp]
  simp [asAddr, run_loadVar_row w g t ty cs fr d hg hu hd hi, Result.andThen]
/-- A formula that came in, and a cell for a result. -/
structure TwoAt (w w2 : World) (vars : Int) (v : Value) : Prop where
  below : Below w.heap.size w w2
  fo : FoAt w2 w.heap.size vars v
  res : Whole w2 (w.heap.size + 1) 27 #[.int .i64 0, .slice none 0 0]
theorem two_at (w : World) (vars : Int) (v : Value) : TwoAt w ((w.alloc (.cells #[.int .i64 vars, v] 27)).alloc (.cells #[.int .i64 0, .slice none 0 0] 27)) vars v := by
  have h := Whole.made (w.alloc (.cells #[.int .i64 vars, v] 27)) 27 #[.int .i64 0, .slice none 0 0]
  rw [World.size_alloc] at h
  exact ⟨(below1a w _).alloc (by simp) _, (fo_new w vars v 27).on (below1a _ _), h⟩
set_option maxRecDepth 100000 in
set_option maxHeartbeats 2000000 in
theorem assign_bad {C : Nat} {v : Value} {L : List (List Int)} (vars l : Int) (w : World) (hC : C ≤ w.heap.size) (hn : L.length ≤ 1000000000) (hz : ∀ zs ∈ L, zs.length ≤ 1000000) (hL : RowsL C w v L) (f : Int) (hf : (if (chkI vars L).2 = 0 then (if hasV vars l then 0 else 51) else (chkI vars L).2) = f) (h0 : f ≠ 0) :
    Calls Tryz.prog 18 #[.agg #[.int .i64 vars, v], .int .i64 l] w fun e w' => e = .returned (.tuple #[.agg #[.int .i64 0, .slice none 0 0], .int .i64 f]) ∧ Below w.heap.size w w' := by
  obtain ⟨A, cap, rfl, -⟩ := rowsL_shape hL
  have h2 := two_at w vars (.slice A L.length cap)
  obtain ⟨w2, hw2⟩ : ∃ y, (w.alloc (.cells #[.int .i64 vars, .slice A L.length cap] 27)).alloc (.cells #[.int .i64 0, .slice none 0 0] 27) = y := ⟨_, rfl⟩
  rw [hw2] at h2
  have c0 := h2.fo.1
  have c1 := h2.fo.2.1
  have hck := check_any vars w2 (Nat.le_trans hC h2.below.size) hn hz (hL.below (h2.below.mono hC))
  have hhas := fun W => hasv_any vars l W
  obtain ⟨x1, hx1⟩ : ∃ r, (chkI vars L).1 = r := ⟨_, rfl⟩
  obtain ⟨x2, hx2⟩ : ∃ r, (chkI vars L).2 = r := ⟨_, rfl⟩
  rw [hx1, hx2] at hck
  rw [hx2] at hf
  obtain ⟨hs, hhs⟩ : ∃ b, hasV vars l = b := ⟨_, rfl⟩
  rw [hhs] at hf hhas
  have HCk := Lib.hid hck; have H2 := Lib.hid h2; have HW := Lib.hid hw2; have HHas := Lib.hid hhas
  clear hck hx1 h2 hw2 hL hz hx2 hhas hhs
  by_cases hx : x2 = 0
  · subst hx
    rw [if_pos rfl] at hf
    cases hs
    · simp only [Bool.false_eq_true, if_false] at hf
      subst hf
      go_enter Tryz.func18, Tryz.ntmps18
      go_wp2_with fail
      rw [HW.out]
      go_wp2_with fail
      refine HCk.out.mono ?_
      rintro e w3 ⟨rfl, hb3⟩
      obtain ⟨c0, c1, -⟩ := H2.out.fo.on hb3
      have hr3 := H2.out.res.same (hb3.block _ H2.out.res.lt)
      have r0 : w3.cell? ⟨w.heap.size + 1, 0, none⟩ = some (.int .i64 0) := hr3.cell 0
      have r1 : w3.cell? ⟨w.heap.size + 1, 1, none⟩ = some (.slice none 0 0) := hr3.cell 1
      have f0 := hr3.frozen 0
      have f1 := hr3.frozen 1
      have HR3 := Lib.hid ((hr3.store 0 (.int .i64 0)).store 1 (.slice none 0 0)); have HB3 := Lib.hid (below_cat H2.out.below hb3)
      clear hb3 hr3
      go_wp2_with fail
      refine (HHas.out _).mono ?_
      rintro e w' ⟨rfl, rfl⟩
      go_wp2_with fail
      refine bodyPost_ret (results_cell_row2 rfl _ _ (w.heap.size + 1) 27 _ (0, 0) _ rfl HR3.out Tryz.underlying27 rfl (by kernel_rfl)) rfl ?_
      exact ⟨rfl, (HB3.out.setCell (p := ⟨w.heap.size + 1, 0, none⟩) (by simp) _).setCell (p := ⟨w.heap.size + 1, 1, none⟩) (by simp) _⟩
    · simp at hf
      exact absurd hf.symm h0
  · rw [if_neg hx] at hf
    subst hf
    have hq : (x2 == 0) = false := by rw [beq_eq_false_iff_ne]; exact hx
    go_enter Tryz.func18, Tryz.ntmps18
    go_wp2_with fail
    rw [HW.out]
    go_wp2_with fail
    refine HCk.out.mono ?_
    rintro e w3 ⟨rfl, hb3⟩
    have hr3 := H2.out.res.same (hb3.block _ H2.out.res.lt)
    have r0 : w3.cell? ⟨w.heap.size + 1, 0, none⟩ = some (.int .i64 0) := hr3.cell 0
    have r1 : w3.cell? ⟨w.heap.size + 1, 1, none⟩ = some (.slice none 0 0) := hr3.cell 1
    have f0 := hr3.frozen 0
    have f1 := hr3.frozen 1
    have HR3 := Lib.hid ((hr3.store 0 (.int .i64 0)).store 1 (.slice none 0 0)); have HB3 := Lib.hid (below_cat H2.out.below hb3)
    clear hb3 hr3
    go_wp2_with fail
    refine bodyPost_ret (results_cell_row2 rfl _ _ (w.heap.size + 1) 27 _ (0, 0) _ rfl HR3.out Tryz.underlying27 rfl (by kernel_rfl)) rfl ?_
    exact ⟨rfl, (HB3.out.setCell (p := ⟨w.heap.size + 1, 0, none⟩) (by simp) _).setCell (p := ⟨w.heap.size + 1, 1, none⟩) (by simp) _⟩
/-- Behind an append to the field of a struct. -/
theorem field_push {T e e' : TypeId} {g n gg cap m B5 : Nat} {x v sv : Value} {svs xs : List Value} {L : List (List Value)} {wa wr w5 w7 : World} (o : Obj) (hw : Whole wr g T #[x, v]) (hrow : wr.ownsRow (g + 1) e 1 v n svs) (hin : InRows (g + 1) wr v svs L) (hkp : Keeps (fun i => i = g) wa wr)
    (hb5 : Below wr.heap.size wr w5) (hr5 : w5.ownsRow B5 e' 1 sv m xs) (hB5 : wr.heap.size ≤ B5) (hg7 : (w5.alloc o).grownBy w7 v.ownBlock) (ho7 : w7.ownsRow (g + 1) e 1 (.slice (some ⟨gg, 0, none⟩) (n + 1) cap) (n + 1) (svs ++ [sv])) (hloc : v.ownBlock = some gg ∨ gg = (w5.alloc o).heap.size) (hw7 : Whole w7 g T #[x, v]) (hn : n = L.length) (hno : ∀ i, v.ownBlock = some i → i < wa.heap.size → False) :
    Whole (w7.setCell ⟨g, 1, none⟩ (.slice (some ⟨gg, 0, none⟩) (n + 1) cap)) g T #[x, .slice (some ⟨gg, 0, none⟩) (n + 1) cap] ∧ OwnRows e (g + 1) (w7.setCell ⟨g, 1, none⟩ (.slice (some ⟨gg, 0, none⟩) (n + 1) cap)) (.slice (some ⟨gg, 0, none⟩) (n + 1) cap) (L ++ [xs]) ∧
    Keeps (fun i => i = g) wa (w7.setCell ⟨g, 1, none⟩ (.slice (some ⟨gg, 0, none⟩) (n + 1) cap)) := by
  have hgl := hw.lt
  have hb6 : Below wr.heap.size wr (w5.alloc o) := hb5.alloc hb5.size o
  have hs : RowF (fun i => v.ownBlock = some i ∨ i < g + 1) w5 sv xs := rowF_own hr5 (fun i h => by
    rcases h with h | h
    · have := (hrow.lt i h).2; omega
    · omega)
  have hpush := inRows_push (v' := .slice (some ⟨gg, 0, none⟩) (n + 1) cap) hin hb6 (hs.on (below1a w5 o)) hg7 (by
    rcases hloc with h | h
    · exact .inl h.symm
    · exact .inr (by rw [← h]; rfl))
  have hk7 : Keeps (fun i => i = g) wa w7 → Keeps (fun i => i = g) wa (w7.setCell ⟨g, 1, none⟩ (.slice (some ⟨gg, 0, none⟩) (n + 1) cap)) := fun h => h.setCell (p := ⟨g, 1, none⟩) (.inl rfl) _
  refine ⟨hw7.store 1 _, ?_, ?_⟩
  · have ho : OwnRows e (g + 1) w7 (.slice (some ⟨gg, 0, none⟩) (n + 1) cap) (L ++ [xs]) := ⟨svs ++ [sv], by rw [List.length_append, List.length_singleton, ← hn]; exact ho7, hpush⟩
    exact ho.kept (K := fun i => i = g) ((Keeps.refl (fun i => i = g) w7).setCell (p := ⟨g, 1, none⟩) (.inl rfl) _) (fun i h => by omega)
  · refine hk7 ⟨hg7.os.trans (hb6.os.trans hkp.os), hg7.tape.trans (hb6.tape.trans hkp.tape), hg7.output.trans (hb6.output.trans hkp.output), Nat.le_trans hkp.size (Nat.le_trans hb6.size hg7.size), fun i hi hne => ?_⟩
    by_cases hv : v.ownBlock = some i
    · have := (hrow.lt i hv).1
      exact absurd hv fun hv => by
        exact hno i hv hi
    · exact (hg7.block i (Nat.lt_of_lt_of_le (Nat.lt_of_lt_of_le hi hkp.size) hb6.size) (fun e => hv e.symm)).trans ((hb6.block i (Nat.lt_of_lt_of_le hi hkp.size)).trans (hkp.block i hi hne))
def AsgRel (vars : Int) (l : Int) (L : List (List Int)) (w1 : World) (g : Nat) (i : Value) (wr : World) : Prop := ∃ (k : Nat) (v : Value), k ≤ L.length ∧ i = .int .i64 k ∧ Whole wr g 27 #[.int .i64 vars, v] ∧ OwnL (g + 1) wr v (asgL l (L.take k)) ∧ Keeps (fun i => i = g) w1 wr
set_option maxRecDepth 100000 in
set_option maxHeartbeats 2000000 in
theorem assign_ok {C : Nat} {v : Value} {L : List (List Int)} (vars l : Int) (w : World) (hC : C ≤ w.heap.size) (hz : ∀ zs ∈ L, zs.length ≤ 1000000) (hL : RowsL C w v L) (hok : (chkI vars L).2 = 0) (hl : hasV vars l = true) :
    Calls Tryz.prog 18 #[.agg #[.int .i64 vars, v], .int .i64 l] w fun e w' => ∃ v', e = .returned (.tuple #[.agg #[.int .i64 vars, v'], .int .i64 0]) ∧ OwnL w.heap.size w' v' (asgL l L) ∧ Below w.heap.size w w' := by
  obtain ⟨-, -, hln, hlit⟩ := chk_ok hok
  obtain ⟨A, cap, rfl, hat⟩ := rowsL_shape hL
  obtain ⟨i0, hi, hz0, hz1, hz2⟩ := info_parts infoClause
  have h2 := two_at w vars (.slice A L.length cap)
  obtain ⟨w2, hw2⟩ : ∃ y, (w.alloc (.cells #[.int .i64 vars, .slice A L.length cap] 27)).alloc (.cells #[.int .i64 0, .slice none 0 0] 27) = y := ⟨_, rfl⟩
  rw [hw2] at h2
  have c0 := h2.fo.1
  have c1 := h2.fo.2.1
  have hck := check_any vars w2 (Nat.le_trans hC h2.below.size) (by omega) hz (hL.below (h2.below.mono hC))
  have hhas := fun W => hasv_any vars l W
  obtain ⟨x1, hx1⟩ : ∃ r, (chkI vars L).1 = r := ⟨_, rfl⟩
  rw [hx1, hok] at hck
  rw [hl] at hhas
  have HCk := Lib.hid hck; have H2 := Lib.hid h2; have HW := Lib.hid hw2; have HHas := Lib.hid hhas; have HAt := Lib.hid hat; have HZ := Lib.hid hz
  clear hck hx1 h2 hw2 hL hz hhas hat hlit hok
  go_enter Tryz.func18, Tryz.ntmps18
  go_wp2_with fail
  rw [HW.out]
  go_wp2_with fail
  refine HCk.out.mono ?_
  rintro e w3 ⟨rfl, hb3⟩
  obtain ⟨c0, c1, -⟩ := H2.out.fo.on hb3
  have HF3 := Lib.hid (H2.out.fo.on hb3); have HR3 := Lib.hid (H2.out.res.same (hb3.block _ H2.out.res.lt)); have HB3 := Lib.hid (below_cat H2.out.below hb3)
  clear hb3
  go_wp2_with fail
  have h4 := Whole.made w3 27 #[.int .i64 vars, .slice none 0 0]
  have hb4 := below1a w3 (.cells #[.int .i64 vars, .slice none 0 0] 27)
  have hg4 : (w3.alloc (.cells #[.int .i64 vars, .slice none 0 0] 27)).heap.size = w3.heap.size + 1 := by simp
  have hf4 := HF3.out.on hb4
  have hr4 := HR3.out.same (hb4.block _ HR3.out.lt)
  have hB4 := below_cat HB3.out hb4
  have d0 := hf4.1
  have d1 := hf4.2.1
  have HF4 := Lib.hid hf4; have HR4 := Lib.hid hr4; have HB4 := Lib.hid hB4; have HL4 := Lib.hid h4; have HG4 := Lib.hid hg4
  have hgg : w.heap.size + 1 < w3.heap.size := HR3.out.lt
  clear h4 hb4 hg4 hf4 hr4 hB4
  refine (HHas.out _).mono ?_
  rintro e w' ⟨rfl, rfl⟩
  go_wp2_with fail
  clear d0 d1 c0 c1
  obtain ⟨w4, hw4⟩ : ∃ y, w3.alloc (.cells #[.int .i64 vars, .slice none 0 0] 27) = y := ⟨_, rfl⟩
  obtain ⟨g, hg⟩ : ∃ g, w3.heap.size = g := ⟨_, rfl⟩
  rw [hw4] at HF4 HR4 HB4 HL4 HG4 ⊢
  rw [hg] at HL4 HG4 hgg ⊢
  clear hw4 hg
  go_loopw [32] (fun i wr => AsgRel vars l L w4 g i wr) (fun i _ => L.length - (intOf i).toNat)
  case atStart => exact ⟨0, .slice none 0 0, Nat.zero_le _, rfl, HL4.out, ownL_nil _ _, Keeps.refl _ _⟩
  case round =>
    obtain ⟨k, v, hk, rfl, hwh, hown, hkp⟩ := hrel
    have hBr : Below w.heap.size w wr := HB4.out.trans (hkp.below (Nat.le_of_lt HF4.out.2.2) (fun i e => by omega))
    have hlw : g < wr.heap.size := hwh.lt
    have hf := HF4.out
    have hk4 : wr.heap[w.heap.size]? = w4.heap[w.heap.size]? := hkp.block w.heap.size hf.2.2 (fun e => by omega)
    have hr4 : wr.heap[w.heap.size + 1]? = w4.heap[w.heap.size + 1]? := hkp.block (w.heap.size + 1) HR4.out.lt (fun e => by omega)
    by_cases hlt : k < L.length
    · obtain ⟨zs, hx⟩ : ∃ zs, L[k]? = some zs := ⟨_, List.getElem?_eq_getElem hlt⟩
      obtain ⟨b, off, As, cs, rfl, hb, hc, hI⟩ := HAt.out k zs hx
      have hc := (hBr.cell (p := ⟨b, off + k, none⟩) (Nat.lt_of_lt_of_le hb hC)).trans hc
      have hzl := HZ.out zs (List.mem_of_getElem? hx)
      have htk := takeL_one L hx
      have hki : (k : Int) < (L.length : Int) := by omega
      have hct := fun W (hb : Below wr.heap.size wr W) => contains_lits (B := C) l W hzl (((hI.below (hBr.mono hC)).below (hb.mono (Nat.le_trans hC hBr.size))).ints)
      have hct := hct wr (Below.refl _ _)
      by_cases hin : l ∈ zs
      · have hcb : hasB zs l = true := decide_eq_true hin
        rw [hcb] at hct
        have HIn := Lib.hid hin; have HCt := Lib.hid hct; have HNx := Lib.hid hlt; have HTk := Lib.hid htk; have HWh := Lib.hid hwh; have HOwn := Lib.hid hown; have HKp := Lib.hid hkp
        clear hin hcb hct hx hb hI hzl htk hwh hown hkp hk4 hr4 hf hBr HAt HZ
        go_wp2_with fail
        refine HCt.out.mono ?_
        rintro e w' ⟨rfl, rfl⟩
        go_wp2_with fail
        go_roundw
        case rel => exact ⟨k + 1, v, HNx.out, by go_num, HWh.out, by rw [HTk.out, asgL_has HIn.out]; exact HOwn.out, HKp.out⟩
        case measure => simp [intOf]; omega
      · have hcb : hasB zs l = false := decide_eq_false hin
        rw [hcb] at hct
        obtain ⟨svs, hrow, hinr⟩ := hown
        obtain ⟨Av, cv, rfl⟩ := own_shape0 hrow
        have hneg := fun W => neg_any l W
        have hng : negI l = -l := by unfold negI; unfold hasV at hl; rw [Bool.and_eq_true] at hl; rw [hl.1]; rfl
        rw [hng] at hneg
        have hwo : ∀ W, Below wr.heap.size wr W → Calls Tryz.prog 45 #[.slice As zs.length cs, .int .i64 (-l)] W (GivesE 35 W (dropL (-l) zs)) := fun W hb => without_any (-l) hzl W (Nat.le_trans hC (Nat.le_trans hBr.size hb.size)) (((hI.below (hBr.mono hC)).below (hb.mono (Nat.le_trans hC hBr.size))).ints)
        have g1 : wr.cell? ⟨g, 1, none⟩ = some (.slice Av (cellsL (asgL l (L.take k))).length cv) := hwh.cell 1
        obtain ⟨n, hn⟩ : ∃ n, (cellsL (asgL l (L.take k))).length = n := ⟨_, rfl⟩
        have hnn : n ≤ 262144 := by
          rw [← hn, cellsL_len]
          unfold asgL
          rw [List.length_map]
          exact Nat.le_trans (List.length_filter_le _ _) (by simp; omega)
        have HNl := Lib.hid hn.symm
        rw [hn] at hrow hinr hwh g1
        obtain ⟨ys, hys⟩ : ∃ ys, dropL (-l) zs = ys := ⟨_, rfl⟩
        rw [hys] at hwo
        have hgo : ∀ b, (Value.slice Av n cv).ownBlock = some b → g + 1 ≤ b ∧ b < wr.heap.size := fun b hb => hrow.lt b hb
        have HIn := Lib.hid hin; have HCt := Lib.hid hct; have HNx := Lib.hid hlt; have HTk := Lib.hid htk; have HWh := Lib.hid hwh; have HRow := Lib.hid hrow; have HInr := Lib.hid hinr; have HKp := Lib.hid hkp; have HNeg := Lib.hid hneg; have HWo := Lib.hid hwo; have HYs := Lib.hid hys; have HGo := Lib.hid hgo
        clear hin hcb hct hx hb hI hzl htk hwh hrow hinr hkp hk4 hr4 hf hBr hneg hwo hys hng hgo HAt HZ hn
        go_wp2_with fail
        refine HCt.out.mono ?_
        rintro e w' ⟨rfl, rfl⟩
        go_upto_region 11 with fail
        go_region_law (first
            | (refine step_append_lies _ (by rfl) _ _ 25 (by rfl) (g + 1) 65 i0 _ 1 24 Tryz.underlying25 hi hz0 hz1 hz2 (by rfl) (by decide) _ n svs (by rfl) (by repeat (first | exact HS5.out | apply World.ownsRow.drew | apply World.ownsRow.alloc)) _ 1 1 [.slice A5 ys.length c5] (by rfl) (by rfl) (World.news_of_block (cs := #[.slice A5 ys.length c5]) (t := 65) (fr := (0, 0)) (heap_alloc_new _ _)) (by simp [Value.oneCell']) (by decide) (by unfold maxLen; omega) (by omega) (by simp; omega) _ rfl ?_; intro gg cap w7 hown7 hg7 hloc hl7; have hw7 : Whole w7 g 27 #[.int .i64 vars, .slice Av n cv] := whole_grown hg7 (fun e => by have := HGo.out g e.symm; omega) (by repeat (first | exact HW5.out | apply whole_drew | apply whole_alloc)); have g7 : w7.cell? ⟨g, 1, none⟩ = some (.slice Av n cv) := hw7.cell 1; have f7 : w7.frozen? ⟨g, 1, none⟩ = false := hw7.frozen 1; have HO7 := Lib.hid hown7; have HG7 := Lib.hid hg7; have HLoc := Lib.hid hloc; have HW7 := Lib.hid hw7; clear hown7 hg7 hloc hw7)
            | (go_simp; go_at_call 46; (with_reducible refine (HNeg.out _).mono ?_); rintro r wn ⟨rfl, rfl⟩)
            | (go_simp; go_at_call 45; (with_reducible refine (HWo.out _ (Below.refl _ _).drew).mono ?_); rintro r w5 ⟨v5, rfl, hr5, hb5⟩; obtain ⟨A5, c5, rfl⟩ := own_shape0 hr5; have hb5' : Below wr.heap.size wr w5 := (Below.refl _ _).drew.trans hb5; have hl5 : wr.heap.size ≤ w5.heap.size := hb5'.size; have g5 : w5.cell? ⟨g, 1, none⟩ = some (.slice Av n cv) := (hb5'.cell (p := ⟨g, 1, none⟩) hlw).trans g1; have HS5 := Lib.hid (owns_on0 HRow.out hb5'); have HR5 := Lib.hid hr5; have HB5 := Lib.hid hb5'; have HW5 := Lib.hid (HWh.out.same (hb5'.block g hlw)); have g6 : (w5.alloc (.cells #[.slice A5 ys.length c5] 65)).cell? ⟨g, 1, none⟩ = some (.slice Av n cv) := (whole_alloc HW5.out _).cell 1; clear hr5 hb5 hb5'))
        all_goals
          obtain ⟨p1, p2, p3⟩ := field_push _ HWh.out HRow.out HInr.out HKp.out HB5.out HR5.out (Nat.le_refl _) HG7.out HO7.out HLoc.out HW7.out HNl.out (fun i hv hi => by have := (HGo.out i hv).1; have := HG4.out; omega)
          rw [← HYs.out, ← cellsL_one] at p2
          have HP := Lib.hid (And.intro p1 (And.intro p2 p3))
          clear p1 p2 p3 HO7 HG7 HLoc HW7 HS5 HR5 HB5 HW5 g5 g6 g7 f7
          go_wp2_with fail
          go_roundw
          case rel => exact ⟨k + 1, _, HNx.out, by go_num, HP.out.1, by rw [HTk.out, asgL_hasnt HIn.out]; exact HP.out.2.1, HP.out.2.2⟩
          case measure => simp [intOf]; omega
    · obtain rfl : k = L.length := by omega
      rw [List.take_length] at hown
      have y0 : wr.cell? ⟨g, 0, none⟩ = some (.int .i64 vars) := hwh.cell 0
      have y1 : wr.cell? ⟨g, 1, none⟩ = some v := hwh.cell 1
      have hrr := HR4.out.same hr4
      have r0 : wr.cell? ⟨w.heap.size + 1, 0, none⟩ = some (.int .i64 0) := hrr.cell 0
      have r1 : wr.cell? ⟨w.heap.size + 1, 1, none⟩ = some (.slice none 0 0) := hrr.cell 1
      have f0 := hrr.frozen 0
      have f1 := hrr.frozen 1
      obtain ⟨Av, cv, rfl⟩ := hown.len
      have HRR := Lib.hid ((hrr.store 0 (.int .i64 vars)).store 1 (.slice Av (cellsL (asgL l L)).length cv)); have HOwn := Lib.hid hown; have HBr := Lib.hid hBr
      clear hrr hown hBr hwh hkp hk4 hr4 hf HAt HZ
      go_wp2_with fail
      refine bodyPost_ret (results_cell_row2 rfl _ _ (w.heap.size + 1) 27 _ (0, 0) _ rfl HRR.out Tryz.underlying27 rfl (by kernel_rfl)) rfl ?_
      refine ⟨_, rfl, ?_, (HBr.out.setCell (p := ⟨w.heap.size + 1, 0, none⟩) (by simp) _).setCell (p := ⟨w.heap.size + 1, 1, none⟩) (by simp) _⟩
      exact (HOwn.out.kept (K := fun i => i = w.heap.size + 1) (((Keeps.refl (fun i => i = w.heap.size + 1) wr).setCell (p := ⟨w.heap.size + 1, 0, none⟩) (.inl rfl) _).setCell (p := ⟨w.heap.size + 1, 1, none⟩) (.inl rfl) _) (fun i h => by omega)).less (by omega)
end Go.Proofs.YtgoflapolglfcaaGreat
