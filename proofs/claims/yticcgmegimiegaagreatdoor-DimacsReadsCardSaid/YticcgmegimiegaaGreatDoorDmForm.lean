/- Formulas in the seat of dimacs: salvorlaw05.Of, formula.Same, salvorlaw05.Made. -/
import Derived.Test.YticcgmegimiegaaGreatDoorFoFails
import Derived.Test.YticcgmegimiegaaGreatDoorMade02
import Derived.Test.YticcgmegimiegaaGreatDoorFoBits
import Derived.Test.YticcgmegimiegaaGreatDoorOwnRows
import Derived.Test.YticcgmegimiegaaGreatDoorAppend2
import Derived.Test.YticcgmegimiegaaGreatDoorSteady
import Derived.Test.YticcgmegimiegaaGreatDoorEqual
import Derived.Test.YticcgmegimiegaaGreatDoorRows2
import Derived.Laws.ResultCell
import Derived.Deep.AppendLies
import Derived.Deep.DeepCutAuto
import Derived.Laws.Rows
namespace Go.Proofs.YticcgmegimiegaaGreatDoor
open Go.RowKit Go.ChangeAt Go.ChangeShapes Go.WideShapes Go.Shelf Go.Sort

theorem infoClause : (Tryz.prog.info? 38).map (fun i => (i.zero, i.size, i.bytes)) = some (some (.slice none 0 0), 1, 24) := by kernel_rfl
def cellsL (L : List (List Int)) : List (List Value) := L.map fun zs => zs.map (Value.int .i64)
theorem cellsL_len (L : List (List Int)) : (cellsL L).length = L.length := by simp [cellsL]
theorem cellsL_one (L : List (List Int)) (zs : List Int) : cellsL (L ++ [zs]) = cellsL L ++ [zs.map (Value.int .i64)] := by simp [cellsL]
theorem cellsL_snoc (L : List (List Int)) (zs : List Int) : cellsL (L ++ [zs]) = cellsL L ++ [zs.map (Value.int .i64)] := by simp [cellsL]
abbrev OwnL (B : Nat) (W : World) (v : Value) (L : List (List Int)) : Prop := OwnRows 38 B W v (cellsL L)
theorem OwnL.rowsL {B : Nat} {W : World} {v : Value} {L : List (List Int)} (h : OwnL B W v L) : RowsL W.heap.size W v L := OwnRows.rowsV h
theorem ownL_nil (B : Nat) (W : World) : OwnL B W (.slice none 0 0) [] := ownRows_nil _ _ _
theorem results_cell_row2 {P : Program} {fn : Func} {p u : Tmp} {ty : TypeId} (h : fn.results = #[.cell p ty, .tmp u]) (tmps : Array Value) (w : World) (g : Nat) (t : TypeId) (cs : Array Value) (fr : Nat × Nat) (d : TypeDesc)
    (hp : tmps.getD p undef = .pointer (some ⟨g, 0, none⟩)) (hg : w.heap[g]? = some (.cells cs t fr))
    (hu : P.underlying ty = some d) (hd : (match d with | .struct _ | .array _ _ => true | _ => false) = true) (hi : (P.info? ty).map (·.size) = some cs.size) :
    (results fn tmps).run P w = .ok (.tuple #[.agg cs, tmps.getD u undef]) w := by
  rw [results_cell_tmp h, hp]
  simp [asAddr, run_loadVar_row w g t ty cs fr d hg hu hd hi, Result.andThen]
theorem field_push {T e e' : TypeId} {g n gg cap m B5 : Nat} {x v sv : Value} {svs xs : List Value} {L : List (List Value)} {wa wr w5 w7 : World} (o : Obj) (hw : Whole wr g T #[x, v]) (hrow : wr.ownsRow (g + 1) e 1 v n svs) (hin : InRows (g + 1) wr v svs L) (hkp : Keeps (fun i => i = g) wa wr)
    (hb5 : Below wr.heap.size wr w5) (hr5 : w5.ownsRow B5 e' 1 sv m xs) (hB5 : wr.heap.size ≤ B5) (hg7 : (w5.alloc o).grownBy w7 v.ownBlock) (ho7 : w7.ownsRow (g + 1) e 1 (.slice (some ⟨gg, 0, none⟩) (n + 1) cap) (n + 1) (svs ++ [sv])) (hloc : v.ownBlock = some gg ∨ gg = (w5.alloc o).heap.size) (hw7 : Whole w7 g T #[x, v]) (hn : n = L.length) (hno : ∀ i, v.ownBlock = some i → i < wa.heap.size → False) :
    Whole (w7.setCell ⟨g, 1, none⟩ (.slice (some ⟨gg, 0, none⟩) (n + 1) cap)) g T #[x, .slice (some ⟨gg, 0, none⟩) (n + 1) cap] ∧ OwnRows e (g + 1) (w7.setCell ⟨g, 1, none⟩ (.slice (some ⟨gg, 0, none⟩) (n + 1) cap)) (.slice (some ⟨gg, 0, none⟩) (n + 1) cap) (L ++ [xs]) ∧
    Keeps (fun i => i = g) wa (w7.setCell ⟨g, 1, none⟩ (.slice (some ⟨gg, 0, none⟩) (n + 1) cap)) := by
  have hgl := hw.lt
  have hb6 : Below wr.heap.size wr (w5.alloc o) := hb5.alloc hb5.size o
  have hs : RowF (fun i => v.ownBlock = some i ∨ i < g + 1) w5 sv xs := rowF_own hr5 (fun i h => by
    rcases h with h | h
    · have := (hrow.lt i h).2; omega
    · omega)
  have hpush := inRows_push (v' := .slice (some ⟨gg, 0, none⟩) (n + 1) cap) hin hb6 (hs.on (below1a w5 o)) hg7 (by
    rcases hloc with h | h
    · exact .inl h.symm
    · exact .inr (by rw [← h]; rfl))
  have hk7 : Keeps (fun i => i = g) wa w7 → Keeps (fun i => i = g) wa (w7.setCell ⟨g, 1, none⟩ (.slice (some ⟨gg, 0, none⟩) (n + 1) cap)) := fun h => h.setCell (p := ⟨g, 1, none⟩) (.inl rfl) _
  refine ⟨hw7.store 1 _, ?_, ?_⟩
  · have ho : OwnRows e (g + 1) w7 (.slice (some ⟨gg, 0, none⟩) (n + 1) cap) (L ++ [xs]) := ⟨svs ++ [sv], by rw [List.length_append, List.length_singleton, ← hn]; exact ho7, hpush⟩
    exact ho.kept (K := fun i => i = g) ((Keeps.refl (fun i => i = g) w7).setCell (p := ⟨g, 1, none⟩) (.inl rfl) _) (fun i h => by omega)
  · refine hk7 ⟨hg7.os.trans (hb6.os.trans hkp.os), hg7.tape.trans (hb6.tape.trans hkp.tape), hg7.output.trans (hb6.output.trans hkp.output), Nat.le_trans hkp.size (Nat.le_trans hb6.size hg7.size), fun i hi hne => ?_⟩
    by_cases hv : v.ownBlock = some i
    · have := (hrow.lt i hv).1
      exact absurd hv fun hv => by
        exact hno i hv hi
    · exact (hg7.block i (Nat.lt_of_lt_of_le (Nat.lt_of_lt_of_le hi hkp.size) hb6.size) (fun e => hv e.symm)).trans ((hb6.block i (Nat.lt_of_lt_of_le hi hkp.size)).trans (hkp.block i hi hne))
theorem takeL_one {α : Type} (L : List α) {k : Nat} {x : α} (h : L[k]? = some x) : L.take (k + 1) = L.take k ++ [x] := by
  obtain ⟨hk, rfl⟩ := List.getElem?_eq_some_iff.1 h
  rw [List.take_succ_eq_append_getElem hk]
theorem madeL_len (zs : List Int) : (madeL zs).length ≤ 20 := by unfold madeL; rw [List.length_map, List.length_take]; omega
theorem madeL_lit {zs : List Int} {x : Int} (h : x ∈ madeL zs) : ∃ v : Int, 1 ≤ v ∧ v ≤ 8 ∧ (x = v ∨ x = -v) := by
  unfold madeL at h
  obtain ⟨n, -, rfl⟩ := List.mem_map.1 h
  exact madeU_is n
theorem owns_on0 {W W' : World} {base e n sz : Nat} {v : Value} {xs : List Value} (h : W.ownsRow base e sz v n xs) (hb : Below W.heap.size W W') : W'.ownsRow base e sz v n xs :=
  h.kept (row := none) ⟨hb.os, hb.tape, hb.output, hb.size, fun k hk _ => hb.block k hk⟩ (by cases v.ownBlock <;> simp)
def OfRel (vars : Int) (L : List (List Int)) (w1 : World) (g : Nat) (i : Value) (wr : World) : Prop := ∃ (k : Nat) (v : Value), k ≤ L.length ∧ i = .int .i64 k ∧ Whole wr g 24 #[.int .i64 vars, v] ∧ OwnL (g + 1) wr v (L.take k) ∧ Keeps (fun i => i = g) w1 wr
set_option maxRecDepth 100000 in
set_option maxHeartbeats 1000000 in
theorem foof_any {C : Nat} {v : Value} {L : List (List Int)} (vars : Int) (w : World) (hC : C ≤ w.heap.size) (hn : L.length ≤ 262144) (hz : ∀ zs ∈ L, zs.length ≤ 1000000) (hL : RowsL C w v L) :
    Calls Tryz.prog 15 #[.int .i64 vars, v] w fun e w' => ∃ v', e = .returned (.agg #[.int .i64 vars, v']) ∧ OwnL w.heap.size w' v' L ∧ Below w.heap.size w w' := by
  obtain ⟨A, cap, rfl, hat⟩ := rowsL_shape hL
  obtain ⟨i0, hi, hz0, hz1, hz2⟩ := info_parts infoClause
  have hw1 := Whole.made w 24 #[.int .i64 0, .slice none 0 0]
  have hw2 := Whole.made (w.alloc (.cells #[.int .i64 0, .slice none 0 0] 24)) 24 #[.int .i64 vars, .slice none 0 0]
  have hw3 := whole_alloc hw1 (.cells #[.int .i64 vars, .slice none 0 0] 24)
  have hbw : Below w.heap.size w ((w.alloc (.cells #[.int .i64 0, .slice none 0 0] 24)).alloc (.cells #[.int .i64 vars, .slice none 0 0] 24)) := (below1a w _).alloc (by simp) _
  have hsz : ((w.alloc (.cells #[.int .i64 0, .slice none 0 0] 24)).alloc (.cells #[.int .i64 vars, .slice none 0 0] 24)).heap.size = w.heap.size + 2 := by simp
  rw [World.size_alloc] at hw2
  have HAt := Lib.hid hat; have HZ := Lib.hid hz
  clear hL hat hz
  go_enter Tryz.func15, Tryz.ntmps15
  go_wp2_with fail
  obtain ⟨w4, hw4⟩ : ∃ W, (w.alloc (.cells #[.int .i64 0, .slice none 0 0] 24)).alloc (.cells #[.int .i64 vars, .slice none 0 0] 24) = W := ⟨_, rfl⟩
  rw [hw4] at hw2 hw3 hbw hsz ⊢
  have HR4 := Lib.hid hw3; have HL4 := Lib.hid hw2; have HB4 := Lib.hid hbw; have HS4 := Lib.hid hsz
  clear hw1 hw2 hw3 hbw hw4 hsz
  obtain ⟨g, hg⟩ : ∃ g, w.heap.size + 1 = g := ⟨_, rfl⟩
  rw [hg] at HL4 ⊢
  go_loopw [12] (fun i wr => OfRel vars L w4 g i wr) (fun i _ => L.length - (intOf i).toNat)
  case atStart => exact ⟨0, .slice none 0 0, Nat.zero_le _, rfl, HL4.out, ownL_nil _ _, Keeps.refl _ _⟩
  case round =>
    obtain ⟨k, v, hk, rfl, hwh, hown, hkp⟩ := hrel
    have hBr : Below w.heap.size w wr := HB4.out.trans (hkp.below (by have := HS4.out; omega) (fun i e => by omega))
    have hlw : g < wr.heap.size := hwh.lt
    have hr4 : wr.heap[w.heap.size]? = w4.heap[w.heap.size]? := hkp.block w.heap.size HR4.out.lt (fun e => by omega)
    by_cases hlt : k < L.length
    · obtain ⟨zs, hx⟩ : ∃ zs, L[k]? = some zs := ⟨_, List.getElem?_eq_getElem hlt⟩
      obtain ⟨b, off, As, cs, rfl, hb, hc, hI⟩ := HAt.out k zs hx
      have hc := (hBr.cell (p := ⟨b, off + k, none⟩) (Nat.lt_of_lt_of_le hb hC)).trans hc
      have hzl := HZ.out zs (List.mem_of_getElem? hx)
      have htk := takeL_one L hx
      have hki : (k : Int) < (L.length : Int) := by omega
      have hcl : ∀ W, Below wr.heap.size wr W → Calls Tryz.prog 39 #[.slice As zs.length cs] W (GivesE 39 W zs) := fun W hb => clause_any C _ zs hzl W (Nat.le_trans hC (Nat.le_trans hBr.size hb.size)) (((hI.below (hBr.mono hC)).below (hb.mono (Nat.le_trans hC hBr.size))).ints)
      obtain ⟨svs, hrow, hinr⟩ := hown
      obtain ⟨Av, cv, rfl⟩ := own_shape0 hrow
      have g1 : wr.cell? ⟨g, 1, none⟩ = some (.slice Av (cellsL (L.take k)).length cv) := hwh.cell 1
      obtain ⟨n, hn'⟩ : ∃ n, (cellsL (L.take k)).length = n := ⟨_, rfl⟩
      have hnn : n ≤ 262144 := by
        rw [← hn', cellsL_len]
        simp; omega
      have HNl := Lib.hid hn'.symm
      rw [hn'] at hrow hinr hwh g1
      have hgo : ∀ b, (Value.slice Av n cv).ownBlock = some b → g + 1 ≤ b ∧ b < wr.heap.size := fun b hb => hrow.lt b hb
      have HCl := Lib.hid hcl; have HNx := Lib.hid hlt; have HTk := Lib.hid htk; have HWh := Lib.hid hwh; have HRow := Lib.hid hrow; have HInr := Lib.hid hinr; have HKp := Lib.hid hkp; have HGo := Lib.hid hgo
      clear hcl hx hb hI hzl htk hwh hrow hinr hkp hr4 hBr hgo HAt HZ hn'
      go_upto_region 5 with fail
      go_region_law (first
          | (refine step_append_lies _ (by rfl) _ _ 22 (by rfl) (g + 1) 38 i0 _ 1 24 Tryz.underlying22 hi hz0 hz1 hz2 (by rfl) (by decide) _ n svs (by rfl) (by repeat (first | exact HS5.out | apply World.ownsRow.drew | apply World.ownsRow.alloc)) _ 1 1 [.slice A5 zs.length c5] (by rfl) (by rfl) (World.news_of_block (cs := #[.slice A5 zs.length c5]) (t := 38) (fr := (0, 0)) (heap_alloc_new _ _)) (by simp [Value.oneCell']) (by decide) (by unfold maxLen; omega) (by omega) (by simp; omega) _ rfl ?_; intro gg cap w7 hown7 hg7 hloc hl7; have hw7 : Whole w7 g 24 #[.int .i64 vars, .slice Av n cv] := whole_grown hg7 (fun e => by have := HGo.out g e.symm; omega) (by repeat (first | exact HW5.out | apply whole_drew | apply whole_alloc)); have g7 : w7.cell? ⟨g, 1, none⟩ = some (.slice Av n cv) := hw7.cell 1; have f7 : w7.frozen? ⟨g, 1, none⟩ = false := hw7.frozen 1; have HO7 := Lib.hid hown7; have HG7 := Lib.hid hg7; have HLoc := Lib.hid hloc; have HW7 := Lib.hid hw7; clear hown7 hg7 hloc hw7)
          | (go_simp; go_at_call 39; (with_reducible refine (HCl.out _ (Below.refl _ _).drew).mono ?_); rintro r w5 ⟨v5, rfl, hr5, hb5⟩; obtain ⟨A5, c5, rfl⟩ := own_shape0 hr5; have hb5' : Below wr.heap.size wr w5 := (Below.refl _ _).drew.trans hb5; have hl5 : wr.heap.size ≤ w5.heap.size := hb5'.size; have g5 : w5.cell? ⟨g, 1, none⟩ = some (.slice Av n cv) := (hb5'.cell (p := ⟨g, 1, none⟩) hlw).trans g1; have HS5 := Lib.hid (owns_on0 HRow.out hb5'); have HR5 := Lib.hid hr5; have HB5 := Lib.hid hb5'; have HW5 := Lib.hid (HWh.out.same (hb5'.block g hlw)); have g6 : (w5.alloc (.cells #[.slice A5 zs.length c5] 38)).cell? ⟨g, 1, none⟩ = some (.slice Av n cv) := (whole_alloc HW5.out _).cell 1; clear hr5 hb5 hb5'))
      all_goals
        obtain ⟨p1, p2, p3⟩ := field_push _ HWh.out HRow.out HInr.out HKp.out HB5.out HR5.out (Nat.le_refl _) HG7.out HO7.out HLoc.out HW7.out HNl.out (fun i hv hi => by have := (HGo.out i hv).1; have := HS4.out; omega)
        rw [← cellsL_one] at p2
        have HP := Lib.hid (And.intro p1 (And.intro p2 p3))
        clear p1 p2 p3 HO7 HG7 HLoc HW7 HS5 HR5 HB5 HW5 g5 g6 g7 f7
        go_wp2_with fail
        go_roundw
        case rel => exact ⟨k + 1, _, HNx.out, by go_num, HP.out.1, by rw [HTk.out]; exact HP.out.2.1, HP.out.2.2⟩
        case measure => simp [intOf]; omega
    · obtain rfl : k = L.length := by omega
      rw [List.take_length] at hown
      have y0 : wr.cell? ⟨g, 0, none⟩ = some (.int .i64 vars) := hwh.cell 0
      have y1 : wr.cell? ⟨g, 1, none⟩ = some v := hwh.cell 1
      have hrr := HR4.out.same hr4
      have r0 : wr.cell? ⟨w.heap.size, 0, none⟩ = some (.int .i64 0) := hrr.cell 0
      have r1 : wr.cell? ⟨w.heap.size, 1, none⟩ = some (.slice none 0 0) := hrr.cell 1
      have f0 := hrr.frozen 0
      have f1 := hrr.frozen 1
      obtain ⟨Av, cv, rfl⟩ := hown.len
      have HRR := Lib.hid ((hrr.store 0 (.int .i64 vars)).store 1 (.slice Av (cellsL L).length cv)); have HOwn := Lib.hid hown; have HBr := Lib.hid hBr
      clear hrr hown hBr hwh hkp hr4 HAt HZ
      go_wp2_with fail
      refine bodyPost_ret (results_cell_row rfl _ _ w.heap.size 24 _ (0, 0) _ rfl HRR.out Tryz.underlying24 rfl (by kernel_rfl)) rfl ?_
      refine ⟨_, rfl, ?_, (HBr.out.setCell (p := ⟨w.heap.size, 0, none⟩) (by simp) _).setCell (p := ⟨w.heap.size, 1, none⟩) (by simp) _⟩
      exact (HOwn.out.kept (K := fun i => i = w.heap.size) (((Keeps.refl (fun i => i = w.heap.size) wr).setCell (p := ⟨w.heap.size, 0, none⟩) (.inl rfl) _).setCell (p := ⟨w.heap.size, 1, none⟩) (.inl rfl) _) (fun i h => by omega)).less (by omega)
end Go.Proofs.YticcgmegimiegaaGreatDoor
namespace Go.Proofs.YticcgmegimiegaaGreatDoor
open Go.RowKit Go.ChangeAt Go.ChangeShapes Go.WideShapes Go.Shelf Go.Sort

theorem take_one_eq {L L' : List (List Int)} {k : Nat} {zs ys : List Int} (hx : L[k]? = some zs) (hy : L'[k]? = some ys) (h : L.take k = L'.take k) : (L.take (k + 1) = L'.take (k + 1)) ↔ zs = ys := by
  rw [takeL_one L hx, takeL_one L' hy, h]
  simp
set_option maxRecDepth 100000 in
set_option maxHeartbeats 1000000 in
theorem equalF_any {C : Nat} {v v' : Value} {L L' : List (List Int)} (w : World) (hn : L.length ≤ 1000000000) (hz : ∀ zs ∈ L, zs.length ≤ 1000000) (hz' : ∀ zs ∈ L', zs.length ≤ 1000000) (hL : RowsL C w v L) (hL' : RowsL C w v' L') :
    Calls Tryz.prog 57 #[v, v', .func (.func 58) #[] #[]] w fun e w' => e = .returned (.bool (decide (L = L'))) ∧ ∃ q, w' = w.drewN q := by
  obtain ⟨A, cap, rfl, hat⟩ := rowsL_shape hL
  obtain ⟨A', cap', rfl, hat'⟩ := rowsL_shape hL'
  have HAt := Lib.hid hat; have HAt' := Lib.hid hat'; have HZ := Lib.hid hz; have HZ' := Lib.hid hz'
  clear hat hat' hz hz' hL hL'
  by_cases hl : L.length = L'.length
  · have HLn := Lib.hid hl
    rw [← hl]
    clear hl
    go_enter Tryz.func57, Tryz.ntmps57
    go_wp2_with fail
    go_loopw [17] (fun i wr => ∃ k q : Nat, k ≤ L.length ∧ i = .int .i64 k ∧ wr = w.drewN q ∧ L.take k = L'.take k) (fun i _ => L.length - (intOf i).toNat)
    case atStart => exact ⟨0, 0, Nat.zero_le _, rfl, rfl, rfl⟩
    case round =>
      obtain ⟨k, q, hk, rfl, rfl, htk⟩ := hrel
      by_cases hlt : k < L.length
      · obtain ⟨zs, hx⟩ : ∃ zs, L[k]? = some zs := ⟨_, List.getElem?_eq_getElem hlt⟩
        obtain ⟨ys, hy⟩ : ∃ ys, L'[k]? = some ys := ⟨_, List.getElem?_eq_getElem (by have := HLn.out; omega)⟩
        obtain ⟨b, off, As, cs, rfl, hb, hc, hI⟩ := HAt.out k zs hx
        obtain ⟨b', off', As', cs', rfl, hb', hc', hI'⟩ := HAt'.out k ys hy
        have hzl := HZ.out zs (List.mem_of_getElem? hx)
        have hyl := HZ'.out ys (List.mem_of_getElem? hy)
        have hone := take_one_eq hx hy htk
        have hki : (k : Int) < (L.length : Int) := by omega
        have heq := fun q => equal_cl (w.drewN q) (by omega) (by omega) (show Ints C (w.drewN q) (.slice As zs.length cs) zs from hI.ints) (show Ints C (w.drewN q) (.slice As' ys.length cs') ys from hI'.ints)
        obtain ⟨t, ht⟩ : ∃ b, (zs == ys) = b := ⟨_, rfl⟩
        rw [ht] at heq
        have HOne := Lib.hid hone; have HEq := Lib.hid heq; have HT := Lib.hid ht; have HNx := Lib.hid hlt; have HX := Lib.hid (And.intro hx hy)
        clear hone heq ht hzl hyl hI hI' hb hb' hx hy htk HAt HAt' HZ HZ' hlt
        cases t
        · go_wp2_with fail
          refine (HEq.out _).mono ?_
          rintro e w' ⟨rfl, q', rfl⟩
          go_wp2_with fail
          go_ret
          have hne : L ≠ L' := fun e => by
            have h1 := HOne.out.1 (by rw [e])
            have h2 := HT.out
            rw [h1] at h2
            simp at h2
          exact ⟨by rw [decide_eq_false hne]; rfl, _, rfl⟩
        · go_wp2_with fail
          refine (HEq.out _).mono ?_
          rintro e w' ⟨rfl, q', rfl⟩
          go_wp2_with fail
          go_roundw
          case rel => exact ⟨k + 1, _, HNx.out, by go_num, rfl, HOne.out.2 (eq_of_beq HT.out)⟩
          case measure => simp [intOf]; have := HNx.out; omega
      · obtain rfl : k = L.length := by omega
        have hfull : L = L' := by rw [List.take_length, HLn.out, List.take_length] at htk; exact htk
        have HF := Lib.hid hfull
        clear hfull htk HAt HAt' HZ HZ'
        go_wp2_with fail
        go_ret
        exact ⟨by rw [decide_eq_true HF.out]; rfl, _, rfl⟩
  · have hq : ((L.length : Int) == (L'.length : Int)) = false := by rw [beq_eq_false_iff_ne]; omega
    have hne : L ≠ L' := fun e => hl (by rw [e])
    rw [decide_eq_false hne]
    clear HAt HAt' HZ HZ' hne hl
    go_enter Tryz.func57, Tryz.ntmps57
    go_wp2_with fail
    go_ret
    exact ⟨rfl, 0, rfl⟩
set_option maxRecDepth 100000 in
set_option maxHeartbeats 1000000 in
theorem fosame_any {C : Nat} {v v' : Value} {L L' : List (List Int)} (x y : Int) (w : World) (hC : C ≤ w.heap.size) (hn : L.length ≤ 1000000000) (hz : ∀ zs ∈ L, zs.length ≤ 1000000) (hz' : ∀ zs ∈ L', zs.length ≤ 1000000) (hL : RowsL C w v L) (hL' : RowsL C w v' L') :
    Calls Tryz.prog 21 #[.agg #[.int .i64 x, v], .agg #[.int .i64 y, v']] w fun e w' => e = .returned (.bool (decide (x = y ∧ L = L'))) ∧ Below w.heap.size w w' := by
  have hb2 : Below w.heap.size w ((w.alloc (.cells #[.int .i64 x, v] 24)).alloc (.cells #[.int .i64 y, v'] 24)) := (below1a w _).alloc (by simp) _
  have h1 := (fo_new w x v 24).on (below1a (w.alloc (.cells #[.int .i64 x, v] 24)) (.cells #[.int .i64 y, v'] 24))
  have h2 := fo_new (w.alloc (.cells #[.int .i64 x, v] 24)) y v' 24
  rw [World.size_alloc] at h2
  obtain ⟨w2, hw2⟩ : ∃ W, (w.alloc (.cells #[.int .i64 x, v] 24)).alloc (.cells #[.int .i64 y, v'] 24) = W := ⟨_, rfl⟩
  rw [hw2] at hb2 h1 h2
  have hef := equalF_any w2 hn hz hz' (hL.below (hb2.mono hC)) (hL'.below (hb2.mono hC))
  obtain ⟨A, cap, rfl, -⟩ := rowsL_shape hL
  obtain ⟨A', cap', rfl, -⟩ := rowsL_shape hL'
  obtain ⟨c0, c1, -⟩ := h1
  obtain ⟨d0, d1, -⟩ := h2
  have HE := Lib.hid hef; have HB := Lib.hid hb2; have HW := Lib.hid hw2
  clear hef hb2 hL hL' hz hz' hw2
  by_cases h : x = y
  · subst h
    have hd : decide (x = x ∧ L = L') = decide (L = L') := by simp
    rw [hd]
    obtain ⟨t, ht⟩ : ∃ b, decide (L = L') = b := ⟨_, rfl⟩
    rw [ht] at HE ⊢
    clear hd ht
    go_enter Tryz.func21, Tryz.ntmps21
    go_wp2_with fail
    rw [HW.out]
    go_wp2_with fail
    refine HE.out.mono ?_
    rintro e w' ⟨rfl, q', rfl⟩
    go_wp2_with fail
    go_ret
    exact ⟨rfl, HB.out.trans ⟨rfl, rfl, rfl, Nat.le_refl _, fun _ _ => rfl⟩⟩
  · have hq : (x == y) = false := by rw [beq_eq_false_iff_ne]; exact h
    have hd : decide (x = y ∧ L = L') = false := decide_eq_false fun e => h e.1
    rw [hd]
    clear hd h HE
    go_enter Tryz.func21, Tryz.ntmps21
    go_wp2_with fail
    rw [HW.out]
    go_wp2_with fail
    go_ret
    exact ⟨rfl, HB.out⟩
end Go.Proofs.YticcgmegimiegaaGreatDoor
namespace Go.Proofs.YticcgmegimiegaaGreatDoor
open Go.RowKit Go.ChangeAt Go.ChangeShapes Go.WideShapes Go.Shelf Go.Sort

theorem lits_block {C : Nat} {W : World} {b : Nat} {T : TypeId} (xs : List Int) (h : Whole W b T (xs.map (Value.int .i64)).toArray) (hb : b < C) : Lits C W (.slice (some ⟨b, 0, none⟩) xs.length xs.length) xs := by
  have h := show W.heap[b]? = _ from h
  refine .inr ⟨b, 0, _, rfl, hb, fun j hj => ?_⟩
  rw [bang_get, Nat.zero_add]
  have hj' : j < xs.length := by simpa using hj
  simp [World.cell?, World.frozen?, h, hj']
theorem rows_block {C : Nat} {W : World} {b : Nat} {T : TypeId} (svs : List Value) (L : List (List Int)) (h : Whole W b T svs.toArray) (hb : b < C) (hl : svs.length = L.length) (hs : ∀ (j : Nat) (sv : Value) (zs : List Int), svs[j]? = some sv → L[j]? = some zs → Lits C W sv zs) : RowsL C W (.slice (some ⟨b, 0, none⟩) L.length L.length) L := by
  have h := show W.heap[b]? = _ from h
  refine .inr ⟨b, 0, L.length, by simp, hb, fun j xs hx => ?_⟩
  change (cellsL L)[j]? = some xs at hx
  have hj : j < L.length := by have := (List.getElem?_eq_some_iff.1 hx).1; rwa [cellsL_len] at this
  have hxs : xs = L[j].map (Value.int .i64) := by simp [cellsL, hj] at hx; exact hx.symm
  refine ⟨svs[j]'(by omega), ?_, ?_, ?_⟩
  · rw [Nat.zero_add]; simp [World.cell?, h, hl, hj]
  · rw [Nat.zero_add]; simp [World.frozen?, h]
  · rw [hxs]; exact rowV_lits.2 (hs j _ _ (List.getElem?_eq_getElem (by omega)) (List.getElem?_eq_getElem hj))
theorem lits_none (C : Nat) (W : World) : Lits C W (.slice none 0 0) [] := .inl ⟨_, _, rfl, fun _ => rfl, rfl⟩
theorem rows_none (C : Nat) (W : World) : RowsL C W (.slice none 0 0) [] := .inl ⟨_, _, rfl, fun _ => rfl, rfl⟩
/-- The clauses of a made formula. -/
def madeF (zss : List (List Int)) : List (List Int) := (zss.take 30).map madeL
def MfRel (zss : List (List Int)) (n : Nat) (w1 : World) (g : Nat) (i : Value) (wr : World) : Prop := ∃ (k : Nat) (v : Value), k ≤ n ∧ i = .int .i64 k ∧ Whole wr g 24 #[.int .i64 8, v] ∧ OwnL (g + 1) wr v ((zss.take k).map madeL) ∧ Keeps (fun i => i = g) w1 wr
set_option maxRecDepth 100000 in
set_option maxHeartbeats 1000000 in
theorem foMade_any {C : Nat} {v : Value} {zss : List (List Int)} (w : World) (hC : C ≤ w.heap.size) (hz : ∀ zs ∈ zss, zs.length ≤ maxLen ∧ ∀ x ∈ zs, (Lit.int .u8 x).wf = true) (hL : Rows2 .u8 C w v zss) :
    Calls Tryz.prog 19 #[v] w fun e w' => ∃ v', e = .returned (.agg #[.int .i64 8, v']) ∧ OwnL w.heap.size w' v' (madeF zss) ∧ Below w.heap.size w w' := by
  obtain ⟨A, cap, rfl, -, hcap, hat⟩ := Rows2.shape hL
  obtain ⟨n, hnn⟩ : ∃ n, (zss.take 30).length = n := ⟨_, rfl⟩
  have hn30 : n ≤ 30 ∧ n ≤ zss.length := by rw [← hnn, List.length_take]; omega
  have hmin : min (zss.length : Int) 30 = (n : Int) := by rw [← hnn, List.length_take]; omega
  have hmax : max (n : Int) 0 = (n : Int) := by omega
  have hn0 : (0 : Int) ≤ (n : Int) := by omega
  have hnc : (n : Int) ≤ (cap : Int) := by omega
  have hnz : (n : Int) ≤ (zss.length : Int) := by omega
  have HNn := Lib.hid hnn
  clear hnn
  obtain ⟨i0, hi, hz0, hz1, hz2⟩ := info_parts infoClause
  have hw1 := Whole.made w 24 #[.int .i64 0, .slice none 0 0]
  have hw2 := Whole.made (w.alloc (.cells #[.int .i64 0, .slice none 0 0] 24)) 24 #[.int .i64 8, .slice none 0 0]
  have hw3 := whole_alloc hw1 (.cells #[.int .i64 8, .slice none 0 0] 24)
  have hbw : Below w.heap.size w ((w.alloc (.cells #[.int .i64 0, .slice none 0 0] 24)).alloc (.cells #[.int .i64 8, .slice none 0 0] 24)) := (below1a w _).alloc (by simp) _
  have hsz : ((w.alloc (.cells #[.int .i64 0, .slice none 0 0] 24)).alloc (.cells #[.int .i64 8, .slice none 0 0] 24)).heap.size = w.heap.size + 2 := by simp
  rw [World.size_alloc] at hw2
  have HAt := Lib.hid hat; have HZ := Lib.hid hz
  clear hL hat hz
  go_enter Tryz.func19, Tryz.ntmps19
  go_wp2_with fail
  obtain ⟨w4, hw4⟩ : ∃ W, (w.alloc (.cells #[.int .i64 0, .slice none 0 0] 24)).alloc (.cells #[.int .i64 8, .slice none 0 0] 24) = W := ⟨_, rfl⟩
  rw [hw4] at hw2 hw3 hbw hsz ⊢
  have HR4 := Lib.hid hw3; have HL4 := Lib.hid hw2; have HB4 := Lib.hid hbw; have HS4 := Lib.hid hsz
  clear hw1 hw2 hw3 hbw hw4 hsz
  obtain ⟨g, hg⟩ : ∃ g, w.heap.size + 1 = g := ⟨_, rfl⟩
  rw [hg] at HL4 ⊢
  go_loopw [13] (fun i wr => MfRel zss n w4 g i wr) (fun i _ => n - (intOf i).toNat)
  case atStart => exact ⟨0, .slice none 0 0, Nat.zero_le _, rfl, HL4.out, by rw [List.take_zero]; exact ownL_nil _ _, Keeps.refl _ _⟩
  case round =>
    obtain ⟨k, v, hk, rfl, hwh, hown, hkp⟩ := hrel
    have hBr : Below w.heap.size w wr := HB4.out.trans (hkp.below (by have := HS4.out; omega) (fun i e => by omega))
    have hlw : g < wr.heap.size := hwh.lt
    have hr4 : wr.heap[w.heap.size]? = w4.heap[w.heap.size]? := hkp.block w.heap.size HR4.out.lt (fun e => by omega)
    by_cases hlt : k < n
    · have hkz : k < zss.length := by omega
      obtain ⟨zs, hx⟩ : ∃ zs, zss[k]? = some zs := ⟨_, List.getElem?_eq_getElem hkz⟩
      obtain ⟨b, off, sv, rfl, hb, hc, hI, hfit⟩ := HAt.out k hkz
      rw [hx, Option.getD_some] at hI
      obtain ⟨As, cs, rfl, -⟩ := intsK_shape hI
      have hc := (hBr.cell (p := ⟨b, off + k, none⟩) (Nat.lt_of_lt_of_le hb hC)).trans hc
      have hzl := HZ.out zs (List.mem_of_getElem? hx)
      have htk : (zss.take (k + 1)).map madeL = (zss.take k).map madeL ++ [madeL zs] := by rw [takeL_one zss hx, List.map_append]; rfl
      have hki : (k : Int) < (n : Int) := by omega
      have hcl : ∀ W, Below wr.heap.size wr W → Calls Tryz.prog 56 #[.slice As zs.length cs] W (GivesE 39 W (madeL zs)) := fun W hb => made_any C _ zs (by have := hzl.1; unfold maxLen at this; omega) hzl.2 hfit W (Nat.le_trans hC (Nat.le_trans hBr.size hb.size)) ((hI.below (hBr.mono hC)).below (hb.mono (Nat.le_trans hC hBr.size)))
      obtain ⟨ys, hys⟩ : ∃ ys, madeL zs = ys := ⟨_, rfl⟩
      rw [hys] at hcl htk
      obtain ⟨svs, hrow, hinr⟩ := hown
      obtain ⟨Av, cv, rfl⟩ := own_shape0 hrow
      have g1 : wr.cell? ⟨g, 1, none⟩ = some (.slice Av (cellsL ((zss.take k).map madeL)).length cv) := hwh.cell 1
      obtain ⟨m, hn'⟩ : ∃ m, (cellsL ((zss.take k).map madeL)).length = m := ⟨_, rfl⟩
      have hnn : m ≤ 262144 := by
        rw [← hn', cellsL_len]
        simp; omega
      have HNl := Lib.hid hn'.symm
      rw [hn'] at hrow hinr hwh g1
      have hgo : ∀ b, (Value.slice Av m cv).ownBlock = some b → g + 1 ≤ b ∧ b < wr.heap.size := fun b hb => hrow.lt b hb
      have HCl := Lib.hid hcl; have HNx := Lib.hid hlt; have HTk := Lib.hid htk; have HWh := Lib.hid hwh; have HRow := Lib.hid hrow; have HInr := Lib.hid hinr; have HKp := Lib.hid hkp; have HGo := Lib.hid hgo
      clear hcl hx hb hI hzl htk hfit hys hwh hrow hinr hkp hr4 hBr hgo HAt HZ hn'
      go_upto_region 5 with fail
      go_region_law (first
          | (refine step_append_lies _ (by rfl) _ _ 22 (by rfl) (g + 1) 38 i0 _ 1 24 Tryz.underlying22 hi hz0 hz1 hz2 (by rfl) (by decide) _ m svs (by rfl) (by repeat (first | exact HS5.out | apply World.ownsRow.drew | apply World.ownsRow.alloc)) _ 1 1 [.slice A5 ys.length c5] (by rfl) (by rfl) (World.news_of_block (cs := #[.slice A5 ys.length c5]) (t := 38) (fr := (0, 0)) (heap_alloc_new _ _)) (by simp [Value.oneCell']) (by decide) (by unfold maxLen; omega) (by omega) (by simp; omega) _ rfl ?_; intro gg cap w7 hown7 hg7 hloc hl7; have hw7 : Whole w7 g 24 #[.int .i64 8, .slice Av m cv] := whole_grown hg7 (fun e => by have := HGo.out g e.symm; omega) (by repeat (first | exact HW5.out | apply whole_drew | apply whole_alloc)); have g7 : w7.cell? ⟨g, 1, none⟩ = some (.slice Av m cv) := hw7.cell 1; have f7 : w7.frozen? ⟨g, 1, none⟩ = false := hw7.frozen 1; have HO7 := Lib.hid hown7; have HG7 := Lib.hid hg7; have HLoc := Lib.hid hloc; have HW7 := Lib.hid hw7; clear hown7 hg7 hloc hw7)
          | (go_simp; go_at_call 56; (with_reducible refine (HCl.out _ (Below.refl _ _).drew).mono ?_); rintro r w5 ⟨v5, rfl, hr5, hb5⟩; obtain ⟨A5, c5, rfl⟩ := own_shape0 hr5; have hb5' : Below wr.heap.size wr w5 := (Below.refl _ _).drew.trans hb5; have hl5 : wr.heap.size ≤ w5.heap.size := hb5'.size; have g5 : w5.cell? ⟨g, 1, none⟩ = some (.slice Av m cv) := (hb5'.cell (p := ⟨g, 1, none⟩) hlw).trans g1; have HS5 := Lib.hid (owns_on0 HRow.out hb5'); have HR5 := Lib.hid hr5; have HB5 := Lib.hid hb5'; have HW5 := Lib.hid (HWh.out.same (hb5'.block g hlw)); have g6 : (w5.alloc (.cells #[.slice A5 ys.length c5] 38)).cell? ⟨g, 1, none⟩ = some (.slice Av m cv) := (whole_alloc HW5.out _).cell 1; clear hr5 hb5 hb5'))
      all_goals
        obtain ⟨p1, p2, p3⟩ := field_push _ HWh.out HRow.out HInr.out HKp.out HB5.out HR5.out (Nat.le_refl _) HG7.out HO7.out HLoc.out HW7.out HNl.out (fun i hv hi => by have := (HGo.out i hv).1; have := HS4.out; omega)
        rw [← cellsL_one] at p2
        have HP := Lib.hid (And.intro p1 (And.intro p2 p3))
        clear p1 p2 p3 HO7 HG7 HLoc HW7 HS5 HR5 HB5 HW5 g5 g6 g7 f7
        go_wp2_with fail
        go_roundw
        case rel => exact ⟨k + 1, _, HNx.out, by go_num, HP.out.1, by rw [HTk.out]; exact HP.out.2.1, HP.out.2.2⟩
        case measure => simp [intOf]; omega
    · obtain rfl : k = n := by omega
      have hfu : (zss.take k).map madeL = madeF zss := by
        unfold madeF
        rw [← HNn.out, List.length_take]
        congr 1
        rcases Nat.le_total 30 zss.length with h | h
        · rw [Nat.min_eq_left h]
        · rw [Nat.min_eq_right h, List.take_length, List.take_of_length_le h]
      rw [hfu] at hown
      clear hfu
      have y0 : wr.cell? ⟨g, 0, none⟩ = some (.int .i64 8) := hwh.cell 0
      have y1 : wr.cell? ⟨g, 1, none⟩ = some v := hwh.cell 1
      have hrr := HR4.out.same hr4
      have r0 : wr.cell? ⟨w.heap.size, 0, none⟩ = some (.int .i64 0) := hrr.cell 0
      have r1 : wr.cell? ⟨w.heap.size, 1, none⟩ = some (.slice none 0 0) := hrr.cell 1
      have f0 := hrr.frozen 0
      have f1 := hrr.frozen 1
      obtain ⟨Av, cv, rfl⟩ := hown.len
      have HRR := Lib.hid ((hrr.store 0 (.int .i64 8)).store 1 (.slice Av (cellsL (madeF zss)).length cv)); have HOwn := Lib.hid hown; have HBr := Lib.hid hBr
      clear hrr hown hBr hwh hkp hr4 HAt HZ
      go_wp2_with fail
      refine bodyPost_ret (results_cell_row rfl _ _ w.heap.size 24 _ (0, 0) _ rfl HRR.out Tryz.underlying24 rfl (by kernel_rfl)) rfl ?_
      refine ⟨_, rfl, ?_, (HBr.out.setCell (p := ⟨w.heap.size, 0, none⟩) (by simp) _).setCell (p := ⟨w.heap.size, 1, none⟩) (by simp) _⟩
      exact (HOwn.out.kept (K := fun i => i = w.heap.size) (((Keeps.refl (fun i => i = w.heap.size) wr).setCell (p := ⟨w.heap.size, 0, none⟩) (.inl rfl) _).setCell (p := ⟨w.heap.size, 1, none⟩) (.inl rfl) _) (fun i h => by omega)).less (by omega)
theorem madeF_len (zss : List (List Int)) : (madeF zss).length ≤ 30 := by unfold madeF; rw [List.length_map, List.length_take]; omega
theorem madeF_mem {zss : List (List Int)} {zs : List Int} (h : zs ∈ madeF zss) : ∃ ys, zs = madeL ys := by
  unfold madeF at h
  obtain ⟨ys, -, rfl⟩ := List.mem_map.1 h
  exact ⟨ys, rfl⟩
/-- A clause of literals of 8 variables. -/
def Cl8 (zs : List Int) : Prop := zs.length ≤ 20 ∧ ∀ l ∈ zs, 1 ≤ l.natAbs ∧ l.natAbs ≤ 8
theorem madeL_cl (zs : List Int) : Cl8 (madeL zs) := ⟨madeL_len zs, fun l hl => by
  obtain ⟨v, h1, h2, h3⟩ := madeL_lit hl
  omega⟩
theorem lit_small {l : Int} (h : 1 ≤ l.natAbs ∧ l.natAbs ≤ 1048576) : litB l = true := litB_yes (by omega) (by omega) (by omega)
theorem varI_small {l : Int} (h : litB l = true) : varI l = l.natAbs := by
  unfold varI
  rw [if_pos h]
  split <;> omega
theorem cl_right {zs : List Int} (h : zs.length ≤ 4096) (hl : ∀ l ∈ zs, 1 ≤ l.natAbs ∧ l.natAbs ≤ 8) : rightB zs = true := rightB_mk h fun x hx => lit_small (by have := hl x hx; omega)
theorem Cl8.right {zs : List Int} (h : Cl8 zs) : rightB zs = true := cl_right (by have := h.1; omega) h.2
theorem cl_bad {zs : List Int} (h : zs.length ≤ 4096) (hl : ∀ l ∈ zs, 1 ≤ l.natAbs ∧ l.natAbs ≤ 8) : badE 8 zs = 0 := badE_ok (cl_right h hl) fun l hx => by
  rw [varI_small (lit_small (by have := hl l hx; omega))]
  have := hl l hx
  omega
theorem madeF_cl {zss : List (List Int)} : ∀ zs ∈ madeF zss, Cl8 zs := fun zs h => by
  obtain ⟨ys, rfl⟩ := madeF_mem h
  exact madeL_cl ys
theorem chk8 {L : List (List Int)} (h : L.length ≤ 262144) (hl : ∀ zs ∈ L, zs.length ≤ 4096 ∧ ∀ l ∈ zs, 1 ≤ l.natAbs ∧ l.natAbs ≤ 8) : chkI 8 L = (-1, 0) := chkI_ok (by omega) (by omega) fun zs hz => cl_bad (hl zs hz).1 (hl zs hz).2
theorem chk_made (zss : List (List Int)) : chkI 8 (madeF zss) = (-1, 0) := chk8 (by have := madeF_len zss; omega) fun zs hz => ⟨by have := (madeF_cl zs hz).1; omega, (madeF_cl zs hz).2⟩
theorem small_made (zss : List (List Int)) : Small 8 (madeF zss) := fun zs hz => (madeF_cl zs hz).2
theorem short_made {zss : List (List Int)} : ∀ zs ∈ madeF zss, zs.length ≤ 1000000 := fun zs hz => by have := (madeF_cl zs hz).1; omega

/-- A formula in a block of its own, its clauses anywhere. -/
structure Fi (W : World) (p : Nat) (x : Int) (v : Value) (L : List (List Int)) : Prop where
  whole : Whole W p 24 #[.int .i64 x, v]
  rows : RowsL W.heap.size W v L
theorem Fi.on {W W' : World} {p : Nat} {x : Int} {v : Value} {L : List (List Int)} (h : Fi W p x v L) (hb : Below W.heap.size W W') : Fi W' p x v L :=
  ⟨h.whole.same (hb.block _ h.whole.lt), (RowsV.below hb h.rows).more hb.size⟩
theorem Fi.c0 {W : World} {p : Nat} {x : Int} {v : Value} {L : List (List Int)} (h : Fi W p x v L) : W.cell? ⟨p, 0, none⟩ = some (.int .i64 x) := h.whole.cell 0
theorem Fi.c1 {W : World} {p : Nat} {x : Int} {v : Value} {L : List (List Int)} (h : Fi W p x v L) : W.cell? ⟨p, 1, none⟩ = some v := h.whole.cell 1
theorem rows2_more {k : IntKind} {B B' : Nat} (h : B ≤ B') {X : World} {v : Value} {zss : List (List Int)} : Rows2 k B X v zss → Rows2 k B' X v zss
  | .inl e => .inl e
  | .inr ⟨b, off, cap, e, hc, hb, hj⟩ => .inr ⟨b, off, cap, e, hc, by omega, fun j hlt => by
      obtain ⟨sv, h1, h2, h3⟩ := hj j hlt
      exact ⟨sv, h1, h2.more h, h3⟩⟩
end Go.Proofs.YticcgmegimiegaaGreatDoor
