/- The next model: what the reference of formulas does to find it. -/
/- The reference of formulas: Assign, next, Models. -/
import Derived.Test.YtgoflapolglfcaaGreatFoMath
import Derived.Test.YtgoflapolglfcaaGreatFoRef
import Derived.Test.YtgoflapolglfcaaGreatOwnRows
import Derived.Test.YtgoflapolglfcaaGreatAppend2
import Derived.Test.YtgoflapolglfcaaGreatRoundRegion
import Derived.Laws.ResultCell
import Derived.Deep.AppendLies
import Derived.Laws.Rows
import Derived.Deep.OwnRows
import Derived.Deep.LoopGhost
namespace Go.Proofs.YtgoflapolglfcaaGreat

/-! ### the next model -/
theorem nxt_zero : ∀ xs : List Int, nxtM (xs ++ [0]) = some (xs ++ [1])
  | [] => rfl
  | b :: xs => by rw [List.cons_append, nxtM, nxt_zero xs]; rfl
theorem nxt_one {x : Int} (hx : x ≠ 0) : ∀ xs : List Int, nxtM (xs ++ [x]) = (nxtM xs).map (· ++ [0])
  | [] => by simp [nxtM, hx]
  | b :: xs => by
    rw [List.cons_append, nxtM, nxt_one hx xs, nxtM]
    cases h : nxtM xs with
    | some p => simp
    | none =>
      by_cases hb : b = 0
      · simp [hb, List.replicate_succ']
      · simp [hb]
/-- So far all that stands behind was 1, and is 0 now. -/
def NxtAt (m : List Int) (j : Nat) : Prop := nxtM m = (nxtM (m.take j)).map (· ++ List.replicate (m.length - j) 0)
theorem nxtAt_start (m : List Int) : NxtAt m m.length := by
  unfold NxtAt
  rw [List.take_length, Nat.sub_self, List.replicate_zero]
  cases nxtM m <;> simp
theorem nxtAt_one {m : List Int} {j : Nat} {x : Int} (h : NxtAt m (j + 1)) (hj : j < m.length) (hx : m[j]? = some x) (h0 : x ≠ 0) : NxtAt m j := by
  unfold NxtAt at h ⊢
  rw [h, List.take_add_one, hx, Option.toList_some, nxt_one h0, Option.map_map]
  congr 1
  funext p
  simp only [Function.comp, List.append_assoc]
  congr 1
  rw [show m.length - j = (m.length - (j + 1)) + 1 by omega, List.replicate_succ]
  rfl
theorem nxtAt_zero {m : List Int} {j : Nat} (h : NxtAt m (j + 1)) (hx : m[j]? = some 0) : nxtM m = some (m.take j ++ [1] ++ List.replicate (m.length - (j + 1)) 0) := by
  unfold NxtAt at h
  rw [h, List.take_add_one, hx, Option.toList_some, nxt_zero]
  rfl
theorem nxtAt_none {m : List Int} (h : NxtAt m 0) : nxtM m = none := by
  unfold NxtAt at h
  rw [h, List.take_zero]
  rfl
/-- What lies there while it is sought: the first j values, and zeros. -/
def nxtRow (m : List Int) (j : Nat) : List Int := m.take j ++ List.replicate (m.length - j) 0
theorem nxtRow_len (m : List Int) {j : Nat} (h : j ≤ m.length) : (nxtRow m j).length = m.length := by
  unfold nxtRow
  rw [List.length_append, List.length_take, List.length_replicate]
  omega
theorem nxtRow_start (m : List Int) : nxtRow m m.length = m := by unfold nxtRow; simp
theorem nxtRow_at (m : List Int) {j : Nat} (h : j < m.length) : (nxtRow m (j + 1))[j]? = m[j]? := by
  unfold nxtRow
  rw [List.getElem?_append_left (by rw [List.length_take]; omega), List.getElem?_take_of_lt (by omega)]
theorem nxtRow_set {m : List Int} {j : Nat} {x y : Int} (hj : j < m.length) (hx : m[j]? = some x) : (nxtRow m (j + 1)).set j y = m.take j ++ [y] ++ List.replicate (m.length - (j + 1)) 0 := by
  unfold nxtRow
  rw [List.take_add_one, hx, Option.toList_some, List.append_assoc, List.set_append, if_neg (by rw [List.length_take]; omega), List.length_take, show j - min j m.length = 0 by omega, List.append_assoc]
  rfl
theorem nxtRow_back {m : List Int} {j : Nat} {x : Int} (hj : j < m.length) (hx : m[j]? = some x) : (nxtRow m (j + 1)).set j 0 = nxtRow m j := by
  rw [nxtRow_set hj hx]
  unfold nxtRow
  rw [List.append_assoc, show m.length - j = (m.length - (j + 1)) + 1 by omega, List.replicate_succ]
  rfl

theorem want_snoc {n k : Nat} {L : List (List Int)} {ms : List Int} (h : (allM n)[k]? = some ms) : (((allM n).take (k + 1)).filter fun ms => decide (failI ms 0 L < 0)) = (((allM n).take k).filter fun ms => decide (failI ms 0 L < 0)) ++ (if failI ms 0 L < 0 then [ms] else []) := by
  rw [List.take_add_one, h, Option.toList_some, List.filter_append]
  congr 1
  by_cases hf : failI ms 0 L < 0 <;> simp [hf]
/-- The models, as the reference finds them. -/
def wantM (n : Nat) (L : List (List Int)) : List (List Int) := (allM n).filter fun ms => decide (failI ms 0 L < 0)
end Go.Proofs.YtgoflapolglfcaaGreat
namespace Go.Proofs.YtgoflapolglfcaaGreat
open Go.RowKit Go.ChangeAt Go.ChangeShapes Go.WideShapes Go.Shelf Go.Sort

/-! ### next -/
theorem infoInt5 : (Tryz.prog.info? 3).map (fun i => (i.zero, i.size, i.bytes)) = some (some (.int .i64 0), 1, 8) := by kernel_rfl
def NxRel (m : List Int) (w : World) (v i : Value) (wr : World) : Prop := ∃ j : Nat, j ≤ m.length ∧ i = .int .i64 ((j : Int) - 1) ∧ NxtAt m j ∧ wr.ownsRow w.heap.size 3 1 v m.length ((nxtRow m j).map (Value.int .i64)) ∧ Below w.heap.size w wr
set_option maxRecDepth 100000 in
set_option maxHeartbeats 1000000 in
theorem ref05_next {B : Nat} {mv : Value} {m : List Int} (w : World) (hB : B ≤ w.heap.size) (hm : m.length ≤ 1000000) (hI : Ints B w mv m) :
    Calls Tryz.prog 78 #[mv] w fun e w' => ∃ v, e = .returned (.tuple #[v, .bool (nxtM m).isSome]) ∧ w'.ownsRow w.heap.size 3 1 v m.length (((nxtM m).getD (List.replicate m.length 0)).map (Value.int .i64)) ∧ Below w.heap.size w w' := by
  obtain ⟨i0, hi, hz0, hz1, hz2⟩ := info_parts infoInt5
  have HI := Lib.hid hI
  obtain ⟨A, cap, rfl, -⟩ := ints_shape hI
  obtain ⟨n, hn⟩ : ∃ n, m.length = n := ⟨_, rfl⟩
  have HN := Lib.hid hn
  clear hI
  rw [hn] at hm ⊢
  go_enter Tryz.func78, Tryz.ntmps78
  have h0 : (w.alloc (.cells #[] 3)).ownsRow w.heap.size 3 1 (.slice (some ⟨w.heap.size, 0, none⟩) 0 0) 0 [] := World.ownsRow_lit (base := w.heap.size) (e := 3) (size := 1) w #[] 0 (Nat.le_refl _) (by unfold maxLen; omega) rfl
  have HR0 := Lib.hid h0
  clear h0
  rw [hn] at HI
  clear hn
  go_wp2_with (at_builtin; refine wpList_append_ints rfl _ _ 22 rfl w.heap.size 3 i0 (.int .i64 0) 8 Tryz.underlying22 hi hz0 hz1 hz2 rfl _ 0 [] rfl HR0.out .i64 B _ m rfl (HI.out.below ((below1a w _).mono hB)) (by have := HN.out; unfold maxLen; omega) (by have := HN.out; omega) (by simp) ?_; intro v1 w1 hr1 hb1; rw [Nat.zero_add, List.nil_append, HN.out] at hr1; obtain ⟨A1, c1, rfl⟩ := own_shape0 hr1)
  have hst : NxRel m w (.slice A1 n c1) (.int .i64 ((n : Int) - 1)) w1 := ⟨n, by rw [HN.out]; exact Nat.le_refl _, rfl, by rw [← HN.out]; exact nxtAt_start m, by rw [← HN.out, nxtRow_start, HN.out]; exact hr1, (below1a w _).trans hb1⟩
  have HSt := Lib.hid hst
  clear hst hr1 hb1 HR0
  go_loopw [5] (fun i wr => NxRel m w (.slice A1 n c1) i wr) (fun i _ => (intOf i + 1).toNat)
  case atStart => exact HSt.out
  case round =>
    clear HSt
    obtain ⟨j, hj, rfl, hat, hrow, hbw⟩ := hrel
    have hjn : j ≤ n := HN.out ▸ hj
    rw [HN.out] at hrow
    cases j with
    | zero =>
      have hno := nxtAt_none hat
      have HRes := Lib.hid (show wr.ownsRow w.heap.size 3 1 (.slice A1 n c1) n (((nxtM m).getD (List.replicate n 0)).map (Value.int .i64)) by rw [hno]; rw [show nxtRow m 0 = List.replicate n 0 by unfold nxtRow; rw [HN.out]; simp] at hrow; exact hrow)
      have HNo := Lib.hid hno; have HB := Lib.hid hbw
      clear hat hrow hbw hno
      go_wp2_with fail
      go_ret2
      exact ⟨_, by rw [HNo.out]; rfl, HRes.out, HB.out⟩
    | succ j =>
      rcases hrow.2 with ⟨-, h0⟩ | ⟨g, cap', cur, e, -, hg, hgn, -, -, -⟩
      · omega
      · injection e with e1 e2 e3
        subst e1 e3
        clear e2
        obtain ⟨x, hx⟩ : ∃ x, m[j]? = some x := ⟨_, List.getElem?_eq_getElem (by have := HN.out; omega)⟩
        have hjm : j < m.length := by have := HN.out; omega
        have c0 : wr.cell? ⟨g, j, none⟩ = some (.int .i64 x) := by
          rw [hrow.cellAt j (by omega), List.getElem?_map, nxtRow_at m hjm, hx]; rfl
        have f0 : wr.frozen? ⟨g, j, none⟩ = false := hrow.frozenAt j
        have hji : ((j + 1 : Nat) : Int) - 1 = (j : Int) := by omega
        have hj0 : (0 : Int) ≤ (j : Int) := by omega
        have hjn2 : (j : Int) < (n : Int) := by omega
        have hgw := (hrow.lt g rfl).1
        rw [hji]
        by_cases hx0 : x = 0
        · subst hx0
          have hnx := nxtAt_zero hat hx
          have hst := (hrow.stored j (.int .i64 1)).1
          rw [← List.map_set, nxtRow_set hjm hx, ← Option.getD_some (a := m.take j ++ [1] ++ List.replicate (m.length - (j + 1)) 0) (b := List.replicate n 0), ← hnx] at hst
          have HSt := Lib.hid hst; have HNo := Lib.hid hnx; have HB := Lib.hid (hbw.setCell (p := ⟨g, j, none⟩) hgw (.int .i64 1))
          clear hat hrow hbw hst hnx hg hx
          go_wp2_with fail
          go_ret2
          exact ⟨_, by rw [HNo.out]; rfl, HSt.out, HB.out⟩
        · have hq : (x == 0) = false := by rw [beq_eq_false_iff_ne]; exact hx0
          have hst := (hrow.stored j (.int .i64 0)).1
          rw [← List.map_set, nxtRow_back hjm hx] at hst
          have hnew : NxRel m w (.slice (some ⟨g, 0, none⟩) n c1) (.int .i64 ((j : Int) - 1)) (wr.setCell ⟨g, j, none⟩ (.int .i64 0)) := ⟨j, by omega, rfl, nxtAt_one hat hjm hx hx0, by rw [HN.out]; exact hst, hbw.setCell (p := ⟨g, j, none⟩) hgw (.int .i64 0)⟩
          have HNew := Lib.hid hnew
          clear hat hrow hbw hst hnew hg hx hx0
          go_wp2_with fail
          go_roundw
          case rel => exact HNew.out
          case measure => simp only [intOf]; omega
/-! ### Models -/
theorem infoInts5 : (Tryz.prog.info? 22).map (fun i => (i.zero, i.size, i.bytes)) = some (some (.slice none 0 0), 1, 24) := by kernel_rfl
theorem owns_same5 {B n : Nat} {e : TypeId} {v : Value} {xs : List Value} {W W' : World} (h : W.ownsRow B e 1 v n xs) (hb : ∀ g, v.ownBlock = some g → W'.heap[g]? = W.heap[g]?) : W'.ownsRow B e 1 v n xs := by
  rcases h.2 with ⟨rfl, h0⟩ | ⟨g, cap, cur, rfl, hbg, hg, hr⟩
  · exact ⟨h.1, .inl ⟨rfl, h0⟩⟩
  · exact ⟨h.1, .inr ⟨g, cap, cur, rfl, hbg, (hb g rfl).trans hg, hr⟩⟩
theorem rowF_owns5 {B n : Nat} {K : Nat → Prop} {e : TypeId} {v : Value} {xs : List Value} {W : World} (h : W.ownsRow B e 1 v n xs) (hK : ∀ g, v.ownBlock = some g → ¬ K g) : RowF K W v xs := by
  have hl : xs.length = n := by simpa using h.1
  rcases h.2 with ⟨rfl, h0⟩ | ⟨g, cap, cur, rfl, hb, hg, hn, hm, hs, ht⟩
  · subst h0
    exact .inl ⟨_, _, rfl, fun _ => rfl, List.eq_nil_of_length_eq_zero hl⟩
  · refine .inr ⟨g, 0, cap, by rw [hl], (h.lt g rfl).2, hK g rfl, fun j hj => ?_⟩
    rw [Nat.zero_add]
    exact ⟨h.cellAt j (by omega), h.frozenAt j⟩
theorem owns_on5 {W W' : World} {base e n sz : Nat} {v : Value} {xs : List Value} (h : W.ownsRow base e sz v n xs) (hb : Below W.heap.size W W') : W'.ownsRow base e sz v n xs :=
  h.kept (row := none) ⟨hb.os, hb.tape, hb.output, hb.size, fun k hk _ => hb.block k hk⟩ (by cases v.ownBlock <;> simp)
theorem OwnRows.less5 {e : TypeId} {B B' : Nat} {W : World} {v : Value} {L : List (List Value)} (h : OwnRows e B W v L) (hB : B' ≤ B) : OwnRows e B' W v L := OwnRows.less h hB
/-- Rows of numbers as rows of cells. -/
def cells5 (L : List (List Int)) : List (List Value) := L.map fun zs => zs.map (Value.int .i64)
theorem cells5_one (L : List (List Int)) (zs : List Int) : cells5 (L ++ [zs]) = cells5 L ++ [zs.map (Value.int .i64)] := by simp [cells5]
theorem cells5_len (L : List (List Int)) : (cells5 L).length = L.length := by simp [cells5]
def firstM (n : Nat) (L : List (List Int)) (k : Nat) : List (List Int) := ((allM n).take k).filter fun ms => decide (failI ms 0 L < 0)
theorem firstM_len (n : Nat) (L : List (List Int)) (k : Nat) : (firstM n L k).length ≤ 2 ^ n := by
  unfold firstM
  refine Nat.le_trans (List.length_filter_le _ _) ?_
  rw [List.length_take, allM_len]
  omega
/-- A row of rows to which one row of the call's own is appended; that row stays. -/
theorem rows_push5 {e e' : TypeId} {base n m gg cap : Nat} {v sv : Value} {svs xs : List Value} {L : List (List Value)} {wr w7 : World} (o : Obj) (hrow : wr.ownsRow base e 1 v n svs) (hin : InRows base wr v svs L) (hbs : base ≤ wr.heap.size)
    (hsv : wr.ownsRow base e' 1 sv m xs) (hne : e' ≠ e) (hg7 : (wr.alloc o).grownBy w7 v.ownBlock) (ho7 : w7.ownsRow base e 1 (.slice (some ⟨gg, 0, none⟩) (n + 1) cap) (n + 1) (svs ++ [sv])) (hloc : v.ownBlock = some gg ∨ gg = (wr.alloc o).heap.size) (hn : n = L.length) :
    OwnRows e base w7 (.slice (some ⟨gg, 0, none⟩) (n + 1) cap) (L ++ [xs]) ∧ w7.ownsRow base e' 1 sv m xs ∧ Below base wr w7 := by
  have hb : Below wr.heap.size wr (wr.alloc o) := (Below.refl _ _).alloc (Nat.le_refl _) _
  have hd : ∀ g, sv.ownBlock = some g → v.ownBlock ≠ some g := fun g hg he => by
    rcases rows_ne hsv hrow hne with h | h
    · rw [h] at hg; cases hg
    · exact h (hg.trans he.symm)
  have hs : RowF (fun i => v.ownBlock = some i ∨ i < base) wr sv xs := rowF_owns5 hsv fun g hg hx => by
    rcases hx with hx | hx
    · exact hd g hg hx
    · have := (hsv.lt g hg).1; omega
  have hpush := inRows_push (v' := .slice (some ⟨gg, 0, none⟩) (n + 1) cap) hin hb (hs.on hb) hg7 (by
    rcases hloc with h | h
    · exact .inl h.symm
    · exact .inr (by rw [← h]; rfl))
  refine ⟨⟨svs ++ [sv], by rw [List.length_append, List.length_singleton, ← hn]; exact ho7, hpush⟩, owns_same5 hsv fun g hg => ?_, ((Below.refl base wr).alloc hbs o).grown hg7 (by simp; omega) (fun k e => (hrow.lt k e).1)⟩
  exact (hg7.block g (by have := (hsv.lt g hg).2; simp; omega) (fun e => hd g hg e.symm)).trans (hb.block g (hsv.lt g hg).2)
def MoRel (n : Nat) (L : List (List Int)) (w1 : World) (q : Nat) (o m more : Value) (wr : World) : Prop :=
  ∃ k : Nat, k + q = 2 ^ n ∧ more = .bool (decide (k < 2 ^ n)) ∧ (k < 2 ^ n → ∃ ms, (allM n)[k]? = some ms ∧ wr.ownsRow w1.heap.size 3 1 m n (ms.map (Value.int .i64))) ∧ OwnRows 22 w1.heap.size wr o (cells5 (firstM n L k)) ∧ Below w1.heap.size w1 wr
theorem made_nums5 (n : Nat) : (madeCells #[Value.int .i64 0] n).toList = List.replicate n (Value.int .i64 0) := by
  apply List.ext_getElem?
  intro i
  by_cases h : i < n
  · simp [madeCells, h, Nat.mod_one]
  · simp [madeCells, h]
set_option maxRecDepth 100000 in
set_option maxHeartbeats 1000000 in
theorem ref05_models {C : Nat} {v : Value} {L : List (List Int)} (n : Nat) (hn8 : n ≤ 8) (w : World) (hC : C ≤ w.heap.size) (hnl : L.length ≤ 1000000000) (hz : ∀ zs ∈ L, zs.length ≤ 1000000000) (hL : RowsI C w v L) :
    Calls Tryz.prog 58 #[.agg #[.int .i64 (n : Nat), v]] w fun e w' => ∃ v', e = .returned v' ∧ OwnRows 22 w.heap.size w' v' (cells5 (wantM n L)) ∧ Below w.heap.size w w' := by
  obtain ⟨i0, hi, hz0, hz1, hz2⟩ := info_parts infoInts5
  have hpow : 2 ^ n ≤ 256 := Nat.pow_le_pow_right (by omega) hn8
  obtain ⟨M, hM⟩ : ∃ M, 2 ^ n = M := ⟨_, rfl⟩
  obtain ⟨A, cap, rfl, -⟩ := hL.shape
  have b1 := below1a w (.cells #[.int .i64 (n : Nat), .slice A L.length cap] 40)
  have m1 := Whole.made w 40 #[.int .i64 (n : Nat), .slice A L.length cap]
  obtain ⟨w1, hw1⟩ : ∃ y, w.alloc (.cells #[.int .i64 (n : Nat), .slice A L.length cap] 40) = y := ⟨_, rfl⟩
  have hs1 : w1.heap.size = w.heap.size + 1 := by rw [← hw1]; simp
  rw [hw1] at b1 m1
  have c0 : w1.cell? ⟨w.heap.size, 0, none⟩ = some (.int .i64 (n : Nat)) := m1.cell 0
  have hfa : ∀ W mv ms, Below w1.heap.size w1 W → Ints W.heap.size W mv ms → Calls Tryz.prog 23 #[.agg #[.int .i64 (n : Nat), .slice A L.length cap], mv] W fun e w' => e = .returned (.int .i64 (failI ms 0 L)) ∧ Below W.heap.size W w' := fun W mv ms hb hm =>
    ref05_fails (C := W.heap.size) (n : Nat) W (Nat.le_refl _) hnl hz (((hL.below (b1.mono hC)).below (hb.mono (Nat.le_trans hC b1.size))).more (Nat.le_trans hC (Nat.le_trans b1.size hb.size))) hm
  have hmk : ∀ W : World, (Instr.makeSlice 22 (.int .i64 (n : Nat)) (.int .i64 (n : Nat))).run Tryz.prog W = .ok (.slice (some ⟨W.heap.size, 0, none⟩) n n) (W.alloc (.cells (madeCells #[.int .i64 0] n) 3)) := fun W => run_make_row' 22 3 (.int .i64 0) 8 Tryz.underlying22 infoInt5 rfl .i64 .i64 n (by omega) (by omega) W
  have hst : MoRel n L w1 (2 ^ n) (.slice none 0 0) (.slice (some ⟨w1.heap.size, 0, none⟩) n n) (.bool true) (w1.alloc (.cells (madeCells #[.int .i64 0] n) 3)) := by
    refine ⟨0, Nat.zero_add _, by rw [decide_eq_true (Nat.two_pow_pos n)], fun _ => ⟨_, allM_first n, ?_⟩, ownRows_nil _ _ _, below1a w1 _⟩
    have h1 := World.ownsRow_lit (base := w1.heap.size) (e := 3) (size := 1) w1 (madeCells #[.int .i64 0] n) n (Nat.le_refl _) (by unfold maxLen; omega) (by rw [← Array.length_toList, made_nums5]; simp)
    rw [made_nums5] at h1
    rw [List.map_replicate]
    exact h1
  have HB := Lib.hid b1; have HM1 := Lib.hid m1; have HW := Lib.hid hw1; have HFa := Lib.hid hfa; have HSt := Lib.hid hst; have HM := Lib.hid hM; have HS1 := Lib.hid hs1
  have hn0 : (0 : Int) ≤ (n : Int) := by omega
  have hn1 : (n : Int) ≤ 8 := by omega
  rw [hM] at hpow
  clear b1 m1 hw1 hL hz hfa hst hM hs1
  go_enter Tryz.func58, Tryz.ntmps58
  go_wp2_with fail
  rw [HW.out]
  go_wp2_with fail
  go_loopg [3, 4, 5] M (fun q o m more wr => MoRel n L w1 q o m more wr)
  case atStart => rw [← HS1.out, ← HM.out]; exact HSt.out
  case round =>
    clear HSt
    obtain ⟨k, hk, rfl, hmm, hown, hbw⟩ := hrel
    rw [HM.out] at hk hmm ⊢
    have hfl := firstM_len n L k
    rw [HM.out] at hfl
    by_cases hlt : k < M
    · obtain ⟨ms, hms, hmr⟩ := hmm hlt
      have hml := allM_mem_len n ms (List.mem_of_getElem? hms)
      obtain ⟨Am, cm, rfl⟩ := own_shape0 hmr
      have hmi : Ints wr.heap.size wr (.slice Am n cm) ms := (rowV_lits.1 (rowV_own hmr)).ints
      have hfa := HFa.out wr _ ms hbw hmi
      have hm1 := HM1.out.same (hbw.block _ HM1.out.lt)
      have d0 : wr.cell? ⟨w.heap.size, 0, none⟩ = some (.int .i64 (n : Nat)) := hm1.cell 0
      have d1 : wr.cell? ⟨w.heap.size, 1, none⟩ = some (.slice A L.length cap) := hm1.cell 1
      have hwant := want_snoc (L := L) hms
      have hnxt := allM_next n k ms hms
      obtain ⟨f, hf⟩ : ∃ f, failI ms 0 L = f := ⟨_, rfl⟩
      rw [hf] at hfa hwant
      have hd : decide (k < M) = true := decide_eq_true hlt
      have HFa2 := Lib.hid hfa; have HWant := Lib.hid hwant; have HNxt := Lib.hid hnxt; have HMr := Lib.hid hmr; have HOwn := Lib.hid hown; have HBw := Lib.hid hbw; have HMl := Lib.hid hml; have HF := Lib.hid hf; have HLt := Lib.hid hlt; have HK := Lib.hid hk; have HFl := Lib.hid hfl
      clear hfa hwant hnxt hmr hown hbw hml hf hmi hmm hm1 hms hlt hk hfl HFa c0
      rw [hd]
      clear hd
      go_wp2_with fail
      refine HFa2.out.mono ?_
      rintro e w2 ⟨rfl, hb2⟩
      have hown2 := OwnRows.on HOwn.out hb2
      obtain ⟨svs, hrow, hin⟩ := hown2
      rw [cells5_len] at hrow
      obtain ⟨Ao, co, rfl⟩ := own_shape0 hrow
      have hmr2 := owns_on5 HMr.out hb2
      have hbw2 := HBw.out.trans (hb2.mono HBw.out.size)
      obtain ⟨u, hu⟩ : ∃ u, (firstM n L k).length = u := ⟨_, rfl⟩
      have hul : u ≤ 256 := by rw [← hu]; exact Nat.le_trans HFl.out hpow
      rw [hu] at hrow hin ⊢
      have HRow := Lib.hid hrow; have HIn := Lib.hid hin; have HMr2 := Lib.hid hmr2; have HBw2 := Lib.hid hbw2; have HU := Lib.hid hu
      clear hrow hin hmr2 hbw2 hb2 hu HOwn HBw HMr
      -- what follows once the list is what it is
      have hrest : ∀ (O : List (List Int)) (o : Value) (W : World), firstM n L (k + 1) = O → OwnRows 22 w1.heap.size W o (cells5 O) → W.ownsRow w1.heap.size 3 1 (.slice Am n cm) n (ms.map (Value.int .i64)) → Below w1.heap.size w1 W →
          ∀ r w4, (∃ v, r = Ending.returned (.tuple #[v, .bool (nxtM ms).isSome]) ∧ w4.ownsRow W.heap.size 3 1 v ms.length (((nxtM ms).getD (List.replicate ms.length 0)).map (Value.int .i64)) ∧ Below W.heap.size W w4) →
          ∃ v, r = Ending.returned (.tuple #[v, .bool (decide (k + 1 < M))]) ∧ MoRel n L w1 (M - (k + 1)) o v (.bool (decide (k + 1 < M))) w4 := by
        rintro O o W hO hown hmr hb r w4 ⟨v, rfl, hv, hb4⟩
        have hsome : (nxtM ms).isSome = decide (k + 1 < M) := by
          rw [HNxt.out, Bool.eq_iff_iff, decide_eq_true_eq]
          constructor
          · intro h
            have := (List.getElem?_eq_some_iff.1 (Option.eq_some_of_isSome h)).1
            rw [allM_len, HM.out] at this
            exact this
          · intro h
            rw [List.getElem?_eq_getElem (by rw [allM_len, HM.out]; exact h)]
            rfl
        refine ⟨v, by rw [hsome], k + 1, by rw [HM.out]; have := HLt.out; omega, by rw [HM.out], fun h => ?_, ?_, hb.trans (hb4.mono hb.size)⟩
        · rw [HM.out] at h
          have hex : (allM n)[k + 1]? = some ((allM n)[k + 1]'(by rw [allM_len, HM.out]; exact h)) := List.getElem?_eq_getElem _
          refine ⟨_, hex, ?_⟩
          have h2 := HNxt.out.trans hex
          rw [h2, Option.getD_some, HMl.out] at hv
          exact owns_mono hv hb.size
        · rw [hO]; exact OwnRows.on hown hb4
      have HRest := Lib.hid hrest
      clear hrest
      by_cases hneg : f < 0
      · have hO : firstM n L (k + 1) = firstM n L k ++ [ms] := by unfold firstM; rw [HWant.out, if_pos hneg]
        have HO := Lib.hid hO
        clear hO
        go_wp2_with (at_builtin; refine wpList_append_lies _ rfl _ _ 23 rfl w1.heap.size 22 i0 (.slice none 0 0) 1 24 Tryz.underlying23 hi hz0 hz1 hz2 rfl (by decide) _ u svs rfl (HRow.out.alloc _) _ 1 1 [.slice Am n cm] rfl rfl (World.news_of_block (cs := #[.slice Am n cm]) (t := 22) (fr := (0, 0)) (heap_alloc_new _ _)) (by simp [Value.oneCell']) (by decide) (by unfold maxLen; omega) (by omega) (by have := HBw2.out.size; simp; omega) _ rfl ?_; intro gg cap' w3 hown3 hg3 hloc hl3)
        obtain ⟨q1, q2, q3⟩ := rows_push5 _ HRow.out HIn.out HBw2.out.size HMr2.out (by decide) hg3 hown3 hloc (by rw [cells5_len, HU.out])
        rw [← cells5_one] at q1
        have hnx := ref05_next (B := w3.heap.size) (mv := .slice Am n cm) (m := ms) w3 (Nat.le_refl _) (by rw [HMl.out]; omega) (rowV_lits.1 (rowV_own q2)).ints
        have hres := HRest.out _ _ w3 HO.out q1 q2 (HBw2.out.trans q3)
        have HNx := Lib.hid hnx; have HRes := Lib.hid hres
        clear hown3 hg3 hloc hl3 q1 q2 q3 hnx hres HRest
        go_wp2_with fail
        refine HNx.out.mono ?_
        intro e w4 h4
        obtain ⟨v4, rfl, h5⟩ := HRes.out _ _ h4
        have H5 := Lib.hid h5
        clear h4 h5 HRes HNx
        go_wp2_with fail
        go_roundg (M - (k + 1))
        case measure => have := HLt.out; have := HK.out; omega
        case rel => exact H5.out
      · have hO : firstM n L (k + 1) = firstM n L k := by unfold firstM; rw [HWant.out, if_neg hneg, List.append_nil]
        have hnx := ref05_next (B := w2.heap.size) (mv := .slice Am n cm) (m := ms) w2 (Nat.le_refl _) (by rw [HMl.out]; omega) (rowV_lits.1 (rowV_own HMr2.out)).ints
        have hres := HRest.out _ (.slice Ao u co) w2 hO ⟨svs, by rw [cells5_len, HU.out]; exact HRow.out, HIn.out⟩ HMr2.out HBw2.out
        have HNx := Lib.hid hnx; have HRes := Lib.hid hres
        clear hnx hres HRest hO
        go_wp2_with fail
        refine HNx.out.mono ?_
        intro e w4 h4
        obtain ⟨v4, rfl, h5⟩ := HRes.out _ _ h4
        have H5 := Lib.hid h5
        clear h4 h5 HRes HNx
        go_wp2_with fail
        go_roundg (M - (k + 1))
        case measure => have := HLt.out; have := HK.out; omega
        case rel => exact H5.out
    · have hd : decide (k < M) = false := decide_eq_false hlt
      obtain rfl : k = M := by omega
      have hall : firstM n L k = wantM n L := by unfold firstM wantM; rw [List.take_of_length_le (by rw [allM_len, HM.out]; exact Nat.le_refl _)]
      rw [hall] at hown
      have HOwn := Lib.hid hown; have HBw := Lib.hid hbw
      rw [hd]
      clear hmm hown hbw hall HFa hd hlt c0
      go_wp2_with fail
      go_ret
      exact ⟨_, rfl, OwnRows.less5 HOwn.out HB.out.size, HB.out.trans (HBw.out.mono HB.out.size)⟩
end Go.Proofs.YtgoflapolglfcaaGreat
