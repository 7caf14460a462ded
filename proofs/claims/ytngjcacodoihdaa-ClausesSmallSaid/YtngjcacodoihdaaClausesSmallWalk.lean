/- The walk of ClausesSmall. -/
import Derived.Test.YtngjcacodoihdaaClPair
import Derived.Test.YtngjcacodoihdaaSmallMath
import Derived.Deep.DeepCutAuto
import Derived.Deep.RegionHeld3
namespace Go.Proofs.Ytngjcacodoihdaa
open Go.RowKit Go.ChangeAt Go.ChangeShapes Go.WideShapes

/-- A slice of at most three numbers, in a block of its own. -/
def Blk3 (W : World) (u : Value) : Prop := ∃ b n x y z, u = .slice (some ⟨b, 0, none⟩) n 3 ∧ n ≤ 3 ∧ W.heap[b]? = some (.cells #[.int .i64 x, .int .i64 y, .int .i64 z] 3 (0, 0))
/-- A row of such slices. -/
def AllAt (B : Nat) (W : World) (o : Value) (m : Nat) : Prop := ∃ vs, vs.length = m ∧ W.ownsRow B 22 1 o m vs ∧ ∀ u ∈ vs, Blk3 W u
theorem infoInts : (Try.prog.info? 22).map (fun i => (i.zero, i.size, i.bytes)) = some (some (.slice none 0 0), 1, 24) := by kernel_rfl
theorem blk_far {W W2 : World} {o : Obj} {B m b : Nat} {v : Value} {vs : List Value} {arr : Array Value} (hb : W.heap[b]? = some (.cells arr 3 (0, 0))) (hrow : W.ownsRow B 22 1 v m vs) (hg : (W.alloc o).grownBy W2 v.ownBlock) : W2.heap[b]? = some (.cells arr 3 (0, 0)) := by
  have hlt := (Array.getElem?_eq_some_iff.1 hb).1
  rw [hg.block b (by simp; omega) ?_]
  · rw [(below1 W o).block b hlt]; exact hb
  · rcases hrow.2 with ⟨rfl, -⟩ | ⟨g, cap, cur, rfl, -, hgh, -⟩
    · intro e; cases e
    · intro e
      have e' : b = g := Option.some.inj e
      subst e'
      rw [hgh] at hb
      injection hb with hb
      injection hb with h1 h2
      exact absurd h2 (by decide)
theorem Blk3.ints {W : World} {u : Value} (h : Blk3 W u) : ∃ zs : List Int, zs.length ≤ 3 ∧ Ints W.heap.size W u zs := by
  obtain ⟨b, n, x, y, z, rfl, hn, hb⟩ := h
  have hlt := (Array.getElem?_eq_some_iff.1 hb).1
  have hl : ([x, y, z].take n).length = n := by rw [List.length_take]; simp; omega
  refine ⟨[x, y, z].take n, by omega, ?_⟩
  by_cases h0 : n = 0
  · subst h0; exact .inl ⟨_, _, rfl, (fun e => by cases e), rfl⟩
  · refine .inr ⟨b, 0, 3, by rw [hl], hlt, fun j hj => ?_⟩
    rw [hl] at hj
    rw [List.getElem?_take_of_lt hj, Nat.zero_add]
    simp only [World.cell?, hb]
    have h3 : j = 0 ∨ j = 1 ∨ j = 2 := by omega
    rcases h3 with rfl | rfl | rfl <;> rfl
theorem Blk3.on {W W' : World} {u : Value} (hb : Below W.heap.size W W') (h : Blk3 W u) : Blk3 W' u := by
  obtain ⟨b, n, x, y, z, rfl, hn, hx⟩ := h
  exact ⟨b, n, x, y, z, rfl, hn, (hb.block b (Array.getElem?_eq_some_iff.1 hx).1).trans hx⟩
theorem AllAt.on {B m : Nat} {W W' : World} {o : Value} (hb : Below W.heap.size W W') (h : AllAt B W o m) : AllAt B W' o m := by
  obtain ⟨vs, hl, hr, hu⟩ := h
  exact ⟨vs, hl, owns_on hr hb, fun u h => (hu u h).on hb⟩
/-- One slice more. -/
theorem AllAt.more {B m n gl : Nat} {W W2 : World} {o v' : Value} {vs : List Value} {x y z : Int} {ob : Obj} (hl : vs.length = m) (hr : W.ownsRow B 22 1 o m vs) (hu : ∀ u ∈ vs, Blk3 W u) (hn : n ≤ 3) (hg : W.heap[gl]? = some (.cells #[.int .i64 x, .int .i64 y, .int .i64 z] 3 (0, 0)))
    (hgr : (W.alloc ob).grownBy W2 o.ownBlock) (hown : W2.ownsRow B 22 1 v' (m + 1) (vs ++ [.slice (some ⟨gl, 0, none⟩) n 3])) : AllAt B W2 v' (m + 1) := by
  refine ⟨_, by simp [hl], hown, fun u h => ?_⟩
  rcases List.mem_append.1 h with h | h
  · obtain ⟨b, n', x', y', z', rfl, hn', hx'⟩ := hu u h
    exact ⟨b, n', x', y', z', rfl, hn', blk_far hx' hr hgr⟩
  · rw [List.mem_singleton] at h
    exact ⟨gl, n, x, y, z, h, hn, blk_far hg hr hgr⟩
def five (j : Nat) : Int := if j = 0 then 1 else if j = 1 then -1 else if j = 2 then 2 else if j = 3 then -2 else 0
theorem row_form {W : World} {B m : Nat} {e : TypeId} {v : Value} {vs : List Value} (h : W.ownsRow B e 1 v m vs) (h0 : 0 < m) : ∃ g cap, v = .slice (some ⟨g, 0, none⟩) m cap ∧ g < W.heap.size ∧ ∀ (j : Nat) (u : Value), vs[j]? = some u → W.cell? ⟨g, j, none⟩ = some u := by
  have h' := h
  rcases h.2 with ⟨-, h1⟩ | ⟨g, cap, cur, rfl, -, hg, -⟩
  · omega
  · refine ⟨g, cap, rfl, (Array.getElem?_eq_some_iff.1 hg).1, fun j u hj => ?_⟩
    have hl := h'.1
    have hlt := (List.getElem?_eq_some_iff.1 hj).1
    rw [h'.cellAt j (by omega)]
    exact hj
theorem five_ints {W : World} {gf : Nat} (h : ∀ j, j < 5 → W.cell? ⟨gf, j, none⟩ = some (.int .i64 (five j))) (hlt : gf < W.heap.size) : Ints W.heap.size W (.slice (some ⟨gf, 0, none⟩) 5 5) [1, -1, 2, -2, 0] := by
  refine .inr ⟨gf, 0, 5, rfl, hlt, fun j hj => ?_⟩
  have hj' : j < 5 := by simpa using hj
  rw [Nat.zero_add, h j hj']
  have h5 : j = 0 ∨ j = 1 ∨ j = 2 ∨ j = 3 ∨ j = 4 := by omega
  rcases h5 with rfl | rfl | rfl | rfl | rfl <;> rfl
def SmRel (w : World) (n : Nat) (i : Value) (wr : World) : Prop := ∃ k : Nat, k ≤ n ∧ i = .int .i64 k ∧ Below w.heap.size w wr
def TestCut (wr : World) (s : Value) (wx : World) : Prop := s = .bool false ∧ Below wr.heap.size wr wx
theorem lits_part {W : World} {B m g cap cap' a n : Nat} {e : TypeId} {l : List Int} (h : W.ownsRow B e 1 (.slice (some ⟨g, 0, none⟩) m cap) m (l.map (Value.int .i64))) (h1 : a + n ≤ m) (_ : 0 < n) : Lits W.heap.size W (.slice (some ⟨g, a, none⟩) n cap') ((l.drop a).take n) := by
  have hlm : l.length = m := by have := h.1; simpa using this
  have hln : ((l.drop a).take n).length = n := by rw [List.length_take, List.length_drop]; omega
  have hg : g < W.heap.size := (h.lt g rfl).2
  refine .inr ⟨g, a, cap', by rw [hln], hg, fun j hj => ?_⟩
  have hj' : j < n := by rw [List.size_toArray, hln] at hj; exact hj
  rw [bang_get]
  refine ⟨?_, h.frozenAt _⟩
  rw [h.cellAt (a + j) (by omega), List.getElem?_map, List.getElem?_take_of_lt hj', List.getElem?_drop, List.getElem?_eq_getElem (by omega)]
  rfl
theorem union_e {B : Nat} {xv yv : Value} {xs ys : List Int} {f : Int} {w : World} (hx : xs.length ≤ 10000) (hy : ys.length ≤ 10000) (hB : B ≤ w.heap.size) (hI : Lits B w xv xs) (hJ : Lits B w yv ys) (hf : (if rightB xs && rightB ys then manyE (xs ++ ys) else 20) = f) :
    Calls Try.prog 16 #[xv, yv] w fun e w' => ∃ v, e = .returned (.tuple #[v, .int .i64 f]) ∧ Below w.heap.size w w' := by
  subst hf
  exact (clunion_any B xv yv xs ys hx hy w hB hI hJ).mono fun e w' ⟨v, he, _, hb⟩ => ⟨v, he, hb⟩
theorem resolve_e {B : Nat} {xv yv : Value} {xs ys : List Int} {l f : Int} {w : World} (hx : xs.length ≤ 10000) (hy : ys.length ≤ 10000) (hB : B ≤ w.heap.size) (hI : Lits B w xv xs) (hJ : Lits B w yv ys) (hf : clResE xs ys l = f) :
    Calls Try.prog 17 #[xv, yv, .int .i64 l] w fun e w' => ∃ v, e = .returned (.tuple #[v, .int .i64 f]) ∧ Below w.heap.size w w' := by
  subst hf
  exact (clresolve_any B xv yv xs ys l hx hy w hB hI hJ).mono fun e w' ⟨v, he, _, hb⟩ => ⟨v, he, hb⟩
def six (j : Nat) : Int := if j = 0 then -9223372036854775808 else if j = 1 then -1048577 else if j = 2 then -1048576 else if j = 3 then 1048576 else if j = 4 then 1048577 else 9223372036854775807
def LongRel (w : World) (o i : Value) (wr : World) : Prop := ∃ k : Nat, k ≤ 4097 ∧ i = .int .i64 k ∧ wr.ownsRow w.heap.size 3 1 o k ((fromL 1 k).map (Value.int .i64)) ∧ Below w.heap.size w wr
def Cut4 (wr : World) (s4 : Value) (wx : World) : Prop := ∃ gl x y z, s4 = .slice (some ⟨gl, 0, none⟩) 3 3 ∧ wx.heap[gl]? = some (.cells #[.int .i64 x, .int .i64 y, .int .i64 z] 3 (0, 0)) ∧ Below wr.heap.size wr wx
def All1 (w1 : World) (o i : Value) (wr : World) : Prop := ∃ k : Nat, k ≤ 125 ∧ i = .int .i64 k ∧ AllAt w1.heap.size wr o (4 * k) ∧ Below w1.heap.size w1 wr
def All2 (w1 : World) (k gl : Nat) (arr : Array Value) (o i : Value) (wr : World) : Prop := ∃ j : Nat, j ≤ 4 ∧ i = .int .i64 j ∧ AllAt w1.heap.size wr o (4 * k + j) ∧ wr.heap[gl]? = some (.cells arr 3 (0, 0)) ∧ Below w1.heap.size w1 wr

set_option maxRecDepth 100000 in
set_option maxHeartbeats 16000000 in
theorem small_core (w : World) : Calls Try.prog 5 #[] w fun e w' => e = .returned (.bool true) ∧ Below w.heap.size w w' := by
  obtain ⟨i1, hi, hz0, hz1, hz2⟩ := info_parts infoInts
  go_enter Try.func5, Try.ntmps5
  go_wp2_with fail
  have hf : ∀ j, j < 5 → (w.alloc (.cells #[.int .i64 1, .int .i64 (-1), .int .i64 2, .int .i64 (-2), .int .i64 0] 3)).cell? ⟨w.heap.size, j, none⟩ = some (.int .i64 (five j)) := fun j hj => by
    have h5 : j = 0 ∨ j = 1 ∨ j = 2 ∨ j = 3 ∨ j = 4 := by omega
    rcases h5 with rfl | rfl | rfl | rfl | rfl <;> exact World.cell?_alloc_new _ _ _ _
  have hB1 := below1 w (.cells #[.int .i64 1, .int .i64 (-1), .int .i64 2, .int .i64 (-2), .int .i64 0] 3)
  have hsz : w.heap.size < (w.alloc (.cells #[.int .i64 1, .int .i64 (-1), .int .i64 2, .int .i64 (-2), .int .i64 0] 3)).heap.size := by simp
  obtain ⟨w1, hw1⟩ : ∃ x, w.alloc (.cells #[.int .i64 1, .int .i64 (-1), .int .i64 2, .int .i64 (-2), .int .i64 0] 3) = x := ⟨_, rfl⟩
  obtain ⟨gf, hgf⟩ : ∃ x, w.heap.size = x := ⟨_, rfl⟩
  rw [hw1] at hf hB1 hsz ⊢
  rw [hgf] at hf hsz ⊢
  have HF := Lib.hid hf; clear hf hw1
  go_loopw [2, 25] (fun o i wr => All1 w1 o i wr) (fun _ i _ => 125 - (intOf i).toNat)
  case atStart => exact ⟨0, by omega, rfl, ⟨[], rfl, World.ownsRow_nil _ _ _ _, fun u h => by cases h⟩, Below.refl _ _⟩
  case round =>
    obtain ⟨k, hk, rfl, hall, hbr⟩ := hrel
    by_cases hlt : k < 125
    · have hcell : ∀ j, j < 5 → wr.cell? ⟨gf, j, none⟩ = some (.int .i64 (five j)) := fun j hj => (hbr.cell (p := ⟨gf, j, none⟩) hsz).trans (HF.out j hj)
      have HA := Lib.hid hall; clear hall
      have h1 : (k : Int).tmod 5 = ((k % 5 : Nat) : Int) := by rw [Int.tmod_eq_emod_of_nonneg (by omega)]; omega
      have h2 : (k : Int).tdiv 5 = ((k / 5 : Nat) : Int) := by rw [Int.tdiv_eq_ediv_of_nonneg (by omega)]; omega
      have h3 : ((k / 5 : Nat) : Int).tmod 5 = ((k / 5 % 5 : Nat) : Int) := by rw [Int.tmod_eq_emod_of_nonneg (by omega)]; omega
      have h4 : (k : Int).tdiv 25 = ((k / 25 : Nat) : Int) := by rw [Int.tdiv_eq_ediv_of_nonneg (by omega)]; omega
      have ha := hcell (k % 5) (by omega)
      have hb := hcell (k / 5 % 5) (by omega)
      have hc := hcell (k / 25) (by omega)
      clear hcell
      have hA5 : k % 5 < 5 := by omega
      have hB5 : k / 5 % 5 < 5 := by omega
      have hC5 : k / 25 < 5 := by omega
      have hD5 : k / 5 ≤ 125 := by omega
      obtain ⟨p, hp⟩ : ∃ p, k % 5 = p := ⟨_, rfl⟩
      obtain ⟨q, hq⟩ : ∃ q, k / 5 % 5 = q := ⟨_, rfl⟩
      obtain ⟨d, hd⟩ : ∃ d, k / 5 = d := ⟨_, rfl⟩
      obtain ⟨r, hr⟩ : ∃ r, k / 25 = r := ⟨_, rfl⟩
      rw [hp] at h1 ha hA5
      rw [hq] at h3 hb hB5
      rw [hd] at h2 h3 hD5
      rw [hr] at h4 hc hC5
      obtain ⟨x, hx⟩ : ∃ x, five p = x := ⟨_, rfl⟩
      obtain ⟨y, hy⟩ : ∃ y, five q = y := ⟨_, rfl⟩
      obtain ⟨z, hz⟩ : ∃ z, five r = z := ⟨_, rfl⟩
      rw [hx] at ha
      rw [hy] at hb
      rw [hz] at hc
      clear hp hq hd hr hx hy hz
      have hp1 : (p : Int) < 5 := by omega
      have hq1 : (q : Int) < 5 := by omega
      have hr1 : (r : Int) < 5 := by omega
      have hw5 : ∀ n : Nat, n < 5 → IntKind.i64.wrap (n : Int) = (n : Int) := fun n h => by rw [IntKind.wrap_i64]; omega
      have hwp := hw5 p hA5
      have hwq := hw5 q hB5
      have hwr := hw5 r hC5
      have hwd : IntKind.i64.wrap (d : Int) = (d : Int) := by rw [IntKind.wrap_i64]; omega
      clear hw5
      go_upto_region 6 with fail
      go_cut [4] (fun s4 wx => Cut4 wr s4 wx)
      case first =>
        go_region_held3 (fun w' => w'.cell? ⟨gf, p, none⟩ = some (.int .i64 x) ∧ w'.cell? ⟨gf, q, none⟩ = some (.int .i64 y) ∧ w'.cell? ⟨gf, r, none⟩ = some (.int .i64 z)) (go_keep) (fail)
        all_goals
          go_simp
          go_wp2_with fail
          go_meet
          exact ⟨_, _, _, _, rfl, World.alloc_heap_new wr _, (below1 wr _).drew⟩
      case rest =>
        obtain ⟨gl, x, y, z, rfl, hgl, hbc⟩ := hcut
        have hall0 := HA.out.on hbc
        have hbw0 := hbr.trans (hbc.mono hbr.size)
        have HGl := Lib.hid hgl; have HA0 := Lib.hid hall0; clear hgl hall0 HA hbr hbc h1 h2 h3 h4 ha hb hc hwp hwq hwr hwd
        go_wp2_with fail
        go_loopw [2, 45] (fun o i wr => All2 w1 k gl #[.int .i64 x, .int .i64 y, .int .i64 z] o i wr) (fun _ i _ => 4 - (intOf i).toNat)
        case atStart => exact ⟨0, by omega, rfl, HA0.out, HGl.out, hbw0⟩
        case round =>
          obtain ⟨j, hj, rfl, ⟨vs, hvl, hrow, hvs⟩, hgl, hb2⟩ := hrel
          by_cases hjl : j < 4
          · have hj3 : (j : Int) ≤ 3 := by omega
            have hj0 : j ≤ 3 := by omega
            have HR := Lib.hid hrow; have HV := Lib.hid hvs; have HG := Lib.hid hgl; have HL := Lib.hid hvl; clear hrow hvs hgl hvl
            go_wp2_with (at_builtin; refine wpList_append_own _ rfl _ _ 26 rfl w1.heap.size 22 i1 (.slice none 0 0) 1 24 Try.underlying26 hi hz0 hz1 hz2 rfl (by decide) _ _ _ rfl (HR.out.alloc _) ⟨wr.heap.size, 0, none⟩ 1 1 [.slice (some ⟨gl, 0, none⟩) j 3] rfl rfl (cell_one_new _ _ _) (by simp [Value.oneCell']) (by unfold maxLen; omega) (by omega) (by have := hb2.size; simp; omega) ?_; intro v' w2 hown' hgrow _)
            have hmore := AllAt.more HL.out HR.out HV.out hj0 HG.out hgrow hown'
            have hg2 := blk_far HG.out HR.out hgrow
            have hbn : Below w1.heap.size w1 w2 := (hb2.alloc hb2.size _).grown hgrow (by have := hb2.size; simp; omega) (fun i e => (HR.out.lt i e).1)
            clear hown' hgrow
            go_roundw
            case rel => exact ⟨j + 1, by omega, by go_num, hmore, hg2, hbn⟩
            case measure => simp [intOf]; omega
          · obtain rfl : j = 4 := by omega
            have HA2 := Lib.hid (⟨vs, hvl, hrow, hvs⟩ : AllAt w1.heap.size wr _ (4 * k + 4)); clear hvl hrow hvs hgl
            go_wp2_with fail
            go_roundw
            case rel => exact ⟨k + 1, by omega, by go_num, HA2.out, hb2⟩
            case measure => simp [intOf]; omega
    · obtain rfl : k = 125 := by omega
      obtain ⟨vs, hvl, hrow, hvs⟩ := hall
      obtain ⟨g, cap, rfl, hgl, hvc⟩ := row_form hrow (by omega)
      have hfi := (five_ints HF.out hsz).on hbr
      have hcell3 : ∀ j, j < 5 → wr.cell? ⟨gf, j, none⟩ = some (.int .i64 (five j)) := fun j hj => (hbr.cell (p := ⟨gf, j, none⟩) hsz).trans (HF.out j hj)
      have hgf3 : gf < wr.heap.size := Nat.lt_of_lt_of_le hsz hbr.size
      have hbw := hB1.trans (hbr.mono hB1.size)
      obtain ⟨w3, rfl⟩ : ∃ x, x = wr := ⟨_, rfl⟩
      rw [show 4 * 125 = 500 from rfl] at hvl ⊢
      have HVc := Lib.hid hvc; have HVs := Lib.hid hvs; have HVl := Lib.hid hvl; have HFi := Lib.hid hfi; have HCf := Lib.hid hcell3; clear hvc hvs hvl hfi hcell3 HF hrow hlt hk hbr hsz hB1
      go_wp2_with fail
      go_loopw [58] (fun i wr => SmRel w3 500 i wr) (fun i _ => 500 - (intOf i).toNat)
      case atStart => exact ⟨0, by omega, rfl, Below.refl _ _⟩
      case round =>
        obtain ⟨i, hi5, rfl, hb3⟩ := hrel
        by_cases hil : i < 500
        · have hvi := List.getElem?_eq_getElem (l := vs) (i := i) (by have := HVl.out; omega)
          have hmi := List.getElem_mem (l := vs) (n := i) (by have := HVl.out; omega)
          obtain ⟨u, hu⟩ : ∃ u, vs[i]'(by have := HVl.out; omega) = u := ⟨_, rfl⟩
          rw [hu] at hvi hmi
          clear hu
          have hcu : wr.cell? ⟨g, i, none⟩ = some u := (hb3.cell (p := ⟨g, i, none⟩) hgl).trans (HVc.out i u hvi)
          obtain ⟨zs, hzl, hzi⟩ := (HVs.out u hmi).ints
          have hzr := hzi.on hb3
          have HZ := Lib.hid hzr; clear hzr hzi hvi hmi
          have h1 : (i : Int).tmod 5 = ((i % 5 : Nat) : Int) := by rw [Int.tmod_eq_emod_of_nonneg (by omega)]; omega
          have h2 : (i : Int).tdiv 5 = ((i / 5 : Nat) : Int) := by rw [Int.tdiv_eq_ediv_of_nonneg (by omega)]; omega
          have h3 : ((i / 5 : Nat) : Int).tmod 5 = ((i / 5 % 5 : Nat) : Int) := by rw [Int.tmod_eq_emod_of_nonneg (by omega)]; omega
          have ha := (hb3.cell (p := ⟨gf, i % 5, none⟩) hgf3).trans (HCf.out (i % 5) (by omega))
          have hb := (hb3.cell (p := ⟨gf, i / 5 % 5, none⟩) hgf3).trans (HCf.out (i / 5 % 5) (by omega))
          have hA5 : i % 5 < 5 := by omega
          have hB5 : i / 5 % 5 < 5 := by omega
          have hD5 : i / 5 ≤ 500 := by omega
          obtain ⟨p, hp⟩ : ∃ p, i % 5 = p := ⟨_, rfl⟩
          obtain ⟨q, hq⟩ : ∃ q, i / 5 % 5 = q := ⟨_, rfl⟩
          obtain ⟨d, hd⟩ : ∃ d, i / 5 = d := ⟨_, rfl⟩
          rw [hp] at h1 ha hA5
          rw [hq] at h3 hb hB5
          rw [hd] at h2 h3 hD5
          obtain ⟨x, hx⟩ : ∃ x, five p = x := ⟨_, rfl⟩
          obtain ⟨y, hy⟩ : ∃ y, five q = y := ⟨_, rfl⟩
          rw [hx] at ha
          rw [hy] at hb
          clear hp hq hd hx hy
          have hp1 : (p : Int) < 5 := by omega
          have hq1 : (q : Int) < 5 := by omega
          have hwp : IntKind.i64.wrap (p : Int) = (p : Int) := by rw [IntKind.wrap_i64]; omega
          have hwq : IntKind.i64.wrap (q : Int) = (q : Int) := by rw [IntKind.wrap_i64]; omega
          have hwd : IntKind.i64.wrap (d : Int) = (d : Int) := by rw [IntKind.wrap_i64]; omega
          have hil0 : (i : Int) < 500 := by omega
          have hbA := (below1 wr (.cells #[.int .i64 y] 3)).drew
          have HOne := Lib.hid (one_any u (.slice (some ⟨wr.heap.size, 0, none⟩) 1 1) zs [y] x (by omega) (by simp) ((wr.alloc (.cells #[.int .i64 y] 3)).drew) (HZ.out.on hbA) ((lits_laid wr [y] 3).ints.on ((Below.refl _ _).drew)))
          have HTwo : Hid (∀ W, Below wr.heap.size wr W → Calls Try.prog 12 #[u, .int .i64 0, .slice (some ⟨gf, 0, none⟩) 5 5] W fun e w' => e = .returned (.bool true) ∧ Below W.heap.size W w') := fun W hb => one_any u _ zs [1, -1, 2, -2, 0] 0 (by omega) (by simp) W (HZ.out.on hb) ((HFi.out.on hb3).on hb)
          have HbA := Lib.hid hbA; clear hbA
          have ea := World.new_ne wr _ ha
          have eb := World.new_ne wr _ hb
          go_upto_region 16 with fail
          go_cut [83] (fun s83 wx => TestCut wr s83 wx)
          case first =>
            have hgr : gf < wr.heap.size := Nat.lt_of_lt_of_le hgf3 hb3.size
            go_region_held3 (fun w' => w'.cell? ⟨gf, p, none⟩ = some (.int .i64 x) ∧ w'.cell? ⟨gf, q, none⟩ = some (.int .i64 y)) (first | go_keep | exact ⟨(hb6.cell (p := ⟨gf, p, none⟩) hgr).trans ha, (hb6.cell (p := ⟨gf, q, none⟩) hgr).trans hb⟩ | exact ⟨(hb5.cell (p := ⟨gf, p, none⟩) hgr).trans ha, (hb5.cell (p := ⟨gf, q, none⟩) hgr).trans hb⟩) (first
              | (go_at_call 12; (with_reducible refine (HOne.out).mono ?_); rintro e w5 ⟨rfl, hB5⟩; have hb5 := HbA.out.trans (hB5.mono HbA.out.size); have HTw := Lib.hid (HTwo.out w5 hb5); clear hB5)
              | (go_at_call 12; (with_reducible refine (HTw.out).mono ?_); rintro e w6 ⟨rfl, hB6⟩; have hb6 := hb5.trans (hB6.mono hb5.size); clear hB6))
            all_goals (go_simp; go_wp2_with fail; go_meet; exact ⟨rfl, hb6⟩)
          case rest =>
            obtain ⟨rfl, hbc⟩ := hcut
            have hz4 := HZ.out.on hbc
            have hb4 := hb3.trans (hbc.mono hb3.size)
            have HZ4 := Lib.hid hz4; clear ea eb hz4 HOne HTwo HbA HZ h1 h2 h3 ha hb hwp hwq hwd hcu hbc hb3
            go_wp2_with fail
            go_loopw [84] (fun j wr => SmRel wc 40 j wr) (fun j _ => 40 - (intOf j).toNat)
            case atStart => exact ⟨0, by omega, rfl, Below.refl _ _⟩
            case round =>
              obtain ⟨k, hk4, rfl, hb5⟩ := hrel
              by_cases hkl : k < 40
              · have hkk : (k : Int) * (k : Int) = ((k * k : Nat) : Int) := (Int.natCast_mul _ _).symm
                have hkb : k * k ≤ 1600 := Nat.le_trans (Nat.mul_le_mul (show k ≤ 40 by omega) (show k ≤ 40 by omega)) (by decide)
                obtain ⟨s, hs⟩ : ∃ s, k * k = s := ⟨_, rfl⟩
                rw [hs] at hkk hkb
                clear hs
                obtain ⟨p2, hp2⟩ : ∃ p2, (i + s + k) % 500 = p2 := ⟨_, rfl⟩
                obtain ⟨q2, hq2⟩ : ∃ q2, (i + k) % 5 = q2 := ⟨_, rfl⟩
                have hp5 : p2 < 500 := by omega
                have hq5 : q2 < 5 := by omega
                have e1 : IntKind.i64.wrap ((k : Int) * (k : Int)) = (s : Int) := by rw [hkk, IntKind.wrap_i64]; omega
                have e2 : IntKind.i64.wrap ((i : Int) + (s : Int)) = ((i + s : Nat) : Int) := by rw [IntKind.wrap_i64]; omega
                have e3 : IntKind.i64.wrap (((i + s : Nat) : Int) + (k : Int)) = ((i + s + k : Nat) : Int) := by rw [IntKind.wrap_i64]; omega
                have e4 : ((i + s + k : Nat) : Int).tmod 500 = (p2 : Int) := by rw [Int.tmod_eq_emod_of_nonneg (by omega)]; omega
                have e5 : IntKind.i64.wrap ((i : Int) + (k : Int)) = ((i + k : Nat) : Int) := by rw [IntKind.wrap_i64]; omega
                have e6 : ((i + k : Nat) : Int).tmod 5 = (q2 : Int) := by rw [Int.tmod_eq_emod_of_nonneg (by omega)]; omega
                clear hp2 hq2 hkk
                obtain ⟨t1, ht1⟩ : ∃ t, i + s = t := ⟨_, rfl⟩
                rw [ht1] at e2 e3 e4
                obtain ⟨t2, ht2⟩ : ∃ t, t1 + k = t := ⟨_, rfl⟩
                rw [ht2] at e3 e4
                obtain ⟨t3, ht3⟩ : ∃ t, i + k = t := ⟨_, rfl⟩
                rw [ht3] at e5 e6
                have e7 : IntKind.i64.wrap (p2 : Int) = (p2 : Int) := by rw [IntKind.wrap_i64]; omega
                have e8 : IntKind.i64.wrap (q2 : Int) = (q2 : Int) := by rw [IntKind.wrap_i64]; omega
                have hp6 : (p2 : Int) < 500 := by omega
                have hq6 : (q2 : Int) < 5 := by omega
                clear ht1 ht2 ht3
                have hb6 := hb4.trans (hb5.mono hb4.size)
                have hvi := List.getElem?_eq_getElem (l := vs) (i := p2) (by have := HVl.out; omega)
                have hmi := List.getElem_mem (l := vs) (n := p2) (by have := HVl.out; omega)
                obtain ⟨u2, hu2⟩ : ∃ u, vs[p2]'(by have := HVl.out; omega) = u := ⟨_, rfl⟩
                rw [hu2] at hvi hmi
                clear hu2
                have hc2 : wr.cell? ⟨g, p2, none⟩ = some u2 := (hb6.cell (p := ⟨g, p2, none⟩) hgl).trans (HVc.out p2 u2 hvi)
                obtain ⟨zs2, hzl2, hzi2⟩ := (HVs.out u2 hmi).ints
                have hcz := (hb6.cell (p := ⟨gf, q2, none⟩) hgf3).trans (HCf.out q2 hq5)
                obtain ⟨z2, hz2'⟩ : ∃ z, five q2 = z := ⟨_, rfl⟩
                rw [hz2'] at hcz
                clear hz2'
                have hdr := (Below.refl wr.heap.size wr).drew
                have HP := Lib.hid (pair_any u u2 zs zs2 z2 (by omega) (by omega) wr.drew ((HZ4.out.on hb5).on hdr) ((hzi2.on hb6).on hdr))
                clear hzi2 hvi hmi hdr
                go_upto_region 21 with fail
                go_cut [109] (fun s109 wx => TestCut wr s109 wx)
                case first =>
                  go_region_with (go_at_call 14; (with_reducible refine (HP.out).mono ?_); rintro e w6 ⟨rfl, hB6⟩)
                  all_goals (go_simp; go_wp2_with fail; go_meet; exact ⟨rfl, ((Below.refl _ _).drew).trans hB6⟩)
                case rest =>
                  obtain ⟨rfl, hbd⟩ := hcut
                  clear e1 e2 e3 e4 e5 e6 e7 e8 hc2 hcz HP
                  go_wp2_with fail
                  go_roundw
                  case rel => exact ⟨k + 1, by omega, by go_num, hb5.trans (hbd.mono hb5.size)⟩
                  case measure => simp [intOf]; omega
              · obtain rfl : k = 40 := by omega
                go_wp2_with fail
                go_roundw
                case rel => exact ⟨i + 1, by omega, by go_num, hb4.trans (hb5.mono hb4.size)⟩
                case measure => simp [intOf]; omega
        · obtain rfl : i = 500 := by omega
          have hbt := hbw.trans (hb3.mono hbw.size)
          have hB5 := below1 wr (.cells #[.int .i64 (-9223372036854775808), .int .i64 (-1048577), .int .i64 (-1048576), .int .i64 1048576, .int .i64 1048577, .int .i64 9223372036854775807] 3)
          have hx6 : ∀ j, j < 6 → (wr.alloc (.cells #[.int .i64 (-9223372036854775808), .int .i64 (-1048577), .int .i64 (-1048576), .int .i64 1048576, .int .i64 1048577, .int .i64 9223372036854775807] 3)).cell? ⟨wr.heap.size, j, none⟩ = some (.int .i64 (six j)) := fun j hj => by
            have h6 : j = 0 ∨ j = 1 ∨ j = 2 ∨ j = 3 ∨ j = 4 ∨ j = 5 := by omega
            rcases h6 with rfl | rfl | rfl | rfl | rfl | rfl <;> exact World.cell?_alloc_new _ _ _ _
          have hs6 : wr.heap.size < (wr.alloc (.cells #[.int .i64 (-9223372036854775808), .int .i64 (-1048577), .int .i64 (-1048576), .int .i64 1048576, .int .i64 1048577, .int .i64 9223372036854775807] 3)).heap.size := by simp
          have hbt5 := hbt.trans (hB5.mono hbt.size)
          go_wp2_with fail
          obtain ⟨w5, hw5⟩ : ∃ x, wr.alloc (.cells #[.int .i64 (-9223372036854775808), .int .i64 (-1048577), .int .i64 (-1048576), .int .i64 1048576, .int .i64 1048577, .int .i64 9223372036854775807] 3) = x := ⟨_, rfl⟩
          obtain ⟨g5, hg5⟩ : ∃ x, wr.heap.size = x := ⟨_, rfl⟩
          rw [hw5] at hx6 hs6 hbt5 ⊢
          rw [hg5] at hx6 hs6 ⊢
          have HX6 := Lib.hid hx6; clear hx6 hB5 hw5 hbt hb3 hil hi5 HVc HVs HVl HFi HCf
          go_loopw [114] (fun i wr => SmRel w5 6 i wr) (fun i _ => 6 - (intOf i).toNat)
          case atStart => exact ⟨0, by omega, rfl, Below.refl _ _⟩
          case round =>
            obtain ⟨k, hk6, rfl, hb6⟩ := hrel
            by_cases hkl : k < 6
            · have hcx := (hb6.cell (p := ⟨g5, k, none⟩) hs6).trans (HX6.out k hkl)
              obtain ⟨x, hx⟩ : ∃ x, six k = x := ⟨_, rfl⟩
              rw [hx] at hcx
              clear hx
              obtain ⟨y, hy⟩ : ∃ y, IntKind.i64.wrap (-x) = y := ⟨_, rfl⟩
              have hk60 : (k : Int) < 6 := by omega
              have HOne := Lib.hid (one_any _ _ [1, x] [x] x (by simp) (by simp) ((wr.alloc (.cells #[.int .i64 1, .int .i64 x] 3)).alloc (.cells #[.int .i64 x] 3)) (lits_first wr [1, x] 3 (.cells #[.int .i64 x] 3)).ints (lits_laid2 wr (.cells #[.int .i64 1, .int .i64 x] 3) [x] 3).ints)
              go_wp2_with fail
              refine (HOne.out).mono ?_
              rintro e w6 ⟨rfl, hB6⟩
              have hb7 : Below wr.heap.size wr w6 := (below2 wr _ _).trans (hB6.mono (by simp; omega))
              clear hB6 HOne
              have HP := Lib.hid (pair_any _ _ [x, 2] [1, y] x (by simp) (by simp) ((w6.alloc (.cells #[.int .i64 x, .int .i64 2] 3)).alloc (.cells #[.int .i64 1, .int .i64 y] 3)) (lits_first w6 [x, 2] 3 (.cells #[.int .i64 1, .int .i64 y] 3)).ints (lits_laid2 w6 (.cells #[.int .i64 x, .int .i64 2] 3) [1, y] 3).ints)
              go_wp2_with fail
              refine (HP.out).mono ?_
              rintro e w7 ⟨rfl, hB7⟩
              have hb8 : Below w6.heap.size w6 w7 := (below2 w6 _ _).trans (hB7.mono (by simp; omega))
              clear hB7 HP hy
              go_wp2_with fail
              go_roundw
              case rel => first | exact ⟨k + 1, by omega, by go_num, (hb6.trans (hb7.mono hb6.size)).trans (hb8.mono (Nat.le_trans hb6.size hb7.size))⟩ | ((repeat apply Exists.intro); exact ⟨⟨k + 1, by omega, by go_num, (hb6.trans (hb7.mono hb6.size)).trans (hb8.mono (Nat.le_trans hb6.size hb7.size))⟩, rfl⟩)
              case measure => simp [intOf]; omega
            · obtain rfl : k = 6 := by omega
              have hbt6 := hbt5.trans (hb6.mono hbt5.size)
              clear HX6 hb6 hbt5 hs6
              obtain ⟨w8, rfl⟩ : ∃ x, x = wr := ⟨_, rfl⟩
              obtain ⟨i3, hi3, hy0, hy1, hy2⟩ := info_parts infoInt
              go_wp2_with fail
              go_loopw [11, 136] (fun o i wr => LongRel w8 o i wr) (fun _ i _ => 4097 - (intOf i).toNat)
              case atStart => exact ⟨0, by omega, rfl, World.ownsRow_nil _ _ _ _, Below.refl _ _⟩
              case round =>
                obtain ⟨k, hk9, rfl, hrow, hb9⟩ := hrel
                by_cases hkl : k < 4097
                · have HR := Lib.hid hrow; clear hrow
                  have hsn := fromL_snoc 1 k
                  rw [Int.add_comm] at hsn
                  have HS := Lib.hid hsn; clear hsn
                  go_wp2_with (at_builtin; refine wpList_append_own _ rfl _ _ 22 rfl w8.heap.size 3 i3 (.int .i64 0) 1 8 Try.underlying22 hi3 hy0 hy1 hy2 rfl (by decide) _ _ _ rfl (HR.out.alloc _) ⟨wr.heap.size, 0, none⟩ 1 1 [.int .i64 ((k : Int) + 1)] rfl rfl (cell_one_new _ _ _) (by simp [Value.oneCell']) (by unfold maxLen; omega) (by omega) (by have := hb9.size; simp; omega) ?_; intro v' w2 hown' hgrow _)
                  have hbn : Below w8.heap.size w8 w2 := (hb9.alloc hb9.size _).grown hgrow (by have := hb9.size; simp; omega) (fun i e => (HR.out.lt i e).1)
                  go_roundw
                  case rel =>
                    have hown2 : w2.ownsRow w8.heap.size 3 1 v' (k + 1) ((fromL 1 (k + 1)).map (Value.int .i64)) := by rw [HS.out, List.map_append]; exact hown'
                    first | exact ⟨k + 1, by omega, by go_num, hown2, hbn⟩ | ((repeat apply Exists.intro); exact ⟨⟨k + 1, by omega, by go_num, hown2, hbn⟩, rfl⟩)
                  case measure => simp [intOf]; omega
                · obtain rfl : k = 4097 := by omega
                  have hbt7 := hbt6.trans (hb9.mono hbt6.size)
                  obtain ⟨gl9, cl9, rfl, hgl9, hlc⟩ := row_form hrow (by omega)
                  have hl5 : wr.cell? ⟨gl9, 5, none⟩ = some (.int .i64 6) := hlc 5 _ (by
                    rw [List.getElem?_map]
                    unfold fromL
                    rw [List.getElem?_map, List.getElem?_range (by omega)]
                    rfl)
                  have HL := Lib.hid (clause_any _ _ (fromL 1 4097) (by rw [fromL_len]; omega) wr (Nat.le_refl _) (ints_own hrow))
                  clear hlc hrow hb9 hbt6 hkl hk9
                  go_wp2_with fail
                  refine (HL.out).mono ?_
                  rintro e x1 ⟨vx, rfl, hxr, hbx⟩
                  rw [fromL_len] at hxr
                  obtain ⟨gx, cx, rfl, hgx, -⟩ := row_form hxr (by omega)
                  have hcx : 4097 ≤ cx := by
                    rcases hxr.2 with ⟨h, -⟩ | ⟨g', cap', cur, h, -, -, h4, -⟩
                    · injection h with h1 h2 h3; omega
                    · injection h with h1 h2 h3; omega
                  have hl51 := (hbx.cell (p := ⟨gl9, 5, none⟩) hgl9).trans hl5
                  have hgl91 : gl9 < x1.heap.size := Nat.lt_of_lt_of_le hgl9 hbx.size
                  have hbt8 := hbt7.trans (hbx.mono hbt7.size)
                  clear HL hl5 hbx hbt7 hgl9
                  have HP : ∀ W, Below x1.heap.size x1 W → Lits W.heap.size W (.slice (some ⟨gx, 0, none⟩) 4096 cx) (fromL 1 4096) := fun W hb => by
                    have h := lits_part (cap' := cx) (a := 0) (n := 4096) hxr (by omega) (by omega)
                    rw [List.drop_zero, fromL_take _ _ _ (by omega)] at h
                    exact h.on hb
                  have HQ : ∀ W, Below x1.heap.size x1 W → Lits W.heap.size W (.slice (some ⟨gx, 4096, none⟩) 1 (cx - 4096)) (fromL 4097 1) := fun W hb => by
                    have h := lits_part (cap' := cx - 4096) (a := 4096) (n := 1) hxr (by omega) (by omega)
                    rw [fromL_drop, fromL_take _ _ _ (by omega)] at h
                    exact h.on hb
                  have HO : ∀ W, Below x1.heap.size x1 W → Lits W.heap.size W (.slice (some ⟨gx, 1, none⟩) 4096 (cx - 1)) (fromL 2 4096) := fun W hb => by
                    have h := lits_part (cap' := cx - 1) (a := 1) (n := 4096) hxr (by omega) (by omega)
                    rw [fromL_drop, fromL_take _ _ _ (by omega)] at h
                    exact h.on hb
                  have HW : ∀ W, Below x1.heap.size x1 W → Lits W.heap.size W (.slice (some ⟨gx, 0, none⟩) 4097 cx) (fromL 1 4097) := fun W hb => (lits_own hxr).on hb
                  have hP := Lib.hid HP; have hQ := Lib.hid HQ; have hO := Lib.hid HO; have hW := Lib.hid HW; clear HP HQ HO HW hxr
                  have hr4 := fromL_right (a := 1) (n := 4096) (by omega) (by omega) (by omega)
                  have hd1 : Below x1.heap.size x1 x1.drew := (Below.refl _ _).drew
                  have HU1 := Lib.hid (clunion_any _ _ _ _ _ (by rw [fromL_len]; omega) (by rw [fromL_len]; omega) x1.drew (Nat.le_refl _) (hP.out _ hd1) (hP.out _ hd1))
                  rw [hr4, Bool.and_self, if_pos rfl, if_pos rfl, small_u1.1, small_u1.2] at HU1
                  have Hr4 := Lib.hid hr4; clear hr4
                  have hc1 : (4096 : Int) ≤ (cx : Int) := by omega
                  have hc2 : ¬ cx = 4096 := by omega
                  have hc3 : ¬ cx = 1 := by omega
                  go_wp2_with fail
                  go_region_with (go_at_call 16; (with_reducible refine (HU1.out).mono ?_); rintro e x2 ⟨vu, rfl, hur, hb2⟩; rw [fromL_len] at hur; obtain ⟨Au, cu, rfl⟩ := own_shape hur; clear hur)
                  have hb21 : Below x1.heap.size x1 x2 := hd1.trans hb2
                  clear hb2 HU1
                  have hd2 : Below x1.heap.size x1 x2.drew := hb21.drew
                  have HU2 := Lib.hid (union_e (f := 5) (by rw [fromL_len]; omega) (by rw [fromL_len]; omega) (Nat.le_refl _) (hP.out _ hd2) (hQ.out _ hd2) (by rw [Hr4.out, fromL_right (a := 4097) (n := 1) (by omega) (by omega) (by omega), Bool.and_self, if_pos rfl, small_u2]))
                  go_simp
                  go_wp2_with fail
                  go_region_with (go_at_call 16; (with_reducible refine (HU2.out).mono ?_); rintro e x3 ⟨v3, rfl, hb3⟩)
                  have hb31 : Below x1.heap.size x1 x3 := hd2.trans (hb3.mono hd2.size)
                  clear hb3 HU2 hd2 hb21
                  have HU3 := Lib.hid (union_e (w := x3) (f := 20) (by rw [fromL_len]; omega) (by simp) (Nat.le_refl _) (hW.out _ hb31) (.inl ⟨none, 0, rfl, (fun _ => rfl), rfl⟩) (by rw [small_long, Bool.false_and, if_neg (by decide)]))
                  go_simp
                  go_wp2_with fail
                  refine (HU3.out).mono ?_
                  rintro e x4 ⟨v4, rfl, hb4⟩
                  have hb41 := hb31.trans (hb4.mono hb31.size)
                  have hbA := hb41.trans ((below1 x4 (.cells #[.int .i64 (-1), .int .i64 2] 34)).mono hb41.size)
                  have HR1 := Lib.hid (clresolve_any _ _ _ (fromL 1 4096) [-1, 2] 1 (by rw [fromL_len]; omega) (by simp) (x4.alloc (.cells #[.int .i64 (-1), .int .i64 2] 34)) (Nat.le_refl _) (hP.out _ hbA) (lits_laid x4 [-1, 2] 34))
                  rw [small_r1.1, small_r1.2] at HR1
                  clear hb4 hb31 HU3
                  go_wp2_with fail
                  refine (HR1.out).mono ?_
                  rintro e x5 ⟨v5, rfl, hr5, hb5⟩
                  rw [fromL_len] at hr5
                  obtain ⟨A5, c5, rfl⟩ := own_shape hr5
                  have hb51 := hbA.trans (hb5.mono hbA.size)
                  clear hr5 hb5 hbA hb41 HR1
                  have hbB := hb51.trans ((below1 x5 (.cells #[.int .i64 (-1), .int .i64 (-2), .int .i64 (-3)] 34)).mono hb51.size)
                  have HR2 := Lib.hid (resolve_e (w := x5.alloc (.cells #[.int .i64 (-1), .int .i64 (-2), .int .i64 (-3)] 34)) (f := 5) (by rw [fromL_len]; omega) (by simp) (Nat.le_refl _) (hP.out _ hbB) (lits_laid x5 [-1, -2, -3] 34) small_r2)
                  go_wp2_with fail
                  refine (HR2.out).mono ?_
                  rintro e x6 ⟨v6, rfl, hb6'⟩
                  have hb61 := hbB.trans (hb6'.mono hbB.size)
                  clear hb6' hbB hb51 HR2
                  have hl56 := (hb61.cell (p := ⟨gl9, 5, none⟩) hgl91).trans hl51
                  have HT1 := Lib.hid (clright_any _ _ (fromL 2 4096) (by rw [fromL_len]; omega) x6 (hO.out _ hb61).ints)
                  rw [fromL_right (a := 2) (n := 4096) (by omega) (by omega) (by omega)] at HT1
                  have HT2 := Lib.hid (clright_any _ _ (fromL 1 4097) (by rw [fromL_len]; omega) x6 (hW.out _ hb61).ints)
                  rw [small_long] at HT2
                  have HT3 := Lib.hid (ref_right 6 x6)
                  rw [show litB 6 = true by decide] at HT3
                  have HAw : Hid (∀ W, Calls Try.prog 13 #[] W fun e w' => e = .returned (.bool true) ∧ Below W.heap.size W w') := clawake_any
                  clear hl51
                  go_wp2_with fail
                  refine (HT1.out).mono ?_
                  rintro e w' ⟨rfl, rfl⟩
                  go_wp2_with fail
                  refine (HT2.out).mono ?_
                  rintro e w' ⟨rfl, rfl⟩
                  go_wp2_with fail
                  refine (HT3.out).mono ?_
                  rintro e w' ⟨rfl, rfl⟩
                  go_wp2_with fail
                  refine (HAw.out _).mono ?_
                  rintro e x7 ⟨rfl, hb7⟩
                  go_wp2_with fail
                  go_ret
                  exact ⟨rfl, (hbt8.trans (hb61.mono hbt8.size)).trans (hb7.mono (hbt8.trans (hb61.mono hbt8.size)).size)⟩

theorem clausesSmall.clausesSmall_walk (w : World) : Calls Try.prog 5 #[] w fun e w' => e = .returned (.bool true) ∧ Below w.heap.size w w' := small_core w
end Go.Proofs.Ytngjcacodoihdaa
