/- FormulaSmall: its mathematics. -/
/- FormulaSmall: what lies where between its calls. -/
/- FormulaSmall: Of in a region that draws its order, order by order. -/
/- FormulaSmall behind its loops. -/
/- FormulaSmall from its eight numbers on. -/
import Derived.Test.YtgoflapolglfcaaGreatFoContains
import Derived.Test.YtgoflapolglfcaaGreatFoMath
import Derived.Test.YtgoflapolglfcaaGreatFoTells
import Derived.Deep.RegionHeld3
namespace Go.Proofs.YtgoflapolglfcaaGreat
open Go.RowKit Go.ChangeAt Go.ChangeShapes Go.WideShapes Go.Shelf Go.Sort

theorem mdl_nil (n : Nat) : (modelsB n []).length = 2 ^ n := by
  unfold modelsB
  rw [List.length_map, List.filter_eq_self.2 (show ∀ N ∈ List.range (2 ^ n), holdsN n [] N = true from fun N _ => rfl), List.length_range]
theorem mdl_none (n : Nat) {L : List (List Int)} (h : [] ∈ L) : (modelsB n L).length = 0 := by
  unfold modelsB
  rw [List.length_map, List.filter_eq_nil_iff.2]
  · rfl
  · intro N _ hh
    have := List.all_eq_true.1 hh [] h
    simp [holdsM] at this
theorem small_of {n : Nat} {L : List (List Int)} (h : (L.all fun zs => zs.all fun l => decide (1 ≤ l.natAbs) && decide (l.natAbs ≤ n)) = true) : Small n L := fun zs hz l hl => by
  have := List.all_eq_true.1 (List.all_eq_true.1 h zs hz) l hl
  simpa using this
theorem mdl_count : (modelsB 16 [[1], [-2], [3, 4]]).length = 12288 := by
  obtain ⟨a1, b1, h1, k1, e1⟩ := parts_count (n := 16) (x := 1) (L := [[1], [-2], [3, 4]]) (small_of (by decide)) (by decide) (by decide)
  obtain ⟨a2, b2, h2, k2, e2⟩ := parts_count (n := 16) (x := -2) (L := [[-2], [3, 4]]) (small_of (by decide)) (by decide) (by decide)
  obtain ⟨a3, b3, h3, k3, e3⟩ := parts_count (n := 16) (x := 3) (L := [[3, 4]]) (small_of (by decide)) (by decide) (by decide)
  obtain ⟨a4, b4, h4, k4, e4⟩ := parts_count (n := 16) (x := 4) (L := [[4]]) (small_of (by decide)) (by decide) (by decide)
  rw [show asgL 1 [[1], [-2], [3, 4]] = [[-2], [3, 4]] by decide] at h1
  rw [show asgL (-1) [[1], [-2], [3, 4]] = [[], [-2], [3, 4]] by decide, mdl_none _ (by simp)] at k1
  rw [show asgL (-2) [[-2], [3, 4]] = [[3, 4]] by decide] at h2
  rw [show asgL (- -2) [[-2], [3, 4]] = [[], [3, 4]] by decide, mdl_none _ (by simp)] at k2
  rw [show asgL 3 [[3, 4]] = [] by decide, mdl_nil] at h3
  rw [show asgL (-3) [[3, 4]] = [[4]] by decide] at k3
  rw [show asgL 4 [[4]] = [] by decide, mdl_nil] at h4
  rw [show asgL (-4) [[4]] = [[]] by decide, mdl_none _ (by simp)] at k4
  have hp : (2 : Nat) ^ 16 = 65536 := by decide
  omega
theorem chk_nils (n : Nat) (h : n ≤ 262144) : chkI 1 (List.replicate n []) = (-1, 0) :=
  chkI_ok (by omega) (by rw [List.length_replicate]; omega) fun zs hz => by
    rw [List.eq_of_mem_replicate hz]
    decide
theorem chk_nils_many : chkI 1 (List.replicate 262145 []) = (-1, 5) := chkI_many (by omega) (by rw [List.length_replicate]; omega)
theorem mdl_big : mdlE 1048576 [1048576] = 0 := by decide
theorem modB_at {n k : Nat} (h : k < n) (ls : List Int) : (modB n ls)[k]? = some (decide (((k : Int) + 1) ∈ ls)) := by
  unfold modB
  rw [List.getElem?_map, List.getElem?_range h]
  rfl
end Go.Proofs.YtgoflapolglfcaaGreat
namespace Go.Proofs.YtgoflapolglfcaaGreat
open Go.RowKit Go.ChangeAt Go.ChangeShapes Go.WideShapes Go.Shelf Go.Sort

/-- As many falses. -/
def falsesA (k : Nat) : Array Value := ((List.replicate k false).map Value.bool).toArray
theorem falses_made (k : Nat) : madeCells #[.bool false] k = falsesA k := by
  unfold madeCells falsesA
  apply Array.ext
  · simp
  · intro i h1 h2
    simp [Nat.mod_one]
theorem mk_falses (k : Nat) (hk : k ≤ 1000) (W : World) : (Instr.makeSlice 29 (.int .i64 (k : Nat)) (.int .i64 (k : Nat))).run Tryz.prog W = .ok (.slice (some ⟨W.heap.size, 0, none⟩) k k) (W.alloc (.cells (falsesA k) 4)) := by
  have h := run_make_row' 29 4 (.bool false) 1 Tryz.underlying29 infoBool rfl .i64 .i64 k (by omega) (by omega) W
  rw [h, falses_made]
theorem bools_falses {C : Nat} {W : World} {g k : Nat} {T : TypeId} (h : Whole W g T (falsesA k)) (hg : g < C) : Bools C W (.slice (some ⟨g, 0, none⟩) k k) (List.replicate k false) := by
  have h := bools_block (C := C) (List.replicate k false) h hg
  rwa [List.length_replicate] at h
theorem bools_none (C : Nat) (W : World) : Bools C W (.slice none 0 0) [] := .inl ⟨_, _, rfl, fun _ => rfl, rfl⟩
theorem below_b1 (w : World) (a : Obj) : Below w.heap.size w (w.alloc a) := (Below.refl _ w).alloc (Nat.le_refl _) a
theorem below_b2 (w : World) (a b : Obj) : Below w.heap.size w ((w.alloc a).alloc b) := (below_b1 w a).alloc (by simp) b
theorem below_b3 (w : World) (a b c : Obj) : Below w.heap.size w (((w.alloc a).alloc b).alloc c) := (below_b2 w a b).alloc (by simp; omega) c

/-- The sixteen clauses. -/
abbrev sixL : List (List Int) := [[], [1], [-1], [2], [-2], [1, 2], [1, -2], [-1, 2], [-1, -2], [1, -1], [2, 1, 2], [2, -2, 1], [0], [3], [1, 0], [-1, -1]]
theorem six_short : ∀ zs ∈ sixL, zs.length ≤ 3 := by decide
/-- They lie at the block b. -/
structure Sx (w W : World) (b : Nat) : Prop where
  below : Below w.heap.size w W
  rows : RowsL W.heap.size W (.slice (some ⟨b, 0, none⟩) 16 16) sixL
section
variable {w W W1 W' : World} {b g : Nat} {T : TypeId} {sa sb : Value} {za zb : List Int}
theorem Sx.on (h : Sx w W b) (hb : Below W.heap.size W W') : Sx w W' b := ⟨below_cat h.below hb, (RowsV.below hb h.rows).more hb.size⟩
theorem Sx.at {k : Nat} (h : Sx w W b) (hk : k < 16) : ∃ (zs : List Int) (As : Option Addr) (cs : Nat), zs.length ≤ 3 ∧ W.cell? ⟨b, k, none⟩ = some (.slice As zs.length cs) ∧ Lits W.heap.size W (.slice As zs.length cs) zs := by
  obtain ⟨A, cap, e, hs⟩ := rowsL_shape h.rows
  have hg : sixL[k]? = some (sixL[k]'(by simpa using hk)) := List.getElem?_eq_getElem _
  obtain ⟨b', off, As, cs, e2, -, hc, hl⟩ := hs k _ hg
  injection e with e1 _ _
  rw [e2] at e1
  injection e1 with e1
  injection e1 with eb eo _
  subst eb eo
  refine ⟨_, As, cs, six_short _ (List.getElem_mem _), ?_, hl⟩
  rw [Nat.zero_add] at hc
  exact hc
/-- Literals of some clauses. -/
theorem sm_rows {svs : List Value} {L : List (List Int)} (hw : Whole W1 g T svs.toArray) (hl : svs.length = L.length) (hs : ∀ (j : Nat) (sv : Value) (zs : List Int), svs[j]? = some sv → L[j]? = some zs → Lits W1.heap.size W1 sv zs) : RowsL W1.heap.size W1 (.slice (some ⟨g, 0, none⟩) L.length L.length) L :=
  rows_block (T := T) svs L hw hw.lt hl hs
theorem sm_of {v : Value} {L : List (List Int)} (vars : Int) (hn : L.length ≤ 10) (hz : ∀ zs ∈ L, zs.length ≤ 1000) (hL : RowsL W1.heap.size W1 v L) :
    Calls Tryz.prog 5 #[.int .i64 vars, v] W1 fun e w' => ∃ A c, e = .returned (.agg #[.int .i64 vars, .slice A L.length c]) ∧ RowsL w'.heap.size w' (.slice A L.length c) L ∧ Below W1.heap.size W1 w' :=
  (foof_any vars W1 (Nat.le_refl _) (by omega) (fun zs h => by have := hz zs h; omega) hL).mono fun e w' ⟨v', he, ho, hb⟩ => by
    have hr := OwnRows.rowsV ho
    obtain ⟨A, c, rfl, -⟩ := rowsL_shape hr
    exact ⟨A, c, he, hr, hb⟩
theorem sm_of1 (vars : Int) (hw : Whole W1 g T #[sa]) (ha : Lits W1.heap.size W1 sa za) (h1 : za.length ≤ 3) :
    Calls Tryz.prog 5 #[.int .i64 vars, .slice (some ⟨g, 0, none⟩) 1 1] W1 fun e w' => ∃ A c, e = .returned (.agg #[.int .i64 vars, .slice A 1 c]) ∧ RowsL w'.heap.size w' (.slice A 1 c) [za] ∧ Below W1.heap.size W1 w' :=
  sm_of vars (L := [za]) (by simp) (fun zs h => by rw [List.mem_singleton.1 h]; omega) (sm_rows (svs := [sa]) (L := [za]) hw rfl fun j sv zs h1 h2 => by
    match j with
    | 0 => simp at h1 h2; subst h1 h2; exact ha
    | j + 1 => simp at h1)
theorem sm_of2 (vars : Int) (hw : Whole W1 g T #[sa, sb]) (ha : Lits W1.heap.size W1 sa za) (hb : Lits W1.heap.size W1 sb zb) (h1 : za.length ≤ 3) (h2 : zb.length ≤ 3) :
    Calls Tryz.prog 5 #[.int .i64 vars, .slice (some ⟨g, 0, none⟩) 2 2] W1 fun e w' => ∃ A c, e = .returned (.agg #[.int .i64 vars, .slice A 2 c]) ∧ RowsL w'.heap.size w' (.slice A 2 c) [za, zb] ∧ Below W1.heap.size W1 w' :=
  sm_of vars (L := [za, zb]) (by simp) (fun zs h => by rcases List.mem_cons.1 h with rfl | h; omega; rw [List.mem_singleton.1 h]; omega) (sm_rows (svs := [sa, sb]) (L := [za, zb]) hw rfl fun j sv zs h1 h2 => by
    match j with
    | 0 => simp at h1 h2; subst h1 h2; exact ha
    | 1 => simp at h1 h2; subst h1 h2; exact hb
    | j + 2 => simp at h1)
theorem sm_of3 (vars : Int) (hw : Whole W1 g T #[sa, sb, sa]) (ha : Lits W1.heap.size W1 sa za) (hb : Lits W1.heap.size W1 sb zb) (h1 : za.length ≤ 3) (h2 : zb.length ≤ 3) :
    Calls Tryz.prog 5 #[.int .i64 vars, .slice (some ⟨g, 0, none⟩) 3 3] W1 fun e w' => ∃ A c, e = .returned (.agg #[.int .i64 vars, .slice A 3 c]) ∧ RowsL w'.heap.size w' (.slice A 3 c) [za, zb, za] ∧ Below W1.heap.size W1 w' :=
  sm_of vars (L := [za, zb, za]) (by simp) (fun zs h => by rcases List.mem_cons.1 h with rfl | h; omega; rcases List.mem_cons.1 h with rfl | h; omega; rw [List.mem_singleton.1 h]; omega) (sm_rows (svs := [sa, sb, sa]) (L := [za, zb, za]) hw rfl fun j sv zs h1 h2 => by
    match j with
    | 0 => simp at h1 h2; subst h1 h2; exact ha
    | 1 => simp at h1 h2; subst h1 h2; exact hb
    | 2 => simp at h1 h2; subst h1 h2; exact ha
    | j + 3 => simp at h1)
theorem sm_of0 (vars : Int) : Calls Tryz.prog 5 #[.int .i64 vars, .slice none 0 0] W1 fun e w' => ∃ A c, e = .returned (.agg #[.int .i64 vars, .slice A 0 c]) ∧ RowsL w'.heap.size w' (.slice A 0 c) [] ∧ Below W1.heap.size W1 w' :=
  sm_of vars (L := []) (by simp) (fun zs h => by cases h) (rows_none _ _)
theorem sm_tells {fv mv : Value} {L : List (List Int)} {x : List Bool} (vars l : Int) (hn : L.length ≤ 10) (hz : ∀ zs ∈ L, zs.length ≤ 1000) (hx : x.length ≤ 1000) (hL : RowsL W1.heap.size W1 fv L) (hm : Bools W1.heap.size W1 mv x) :
    Calls Tryz.prog 4 #[.agg #[.int .i64 vars, fv], mv, .int .i64 l] W1 fun e w' => e = .returned (.bool true) ∧ Below W1.heap.size W1 w' :=
  tells_any vars l W1 (Nat.le_refl _) ⟨by omega, fun zs h => by have := hz zs h; omega⟩ (by omega) hL hm
end
/-! ### the sixteen clauses are laid -/
def layR (T : TypeId) : List (List Int) → World → World
  | [], w => w
  | zs :: r, w => layR T r (w.alloc (.cells (zs.map (Value.int .i64)).toArray T))
theorem lay_at (T : TypeId) : ∀ (rs : List (List Int)) (w : World), Below w.heap.size w (layR T rs w) ∧ (layR T rs w).heap.size = w.heap.size + rs.length ∧ ∀ (j : Nat) (zs : List Int), rs[j]? = some zs → Whole (layR T rs w) (w.heap.size + j) T (zs.map (Value.int .i64)).toArray
  | [], w => ⟨Below.refl _ _, rfl, fun j zs h => by simp at h⟩
  | z :: r, w => by
    obtain ⟨h1, h2, h3⟩ := lay_at T r (w.alloc (.cells (z.map (Value.int .i64)).toArray T))
    rw [World.size_alloc] at h2 h3
    refine ⟨below_cat (below_b1 w _) h1, by rw [layR, h2, List.length_cons]; omega, fun j zs h => ?_⟩
    match j with
    | 0 =>
      obtain rfl : z = zs := by simpa using h
      exact (Whole.made w T _).same (h1.block _ (by simp))
    | j + 1 =>
      have := h3 j zs (by simpa using h)
      rwa [show w.heap.size + 1 + j = w.heap.size + (j + 1) by omega] at this
/-- The slices of rows from the block s on. -/
def svsR (s : Nat) : List (List Int) → List Value
  | [] => []
  | zs :: r => .slice (some ⟨s, 0, none⟩) zs.length zs.length :: svsR (s + 1) r
theorem svs_at : ∀ (rs : List (List Int)) (s : Nat), (svsR s rs).length = rs.length ∧ ∀ (j : Nat) (zs : List Int), rs[j]? = some zs → (svsR s rs)[j]? = some (.slice (some ⟨s + j, 0, none⟩) zs.length zs.length)
  | [], s => ⟨rfl, fun j zs h => by simp at h⟩
  | z :: r, s => by
    obtain ⟨h1, h2⟩ := svs_at r (s + 1)
    refine ⟨by simp [svsR, h1], fun j zs h => ?_⟩
    match j with
    | 0 =>
      obtain rfl : z = zs := by simpa using h
      rfl
    | j + 1 =>
      have := h2 j zs (by simpa using h)
      rw [show s + 1 + j = s + (j + 1) by omega] at this
      simpa [svsR] using this
theorem sx_start (w : World) (T U : TypeId) : Sx w ((layR T (sixL.drop 1) w).alloc (.cells (Value.slice none 0 0 :: svsR w.heap.size (sixL.drop 1)).toArray U)) (w.heap.size + 1 + 1 + 1 + 1 + 1 + 1 + 1 + 1 + 1 + 1 + 1 + 1 + 1 + 1 + 1) := by
  show Sx _ _ (w.heap.size + 15)
  obtain ⟨h1, h2, h3⟩ := lay_at T (sixL.drop 1) w
  obtain ⟨k1, k2⟩ := svs_at (sixL.drop 1) w.heap.size
  have hl : (sixL.drop 1).length = 15 := rfl
  obtain ⟨rs, hrs⟩ : ∃ rs, sixL.drop 1 = rs := ⟨_, rfl⟩
  have hsix : sixL = [] :: rs := by rw [← hrs]; rfl
  rw [hrs] at h1 h2 h3 k1 k2 hl ⊢
  rw [hl] at h2
  obtain ⟨W1, hW1⟩ : ∃ x, layR T rs w = x := ⟨_, rfl⟩
  rw [hW1] at h1 h2 h3 ⊢
  have hw := Whole.made W1 U (Value.slice none 0 0 :: svsR w.heap.size rs).toArray
  rw [h2] at hw
  have hb := below_b1 W1 (.cells (Value.slice none 0 0 :: svsR w.heap.size rs).toArray U)
  refine ⟨below_cat h1 hb, ?_⟩
  have hr := rows_block (C := (W1.alloc (.cells (Value.slice none 0 0 :: svsR w.heap.size rs).toArray U)).heap.size) (Value.slice none 0 0 :: svsR w.heap.size rs) ([] :: rs) hw hw.lt (by simp [k1]) fun j sv zs e1 e2 => by
    match j with
    | 0 =>
      simp only [List.getElem?_cons_zero, Option.some.injEq] at e1 e2
      subst e1 e2
      exact lits_none _ _
    | j + 1 =>
      simp only [List.getElem?_cons_succ] at e1 e2
      rw [k2 j zs e2, Option.some.injEq] at e1
      subst e1
      have hz := h3 j zs e2
      exact lits_block zs (hz.same (hb.block _ hz.lt)) (Nat.lt_of_lt_of_le hz.lt hb.size)
  rw [List.length_cons, hl, ← hsix] at hr
  exact hr

/-! ### as many clauses as there may be, and one more -/
structure NilsAt (W : World) (g : Nat) : Prop where
  lt : g < W.heap.size
  cell : ∀ j : Nat, j < 262145 → W.cell? ⟨g, j, none⟩ = some (.slice none 0 0) ∧ W.frozen? ⟨g, j, none⟩ = false
theorem NilsAt.on {W W' : World} {g : Nat} (h : NilsAt W g) (hb : Below W.heap.size W W') : NilsAt W' g :=
  ⟨Nat.lt_of_lt_of_le h.lt hb.size, fun j hj => ⟨(hb.cell (p := ⟨g, j, none⟩) h.lt).trans (h.cell j hj).1, (hb.frozen (p := ⟨g, j, none⟩) h.lt).trans (h.cell j hj).2⟩⟩
theorem nils_rows {W : World} {g off n cap : Nat} (h : NilsAt W g) (hn : off + n ≤ 262145) : RowsL W.heap.size W (.slice (some ⟨g, off, none⟩) n cap) (List.replicate n []) := by
  refine .inr ⟨g, off, cap, by rw [List.length_map, List.length_replicate], h.lt, fun j xs hx => ?_⟩
  rw [List.map_replicate, List.getElem?_replicate] at hx
  split at hx
  · rename_i hj
    obtain rfl : [] = xs := by simpa using hx
    obtain ⟨c, f⟩ := h.cell (off + j) (by omega)
    exact ⟨.slice none 0 0, c, f, .inl ⟨_, _, rfl, fun _ => rfl, rfl⟩⟩
  · cases hx
theorem sm_check {W : World} {g off cap : Nat} (n : Nat) (i E : Int) (h : NilsAt W g) (hn : off + n ≤ 262145) (hc : chkI 1 (List.replicate n []) = (i, E)) :
    Calls Tryz.prog 6 #[.agg #[.int .i64 1, .slice (some ⟨g, off, none⟩) n cap]] W fun e w' => e = .returned (.tuple #[.int .i64 i, .int .i64 E]) ∧ Below W.heap.size W w' := by
  have hk := check_any (L := List.replicate n []) 1 W (Nat.le_refl _) (by rw [List.length_replicate]; omega) (fun zs hz => by rw [List.eq_of_mem_replicate hz]; simp) (nils_rows (cap := cap) h hn)
  rw [hc] at hk
  exact hk
/-- A slice of nil clauses is made. -/
theorem mk_nils : ∃ M : Array Value, (∀ j : Nat, j < 262145 → M[j]? = some (.slice none 0 0)) ∧ ∀ W : World, (Instr.makeSlice 25 (.int .i64 262145) (.int .i64 262145)).run Tryz.prog W = .ok (.slice (some ⟨W.heap.size, 0, none⟩) 262145 262145) (W.alloc (.cells M 65)) := by
  obtain ⟨n, hn⟩ : ∃ n : Nat, n = 262145 := ⟨_, rfl⟩
  have hi : ((n : Nat) : Int) = 262145 := by omega
  refine ⟨madeCells #[.slice none 0 0] n, fun j hj => ?_, fun W => ?_⟩
  · have hs : j < (madeCells #[Value.slice none 0 0] n).size := by simp [madeCells]; omega
    rw [Array.getElem?_eq_getElem hs]
    simp [madeCells, Nat.mod_one]
  · have h := run_make_row' 25 65 (.slice none 0 0) 24 Tryz.underlying25 infoClause rfl .i64 .i64 n (by omega) (by omega) W
    rw [hi, hn] at h
    rw [← hn] at h ⊢
    exact h
theorem nils_made {M : Array Value} (hM : ∀ j : Nat, j < 262145 → M[j]? = some (.slice none 0 0)) (W : World) (T : TypeId) : NilsAt (W.alloc (.cells M T)) W.heap.size :=
  ⟨by simp, fun j hj => ⟨((Whole.made W T M).cell j).trans (hM j hj), (Whole.made W T M).frozen j⟩⟩
/-- The great model. -/
theorem sm_model {W : World} {g : Nat} {T : TypeId} (hw : Whole W g T #[.int .i64 1048576]) :
    Calls Tryz.prog 8 #[.int .i64 1048576, .slice (some ⟨g, 0, none⟩) 1 1] W fun e w' => ∃ b c, e = .returned (.tuple #[.slice (some ⟨b, 0, none⟩) 1048576 c, .int .i64 0]) ∧ w'.cell? ⟨b, 1048575, none⟩ = some (.bool true) ∧ Below W.heap.size W w' := by
  have h := model_any (ls := [1048576]) 1048576 (by simp) W (Nat.le_refl _) (lits_block [1048576] hw hw.lt).ints
  refine h.mono fun e w' ⟨v, he, ho, hb⟩ => ?_
  rw [mdl_big, if_pos rfl] at ho
  obtain ⟨n, hn⟩ : ∃ n : Nat, (1048576 : Int).toNat = n := ⟨_, rfl⟩
  have hn1 : n = 1048576 := by rw [← hn]; rfl
  rw [hn] at ho
  have hlen := modB_len n [1048576]
  have hat := modB_at (n := n) (k := 1048575) (by omega) [1048576]
  obtain ⟨L, hL⟩ : ∃ L, modB n [1048576] = L := ⟨_, rfl⟩
  rw [hL] at ho hlen hat
  rcases ho.2 with ⟨rfl, h0⟩ | ⟨b, c, cur, rfl, -⟩
  · omega
  · refine ⟨b, c, ?_, ?_, hb⟩
    · rw [he, mdl_big, hlen, hn1]
    · have hc := ho.cellAt 1048575 (by omega)
      rw [hc, List.getElem?_map, hat]
      rfl
/-! ### three clauses beside truths that are made, in any order -/
theorem bd1 (w : World) (a : Obj) : Below w.heap.size w (w.alloc a).drew := (below_b1 w a).drew
theorem bd2 (w : World) (a b : Obj) : Below w.heap.size w ((w.alloc a).alloc b).drew := (below_b2 w a b).drew
section
variable {w W W1 W' : World} {b g : Nat} {T U : TypeId} {sa sb : Value} {za zb : List Int}
theorem sm_of3a (vars : Int) (ha : Lits W.heap.size W sa za) (hb : Lits W.heap.size W sb zb) (h1 : za.length ≤ 3) (h2 : zb.length ≤ 3) :
    Calls Tryz.prog 5 #[.int .i64 vars, .slice (some ⟨W.heap.size, 0, none⟩) 3 3] (W.alloc (.cells #[sa, sb, sa] T)).drew fun e w' => ∃ A c, e = .returned (.agg #[.int .i64 vars, .slice A 3 c]) ∧ RowsL w'.heap.size w' (.slice A 3 c) [za, zb, za] ∧ Below W.heap.size W w' :=
  (sm_of3 (T := T) vars (whole_drew (Whole.made W T _)) (Lits.on (bd1 W _) ha) (Lits.on (bd1 W _) hb) h1 h2).mono fun _ _ ⟨A, c, he, hr, hb'⟩ => ⟨A, c, he, hr, below_cat (bd1 W _) hb'⟩
theorem sm_of3b (vars : Int) (q : Nat) (ha : Lits W.heap.size W sa za) (hb : Lits W.heap.size W sb zb) (h1 : za.length ≤ 3) (h2 : zb.length ≤ 3) :
    Calls Tryz.prog 5 #[.int .i64 vars, .slice (some ⟨W.heap.size, 0, none⟩) 3 3] ((W.alloc (.cells #[sa, sb, sa] T)).alloc (.cells (falsesA q) U)).drew fun e w' => ∃ A c, e = .returned (.agg #[.int .i64 vars, .slice A 3 c]) ∧ RowsL w'.heap.size w' (.slice A 3 c) [za, zb, za] ∧ Below W.heap.size W w' ∧ Bools w'.heap.size w' (.slice (some ⟨W.heap.size + 1, 0, none⟩) q q) (List.replicate q false) :=
  (sm_of3 (T := T) vars (whole_drew (whole_alloc (Whole.made W T _) _)) (Lits.on (bd2 W _ _) ha) (Lits.on (bd2 W _ _) hb) h1 h2).mono fun e w' ⟨A, c, he, hr, hb'⟩ => ⟨A, c, he, hr, below_cat (bd2 W _ _) hb', by
    have h := Whole.made (W.alloc (.cells #[sa, sb, sa] T)) U (falsesA q)
    rw [World.size_alloc] at h
    have h' := whole_drew h
    exact bools_falses (h'.same (hb'.block _ h'.lt)) (Nat.lt_of_lt_of_le h'.lt hb'.size)⟩
theorem sm_of3c (vars : Int) (q : Nat) (ha : Lits W.heap.size W sa za) (hb : Lits W.heap.size W sb zb) (h1 : za.length ≤ 3) (h2 : zb.length ≤ 3) :
    Calls Tryz.prog 5 #[.int .i64 vars, .slice (some ⟨W.heap.size + 1, 0, none⟩) 3 3] ((W.alloc (.cells (falsesA q) U)).alloc (.cells #[sa, sb, sa] T)).drew fun e w' => ∃ A c, e = .returned (.agg #[.int .i64 vars, .slice A 3 c]) ∧ RowsL w'.heap.size w' (.slice A 3 c) [za, zb, za] ∧ Below W.heap.size W w' ∧ Bools w'.heap.size w' (.slice (some ⟨W.heap.size, 0, none⟩) q q) (List.replicate q false) := by
  have hw := Whole.made (W.alloc (.cells (falsesA q) U)) T #[sa, sb, sa]
  rw [World.size_alloc] at hw
  exact (sm_of3 (T := T) vars (whole_drew hw) (Lits.on (bd2 W _ _) ha) (Lits.on (bd2 W _ _) hb) h1 h2).mono fun e w' ⟨A, c, he, hr, hb'⟩ => ⟨A, c, he, hr, below_cat (bd2 W _ _) hb', by
    have h' := whole_drew (whole_alloc (Whole.made W U (falsesA q)) (.cells #[sa, sb, sa] T))
    exact bools_falses (h'.same (hb'.block _ h'.lt)) (Nat.lt_of_lt_of_le h'.lt hb'.size)⟩
/-- tells, of truths that were just made. -/
theorem sm_tells_new {fv : Value} {L : List (List Int)} (vars l : Int) (q : Nat) (hn : L.length ≤ 10) (hz : ∀ zs ∈ L, zs.length ≤ 1000) (hq : q ≤ 1000) (hL : RowsL W.heap.size W fv L) :
    Calls Tryz.prog 4 #[.agg #[.int .i64 vars, fv], .slice (some ⟨W.heap.size, 0, none⟩) q q, .int .i64 l] (W.alloc (.cells (falsesA q) U)) fun e w' => e = .returned (.bool true) ∧ Below W.heap.size W w' :=
  (sm_tells (x := List.replicate q false) vars l hn hz (by rw [List.length_replicate]; exact hq) ((RowsV.below (below_b1 W _) hL).more (below_b1 W _).size) (bools_falses (Whole.made W U _) (Whole.made W U _).lt)).mono fun e w' ⟨he, hb⟩ => ⟨he, below_cat (below_b1 W _) hb⟩
theorem sm_tells_old {fv mv : Value} {L : List (List Int)} (vars l : Int) (q : Nat) (hn : L.length ≤ 10) (hz : ∀ zs ∈ L, zs.length ≤ 1000) (hq : q ≤ 1000) (hL : RowsL W.heap.size W fv L) (hm : Bools W.heap.size W mv (List.replicate q false)) :
    Calls Tryz.prog 4 #[.agg #[.int .i64 vars, fv], mv, .int .i64 l] W fun e w' => e = .returned (.bool true) ∧ Below W.heap.size W w' :=
  sm_tells (x := List.replicate q false) vars l hn hz (by rw [List.length_replicate]; exact hq) hL hm
end
end Go.Proofs.YtgoflapolglfcaaGreat
namespace Go.Proofs.YtgoflapolglfcaaGreat
open Go.RowKit Go.ChangeAt Go.ChangeShapes Go.WideShapes Go.Shelf Go.Sort

section
variable {W : World} {g : Nat} {T : TypeId} {cs : Array Value}
theorem wh0 (h : W.heap.size = g) : Whole (W.alloc (.cells cs T)) g T cs := h ▸ Whole.made W T cs
theorem wh1 (h : W.heap.size = g) (o : Obj) : Whole ((W.alloc (.cells cs T)).alloc o) g T cs := whole_alloc (wh0 h) o
theorem wh2 (h : W.heap.size = g) (o o' : Obj) : Whole (((W.alloc (.cells cs T)).alloc o).alloc o') g T cs := whole_alloc (wh1 h o) o'
theorem wh3 (h : W.heap.size = g) (o o' o2 : Obj) : Whole ((((W.alloc (.cells cs T)).alloc o).alloc o').alloc o2) g T cs := whole_alloc (wh2 h o o') o2
end
theorem below_b4 (w : World) (a b c d : Obj) : Below w.heap.size w ((((w.alloc a).alloc b).alloc c).alloc d) := (below_b3 w a b c).alloc (by simp; omega) d
/-- Truths that were made before a call. -/
theorem bools_old {W1 w' : World} {g q : Nat} {T : TypeId} (h : Whole W1 g T (falsesA q)) (hb : Below W1.heap.size W1 w') : Bools w'.heap.size w' (.slice (some ⟨g, 0, none⟩) q q) (List.replicate q false) :=
  bools_falses (h.same (hb.block _ h.lt)) (Nat.lt_of_lt_of_le h.lt hb.size)
/-- Of of one clause that is laid. -/
theorem sm_of1d (W : World) (vars : Int) (T U : TypeId) : Calls Tryz.prog 5 #[.int .i64 vars, .slice (some ⟨W.heap.size + 1, 0, none⟩) 1 1] ((W.alloc (.cells #[.int .i64 1] T)).alloc (.cells #[.slice (some ⟨W.heap.size, 0, none⟩) 1 1] U)).drew fun e w' => ∃ A c, e = .returned (.agg #[.int .i64 vars, .slice A 1 c]) ∧ RowsL w'.heap.size w' (.slice A 1 c) [[1]] ∧ Below W.heap.size W w' := by
  have hw := whole_drew (wh0 (W := W.alloc (.cells #[.int .i64 1] T)) (T := U) (cs := #[.slice (some ⟨W.heap.size, 0, none⟩) 1 1]) (g := W.heap.size + 1) (by simp))
  have h1 := whole_drew (wh1 (W := W) (T := T) (cs := #[.int .i64 1]) rfl (.cells #[.slice (some ⟨W.heap.size, 0, none⟩) 1 1] U))
  exact (sm_of1 vars hw (lits_block [1] h1 h1.lt) (by decide)).mono fun e w' ⟨A, c, he, hr, hb⟩ => ⟨A, c, he, hr, below_cat (bd2 W _ _) hb⟩
theorem sm_of1m (W : World) (q : Nat) (U : TypeId) (vars : Int) : Calls Tryz.prog 5 #[.int .i64 vars, .slice none 0 0] (W.alloc (.cells (falsesA q) U)) fun e w' => ∃ A c, e = .returned (.agg #[.int .i64 vars, .slice A 0 c]) ∧ RowsL w'.heap.size w' (.slice A 0 c) [] ∧ Below W.heap.size W w' ∧ Bools w'.heap.size w' (.slice (some ⟨W.heap.size, 0, none⟩) q q) (List.replicate q false) :=
  (sm_of0 vars).mono fun _ _ ⟨A, c, he, hr, hb⟩ => ⟨A, c, he, hr, below_cat (below_b1 W _) hb, bools_old (Whole.made W U (falsesA q)) hb⟩

theorem sm_o0 (W : World) (n : Int) (T U : TypeId) : Calls Tryz.prog 5 #[.int .i64 2, .slice (some ⟨W.heap.size + 1 + 1, 0, none⟩) 2 2] (((W.alloc (.cells #[.int .i64 1] T)).alloc (.cells #[.int .i64 n] T)).alloc (.cells #[.slice (some ⟨W.heap.size, 0, none⟩) 1 1, .slice (some ⟨W.heap.size + 1, 0, none⟩) 1 1] U)) fun e w' => ∃ A c, e = .returned (.agg #[.int .i64 2, .slice A 2 c]) ∧ RowsL w'.heap.size w' (.slice A 2 c) [[1], [n]] ∧ Below W.heap.size W w' := by
  have ho := wh0 (W := ((W.alloc (.cells #[.int .i64 1] T)).alloc (.cells #[.int .i64 n] T))) (T := U) (cs := #[.slice (some ⟨W.heap.size, 0, none⟩) 1 1, .slice (some ⟨W.heap.size + 1, 0, none⟩) 1 1]) (g := W.heap.size + 1 + 1) (by simp) 
  have hx := wh2 (W := W) (T := T) (cs := #[.int .i64 1]) (g := W.heap.size) (by simp) (.cells #[.int .i64 n] T) (.cells #[.slice (some ⟨W.heap.size, 0, none⟩) 1 1, .slice (some ⟨W.heap.size + 1, 0, none⟩) 1 1] U)
  have hy := wh1 (W := (W.alloc (.cells #[.int .i64 1] T))) (T := T) (cs := #[.int .i64 n]) (g := W.heap.size + 1) (by simp) (.cells #[.slice (some ⟨W.heap.size, 0, none⟩) 1 1, .slice (some ⟨W.heap.size + 1, 0, none⟩) 1 1] U)
  exact (sm_of2 2 ho (lits_block [1] hx hx.lt) (lits_block [n] hy hy.lt) (by simp) (by simp)).mono fun e w' ⟨A, c, he, hr, hb⟩ => ⟨A, c, he, hr, below_cat (below_b3 W _ _ _) hb⟩
theorem sm_o1 (W : World) (n : Int) (T U V : TypeId) : Calls Tryz.prog 5 #[.int .i64 2, .slice (some ⟨W.heap.size + 1 + 1 + 1, 0, none⟩) 2 2] ((((W.alloc (.cells (falsesA 2) V)).alloc (.cells #[.int .i64 1] T)).alloc (.cells #[.int .i64 n] T)).alloc (.cells #[.slice (some ⟨W.heap.size + 1, 0, none⟩) 1 1, .slice (some ⟨W.heap.size + 1 + 1, 0, none⟩) 1 1] U)) fun e w' => ∃ A c, e = .returned (.agg #[.int .i64 2, .slice A 2 c]) ∧ RowsL w'.heap.size w' (.slice A 2 c) [[1], [n]] ∧ Below W.heap.size W w' ∧ Bools w'.heap.size w' (.slice (some ⟨W.heap.size, 0, none⟩) 2 2) (List.replicate 2 false) := by
  have ho := wh0 (W := (((W.alloc (.cells (falsesA 2) V)).alloc (.cells #[.int .i64 1] T)).alloc (.cells #[.int .i64 n] T))) (T := U) (cs := #[.slice (some ⟨W.heap.size + 1, 0, none⟩) 1 1, .slice (some ⟨W.heap.size + 1 + 1, 0, none⟩) 1 1]) (g := W.heap.size + 1 + 1 + 1) (by simp) 
  have hx := wh2 (W := (W.alloc (.cells (falsesA 2) V))) (T := T) (cs := #[.int .i64 1]) (g := W.heap.size + 1) (by simp) (.cells #[.int .i64 n] T) (.cells #[.slice (some ⟨W.heap.size + 1, 0, none⟩) 1 1, .slice (some ⟨W.heap.size + 1 + 1, 0, none⟩) 1 1] U)
  have hy := wh1 (W := ((W.alloc (.cells (falsesA 2) V)).alloc (.cells #[.int .i64 1] T))) (T := T) (cs := #[.int .i64 n]) (g := W.heap.size + 1 + 1) (by simp) (.cells #[.slice (some ⟨W.heap.size + 1, 0, none⟩) 1 1, .slice (some ⟨W.heap.size + 1 + 1, 0, none⟩) 1 1] U)
  have hm := wh3 (W := W) (T := V) (cs := (falsesA 2)) (g := W.heap.size) (by simp) (.cells #[.int .i64 1] T) (.cells #[.int .i64 n] T) (.cells #[.slice (some ⟨W.heap.size + 1, 0, none⟩) 1 1, .slice (some ⟨W.heap.size + 1 + 1, 0, none⟩) 1 1] U)
  exact (sm_of2 2 ho (lits_block [1] hx hx.lt) (lits_block [n] hy hy.lt) (by simp) (by simp)).mono fun e w' ⟨A, c, he, hr, hb⟩ => ⟨A, c, he, hr, below_cat (below_b4 W _ _ _ _) hb, bools_old hm hb⟩
theorem sm_o2 (W : World) (n : Int) (T U V : TypeId) : Calls Tryz.prog 5 #[.int .i64 2, .slice (some ⟨W.heap.size + 1 + 1 + 1, 0, none⟩) 2 2] ((((W.alloc (.cells #[.int .i64 1] T)).alloc (.cells (falsesA 2) V)).alloc (.cells #[.int .i64 n] T)).alloc (.cells #[.slice (some ⟨W.heap.size, 0, none⟩) 1 1, .slice (some ⟨W.heap.size + 1 + 1, 0, none⟩) 1 1] U)) fun e w' => ∃ A c, e = .returned (.agg #[.int .i64 2, .slice A 2 c]) ∧ RowsL w'.heap.size w' (.slice A 2 c) [[1], [n]] ∧ Below W.heap.size W w' ∧ Bools w'.heap.size w' (.slice (some ⟨W.heap.size + 1, 0, none⟩) 2 2) (List.replicate 2 false) := by
  have ho := wh0 (W := (((W.alloc (.cells #[.int .i64 1] T)).alloc (.cells (falsesA 2) V)).alloc (.cells #[.int .i64 n] T))) (T := U) (cs := #[.slice (some ⟨W.heap.size, 0, none⟩) 1 1, .slice (some ⟨W.heap.size + 1 + 1, 0, none⟩) 1 1]) (g := W.heap.size + 1 + 1 + 1) (by simp) 
  have hx := wh3 (W := W) (T := T) (cs := #[.int .i64 1]) (g := W.heap.size) (by simp) (.cells (falsesA 2) V) (.cells #[.int .i64 n] T) (.cells #[.slice (some ⟨W.heap.size, 0, none⟩) 1 1, .slice (some ⟨W.heap.size + 1 + 1, 0, none⟩) 1 1] U)
  have hy := wh1 (W := ((W.alloc (.cells #[.int .i64 1] T)).alloc (.cells (falsesA 2) V))) (T := T) (cs := #[.int .i64 n]) (g := W.heap.size + 1 + 1) (by simp) (.cells #[.slice (some ⟨W.heap.size, 0, none⟩) 1 1, .slice (some ⟨W.heap.size + 1 + 1, 0, none⟩) 1 1] U)
  have hm := wh2 (W := (W.alloc (.cells #[.int .i64 1] T))) (T := V) (cs := (falsesA 2)) (g := W.heap.size + 1) (by simp) (.cells #[.int .i64 n] T) (.cells #[.slice (some ⟨W.heap.size, 0, none⟩) 1 1, .slice (some ⟨W.heap.size + 1 + 1, 0, none⟩) 1 1] U)
  exact (sm_of2 2 ho (lits_block [1] hx hx.lt) (lits_block [n] hy hy.lt) (by simp) (by simp)).mono fun e w' ⟨A, c, he, hr, hb⟩ => ⟨A, c, he, hr, below_cat (below_b4 W _ _ _ _) hb, bools_old hm hb⟩
theorem sm_o3 (W : World) (n : Int) (T U V : TypeId) : Calls Tryz.prog 5 #[.int .i64 2, .slice (some ⟨W.heap.size + 1 + 1 + 1, 0, none⟩) 2 2] ((((W.alloc (.cells #[.int .i64 1] T)).alloc (.cells #[.int .i64 n] T)).alloc (.cells (falsesA 2) V)).alloc (.cells #[.slice (some ⟨W.heap.size, 0, none⟩) 1 1, .slice (some ⟨W.heap.size + 1, 0, none⟩) 1 1] U)) fun e w' => ∃ A c, e = .returned (.agg #[.int .i64 2, .slice A 2 c]) ∧ RowsL w'.heap.size w' (.slice A 2 c) [[1], [n]] ∧ Below W.heap.size W w' ∧ Bools w'.heap.size w' (.slice (some ⟨W.heap.size + 1 + 1, 0, none⟩) 2 2) (List.replicate 2 false) := by
  have ho := wh0 (W := (((W.alloc (.cells #[.int .i64 1] T)).alloc (.cells #[.int .i64 n] T)).alloc (.cells (falsesA 2) V))) (T := U) (cs := #[.slice (some ⟨W.heap.size, 0, none⟩) 1 1, .slice (some ⟨W.heap.size + 1, 0, none⟩) 1 1]) (g := W.heap.size + 1 + 1 + 1) (by simp) 
  have hx := wh3 (W := W) (T := T) (cs := #[.int .i64 1]) (g := W.heap.size) (by simp) (.cells #[.int .i64 n] T) (.cells (falsesA 2) V) (.cells #[.slice (some ⟨W.heap.size, 0, none⟩) 1 1, .slice (some ⟨W.heap.size + 1, 0, none⟩) 1 1] U)
  have hy := wh2 (W := (W.alloc (.cells #[.int .i64 1] T))) (T := T) (cs := #[.int .i64 n]) (g := W.heap.size + 1) (by simp) (.cells (falsesA 2) V) (.cells #[.slice (some ⟨W.heap.size, 0, none⟩) 1 1, .slice (some ⟨W.heap.size + 1, 0, none⟩) 1 1] U)
  have hm := wh1 (W := ((W.alloc (.cells #[.int .i64 1] T)).alloc (.cells #[.int .i64 n] T))) (T := V) (cs := (falsesA 2)) (g := W.heap.size + 1 + 1) (by simp) (.cells #[.slice (some ⟨W.heap.size, 0, none⟩) 1 1, .slice (some ⟨W.heap.size + 1, 0, none⟩) 1 1] U)
  exact (sm_of2 2 ho (lits_block [1] hx hx.lt) (lits_block [n] hy hy.lt) (by simp) (by simp)).mono fun e w' ⟨A, c, he, hr, hb⟩ => ⟨A, c, he, hr, below_cat (below_b4 W _ _ _ _) hb, bools_old hm hb⟩
theorem sm_o4 (W : World) (n : Int) (T U V : TypeId) : Calls Tryz.prog 5 #[.int .i64 2, .slice (some ⟨W.heap.size + 1 + 1, 0, none⟩) 2 2] ((((W.alloc (.cells #[.int .i64 1] T)).alloc (.cells #[.int .i64 n] T)).alloc (.cells #[.slice (some ⟨W.heap.size, 0, none⟩) 1 1, .slice (some ⟨W.heap.size + 1, 0, none⟩) 1 1] U)).alloc (.cells (falsesA 2) V)) fun e w' => ∃ A c, e = .returned (.agg #[.int .i64 2, .slice A 2 c]) ∧ RowsL w'.heap.size w' (.slice A 2 c) [[1], [n]] ∧ Below W.heap.size W w' ∧ Bools w'.heap.size w' (.slice (some ⟨W.heap.size + 1 + 1 + 1, 0, none⟩) 2 2) (List.replicate 2 false) := by
  have ho := wh1 (W := ((W.alloc (.cells #[.int .i64 1] T)).alloc (.cells #[.int .i64 n] T))) (T := U) (cs := #[.slice (some ⟨W.heap.size, 0, none⟩) 1 1, .slice (some ⟨W.heap.size + 1, 0, none⟩) 1 1]) (g := W.heap.size + 1 + 1) (by simp) (.cells (falsesA 2) V)
  have hx := wh3 (W := W) (T := T) (cs := #[.int .i64 1]) (g := W.heap.size) (by simp) (.cells #[.int .i64 n] T) (.cells #[.slice (some ⟨W.heap.size, 0, none⟩) 1 1, .slice (some ⟨W.heap.size + 1, 0, none⟩) 1 1] U) (.cells (falsesA 2) V)
  have hy := wh2 (W := (W.alloc (.cells #[.int .i64 1] T))) (T := T) (cs := #[.int .i64 n]) (g := W.heap.size + 1) (by simp) (.cells #[.slice (some ⟨W.heap.size, 0, none⟩) 1 1, .slice (some ⟨W.heap.size + 1, 0, none⟩) 1 1] U) (.cells (falsesA 2) V)
  have hm := wh0 (W := (((W.alloc (.cells #[.int .i64 1] T)).alloc (.cells #[.int .i64 n] T)).alloc (.cells #[.slice (some ⟨W.heap.size, 0, none⟩) 1 1, .slice (some ⟨W.heap.size + 1, 0, none⟩) 1 1] U))) (T := V) (cs := (falsesA 2)) (g := W.heap.size + 1 + 1 + 1) (by simp) 
  exact (sm_of2 2 ho (lits_block [1] hx hx.lt) (lits_block [n] hy hy.lt) (by simp) (by simp)).mono fun e w' ⟨A, c, he, hr, hb⟩ => ⟨A, c, he, hr, below_cat (below_b4 W _ _ _ _) hb, bools_old hm hb⟩
theorem sm_o5 (W : World) (n : Int) (T U : TypeId) : Calls Tryz.prog 5 #[.int .i64 2, .slice (some ⟨W.heap.size + 1 + 1, 0, none⟩) 2 2] (((W.alloc (.cells #[.int .i64 n] T)).alloc (.cells #[.int .i64 1] T)).alloc (.cells #[.slice (some ⟨W.heap.size + 1, 0, none⟩) 1 1, .slice (some ⟨W.heap.size, 0, none⟩) 1 1] U)) fun e w' => ∃ A c, e = .returned (.agg #[.int .i64 2, .slice A 2 c]) ∧ RowsL w'.heap.size w' (.slice A 2 c) [[1], [n]] ∧ Below W.heap.size W w' := by
  have ho := wh0 (W := ((W.alloc (.cells #[.int .i64 n] T)).alloc (.cells #[.int .i64 1] T))) (T := U) (cs := #[.slice (some ⟨W.heap.size + 1, 0, none⟩) 1 1, .slice (some ⟨W.heap.size, 0, none⟩) 1 1]) (g := W.heap.size + 1 + 1) (by simp) 
  have hx := wh1 (W := (W.alloc (.cells #[.int .i64 n] T))) (T := T) (cs := #[.int .i64 1]) (g := W.heap.size + 1) (by simp) (.cells #[.slice (some ⟨W.heap.size + 1, 0, none⟩) 1 1, .slice (some ⟨W.heap.size, 0, none⟩) 1 1] U)
  have hy := wh2 (W := W) (T := T) (cs := #[.int .i64 n]) (g := W.heap.size) (by simp) (.cells #[.int .i64 1] T) (.cells #[.slice (some ⟨W.heap.size + 1, 0, none⟩) 1 1, .slice (some ⟨W.heap.size, 0, none⟩) 1 1] U)
  exact (sm_of2 2 ho (lits_block [1] hx hx.lt) (lits_block [n] hy hy.lt) (by simp) (by simp)).mono fun e w' ⟨A, c, he, hr, hb⟩ => ⟨A, c, he, hr, below_cat (below_b3 W _ _ _) hb⟩
theorem sm_o6 (W : World) (n : Int) (T U V : TypeId) : Calls Tryz.prog 5 #[.int .i64 2, .slice (some ⟨W.heap.size + 1 + 1 + 1, 0, none⟩) 2 2] ((((W.alloc (.cells (falsesA 2) V)).alloc (.cells #[.int .i64 n] T)).alloc (.cells #[.int .i64 1] T)).alloc (.cells #[.slice (some ⟨W.heap.size + 1 + 1, 0, none⟩) 1 1, .slice (some ⟨W.heap.size + 1, 0, none⟩) 1 1] U)) fun e w' => ∃ A c, e = .returned (.agg #[.int .i64 2, .slice A 2 c]) ∧ RowsL w'.heap.size w' (.slice A 2 c) [[1], [n]] ∧ Below W.heap.size W w' ∧ Bools w'.heap.size w' (.slice (some ⟨W.heap.size, 0, none⟩) 2 2) (List.replicate 2 false) := by
  have ho := wh0 (W := (((W.alloc (.cells (falsesA 2) V)).alloc (.cells #[.int .i64 n] T)).alloc (.cells #[.int .i64 1] T))) (T := U) (cs := #[.slice (some ⟨W.heap.size + 1 + 1, 0, none⟩) 1 1, .slice (some ⟨W.heap.size + 1, 0, none⟩) 1 1]) (g := W.heap.size + 1 + 1 + 1) (by simp) 
  have hx := wh1 (W := ((W.alloc (.cells (falsesA 2) V)).alloc (.cells #[.int .i64 n] T))) (T := T) (cs := #[.int .i64 1]) (g := W.heap.size + 1 + 1) (by simp) (.cells #[.slice (some ⟨W.heap.size + 1 + 1, 0, none⟩) 1 1, .slice (some ⟨W.heap.size + 1, 0, none⟩) 1 1] U)
  have hy := wh2 (W := (W.alloc (.cells (falsesA 2) V))) (T := T) (cs := #[.int .i64 n]) (g := W.heap.size + 1) (by simp) (.cells #[.int .i64 1] T) (.cells #[.slice (some ⟨W.heap.size + 1 + 1, 0, none⟩) 1 1, .slice (some ⟨W.heap.size + 1, 0, none⟩) 1 1] U)
  have hm := wh3 (W := W) (T := V) (cs := (falsesA 2)) (g := W.heap.size) (by simp) (.cells #[.int .i64 n] T) (.cells #[.int .i64 1] T) (.cells #[.slice (some ⟨W.heap.size + 1 + 1, 0, none⟩) 1 1, .slice (some ⟨W.heap.size + 1, 0, none⟩) 1 1] U)
  exact (sm_of2 2 ho (lits_block [1] hx hx.lt) (lits_block [n] hy hy.lt) (by simp) (by simp)).mono fun e w' ⟨A, c, he, hr, hb⟩ => ⟨A, c, he, hr, below_cat (below_b4 W _ _ _ _) hb, bools_old hm hb⟩
theorem sm_o7 (W : World) (n : Int) (T U V : TypeId) : Calls Tryz.prog 5 #[.int .i64 2, .slice (some ⟨W.heap.size + 1 + 1 + 1, 0, none⟩) 2 2] ((((W.alloc (.cells #[.int .i64 n] T)).alloc (.cells (falsesA 2) V)).alloc (.cells #[.int .i64 1] T)).alloc (.cells #[.slice (some ⟨W.heap.size + 1 + 1, 0, none⟩) 1 1, .slice (some ⟨W.heap.size, 0, none⟩) 1 1] U)) fun e w' => ∃ A c, e = .returned (.agg #[.int .i64 2, .slice A 2 c]) ∧ RowsL w'.heap.size w' (.slice A 2 c) [[1], [n]] ∧ Below W.heap.size W w' ∧ Bools w'.heap.size w' (.slice (some ⟨W.heap.size + 1, 0, none⟩) 2 2) (List.replicate 2 false) := by
  have ho := wh0 (W := (((W.alloc (.cells #[.int .i64 n] T)).alloc (.cells (falsesA 2) V)).alloc (.cells #[.int .i64 1] T))) (T := U) (cs := #[.slice (some ⟨W.heap.size + 1 + 1, 0, none⟩) 1 1, .slice (some ⟨W.heap.size, 0, none⟩) 1 1]) (g := W.heap.size + 1 + 1 + 1) (by simp) 
  have hx := wh1 (W := ((W.alloc (.cells #[.int .i64 n] T)).alloc (.cells (falsesA 2) V))) (T := T) (cs := #[.int .i64 1]) (g := W.heap.size + 1 + 1) (by simp) (.cells #[.slice (some ⟨W.heap.size + 1 + 1, 0, none⟩) 1 1, .slice (some ⟨W.heap.size, 0, none⟩) 1 1] U)
  have hy := wh3 (W := W) (T := T) (cs := #[.int .i64 n]) (g := W.heap.size) (by simp) (.cells (falsesA 2) V) (.cells #[.int .i64 1] T) (.cells #[.slice (some ⟨W.heap.size + 1 + 1, 0, none⟩) 1 1, .slice (some ⟨W.heap.size, 0, none⟩) 1 1] U)
  have hm := wh2 (W := (W.alloc (.cells #[.int .i64 n] T))) (T := V) (cs := (falsesA 2)) (g := W.heap.size + 1) (by simp) (.cells #[.int .i64 1] T) (.cells #[.slice (some ⟨W.heap.size + 1 + 1, 0, none⟩) 1 1, .slice (some ⟨W.heap.size, 0, none⟩) 1 1] U)
  exact (sm_of2 2 ho (lits_block [1] hx hx.lt) (lits_block [n] hy hy.lt) (by simp) (by simp)).mono fun e w' ⟨A, c, he, hr, hb⟩ => ⟨A, c, he, hr, below_cat (below_b4 W _ _ _ _) hb, bools_old hm hb⟩
theorem sm_o8 (W : World) (n : Int) (T U V : TypeId) : Calls Tryz.prog 5 #[.int .i64 2, .slice (some ⟨W.heap.size + 1 + 1 + 1, 0, none⟩) 2 2] ((((W.alloc (.cells #[.int .i64 n] T)).alloc (.cells #[.int .i64 1] T)).alloc (.cells (falsesA 2) V)).alloc (.cells #[.slice (some ⟨W.heap.size + 1, 0, none⟩) 1 1, .slice (some ⟨W.heap.size, 0, none⟩) 1 1] U)) fun e w' => ∃ A c, e = .returned (.agg #[.int .i64 2, .slice A 2 c]) ∧ RowsL w'.heap.size w' (.slice A 2 c) [[1], [n]] ∧ Below W.heap.size W w' ∧ Bools w'.heap.size w' (.slice (some ⟨W.heap.size + 1 + 1, 0, none⟩) 2 2) (List.replicate 2 false) := by
  have ho := wh0 (W := (((W.alloc (.cells #[.int .i64 n] T)).alloc (.cells #[.int .i64 1] T)).alloc (.cells (falsesA 2) V))) (T := U) (cs := #[.slice (some ⟨W.heap.size + 1, 0, none⟩) 1 1, .slice (some ⟨W.heap.size, 0, none⟩) 1 1]) (g := W.heap.size + 1 + 1 + 1) (by simp) 
  have hx := wh2 (W := (W.alloc (.cells #[.int .i64 n] T))) (T := T) (cs := #[.int .i64 1]) (g := W.heap.size + 1) (by simp) (.cells (falsesA 2) V) (.cells #[.slice (some ⟨W.heap.size + 1, 0, none⟩) 1 1, .slice (some ⟨W.heap.size, 0, none⟩) 1 1] U)
  have hy := wh3 (W := W) (T := T) (cs := #[.int .i64 n]) (g := W.heap.size) (by simp) (.cells #[.int .i64 1] T) (.cells (falsesA 2) V) (.cells #[.slice (some ⟨W.heap.size + 1, 0, none⟩) 1 1, .slice (some ⟨W.heap.size, 0, none⟩) 1 1] U)
  have hm := wh1 (W := ((W.alloc (.cells #[.int .i64 n] T)).alloc (.cells #[.int .i64 1] T))) (T := V) (cs := (falsesA 2)) (g := W.heap.size + 1 + 1) (by simp) (.cells #[.slice (some ⟨W.heap.size + 1, 0, none⟩) 1 1, .slice (some ⟨W.heap.size, 0, none⟩) 1 1] U)
  exact (sm_of2 2 ho (lits_block [1] hx hx.lt) (lits_block [n] hy hy.lt) (by simp) (by simp)).mono fun e w' ⟨A, c, he, hr, hb⟩ => ⟨A, c, he, hr, below_cat (below_b4 W _ _ _ _) hb, bools_old hm hb⟩
theorem sm_o9 (W : World) (n : Int) (T U V : TypeId) : Calls Tryz.prog 5 #[.int .i64 2, .slice (some ⟨W.heap.size + 1 + 1, 0, none⟩) 2 2] ((((W.alloc (.cells #[.int .i64 n] T)).alloc (.cells #[.int .i64 1] T)).alloc (.cells #[.slice (some ⟨W.heap.size + 1, 0, none⟩) 1 1, .slice (some ⟨W.heap.size, 0, none⟩) 1 1] U)).alloc (.cells (falsesA 2) V)) fun e w' => ∃ A c, e = .returned (.agg #[.int .i64 2, .slice A 2 c]) ∧ RowsL w'.heap.size w' (.slice A 2 c) [[1], [n]] ∧ Below W.heap.size W w' ∧ Bools w'.heap.size w' (.slice (some ⟨W.heap.size + 1 + 1 + 1, 0, none⟩) 2 2) (List.replicate 2 false) := by
  have ho := wh1 (W := ((W.alloc (.cells #[.int .i64 n] T)).alloc (.cells #[.int .i64 1] T))) (T := U) (cs := #[.slice (some ⟨W.heap.size + 1, 0, none⟩) 1 1, .slice (some ⟨W.heap.size, 0, none⟩) 1 1]) (g := W.heap.size + 1 + 1) (by simp) (.cells (falsesA 2) V)
  have hx := wh2 (W := (W.alloc (.cells #[.int .i64 n] T))) (T := T) (cs := #[.int .i64 1]) (g := W.heap.size + 1) (by simp) (.cells #[.slice (some ⟨W.heap.size + 1, 0, none⟩) 1 1, .slice (some ⟨W.heap.size, 0, none⟩) 1 1] U) (.cells (falsesA 2) V)
  have hy := wh3 (W := W) (T := T) (cs := #[.int .i64 n]) (g := W.heap.size) (by simp) (.cells #[.int .i64 1] T) (.cells #[.slice (some ⟨W.heap.size + 1, 0, none⟩) 1 1, .slice (some ⟨W.heap.size, 0, none⟩) 1 1] U) (.cells (falsesA 2) V)
  have hm := wh0 (W := (((W.alloc (.cells #[.int .i64 n] T)).alloc (.cells #[.int .i64 1] T)).alloc (.cells #[.slice (some ⟨W.heap.size + 1, 0, none⟩) 1 1, .slice (some ⟨W.heap.size, 0, none⟩) 1 1] U))) (T := V) (cs := (falsesA 2)) (g := W.heap.size + 1 + 1 + 1) (by simp) 
  exact (sm_of2 2 ho (lits_block [1] hx hx.lt) (lits_block [n] hy hy.lt) (by simp) (by simp)).mono fun e w' ⟨A, c, he, hr, hb⟩ => ⟨A, c, he, hr, below_cat (below_b4 W _ _ _ _) hb, bools_old hm hb⟩
end Go.Proofs.YtgoflapolglfcaaGreat
namespace Go.Proofs.YtgoflapolglfcaaGreat.formulaSmall
open Go.RowKit Go.ChangeAt Go.ChangeShapes Go.WideShapes Go.Shelf Go.Sort

/-- A frame, slot by slot. -/
theorem frame_at (t : Array Value) (h : t.size = 203) : ∃ z : Nat → Value, t = #[z 0, z 1, z 2, z 3, z 4, z 5, z 6, z 7, z 8, z 9, z 10, z 11, z 12, z 13, z 14, z 15, z 16, z 17, z 18, z 19, z 20, z 21, z 22, z 23, z 24, z 25, z 26, z 27, z 28, z 29, z 30, z 31, z 32, z 33, z 34, z 35, z 36, z 37, z 38, z 39, z 40, z 41, z 42, z 43, z 44, z 45, z 46, z 47, z 48, z 49, z 50, z 51, z 52, z 53, z 54, z 55, z 56, z 57, z 58, z 59, z 60, z 61, z 62, z 63, z 64, z 65, z 66, z 67, z 68, z 69, z 70, z 71, z 72, z 73, z 74, z 75, z 76, z 77, z 78, z 79, z 80, z 81, z 82, z 83, z 84, z 85, z 86, z 87, z 88, z 89, z 90, z 91, z 92, z 93, z 94, z 95, z 96, z 97, z 98, z 99, z 100, z 101, z 102, z 103, z 104, z 105, z 106, z 107, z 108, z 109, z 110, z 111, z 112, z 113, z 114, z 115, z 116, z 117, z 118, z 119, z 120, z 121, z 122, z 123, z 124, z 125, z 126, z 127, z 128, z 129, z 130, z 131, z 132, z 133, z 134, z 135, z 136, z 137, z 138, z 139, z 140, z 141, z 142, z 143, z 144, z 145, z 146, z 147, z 148, z 149, z 150, z 151, z 152, z 153, z 154, z 155, z 156, z 157, z 158, z 159, z 160, z 161, z 162, z 163, z 164, z 165, z 166, z 167, z 168, z 169, z 170, z 171, z 172, z 173, z 174, z 175, z 176, z 177, z 178, z 179, z 180, z 181, z 182, z 183, z 184, z 185, z 186, z 187, z 188, z 189, z 190, z 191, z 192, z 193, z 194, z 195, z 196, z 197, z 198, z 199, z 200, z 201, z 202] := by
  refine ⟨fun i => t[i]?.getD undef, ?_⟩
  have e : ∀ z : Nat → Value, #[z 0, z 1, z 2, z 3, z 4, z 5, z 6, z 7, z 8, z 9, z 10, z 11, z 12, z 13, z 14, z 15, z 16, z 17, z 18, z 19, z 20, z 21, z 22, z 23, z 24, z 25, z 26, z 27, z 28, z 29, z 30, z 31, z 32, z 33, z 34, z 35, z 36, z 37, z 38, z 39, z 40, z 41, z 42, z 43, z 44, z 45, z 46, z 47, z 48, z 49, z 50, z 51, z 52, z 53, z 54, z 55, z 56, z 57, z 58, z 59, z 60, z 61, z 62, z 63, z 64, z 65, z 66, z 67, z 68, z 69, z 70, z 71, z 72, z 73, z 74, z 75, z 76, z 77, z 78, z 79, z 80, z 81, z 82, z 83, z 84, z 85, z 86, z 87, z 88, z 89, z 90, z 91, z 92, z 93, z 94, z 95, z 96, z 97, z 98, z 99, z 100, z 101, z 102, z 103, z 104, z 105, z 106, z 107, z 108, z 109, z 110, z 111, z 112, z 113, z 114, z 115, z 116, z 117, z 118, z 119, z 120, z 121, z 122, z 123, z 124, z 125, z 126, z 127, z 128, z 129, z 130, z 131, z 132, z 133, z 134, z 135, z 136, z 137, z 138, z 139, z 140, z 141, z 142, z 143, z 144, z 145, z 146, z 147, z 148, z 149, z 150, z 151, z 152, z 153, z 154, z 155, z 156, z 157, z 158, z 159, z 160, z 161, z 162, z 163, z 164, z 165, z 166, z 167, z 168, z 169, z 170, z 171, z 172, z 173, z 174, z 175, z 176, z 177, z 178, z 179, z 180, z 181, z 182, z 183, z 184, z 185, z 186, z 187, z 188, z 189, z 190, z 191, z 192, z 193, z 194, z 195, z 196, z 197, z 198, z 199, z 200, z 201, z 202] = ((List.range 203).map z).toArray := fun z => rfl
  refine Eq.trans ?_ (e fun i => t[i]?.getD undef).symm
  refine Array.ext (by simp [h]) fun i h1 h2 => ?_
  simp [h1]
theorem nils_set {W : World} {g : Nat} (h : NilsAt W g) {p : Addr} (hne : g ≠ p.block) (u : Value) : NilsAt (W.setCell p u) g :=
  ⟨by simpa [World.setCell] using h.lt, fun j hj => ⟨(World.cell?_of_block (Below.heap_setCell _ _ _ _ hne)).trans (h.cell j hj).1, (World.frozen?_of_block (Below.heap_setCell _ _ _ _ hne)).trans (h.cell j hj).2⟩⟩
/-- Count of 17 variables. -/
theorem sm_many {W : World} {A : Option Addr} {c : Nat} (hL : RowsL W.heap.size W (.slice A 0 c) []) : Calls Tryz.prog 7 #[.agg #[.int .i64 17, .slice A 0 c]] W fun e w' => e = .returned (.tuple #[.int .i64 0, .int .i64 5]) ∧ Below W.heap.size W w' :=
  count_bad (L := []) 17 W (Nat.le_refl _) (by simp) (fun zs h => by cases h) hL 5 (by decide) (by decide)
/-- Three clauses of 16 variables. -/
theorem sm_of16 (W : World) (T U : TypeId) : Calls Tryz.prog 5 #[.int .i64 16, .slice (some ⟨W.heap.size + 1 + 1 + 1, 0, none⟩) 3 3] ((((W.alloc (.cells #[.int .i64 1] T)).alloc (.cells #[.int .i64 (-2)] T)).alloc (.cells #[.int .i64 3, .int .i64 4] T)).alloc (.cells #[.slice (some ⟨W.heap.size, 0, none⟩) 1 1, .slice (some ⟨W.heap.size + 1, 0, none⟩) 1 1, .slice (some ⟨W.heap.size + 1 + 1, 0, none⟩) 2 2] U)) fun e w' => ∃ A c, e = .returned (.agg #[.int .i64 16, .slice A 3 c]) ∧ RowsL w'.heap.size w' (.slice A 3 c) [[1], [-2], [3, 4]] ∧ Below W.heap.size W w' :=
  (sm_of (L := [[1], [-2], [3, 4]]) 16 (by simp) (by decide) (lit_three W [1] [-2] [3, 4] T U)).mono fun e w' ⟨A, c, he, hr, hb⟩ => ⟨A, c, he, hr, below_cat (below_b4 W _ _ _ _) hb⟩
theorem sm_count16 {W : World} {A : Option Addr} {c : Nat} (hL : RowsL W.heap.size W (.slice A 3 c) [[1], [-2], [3, 4]]) : Calls Tryz.prog 7 #[.agg #[.int .i64 16, .slice A 3 c]] W fun e w' => e = .returned (.tuple #[.int .i64 12288, .int .i64 0]) ∧ Below W.heap.size W w' := by
  have h := count_ok (L := [[1], [-2], [3, 4]]) 16 (by decide) W (Nat.le_refl _) (by decide) hL (by decide)
  rw [mdl_count] at h
  exact h
set_option maxRecDepth 100000 in
set_option maxHeartbeats 4000000 in
theorem fs_end (t : Array Value) (ht : t.size = 203) (w W : World) (hB : Below w.heap.size w W) : (sndsT 4 (Tryz.f3.body.getD .skip)).wp Tryz.prog (bodyPost Tryz.prog Tryz.f3 fun e w' => e = .returned (.bool true) ∧ Below w.heap.size w w') { tmps := t, defers := [] } W := by
  obtain ⟨z, rfl⟩ := frame_at t ht
  clear ht
  refine tl_part 4 rfl (by dsimp only [sndsT]) ?_
  obtain ⟨M, hM, hmn⟩ := mk_nils
  have hN1 := (nils_made hM W 65).on (below_b1 _ (.cells #[.int .i64 1, .slice (some ⟨W.heap.size, 0, none⟩) 262145 262145] 27))
  have m1 := Whole.made (W.alloc (.cells M 65)) 27 #[.int .i64 1, .slice (some ⟨W.heap.size, 0, none⟩) 262145 262145]
  rw [World.size_alloc] at m1
  have hb1 := below_cat hB (below_b2 W (.cells M 65) (.cells #[.int .i64 1, .slice (some ⟨W.heap.size, 0, none⟩) 262145 262145] 27))
  have hsz := hB.size
  have HN1 := Lib.hid hN1; have HM1 := Lib.hid m1; have HB1 := Lib.hid hb1; have HSz := Lib.hid hsz
  clear hM hN1 m1 hb1 hB hsz
  dsimp only
  go_wp2_with fail
  obtain ⟨W1, hW1⟩ : ∃ x, (W.alloc (.cells M 65)).alloc (.cells #[.int .i64 1, .slice (some ⟨W.heap.size, 0, none⟩) 262145 262145] 27) = x := ⟨_, rfl⟩
  obtain ⟨g, hg⟩ : ∃ x, W.heap.size = x := ⟨_, rfl⟩
  rw [hW1, hg] at HN1 HM1
  rw [hW1] at HB1
  rw [hg] at HSz
  rw [hW1, hg]
  clear hW1 hg hmn
  refine (sm_check 262145 (-1) 5 HN1.out (by omega) chk_nils_many).mono ?_
  rintro e W2 ⟨rfl, hb2⟩
  have m2 := HM1.out.same (hb2.block _ HM1.out.lt)
  have c0 : W2.cell? ⟨g + 1, 0, none⟩ = some (.int .i64 1) := m2.cell 0
  have c1 : W2.cell? ⟨g + 1, 1, none⟩ = some (.slice (some ⟨g, 0, none⟩) 262145 262145) := m2.cell 1
  have f1 := m2.frozen 1
  have HN2 := Lib.hid (nils_set (HN1.out.on hb2) (p := ⟨g + 1, 1, none⟩) (by simp) (.slice (some ⟨g, 1, none⟩) 262144 262144))
  have HB2 := Lib.hid ((below_cat HB1.out hb2).setCell (p := ⟨g + 1, 1, none⟩) (by have := HSz.out; dsimp only; omega) (.slice (some ⟨g, 1, none⟩) 262144 262144))
  have hm2 := m2.store 1 (.slice (some ⟨g, 1, none⟩) 262144 262144)
  have d0 : (W2.setCell ⟨g + 1, 1, none⟩ (.slice (some ⟨g, 1, none⟩) 262144 262144)).cell? ⟨g + 1, 0, none⟩ = some (.int .i64 1) := hm2.cell 0
  have d1 : (W2.setCell ⟨g + 1, 1, none⟩ (.slice (some ⟨g, 1, none⟩) 262144 262144)).cell? ⟨g + 1, 1, none⟩ = some (.slice (some ⟨g, 1, none⟩) 262144 262144) := hm2.cell 1
  clear hb2 m2 hm2
  go_wp2_with fail
  refine (sm_check 262144 (-1) 0 HN2.out (by omega) (chk_nils 262144 (by omega))).mono ?_
  rintro e W3 ⟨rfl, hb3⟩
  have HB3 := Lib.hid (below_cat HB2.out hb3)
  clear hb3 c0 c1 f1 d0 d1
  go_wp2_with fail
  refine (sm_of0 17).mono ?_
  rintro e W4 ⟨A4, c4, rfl, hr4, hb4⟩
  have HR4 := Lib.hid hr4; have HB4 := Lib.hid (below_cat HB3.out hb4)
  clear hr4 hb4
  go_wp2_with fail
  refine (sm_many HR4.out).mono ?_
  rintro e W5 ⟨rfl, hb5⟩
  have HB5 := Lib.hid (below_cat HB4.out hb5)
  clear hb5
  go_wp2_with fail
  refine (sm_of16 W5 _ _).mono ?_
  rintro e W6 ⟨A6, c6, rfl, hr6, hb6⟩
  have HR6 := Lib.hid hr6; have HB6 := Lib.hid (below_cat HB5.out hb6)
  clear hr6 hb6
  go_wp2_with fail
  refine (sm_count16 HR6.out).mono ?_
  rintro e W7 ⟨rfl, hb7⟩
  have HB7 := Lib.hid (below_cat HB6.out hb7)
  clear hb7
  go_wp2_with fail
  refine (sm_model (Whole.made W7 _ _)).mono ?_
  rintro e W8 ⟨b8, c8, rfl, hc8, hb8⟩
  have HB8 := Lib.hid (below_cat (below_cat HB7.out (below_b1 W7 _)) hb8)
  clear hb8
  go_wp2_with fail
  refine (awake_any W8).mono ?_
  rintro e W9 ⟨rfl, hb9⟩
  have HB9 := Lib.hid (below_cat HB8.out hb9)
  clear hb9 hc8
  go_wp2_with fail
  go_ret
  exact ⟨by trivial, HB9.out⟩
end Go.Proofs.YtgoflapolglfcaaGreat.formulaSmall
namespace Go.Proofs.YtgoflapolglfcaaGreat.formulaSmall
open Go.RowKit Go.ChangeAt Go.ChangeShapes Go.WideShapes Go.Shelf Go.Sort

/-- The eight numbers. -/
abbrev e8 : List Int := [-9223372036854775808, -1, 0, 1, 17, 1048576, 1048577, 9223372036854775807]
def R4 (w : World) (b : Nat) (i : Value) (wr : World) : Prop := ∃ k : Nat, k ≤ 8 ∧ i = .int .i64 k ∧ Below w.heap.size w wr ∧ Whole wr b 3 (e8.map (Value.int .i64)).toArray
theorem e8_at {k : Nat} (h : k < 8) : ∃ n : Int, (e8.map (Value.int .i64)).toArray[k]? = some (.int .i64 n) ∧ -9223372036854775808 ≤ n ∧ n ≤ 9223372036854775807 := by
  have hb : ∀ n ∈ e8, -9223372036854775808 ≤ n ∧ n ≤ 9223372036854775807 := by decide
  have hk : k < e8.length := h
  refine ⟨e8[k], ?_, hb _ (List.getElem_mem hk)⟩
  rw [List.getElem?_toArray, List.getElem?_map, List.getElem?_eq_getElem hk]
  rfl
set_option maxRecDepth 100000 in
set_option maxHeartbeats 4000000 in
theorem fs_tail (t : Array Value) (ht : t.size = 203) (w W : World) (hB : Below w.heap.size w W) : (sndsT 3 (Tryz.f3.body.getD .skip)).wp Tryz.prog (bodyPost Tryz.prog Tryz.f3 fun e w' => e = .returned (.bool true) ∧ Below w.heap.size w w') { tmps := t, defers := [] } W := by
  obtain ⟨z, rfl⟩ := frame_at t ht
  clear ht
  refine tl_part 3 rfl (by dsimp only [sndsT]) ?_
  have e1 := Whole.made W 3 (e8.map (Value.int .i64)).toArray
  have HE1 := Lib.hid e1; have HBe := Lib.hid (below_cat hB (below_b1 W (.cells (e8.map (Value.int .i64)).toArray 3)))
  clear e1 hB
  dsimp only
  go_wp2_with fail
  obtain ⟨eb, heb⟩ : ∃ y, W.heap.size = y := ⟨_, rfl⟩
  rw [heb] at HE1 ⊢
  clear heb
  go_loopw [94] (fun i wr' => R4 w eb i wr') (fun i _ => 8 - (intOf i).toNat)
  case atStart => exact ⟨0, by omega, rfl, HBe.out, HE1.out⟩
  case round =>
    rename_i W9
    clear HE1 HBe
    obtain ⟨i, hi, rfl, hB, hE⟩ := hrel
    by_cases hlt : i < 8
    · obtain ⟨n, hn, hn1, hn2⟩ := e8_at hlt
      have hcell := (hE.cell i).trans hn
      have hmk2 := fun W => mk_falses 2 (by decide) W
      have hmk3 := fun W => mk_falses 3 (by decide) W
      rw [show ((2 : Nat) : Int) = 2 from rfl] at hmk2
      rw [show ((3 : Nat) : Int) = 3 from rfl] at hmk3
      have hii : (i : Int) < 8 := by omega
      have hi0 : (0 : Int) ≤ (i : Int) := by omega
      have HE := Lib.hid hE; have HB := Lib.hid hB; have HLt := Lib.hid hlt
      clear hE hB hlt hi hn
      go_wp2_with fail
      go_region_held3 (fun _ => True) (trivial) (first
        | (go_at_call 5; (with_reducible refine (sm_of1d _ _ _ _).mono ?_); rintro e w5 ⟨A5, c5, rfl, hr5, hb5⟩; have HR5 := Lib.hid hr5; have HB5 := Lib.hid hb5; clear hr5 hb5)
        | (go_at_call 4; (with_reducible refine (sm_tells _ _ (L := [[1]]) (x := []) (by simp) (by simp) (by simp) HR5.out (bools_none _ _)).mono ?_); rintro e w6 ⟨rfl, hb6⟩; have HB6 := Lib.hid (below_cat HB5.out hb6); clear hb6 HR5)
        | (go_at_call 5; (with_reducible refine (sm_o0 w6 n _ _).mono ?_); rintro e w7 ⟨A7, c7, rfl, hr7, hb7⟩; have HR7 := Lib.hid hr7; have HB7 := Lib.hid (below_cat HB6.out hb7); clear hr7 hb7)
        | (go_at_call 5; (with_reducible refine (sm_o1 w6 n _ _ _).mono ?_); rintro e w7 ⟨A7, c7, rfl, hr7, hb7, hm7⟩; have HR7 := Lib.hid hr7; have HB7 := Lib.hid (below_cat HB6.out hb7); have HM7 := Lib.hid hm7; clear hr7 hb7 hm7)
        | (go_at_call 5; (with_reducible refine (sm_o2 w6 n _ _ _).mono ?_); rintro e w7 ⟨A7, c7, rfl, hr7, hb7, hm7⟩; have HR7 := Lib.hid hr7; have HB7 := Lib.hid (below_cat HB6.out hb7); have HM7 := Lib.hid hm7; clear hr7 hb7 hm7)
        | (go_at_call 5; (with_reducible refine (sm_o3 w6 n _ _ _).mono ?_); rintro e w7 ⟨A7, c7, rfl, hr7, hb7, hm7⟩; have HR7 := Lib.hid hr7; have HB7 := Lib.hid (below_cat HB6.out hb7); have HM7 := Lib.hid hm7; clear hr7 hb7 hm7)
        | (go_at_call 5; (with_reducible refine (sm_o4 w6 n _ _ _).mono ?_); rintro e w7 ⟨A7, c7, rfl, hr7, hb7, hm7⟩; have HR7 := Lib.hid hr7; have HB7 := Lib.hid (below_cat HB6.out hb7); have HM7 := Lib.hid hm7; clear hr7 hb7 hm7)
        | (go_at_call 5; (with_reducible refine (sm_o5 w6 n _ _).mono ?_); rintro e w7 ⟨A7, c7, rfl, hr7, hb7⟩; have HR7 := Lib.hid hr7; have HB7 := Lib.hid (below_cat HB6.out hb7); clear hr7 hb7)
        | (go_at_call 5; (with_reducible refine (sm_o6 w6 n _ _ _).mono ?_); rintro e w7 ⟨A7, c7, rfl, hr7, hb7, hm7⟩; have HR7 := Lib.hid hr7; have HB7 := Lib.hid (below_cat HB6.out hb7); have HM7 := Lib.hid hm7; clear hr7 hb7 hm7)
        | (go_at_call 5; (with_reducible refine (sm_o7 w6 n _ _ _).mono ?_); rintro e w7 ⟨A7, c7, rfl, hr7, hb7, hm7⟩; have HR7 := Lib.hid hr7; have HB7 := Lib.hid (below_cat HB6.out hb7); have HM7 := Lib.hid hm7; clear hr7 hb7 hm7)
        | (go_at_call 5; (with_reducible refine (sm_o8 w6 n _ _ _).mono ?_); rintro e w7 ⟨A7, c7, rfl, hr7, hb7, hm7⟩; have HR7 := Lib.hid hr7; have HB7 := Lib.hid (below_cat HB6.out hb7); have HM7 := Lib.hid hm7; clear hr7 hb7 hm7)
        | (go_at_call 5; (with_reducible refine (sm_o9 w6 n _ _ _).mono ?_); rintro e w7 ⟨A7, c7, rfl, hr7, hb7, hm7⟩; have HR7 := Lib.hid hr7; have HB7 := Lib.hid (below_cat HB6.out hb7); have HM7 := Lib.hid hm7; clear hr7 hb7 hm7)
        | (go_at_call 4; (with_reducible refine (sm_tells_new _ _ 2 (by simp) (by simp) (by decide) HR7.out).mono ?_); rintro e w8 ⟨rfl, hb8⟩; have HB8 := Lib.hid (below_cat HB7.out hb8); clear hb8 HR7)
        | (go_at_call 4; (with_reducible refine (sm_tells_old _ _ 2 (by simp) (by simp) (by decide) HR7.out HM7.out).mono ?_); rintro e w8 ⟨rfl, hb8⟩; have HB8 := Lib.hid (below_cat HB7.out hb8); clear hb8 HR7 HM7)
        | (go_at_call 5; (with_reducible refine (sm_of0 (W1 := w8) _).mono ?_); rintro e w9 ⟨A9, c9, rfl, hr9, hb9⟩; have HR9 := Lib.hid hr9; have HB9 := Lib.hid (below_cat HB8.out hb9); clear hr9 hb9)
        | (go_at_call 5; (with_reducible refine (sm_of1m w8 3 _ _).mono ?_); rintro e w9 ⟨A9, c9, rfl, hr9, hb9, hm9⟩; have HR9 := Lib.hid hr9; have HB9 := Lib.hid (below_cat HB8.out hb9); have HM9 := Lib.hid hm9; clear hr9 hb9 hm9)
        | (go_at_call 4; (with_reducible refine (sm_tells_new _ _ 3 (by simp) (by simp) (by decide) HR9.out).mono ?_); rintro e w10 ⟨rfl, hb10⟩; have HB10 := Lib.hid (below_cat HB9.out hb10); clear hb10 HR9)
        | (go_at_call 4; (with_reducible refine (sm_tells_old _ _ 3 (by simp) (by simp) (by decide) HR9.out HM9.out).mono ?_); rintro e w10 ⟨rfl, hb10⟩; have HB10 := Lib.hid (below_cat HB9.out hb10); clear hb10 HR9 HM9))
      all_goals
        as_aux_lemma =>
        go_wp2_with fail
        go_roundw
        case rel => exact ⟨i + 1, HLt.out, by go_num, below_cat HB.out HB10.out, HE.out.same (HB10.out.block _ HE.out.lt)⟩
        case measure => simp [intOf]; have := HLt.out; omega
    · obtain rfl : i = 8 := by omega
      have HB := Lib.hid hB
      clear hE hB hlt hi
      repeat (first | exact tl_whole (f := Tryz.f3) 4 rfl rfl (fs_end _ rfl w _ HB.out) | go_step)
end Go.Proofs.YtgoflapolglfcaaGreat.formulaSmall
