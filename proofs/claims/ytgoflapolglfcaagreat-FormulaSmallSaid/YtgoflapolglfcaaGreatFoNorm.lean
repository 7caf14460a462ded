/- The order of clauses once more; clauses.Compare of lists in order; slices.SortFunc at clauses. -/
/- slices.SortFunc and slices.CompactFunc at clauses of the call's own. -/
/- slices.CompactFunc at clauses of the call's own. -/
/- slices.CompactFunc at clauses of the call's own: the walk. -/
/- formula.Norm. -/
import Derived.Test.YtgoflapolglfcaaGreatClCompare
import Derived.Test.YtgoflapolglfcaaGreatClMath
import Derived.Test.YtgoflapolglfcaaGreatFoAssign
import Derived.Lib.SlicesCompact
import Derived.Test.YtgoflapolglfcaaGreatEqualIntF
import Derived.Test.YtgoflapolglfcaaGreatRoundRegion
import Derived.Lib.SliceRun
import Derived.Deep.LoopGhost
import Derived.Sort.OwnSortedInts
namespace Go.Proofs.YtgoflapolglfcaaGreat
open Go.RowKit Go.ChangeAt Go.ChangeShapes Go.WideShapes Go.Shelf Go.Sort

theorem cmpLL_zero : ∀ {xs ys : List Int}, cmpLL xs ys = 0 ↔ xs = ys
  | [], [] => by simp [cmpLL]
  | [], y :: ys => by simp [cmpLL]
  | x :: xs, [] => by simp [cmpLL]
  | x :: xs, y :: ys => by
    rw [cmpLL]
    by_cases h : compareI x y = 0
    · rw [if_pos h, cmpLL_zero, compareI_zero.1 h]
      simp
    · rw [if_neg h]
      constructor
      · intro e; exact (h e).elim
      · intro e
        have : x = y := by injection e
        exact (h (compareI_zero.2 this)).elim
theorem clCmp_zero {xs ys : List Int} : clCmp xs ys = 0 ↔ normL xs = normL ys := by
  unfold clCmp
  split
  · rename_i h
    constructor
    · intro e; omega
    · intro e; rw [e] at h; omega
  · split
    · rename_i h
      constructor
      · intro e; omega
      · intro e; rw [e] at h; omega
    · exact cmpLL_zero

theorem cl_swo (f : Nat → List Int) : SWO (ltOf fun i j => clCmp (f i) (f j)) where
  irrefl := fun x => by simp [ltOf, clCmp_zero.2 (rfl : normL (f x) = normL (f x))]
  trans := fun x y z h k => by
    simp only [ltOf, decide_eq_true_eq] at h k ⊢
    have h1 := clCmp_trans (Int.le_of_lt h) (Int.le_of_lt k)
    rcases Int.lt_or_eq_of_le h1 with h2 | h2
    · exact h2
    · have h3 := clCmp_zero.1 h2
      have h4 : clCmp (f y) (f z) = clCmp (f y) (f x) := by unfold clCmp; rw [h3]
      rw [h4, clCmp_flip] at k
      omega
  ntrans := fun x y z h k => by
    simp only [ltOf, decide_eq_false_iff_not] at h k ⊢
    have h1 : clCmp (f y) (f x) ≤ 0 := by rw [clCmp_flip]; omega
    have h2 : clCmp (f z) (f y) ≤ 0 := by rw [clCmp_flip]; omega
    have h3 := clCmp_trans h2 h1
    rw [clCmp_flip] at h3
    omega

set_option maxRecDepth 100000 in
set_option maxHeartbeats 1000000 in
theorem sorted_inc (B : Nat) (sv : Value) (zs : List Int) (hz : zs.length ≤ 1000000) (w : World) (hI : Ints B w sv zs) (hin : Inc zs) :
    Calls Tryz.prog 71 #[sv] w fun e w' => e = .returned sv ∧ ∃ q, w' = w.drewN q := by
  have hin' := incr_any B sv zs (by omega) w hI
  rw [(incB_iff zs).2 hin] at hin'
  obtain ⟨A, c, rfl, -⟩ := ints_shape hI
  have HIn := Lib.hid hin'; clear hin' hin hI
  go_enter Tryz.func71, Tryz.ntmps71
  go_wp2_with fail
  refine HIn.out.mono ?_
  rintro e w' ⟨rfl, q, rfl⟩
  go_wp2_with fail
  go_ret
  exact ⟨rfl, q, rfl⟩
set_option maxRecDepth 100000 in
set_option maxHeartbeats 1000000 in
theorem clcompare_inc (B : Nat) (xv yv : Value) (xs ys : List Int) (hx : xs.length ≤ 1000000) (hy : ys.length ≤ 1000000) (rx : rightB xs = true) (ry : rightB ys = true) (ix : Inc xs) (iy : Inc ys) (w : World) (hI : Ints B w xv xs) (hJ : Ints B w yv ys) :
    Calls Tryz.prog 49 #[xv, yv] w fun e w' => e = .returned (.int .i64 (clCmp xs ys)) ∧ ∃ q, w' = w.drewN q := by
  have h1 := clright_any B xv xs (by omega) w hI
  have h2 := clright_any B yv ys (by omega) w hJ
  have h3 := sorted_inc B xv xs hx w hI ix
  have h4 := fun q => sorted_inc B yv ys hy (w.drewN q) hJ iy
  have h5 := fun q => cmpFunc_any B xv yv xs ys (by omega) (w.drewN q) hI hJ
  obtain ⟨A1, c1, rfl, -⟩ := ints_shape hI
  obtain ⟨A2, c2, rfl, -⟩ := ints_shape hJ
  rw [rx] at h1
  rw [ry] at h2
  have hc : clCmp xs ys = if xs.length < ys.length then -1 else if ys.length < xs.length then 1 else cmpLL xs ys := by
    unfold clCmp; rw [norm_of_inc ix, norm_of_inc iy]
  obtain ⟨r, hr⟩ : ∃ r, clCmp xs ys = r := ⟨_, rfl⟩
  rw [hr] at hc ⊢
  have H1 := Lib.hid h1; have H2 := Lib.hid h2; have H3 := Lib.hid h3; have H4 := Lib.hid h4; have H5 := Lib.hid h5; have HC := Lib.hid hc
  clear h1 h2 h3 h4 h5 hc hr rx ry ix iy hI hJ
  go_enter Tryz.func49, Tryz.ntmps49
  go_wp2_with fail
  refine H1.out.mono ?_
  rintro e w' ⟨rfl, rfl⟩
  go_wp2_with fail
  refine H2.out.mono ?_
  rintro e w' ⟨rfl, rfl⟩
  go_wp2_with fail
  refine H3.out.mono ?_
  rintro e w1 ⟨rfl, q1, rfl⟩
  go_wp2_with fail
  refine (H4.out q1).mono ?_
  rintro e w1 ⟨rfl, q2, rfl⟩
  by_cases t : xs.length = ys.length
  · rw [← t] at H5 ⊢
    have HT := Lib.hid t; clear t
    go_wp2_with fail
    refine (H5.out (q1 + q2)).mono ?_
    rintro e w' ⟨rfl, rfl⟩
    go_wp2_with fail
    go_ret
    exact ⟨ret_i (by rw [HC.out, HT.out, if_neg (by omega), if_neg (by omega)]), _, rfl⟩
  · have hq : ((xs.length : Int) == (ys.length : Int)) = false := by rw [beq_eq_false_iff_ne]; omega
    have hc2 := fun W => cmp2 (xs.length : Int) (ys.length : Int) W
    have hv : cmpI (xs.length : Int) (ys.length : Int) = r := by
      rw [HC.out]
      unfold cmpI
      split
      · rw [if_pos (by omega)]
      · split
        · rw [if_neg (by omega), if_pos (by omega)]
        · omega
    rw [hv] at hc2
    have HC2 := Lib.hid hc2; clear hc2 hv
    go_wp2_with fail
    refine (HC2.out _).mono ?_
    rintro e w' ⟨rfl, rfl⟩
    go_wp2_with fail
    go_ret
    exact ⟨rfl, q1 + q2, rfl⟩
end Go.Proofs.YtgoflapolglfcaaGreat
namespace Go.Proofs.YtgoflapolglfcaaGreat
open Go.RowKit Go.ChangeAt Go.ChangeShapes Go.WideShapes Go.Shelf Go.Sort

/-! ### lists -/
theorem bang_cl (L : List (List Int)) {i : Nat} (h : i < L.length) : L.toArray[i]! = L[i]'h := by simp [h]
theorem cl_anti {a b : List Int} (ha : Inc a) (hb : Inc b) (h : clCmp a b = 0) : a = b := by
  have := clCmp_zero.1 h
  rwa [norm_of_inc ha, norm_of_inc hb] at this
theorem cl_lt {a b : List Int} (ha : Inc a) (hb : Inc b) (h : clCmp a b ≤ 0) (hne : a ≠ b) : clCmp a b < 0 := by
  rcases Int.lt_or_eq_of_le h with h | h
  · exact h
  · exact (hne (cl_anti ha hb h)).elim
/-- Of clauses in order, each once. -/
theorem cmp_upto (L : List (List Int)) (hI : ∀ zs ∈ L, Inc zs) (hs : ∀ i j, i < j → j < L.length → clCmp L.toArray[i]! L.toArray[j]! ≤ 0) :
    ∀ m, m ≤ L.length → (Lib.compactUpTo L.toArray m).Pairwise (fun a b => clCmp a b < 0) ∧ ∀ x, x ∈ Lib.compactUpTo L.toArray m ↔ ∃ j, j < m ∧ L.toArray[j]! = x := by
  have hin : ∀ j, j < L.length → Inc L.toArray[j]! := fun j hj => by rw [bang_cl L hj]; exact hI _ (List.getElem_mem hj)
  intro m
  induction m with
  | zero => intro _; exact ⟨by simp [Lib.compactUpTo], fun x => ⟨(fun h => by simp [Lib.compactUpTo] at h), fun ⟨j, h, _⟩ => by omega⟩⟩
  | succ m ih =>
    intro hm
    obtain ⟨ih1, ih2⟩ := ih (by omega)
    rw [Lib.compactUpTo_succ]
    cases hk : Lib.keeps L.toArray m
    · simp only [Bool.false_eq_true, if_false, List.append_nil]
      refine ⟨ih1, fun x => ⟨fun hx => ?_, fun ⟨j, hj, e⟩ => ?_⟩⟩
      · obtain ⟨j, hj, e⟩ := (ih2 x).1 hx
        exact ⟨j, by omega, e⟩
      · by_cases hjm : j < m
        · exact (ih2 x).2 ⟨j, hjm, e⟩
        · obtain rfl : j = m := by omega
          have hk' : ¬ (j = 0 ∨ L.toArray[j]! ≠ L.toArray[j - 1]!) := by simpa [Lib.keeps] using hk
          have h0 : j ≠ 0 := fun e => hk' (.inl e)
          have he : L.toArray[j]! = L.toArray[j - 1]! := Decidable.of_not_not fun e => hk' (.inr e)
          exact (ih2 x).2 ⟨j - 1, by omega, by rw [← he]; exact e⟩
    · simp only [if_true]
      have hkp : m = 0 ∨ L.toArray[m]! ≠ L.toArray[m - 1]! := by simpa [Lib.keeps] using hk
      have hlt : ∀ x ∈ Lib.compactUpTo L.toArray m, clCmp x L.toArray[m]! < 0 := by
        intro x hx
        obtain ⟨j, hj, rfl⟩ := (ih2 x).1 hx
        rcases hkp with h0 | hne
        · omega
        · have h1 := hs (m - 1) m (by omega) (by omega)
          have h2 := cl_lt (hin (m - 1) (by omega)) (hin m (by omega)) h1 (fun e => hne e.symm)
          by_cases e : j = m - 1
          · rw [e]; exact h2
          · have h3 := hs j (m - 1) (by omega) (by omega)
            have h4 := clCmp_trans h3 h1
            rcases Int.lt_or_eq_of_le h4 with h5 | h5
            · exact h5
            · have h6 := cl_anti (hin j (by omega)) (hin m (by omega)) h5
              rw [h6, clCmp_flip] at h3
              omega
      refine ⟨List.pairwise_append.2 ⟨ih1, List.pairwise_singleton _ _, fun a ha b hb => ?_⟩, fun x => ?_⟩
      · obtain rfl : b = L.toArray[m]! := by simpa using hb
        exact hlt a ha
      · rw [List.mem_append, ih2, List.mem_singleton]
        constructor
        · rintro (⟨j, hj, e⟩ | e)
          · exact ⟨j, by omega, e⟩
          · exact ⟨m, by omega, e.symm⟩
        · rintro ⟨j, hj, e⟩
          by_cases hjm : j < m
          · exact .inl ⟨j, hjm, e⟩
          · obtain rfl : j = m := by omega
            exact .inr e.symm
/-- .. of all of them. -/
theorem cmp_all {L : List (List Int)} (hI : ∀ zs ∈ L, Inc zs) (hp : L.Pairwise fun a b => clCmp a b ≤ 0) : (Lib.compact L).Pairwise (fun a b => clCmp a b < 0) ∧ ∀ x, x ∈ Lib.compact L ↔ x ∈ L := by
  obtain ⟨h1, h2⟩ := cmp_upto L hI (fun i j hij hj => by
    rw [bang_cl L hj, bang_cl L (by omega)]
    exact List.pairwise_iff_getElem.1 hp i j (by omega) hj hij) L.length (Nat.le_refl _)
  refine ⟨h1, fun x => ?_⟩
  show x ∈ Lib.compactUpTo _ _ ↔ _
  rw [h2]
  constructor
  · rintro ⟨j, hj, e⟩
    rw [bang_cl L hj] at e
    rw [← e]
    exact List.getElem_mem hj
  · intro hx
    obtain ⟨j, hj, e⟩ := List.getElem_of_mem hx
    exact ⟨j, hj, by rw [bang_cl L hj]; exact e⟩

/-! ### rows of cells, whatever they hold -/
section
variable {α : Type} [Inhabited α] (enc : α → Value)
theorem holds_of_row {w : World} {g : Nat} {cur : Array Value} {e : TypeId} {ss : List α} (hb : w.heap[g]? = some (.cells cur e (0, 0))) (ht : cur.toList.take ss.length = ss.map enc) : Holds enc w g 0 ss.toArray := by
  intro j hj
  have hj' : j < ss.length := by simpa using hj
  refine ⟨?_, by simp [World.frozen?, hb]⟩
  have h1 : (cur.toList.take ss.length)[j]? = (ss.map enc)[j]? := by rw [ht]
  rw [List.getElem?_take_of_lt hj'] at h1
  simp only [World.cell?, hb, Nat.zero_add]
  simp only [Option.isSome_none, Bool.false_eq_true, if_false]
  rw [← Array.getElem?_toList, h1]
  simp [hj']
theorem put_heap {w : World} {g n : Nat} {os : Array Obj} {cur : Array Value} {e : TypeId} {fr : Nat × Nat} (d : Array α) (hb : w.heap[g]? = some (.cells cur e fr)) :
    (grow (putRow enc (Sort.ahead w n) g 0 d) os).heap[g]? = some (.cells (putCells enc 0 d cur) e fr) := by
  have hg : g < w.heap.size := (Array.getElem?_eq_some_iff.1 hb).1
  rw [heap_grow_old _ _ (by simpa using hg)]
  simp [putRow, mapBlock, Sort.ahead, Array.getElem?_modify, hb, onCells]
theorem put_grown {w : World} {g n : Nat} {os : Array Obj} (d : Array α) : w.grownBy (grow (putRow enc (Sort.ahead w n) g 0 d) os) (some g) := by
  refine ⟨rfl, rfl, rfl, by simp, fun k hk hne => ?_⟩
  rw [heap_grow_old _ _ (by simpa using hk)]
  have : g ≠ k := fun e => hne (by rw [e])
  simp [putRow, mapBlock, Sort.ahead, Array.getElem?_modify, this]
theorem put_take (cur : Array Value) (ts : List α) {m : Nat} (hm : m ≤ ts.length) (h : ts.length ≤ cur.size) : (putCells enc 0 ts.toArray cur).toList.take m = (ts.take m).map enc := by
  apply List.ext_getElem?
  intro j
  by_cases hj : j < m
  · rw [List.getElem?_take_of_lt hj, Array.getElem?_toList]
    have h1 : j < ts.length := by omega
    have h2 : j < cur.size := by omega
    rw [List.getElem?_map, List.getElem?_take_of_lt hj]
    simp [putCells, h1, h2]
  · rw [List.getElem?_take_eq_none (by omega), List.getElem?_eq_none (by simp; omega)]
theorem put_owns {w : World} {base g cap n m : Nat} {e : TypeId} {os : Array Obj} {cur : Array Value} {ts : List α} (hm : m ≤ ts.length) (hbase : base ≤ g) (hb : w.heap[g]? = some (.cells cur e (0, 0)))
    (h1 : ts.length ≤ cap) (h2 : cap ≤ maxLen) (h3 : cur.size = cap * 1) :
    (grow (putRow enc (Sort.ahead w n) g 0 ts.toArray) os).ownsRow base e 1 (.slice (some ⟨g, 0, none⟩) m cap) m ((ts.take m).map enc) :=
  ⟨by simp; omega, .inr ⟨g, cap, _, rfl, hbase, put_heap enc _ hb, by omega, h2, by simp [putCells, h3], by rw [Nat.mul_one]; exact put_take enc cur ts hm (by omega)⟩⟩
end

/-! ### the places of a row of slices -/
def svAt (svs : List Value) (j : Nat) : Value := svs[j]?.getD (.slice none 0 0)
def clAt (L : List (List Int)) (j : Nat) : List Int := L[j]?.getD []
theorem range_sv (svs : List Value) : (List.range svs.length).map (svAt svs) = svs := by
  apply List.ext_getElem?
  intro j
  rw [List.getElem?_map]
  by_cases h : j < svs.length
  · simp [svAt, h]
  · rw [List.getElem?_eq_none (by simp; omega), List.getElem?_eq_none (by omega)]; rfl
theorem range_cl (L : List (List Int)) : (List.range L.length).map (clAt L) = L := by
  apply List.ext_getElem?
  intro j
  rw [List.getElem?_map]
  by_cases h : j < L.length
  · simp [clAt, h]
  · rw [List.getElem?_eq_none (by simp; omega), List.getElem?_eq_none (by omega)]; rfl
theorem sv_one {svs : List Value} {L : List (List Int)} {B : Nat} {W : World} {v : Value} (h : InRows B W v svs (cellsL L)) : OneCell (svAt svs) := fun j => by
  unfold svAt
  cases hj : svs[j]? with
  | none => rfl
  | some s =>
    have hl : j < L.length := by rw [← cellsL_len, ← h.1]; exact (List.getElem?_eq_some_iff.1 hj).1
    obtain ⟨sv, h1, h2⟩ := h.2 j _ (show (cellsL L)[j]? = some (L[j].map (Value.int .i64)) by simp [cellsL, hl])
    rw [hj] at h1; cases h1
    obtain ⟨A, cap, rfl, -⟩ := h2.rowV.shape
    rfl
/-- Behind whatever is done to the outer row, at some of its places. -/
theorem rows_at {B : Nat} {W W' : World} {v v' : Value} {svs : List Value} {L : List (List Int)} (h : InRows B W v svs (cellsL L)) (hg : W.grownBy W' v.ownBlock) (hv : v'.ownBlock = v.ownBlock) (js : List Nat) (hj : ∀ i ∈ js, i < L.length) : InRows B W' v' (js.map (svAt svs)) (cellsL (js.map (clAt L))) := by
  refine ⟨by simp [cellsL], fun j xs hx => ?_⟩
  have hjl : j < js.length := by have := (List.getElem?_eq_some_iff.1 hx).1; simpa [cellsL] using this
  have hi := hj js[j] (List.getElem_mem hjl)
  have hxs : xs = (clAt L js[j]).map (Value.int .i64) := by
    simp [cellsL, hjl] at hx
    exact hx.symm
  obtain ⟨sv, h1, h2⟩ := h.2 js[j] ((clAt L js[j]).map (Value.int .i64)) (by simp [cellsL, clAt, hi])
  refine ⟨sv, by simp [svAt, hjl, h1], ?_⟩
  rw [hxs, hv]
  exact h2.grown hg (fun r e => .inl e) (fun i e => .inl e)
/-- A place's clause, as it is read. -/
theorem ints_at {B : Nat} {W W' : World} {v : Value} {svs : List Value} {L : List (List Int)} (h : InRows B W v svs (cellsL L)) (hg : W.grownBy W' v.ownBlock) (j : Nat) : Ints W'.heap.size W' (svAt svs j) (clAt L j) := by
  by_cases hj : j < L.length
  · obtain ⟨sv, h1, h2⟩ := h.2 j ((clAt L j).map (Value.int .i64)) (by simp [cellsL, clAt, hj])
    have h3 : svAt svs j = sv := by simp [svAt, h1]
    rw [h3]
    have h4 : RowF (fun i => v.ownBlock = some i ∨ i < B) W' sv ((clAt L j).map (Value.int .i64)) := h2.grown hg (fun r e => .inl e) (fun i e => .inl e)
    exact (rowV_lits.1 h4.rowV).ints
  · have h1 : svAt svs j = .slice none 0 0 := by
      unfold svAt; rw [List.getElem?_eq_none (by rw [h.1, cellsL_len]; omega)]; rfl
    have h2 : clAt L j = [] := by unfold clAt; rw [List.getElem?_eq_none (by omega)]; rfl
    rw [h1, h2]
    exact (rowV_lits.1 (.inl ⟨none, 0, rfl, fun _ => rfl, rfl⟩ : RowV W'.heap.size W' _ (([] : List Int).map (Value.int .i64)))).ints
theorem clAt_all {p : List Int → Prop} {L : List (List Int)} (h : ∀ zs ∈ L, p zs) (h0 : p []) (j : Nat) : p (clAt L j) := by
  unfold clAt
  cases hj : L[j]? with
  | none => exact h0
  | some zs => exact h zs (List.mem_of_getElem? hj)
theorem eg_cmpC : ∀ args w, (callFunc 49 args).run Tryz.prog w = .ok (.enter 49 args) w := enters_of Tryz.func49 (by kernel_rfl) rfl
/-- The sort of clauses of the call's own, each in order. -/
theorem sortC_own {B : Nat} {v : Value} {L : List (List Int)} (W : World) (hrow : OwnL B W v L) (hr : ∀ zs ∈ L, rightB zs = true) (hi : ∀ zs ∈ L, Inc zs) (hn : L.length ≤ 1000000) :
    Calls Tryz.prog 48 #[v, .func (.func 49) #[] #[]] W fun e W' => e = .returned (.tuple #[]) ∧ ∃ L', L'.Perm L ∧ L'.Pairwise (fun a b => clCmp a b ≤ 0) ∧ OwnL B W' v L' ∧ W.grownBy W' v.ownBlock := by
  obtain ⟨svs, h1, h2⟩ := hrow
  rcases h1.2 with ⟨rfl, h0⟩ | ⟨g, cap, cur, rfl, hbase, hb, hc1, hc2, hc3, hc4⟩
  · have hL : L = [] := List.eq_nil_of_length_eq_zero (by rw [← cellsL_len]; exact h0)
    subst hL
    refine (Tryz.slices_SortFunc_none_f48 (α := Nat) none 0 _ W).mono fun e W' ⟨he, hw⟩ => ⟨he, [], .refl _, .nil, ?_, ?_⟩
    · exact ownL_nil _ _
    · rw [hw]; exact World.grownBy.refl _ _
  · have hsl : svs.length = L.length := by rw [h2.1, cellsL_len]
    have hH : Holds (svAt svs) W g 0 (List.range svs.length).toArray := holds_of_row (svAt svs) hb (by rw [range_sv, List.length_range, hsl, ← cellsL_len]; simpa using hc4)
    have hs : (List.range svs.length).toArray.size = (cellsL L).length := by simp [hsl, cellsL_len]
    have hcmp : CmpReads Tryz.prog 49 #[] (svAt svs) (fun i j => clCmp (clAt L i) (clAt L j)) g 0 (List.range svs.length).toArray.size W := fun m os dk hdk x y => by
      have hx := clAt_all (p := fun zs => zs.length ≤ 1000000 ∧ rightB zs = true ∧ Inc zs) (fun zs hz => ⟨by have := (rightB_of (hr zs hz)).1; omega, hr zs hz, hi zs hz⟩) ⟨by simp, by decide, List.Pairwise.nil⟩ x
      have hy := clAt_all (p := fun zs => zs.length ≤ 1000000 ∧ rightB zs = true ∧ Inc zs) (fun zs hz => ⟨by have := (rightB_of (hr zs hz)).1; omega, hr zs hz, hi zs hz⟩) ⟨by simp, by decide, List.Pairwise.nil⟩ y
      have hgr : W.grownBy (sortWorld (svAt svs) W g 0 m dk os) (Value.slice (some ⟨g, 0, none⟩) (cellsL L).length cap).ownBlock := put_grown (svAt svs) dk
      exact clcompare_inc _ _ _ _ _ hx.1 hy.1 hx.2.1 hy.2.1 hx.2.2 hy.2.2 _ (ints_at h2 hgr x) (ints_at h2 hgr y)
    have hg : g < W.heap.size := (Array.getElem?_eq_some_iff.1 hb).1
    have hc := Tryz.slices_SortFunc_f48 (svAt svs) (sv_one h2) (fun i j => clCmp (clAt L i) (clAt L j)) (cl_swo (clAt L)) 49 #[] g 0 cap (List.range svs.length).toArray W eg_cmpC hcmp.lays hH hg (by simp; omega)
    rw [hs] at hc
    have hperm : ∀ d' : Array Nat, PermIn 0 (cellsL L).length (List.range svs.length).toArray d' → d'.toList.Perm (List.range svs.length) := fun d' hp => by
      rw [← hs] at hp
      have h3 := hp.2.2
      have h4 : (List.range svs.length).toArray.size = d'.size := hp.1.symm
      rw [h4] at h3
      rw [show d'.extract 0 d'.size = d' by simp] at h3
      rw [← h4] at h3
      simpa using h3
    refine hc.mono fun e W' ⟨he, d', n, os, hp, hsd, hw⟩ => ⟨he, d'.toList.map (clAt L), ?_, ?_, ?_, ?_⟩
    · have h3 := (hperm d' hp).map (clAt L)
      rwa [hsl, range_cl] at h3
    · refine List.pairwise_iff_getElem.2 fun i j hi hj hij => ?_
      rw [List.length_map] at hi hj
      have hsz' : d'.size = L.length := by rw [hp.1]; simp [hsl]
      have h3 := hsd i j (Nat.zero_le _) hij (by rw [cellsL_len, ← hsz']; simpa using hj)
      simp only [ltOf, decide_eq_false_iff_not] at h3
      rw [List.getElem_map, List.getElem_map, Array.getElem_toList, Array.getElem_toList]
      rw [getElem!_pos d' i (by simpa using hi), getElem!_pos d' j (by simpa using hj)] at h3
      rw [clCmp_flip]
      omega
    · have hpm := hperm d' hp
      have hmem : ∀ i ∈ d'.toList, i < L.length := fun i hi => by
        have := hpm.mem_iff.1 hi
        rw [hsl] at this
        exact List.mem_range.1 this
      have hdl : d'.toList.length = L.length := by rw [hpm.length_eq, List.length_range, hsl]
      have hgr : W.grownBy W' (Value.slice (some ⟨g, 0, none⟩) (cellsL L).length cap).ownBlock := by rw [hw]; exact put_grown (svAt svs) d'
      refine ⟨d'.toList.map (svAt svs), ?_, rows_at h2 hgr rfl _ hmem⟩
      have ho := put_owns (svAt svs) (w := W) (n := n) (os := os) (ts := d'.toList) (m := d'.toList.length) (Nat.le_refl _) hbase hb (by rw [hdl, ← cellsL_len]; exact hc1) hc2 hc3
      rw [List.take_length, hdl] at ho
      rw [hw, cellsL_len, cellsL_len, List.length_map, hdl]
      exact ho
    · rw [hw]; exact put_grown (svAt svs) d'
end Go.Proofs.YtgoflapolglfcaaGreat
namespace Go.Proofs.YtgoflapolglfcaaGreat
open Go.RowKit Go.ChangeAt Go.ChangeShapes Go.WideShapes Go.Shelf Go.Sort

/-- The places that stay, of the first m. -/
def picked (L : List (List Int)) (m : Nat) : List Nat := (List.range m).filter (Lib.keeps L.toArray)
theorem picked_succ (L : List (List Int)) (m : Nat) : picked L (m + 1) = picked L m ++ (if Lib.keeps L.toArray m then [m] else []) := by
  unfold picked
  rw [List.range_succ, List.filter_append]
  congr 1
  by_cases h : Lib.keeps L.toArray m <;> simp [h]
theorem picked_all {L : List (List Int)} {m : Nat} (h : ∀ j, j < m → Lib.keeps L.toArray j = true) : picked L m = List.range m := List.filter_eq_self.2 fun j hj => h j (List.mem_range.1 hj)
theorem picked_lt {L : List (List Int)} {m i : Nat} (h : i ∈ picked L m) : i < m := List.mem_range.1 (List.mem_filter.1 h).1
theorem picked_le (L : List (List Int)) (m : Nat) : (picked L m).length ≤ m := by
  have := List.length_filter_le (Lib.keeps L.toArray) (List.range m)
  rwa [List.length_range] at this
theorem picked_cl (L : List (List Int)) : (picked L L.length).map (clAt L) = Lib.compact L := by
  unfold picked Lib.compact Lib.compactUpTo
  apply List.map_congr_left
  intro i hi
  have h : i < L.length := List.mem_range.1 (List.mem_filter.1 hi).1
  simp [clAt, h]
theorem keeps_cl {L : List (List Int)} {j : Nat} (hj : 0 < j) (hl : j < L.length) : Lib.keeps L.toArray j = !(clAt L j == clAt L (j - 1)) := by
  have h1 : L.toArray[j]! = clAt L j := by rw [bang_cl L hl]; simp [clAt, hl]
  have h2 : L.toArray[j - 1]! = clAt L (j - 1) := by rw [bang_cl L (by omega)]; simp [clAt, show j - 1 < L.length by omega]
  unfold Lib.keeps
  rw [h1, h2]
  by_cases h : clAt L j = clAt L (j - 1)
  · simp [h]; omega
  · simp [h]
/-- The second loop: m places have been looked at; the k that stay lie at the head. -/
structure Comp (L : List (List Int)) (m k : Nat) (dk : Array Nat) : Prop where
  size : dk.size = L.length
  len : (picked L m).length = k
  lt : k < m
  low : ∀ j, j < k → (picked L m)[j]? = some dk[j]!
  high : ∀ j, k ≤ j → j < L.length → dk[j]! = j
theorem Comp.start {L : List (List Int)} {k : Nat} (hk : k < L.length) (hall : ∀ j, j < k → Lib.keeps L.toArray j = true) (hd : Lib.keeps L.toArray k = false) : Comp L (k + 1) k (List.range L.length).toArray where
  size := by simp
  len := by rw [picked_succ, hd, picked_all hall]; simp
  lt := Nat.lt_succ_self _
  low := fun j hj => by rw [picked_succ, hd, picked_all hall]; simp [hj, show j < L.length by omega]
  high := fun j _ hj => by simp [hj]
theorem Comp.keep {L : List (List Int)} {m k : Nat} {dk : Array Nat} (h : Comp L m k dk) (hm : m < L.length) (hk : Lib.keeps L.toArray m = true) : Comp L (m + 1) (k + 1) (dk.setIfInBounds k m) where
  size := by simp [h.size]
  len := by rw [picked_succ, hk]; simp [h.len]
  lt := by have := h.lt; omega
  low := fun j hj => by
    rw [picked_succ, hk, if_pos rfl]
    by_cases e : j = k
    · subst e
      rw [List.getElem?_append_right (by rw [h.len]; exact Nat.le_refl _), h.len, Nat.sub_self, getElem!_set_same dk j _ (by have := h.lt; have := h.size; omega)]
      rfl
    · rw [List.getElem?_append_left (by rw [h.len]; omega), h.low j (by omega), getElem!_set_other dk k j _ e]
  high := fun j hj hl => by rw [getElem!_set_other dk k j _ (by omega), h.high j (by omega) hl]
theorem Comp.skip {L : List (List Int)} {m k : Nat} {dk : Array Nat} (h : Comp L m k dk) (hk : Lib.keeps L.toArray m = false) : Comp L (m + 1) k dk where
  size := h.size
  len := by rw [picked_succ, hk]; simpa using h.len
  lt := by have := h.lt; omega
  low := fun j hj => by rw [picked_succ, hk]; simpa using h.low j hj
  high := h.high
theorem Comp.done {L : List (List Int)} {k : Nat} {dk : Array Nat} (h : Comp L L.length k dk) (z : Nat) : (Lib.lay dk k (List.replicate (L.length - k) z)).toList.take k = picked L L.length ∧ (Lib.lay dk k (List.replicate (L.length - k) z)).size = L.length := by
  have hk := h.lt
  have hs := h.size
  have hsz : (Lib.lay dk k (List.replicate (L.length - k) z)).size = L.length := by
    have hq : ∀ (xs : List Nat) (d : Array Nat) (k : Nat), (Lib.lay d k xs).size = d.size := by
      intro xs
      induction xs with
      | nil => intro d k; rfl
      | cons x r ih => intro d k; rw [Lib.lay, ih]; simp
    rw [hq, hs]
  refine ⟨?_, hsz⟩
  apply List.ext_getElem?
  intro j
  by_cases hj : j < k
  · rw [List.getElem?_take_of_lt hj, Array.getElem?_toList, Lib.lay_get? _ _ _ _ (by simp; omega), if_neg (by simp; omega), h.low j hj, getElem!_pos dk j (by omega), Array.getElem?_eq_getElem]
  · rw [List.getElem?_take_eq_none (by omega), List.getElem?_eq_none (by rw [h.len]; omega)]
/-- A world in which the row's cells have been permuted, or copied, among themselves. -/
def Put (svs : List Value) (W : World) (g : Nat) (dk : Array Nat) (w : World) : Prop := ∃ q, w = putRow (svAt svs) (Sort.ahead W q) g 0 dk
theorem Put.drewN {svs : List Value} {W w : World} {g : Nat} {dk : Array Nat} (h : Put svs W g dk w) (n : Nat) : Put svs W g dk (w.drewN n) := by
  obtain ⟨q, rfl⟩ := h
  exact ⟨q + n, by rw [putRow_drewN]⟩
theorem Put.set {svs : List Value} {W w : World} {g : Nat} {dk : Array Nat} (h : Put svs W g dk w) {k : Nat} (hk : k < dk.size) (x : Nat) : Put svs W g (dk.setIfInBounds k x) (w.setCell ⟨g, k, none⟩ (svAt svs x)) := by
  obtain ⟨q, rfl⟩ := h
  refine ⟨q, ?_⟩
  have := putRow_set (svAt svs) (Sort.ahead W q) g 0 dk k x hk
  rw [Nat.zero_add] at this
  exact this
end Go.Proofs.YtgoflapolglfcaaGreat
namespace Go.Proofs.YtgoflapolglfcaaGreat
open Go.RowKit Go.ChangeAt Go.ChangeShapes Go.WideShapes Go.Shelf Go.Sort

theorem Put.holds {svs : List Value} {W w : World} {g n : Nat} {dk : Array Nat} (h : Put svs W g dk w) (H : Holds (svAt svs) W g 0 (List.range n).toArray) (hs : dk.size = n) : Holds (svAt svs) w g 0 dk := by
  obtain ⟨q, rfl⟩ := h
  exact holds_putRow (svAt svs) _ g 0 (List.range n).toArray dk (holds_ahead (svAt svs) W q g 0 _ H) (by simpa using hs)
theorem Put.start {svs : List Value} {W : World} {g n : Nat} (H : Holds (svAt svs) W g 0 (List.range n).toArray) (q : Nat) : Put svs W g (List.range n).toArray (W.drewN q) :=
  ⟨q, (putRow_self (svAt svs) (Sort.ahead W q) g 0 _ (holds_ahead (svAt svs) W q g 0 _ H)).symm⟩
theorem Put.drew {svs : List Value} {W w : World} {g : Nat} {dk : Array Nat} (h : Put svs W g dk w) : Put svs W g dk w.drew := h.drewN 1
theorem Put.grown {svs : List Value} {W w : World} {g : Nat} {dk : Array Nat} (h : Put svs W g dk w) : W.grownBy w (some g) := by
  obtain ⟨q, rfl⟩ := h
  rw [← grow_empty (putRow (svAt svs) (Sort.ahead W q) g 0 dk)]
  exact put_grown (svAt svs) dk
/-- What the walk is told. -/
structure CpIn (svs : List Value) (L : List (List Int)) (W : World) (g cap : Nat) : Prop where
  len : svs.length = L.length
  holds : Holds (svAt svs) W g 0 (List.range L.length).toArray
  one : OneCell (svAt svs)
  shape : ∀ i, ∃ A c, svAt svs i = .slice A (clAt L i).length c
  eq : ∀ (w : World) (i j : Nat), W.grownBy w (some g) → Calls Tryz.prog 40 #[svAt svs i, svAt svs j] w fun e w' => e = .returned (.bool (clAt L i == clAt L j)) ∧ ∃ q, w' = w.drewN q
  cap : L.length ≤ cap
theorem Put.cell {svs : List Value} {L : List (List Int)} {W w : World} {g cap : Nat} {dk : Array Nat} (h : Put svs W g dk w) (C : CpIn svs L W g cap) (hs : dk.size = L.length) {j : Nat} (hj : j < L.length) : w.cell? ⟨g, j, none⟩ = some (svAt svs dk[j]!) ∧ w.frozen? ⟨g, j, none⟩ = false := by
  have := h.holds C.holds hs j (by omega)
  rwa [Nat.zero_add] at this
/-- What is left: the places that stay. -/
def CpOut (svs : List Value) (L : List (List Int)) (W : World) (g cap : Nat) (e : Ending) (w' : World) : Prop :=
  ∃ ts : List Nat, ts.length = L.length ∧ e = .returned (.slice (some ⟨g, 0, none⟩) (picked L L.length).length cap) ∧ Put svs W g ts.toArray w' ∧ ts.take (picked L L.length).length = picked L L.length
theorem zero_clause (w : World) : (zeroValue 65).run Tryz.prog w = .ok (.slice none 0 0) w := by kernel_rfl
set_option maxRecDepth 100000 in
set_option maxHeartbeats 1000000 in
theorem compact_in {svs : List Value} {L : List (List Int)} {W : World} {g cap : Nat} (C : CpIn svs L W g cap) (hn : L.length ≤ 1000000) :
    Calls Tryz.prog 50 #[.slice (some ⟨g, 0, none⟩) L.length cap, .func (.func 40) #[] #[]] W (CpOut svs L W g cap) := by
  have same : ∀ w', Put svs W g (List.range L.length).toArray w' → (∀ j, j < L.length → Lib.keeps L.toArray j = true) → CpOut svs L W g cap (.returned (.slice (some ⟨g, 0, none⟩) L.length cap)) w' := fun w' hw h => by
    have hp := picked_all h
    refine ⟨List.range L.length, by simp, by rw [hp, List.length_range], hw, by rw [hp, List.length_range]; exact List.take_of_length_le (by simp)⟩
  have hcap := C.cap
  have HC := Lib.hid C; have HS := Lib.hid same
  clear C same
  by_cases h2 : L.length < 2
  · go_enter Tryz.func50, Tryz.ntmps50
    go_wp2_with fail
    go_ret
    exact HS.out _ (Put.start HC.out.holds 0) (fun j hj => Lib.keeps_lt_one _ j (by omega))
  · go_enter Tryz.func50, Tryz.ntmps50
    go_wp2_with fail
    go_loopw [5] (fun i wr => ∃ k : Nat, 1 ≤ k ∧ k ≤ L.length ∧ i = .int .i64 k ∧ Put svs W g (List.range L.length).toArray wr ∧ ∀ j, j < k → Lib.keeps L.toArray j = true) (fun i _ => L.length - (intOf i).toNat)
    case atStart => exact ⟨1, Nat.le_refl _, by omega, rfl, Put.start HC.out.holds 0, Lib.keeps_lt_one _⟩
    case round =>
      obtain ⟨k, hk1, hk, rfl, hP, hall⟩ := hrel
      by_cases hlt : k < L.length
      · obtain ⟨c1, f1⟩ := hP.cell HC.out (by simp) hlt
        obtain ⟨c0, f0⟩ := hP.cell HC.out (by simp) (show k - 1 < L.length by omega)
        rw [show (List.range L.length).toArray[k]! = k by simp [hlt]] at c1
        rw [show (List.range L.length).toArray[k - 1]! = k - 1 by simp [show k - 1 < L.length by omega]] at c0
        have hkp := keeps_cl hk1 hlt
        have hi1 : k - 1 < L.length := by omega
        have hw1 : IntKind.i64.wrap ((k : Int) - 1) = ((k - 1 : Nat) : Int) := by rw [IntWalk.i64_in _ (by omega)]; omega
        have heq := fun w (h : Put svs W g (List.range L.length).toArray w) => HC.out.eq w k (k - 1) h.grown
        obtain ⟨A1, d1, e1⟩ := HC.out.shape k
        obtain ⟨A0, d0, e0⟩ := HC.out.shape (k - 1)
        rw [e1] at c1 heq
        rw [e0] at c0 heq
        obtain ⟨n1, hn1⟩ : ∃ n, (clAt L k).length = n := ⟨_, rfl⟩
        obtain ⟨n0, hn0⟩ : ∃ n, (clAt L (k - 1)).length = n := ⟨_, rfl⟩
        rw [hn1] at c1 heq
        rw [hn0] at c0 heq
        obtain ⟨b, hb⟩ : ∃ b, (clAt L k == clAt L (k - 1)) = b := ⟨_, rfl⟩
        rw [hb] at heq hkp
        have HK := Lib.hid hkp; have HE := Lib.hid heq; have HA := Lib.hid hall; have HP := Lib.hid hP
        clear hkp heq hall hP hn1 hn0 hb e1 e0
        cases b
        · go_upto_region 6 with fail
          go_quiet (first | (go_at_call 40; exact Calls.quiet_of (HE.out _ (HP.out.drewN _))))
          go_wp2_with fail
          go_roundw
          case rel =>
            refine ⟨k + 1, by omega, by omega, by go_num, HP.out.drewN _, fun j hj => ?_⟩
            by_cases e : j = k
            · subst e; exact HK.out
            · exact HA.out j (by omega)
          case measure => simp [intOf]; omega
        · go_upto_region 6 with fail
          go_quiet (first | (go_at_call 40; exact Calls.quiet_of (HE.out _ (HP.out.drewN _))))
          clear c1 c0 f1 f0
          go_wp2_with fail
          go_loopw [5, 7] (fun i j wr => ∃ (kk k2 : Nat) (dk : Array Nat), i = .int .i64 kk ∧ j = .int .i64 k2 ∧ 1 ≤ k2 ∧ k + k2 ≤ L.length ∧ Put svs W g dk wr ∧ Comp L (k + k2) kk dk) (fun _ j _ => L.length - (k + (intOf j).toNat))
          case atStart => exact ⟨k, 1, (List.range L.length).toArray, rfl, rfl, Nat.le_refl _, by omega, HP.out.drewN _, Comp.start hlt HA.out (by rw [HK.out]; rfl)⟩
          case round =>
            obtain ⟨kk, k2, dk, rfl, rfl, h1, hle, hP2, hI⟩ := hrel
            have hkk := hI.lt
            have hds := hI.size
            by_cases hlt2 : k + k2 < L.length
            · obtain ⟨cm, fm⟩ := hP2.cell HC.out hds hlt2
              obtain ⟨cp, fp⟩ := hP2.cell HC.out hds (show k + (k2 - 1) < L.length by omega)
              obtain ⟨ck, fk⟩ := hP2.cell HC.out hds (show kk < L.length by omega)
              rw [hI.high (k + k2) (by omega) hlt2] at cm
              rw [hI.high (k + (k2 - 1)) (by omega) (by omega)] at cp
              have hkp := keeps_cl (show 0 < k + k2 by omega) hlt2
              have hi2 : k2 - 1 < L.length - k := by omega
              have hi3 : k2 < L.length - k := by omega
              have hi4 : kk < L.length := by omega
              have hw2 : IntKind.i64.wrap ((k2 : Int) - 1) = ((k2 - 1 : Nat) : Int) := by rw [IntWalk.i64_in _ (by omega)]; omega
              rw [show k + k2 - 1 = k + (k2 - 1) by omega] at hkp
              have heq := fun w (h : Put svs W g dk w) => HC.out.eq w (k + k2) (k + (k2 - 1)) h.grown
              obtain ⟨A1, d1, e1⟩ := HC.out.shape (k + k2)
              obtain ⟨A0, d0, e0⟩ := HC.out.shape (k + (k2 - 1))
              obtain ⟨A9, d9, e9⟩ := HC.out.shape dk[kk]!
              have hset := fun w (h : Put svs W g dk w) => h.set (show kk < dk.size by omega) (k + k2)
              rw [e1] at cm heq hset
              rw [e0] at cp heq
              rw [e9] at ck
              obtain ⟨n1, hn1⟩ : ∃ n, (clAt L (k + k2)).length = n := ⟨_, rfl⟩
              obtain ⟨n0, hn0⟩ : ∃ n, (clAt L (k + (k2 - 1))).length = n := ⟨_, rfl⟩
              obtain ⟨n9, hn9⟩ : ∃ n, (clAt L dk[kk]!).length = n := ⟨_, rfl⟩
              rw [hn1] at cm heq hset
              rw [hn0] at cp heq
              rw [hn9] at ck
              obtain ⟨b, hb⟩ : ∃ b, (clAt L (k + k2) == clAt L (k + (k2 - 1))) = b := ⟨_, rfl⟩
              rw [hb] at heq hkp
              have HK2 := Lib.hid hkp; have HE2 := Lib.hid heq; have HP2 := Lib.hid hP2; have HI := Lib.hid hI; have HSet := Lib.hid hset
              clear hkp heq hP2 hI hset hn1 hn0 hn9 hb e1 e0 e9
              cases b
              · go_upto_region 11 with fail
                go_quiet (first | (go_at_call 40; exact Calls.quiet_of (HE2.out _ (HP2.out.drewN _))))
                go_wp2_with fail
                go_roundw
                case rel => exact ⟨kk + 1, k2 + 1, _, by go_num, by go_num, by omega, by omega, HSet.out _ (HP2.out.drewN _), HI.out.keep hlt2 (by rw [HK2.out]; rfl)⟩
                case measure => simp [intOf]; omega
              · go_upto_region 11 with fail
                go_quiet (first | (go_at_call 40; exact Calls.quiet_of (HE2.out _ (HP2.out.drewN _))))
                go_wp2_with fail
                go_roundw
                case rel => exact ⟨kk, k2 + 1, _, rfl, by go_num, by omega, by omega, HP2.out.drewN _, HI.out.skip (by rw [HK2.out]; rfl)⟩
                case measure => simp [intOf]; omega
            · have hend : k + k2 = L.length := by omega
              have hkl : kk < L.length := by omega
              obtain ⟨hd1, hd2⟩ := (hend ▸ hI).done L.length
              have hlen := (hend ▸ hI).len
              have hput : Put svs W g (Lib.lay dk kk (List.replicate (L.length - kk) L.length)) (wr.setCells g kk (List.replicate (L.length - kk) (.slice none 0 0))) := by
                obtain ⟨q, rfl⟩ := hP2
                refine ⟨q, ?_⟩
                rw [← Lib.putRow_setCells (svAt svs) _ g 0 _ dk kk (by simp; omega), List.map_replicate, Nat.zero_add]
                congr 2
                unfold svAt; rw [List.getElem?_eq_none (by rw [HC.out.len]; omega)]; rfl
              have hcl : ∀ ty, (Builtin.clear_ #[25] ty #[.slice (some ⟨g, kk, none⟩) (L.length - kk) (cap - kk)]).run Tryz.prog wr = .ok (.tuple #[]) (wr.setCells g kk (List.replicate (L.length - kk) (.slice none 0 0))) :=
                fun ty => Lib.run_clear_slice wr _ _ ty _ Tryz.underlying25 (zero_clause) rfl rfl g kk _ _ (by omega) (fun j hj => by rw [(hP2.cell HC.out hds (show kk + j < L.length by omega)).1]; rfl) (fun j hj => (hP2.cell HC.out hds (show kk + j < L.length by omega)).2)
              have HPut := Lib.hid hput; have HD := Lib.hid (And.intro hd1 (And.intro hd2 hlen))
              clear hput hd1 hd2 hlen hP2 hI
              go_wp2_with fail
              go_ret
              exact ⟨(Lib.lay dk kk (List.replicate (L.length - kk) L.length)).toList, by rw [Array.length_toList]; exact HD.out.2.1, by rw [HD.out.2.2]; rfl, by rw [Array.toArray_toList]; exact HPut.out, by rw [HD.out.2.2]; exact HD.out.1⟩
      · obtain rfl : k = L.length := by omega
        have HA := Lib.hid hall; have HP := Lib.hid hP
        clear hall hP
        go_wp2_with fail
        go_ret
        exact HS.out _ HP.out HA.out
/-- .. of a row of clauses. -/
theorem compactC_own {B : Nat} {v : Value} {L : List (List Int)} (W : World) (hrow : OwnL B W v L) (hl : ∀ zs ∈ L, zs.length ≤ 4096) (hn : L.length ≤ 1000000) :
    Calls Tryz.prog 50 #[v, .func (.func 40) #[] #[]] W fun e W' => ∃ v', e = .returned v' ∧ v'.ownBlock = v.ownBlock ∧ OwnL B W' v' (Lib.compact L) ∧ W.grownBy W' v.ownBlock := by
  obtain ⟨svs, h1, h2⟩ := hrow
  rcases h1.2 with ⟨rfl, h0⟩ | ⟨g, cap, cur, rfl, hbase, hb, hc1, hc2, hc3, hc4⟩
  · have hL : L = [] := List.eq_nil_of_length_eq_zero (by rw [← cellsL_len]; exact h0)
    subst hL
    clear h1 h2 h0
    go_enter Tryz.func50, Tryz.ntmps50
    go_wp2_with fail
    go_ret
    exact ⟨_, rfl, rfl, ownL_nil _ _, World.grownBy.refl _ _⟩
  · have hsl : svs.length = L.length := by rw [h2.1, cellsL_len]
    have hH : Holds (svAt svs) W g 0 (List.range svs.length).toArray := holds_of_row (svAt svs) hb (by rw [range_sv, List.length_range, hsl, ← cellsL_len]; simpa using hc4)
    have hC : CpIn svs L W g cap := ⟨hsl, hsl ▸ hH, sv_one h2, fun i => by
        obtain ⟨A, c, e, -⟩ := ints_shape (ints_at h2 (World.grownBy.refl W _) i)
        exact ⟨A, c, e⟩, fun w i j hg => by
        have hx := clAt_all (p := fun zs => zs.length ≤ 4096) hl (by simp) i
        have hy := clAt_all (p := fun zs => zs.length ≤ 4096) hl (by simp) j
        exact equal_cl w (by omega) (by omega) (ints_at h2 hg i) (ints_at h2 hg j), by rw [← cellsL_len]; exact hc1⟩
    have hc := compact_in hC hn
    rw [cellsL_len]
    refine hc.mono fun e W' ⟨ts, ht, he, hp, htk⟩ => ⟨_, he, rfl, ?_, hp.grown⟩
    have hgr : W.grownBy W' (Value.slice (some ⟨g, 0, none⟩) (cellsL L).length cap).ownBlock := hp.grown
    have hr := rows_at (v' := .slice (some ⟨g, 0, none⟩) (picked L L.length).length cap) h2 hgr rfl (picked L L.length) (fun i hi => picked_lt hi)
    rw [picked_cl] at hr
    refine ⟨_, ?_, hr⟩
    obtain ⟨q, hq⟩ := hp
    have ho := put_owns (svAt svs) (w := W) (n := q) (os := #[]) (ts := ts) (m := (picked L L.length).length) (by rw [ht]; exact picked_le _ _) hbase hb (by rw [ht, ← cellsL_len]; exact hc1) hc2 hc3
    rw [htk, grow_empty, ← hq] at ho
    rw [cellsL_len, ← picked_cl, List.length_map]
    exact ho
end Go.Proofs.YtgoflapolglfcaaGreat
namespace Go.Proofs.YtgoflapolglfcaaGreat
open Go.ChangeShapes Go.WideShapes Go.ChangeAt Go.RowKit Go.Shelf Go.Sort

/-- The clauses that do not hold always, each in order. -/
def nrmRaw (L : List (List Int)) : List (List Int) := (L.filter fun c => !alwB c).map normL
theorem nrmRaw_snoc (L : List (List Int)) (c : List Int) : nrmRaw (L ++ [c]) = nrmRaw L ++ (if alwB c then [] else [normL c]) := by
  unfold nrmRaw
  rw [List.filter_append, List.map_append]
  congr 1
  cases h : alwB c <;> simp [h]
theorem nrmRaw_inc {L : List (List Int)} : ∀ c ∈ nrmRaw L, Inc c := fun c h => by
  obtain ⟨x, -, rfl⟩ := List.mem_map.1 h
  exact norm_inc x
theorem nrmRaw_right {L : List (List Int)} (hr : ∀ c ∈ L, rightB c = true) : ∀ c ∈ nrmRaw L, rightB c = true := fun c h => by
  obtain ⟨x, hx, rfl⟩ := List.mem_map.1 h
  exact norm_right (hr x (List.mem_filter.1 hx).1)
theorem nrmRaw_len (L : List (List Int)) : (nrmRaw L).length ≤ L.length := by
  unfold nrmRaw; rw [List.length_map]; exact List.length_filter_le _ _
/-- The normal form of a formula. -/
def nrmF (L : List (List Int)) : List (List Int) := Lib.compact ((nrmRaw L).mergeSort fun a b => decide (clCmp a b ≤ 0))
theorem cl_sort (L : List (List Int)) : (L.mergeSort fun a b => decide (clCmp a b ≤ 0)).Pairwise (fun a b => clCmp a b ≤ 0) := by
  have h := List.pairwise_mergeSort (le := fun a b => decide (clCmp a b ≤ 0)) (fun a b c h k => by
    simp only [decide_eq_true_eq] at h k ⊢
    exact clCmp_trans h k) (fun a b => by
    have := clCmp_flip a b
    rw [Bool.or_eq_true, decide_eq_true_eq, decide_eq_true_eq]
    omega) L
  exact h.imp (fun h => by simpa using h)
theorem nrmF_is (L : List (List Int)) : (nrmF L).Pairwise (fun a b => clCmp a b < 0) ∧ ∀ x, x ∈ nrmF L ↔ x ∈ nrmRaw L := by
  obtain ⟨h1, h2⟩ := cmp_all (L := (nrmRaw L).mergeSort fun a b => decide (clCmp a b ≤ 0)) (fun c h => nrmRaw_inc c ((List.mergeSort_perm _ _).mem_iff.1 h)) (cl_sort _)
  exact ⟨h1, fun x => by unfold nrmF; rw [h2]; exact (List.mergeSort_perm _ _).mem_iff⟩
theorem nrm_unique {L N : List (List Int)} (h : N.Pairwise fun a b => clCmp a b < 0) (hm : ∀ x, x ∈ N ↔ x ∈ nrmRaw L) : N = nrmF L :=
  pair_unique (R := fun a b => clCmp a b < 0) (fun a b h k => by rw [clCmp_flip] at k; omega) h (nrmF_is L).1 fun x => by rw [hm, (nrmF_is L).2]
theorem nrm_perm {L L' : List (List Int)} (hp : L'.Perm (nrmRaw L)) (hs : L'.Pairwise fun a b => clCmp a b ≤ 0) : Lib.compact L' = nrmF L := by
  obtain ⟨h1, h2⟩ := cmp_all (fun c h => nrmRaw_inc c (hp.mem_iff.1 h)) hs
  exact nrm_unique h1 fun x => by rw [h2]; exact hp.mem_iff
set_option maxRecDepth 100000 in
set_option maxHeartbeats 2000000 in
theorem fonorm_bad {C : Nat} {v : Value} {L : List (List Int)} (vars : Int) (w : World) (hC : C ≤ w.heap.size) (hn : L.length ≤ 1000000000) (hz : ∀ zs ∈ L, zs.length ≤ 1000000) (hL : RowsL C w v L) (f : Int) (hf : (chkI vars L).2 = f) (h0 : f ≠ 0) :
    Calls Tryz.prog 19 #[.agg #[.int .i64 vars, v]] w fun e w' => e = .returned (.tuple #[.agg #[.int .i64 0, .slice none 0 0], .int .i64 f]) ∧ Below w.heap.size w w' := by
  obtain ⟨A, cap, rfl, -⟩ := rowsL_shape hL
  have h2 := two_at w vars (.slice A L.length cap)
  obtain ⟨w2, hw2⟩ : ∃ y, (w.alloc (.cells #[.int .i64 vars, .slice A L.length cap] 27)).alloc (.cells #[.int .i64 0, .slice none 0 0] 27) = y := ⟨_, rfl⟩
  rw [hw2] at h2
  have c0 := h2.fo.1
  have c1 := h2.fo.2.1
  have hck := check_any vars w2 (Nat.le_trans hC h2.below.size) hn hz (hL.below (h2.below.mono hC))
  obtain ⟨x1, hx1⟩ : ∃ r, (chkI vars L).1 = r := ⟨_, rfl⟩
  obtain ⟨x2, hx2⟩ : ∃ r, (chkI vars L).2 = r := ⟨_, rfl⟩
  rw [hx1, hx2] at hck
  rw [hx2] at hf
  have HCk := Lib.hid hck; have H2 := Lib.hid h2; have HW := Lib.hid hw2
  clear hck hx1 h2 hw2 hL hz hx2
  subst hf
  have hq : (x2 == 0) = false := by rw [beq_eq_false_iff_ne]; exact h0
  go_enter Tryz.func19, Tryz.ntmps19
  go_wp2_with fail
  rw [HW.out]
  go_wp2_with fail
  refine HCk.out.mono ?_
  rintro e w3 ⟨rfl, hb3⟩
  have hr3 := H2.out.res.same (hb3.block _ H2.out.res.lt)
  have r0 : w3.cell? ⟨w.heap.size + 1, 0, none⟩ = some (.int .i64 0) := hr3.cell 0
  have r1 : w3.cell? ⟨w.heap.size + 1, 1, none⟩ = some (.slice none 0 0) := hr3.cell 1
  have f0 := hr3.frozen 0
  have f1 := hr3.frozen 1
  have HR3 := Lib.hid ((hr3.store 0 (.int .i64 0)).store 1 (.slice none 0 0)); have HB3 := Lib.hid (below_cat H2.out.below hb3)
  clear hb3 hr3
  go_wp2_with fail
  refine bodyPost_ret (results_cell_row2 rfl _ _ (w.heap.size + 1) 27 _ (0, 0) _ rfl HR3.out Tryz.underlying27 rfl (by kernel_rfl)) rfl ?_
  exact ⟨rfl, (HB3.out.setCell (p := ⟨w.heap.size + 1, 0, none⟩) (by simp) _).setCell (p := ⟨w.heap.size + 1, 1, none⟩) (by simp) _⟩
def NrmRel (vars : Int) (L : List (List Int)) (w1 : World) (g : Nat) (i : Value) (wr : World) : Prop := ∃ (k : Nat) (v : Value), k ≤ L.length ∧ i = .int .i64 k ∧ Whole wr g 27 #[.int .i64 vars, v] ∧ OwnL (g + 1) wr v (nrmRaw (L.take k)) ∧ Keeps (fun i => i = g) w1 wr
set_option maxRecDepth 100000 in
set_option maxHeartbeats 2000000 in
theorem fonorm_ok {C : Nat} {v : Value} {L : List (List Int)} (vars : Int) (w : World) (hC : C ≤ w.heap.size) (hz : ∀ zs ∈ L, zs.length ≤ 1000000) (hL : RowsL C w v L) (hok : (chkI vars L).2 = 0) :
    Calls Tryz.prog 19 #[.agg #[.int .i64 vars, v]] w fun e w' => ∃ v', e = .returned (.tuple #[.agg #[.int .i64 vars, v'], .int .i64 0]) ∧ OwnL w.heap.size w' v' (nrmF L) ∧ Below w.heap.size w w' := by
  obtain ⟨-, -, hln, hlit⟩ := chk_ok hok
  obtain ⟨A, cap, rfl, hat⟩ := rowsL_shape hL
  obtain ⟨i0, hi, hz0, hz1, hz2⟩ := info_parts infoClause
  have h2 := two_at w vars (.slice A L.length cap)
  obtain ⟨w2, hw2⟩ : ∃ y, (w.alloc (.cells #[.int .i64 vars, .slice A L.length cap] 27)).alloc (.cells #[.int .i64 0, .slice none 0 0] 27) = y := ⟨_, rfl⟩
  rw [hw2] at h2
  have c0 := h2.fo.1
  have c1 := h2.fo.2.1
  have hck := check_any vars w2 (Nat.le_trans hC h2.below.size) (by omega) hz (hL.below (h2.below.mono hC))
  obtain ⟨x1, hx1⟩ : ∃ r, (chkI vars L).1 = r := ⟨_, rfl⟩
  rw [hx1, hok] at hck
  have HCk := Lib.hid hck; have H2 := Lib.hid h2; have HW := Lib.hid hw2; have HAt := Lib.hid hat; have HZ := Lib.hid hz; have HLit := Lib.hid hlit
  clear hck hx1 h2 hw2 hL hz hat hlit hok
  go_enter Tryz.func19, Tryz.ntmps19
  go_wp2_with fail
  rw [HW.out]
  go_wp2_with fail
  refine HCk.out.mono ?_
  rintro e w3 ⟨rfl, hb3⟩
  obtain ⟨c0, c1, -⟩ := H2.out.fo.on hb3
  have HF3 := Lib.hid (H2.out.fo.on hb3); have HR3 := Lib.hid (H2.out.res.same (hb3.block _ H2.out.res.lt)); have HB3 := Lib.hid (below_cat H2.out.below hb3)
  clear hb3
  have h4 := Whole.made w3 27 #[.int .i64 vars, .slice none 0 0]
  have hb4 := below1a w3 (.cells #[.int .i64 vars, .slice none 0 0] 27)
  have hg4 : (w3.alloc (.cells #[.int .i64 vars, .slice none 0 0] 27)).heap.size = w3.heap.size + 1 := by simp
  have hf4 := HF3.out.on hb4
  have hr4 := HR3.out.same (hb4.block _ HR3.out.lt)
  have hB4 := below_cat HB3.out hb4
  have d0 := hf4.1
  have d1 := hf4.2.1
  have HF4 := Lib.hid hf4; have HR4 := Lib.hid hr4; have HB4 := Lib.hid hB4; have HL4 := Lib.hid h4; have HG4 := Lib.hid hg4
  have hgg : w.heap.size + 1 < w3.heap.size := HR3.out.lt
  clear h4 hb4 hg4 hf4 hr4 hB4
  go_wp2_with fail
  clear d0 d1 c0 c1
  obtain ⟨w4, hw4⟩ : ∃ y, w3.alloc (.cells #[.int .i64 vars, .slice none 0 0] 27) = y := ⟨_, rfl⟩
  obtain ⟨g, hg⟩ : ∃ g, w3.heap.size = g := ⟨_, rfl⟩
  rw [hw4] at HF4 HR4 HB4 HL4 HG4 ⊢
  rw [hg] at HL4 HG4 hgg ⊢
  clear hw4 hg
  go_loopw [27] (fun i wr => NrmRel vars L w4 g i wr) (fun i _ => L.length - (intOf i).toNat)
  case atStart => exact ⟨0, .slice none 0 0, Nat.zero_le _, rfl, HL4.out, ownL_nil _ _, Keeps.refl _ _⟩
  case round =>
    obtain ⟨k, v, hk, rfl, hwh, hown, hkp⟩ := hrel
    have hBr : Below w.heap.size w wr := HB4.out.trans (hkp.below (Nat.le_of_lt HF4.out.2.2) (fun i e => by omega))
    have hlw : g < wr.heap.size := hwh.lt
    have hf := HF4.out
    have hr4 : wr.heap[w.heap.size + 1]? = w4.heap[w.heap.size + 1]? := hkp.block (w.heap.size + 1) HR4.out.lt (fun e => by omega)
    by_cases hlt : k < L.length
    · obtain ⟨zs, hx⟩ : ∃ zs, L[k]? = some zs := ⟨_, List.getElem?_eq_getElem hlt⟩
      obtain ⟨b, off, As, cs, rfl, hb, hc, hI⟩ := HAt.out k zs hx
      have hc := (hBr.cell (p := ⟨b, off + k, none⟩) (Nat.lt_of_lt_of_le hb hC)).trans hc
      have hzl := HZ.out zs (List.mem_of_getElem? hx)
      have hzr : rightB zs = true := (HLit.out zs (List.mem_of_getElem? hx)).1
      have htk := takeL_one L hx
      have hki : (k : Int) < (L.length : Int) := by omega
      have hnm := clnorm_any C (.slice As zs.length cs) zs hzl wr (Nat.le_trans hC hBr.size) (hI.below (hBr.mono hC))
      rw [hzr, if_pos rfl, if_pos rfl, Bool.true_and] at hnm
      cases ha : alwB zs
      · rw [ha] at hnm
        obtain ⟨svs, hrow, hinr⟩ := hown
        obtain ⟨Av, cv, rfl⟩ := own_shape0 hrow
        obtain ⟨n, hn⟩ : ∃ n, (cellsL (nrmRaw (L.take k))).length = n := ⟨_, rfl⟩
        have hnn : n ≤ 262144 := by
          rw [← hn, cellsL_len]
          exact Nat.le_trans (nrmRaw_len _) (by simp; omega)
        have HNl := Lib.hid hn.symm
        rw [hn] at hrow hinr hwh
        obtain ⟨ys, hys⟩ : ∃ ys, normL zs = ys := ⟨_, rfl⟩
        rw [hys] at hnm
        have hgo : ∀ b, (Value.slice Av n cv).ownBlock = some b → g + 1 ≤ b ∧ b < wr.heap.size := fun b hb => hrow.lt b hb
        have hsn : nrmRaw (L.take (k + 1)) = nrmRaw (L.take k) ++ [ys] := by rw [htk, nrmRaw_snoc, ha, hys]; rfl
        have HSn := Lib.hid hsn; have HNm := Lib.hid hnm; have HNx := Lib.hid hlt; have HWh := Lib.hid hwh; have HRow := Lib.hid hrow; have HInr := Lib.hid hinr; have HKp := Lib.hid hkp; have HGo := Lib.hid hgo
        clear hsn hnm hzr hx hb hI hzl htk hwh hrow hinr hkp hr4 hf hBr hys hgo HAt HZ hn ha HLit
        go_wp2_with fail
        refine HNm.out.mono ?_
        rintro e w5 ⟨v5, rfl, hr5, hb5⟩
        obtain ⟨A5, c5, rfl⟩ := own_shape0 hr5
        have hl5 : wr.heap.size ≤ w5.heap.size := hb5.size
        have hW5 := HWh.out.same (hb5.block g hlw)
        have g5 : w5.cell? ⟨g, 1, none⟩ = some (.slice Av n cv) := hW5.cell 1
        have g6 : (w5.alloc (.cells #[.slice A5 ys.length c5] 65)).cell? ⟨g, 1, none⟩ = some (.slice Av n cv) := (whole_alloc hW5 _).cell 1
        have HS5 := Lib.hid (owns_on0 HRow.out hb5); have HR5 := Lib.hid hr5; have HB5 := Lib.hid hb5; have HW5 := Lib.hid hW5
        clear hr5 hb5 hW5
        go_wp2_with (at_builtin; (refine wpList_append_lies _ (by rfl) _ _ 25 (by rfl) (g + 1) 65 i0 _ 1 24 Tryz.underlying25 hi hz0 hz1 hz2 (by rfl) (by decide) _ n svs (by rfl) (HS5.out.alloc _) _ 1 1 [.slice A5 ys.length c5] (by rfl) (by rfl) (World.news_of_block (cs := #[.slice A5 ys.length c5]) (t := 65) (fr := (0, 0)) (heap_alloc_new _ _)) (by simp [Value.oneCell']) (by decide) (by unfold maxLen; omega) (by omega) (by simp; omega) _ rfl ?_; intro gg cap w7 hown7 hg7 hloc hl7; have hw7 : Whole w7 g 27 #[.int .i64 vars, .slice Av n cv] := whole_grown hg7 (fun e => by have := HGo.out g e.symm; omega) (whole_alloc HW5.out _); have g7 : w7.cell? ⟨g, 1, none⟩ = some (.slice Av n cv) := hw7.cell 1; have f7 : w7.frozen? ⟨g, 1, none⟩ = false := hw7.frozen 1; have HO7 := Lib.hid hown7; have HG7 := Lib.hid hg7; have HLoc := Lib.hid hloc; have HW7 := Lib.hid hw7; clear hown7 hg7 hloc hw7))
        obtain ⟨p1, p2, p3⟩ := field_push _ HWh.out HRow.out HInr.out HKp.out HB5.out HR5.out (Nat.le_refl _) HG7.out HO7.out HLoc.out HW7.out HNl.out (fun i hv hi => by have := (HGo.out i hv).1; have := HG4.out; omega)
        rw [← cellsL_one] at p2
        have HP := Lib.hid (And.intro p1 (And.intro p2 p3))
        clear p1 p2 p3 HO7 HG7 HLoc HW7 HS5 HR5 HB5 HW5 g5 g6 g7 f7
        go_roundw
        case rel => exact ⟨k + 1, _, HNx.out, by go_num, HP.out.1, by rw [HSn.out]; exact HP.out.2.1, HP.out.2.2⟩
        case measure => simp [intOf]; omega
      · rw [ha] at hnm
        have hsn : nrmRaw (L.take (k + 1)) = nrmRaw (L.take k) := by rw [htk, nrmRaw_snoc, ha]; simp
        obtain ⟨ys, hys⟩ : ∃ ys, normL zs = ys := ⟨_, rfl⟩
        rw [hys] at hnm
        have HSn := Lib.hid hsn; have HNm := Lib.hid hnm; have HNx := Lib.hid hlt; have HWh := Lib.hid hwh; have HOwn := Lib.hid hown; have HKp := Lib.hid hkp
        clear hsn hnm hzr hx hb hI hzl htk hwh hown hkp hr4 hf hBr hys HAt HZ ha HLit
        go_wp2_with fail
        refine HNm.out.mono ?_
        rintro e w5 ⟨v5, rfl, hr5, hb5⟩
        obtain ⟨A5, c5, rfl⟩ := own_shape0 hr5
        have HB5 := Lib.hid hb5
        clear hr5 hb5
        go_wp2_with fail
        go_roundw
        case rel => exact ⟨k + 1, v, HNx.out, by go_num, HWh.out.same (HB5.out.block g hlw), by rw [HSn.out]; exact HOwn.out.on HB5.out, HKp.out.then_below HB5.out⟩
        case measure => simp [intOf]; omega
    · obtain rfl : k = L.length := by omega
      rw [List.take_length] at hown
      have hrr := HR4.out.same hr4
      have hso := sortC_own wr hown (nrmRaw_right fun c hc => (HLit.out c hc).1) nrmRaw_inc (Nat.le_trans (nrmRaw_len L) (by omega))
      have hgo : ∀ b, v.ownBlock = some b → g + 1 ≤ b ∧ b < wr.heap.size := fun b hb => hown.lt hb
      obtain ⟨Av, cv, rfl⟩ := hown.len
      obtain ⟨n, hn⟩ : ∃ n, (cellsL (nrmRaw L)).length = n := ⟨_, rfl⟩
      rw [hn] at hso hgo hwh
      have y1 : wr.cell? ⟨g, 1, none⟩ = some (.slice Av n cv) := hwh.cell 1
      have HSo := Lib.hid hso; have HGo := Lib.hid hgo; have HWh := Lib.hid hwh; have HBr := Lib.hid hBr; have HRR := Lib.hid hrr; have HKp := Lib.hid hkp; have HNn := Lib.hid hn
      clear hso hgo hwh hBr hrr hown hkp hr4 hf HAt HZ hn
      go_wp2_with fail
      refine HSo.out.mono ?_
      rintro e ws ⟨rfl, L', hperm, hsorted, hown1, hg1⟩
      have hWs := whole_grown hg1 (fun e => by have := HGo.out g e.symm; omega) HWh.out
      have y2 : ws.cell? ⟨g, 1, none⟩ = some (.slice Av n cv) := hWs.cell 1
      have hls : L'.length ≤ 262144 := by rw [hperm.length_eq]; exact Nat.le_trans (nrmRaw_len L) (by omega)
      have hco := compactC_own ws hown1 (fun zs hz => (rightB_of (nrmRaw_right (fun c hc => (HLit.out c hc).1) zs (hperm.mem_iff.1 hz))).1) (by omega)
      rw [nrm_perm hperm hsorted] at hco
      have HCo := Lib.hid hco; have HWs := Lib.hid hWs; have HG1 := Lib.hid hg1
      clear hco hWs hg1 hown1 hperm hsorted y1 HLit
      go_wp2_with fail
      refine HCo.out.mono ?_
      rintro e wc ⟨v', rfl, hv', hown2, hg2⟩
      have hWc := whole_grown hg2 (fun e => by have := HGo.out g e.symm; omega) HWs.out
      have z0 : wc.cell? ⟨g, 0, none⟩ = some (.int .i64 vars) := hWc.cell 0
      have z1 : wc.cell? ⟨g, 1, none⟩ = some (.slice Av n cv) := hWc.cell 1
      have zf := hWc.frozen 1
      have hg12 := HG1.out.trans hg2
      have hRc := HRR.out.same (hg12.block _ HRR.out.lt (fun e => by have := HGo.out _ e.symm; omega))
      have r0 : wc.cell? ⟨w.heap.size + 1, 0, none⟩ = some (.int .i64 0) := hRc.cell 0
      have r1 : wc.cell? ⟨w.heap.size + 1, 1, none⟩ = some (.slice none 0 0) := hRc.cell 1
      have f0 := hRc.frozen 0
      have f1 := hRc.frozen 1
      have hBc : Below w.heap.size w wc := HBr.out.grown hg12 (Nat.le_trans HBr.out.size (Nat.le_refl _)) (fun b e => by have := HGo.out b e; omega)
      obtain ⟨Av', cv', rfl⟩ := hown2.len
      obtain ⟨n', hn'⟩ : ∃ n, (cellsL (nrmF L)).length = n := ⟨_, rfl⟩
      rw [hn'] at hown2 hv'
      have hRc' : ∀ W, Whole W (w.heap.size + 1) 27 #[.int .i64 0, .slice none 0 0] → Whole ((W.setCell ⟨w.heap.size + 1, 0, none⟩ (.int .i64 vars)).setCell ⟨w.heap.size + 1, 1, none⟩ (.slice Av' n' cv')) (w.heap.size + 1) 27 #[.int .i64 vars, .slice Av' n' cv'] := fun W h => (h.store 0 (.int .i64 vars)).store 1 (.slice Av' n' cv')
      have HRR2 := Lib.hid (hRc' _ (hRc.beside (b := g) (i := 1) (by omega) (.slice Av' n' cv'))); have HOwn := Lib.hid hown2; have HBc := Lib.hid hBc
      clear hRc hRc' hown2 hBc hWc hg2 hg12
      go_wp2_with fail
      refine bodyPost_ret (results_cell_row2 rfl _ _ (w.heap.size + 1) 27 _ (0, 0) _ rfl HRR2.out Tryz.underlying27 rfl (by kernel_rfl)) rfl ?_
      refine ⟨_, rfl, ?_, ((HBc.out.setCell (p := ⟨g, 1, none⟩) (by simp; omega) _).setCell (p := ⟨w.heap.size + 1, 0, none⟩) (by simp) _).setCell (p := ⟨w.heap.size + 1, 1, none⟩) (by simp) _⟩
      exact (HOwn.out.kept (K := fun i => i = w.heap.size + 1 ∨ i = g) ((((Keeps.refl (fun i => i = w.heap.size + 1 ∨ i = g) wc).setCell (p := ⟨g, 1, none⟩) (.inl (.inr rfl)) _).setCell (p := ⟨w.heap.size + 1, 0, none⟩) (.inl (.inl rfl)) _).setCell (p := ⟨w.heap.size + 1, 1, none⟩) (.inl (.inl rfl)) _) (fun i h => by rcases h with h | h <;> omega)).less (by omega)
end Go.Proofs.YtgoflapolglfcaaGreat
