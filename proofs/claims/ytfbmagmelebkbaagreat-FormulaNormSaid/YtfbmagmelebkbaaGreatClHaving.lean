/- clauses.having, Within, Same. -/
import Derived.Test.YtfbmagmelebkbaaGreatClRest
namespace Go.Proofs.YtfbmagmelebkbaaGreat
open Go.ChangeShapes Go.WideShapes Go.ChangeAt Go.RowKit Go.Shelf Go.Sort

attribute [local go_sem] Oper.semAt_some

/-- In a list in order, the place of a number is how many come before it. -/
theorem count_has {ns : List Int} (h : Inc ns) (x : Int) : (decide (ns.toArray.toList.countP (fun y => decide (compareI y x < 0)) < ns.toArray.size) && decide (compareI ns.toArray[ns.toArray.toList.countP (fun y => decide (compareI y x < 0))]! x = 0)) = hasB ns x := by
  have hcount : ∀ l : List Int, Inc l → l.countP (fun y => decide (compareI y x < 0)) ≤ l.length ∧ ((∃ h : l.countP (fun y => decide (compareI y x < 0)) < l.length, l[l.countP (fun y => decide (compareI y x < 0))]'h = x) ↔ x ∈ l) := by
    intro l
    induction l with
    | nil => intro _; exact ⟨by simp, by simp⟩
    | cons a l ih =>
      intro hl
      obtain ⟨h1, h2⟩ := List.pairwise_cons.1 hl
      obtain ⟨i1, i2⟩ := ih h2
      by_cases ha : compareI a x < 0
      · rw [List.countP_cons_of_pos (by simpa using ha)]
        refine ⟨by simp; omega, ?_⟩
        have hne : x ≠ a := by rintro rfl; rw [compareI_zero.2 rfl] at ha; omega
        constructor
        · rintro ⟨hlt, e⟩
          exact List.mem_cons_of_mem _ (i2.1 ⟨by simpa using hlt, by simpa using e⟩)
        · intro hx
          obtain ⟨hlt, e⟩ := i2.2 ((List.mem_cons.1 hx).resolve_left hne)
          exact ⟨by simpa using hlt, by simpa using e⟩
      · have hz : (a :: l).countP (fun y => decide (compareI y x < 0)) = 0 := by
          rw [List.countP_eq_zero]
          intro y hy
          rw [decide_eq_true_iff]
          rcases List.mem_cons.1 hy with rfl | hy
          · exact ha
          · intro hyx
            have h3 := h1 y hy
            have h4 : ltI y x = true := decide_eq_true hyx
            have h5 := ltI_trans h3 h4
            exact ha (of_decide_eq_true h5)
        rw [hz]
        refine ⟨Nat.zero_le _, ?_⟩
        constructor
        · rintro ⟨_, e⟩
          exact List.mem_cons.2 (.inl (by simpa using e.symm))
        · intro hx
          refine ⟨by simp, ?_⟩
          rcases List.mem_cons.1 hx with e | hx
          · exact e.symm
          · have h3 := h1 x hx
            exact (ha (of_decide_eq_true h3)).elim
  obtain ⟨-, hc⟩ := hcount ns h
  show (decide (ns.countP _ < ns.toArray.size) && _) = decide (x ∈ ns)
  by_cases hx : x ∈ ns
  · obtain ⟨hlt, e⟩ := hc.2 hx
    rw [decide_eq_true hx, decide_eq_true (by simpa using hlt), bang_eq ns hlt, e, compareI_zero.2 rfl]
    rfl
  · rw [decide_eq_false hx]
    by_cases hlt : ns.countP (fun y => decide (compareI y x < 0)) < ns.length
    · rw [bang_eq ns hlt, decide_eq_false (p := compareI _ x = 0) (fun e => hx (hc.1 ⟨hlt, compareI_zero.1 e⟩)), Bool.and_false]
    · rw [decide_eq_false (by simpa using hlt), Bool.false_and]

/-- slices.BinarySearchFunc over a list in order. -/
theorem bsf_any {B : Nat} (v : Value) (ns : List Int) (x : Int) (hn : ns.length ≤ 1000000) (h : Inc ns) (W : World) (hB : B ≤ W.heap.size) (hI : Lits B W v ns) :
    Calls Tryz.prog 122 #[v, .int .i64 x, .func (.func 82) #[] #[]] W fun e W' => (∃ i : Int, e = .returned (.tuple #[.int .i64 i, .bool (hasB ns x)])) ∧ RowKit.Below W.heap.size W W' := by
  rcases hI with ⟨A, c, rfl, -, rfl⟩ | ⟨b, off, cap, rfl, hb, hH⟩
  · refine (Any.slices_BinarySearchFunc_none Tryz.laysBsf_f122 A c (.int .i64 x) (.func (.func 82) #[] #[]) W).mono fun e W' ⟨he, hw⟩ => ⟨⟨0, he⟩, by rw [hw]; exact RowKit.Below.refl _ _⟩
  · have hs : ns.toArray.size = ns.length := by simp
    have hc := Any.slices_BinarySearchFunc Tryz.laysBsf_f122 (Value.int .i64) (fun _ => rfl) (.int .i64 x) (fun y => compareI y x) 82 #[] b off cap ns.toArray W eg_cmp
      (fun m os dk _ y => (compare_any y x _).mono fun _ _ ⟨he, hw⟩ => ⟨he, 0, #[], by rw [← hw, grow_empty]; rfl⟩) hH (by omega) (by simp; omega) (fun i j hij hj hlt => by
        have hj' : j < ns.length := by simpa using hj
        rw [bang_eq ns hj'] at hlt
        rw [bang_eq ns (by omega)]
        by_cases e : i = j
        · subst e; exact hlt
        · have h1 := List.pairwise_iff_getElem.1 h i j (by omega) hj' (by omega)
          exact of_decide_eq_true (ltI_trans h1 (decide_eq_true hlt)))
    rw [count_has h x, hs] at hc
    exact hc.mono fun e W' ⟨he, hw⟩ => ⟨⟨_, he⟩, SW.belowHere hH hw⟩

set_option maxHeartbeats 1000000 in
theorem has1_any (B : Nat) (Bh : Nat) (v : Value) (ns : List Int) (x : Int) (hn : ns.length ≤ 1000000) (h : Inc ns) (W : World) (hB : B ≤ W.heap.size) (hc : W.cell? ⟨Bh, 0, none⟩ = some v) (hI : Lits B W v ns) :
    Calls Tryz.prog 121 #[.int .i64 x, .pointer (some ⟨Bh, 0, none⟩)] W fun e W' => e = .returned (.bool (hasB ns x)) ∧ RowKit.Below W.heap.size W W' := by
  have HS := Lib.hid (bsf_any v ns x hn h W hB hI)
  obtain ⟨A, c, rfl, -⟩ := ints_shape hI.ints
  clear hI
  go_enter Tryz.func121, Tryz.ntmps121
  go_wp2_with fail
  refine HS.out.mono ?_
  rintro e W' ⟨⟨i, rfl⟩, hb⟩
  go_wp2_with fail
  go_ret
  exact ⟨rfl, hb⟩

set_option maxHeartbeats 1000000 in
/-- having hands back a function that captures the sorted list. -/
theorem having_any (B : Nat) (sv : Value) (zs : List Int) (hz : zs.length ≤ 1000000) (w : World) (hB : B ≤ w.heap.size) (hI : Lits B w sv zs) :
    Calls Tryz.prog 86 #[sv] w fun e w' => ∃ Bh v, e = .returned (.func (.func 121) #[] #[.pointer (some ⟨Bh, 0, none⟩)]) ∧ w.heap.size ≤ Bh ∧ Boxed w' Bh 38 v ∧ Lits w'.heap.size w' v (normL zs) ∧ RowKit.Below w.heap.size w w' := by
  have HS := Lib.hid (clsorted_any B sv zs hz w hB hI)
  obtain ⟨A, c, rfl, -⟩ := ints_shape hI.ints
  clear hI
  go_enter Tryz.func86, Tryz.ntmps86
  go_wp2_with fail
  refine HS.out.mono ?_
  rintro e w1 ⟨v, rfl, hl, hb⟩
  obtain ⟨A1, c1, rfl, -⟩ := ints_shape hl.ints
  have HL := Lib.hid hl; clear hl
  go_wp2_with fail
  go_ret
  have hb2 : RowKit.Below w1.heap.size w1 (w1.alloc (.cells #[.slice A1 (normL zs).length c1] 38)) := (RowKit.Below.refl _ _).alloc (Nat.le_refl _) _
  exact ⟨w1.heap.size, _, rfl, hb.size, Boxed.new w1 _ _, HL.out.on hb2, hb.trans (hb2.mono hb.size)⟩
end Go.Proofs.YtfbmagmelebkbaaGreat
