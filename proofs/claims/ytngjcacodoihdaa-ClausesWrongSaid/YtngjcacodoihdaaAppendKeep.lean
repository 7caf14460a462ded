/- append of one literal to a row of the call's own: the row reads as before. Clones. -/
import Derived.Test.YtngjcacodoihdaaInsert
import Derived.Test.YtngjcacodoihdaaClAt
namespace Go.Proofs.Ytngjcacodoihdaa
open Go.RowKit Go.ChangeAt Go.ChangeShapes Go.WideShapes Go.Lib

theorem append_keep (w : World) (v : Value) (c : List Int) (x : Int) (g2 : Nat) (T : TypeId) (B : Nat) (hl : c.length ≤ 1000) (hrow : w.ownsRow B 34 1 v c.length (c.map (Value.int .i64))) (hB : B ≤ w.heap.size) (h2 : w.heap[g2]? = some (.cells #[.int .i64 x] T (0, 0))) :
    ∃ v' W', (∀ ty, (Builtin.append_ #[28, 28] ty #[v, .slice (some ⟨g2, 0, none⟩) 1 1]).run Try.prog w = .ok v' W') ∧ Lits W'.heap.size W' v' (c ++ [x]) ∧ Lits W'.heap.size W' v c ∧ Below B w W' := by
  obtain ⟨i0, hi0, hz0, hz1, hz2⟩ := info_parts infoLit
  have hsrc : Src Try.prog i0.size 28 (.slice (some ⟨g2, 0, none⟩) 1 1) 1 [Value.int .i64 x] w := by
    rw [hz1]; exact Src.ofSlice w Try.underlying28 ⟨g2, 0, none⟩ 1 1 [Value.int .i64 x] rfl (one_news h2) (by simp [Value.oneCell'])
  have hln : (c ++ [x]).length = c.length + 1 := by rw [List.length_append]; rfl
  have hCl : (c.map (Value.int .i64)).length = c.length := List.length_map _
  have hgrow : ∀ (A : Option Addr) (cap : Nat), v = .slice A c.length cap → c.length ≤ cap → cap < c.length + 1 → (A = none → c.length = 0) → (∀ a, A = some a → ∀ (j : Nat) (u : Value), (c.map (Value.int .i64))[j]? = some u → w.cell? (a.add j) = some u) →
      ∃ v' W', (∀ ty, (Builtin.append_ #[28, 28] ty #[v, .slice (some ⟨g2, 0, none⟩) 1 1]).run Try.prog w = .ok v' W') ∧ Lits W'.heap.size W' v' (c ++ [x]) ∧ Lits W'.heap.size W' v c ∧ Below B w W' := by
    rintro A cap rfl hle hcap hnil hA
    have hold : (Builtin.firstCells i0.size c.length (.slice A c.length cap)).run Try.prog w.drew = .ok (c.map (Value.int .i64)).toArray w.drew := by
      rw [hz1]
      cases A with
      | none =>
        have h0 := List.eq_nil_of_length_eq_zero (hnil rfl)
        subst h0
        exact run_firstCells_none w.drew 1 0 0 cap
      | some a => exact run_firstCells_some w.drew 1 c.length a c.length cap _ (by omega) (fun j v hj => hA a rfl j v hj)
    have hge := grownCap_ge w (c.length + 1) cap 34
    have hlm := grownCap_le_maxLen w (c.length + 1) cap 34 (by unfold maxLen; omega)
    refine ⟨_, _, fun ty => run_append_grow_src w 28 28 ty 34 i0 _ Try.underlying28 hi0 hz0 A c.length cap _ hold _ 1 [Value.int .i64 x] hsrc hcap (by omega) (by rw [hz2]; exact growslice_fits hcap (by omega)), ?_, ?_, ((Below.refl B w).drew).alloc hB _⟩
    · obtain ⟨G, hG⟩ : ∃ G, grownCap w (c.length + 1) cap 34 = G := ⟨_, rfl⟩
      rw [hG] at hge hlm ⊢
      refine lits_heapn hln (cur := ((c.map (Value.int .i64) ++ [Value.int .i64 x]).toArray ++ Builtin.zeroCells (Value.int .i64 0).cells (G - (c.length + 1))).toList) (t := 34) ?_ ?_ ?_ hlm (by omega)
      · rw [Array.toArray_toList]; exact World.alloc_heap_new w.drew _
      · rw [List.map_append, Array.toList_append]
        exact List.take_left' (by simp)
      · rw [Array.length_toList, Array.size_append, size_zeroCells]
        simp [Value.cells]
        omega
    · exact (lits_own hrow).on (((Below.refl w.heap.size w).drew).alloc (Nat.le_refl _) _)
  rcases hrow.2 with ⟨rfl, h0⟩ | ⟨g, cap, cur, rfl, hBg, hg, hle, hmx, hcs, hct⟩
  · exact hgrow none 0 (by rw [h0]) (by omega) (by omega) (fun _ => h0) (fun a e => by cases e)
  · have hcl : cur.size = cap := by simpa using hcs
    have hct' : cur.toList.take c.length = c.map (Value.int .i64) := by simpa using hct
    have hcell : ∀ (j : Nat) (u : Value), (c.map (Value.int .i64))[j]? = some u → w.cell? ⟨g, j, none⟩ = some u := fun j u hj => by
      rw [← hct', List.getElem?_take] at hj
      split at hj
      · simp only [World.cell?, hg]
        simpa using hj
      · cases hj
    by_cases hcap : c.length + 1 ≤ cap
    · have hs : ∀ j, j < cap → (w.cell? ⟨g, j, none⟩).isSome = true := fun j hj => by simp [World.cell?, hg]; omega
      have hf : ∀ j, w.frozen? ⟨g, j, none⟩ = false := fun j => by simp [World.frozen?, hg]
      have hrun := fun ty => run_append_room_src (P := Try.prog) w 28 28 ty 34 i0 Try.underlying28 hi0 g 0 c.length cap _ 1 [Value.int .i64 x] hsrc hcap (fun j hj => by rw [hz1]; exact hs _ (by have := Nat.lt_one_iff.1 hj; omega)) (fun j _ => hf _)
      rw [hz1, Nat.mul_one, Nat.zero_add] at hrun
      refine ⟨_, _, hrun, ?_, ?_, below_setCells hBg _ _ (Below.refl B w)⟩
      · have hrow2 : w.ownsRow B 34 1 (.slice (some ⟨g, 0, none⟩) (c.length + 1) cap) (c.length + 1) (cur.toList.take (c.length + 1)) := ⟨by rw [List.length_take]; simp; omega, .inr ⟨g, cap, cur, rfl, hBg, hg, hcap, hmx, hcs, by simp⟩⟩
        have hset := (hrow2.stored c.length (.int .i64 x)).1
        have hls : (cur.toList.take (c.length + 1)).set c.length (.int .i64 x) = (c ++ [x]).map (Value.int .i64) := by
          rw [List.map_append, ← hct', List.take_succ_eq_append_getElem (by simp; omega), List.set_append_right _ _ (by rw [List.length_take]; omega), List.length_take, show c.length - min c.length cur.toList.length = 0 by simp; omega]
          rfl
        rw [hls] at hset
        simpa [World.setCells] using lits_own hset
      · by_cases h0 : c.length = 0
        · have h00 := List.eq_nil_of_length_eq_zero h0
          subst h00
          exact .inl ⟨_, _, rfl, (fun e => by cases e), rfl⟩
        · refine .inr ⟨g, 0, cap, rfl, ?_, fun j hj => ?_⟩
          · exact Nat.lt_of_lt_of_le (Array.getElem?_eq_some_iff.1 hg).1 (below_setCells hBg [Value.int .i64 x] c.length (Below.refl B w)).size
          · have hj' : j < c.length := by simpa using hj
            rw [bang_get, Nat.zero_add]
            refine ⟨?_, by rw [World.frozen?_setCells]; exact hf j⟩
            rw [World.cell?_setCells_out _ _ _ _ ⟨g, j, none⟩ (fun _ _ => .inl (by show j < c.length; omega))]
            exact hcell j _ (by rw [List.getElem?_map, List.getElem?_eq_getElem hj']; rfl)
    · have hlt : cap < c.length + 1 := Nat.lt_of_not_le hcap
      have hA : ∀ a : Addr, (some ⟨g, 0, none⟩ : Option Addr) = some a → ∀ (j : Nat) (u : Value), (c.map (Value.int .i64))[j]? = some u → w.cell? (a.add j) = some u := by
        intro a e j u hj
        obtain rfl := Option.some.inj e
        have h1 := addr_add g 0 j
        rw [Nat.zero_add] at h1
        rw [h1]
        exact hcell j u hj
      have hN : (some ⟨g, 0, none⟩ : Option Addr) = none → c.length = 0 := fun e => absurd e (Option.some_ne_none _)
      exact hgrow (some ⟨g, 0, none⟩) cap rfl hle hlt hN hA

set_option maxRecDepth 100000 in
theorem clone_cl (v : Value) (zs : List Int) (w : World) (hz : zs.length ≤ 1000) (hI : Ints w.heap.size w v zs) :
    Calls Try.prog 39 #[v] w (GivesE 34 w zs) := by
  rcases hI with ⟨A, c, rfl, hAc, rfl⟩ | ⟨b, off, cap, rfl, hb, hc⟩
  · cases A with
    | none => exact (Try.slices_Clone_int_nil_f39 0 c w).mono fun e w' ⟨he, hw⟩ => ⟨_, he, World.ownsRow_nil _ _ _ _, by rw [hw]; exact Below.refl _ _⟩
    | some a => exact (Try.slices_Clone_int_zero_f39 a c w).mono fun e w' ⟨v', he, hr, _, hB⟩ => ⟨v', he, hr, hB⟩
  · refine (Try.slices_Clone_int_f39 b off zs.length cap zs w (Nat.le_refl _) (by omega) (fun j hj => by rw [List.getD_eq_getElem?_getD]; exact hc j hj)).mono fun e w' ⟨v', he, hr, _, hB⟩ => ⟨v', he, ?_, hB⟩
    rwa [List.take_length] at hr
end Go.Proofs.Ytngjcacodoihdaa
