/- slices.Compact and Clone over rows of the call's own. -/
import Derived.Test.YtjipmjimggggbaaDoorVarsMath
namespace Go.Proofs.YtjipmjimggggbaaDoor.litsVars
open Go.RowKit Go.ChangeAt Go.ChangeShapes Go.WideShapes Go.Sort

theorem compact_own {B : Nat} (W : World) (v : Value) (zs : List Int) (hz : zs.length ≤ 1000000) (hrow : W.ownsRow B 3 1 v zs.length (zs.map (Value.int .i64))) (hB : B ≤ W.heap.size) :
    Calls Tryd.prog 35 #[v] W fun e W' => ∃ v', e = .returned v' ∧ Ints W'.heap.size W' v' (Lib.compact zs) ∧ Below B W W' := by
  by_cases hd : zs.length = 0
  · obtain rfl : zs = [] := List.eq_nil_of_length_eq_zero hd
    obtain ⟨A, c, rfl⟩ : ∃ A c, v = .slice A 0 c := by
      rcases hrow.2 with ⟨rfl, -⟩ | ⟨g, cap, cur, rfl, -⟩
      · exact ⟨_, _, rfl⟩
      · exact ⟨_, _, rfl⟩
    refine (Tryd.slices_Compact_int_empty A c W).mono fun e W' ⟨he, hw⟩ => ⟨_, he, .inl ⟨_, _, rfl, rfl⟩, by rw [hw]; exact Below.refl _ _⟩
  · have hvn : v ≠ .slice none 0 0 := by
      rintro rfl
      rcases hrow.2 with ⟨-, h⟩ | ⟨g, cap, cur, h, -⟩
      · exact hd h
      · cases h
    obtain ⟨g, cap, rfl, hbg, hgl, hncap, hcm, hlen, hH⟩ := Lib.holds_of_ownsRow hrow hvn
    have hcl := Lib.compact_length_le zs
    refine (Tryd.slices_Compact_int g 0 cap zs W hH (by omega) hncap).mono fun e W' ⟨he, q, hw⟩ => ⟨_, he, ?_, ?_⟩
    · obtain ⟨ts, hts⟩ : ∃ ts, Lib.compact zs ++ List.replicate (zs.length - (Lib.compact zs).length) 0 = ts := ⟨_, rfl⟩
      have htl : ts.length = zs.length := by rw [← hts, List.length_append, List.length_replicate]; omega
      have hr : W'.ownsRow B 3 1 (.slice (some ⟨g, 0, none⟩) zs.length cap) zs.length (ts.map (Value.int .i64)) := by
        rw [hw, hts, ← grow_empty (putRow (Value.int .i64) (Sort.ahead W q) g 0 ts.toArray)]
        rcases hrow.2 with ⟨h0, _⟩ | ⟨g', cap', cur, hv', hbase, hb, h1, h2, h3, h4⟩
        · cases h0
        · cases hv'
          exact ownsRow_sortedI htl hbase hb h1 h2 h3
      refine .inr ⟨g, 0, cap, rfl, (hr.lt g rfl).2, fun j hj => ?_⟩
      rw [Nat.zero_add, hr.cellAt j (by omega), List.getElem?_map, ← hts, List.getElem?_append_left hj]
      simp [hj]
    · rw [hw, ← grow_empty (putRow (Value.int .i64) (Sort.ahead W q) g 0 _)]
      exact (Below.refl _ W).grown (grownBy_sortedI _) hB (fun k e => by cases e; exact hbg)

theorem clone_int {B : Nat} {v : Value} {xs : List Int} (w : World) (hx : xs.length ≤ 1000000) (h : Ints B w v xs) :
    Calls Tryd.prog 40 #[v] w fun e w' => ∃ v', e = .returned v' ∧ w'.ownsRow w.heap.size 3 1 v' xs.length (xs.map (Value.int .i64)) ∧ Below w.heap.size w w' := by
  rcases h with ⟨A, c, rfl, rfl⟩ | ⟨b, off, cap, rfl, -, hc⟩
  · cases A with
    | none => exact (Tryd.slices_Clone_int_nil _ _ w).mono fun e w' ⟨he, hw⟩ => ⟨_, he, by rw [hw]; exact World.ownsRow_nil _ _ _ _, by rw [hw]; exact Below.refl _ _⟩
    | some a => exact (Tryd.slices_Clone_int_zero a _ w).mono fun e w' ⟨v', he, hr, _, hb⟩ => ⟨v', he, hr, hb⟩
  · refine (Tryd.slices_Clone_int b off xs.length cap xs w (Nat.le_refl _) (by omega) (fun j hj => by rw [getD_eq]; exact hc j hj)).mono fun e w' ⟨v', he, hr, _, hb⟩ => ?_
    rw [List.take_length] at hr
    exact ⟨v', he, hr, hb⟩
theorem contains_int {B : Nat} {v : Value} {xs : List Int} (x : Int) (hm : x ∈ xs) (w : World) (hx : xs.length ≤ 1000000) (h : Ints B w v xs) :
    Calls Tryd.prog 41 #[v, .int .i64 x] w fun e w' => e = .returned (.bool true) ∧ w' = w := by
  rcases h with ⟨A, c, rfl, rfl⟩ | ⟨b, off, cap, rfl, -, hc⟩
  · cases hm
  · refine (Tryd.slices_Contains_int b off xs.length cap xs x w (Nat.le_refl _) (by omega) (fun j hj => by rw [getD_eq]; exact hc j hj)).mono fun e w' ⟨he, hw⟩ => ⟨?_, hw⟩
    rw [he, List.take_length, List.contains_iff_mem.2 hm]
end Go.Proofs.YtjipmjimggggbaaDoor.litsVars
