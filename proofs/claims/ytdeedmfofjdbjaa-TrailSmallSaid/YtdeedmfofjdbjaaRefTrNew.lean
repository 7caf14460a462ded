/- The reference's New; and what Assign and Back answer where they refuse. -/
import Derived.Test.YtdeedmfofjdbjaaRefTr
import Derived.Test.YtdeedmfofjdbjaaAppend3
import Derived.Test.YtdeedmfofjdbjaaAppend2
namespace Go.Proofs.Ytdeedmfofjdbjaa
open Go.RowKit Go.ChangeAt Go.ChangeShapes Go.WideShapes Go.Sort
theorem Whole.store4 {w : World} {b : Nat} {t : TypeId} {u0 u1 u2 u3 : Value} (x : Whole w b t #[u0, u1, u2, u3]) (v0 v1 v2 v3 : Value) :
    (w.cell? ⟨b, 0, none⟩ = some u0 ∧ w.frozen? ⟨b, 0, none⟩ = false) ∧
    ((w.setCell ⟨b, 0, none⟩ v0).cell? ⟨b, 1, none⟩ = some u1 ∧ (w.setCell ⟨b, 0, none⟩ v0).frozen? ⟨b, 1, none⟩ = false) ∧
    (((w.setCell ⟨b, 0, none⟩ v0).setCell ⟨b, 1, none⟩ v1).cell? ⟨b, 2, none⟩ = some u2 ∧ ((w.setCell ⟨b, 0, none⟩ v0).setCell ⟨b, 1, none⟩ v1).frozen? ⟨b, 2, none⟩ = false) ∧
    ((((w.setCell ⟨b, 0, none⟩ v0).setCell ⟨b, 1, none⟩ v1).setCell ⟨b, 2, none⟩ v2).cell? ⟨b, 3, none⟩ = some u3 ∧ (((w.setCell ⟨b, 0, none⟩ v0).setCell ⟨b, 1, none⟩ v1).setCell ⟨b, 2, none⟩ v2).frozen? ⟨b, 3, none⟩ = false) ∧
    Whole ((((w.setCell ⟨b, 0, none⟩ v0).setCell ⟨b, 1, none⟩ v1).setCell ⟨b, 2, none⟩ v2).setCell ⟨b, 3, none⟩ v3) b t #[v0, v1, v2, v3] := by
  have y1 := x.store 0 v0
  have y2 := y1.store 1 v1
  have y3 := y2.store 2 v2
  have y4 := y3.store 3 v3
  exact ⟨⟨x.cell 0, x.frozen 0⟩, ⟨y1.cell 1, y1.frozen 1⟩, ⟨y2.cell 2, y2.frozen 2⟩, ⟨y3.cell 3, y3.frozen 3⟩, y4⟩
theorem Whole.at_other {w : World} {b c : Nat} {t : TypeId} {cs : Array Value} (h : Whole w b t cs) (hne : b ≠ c) (i : Nat) (u : Value) : Whole (w.setCell ⟨c, i, none⟩ u) b t cs := h.same (Below.heap_setCell _ _ _ _ hne)

set_option maxRecDepth 100000 in
set_option maxHeartbeats 2000000 in
theorem new_ref (nv : Int) (w : World) : Calls Try.prog 34 #[.int .i64 nv] w fun r w' =>
    ∃ sv, r = .returned (refT nv 0 (.slice none 0 0) sv) ∧ w'.ownsRow w.heap.size 3 1 sv 1 [.int .i64 0] ∧ Below w.heap.size w w' := by
  go_enter Try.func34, Try.ntmps34
  go_wp2_with fail
  have b1 := below1a w (.cells #[.int .i64 nv, .int .i64 0, .slice none 0 0, .slice (some ⟨w.heap.size + 1, 0, none⟩) 1 1] 69)
  have b2 := below1a (w.alloc (.cells #[.int .i64 nv, .int .i64 0, .slice none 0 0, .slice (some ⟨w.heap.size + 1, 0, none⟩) 1 1] 69)) (.cells #[.int .i64 0] 3)
  have m1 := (Whole.made w 69 #[.int .i64 nv, .int .i64 0, .slice none 0 0, .slice (some ⟨w.heap.size + 1, 0, none⟩) 1 1]).same (b2.block _ (by simp))
  have r := World.ownsRow_lit (base := w.heap.size) (size := 1) (e := 3) (w.alloc (.cells #[.int .i64 nv, .int .i64 0, .slice none 0 0, .slice (some ⟨w.heap.size + 1, 0, none⟩) 1 1] 69)) #[.int .i64 0] 1 (by simp) (by decide) rfl
  rw [World.size_alloc] at r
  have z0 := m1.cell 0; have z1 := m1.cell 1; have z2 := m1.cell 2; have z3 := m1.cell 3
  exact bodyPost_ret (v := refT nv 0 (.slice none 0 0) (.slice (some ⟨w.heap.size + 1, 0, none⟩) 1 1)) (by simp [results, Try.results34, go_sem, refT, z0, z1, z2, z3]) rfl ⟨_, rfl, r, b1.trans (b2.mono b1.size)⟩

/-- The two blocks of a call of the reference: its argument, and what it answers. -/
theorem ref_blocks (w : World) (u0 u1 u2 u3 : Value) : Whole ((w.alloc (.cells #[u0, u1, u2, u3] 69)).alloc (.cells #[.int .i64 0, .int .i64 0, .slice none 0 0, .slice none 0 0] 69)) w.heap.size 69 #[u0, u1, u2, u3] ∧
    Whole ((w.alloc (.cells #[u0, u1, u2, u3] 69)).alloc (.cells #[.int .i64 0, .int .i64 0, .slice none 0 0, .slice none 0 0] 69)) (w.heap.size + 1) 69 #[.int .i64 0, .int .i64 0, .slice none 0 0, .slice none 0 0] ∧
    Below w.heap.size w ((w.alloc (.cells #[u0, u1, u2, u3] 69)).alloc (.cells #[.int .i64 0, .int .i64 0, .slice none 0 0, .slice none 0 0] 69)) := by
  have b1 := below1a w (.cells #[u0, u1, u2, u3] 69)
  have b2 := below1a (w.alloc (.cells #[u0, u1, u2, u3] 69)) (.cells #[.int .i64 0, .int .i64 0, .slice none 0 0, .slice none 0 0] 69)
  have m1 := (Whole.made w 69 #[u0, u1, u2, u3]).same (b2.block _ (by simp))
  have m2 := Whole.made (w.alloc (.cells #[u0, u1, u2, u3] 69)) 69 #[.int .i64 0, .int .i64 0, .slice none 0 0, .slice none 0 0]
  rw [World.size_alloc] at m2
  exact ⟨m1, m2, b1.trans (b2.mono b1.size)⟩
set_option maxRecDepth 100000 in
set_option maxHeartbeats 2000000 in
theorem back_ref_no {Ai As : Option Addr} {ni ci ns cs : Nat} (nv now lv : Int) (w : World) (hn : lv < 0 ∨ now < lv) :
    Calls Try.prog 37 #[refT nv now (.slice Ai ni ci) (.slice As ns cs), .int .i64 lv] w fun r w' => r = .returned (.tuple #[refT nv now (.slice Ai ni ci) (.slice As ns cs), .int .i64 42]) ∧ Below w.heap.size w w' := by
  unfold refT
  obtain ⟨m1, m2, bb⟩ := ref_blocks w (.int .i64 nv) (.int .i64 now) (.slice Ai ni ci) (.slice As ns cs)
  obtain ⟨w1, hw1⟩ : ∃ y, (w.alloc (.cells #[.int .i64 nv, .int .i64 now, .slice Ai ni ci, .slice As ns cs] 69)).alloc (.cells #[.int .i64 0, .int .i64 0, .slice none 0 0, .slice none 0 0] 69) = y := ⟨_, rfl⟩
  rw [hw1] at m1 m2 bb
  have c0 := m1.cell 0; have c1 := m1.cell 1; have c2 := m1.cell 2; have c3 := m1.cell 3
  obtain ⟨⟨d0, f0⟩, ⟨d1, f1⟩, ⟨d2, f2⟩, ⟨d3, f3⟩, y⟩ := m2.store4 (.int .i64 nv) (.int .i64 now) (.slice Ai ni ci) (.slice As ns cs)
  have z0 := y.cell 0; have z1 := y.cell 1; have z2 := y.cell 2; have z3 := y.cell 3
  have hbf := (((bb.setCell (p := ⟨w.heap.size + 1, 0, none⟩) (Nat.le_succ _) (.int .i64 nv)).setCell (p := ⟨w.heap.size + 1, 1, none⟩) (Nat.le_succ _) (.int .i64 now)).setCell (p := ⟨w.heap.size + 1, 2, none⟩) (Nat.le_succ _) (.slice Ai ni ci)).setCell (p := ⟨w.heap.size + 1, 3, none⟩) (Nat.le_succ _) (.slice As ns cs)
  have HBf := Lib.hid hbf; have Z0 := Lib.hid z0; have Z1 := Lib.hid z1; have Z2 := Lib.hid z2; have Z3 := Lib.hid z3
  clear m1 m2 bb y hbf z0 z1 z2 z3
  rcases Int.lt_or_le lv 0 with h0 | h0
  all_goals
    try have h1 : now < lv := by omega
    clear hn
    go_enter Try.func37, Try.ntmps37
    go_wp2_with fail
    exact bodyPost_ret (v := .tuple #[.agg #[.int .i64 nv, .int .i64 now, .slice Ai ni ci, .slice As ns cs], .int .i64 42]) (by simp [results, Try.results37, go_sem, Z0.out, Z1.out, Z2.out, Z3.out]) rfl ⟨rfl, HBf.out⟩
end Go.Proofs.Ytdeedmfofjdbjaa
