/- An arena that is none: every call on it. -/
import Derived.Test.YtjkhhnfmefbohaaArRange
namespace Go.Proofs.Ytjkhhnfmefbohaa
open Go.RowKit Go.ChangeAt Go.ChangeShapes Go.WideShapes

abbrev zeroC : Array Value := #[.slice none 0 0, .slice none 0 0, .map none, .int .i64 0, .int .i64 0]
theorem NoArena.on {w w' : World} {p : Option Addr} (h : NoArena w p) (hb : Below w.heap.size w w') : NoArena w' p := by
  rcases h with rfl | ⟨g, rfl, hw⟩
  · exact .inl rfl
  · exact .inr ⟨g, rfl, hw.same (hb.block g hw.lt)⟩
set_option maxHeartbeats 400000 in
theorem exists_none {p : Option Addr} (w : World) (h : NoArena w p) : Calls Try.prog 35 #[.pointer p] w fun e w' => e = .returned (.bool false) ∧ w = w' := by
  rcases h with rfl | ⟨g, rfl, hw⟩
  · go_enter Try.func35, Try.ntmps35
    go_wp2
    go_ret
    exact ⟨rfl, rfl⟩
  · have h2 : w.cell? ⟨g, 2, none⟩ = some (.map none) := hw.cell 2
    have hm := fun W => run_neq_map_nil (P := Try.prog) W 38 _ _ none Try.underlying38
    clear hw
    go_enter Try.func35, Try.ntmps35
    go_wp2
    go_ret
    exact ⟨rfl, rfl⟩
set_option maxHeartbeats 1000000 in
theorem find_none {p : Option Addr} (id : Int) (w : World) (h : NoArena w p) : Calls Try.prog 37 #[.pointer p, .int .i64 id] w fun r w' =>
    r = .returned (.tuple #[.agg #[.int .i64 0, .int .i64 0, .int .i64 0], .int .i64 1]) ∧ Below w.heap.size w w' := by
  have HA := Lib.hid h
  clear h
  go_enter Try.func37, Try.ntmps37
  go_wp2_with (go_at_call 35; refine (exists_none _ (HA.out.on (below1a _ _))).mono ?_; rintro e w' ⟨rfl, rfl⟩)
  exact bodyPost_ret (v := .tuple #[.agg #[.int .i64 0, .int .i64 0, .int .i64 0], .int .i64 1]) (by simp [results, Try.results37, go_sem]) rfl ⟨rfl, (Below.refl _ _).alloc (Nat.le_refl _) _⟩
section
variable {p : Option Addr} {w : World}
set_option maxHeartbeats 400000 in
theorem has_none (h : NoArena w p) (id : Int) : Calls Try.prog 21 #[.pointer p, .int .i64 id] w fun r w' => r = .returned (.bool false) ∧ Below w.heap.size w w' := by
  have HF := Lib.hid (find_none id w h); clear h
  go_enter Try.func21, Try.ntmps21
  go_wp2_with (go_at_call 37; refine (HF.out).mono ?_; rintro e w1 ⟨rfl, hB⟩)
  go_ret
  exact ⟨rfl, hB.alloc hB.size _⟩
set_option maxHeartbeats 400000 in
theorem get_none (h : NoArena w p) (id : Int) : Calls Try.prog 17 #[.pointer p, .int .i64 id] w fun r w' => r = .returned (.tuple #[.slice none 0 0, .int .i64 1]) ∧ Below w.heap.size w w' := by
  have HF := Lib.hid (find_none id w h); clear h
  go_enter Try.func17, Try.ntmps17
  go_wp2_with (go_at_call 37; refine (HF.out).mono ?_; rintro e w1 ⟨rfl, hB⟩)
  go_ret2
  exact ⟨rfl, hB.alloc hB.size _⟩
set_option maxHeartbeats 400000 in
theorem len_none (h : NoArena w p) (id : Int) : Calls Try.prog 18 #[.pointer p, .int .i64 id] w fun r w' => r = .returned (.tuple #[.int .i64 0, .int .i64 1]) ∧ Below w.heap.size w w' := by
  have HF := Lib.hid (find_none id w h); clear h
  go_enter Try.func18, Try.ntmps18
  go_wp2_with (go_at_call 37; refine (HF.out).mono ?_; rintro e w1 ⟨rfl, hB⟩)
  go_ret2
  exact ⟨rfl, hB.alloc hB.size _⟩
set_option maxHeartbeats 400000 in
theorem lit_none (h : NoArena w p) (id i : Int) : Calls Try.prog 19 #[.pointer p, .int .i64 id, .int .i64 i] w fun r w' => r = .returned (.tuple #[.int .i64 0, .int .i64 1]) ∧ Below w.heap.size w w' := by
  have HF := Lib.hid (find_none id w h); clear h
  go_enter Try.func19, Try.ntmps19
  go_wp2_with (go_at_call 37; refine (HF.out).mono ?_; rintro e w1 ⟨rfl, hB⟩)
  go_ret2
  exact ⟨rfl, hB.alloc hB.size _⟩
set_option maxHeartbeats 400000 in
theorem del_none (h : NoArena w p) (id : Int) : Calls Try.prog 15 #[.pointer p, .int .i64 id] w fun r w' => r = .returned (.int .i64 1) ∧ Below w.heap.size w w' := by
  have HF := Lib.hid (find_none id w h); clear h
  go_enter Try.func15, Try.ntmps15
  go_wp2_with (go_at_call 37; refine (HF.out).mono ?_; rintro e w1 ⟨rfl, hB⟩)
  go_ret
  exact ⟨rfl, hB.alloc hB.size _⟩
set_option maxRecDepth 100000 in
set_option maxHeartbeats 400000 in
theorem add_none (h : NoArena w p) (id : Int) (cv : Value) : Calls Try.prog 14 #[.pointer p, .int .i64 id, cv] w fun r w' => r = .returned (.int .i64 1) ∧ Below w.heap.size w w' := by
  have HA := Lib.hid h; clear h
  go_enter Try.func14, Try.ntmps14
  go_wp2_with (go_at_call 35; refine (exists_none _ HA.out).mono ?_; rintro e w' ⟨rfl, rfl⟩)
  go_ret
  exact ⟨rfl, Below.refl _ _⟩
set_option maxHeartbeats 400000 in
theorem orEmpty_none (h : NoArena w p) : Calls Try.prog 40 #[.pointer p] w fun e w' => e = .returned (.pointer (some ⟨w.heap.size, 0, none⟩)) ∧ w' = w.alloc (.cells zeroC 40) := by
  have HA := Lib.hid h; clear h
  go_enter Try.func40, Try.ntmps40
  go_wp2_with (go_at_call 35; refine (exists_none _ HA.out).mono ?_; rintro e w' ⟨rfl, rfl⟩)
  go_ret
  exact ⟨rfl, rfl⟩
set_option maxHeartbeats 400000 in
theorem count_none (h : NoArena w p) : Calls Try.prog 22 #[.pointer p] w fun e w' => e = .returned (.int .i64 0) ∧ Below w.heap.size w w' := by
  have HA := Lib.hid (orEmpty_none h); clear h
  go_enter Try.func22, Try.ntmps22
  go_wp2_with (go_at_call 40; refine (HA.out).mono ?_; rintro e w' ⟨rfl, rfl⟩)
  go_ret
  exact ⟨rfl, below1a _ _⟩
set_option maxHeartbeats 400000 in
theorem used_none (h : NoArena w p) : Calls Try.prog 16 #[.pointer p] w fun e w' => e = .returned (.int .i64 0) ∧ Below w.heap.size w w' := by
  have HA := Lib.hid (orEmpty_none h); clear h
  go_enter Try.func16, Try.ntmps16
  go_wp2_with (go_at_call 40; refine (HA.out).mono ?_; rintro e w' ⟨rfl, rfl⟩)
  go_ret
  exact ⟨rfl, below1a _ _⟩
set_option maxHeartbeats 400000 in
theorem held_none (h : NoArena w p) : Calls Try.prog 23 #[.pointer p] w fun e w' => e = .returned (.int .i64 0) ∧ Below w.heap.size w w' := by
  have HA := Lib.hid (orEmpty_none h); clear h
  go_enter Try.func23, Try.ntmps23
  go_wp2_with (go_at_call 40; refine (HA.out).mono ?_; rintro e w' ⟨rfl, rfl⟩)
  go_ret
  exact ⟨rfl, below1a _ _⟩
set_option maxHeartbeats 400000 in
theorem last_none (h : NoArena w p) : Calls Try.prog 24 #[.pointer p] w fun e w' => e = .returned (.int .i64 0) ∧ Below w.heap.size w w' := by
  have HA := Lib.hid (orEmpty_none h); clear h
  go_enter Try.func24, Try.ntmps24
  go_wp2_with (go_at_call 40; refine (HA.out).mono ?_; rintro e w' ⟨rfl, rfl⟩)
  go_ret
  exact ⟨rfl, below1a _ _⟩
end
set_option maxRecDepth 100000 in
set_option maxHeartbeats 1000000 in
/-- The walk over none: it yields nothing. -/
theorem all1_none {p : Option Addr} {w : World} (h : NoArena w p) (bx l : Nat) (hb : w.cell? ⟨bx, 0, none⟩ = some (.pointer p)) : Calls Try.prog 43 #[.func (.yield l) #[] #[], .pointer (some ⟨bx, 0, none⟩)] w fun e w' => (∃ v, e = .returned v) ∧ Below w.heap.size w w' := by
  have HA := Lib.hid (orEmpty_none h); clear h
  have z1 : (w.alloc (.cells zeroC 40)).cell? ⟨w.heap.size, 1, none⟩ = some (.slice none 0 0) := (Whole.made w 40 zeroC).cell 1
  go_enter Try.func43, Try.ntmps43
  go_wp2_with (go_at_call 40; refine (HA.out).mono ?_; rintro e w' ⟨rfl, rfl⟩)
  go_loopw [4] (fun i wr => i = .int .i64 0 ∧ wr = w.alloc (.cells zeroC 40)) (fun _ _ => 0)
  case atStart => exact ⟨rfl, rfl⟩
  case round =>
    obtain ⟨rfl, rfl⟩ := hrel
    go_wp2_with fail
    go_end0
    exact ⟨⟨_, rfl⟩, below1a _ _⟩
end Go.Proofs.Ytjkhhnfmefbohaa
