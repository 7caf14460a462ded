/- A trail that is none: every call on it. -/
import Derived.Test.YtdeedmfofjdbjaaTrRange
import Derived.Test.YtdeedmfofjdbjaaTrBack
namespace Go.Proofs.Ytdeedmfofjdbjaa
open Go.RowKit Go.ChangeAt Go.ChangeShapes Go.WideShapes

abbrev zeroT : Array Value := #[.slice none 0 0, .slice none 0 0, .slice none 0 0]
def NoTrail (w : World) (p : Option Addr) : Prop := p = none ∨ ∃ g, p = some ⟨g, 0, none⟩ ∧ Whole w g 41 zeroT
theorem NoTrail.on {w w' : World} {p : Option Addr} (h : NoTrail w p) (hb : Below w.heap.size w w') : NoTrail w' p := by
  rcases h with rfl | ⟨g, rfl, hw⟩
  · exact .inl rfl
  · exact .inr ⟨g, rfl, hw.same (hb.block g hw.lt)⟩
set_option maxHeartbeats 400000 in
theorem exists_none {p : Option Addr} (w : World) (h : NoTrail w p) : Calls Try.prog 39 #[.pointer p] w fun e w' => e = .returned (.bool false) ∧ w = w' := by
  rcases h with rfl | ⟨g, rfl, hw⟩
  · go_enter Try.func39, Try.ntmps39
    go_wp2
    go_ret
    exact ⟨rfl, rfl⟩
  · have h0 : w.cell? ⟨g, 0, none⟩ = some (.slice none 0 0) := hw.cell 0
    clear hw
    go_enter Try.func39, Try.ntmps39
    go_wp2
    go_ret
    exact ⟨rfl, rfl⟩
section
variable {p : Option Addr} {w : World}
set_option maxHeartbeats 400000 in
theorem orEmpty_none (h : NoTrail w p) : Calls Try.prog 41 #[.pointer p] w fun e w' => e = .returned (.pointer (some ⟨w.heap.size, 0, none⟩)) ∧ w' = w.alloc (.cells zeroT 41) := by
  have HA := Lib.hid h; clear h
  go_enter Try.func41, Try.ntmps41
  go_wp2_with (go_at_call 39; refine (exists_none _ HA.out).mono ?_; rintro e w' ⟨rfl, rfl⟩)
  go_ret
  exact ⟨rfl, rfl⟩
set_option maxHeartbeats 400000 in
theorem now_none (h : NoTrail w p) : Calls Try.prog 15 #[.pointer p] w fun e w' => e = .returned (.int .i64 0) ∧ Below w.heap.size w w' := by
  have HA := Lib.hid (orEmpty_none h); clear h
  go_enter Try.func15, Try.ntmps15
  go_wp2_with (go_at_call 41; refine (HA.out).mono ?_; rintro e w' ⟨rfl, rfl⟩)
  go_ret
  exact ⟨rfl, below1a _ _⟩
set_option maxHeartbeats 400000 in
theorem len_none (h : NoTrail w p) : Calls Try.prog 18 #[.pointer p] w fun e w' => e = .returned (.int .i64 0) ∧ Below w.heap.size w w' := by
  have HA := Lib.hid (orEmpty_none h); clear h
  go_enter Try.func18, Try.ntmps18
  go_wp2_with (go_at_call 41; refine (HA.out).mono ?_; rintro e w' ⟨rfl, rfl⟩)
  go_ret
  exact ⟨rfl, below1a _ _⟩
set_option maxHeartbeats 400000 in
theorem vars_none (h : NoTrail w p) : Calls Try.prog 27 #[.pointer p] w fun e w' => e = .returned (.int .i64 0) ∧ w = w' := by
  have HA := Lib.hid h; clear h
  go_enter Try.func27, Try.ntmps27
  go_wp2_with (go_at_call 39; refine (exists_none _ HA.out).mono ?_; rintro e w' ⟨rfl, rfl⟩)
  go_ret
  exact ⟨rfl, rfl⟩
set_option maxHeartbeats 400000 in
theorem has_none (h : NoTrail w p) (v : Int) : Calls Try.prog 42 #[.pointer p, .int .i64 v] w fun e w' => e = .returned (.bool false) ∧ w = w' := by
  have HA := Lib.hid h; clear h
  by_cases h1 : 1 ≤ v
  · have h0 : ¬ v ≤ 0 := by omega
    go_enter Try.func42, Try.ntmps42
    go_wp2_with (go_at_call 27; refine (vars_none HA.out).mono ?_; rintro e w' ⟨rfl, rfl⟩)
    go_ret
    exact ⟨congrArg (fun b => Ending.returned (.bool b)) (decide_eq_false (by omega : ¬ v ≤ 0)), rfl⟩
  · go_enter Try.func42, Try.ntmps42
    go_wp2_with fail
    go_ret
    exact ⟨rfl, rfl⟩
set_option maxHeartbeats 1000000 in
theorem at_none (h : NoTrail w p) (v : Int) : Calls Try.prog 44 #[.pointer p, .int .i64 v] w fun r w' => r = .returned (.agg #[.int .i64 0, .int .i64 0, .int .i64 0, .int .i64 0]) ∧ Below w.heap.size w w' := by
  have HA := Lib.hid h; clear h
  go_enter Try.func44, Try.ntmps44
  go_wp2_with (go_at_call 42; refine (has_none (HA.out.on (below1a _ _)) _).mono ?_; rintro e w' ⟨rfl, rfl⟩)
  exact bodyPost_ret (v := .agg #[.int .i64 0, .int .i64 0, .int .i64 0, .int .i64 0]) (by simp [results, Try.results44, go_sem]) rfl ⟨rfl, below1a _ _⟩
set_option maxHeartbeats 1000000 in
theorem value_none (h : NoTrail w p) (l : Int) : Calls Try.prog 26 #[.pointer p, .int .i64 l] w fun r w' => r = .returned (.int .i64 0) ∧ Below w.heap.size w w' := by
  have HF := Lib.hid (at_none h (varI l)); clear h
  have hfd : ∀ (a b c d : Int) (w : World), (Instr.field 80 (.agg #[.int .i64 a, .int .i64 b, .int .i64 c, .int .i64 d]) 0).run Try.prog w = .ok (.int .i64 a) w := fun _ _ _ _ _ => by kernel_rfl
  go_enter Try.func26, Try.ntmps26
  go_wp2_with (first
    | (go_at_call 31; refine (var_any _ _).mono ?_; rintro e w' ⟨rfl, rfl⟩)
    | (go_at_call 44; refine (HF.out).mono ?_; rintro e w1 ⟨rfl, hB⟩))
  go_ret
  exact ⟨rfl, hB⟩
set_option maxHeartbeats 1000000 in
theorem level_none (h : NoTrail w p) (v : Int) : Calls Try.prog 21 #[.pointer p, .int .i64 v] w fun r w' => r = .returned (.tuple #[.int .i64 0, .bool false]) ∧ Below w.heap.size w w' := by
  have HF := Lib.hid (at_none h v); clear h
  go_enter Try.func21, Try.ntmps21
  go_wp2_with (go_at_call 44; refine (HF.out).mono ?_; rintro e w1 ⟨rfl, hB⟩)
  go_quiet (fail)
  go_wp2
  go_ret2
  exact ⟨rfl, below_drewN (hB.alloc hB.size _) _⟩
set_option maxHeartbeats 1000000 in
theorem reason_none (h : NoTrail w p) (v : Int) : Calls Try.prog 22 #[.pointer p, .int .i64 v] w fun r w' => r = .returned (.tuple #[.int .i64 0, .bool false]) ∧ Below w.heap.size w w' := by
  have HF := Lib.hid (at_none h v); clear h
  go_enter Try.func22, Try.ntmps22
  go_wp2_with (go_at_call 44; refine (HF.out).mono ?_; rintro e w1 ⟨rfl, hB⟩)
  go_quiet (fail)
  go_wp2
  go_ret2
  exact ⟨rfl, below_drewN (hB.alloc hB.size _) _⟩
set_option maxHeartbeats 1000000 in
theorem place_none (h : NoTrail w p) (v : Int) : Calls Try.prog 23 #[.pointer p, .int .i64 v] w fun r w' => r = .returned (.tuple #[.int .i64 0, .bool false]) ∧ Below w.heap.size w w' := by
  have HF := Lib.hid (at_none h v); clear h
  go_enter Try.func23, Try.ntmps23
  go_wp2_with (go_at_call 44; refine (HF.out).mono ?_; rintro e w1 ⟨rfl, hB⟩)
  go_quiet (fail)
  go_wp2
  go_ret2
  exact ⟨rfl, below_drewN (hB.alloc hB.size _) _⟩
set_option maxHeartbeats 400000 in
theorem check_none (h : NoTrail w p) (v : Int) : Calls Try.prog 43 #[.pointer p, .int .i64 v] w fun e w' => e = .returned (.int .i64 1) ∧ w = w' := by
  have HA := Lib.hid h; clear h
  go_enter Try.func43, Try.ntmps43
  go_wp2_with (go_at_call 39; refine (exists_none _ HA.out).mono ?_; rintro e w' ⟨rfl, rfl⟩)
  go_ret
  exact ⟨rfl, rfl⟩
set_option maxHeartbeats 400000 in
theorem atp_none (h : NoTrail w p) (v : Int) : Calls Try.prog 19 #[.pointer p, .int .i64 v] w fun e w' => e = .returned (.tuple #[.int .i64 0, .int .i64 1]) ∧ w = w' := by
  have HA := Lib.hid h; clear h
  go_enter Try.func19, Try.ntmps19
  go_wp2_with (go_at_call 39; refine (exists_none _ HA.out).mono ?_; rintro e w' ⟨rfl, rfl⟩)
  go_ret2
  exact ⟨rfl, rfl⟩
set_option maxHeartbeats 400000 in
theorem start_none (h : NoTrail w p) (v : Int) : Calls Try.prog 20 #[.pointer p, .int .i64 v] w fun e w' => e = .returned (.tuple #[.int .i64 0, .int .i64 1]) ∧ w = w' := by
  have HA := Lib.hid (check_none h v); clear h
  go_enter Try.func20, Try.ntmps20
  go_wp2_with (go_at_call 43; refine (HA.out).mono ?_; rintro e w' ⟨rfl, rfl⟩)
  go_ret2
  exact ⟨rfl, rfl⟩
set_option maxHeartbeats 400000 in
theorem back_none (h : NoTrail w p) (v : Int) : Calls Try.prog 17 #[.pointer p, .int .i64 v] w fun e w' => e = .returned (.int .i64 1) ∧ w = w' := by
  have HA := Lib.hid (check_none h v); clear h
  go_enter Try.func17, Try.ntmps17
  go_wp2_with (go_at_call 43; refine (HA.out).mono ?_; rintro e w' ⟨rfl, rfl⟩)
  go_ret
  exact ⟨rfl, rfl⟩
set_option maxHeartbeats 400000 in
theorem push_none (h : NoTrail w p) : Calls Try.prog 14 #[.pointer p] w fun e w' => e = .returned (.int .i64 1) ∧ w = w' := by
  have HA := Lib.hid h; clear h
  go_enter Try.func14, Try.ntmps14
  go_wp2_with (go_at_call 39; refine (exists_none _ HA.out).mono ?_; rintro e w' ⟨rfl, rfl⟩)
  go_ret
  exact ⟨rfl, rfl⟩
set_option maxHeartbeats 400000 in
theorem assign_none (h : NoTrail w p) (l r : Int) : Calls Try.prog 16 #[.pointer p, .int .i64 l, .int .i64 r] w fun e w' => e = .returned (.int .i64 1) ∧ w = w' := by
  have HA := Lib.hid h; clear h
  go_enter Try.func16, Try.ntmps16
  go_wp2_with (first
    | (go_at_call 31; refine (var_any _ _).mono ?_; rintro e w' ⟨rfl, rfl⟩)
    | (go_at_call 39; refine (exists_none _ HA.out).mono ?_; rintro e w' ⟨rfl, rfl⟩))
  go_ret
  exact ⟨rfl, rfl⟩
end
set_option maxRecDepth 100000 in
set_option maxHeartbeats 1000000 in
/-- The walk over none: it yields nothing. -/
theorem lits1_none {p : Option Addr} {w : World} (h : NoTrail w p) (bf bt l : Nat) (hf : w.cell? ⟨bf, 0, none⟩ = some (.int .i64 0)) (hb : w.cell? ⟨bt, 0, none⟩ = some (.pointer p)) : Calls Try.prog 45 #[.func (.yield l) #[] #[], .pointer (some ⟨bf, 0, none⟩), .pointer (some ⟨bt, 0, none⟩)] w fun e w' => (∃ v, e = .returned v) ∧ Below w.heap.size w w' := by
  have HL := Lib.hid (len_none h); clear h
  go_enter Try.func45, Try.ntmps45
  go_wp2_with fail
  go_loopw [4] (fun i wr => i = .int .i64 0 ∧ wr = w) (fun _ _ => 0)
  case atStart => exact ⟨rfl, rfl⟩
  case round =>
    obtain ⟨rfl, rfl⟩ := hrel
    go_wp2_with (go_at_call 18; refine (HL.out).mono ?_; rintro e w1 ⟨rfl, hB⟩)
    go_end0
    exact ⟨⟨_, rfl⟩, hB⟩
set_option maxRecDepth 100000 in
set_option maxHeartbeats 1000000 in
theorem down1_none (m : Nat) (hm : 1 ≤ m) {p : Option Addr} {w : World} (h : NoTrail w p) (bt l : Nat) (hb : w.cell? ⟨bt, 0, none⟩ = some (.pointer p)) : CallsIn .wide m Try.prog 46 #[.func (.yield l) #[] #[], .pointer (some ⟨bt, 0, none⟩)] w fun e w' => (∃ v, e = .returned v) ∧ Below w.heap.size w w' := by
  have HL := Lib.hid (len_none h); clear h
  refine callsIn_of_wp Try.func46 rfl trivial ?_ rfl
  simp only [Try.ntmps46, List.size_toArray, List.length_cons, List.length_nil, Nat.reduceAdd, Nat.reduceSub, Array.replicate_succ, Array.replicate_zero, List.push_toArray, List.append_toArray, List.nil_append, List.cons_append]
  gi_wp2_with fail
  refine wpIn_scope_straight (wpIn_seq (wpIn_label ?_))
  gi_wp2_with (refine ⟨trivial, ?_⟩; gi_at_call 18; refine (callsIn_wide.2 HL.out).mono ?_; rintro e w1 ⟨rfl, hB⟩)
  gi_loopw [3] (fun i wr => i = .int .i64 (-1) ∧ wr = w1) (fun _ _ => 0)
  case atStart => exact ⟨rfl, rfl⟩
  case round =>
    obtain ⟨rfl, rfl⟩ := hrel
    gi_wp2_with fail
    try rw [Exit.noGoto_normal]
    go_end0
    exact ⟨⟨_, rfl⟩, hB⟩
theorem range_lits_none {n : Nat} {gop : Operand} {ps : Array Tmp} {assign body : Code} {Q : Exit → Act → World → Prop} {a : Act} {w : World} {bf bt : Nat} {p : Option Addr}
    (hg : a.eval gop = .func (.func 45) #[] #[.pointer (some ⟨bf, 0, none⟩), .pointer (some ⟨bt, 0, none⟩)]) (eg : ∀ args w, (callFunc 45 args).run Try.prog w = .ok (.enter 45 args) w)
    (h : NoTrail w p) (hf : Whole w bf 3 #[.int .i64 0]) (hb : Whole w bt 28 #[.pointer p])
    (hdone : ∀ (D : Nat) (W : World), w.heap.size ≤ D → Below w.heap.size w W → W.heap[D]? = some (.deferred (some [])) → Q .normal { a with defers := { target := .collected D, args := #[] } :: a.defers } W) :
    (Code.rangeFunc gop ps assign body).wpIn .wide n Try.prog Q a w := by
  refine wide_range (α := Unit) (β := Unit) hg eg (fun _ W => Below w.heap.size w W) (fun _ _ => False) (fun _ => steady_below' w (Nat.le_refl _)) (fun _ => steady_true False) () (Below.refl _ _)
    (fun _ W _ W' => Below W.heap.size W W') (fun _ _ W W' k i => i.trans (k.mono i.size)) (fun _ _ _ _ k => Odd.of_below k) (fun _ _ _ _ => False) (fun _ _ _ => steady_true False) (fun _ _ _ => True) (fun _ => True) (fun _ _ _ _ h => h.elim) ?_
    (fun _ => a) (fun _ _ _ _ _ _ h _ => h.elim) (fun _ _ _ _ _ _ h => h.elim) (fun D _ W hD _ hB hd => hdone D W hD hB hd) (fun _ _ _ _ h => h.elim)
  intro l J Jx W hJ hJx hJI hs0 hY
  have hB := hJI () W hs0
  refine callsIn_wide.2 ((lits1_none (h.on hB) bf bt l ((hB.cell (p := ⟨bf, 0, none⟩) hf.lt).trans (hf.cell 0)) ((hB.cell (p := ⟨bt, 0, none⟩) hb.lt).trans (hb.cell 0))).mono fun e W' ⟨he, hb'⟩ => ⟨he, .inl ⟨(), trivial, hJ () () W W' hb' hs0⟩⟩)
theorem range_down_none {n : Nat} (hn : 2 ≤ n) {gop : Operand} {ps : Array Tmp} {assign body : Code} {Q : Exit → Act → World → Prop} {a : Act} {w : World} {bt : Nat} {p : Option Addr}
    (hg : a.eval gop = .func (.func 46) #[] #[.pointer (some ⟨bt, 0, none⟩)]) (eg : ∀ args w, (callFunc 46 args).run Try.prog w = .ok (.enter 46 args) w)
    (h : NoTrail w p) (hb : Whole w bt 28 #[.pointer p])
    (hdone : ∀ (D : Nat) (W : World), w.heap.size ≤ D → Below w.heap.size w W → W.heap[D]? = some (.deferred (some [])) → Q .normal { a with defers := { target := .collected D, args := #[] } :: a.defers } W) :
    (Code.rangeFunc gop ps assign body).wpIn .wide n Try.prog Q a w := by
  refine wide_range (α := Unit) (β := Unit) hg eg (fun _ W => Below w.heap.size w W) (fun _ _ => False) (fun _ => steady_below' w (Nat.le_refl _)) (fun _ => steady_true False) () (Below.refl _ _)
    (fun _ W _ W' => Below W.heap.size W W') (fun _ _ W W' k i => i.trans (k.mono i.size)) (fun _ _ _ _ k => Odd.of_below k) (fun _ _ _ _ => False) (fun _ _ _ => steady_true False) (fun _ _ _ => True) (fun _ => True) (fun _ _ _ _ h => h.elim) ?_
    (fun _ => a) (fun _ _ _ _ _ _ h _ => h.elim) (fun _ _ _ _ _ _ h => h.elim) (fun D _ W hD _ hB hd => hdone D W hD hB hd) (fun _ _ _ _ h => h.elim)
  intro l J Jx W hJ hJx hJI hs0 hY
  have hB := hJI () W hs0
  refine ((down1_none (n - 1) (by omega) (h.on hB) bt l ((hB.cell (p := ⟨bt, 0, none⟩) hb.lt).trans (hb.cell 0))).mono fun e W' ⟨he, hb'⟩ => ⟨he, .inl ⟨(), trivial, hJ () () W W' hb' hs0⟩⟩)
end Go.Proofs.Ytdeedmfofjdbjaa
