/- The walk of ArenaYields. -/
import Derived.Test.YtjkhhnfmefbohaaBeside
import Derived.Test.YtjkhhnfmefbohaaYieldMath
import Derived.Test.YtjkhhnfmefbohaaEqualInt
namespace Go.Proofs.Ytjkhhnfmefbohaa.arenaYields
open Go.RowKit Go.ChangeAt Go.ChangeShapes Go.WideShapes

attribute [local go_sem] Oper.semAt_some

theorem rows_more {k : IntKind} {B B' : Nat} (h : B ≤ B') {X : World} {v : Value} {zss : List (List Int)} : Rows2 k B X v zss → Rows2 k B' X v zss
  | .inl e => .inl e
  | .inr ⟨b, off, cap, e, hc, hb, hj⟩ => .inr ⟨b, off, cap, e, hc, by omega, fun j hlt => by
      obtain ⟨sv, h1, h2, h3⟩ := hj j hlt
      exact ⟨sv, h1, h2.more h, h3⟩⟩

theorem four (w : World) (t1 t2 t3 t4 : TypeId) (c1 c2 c3 c4 : Array Value) {y : World} (h : (((w.alloc (.cells c1 t1)).alloc (.cells c2 t2)).alloc (.cells c3 t3)).alloc (.cells c4 t4) = y) :
    Whole y w.heap.size t1 c1 ∧ Whole y (w.heap.size + 1) t2 c2 ∧ Whole y (w.heap.size + 1 + 1) t3 c3 ∧ Whole y (w.heap.size + 1 + 1 + 1) t4 c4 ∧ y.heap.size = w.heap.size + 4 ∧ Below w.heap.size w y := by
  subst h
  have a1 := Whole.made w t1 c1
  have a2 := Whole.made (w.alloc (.cells c1 t1)) t2 c2
  have a3 := Whole.made ((w.alloc (.cells c1 t1)).alloc (.cells c2 t2)) t3 c3
  have a4 := Whole.made (((w.alloc (.cells c1 t1)).alloc (.cells c2 t2)).alloc (.cells c3 t3)) t4 c4
  have b1 := below1a w (.cells c1 t1)
  have b2 := below1a (w.alloc (.cells c1 t1)) (.cells c2 t2)
  have b3 := below1a ((w.alloc (.cells c1 t1)).alloc (.cells c2 t2)) (.cells c3 t3)
  have b4 := below1a (((w.alloc (.cells c1 t1)).alloc (.cells c2 t2)).alloc (.cells c3 t3)) (.cells c4 t4)
  simp only [World.size_alloc] at a2 a3 a4
  refine ⟨((a1.same (b2.block _ a1.lt)).same (b3.block _ (by simp; omega))).same (b4.block _ (by simp; omega)), (a2.same (b3.block _ a2.lt)).same (b4.block _ (by simp)), a3.same (b4.block _ a3.lt), a4, by simp, ?_⟩
  exact b1.trans ((b2.trans ((b3.trans (b4.mono (by simp))).mono (by simp))).mono (by simp))
theorem start {K : Nat → Prop} {g : Nat} {L : List (Int × List Int)} {last : Int} {w w4 w5 : World} {t1 t2 t3 t4 : TypeId} {c1 c2 c3 c4 : Array Value} (hA : Ar K w5 g L last) (hK : ∀ i, K i → w4.heap.size ≤ i) (hB : Below w4.heap.size w4 w5)
    (h : Whole w4 w.heap.size t1 c1 ∧ Whole w4 (w.heap.size + 1) t2 c2 ∧ Whole w4 (w.heap.size + 1 + 1) t3 c3 ∧ Whole w4 (w.heap.size + 1 + 1 + 1) t4 c4 ∧ w4.heap.size = w.heap.size + 4 ∧ Below w.heap.size w w4) :
    YS [(w5.heap.size, 31, #[.pointer (some ⟨g, 0, none⟩)]), (w.heap.size, t1, c1), (w.heap.size + 1, t2, c2), (w.heap.size + 1 + 1, t3, c3), (w.heap.size + 1 + 1 + 1, t4, c4)] (w5.heap.size + 1) K g L last (.slice none 0 0) [] w
      ((w5.alloc (.cells #[.pointer (some ⟨g, 0, none⟩)] 31)).alloc (.cells #[.slice none 0 0] 25)) := by
  obtain ⟨h1, h2, h3, h4, hs, hb⟩ := h
  have hsz := hB.size
  have hkl := fun i => hA.kok.lt (i := i)
  have b1 := below1a w5 (.cells #[.pointer (some ⟨g, 0, none⟩)] 31)
  have b2 := below1a (w5.alloc (.cells #[.pointer (some ⟨g, 0, none⟩)] 31)) (.cells #[.slice none 0 0] 25)
  have bb := b1.trans (b2.mono (by simp))
  have m1 := (Whole.made w5 31 #[.pointer (some ⟨g, 0, none⟩)])
  have m2 := Whole.made (w5.alloc (.cells #[.pointer (some ⟨g, 0, none⟩)] 31)) 25 #[.slice none 0 0]
  rw [World.size_alloc] at m2
  have up : ∀ {b : Nat} {t : TypeId} {c : Array Value}, Whole w4 b t c → Whole ((w5.alloc (.cells #[.pointer (some ⟨g, 0, none⟩)] 31)).alloc (.cells #[.slice none 0 0] 25)) b t c := fun {b t c} h => by
    have := h.lt
    exact (h.same (hB.block b h.lt)).same (bb.block b (by omega))
  have off : ∀ {b : Nat}, b < w4.heap.size → ¬ K b := fun h x => by have := hK _ x; omega
  refine ⟨hA.on bb, fun x hx => ?_, ?_, m2, fun x => by have := hkl _ x; omega, fun x hx => ?_, by omega, World.ownsRow_nil _ _ _ _, fun b e => (by cases e), fun i x => by have := hK i x; omega, hb.trans ((hB.trans (bb.mono hB.size)).mono hb.size)⟩
  · simp only [List.mem_cons, List.not_mem_nil, or_false] at hx
    rcases hx with rfl | rfl | rfl | rfl | rfl
    · exact ⟨m1.same (b2.block _ m1.lt), fun x => Nat.lt_irrefl _ (hkl _ x)⟩
    · exact ⟨up h1, off h1.lt⟩
    · exact ⟨up h2, off h2.lt⟩
    · exact ⟨up h3, off h3.lt⟩
    · exact ⟨up h4, off h4.lt⟩
  · simp
    omega
  · simp only [List.mem_cons, List.not_mem_nil, or_false] at hx
    rcases hx with rfl | rfl | rfl | rfl | rfl <;> simp <;> omega

/-! ### the first loop -/
def I1 (S : List Blk) (fb g : Nat) (zss : List (List Int)) (n : Nat) (st : Int) (w : World) (s : AllS) (W : World) : Prop :=
  ∃ v, (Come (putL zss n) s.1 ∧ (s.1.length : Int) ≤ st) ∧ YS (boxS s.2.2 ++ S) fb s.2.1 g (putL zss n) (lastN n) v (s.1.map (·.1)) w W
def X1 (S : List Blk) (fb g : Nat) (zss : List (List Int)) (n : Nat) (st : Int) (w W : World) : Prop :=
  ∃ v K, YS S fb K g (putL zss n) (lastN n) v ((putL zss (min n st.toNat)).map (·.1)) w W
section
variable {S : List Blk} {fb g : Nat} {zss : List (List Int)} {n : Nat} {st : Int} {w : World}
theorem I1.steady {B : Nat} (hB : w.heap.size ≤ B) (s : AllS) : Steady B (I1 S fb g zss n st w s) := fun W W' row hi hg hr => by
  obtain ⟨v, h1, h2⟩ := hi
  exact ⟨v, h1, YS.steady hB W W' row h2 hg hr⟩
theorem X1.steady {B : Nat} (hB : w.heap.size ≤ B) : Steady B (X1 S fb g zss n st w) := fun W W' row hi hg hr => by
  obtain ⟨v, K, h2⟩ := hi
  exact ⟨v, K, YS.steady hB W W' row h2 hg hr⟩
theorem I1.link (s s' : AllS) (W W' : World) (h : AllLk s W s' W') (hi : I1 S fb g zss n st w s W) : I1 S fb g zss n st w s' W' := by
  obtain ⟨v, h1, h2⟩ := hi
  obtain ⟨e1, e2, e3⟩ := h
  refine ⟨v, by rw [← e1]; exact h1, ?_⟩
  rw [← e1, ← e2]
  exact h2.link e3
theorem I1.has {bx : Nat} (hb : (bx, 31, #[.pointer (some ⟨g, 0, none⟩)]) ∈ S) (s : AllS) (W : World) (hi : I1 S fb g zss n st w s W) : (∃ last, Ar s.2.1 W g (putL zss n) last) ∧ W.cell? ⟨bx, 0, none⟩ = some (.pointer (some ⟨g, 0, none⟩)) ∧ BoxOk s W := by
  obtain ⟨v, h1, h2⟩ := hi
  exact ⟨⟨_, h2.ar⟩, (h2.cells _ (List.mem_append_right _ hb)).1.cell 0, h2.box⟩
theorem come_putL {xs : List (Int × List Int)} (h : Come (putL zss n) xs) : xs.length ≤ n ∧ xs = putL zss xs.length := by
  obtain ⟨k, hk, rfl⟩ := h
  rw [putL_len] at hk
  rw [putL_take zss hk, putL_len]
  exact ⟨hk, rfl⟩
theorem I1.done {s : AllS} {W : World} (h0 : 0 ≤ st) (hi : I1 S fb g zss n st w s W) (hx : nextOf (putL zss n) (posOf s.1) = none) : X1 S fb g zss n st w W := by
  obtain ⟨v, ⟨h1, h3⟩, h2⟩ := hi
  have := h1.all (putL_inc zss n) (putL_pos zss n) hx
  rw [this, putL_len] at h3
  rw [this] at h2
  exact ⟨v, s.2.1, by rw [show min n st.toNat = n by omega]; exact h2.sub (List.sublist_append_right _ _)⟩
theorem I1.stop {s : AllS} {W : World} {v : Value} (h1 : Come (putL zss n) s.1) (h2 : YS (boxS s.2.2 ++ S) fb s.2.1 g (putL zss n) (lastN n) v (s.1.map (·.1)) w W) (h0 : (s.1.length : Int) = st) : X1 S fb g zss n st w W := by
  obtain ⟨h3, h4⟩ := come_putL h1
  refine ⟨v, s.2.1, ?_⟩
  rw [show min n st.toNat = s.1.length by omega, ← h4]
  exact h2.sub (List.sublist_append_right _ _)
end

/-! ### the second loop -/
def S2 (bq g g0 : Nat) (S : List Blk) (b : Bool) : List Blk := (bq + 1 + 1 + 1, 31, #[.pointer (some ⟨g, 0, none⟩)]) :: (bq + 1 + 1, 4, #[.bool b]) :: (bq, 3, #[.int .i64 (2 * (g0 : Int) + 1)]) :: S
theorem s2_old {bq g g0 : Nat} {S : List Blk} {b : Bool} {x : Blk} (h : x ∈ S) : x ∈ S2 bq g g0 S b := List.mem_cons_of_mem _ (List.mem_cons_of_mem _ (List.mem_cons_of_mem _ h))
theorem s2_at {o : Option (Nat × Array Value)} {bq g g0 : Nat} {S : List Blk} {b : Bool} : boxS o ++ S2 bq g g0 S b = (boxS o ++ [(bq + 1 + 1 + 1, 31, #[.pointer (some ⟨g, 0, none⟩)])]) ++ (bq + 1 + 1, 4, #[.bool b]) :: (bq, 3, #[.int .i64 (2 * (g0 : Int) + 1)]) :: S := by simp [S2]
def I2 (S : List Blk) (bq g : Nat) (zss : List (List Int)) (n a g0 D : Nat) (w : World) (s : AllS) (W : World) : Prop :=
  ∃ v, (yCome zss n a g0 s.1 ∧ W.heap[D]? = some (.deferred (some []))) ∧ YS (boxS s.2.2 ++ S2 bq g g0 S (decide (a < s.1.length))) (bq + 1) s.2.1 g (yL zss n a g0 s.1) (if s.1.length ≤ a then lastN n else 1000) v (s.1.map (·.1)) w W
theorem row_beside {W : World} {g : Nat} {t : TypeId} {cs : Array Value} (h : Whole W g t cs) {base : Nat} {e : TypeId} {size n : Nat} {v : Value} {xs : List Value} (hr : W.ownsRow base e size v n xs) (hne : t ≠ e) : v.ownBlock = none ∨ v.ownBlock ≠ some g := .inr (h.row_ne hr (fun e => hne e.symm))
section
variable {S : List Blk} {bq g : Nat} {zss : List (List Int)} {n a g0 D : Nat} {w : World}
theorem steady_old {B D : Nat} {o : Obj} (h : D < B) : Steady B fun W => W.heap[D]? = some o := fun W W' row hi hg hr =>
  (hg.block D (Array.getElem?_eq_some_iff.1 hi).1 (fun e => by have := (hr D e.symm).1; omega)).trans hi
theorem I2.steady {B : Nat} (hB : w.heap.size ≤ B) (hD : D < B) (s : AllS) : Steady B (I2 S bq g zss n a g0 D w s) := fun W W' row hi hg hr => by
  obtain ⟨v, ⟨h1, h3⟩, h2⟩ := hi
  exact ⟨v, ⟨h1, steady_old hD W W' row h3 hg hr⟩, YS.steady hB W W' row h2 hg hr⟩
theorem I2.link {B : Nat} (_ : D < B) (s s' : AllS) (W W' : World) (h : AllLk s W s' W') (hi : I2 S bq g zss n a g0 D w s W) : I2 S bq g zss n a g0 D w s' W' := by
  obtain ⟨v, ⟨h1, h3⟩, h2⟩ := hi
  have ho := h.odd
  obtain ⟨e1, e2, e3⟩ := h
  refine ⟨v, by rw [← e1]; exact ⟨h1, ho.same D _ h3 rfl⟩, ?_⟩
  rw [← e1, ← e2]
  exact h2.link e3
theorem I2.has (s : AllS) (W : World) (hi : I2 S bq g zss n a g0 D w s W) : (∃ last, Ar s.2.1 W g (yL zss n a g0 s.1) last) ∧ W.cell? ⟨bq + 1 + 1 + 1, 0, none⟩ = some (.pointer (some ⟨g, 0, none⟩)) ∧ BoxOk s W := by
  obtain ⟨v, h1, h2⟩ := hi
  exact ⟨⟨_, h2.ar⟩, (h2.cells (bq + 1 + 1 + 1, 31, #[.pointer (some ⟨g, 0, none⟩)]) (List.mem_append_right _ (by simp [S2]))).1.cell 0, h2.box⟩
theorem filter_past (zss : List (List Int)) (n g0 : Nat) (h : n ≤ g0) : (putL zss n).filter (fun p => decide (p.1 ≠ 2 * (g0 : Int) + 1)) = putL zss n := List.filter_eq_self.2 fun p hp => decide_eq_true (by
  obtain ⟨i, hi, h1, -⟩ := putL_id hp
  omega)
theorem del_put {K : Nat → Prop} {last : Int} (h : Ar K w g (putL zss n) last) (g0 : Nat) (hg : g0 < 60) : Calls Try.prog 15 #[.pointer (some ⟨g, 0, none⟩), .int .i64 (2 * (g0 : Int) + 1)] w fun r w' =>
    ∃ (e : Int) (K' : Nat → Prop), r = .returned (.int .i64 e) ∧ Ar K' w' g ((putL zss n).filter fun p => decide (p.1 ≠ 2 * (g0 : Int) + 1)) last ∧ Turn K w K' w' := by
  by_cases hn : g0 < n
  · exact (del_ok h (putL_mem zss hn)).mono fun r w' ⟨hr, K', hA, hT⟩ => ⟨0, K', hr, hA, hT⟩
  · refine (del_bad h (int_wf (by omega)) (putL_past zss n (.inr (by omega)))).mono fun r w' ⟨hr, hb⟩ => ⟨30, K, hr, ?_, Turn.of_below hb⟩
    rw [filter_past zss n g0 (by omega)]
    exact h.on hb
end
def WantRel (n a g0 : Nat) (w : World) (o i : Value) (wr : World) : Prop :=
  ∃ (k : Nat) (v : Value), o = v ∧ k ≤ n ∧ i = .int .i64 k ∧ wr.ownsRow w.heap.size 3 1 v (wantK n a g0 k).length ((wantK n a g0 k).map (Value.int .i64)) ∧ Below w.heap.size w wr
def CkRel (n : Nat) (w : World) (i : Value) (wr : World) : Prop := ∃ j : Nat, j ≤ n ∧ i = .int .i64 j ∧ Below w.heap.size w wr
set_option maxRecDepth 100000 in
set_option maxHeartbeats 8000000 in
theorem core (v : Value) (zss : List (List Int)) (st at_ go_ : Int) (hs0 : 0 ≤ st) (hs1 : st ≤ 255) (ha0 : 0 ≤ at_) (_ : at_ ≤ 255) (hg0 : 0 ≤ go_) (hg1 : go_ ≤ 255) (w : World) (hR : Rows2 .u8 w.heap.size w v zss) (hm : zss.length ≤ maxLen) (hw : ∀ zs ∈ zss, zs.length ≤ maxLen ∧ ∀ x ∈ zs, (Lit.int .u8 x).wf = true) :
    Calls Try.prog 6 #[v, .int .u8 st, .int .u8 at_, .int .u8 go_] w fun e w' => e = .returned (.bool true) ∧ Below w.heap.size w w' := by
  obtain ⟨A, cap, rfl, -, -, hc⟩ := hR.shape
  obtain ⟨n, hn⟩ : ∃ n, min zss.length 60 = n := ⟨_, rfl⟩
  have hn1 : n ≤ zss.length := by omega
  have hn2 : n ≤ 60 := by omega
  have hmin : min (zss.length : Int) 60 = (n : Int) := by omega
  have hput := fun (W : World) (hB : Below w.heap.size w W) => put_any _ zss W ((rows_more hB.size (hR.below hB))) hm hw
  rw [hn] at hput
  have HP := Lib.hid hput; have HC := Lib.hid hc; have HW := Lib.hid hw
  unfold maxLen at hm
  clear hR hw hn hput hc
  refine (callsIn_wide (n := 5)).1 ?_
  refine callsIn_of_wp_marks Try.func6 rfl trivial ?_ rfl
  simp only [Try.ntmps6, List.size_toArray, List.length_cons, List.length_nil, Nat.reduceAdd, Nat.reduceSub, Array.replicate_succ, Array.replicate_zero, List.push_toArray, List.append_toArray, List.nil_append, List.cons_append]
  gi_wp2_with fail
  refine ⟨trivial, ?_⟩
  obtain ⟨w4, hw4⟩ : ∃ y, (((w.alloc (.cells #[.slice A zss.length cap] 52)).alloc (.cells #[.int .u8 st] 5)).alloc (.cells #[.int .u8 at_] 5)).alloc (.cells #[.bool false] 4) = y := ⟨_, rfl⟩
  have h4 := four w _ _ _ _ _ _ _ _ hw4
  rw [hw4]
  gi_at_call 25
  refine (callsIn_wide.2 (HP.out w4 h4.2.2.2.2.2)).mono ?_
  rintro r w5 ⟨g, K, rfl, hA5, hK5, hB5⟩
  have hY5 := start hA5 hK5 hB5 h4
  have b1 := below1a w5 (.cells #[.pointer (some ⟨g, 0, none⟩)] 31)
  have hx4 := (h4.1.same (hB5.block _ h4.1.lt)).same (b1.block _ (by have := hB5.size; have := h4.2.2.2.2.1; omega))
  have hc4 : (w5.alloc (.cells #[.pointer (some ⟨g, 0, none⟩)] 31)).cell? ⟨w.heap.size, 0, none⟩ = some (.slice A zss.length cap) := hx4.cell 0
  have hc9 : ((w5.alloc (.cells #[.pointer (some ⟨g, 0, none⟩)] 31)).alloc (.cells #[.slice none 0 0] 25)).cell? ⟨w5.heap.size, 0, none⟩ = some (.pointer (some ⟨g, 0, none⟩)) := (hY5.cells (w5.heap.size, 31, #[.pointer (some ⟨g, 0, none⟩)]) (by simp)).1.cell 0
  have HY5 := Lib.hid hY5
  clear hY5 hA5 hK5 hB5 h4 b1 hx4 HP hw4
  gi_wp2_with fail
  refine ⟨trivial, ?_⟩
  gi_at_call 20
  refine (callsIn_wide.2 (all_any _ _)).mono ?_
  rintro r w' ⟨rfl, rfl⟩
  have hY6 := HY5.out.new 31 #[.pointer (some ⟨g, 0, none⟩)]
  clear HY5 hc4 hc9
  gi_wp2_with fail
  rw [World.size_alloc, World.size_alloc] at hY6
  obtain ⟨W0, hW0⟩ : ∃ y, ((w5.alloc (.cells #[.pointer (some ⟨g, 0, none⟩)] 31)).alloc (.cells #[.slice none 0 0] 25)).alloc (.cells #[.pointer (some ⟨g, 0, none⟩)] 31) = y := ⟨_, rfl⟩
  rw [hW0] at hY6 ⊢
  obtain ⟨b9, hb9⟩ : ∃ y, w5.heap.size = y := ⟨_, rfl⟩
  rw [hb9] at hY6 ⊢
  obtain ⟨S, hS⟩ : ∃ y : List Blk, y = [(b9 + 1 + 1, 31, #[.pointer (some ⟨g, 0, none⟩)]), (b9, 31, #[.pointer (some ⟨g, 0, none⟩)]), (w.heap.size, 52, #[.slice A zss.length cap]), (w.heap.size + 1, 5, #[.int .u8 st]), (w.heap.size + 1 + 1, 5, #[.int .u8 at_]), (w.heap.size + 1 + 1 + 1, 4, #[.bool false])] := ⟨_, rfl⟩
  rw [← hS] at hY6
  have m4 : (w.heap.size, 52, #[.slice A zss.length cap]) ∈ S := by rw [hS]; simp
  have m5 : (w.heap.size + 1, 5, #[.int .u8 st]) ∈ S := by rw [hS]; simp
  have m6 : (w.heap.size + 1 + 1, 5, #[.int .u8 at_]) ∈ S := by rw [hS]; simp
  have m8 : (w.heap.size + 1 + 1 + 1, 4, #[.bool false]) ∈ S := by rw [hS]; simp
  have m9 : (b9, 31, #[.pointer (some ⟨g, 0, none⟩)]) ∈ S := by rw [hS]; simp
  have mx : (b9 + 1 + 1, 31, #[.pointer (some ⟨g, 0, none⟩)]) ∈ S := by rw [hS]; simp
  have M4 := Lib.hid m4; have M5 := Lib.hid m5; have M6 := Lib.hid m6; have M8 := Lib.hid m8; have M9 := Lib.hid m9; have Mx := Lib.hid mx
  clear m4 m5 m6 m8 m9 mx hW0 hb9 hS
  have H0 : Hid (I1 S (b9 + 1) g zss n st w ([], K, none) W0) := Lib.hid ⟨_, ⟨come_nil _, by simpa using hs0⟩, hY6⟩
  have hBB := hY6.below.size
  have hB0 : w.heap.size + 1 + 1 + 1 < W0.heap.size := (hY6.cells _ M8.out).1.lt
  clear hY6
  refine range_all2 (n := 5) (by decide) (g := g) (bx := b9 + 1 + 1) rfl (enters_of Try.func43 (by kernel_rfl) rfl) rfl (fun _ => putL zss n) (I1 S (b9 + 1) g zss n st w) (X1 S (b9 + 1) g zss n st w) (I1.steady hBB) (X1.steady hBB) K H0.out I1.link (I1.has Mx.out) ?a1 ?assign ?body ?hend
  case assign =>
    intro l id v W K hK
    gi_wp2
    exact hK
  case body =>
    intro l s id ls v B W hI hx hrow hnk
    obtain ⟨fv, ⟨hc, hl⟩, hY⟩ := hI
    obtain ⟨c1, c2⟩ := hc.step (putL_inc zss n) (putL_pos zss n) hx
    have hcS := fun x hx => hY.cells x (List.mem_append_right _ hx)
    have hc5 : W.cell? ⟨w.heap.size + 1, 0, none⟩ = some (.int .u8 st) := (hcS _ M5.out).1.cell 0
    obtain ⟨Af, cf, rfl⟩ := own_shape0 hY.row
    have hcf : W.cell? ⟨b9 + 1, 0, none⟩ = some (.slice Af (s.1.map (·.1)).length cf) := hY.cell.cell 0
    have hlm : (s.1.map (·.1)).length = s.1.length := List.length_map _
    obtain ⟨xs, hxs⟩ : ∃ y, s.1.map (·.1) = y := ⟨_, rfl⟩
    rw [hxs] at hY hcf hlm
    have hwb : IntKind.i64.wrap st = st := by rw [IntKind.wrap_i64]; omega
    by_cases heq : (s.1.length : Int) = st
    · have hX := I1.stop hc (by rw [hxs]; exact hY) heq
      have heq' : (xs.length : Int) = st := by omega
      have HX := Lib.hid hX
      clear hX hY hcS hxs hlm heq hl hx hrow hnk c1 c2 hc H0
      gi_wp2_with fail
      exact ⟨Odd.refl _, rfl, HX.out⟩
    · have heq' : ¬ (xs.length : Int) = st := by omega
      have hxl : xs.length ≤ 255 := by omega
      have HY := Lib.hid hY; have HXs := Lib.hid hxs; have HC2 := Lib.hid c2; have HLm := Lib.hid hlm; have HLe := Lib.hid (show (s.1.length : Int) + 1 ≤ st by omega)
      obtain ⟨i0, hi, hz0, hz1, hz2⟩ := info_parts infoInt
      clear hY hcS hxs hlm heq hl hx hrow hnk c1 c2 hc H0
      gi_wp2_with (gi_at_builtin; refine wpListIn_append2 rfl _ _ 25 25 rfl 3 i0 (.int .i64 0) 8 Try.underlying25 Try.underlying25 hi hz0 hz1 hz2 rfl w.heap.size _ _ _ rfl (HY.out.row.alloc _) .i64 _ _ [id] rfl (intsF_laid HY.out.ar.kok [id] 3).ints (by unfold maxLen; simp; omega) (by simp; omega) (by have := HY.out.below.size; simp; omega) ?_; intro v' w2 hown hg hb; obtain ⟨Av, cv, rfl⟩ := own_shape0 hown; have hcf2 := (HY.out.cell2 hg).cell 0; have hff2 := (HY.out.cell2 hg).frozen 0; have HP := Lib.hid (HY.out.push hown hg hb); clear hown hg hb)
      refine ⟨HP.out.2, (s.1 ++ [(id, ls)], s.2.1, s.2.2), ⟨rfl, rfl⟩, .slice Av (xs.length + 1) cv, ⟨HC2.out, by rw [List.length_append]; have := HLe.out; simpa using this⟩, ?_⟩
      rw [List.map_append, HXs.out]
      exact HP.out.1
  case hend =>
    intro D W hD hi hd
    have hX : X1 S (b9 + 1) g zss n st w W := by
      rcases hi with ⟨s, hx, hi⟩ | hi
      · exact hi.done hs0 hx
      · exact hi
    obtain ⟨fv, K1, hY⟩ := hX
    have hcS := fun x hx => hY.cells x hx
    have hc5 : W.cell? ⟨w.heap.size + 1, 0, none⟩ = some (.int .u8 st) := (hcS _ M5.out).1.cell 0
    have hc9 : W.cell? ⟨b9, 0, none⟩ = some (.pointer (some ⟨g, 0, none⟩)) := (hcS _ M9.out).1.cell 0
    obtain ⟨Af, cf, rfl, hrc⟩ := ints_shape (ints_own hY.row)
    have hcf : W.cell? ⟨b9 + 1, 0, none⟩ = some (.slice Af ((putL zss (min n st.toNat)).map (·.1)).length cf) := hY.cell.cell 0
    obtain ⟨f, hf⟩ : ∃ y, min n st.toNat = y := ⟨_, rfl⟩
    have hf1 : min (n : Int) st = (f : Int) := by omega
    have hf2 : f ≤ 60 := by omega
    have hfx : ∀ j, j < f → ((putL zss f).map (·.1))[j]?.getD 0 = 2 * (j : Int) + 1 := fun j hj => by rw [putL_map, List.map_map, List.getElem?_map, List.getElem?_range hj]; rfl
    rw [hf, List.length_map, putL_len] at hcf hrc
    rw [hf] at hY
    have hrc2 := hrc
    clear hrc
    have hwb : IntKind.i64.wrap st = st := by rw [IntKind.wrap_i64]; omega
    have HY := Lib.hid hY; have HRc := Lib.hid hrc2; have HFx := Lib.hid hfx; have HD := Lib.hid hd
    clear hi hcS hrc2 hfx hf hY hd H0
    gi_wp2_with fail
    gi_loopw [55] (fun i wr => CkRel f W i wr) (fun i _ => f - (intOf i).toNat)
    case atStart => exact ⟨0, Nat.zero_le _, rfl, Below.refl _ _⟩
    case round =>
      obtain ⟨j, hj, rfl, hB⟩ := hrel
      by_cases hlt : j < f
      · obtain ⟨bf, of, rfl, hbf, hcj⟩ := HRc.out j hlt
        have hcj := (hB.cell (p := ⟨bf, of + j, none⟩) hbf).trans hcj
        rw [HFx.out j hlt] at hcj
        have HB := Lib.hid hB
        clear hB HRc HFx HY HC HW
        gi_wp2_with fail
        refine ⟨⟨j + 1, hlt, by go_num, HB.out⟩, ?_⟩
        simp [intOf]; omega
      · obtain rfl : j = f := by omega
        have hDr := (hB.block D (Array.getElem?_eq_some_iff.1 HD.out).1).trans HD.out
        have HYr := Lib.hid (HY.out.on hB); have HDr := Lib.hid hDr
        clear hB HRc HFx HY HD hc5 hc9 hcf hDr
        obtain ⟨g0, hg0'⟩ : ∃ y : Nat, go_ % 60 = (y : Int) := ⟨(go_ % 60).toNat, by omega⟩
        have hg60 : g0 < 60 := by omega
        have y3 := ((HYr.out.new 3 #[.int .i64 (2 * (g0 : Int) + 1)]).refresh).new 4 #[.bool false]
        simp only [World.size_alloc] at y3
        have hc9 : (((wr.alloc (.cells #[.int .i64 (2 * (g0 : Int) + 1)] 3)).alloc (.cells #[.slice none 0 0] 25)).alloc (.cells #[.bool false] 4)).cell? ⟨b9, 0, none⟩ = some (.pointer (some ⟨g, 0, none⟩)) := (y3.cells _ (List.mem_cons_of_mem _ (List.mem_cons_of_mem _ M9.out))).1.cell 0
        have hbd := ((below1a wr (.cells #[.int .i64 (2 * (g0 : Int) + 1)] 3)).trans ((below1a (wr.alloc (.cells #[.int .i64 (2 * (g0 : Int) + 1)] 3)) (.cells #[.slice none 0 0] 25)).mono (by simp))).trans ((below1a ((wr.alloc (.cells #[.int .i64 (2 * (g0 : Int) + 1)] 3)).alloc (.cells #[.slice none 0 0] 25)) (.cells #[.bool false] 4)).mono (by simp; omega))
        have Y3 := Lib.hid y3; have HBd := Lib.hid hbd
        clear y3 HYr hbd
        gi_wp2_with fail
        refine ⟨trivial, ?_⟩
        gi_at_call 20
        refine (callsIn_wide.2 (all_any _ _)).mono ?_
        rintro r w' ⟨rfl, rfl⟩
        have y4 := Y3.out.new 31 #[.pointer (some ⟨g, 0, none⟩)]
        simp only [World.size_alloc] at y4
        have hD4 := ((HBd.out.trans ((below1a (((wr.alloc (.cells #[.int .i64 (2 * (g0 : Int) + 1)] 3)).alloc (.cells #[.slice none 0 0] 25)).alloc (.cells #[.bool false] 4)) (.cells #[.pointer (some ⟨g, 0, none⟩)] 31)).mono (by simp; omega))).block D (Array.getElem?_eq_some_iff.1 HDr.out).1).trans HDr.out
        clear hc9 Y3 HBd HDr
        gi_wp2_with fail
        obtain ⟨a, ha⟩ : ∃ y : Nat, at_ % 60 = (y : Int) := ⟨(at_ % 60).toNat, by omega⟩
        have ha60 : a < 60 := by omega
        obtain ⟨W2, hW2⟩ : ∃ y, (((wr.alloc (.cells #[.int .i64 (2 * (g0 : Int) + 1)] 3)).alloc (.cells #[.slice none 0 0] 25)).alloc (.cells #[.bool false] 4)).alloc (.cells #[.pointer (some ⟨g, 0, none⟩)] 31) = y := ⟨_, rfl⟩
        obtain ⟨bq, hbq⟩ : ∃ y, wr.heap.size = y := ⟨_, rfl⟩
        rw [hW2, hbq] at y4
        rw [hW2] at hD4 ⊢
        rw [hbq]
        have hB2 := y4.below.size
        have hqb : w.heap.size ≤ bq + 1 + 1 := by have := y4.fbB; omega
        have hD2 := (Array.getElem?_eq_some_iff.1 hD4).1
        have H2 : Hid (I2 S bq g zss n a g0 D w ([], K1, none) W2) := Lib.hid ⟨_, ⟨yCome_nil _ _ _ _, hD4⟩, by simpa [boxS, S2, yL] using y4⟩
        have hDw : W0.heap.size ≤ D := hD
        have hW0 := hB0
        clear y4 hD4 hW2 hbq hD hf1 hf2 hlt
        refine range_all2 (n := 5) (by decide) (g := g) (bx := bq + 1 + 1 + 1) rfl (enters_of Try.func43 (by kernel_rfl) rfl) rfl (yL zss n a g0) (I2 S bq g zss n a g0 D w) (fun _ => False) (I2.steady hB2 hD2) (steady_true False) K1 H2.out (I2.link hD2) I2.has ?a2 ?assign2 ?body2 ?hend2
        case assign2 =>
          intro l id v W K hK
          gi_wp2
          exact hK
        case body2 =>
          intro l s id ls v B W hI hx hrow hnk
          obtain ⟨iv, ⟨hc, hdf⟩, hY⟩ := hI
          obtain ⟨hcm, hkn, hkind, hka⟩ := hc.step hn2 hx
          obtain ⟨i0, hi, hz0, hz1, hz2⟩ := info_parts infoInt
          have hlm : (s.1.map (·.1)).length = s.1.length := List.length_map _
          obtain ⟨Ai, ci, rfl⟩ := own_shape0 hY.row
          obtain ⟨xs, hxs⟩ : ∃ y, s.1.map (·.1) = y := ⟨_, rfl⟩
          rw [hxs] at hY hlm
          have hxl : xs.length ≤ 60 := by omega
          have hc6 : W.cell? ⟨w.heap.size + 1 + 1, 0, none⟩ = some (.int .u8 at_) := (hY.cells _ (List.mem_append_right _ (s2_old M6.out))).1.cell 0
          have hcf : W.cell? ⟨bq + 1, 0, none⟩ = some (.slice Ai xs.length ci) := hY.cell.cell 0
          have hwa : IntKind.i64.wrap (a : Int) = a := by rw [IntKind.wrap_i64]; omega
          have hwu : IntKind.u8.wrap (a : Int) = a := by rw [IntKind.wrap_u8]; omega
          have hta : at_.tmod 60 = (a : Int) := by rw [Int.tmod_eq_emod_of_nonneg ha0]; exact ha
          have HCm := Lib.hid hcm; have HDf := Lib.hid hdf; have HXs := Lib.hid hxs; have HX := Lib.hid hx
          clear hcm hdf hxs hx hc H2
          by_cases hka' : s.1.length = a
          · have han := hka hka'
            have heq' : (xs.length : Int) = (a : Int) := by omega
            have hL0 : yL zss n a g0 s.1 = putL zss n := by unfold yL; rw [if_pos (by omega)]
            have hL1 : yL zss n a g0 (s.1 ++ [(id, ls)]) = yN zss n g0 := by unfold yL; rw [if_neg (by rw [List.length_append]; simp; omega)]
            rw [hL0, if_pos (by omega), show decide (a < s.1.length) = false from decide_eq_false (by omega)] at hY
            have hc16 : W.cell? ⟨bq, 0, none⟩ = some (.int .i64 (2 * (g0 : Int) + 1)) := (hY.cells (bq, 3, #[.int .i64 (2 * (g0 : Int) + 1)]) (List.mem_append_right _ (by simp [S2]))).1.cell 0
            have hc9 : W.cell? ⟨b9, 0, none⟩ = some (.pointer (some ⟨g, 0, none⟩)) := (hY.cells _ (List.mem_append_right _ (s2_old M9.out))).1.cell 0
            have HEnd := Lib.hid (show (putL zss n).filter (fun p => decide (p.1 ≠ 2 * (g0 : Int) + 1)) ++ [(1000, [5])] = yL zss n a g0 (s.1 ++ [(id, ls)]) ∧ (1000 : Int) = (if (s.1 ++ [(id, ls)]).length ≤ a then lastN n else 1000) ∧ true = decide (a < (s.1 ++ [(id, ls)]).length) from ⟨hL1.symm, by rw [if_neg (by rw [List.length_append]; simp; omega)], (decide_eq_true (by rw [List.length_append]; simp; omega)).symm⟩)
            have HY := Lib.hid hY; have HRw := Lib.hid hrow; have HNk := Lib.hid hnk
            clear hY hrow hnk hL0 hL1 hka hka' hlm
            gi_wp2_with fail
            refine ⟨trivial, ?_⟩
            gi_at_call 15
            refine (CallsIn.inRound l (callsIn_wide.2 (del_put HY.out.ar g0 hg60))).mono ?_
            rintro r w3 ⟨e, K3, rfl, hA3, hT3⟩
            have HY3 := Lib.hid (HY.out.turn hT3 hA3); have HO3 := Lib.hid (HY.out.ar.turn_odd hT3); have HR3 := Lib.hid (row_turn HRw.out hT3.1 HNk.out)
            have hnk3 : ∀ b, v.ownBlock = some b → ¬ K3 b := fun b e => hT3.off (HRw.out.lt b e).2 (HNk.out b e)
            have hc9 : w3.cell? ⟨b9, 0, none⟩ = some (.pointer (some ⟨g, 0, none⟩)) := (HY3.out.cells _ (List.mem_append_right _ (s2_old M9.out))).1.cell 0
            have HNk3 := Lib.hid hnk3
            clear hA3 hT3 hnk3 HY HRw HNk hc16 hc6 hcf
            gi_wp2_with fail
            refine ⟨trivial, ?_⟩
            gi_at_call 14
            have b5 := below1a w3 (laidO [5] 30)
            have y5 := HY3.out.on b5
            refine (CallsIn.inRound l (callsIn_wide.2 (add_ok (c := [5]) (id := 1000) y5.ar (intsF_laid HY3.out.ar.kok [5] _) (by decide) (by have := (lastN_le n).2; omega) (by decide) (Nat.le_trans (Nat.add_le_add_right (Nat.le_trans (sum_filter_le (putL zss n) (fun p => decide (p.1 ≠ 2 * (g0 : Int) + 1))) (putL_sum zss n)) 1) (by omega))))).mono ?_
            rintro r w6 ⟨K6, rfl, hA6, hT6⟩
            have y6 := y5.turn hT6 hA6
            rw [s2_at] at y6
            obtain ⟨y7, o7⟩ := y6.store hqb (.bool true)
            rw [← s2_at] at y7
            have r6 := row_turn (owns_on0 HR3.out b5) hT6.1 (fun b e => HNk3.out b e)
            have hw18 : Whole w6 (bq + 1 + 1) 4 #[.bool false] := (y6.cells (bq + 1 + 1, 4, #[.bool false]) (by simp)).1
            have r7 := r6.kept (grownBy_set w6 (bq + 1 + 1) 0 (.bool true)) (row_beside hw18 r6 (by decide))
            have hcs : w6.cell? ⟨bq + 1 + 1, 0, none⟩ = some (.bool false) := hw18.cell 0
            have hfs := hw18.frozen 0
            have HT := Lib.hid y7; have HOd := Lib.hid (((HO3.out.trans (Odd.of_below b5)).trans (y5.ar.turn_odd hT6)).trans o7); have HRow := Lib.hid r7
            obtain ⟨Wt, hWt⟩ : ∃ y, w6.setCell ⟨bq + 1 + 1, 0, none⟩ (.bool true) = y := ⟨_, rfl⟩
            obtain ⟨Kt, hKt⟩ : ∃ y, K6 = y := ⟨_, rfl⟩
            rw [hWt] at HT HOd HRow
            rw [hKt] at HT
            have hit0 : Wt.cell? ⟨bq + 1, 0, none⟩ = some (.slice Ai xs.length ci) := HT.out.cell.cell 0
            clear b5 y5 hA6 hT6 y6 y7 o7 r6 r7 hw18 HY3 HO3 HR3 HNk3 hc9 hKt
            rcases hkind with hk | ⟨i, hin, hk⟩
            · obtain ⟨rfl, rfl⟩ : id = 1000 ∧ ls = [5] := by cases hk; exact ⟨rfl, rfl⟩
              clear hk
              clear hit0
              have hit : Wt.cell? ⟨bq + 1, 0, none⟩ = some (.slice Ai xs.length ci) := HT.out.cell.cell 0
              gi_wp2_with fail
              all_goals first | exact absurd ‹some undef = some (Value.bool _)› (by intro h; cases h) | skip
              refine ⟨trivial, ?_⟩
              gi_wp2_with fail
              refine ⟨trivial, ?_⟩
              gi_wp2_with (gi_at_builtin; refine wpListIn_append2 rfl _ _ 25 25 rfl 3 i0 (.int .i64 0) 8 Try.underlying25 Try.underlying25 hi hz0 hz1 hz2 rfl w.heap.size _ _ _ rfl (HT.out.row.alloc _) .i64 _ _ [1000] rfl (intsF_laid HT.out.ar.kok [1000] 3).ints (by unfold maxLen; simp; omega) (by simp; omega) (Nat.le_trans HT.out.below.size (by rw [World.size_alloc]; exact Nat.le_succ _)) ?_; intro v' w2 hown hg hb; obtain ⟨Av, cv, rfl⟩ := own_shape0 hown; have hcf2 := (HT.out.cell2 hg).cell 0; have hff2 := (HT.out.cell2 hg).frozen 0; have HP := Lib.hid (HT.out.push hown hg hb); clear hown hg hb)
              have HO := HOd.out.trans HP.out.2
              refine ⟨HO, (s.1 ++ [(1000, [5])], Kt, s.2.2), ⟨rfl, rfl⟩, .slice Av (xs.length + 1) cv, ⟨HCm.out, HO.same D _ HDf.out rfl⟩, ?_⟩
              rw [List.map_append, HXs.out, ← HEnd.out.1, ← HEnd.out.2.1, ← HEnd.out.2.2]
              exact HP.out.1
            · have hls : ls = madeL (zss[i]?.getD []) := by cases hk; rfl
              subst hls
              have hid : id = 2 * (i : Int) + 1 := by cases hk; rfl
              have hid1 : ¬ id = 1000 := by omega
              have hid2 : ¬ id < 1 := by omega
              have hid3 : (id - 1).tdiv 2 = (i : Int) := by rw [hid, show 2 * (i : Int) + 1 - 1 = (i : Int) * 2 by omega, Int.mul_tdiv_cancel _ (by decide)]
              have hid4 : IntKind.i64.wrap (id - 1) = id - 1 := by rw [IntKind.wrap_i64]; omega
              have hid5 : IntKind.i64.wrap (i : Int) = (i : Int) := by rw [IntKind.wrap_i64]; omega
              clear hk hid
              clear hit0
              have hc4 : Wt.cell? ⟨w.heap.size, 0, none⟩ = some (.slice A zss.length cap) := (HT.out.cells _ (List.mem_append_right _ (s2_old M4.out))).1.cell 0
              obtain ⟨b, off, sv, rfl, hb, hcx, hI, hFs⟩ := HC.out i (by omega)
              have hcx := (HT.out.below.cell (p := ⟨b, off + i, none⟩) hb).trans hcx
              have hz := HW.out (zss[i]?.getD []) (by rw [List.getElem?_eq_getElem (by omega)]; exact List.getElem_mem _)
              have HMd := Lib.hid (made_any w.heap.size sv (zss[i]?.getD []) (by have := hz.1; unfold maxLen at this; omega) hz.2 hFs Wt HT.out.below.size (hI.below HT.out.below))
              have hml := madeL_len (zss[i]?.getD [])
              clear hz hI hFs HC HW
              have hit : Wt.cell? ⟨bq + 1, 0, none⟩ = some (.slice Ai xs.length ci) := HT.out.cell.cell 0
              gi_wp2_with fail
              refine ⟨trivial, ?_⟩
              gi_at_call 27
              refine (CallsIn.inRound l (callsIn_wide.2 HMd.out)).mono ?_
              rintro r w6 ⟨vd, rfl, hr6, hb6⟩
              have heq := equal_yes (owns_on0 HRow.out hb6) (ints_own hr6) (by omega)
              have HT6 := Lib.hid (HT.out.on hb6); have HOd6 := Lib.hid (HOd.out.trans (Odd.of_below hb6)); have HEq := Lib.hid heq
              clear hr6 heq hb6 HMd HT HOd HRow hc4 hcx hit
              gi_wp2_with fail
              refine ⟨trivial, ?_⟩
              gi_at_call 26
              refine (CallsIn.inRound l (callsIn_wide.2 HEq.out)).mono ?_
              rintro r w7 ⟨rfl, q, rfl⟩
              have hbq := below_drewN (Below.refl w6.heap.size w6) q
              have HT := Lib.hid (HT6.out.on hbq); have HOd := Lib.hid (HOd6.out.trans (Odd.of_below hbq))
              have hit : (w6.drewN q).cell? ⟨bq + 1, 0, none⟩ = some (.slice Ai xs.length ci) := HT.out.cell.cell 0
              clear HT6 HOd6 HEq hbq
              gi_wp2_with (gi_at_builtin; refine wpListIn_append2 rfl _ _ 25 25 rfl 3 i0 (.int .i64 0) 8 Try.underlying25 Try.underlying25 hi hz0 hz1 hz2 rfl w.heap.size _ _ _ rfl (HT.out.row.alloc _) .i64 _ _ [id] rfl (intsF_laid HT.out.ar.kok [id] 3).ints (by unfold maxLen; simp; omega) (by simp; omega) (Nat.le_trans HT.out.below.size (by rw [World.size_alloc]; exact Nat.le_succ _)) ?_; intro v' w2 hown hg hb; obtain ⟨Av, cv, rfl⟩ := own_shape0 hown; have hcf2 := (HT.out.cell2 hg).cell 0; have hff2 := (HT.out.cell2 hg).frozen 0; have HP := Lib.hid (HT.out.push hown hg hb); clear hown hg hb)
              have HO := HOd.out.trans HP.out.2
              refine ⟨HO, (s.1 ++ [(id, madeL (zss[i]?.getD []))], Kt, s.2.2), ⟨rfl, rfl⟩, .slice Av (xs.length + 1) cv, ⟨HCm.out, HO.same D _ HDf.out rfl⟩, ?_⟩
              rw [List.map_append, HXs.out, ← HEnd.out.1, ← HEnd.out.2.1, ← HEnd.out.2.2]
              exact HP.out.1
          · have heq' : ¬ (xs.length : Int) = (a : Int) := by omega
            have hap : (s.1 ++ [(id, ls)]).length = s.1.length + 1 := by rw [List.length_append]; rfl
            have hL1 : yL zss n a g0 s.1 = yL zss n a g0 (s.1 ++ [(id, ls)]) := by unfold yL; rw [hap]; by_cases h : s.1.length ≤ a; rw [if_pos h, if_pos (by omega)]; rw [if_neg h, if_neg (by omega)]
            have hL2 : (if s.1.length ≤ a then lastN n else 1000) = (if (s.1 ++ [(id, ls)]).length ≤ a then lastN n else (1000 : Int)) := by rw [hap]; by_cases h : s.1.length ≤ a; rw [if_pos h, if_pos (by omega)]; rw [if_neg h, if_neg (by omega)]
            have hL3 : decide (a < s.1.length) = decide (a < (s.1 ++ [(id, ls)]).length) := decide_eq_decide.2 (by rw [hap]; omega)
            have HEnd := Lib.hid (And.intro hL1 (And.intro hL2 hL3))
            have HT := Lib.hid hY; have HRow := Lib.hid hrow; have HOd := Lib.hid (Odd.refl W)
            clear hY hrow hnk hL1 hL2 hL3 hap hka hka' hlm
            rcases hkind with hk | ⟨i, hin, hk⟩
            · obtain ⟨rfl, rfl⟩ : id = 1000 ∧ ls = [5] := by cases hk; exact ⟨rfl, rfl⟩
              clear hk
              have hit : W.cell? ⟨bq + 1, 0, none⟩ = some (.slice Ai xs.length ci) := HT.out.cell.cell 0
              gi_wp2_with fail
              all_goals first | exact absurd ‹some undef = some (Value.bool _)› (by intro h; cases h) | skip
              refine ⟨trivial, ?_⟩
              gi_wp2_with fail
              refine ⟨trivial, ?_⟩
              gi_wp2_with (gi_at_builtin; refine wpListIn_append2 rfl _ _ 25 25 rfl 3 i0 (.int .i64 0) 8 Try.underlying25 Try.underlying25 hi hz0 hz1 hz2 rfl w.heap.size _ _ _ rfl (HT.out.row.alloc _) .i64 _ _ [1000] rfl (intsF_laid HT.out.ar.kok [1000] 3).ints (by unfold maxLen; simp; omega) (by simp; omega) (Nat.le_trans HT.out.below.size (by rw [World.size_alloc]; exact Nat.le_succ _)) ?_; intro v' w2 hown hg hb; obtain ⟨Av, cv, rfl⟩ := own_shape0 hown; have hcf2 := (HT.out.cell2 hg).cell 0; have hff2 := (HT.out.cell2 hg).frozen 0; have HP := Lib.hid (HT.out.push hown hg hb); clear hown hg hb)
              have HO := HOd.out.trans HP.out.2
              refine ⟨HO, (s.1 ++ [(1000, [5])], s.2.1, s.2.2), ⟨rfl, rfl⟩, .slice Av (xs.length + 1) cv, ⟨HCm.out, HO.same D _ HDf.out rfl⟩, ?_⟩
              rw [List.map_append, HXs.out, ← HEnd.out.1, ← HEnd.out.2.1, ← HEnd.out.2.2]
              exact HP.out.1
            · have hls : ls = madeL (zss[i]?.getD []) := by cases hk; rfl
              subst hls
              have hid : id = 2 * (i : Int) + 1 := by cases hk; rfl
              have hid1 : ¬ id = 1000 := by omega
              have hid2 : ¬ id < 1 := by omega
              have hid3 : (id - 1).tdiv 2 = (i : Int) := by rw [hid, show 2 * (i : Int) + 1 - 1 = (i : Int) * 2 by omega, Int.mul_tdiv_cancel _ (by decide)]
              have hid4 : IntKind.i64.wrap (id - 1) = id - 1 := by rw [IntKind.wrap_i64]; omega
              have hid5 : IntKind.i64.wrap (i : Int) = (i : Int) := by rw [IntKind.wrap_i64]; omega
              clear hk hid
              have hc4 : W.cell? ⟨w.heap.size, 0, none⟩ = some (.slice A zss.length cap) := (HT.out.cells _ (List.mem_append_right _ (s2_old M4.out))).1.cell 0
              obtain ⟨b, off, sv, rfl, hb, hcx, hI, hFs⟩ := HC.out i (by omega)
              have hcx := (HT.out.below.cell (p := ⟨b, off + i, none⟩) hb).trans hcx
              have hz := HW.out (zss[i]?.getD []) (by rw [List.getElem?_eq_getElem (by omega)]; exact List.getElem_mem _)
              have HMd := Lib.hid (made_any w.heap.size sv (zss[i]?.getD []) (by have := hz.1; unfold maxLen at this; omega) hz.2 hFs W HT.out.below.size (hI.below HT.out.below))
              have hml := madeL_len (zss[i]?.getD [])
              clear hz hI hFs HC HW
              have hit : W.cell? ⟨bq + 1, 0, none⟩ = some (.slice Ai xs.length ci) := HT.out.cell.cell 0
              gi_wp2_with fail
              refine ⟨trivial, ?_⟩
              gi_at_call 27
              refine (CallsIn.inRound l (callsIn_wide.2 HMd.out)).mono ?_
              rintro r w6 ⟨vd, rfl, hr6, hb6⟩
              have heq := equal_yes (owns_on0 HRow.out hb6) (ints_own hr6) (by omega)
              have HT6 := Lib.hid (HT.out.on hb6); have HOd6 := Lib.hid (HOd.out.trans (Odd.of_below hb6)); have HEq := Lib.hid heq
              clear hr6 heq hb6 HMd HT HOd HRow hc4 hcx hit
              gi_wp2_with fail
              refine ⟨trivial, ?_⟩
              gi_at_call 26
              refine (CallsIn.inRound l (callsIn_wide.2 HEq.out)).mono ?_
              rintro r w7 ⟨rfl, q, rfl⟩
              have hbq := below_drewN (Below.refl w6.heap.size w6) q
              have HT := Lib.hid (HT6.out.on hbq); have HOd := Lib.hid (HOd6.out.trans (Odd.of_below hbq))
              have hit : (w6.drewN q).cell? ⟨bq + 1, 0, none⟩ = some (.slice Ai xs.length ci) := HT.out.cell.cell 0
              clear HT6 HOd6 HEq hbq
              gi_wp2_with (gi_at_builtin; refine wpListIn_append2 rfl _ _ 25 25 rfl 3 i0 (.int .i64 0) 8 Try.underlying25 Try.underlying25 hi hz0 hz1 hz2 rfl w.heap.size _ _ _ rfl (HT.out.row.alloc _) .i64 _ _ [id] rfl (intsF_laid HT.out.ar.kok [id] 3).ints (by unfold maxLen; simp; omega) (by simp; omega) (Nat.le_trans HT.out.below.size (by rw [World.size_alloc]; exact Nat.le_succ _)) ?_; intro v' w2 hown hg hb; obtain ⟨Av, cv, rfl⟩ := own_shape0 hown; have hcf2 := (HT.out.cell2 hg).cell 0; have hff2 := (HT.out.cell2 hg).frozen 0; have HP := Lib.hid (HT.out.push hown hg hb); clear hown hg hb)
              have HO := HOd.out.trans HP.out.2
              refine ⟨HO, (s.1 ++ [(id, madeL (zss[i]?.getD []))], s.2.1, s.2.2), ⟨rfl, rfl⟩, .slice Av (xs.length + 1) cv, ⟨HCm.out, HO.same D _ HDf.out rfl⟩, ?_⟩
              rw [List.map_append, HXs.out, ← HEnd.out.1, ← HEnd.out.2.1, ← HEnd.out.2.2]
              exact HP.out.1
        case hend2 =>
          intro D2 W hD2' hi hd2
          rcases hi with ⟨s, hx, iv, ⟨hc, hdf⟩, hY⟩ | hi
          · have hall := hc.all hn2 hx
            have hml := yM_len zss n a g0
            have hch : decide (a < s.1.length) = decide (a < n) := by
              rw [hall, decide_eq_decide]
              constructor
              · intro h
                apply Classical.byContradiction
                intro hn
                unfold yM at h
                rw [if_neg hn, putL_len] at h
                exact hn h
              · intro h
                have := yM_long (g := g0) zss h
                omega
            rw [hch] at hY
            rw [hall, want_is] at hY
            have hws := want_is zss n a g0
            have hwl := wantK_len n a g0 n
            obtain ⟨i0, hi, hz0, hz1, hz2⟩ := info_parts infoInt
            obtain ⟨Ai, ci, rfl, hri⟩ := ints_shape (ints_own hY.row)
            have hc6 : W.cell? ⟨w.heap.size + 1 + 1, 0, none⟩ = some (.int .u8 at_) := (hY.cells _ (List.mem_append_right _ (s2_old M6.out))).1.cell 0
            have hc18 : W.cell? ⟨bq + 1 + 1, 0, none⟩ = some (.bool (decide (a < n))) := (hY.cells (bq + 1 + 1, 4, #[.bool (decide (a < n))]) (List.mem_append_right _ (by simp [S2]))).1.cell 0
            have hc16 : W.cell? ⟨bq, 0, none⟩ = some (.int .i64 (2 * (g0 : Int) + 1)) := (hY.cells (bq, 3, #[.int .i64 (2 * (g0 : Int) + 1)]) (List.mem_append_right _ (by simp [S2]))).1.cell 0
            have hs6 := (hY.cells _ (List.mem_append_right _ (s2_old M6.out))).1.lt
            have hs18 := (hY.cells (bq + 1 + 1, 4, #[.bool (decide (a < n))]) (List.mem_append_right _ (by simp [S2]))).1.lt
            have hs16 : bq < W.heap.size := (hY.cells (bq, 3, #[.int .i64 (2 * (g0 : Int) + 1)]) (List.mem_append_right _ (by simp [S2]))).1.lt
            have hwa : IntKind.i64.wrap (a : Int) = a := by rw [IntKind.wrap_i64]; omega
            have hwu : IntKind.u8.wrap (a : Int) = a := by rw [IntKind.wrap_u8]; omega
            have hta : at_.tmod 60 = (a : Int) := by rw [Int.tmod_eq_emod_of_nonneg ha0]; exact ha
            have HY := Lib.hid hY; have H6 := Lib.hid hc6; have H18 := Lib.hid hc18; have H16 := Lib.hid hc16; have HD1 := Lib.hid hdf; have HD2 := Lib.hid hd2
            clear hY hc6 hc18 hc16 hdf hd2 hc hall hml hch hws hx H2 hri
            gi_wp2_with fail
            gi_loopw [21, 124] (fun o i wr => WantRel n a g0 W o i wr) (fun _ i _ => n - (intOf i).toNat)
            case atStart => exact ⟨0, _, rfl, Nat.zero_le _, rfl, World.ownsRow_nil _ _ _ _, Below.refl _ _⟩
            case round =>
              obtain ⟨k, wv, rfl, hk, rfl, hrow, hB⟩ := hrel
              by_cases hlt : k < n
              · have hc6 := (hB.cell (p := ⟨w.heap.size + 1 + 1, 0, none⟩) hs6).trans H6.out
                have hc18 := (hB.cell (p := ⟨bq + 1 + 1, 0, none⟩) hs18).trans H18.out
                have hc16 := (hB.cell (p := ⟨bq, 0, none⟩) hs16).trans H16.out
                have hkl := wantK_len n a g0 k
                have HR := Lib.hid hrow; have HB := Lib.hid hB
                have hBs := hB.size
                have hne : ¬ (2 * (k : Int) + 1 = 2 * (g0 : Int) + 1) ↔ k ≠ g0 := by omega
                clear hrow hB H6 H18 H16 HY HD1 HD2 HC HW
                by_cases hyes : ¬ a < n ∨ k ≠ g0 ∨ k ≤ a
                · have hws := wantK_yes hyes
                  have HWs := Lib.hid hws
                  clear hws
                  by_cases han : a < n
                  · rw [decide_eq_true han] at hc18
                    by_cases hkg : k = g0
                    · subst hkg
                      have hka : (k : Int) ≤ (a : Int) := by omega
                      clear hyes hne
                      gi_wp2_with (gi_at_builtin; refine wpListIn_append2 rfl _ _ 25 25 rfl 3 i0 (.int .i64 0) 8 Try.underlying25 Try.underlying25 hi hz0 hz1 hz2 rfl W.heap.size _ _ _ rfl (HR.out.alloc _) .i64 _ _ [2 * (k : Int) + 1] rfl (lits_laid _ [2 * (k : Int) + 1] 3).ints (by unfold maxLen; simp; omega) (by simp; omega) (Nat.le_trans hBs (by rw [World.size_alloc]; exact Nat.le_succ _)) ?_; intro v' w2 hown hg hb; have HOw := Lib.hid hown; have HGr := Lib.hid hg; clear hown hg hb)
                      have hbn : Below W.heap.size W w2 := ((HB.out.alloc hBs _).grown HGr.out (Nat.le_trans hBs (by rw [World.size_alloc]; exact Nat.le_succ _)) (fun k e => (HR.out.lt k e).1))
                      refine ⟨⟨k + 1, _, rfl, hlt, by go_num, ?_, hbn⟩, ?_⟩
                      · rw [HWs.out, List.length_append, List.map_append]; exact HOw.out
                      · simp [intOf]; omega
                    · have hkn : ¬ (2 * (k : Int) + 1 = 2 * (g0 : Int) + 1) := by omega
                      clear hyes hne hkg
                      gi_wp2_with (gi_at_builtin; refine wpListIn_append2 rfl _ _ 25 25 rfl 3 i0 (.int .i64 0) 8 Try.underlying25 Try.underlying25 hi hz0 hz1 hz2 rfl W.heap.size _ _ _ rfl (HR.out.alloc _) .i64 _ _ [2 * (k : Int) + 1] rfl (lits_laid _ [2 * (k : Int) + 1] 3).ints (by unfold maxLen; simp; omega) (by simp; omega) (Nat.le_trans hBs (by rw [World.size_alloc]; exact Nat.le_succ _)) ?_; intro v' w2 hown hg hb; have HOw := Lib.hid hown; have HGr := Lib.hid hg; clear hown hg hb)
                      have hbn : Below W.heap.size W w2 := ((HB.out.alloc hBs _).grown HGr.out (Nat.le_trans hBs (by rw [World.size_alloc]; exact Nat.le_succ _)) (fun k e => (HR.out.lt k e).1))
                      refine ⟨⟨k + 1, _, rfl, hlt, by go_num, ?_, hbn⟩, ?_⟩
                      · rw [HWs.out, List.length_append, List.map_append]; exact HOw.out
                      · simp [intOf]; omega
                  · rw [decide_eq_false han] at hc18
                    clear hyes hne
                    gi_wp2_with (gi_at_builtin; refine wpListIn_append2 rfl _ _ 25 25 rfl 3 i0 (.int .i64 0) 8 Try.underlying25 Try.underlying25 hi hz0 hz1 hz2 rfl W.heap.size _ _ _ rfl (HR.out.alloc _) .i64 _ _ [2 * (k : Int) + 1] rfl (lits_laid _ [2 * (k : Int) + 1] 3).ints (by unfold maxLen; simp; omega) (by simp; omega) (Nat.le_trans hBs (by rw [World.size_alloc]; exact Nat.le_succ _)) ?_; intro v' w2 hown hg hb; have HOw := Lib.hid hown; have HGr := Lib.hid hg; clear hown hg hb)
                    have hbn : Below W.heap.size W w2 := ((HB.out.alloc hBs _).grown HGr.out (Nat.le_trans hBs (by rw [World.size_alloc]; exact Nat.le_succ _)) (fun k e => (HR.out.lt k e).1))
                    refine ⟨⟨k + 1, _, rfl, hlt, by go_num, ?_, hbn⟩, ?_⟩
                    · rw [HWs.out, List.length_append, List.map_append]; exact HOw.out
                    · simp [intOf]; omega
                · have hws := wantK_no hyes
                  have HWs := Lib.hid hws
                  have han : a < n := Classical.byContradiction fun h => hyes (.inl h)
                  obtain rfl : k = g0 := Classical.byContradiction fun h => hyes (.inr (.inl h))
                  have hka : ¬ (k : Int) ≤ (a : Int) := by omega
                  rw [decide_eq_true han] at hc18
                  clear hws hyes hne
                  gi_wp2_with fail
                  refine ⟨⟨k + 1, _, rfl, hlt, by go_num, ?_, HB.out⟩, ?_⟩
                  · rw [HWs.out]; exact HR.out
                  · simp [intOf]; omega
              · obtain rfl : k = n := by omega
                have hc18 := (hB.cell (p := ⟨bq + 1 + 1, 0, none⟩) hs18).trans H18.out
                have hBs := hB.size
                have HR := Lib.hid hrow; have HB := Lib.hid hB
                clear hrow hB H6 H18 H16 HC HW
                by_cases han : a < k
                · rw [decide_eq_true han] at hc18
                  rw [if_pos han] at HY
                  obtain ⟨ids, hids⟩ : ∃ y, wantK k a g0 k ++ [1000] = y := ⟨_, rfl⟩
                  have hil : ids.length ≤ 100 := by rw [← hids, List.length_append]; simp; omega
                  rw [hids] at HY
                  have HIds := Lib.hid hids
                  clear hids
                  gi_wp2_with (gi_at_builtin; refine wpListIn_append2 rfl _ _ 25 25 rfl 3 i0 (.int .i64 0) 8 Try.underlying25 Try.underlying25 hi hz0 hz1 hz2 rfl W.heap.size _ _ _ rfl (HR.out.alloc _) .i64 _ _ [1000] rfl (lits_laid _ [1000] 3).ints (by unfold maxLen; simp; omega) (by simp; omega) (Nat.le_trans hBs (by rw [World.size_alloc]; exact Nat.le_succ _)) ?_; intro v' w2 hown hg hb; have HBn := Lib.hid ((HB.out.alloc hBs _).grown hg (Nat.le_trans hBs (by rw [World.size_alloc]; exact Nat.le_succ _)) (fun k e => (HR.out.lt k e).1)); have hcf := (HY.out.on HBn.out).cell.cell 0; have HOw := Lib.hid hown; clear hown hg hb)
                  have hr2 : w2.ownsRow W.heap.size 3 1 v' ((wantK k a g0 k).length + [1000].length) (ids.map (Value.int .i64)) := by rw [← HIds.out, List.map_append]; exact HOw.out
                  have HEq := Lib.hid (equal_int w2 (xs := ids) (ys := ids) (by omega) (by omega) (ints_own (HY.out.on HBn.out).row) (ints_own hr2))
                  clear hr2
                  refine ⟨trivial, ?_⟩
                  gi_at_call 28
                  refine (callsIn_wide.2 HEq.out).mono ?_
                  rintro r w3 ⟨rfl, q, rfl⟩
                  have HB3 := Lib.hid (below_drewN HBn.out q)
                  clear HEq HBn hcf
                  rw [beq_self_eq_true]
                  gi_wp2_with fail
                  refine ⟨trivial, ?_⟩
                  gi_at_call 12
                  refine (callsIn_wide.2 (arawake_any _)).mono ?_
                  rintro r w4 ⟨rfl, hB4⟩
                  have hb4 := HB3.out.trans (hB4.mono HB3.out.size)
                  have hY4 := HY.out.on hb4
                  have hw8 : Whole w4 (w.heap.size + 1 + 1 + 1) 4 #[.bool false] := (hY4.cells _ (List.mem_append_right _ (s2_old M8.out))).1
                  have hc8 : w4.cell? ⟨w.heap.size + 1 + 1 + 1, 0, none⟩ = some (.bool false) := hw8.cell 0
                  have hf8 := hw8.frozen 0
                  have HDa := Lib.hid ((hb4.block D (Array.getElem?_eq_some_iff.1 HD1.out).1).trans HD1.out); have HDb := Lib.hid ((hb4.block D2 (Array.getElem?_eq_some_iff.1 HD2.out).1).trans HD2.out); have H8 := Lib.hid hw8; have HB4 := Lib.hid hY4.below
                  clear hb4 hY4 hw8 hB4 HB3 HY HD1 HD2
                  gi_wp2_with fail
                  have hDb5 := (Odd.set H8.out 0 (.bool true)).same D2 _ HDb.out rfl
                  have hDa5 := (Odd.set H8.out 0 (.bool true)).same D _ HDa.out rfl
                  have hr5 : (w4.setCell ⟨w.heap.size + 1 + 1 + 1, 0, none⟩ (.bool true)).cell? ⟨w.heap.size + 1 + 1 + 1, 0, none⟩ = some (.bool true) := (H8.out.store 0 _).cell 0
                  have hb5 : Below w.heap.size w (w4.setCell ⟨w.heap.size + 1 + 1 + 1, 0, none⟩ (.bool true)) := HB4.out.setCell (p := ⟨w.heap.size + 1 + 1 + 1, 0, none⟩) (by show w.heap.size ≤ w.heap.size + 1 + 1 + 1; omega) _
                  have hDD : D ≠ D2 := by omega
                  refine ⟨by simp, .inl ⟨_, _, rfl, run_takeDeferred hDb5, ?_⟩⟩
                  have hDa6 : ((w4.setCell ⟨w.heap.size + 1 + 1 + 1, 0, none⟩ (.bool true)).putObj D2 (.deferred none)).heap[D]? = some (.deferred (some [])) := (World.putObj_heap_other hDD).trans hDa5
                  refine ⟨by simp, .inl ⟨_, _, rfl, run_takeDeferred hDa6, ?_⟩⟩
                  have hc6 : ((w4.setCell ⟨w.heap.size + 1 + 1 + 1, 0, none⟩ (.bool true)).putObj D2 (.deferred none)).cell? ⟨w.heap.size + 1 + 1 + 1, 0, none⟩ = some (.bool true) := (World.cell?_of_block (World.putObj_heap_other (k := w.heap.size + 1 + 1 + 1) (by omega))).trans hr5
                  have hc7 : (((w4.setCell ⟨w.heap.size + 1 + 1 + 1, 0, none⟩ (.bool true)).putObj D2 (.deferred none)).putObj D (.deferred none)).cell? ⟨w.heap.size + 1 + 1 + 1, 0, none⟩ = some (.bool true) := (World.cell?_of_block (World.putObj_heap_other (k := w.heap.size + 1 + 1 + 1) (by omega))).trans hc6
                  have hb6 := hb5.grown (grownBy_putObj' _ D2 (.deferred none)) hb5.size (fun k e => by cases e; omega)
                  have hb7 := hb6.grown (grownBy_putObj' _ D (.deferred none)) hb6.size (fun k e => by cases e; omega)
                  refine ⟨.bool true, ?_, rfl, hb7⟩
                  simp [results, Try.f6, go_sem, hc7]
                · rw [decide_eq_false han] at hc18
                  rw [if_neg han, List.append_nil] at HY
                  obtain ⟨ids, hids⟩ : ∃ y, wantK k a g0 k = y := ⟨_, rfl⟩
                  rw [hids] at HY HR hwl
                  clear hids
                  have hcf := (HY.out.on HB.out).cell.cell 0
                  have HEq := Lib.hid (equal_int wr (by omega) (by omega) (ints_own (HY.out.on HB.out).row) (ints_own HR.out))
                  have HBn := HB
                  gi_wp2_with fail
                  refine ⟨trivial, ?_⟩
                  gi_at_call 28
                  refine (callsIn_wide.2 HEq.out).mono ?_
                  rintro r w3 ⟨rfl, q, rfl⟩
                  have HB3 := Lib.hid (below_drewN HBn.out q)
                  clear HEq HBn hcf
                  rw [beq_self_eq_true]
                  gi_wp2_with fail
                  refine ⟨trivial, ?_⟩
                  gi_at_call 12
                  refine (callsIn_wide.2 (arawake_any _)).mono ?_
                  rintro r w4 ⟨rfl, hB4⟩
                  have hb4 := HB3.out.trans (hB4.mono HB3.out.size)
                  have hY4 := HY.out.on hb4
                  have hw8 : Whole w4 (w.heap.size + 1 + 1 + 1) 4 #[.bool false] := (hY4.cells _ (List.mem_append_right _ (s2_old M8.out))).1
                  have hc8 : w4.cell? ⟨w.heap.size + 1 + 1 + 1, 0, none⟩ = some (.bool false) := hw8.cell 0
                  have hf8 := hw8.frozen 0
                  have HDa := Lib.hid ((hb4.block D (Array.getElem?_eq_some_iff.1 HD1.out).1).trans HD1.out); have HDb := Lib.hid ((hb4.block D2 (Array.getElem?_eq_some_iff.1 HD2.out).1).trans HD2.out); have H8 := Lib.hid hw8; have HB4 := Lib.hid hY4.below
                  clear hb4 hY4 hw8 hB4 HB3 HY HD1 HD2
                  gi_wp2_with fail
                  have hDb5 := (Odd.set H8.out 0 (.bool true)).same D2 _ HDb.out rfl
                  have hDa5 := (Odd.set H8.out 0 (.bool true)).same D _ HDa.out rfl
                  have hr5 : (w4.setCell ⟨w.heap.size + 1 + 1 + 1, 0, none⟩ (.bool true)).cell? ⟨w.heap.size + 1 + 1 + 1, 0, none⟩ = some (.bool true) := (H8.out.store 0 _).cell 0
                  have hb5 : Below w.heap.size w (w4.setCell ⟨w.heap.size + 1 + 1 + 1, 0, none⟩ (.bool true)) := HB4.out.setCell (p := ⟨w.heap.size + 1 + 1 + 1, 0, none⟩) (by show w.heap.size ≤ w.heap.size + 1 + 1 + 1; omega) _
                  have hDD : D ≠ D2 := by omega
                  refine ⟨by simp, .inl ⟨_, _, rfl, run_takeDeferred hDb5, ?_⟩⟩
                  have hDa6 : ((w4.setCell ⟨w.heap.size + 1 + 1 + 1, 0, none⟩ (.bool true)).putObj D2 (.deferred none)).heap[D]? = some (.deferred (some [])) := (World.putObj_heap_other hDD).trans hDa5
                  refine ⟨by simp, .inl ⟨_, _, rfl, run_takeDeferred hDa6, ?_⟩⟩
                  have hc6 : ((w4.setCell ⟨w.heap.size + 1 + 1 + 1, 0, none⟩ (.bool true)).putObj D2 (.deferred none)).cell? ⟨w.heap.size + 1 + 1 + 1, 0, none⟩ = some (.bool true) := (World.cell?_of_block (World.putObj_heap_other (k := w.heap.size + 1 + 1 + 1) (by omega))).trans hr5
                  have hc7 : (((w4.setCell ⟨w.heap.size + 1 + 1 + 1, 0, none⟩ (.bool true)).putObj D2 (.deferred none)).putObj D (.deferred none)).cell? ⟨w.heap.size + 1 + 1 + 1, 0, none⟩ = some (.bool true) := (World.cell?_of_block (World.putObj_heap_other (k := w.heap.size + 1 + 1 + 1) (by omega))).trans hc6
                  have hb6 := hb5.grown (grownBy_putObj' _ D2 (.deferred none)) hb5.size (fun k e => by cases e; omega)
                  have hb7 := hb6.grown (grownBy_putObj' _ D (.deferred none)) hb6.size (fun k e => by cases e; omega)
                  refine ⟨.bool true, ?_, rfl, hb7⟩
                  simp [results, Try.f6, go_sem, hc7]
          · exact hi.elim
theorem arenaYields_walk (v : Value) (zss : List (List Int)) (hm : zss.length ≤ maxLen) (hw : ∀ zs ∈ zss, zs.length ≤ maxLen ∧ ∀ x ∈ zs, (Lit.int .u8 x).wf = true) (st : Int) (hs : (Lit.int .u8 st).wf = true) (at_ : Int) (ha : (Lit.int .u8 at_).wf = true) (go_ : Int) (hg : (Lit.int .u8 go_).wf = true) (w : World) (hR : Rows2 .u8 w.heap.size w v zss) :
    Calls Try.prog 6 #[v, .int .u8 st, .int .u8 at_, .int .u8 go_] w fun e w' => e = .returned (.bool true) ∧ Below w.heap.size w w' :=
  core v zss st at_ go_ (u8_wf hs).1 (u8_wf hs).2 (u8_wf ha).1 (u8_wf ha).2 (u8_wf hg).1 (u8_wf hg).2 w hR hm hw
end Go.Proofs.Ytjkhhnfmefbohaa.arenaYields

