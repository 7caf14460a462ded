/- dimacs.Read. -/
import Derived.Test.YticcgmegimiegaaGreatDoorDmTaking
import Derived.Test.YticcgmegimiegaaGreatDoorDmWordsIter
import Derived.Test.YticcgmegimiegaaGreatDoorScopeIn
import Derived.Laws.EntriesVeiled
namespace Go.Proofs.YticcgmegimiegaaGreatDoor
open Go.RowKit Go.ChangeAt Go.ChangeShapes Go.WideShapes Go.Shelf Go.Sort

attribute [local go_sem] Oper.semAt_some

/-- What is read of the words: a fault, or the clauses and what was begun. -/
def readW (V C : Int) : List (Nat × List UInt8) → List (List Int) → List Int → (Nat × Int) ⊕ (List (List Int) × List Int)
  | [], L, cur => .inr (L, cur)
  | p :: r, L, cur => if takeE V C L cur p.2 = 0 then readW V C r (takeN L cur p.2).1 (takeN L cur p.2).2 else .inl (p.1, takeE V C L cur p.2)
theorem readW_cons (V C : Int) (n : Nat) (x : List UInt8) (r : List (Nat × List UInt8)) (L : List (List Int)) (cur : List Int) : readW V C ((n, x) :: r) L cur = if takeE V C L cur x = 0 then readW V C r (takeN L cur x).1 (takeN L cur x).2 else .inl (n, takeE V C L cur x) := by
  rw [readW]
/-- What a text says: a fault, or the number of the variables and the clauses. -/
def readAll (S : List UInt8) : (Nat × Int) ⊕ (Int × List (List Int)) :=
  if 4194304 < S.length then .inl (0, 3)
  else if (headR S).2.2.2 = 0 then
    match readW (headR S).2.1 (headR S).2.2.1 (wordsS S (headR S).1) [] [] with
    | .inl x => .inl x
    | .inr x => if (x.1.length : Int) < (headR S).2.2.1 then .inl (behindN S, 63) else .inr ((headR S).2.1, x.1)
  else .inl ((headR S).1, (headR S).2.2.2)
/-- .. as what is returned. -/
def ReadE (w : World) (x : (Nat × Int) ⊕ (Int × List (List Int))) (e : Ending) (w' : World) : Prop := match x with
  | .inl x => e = .returned (.tuple #[.agg #[.int .i64 0, .slice none 0 0], .int .i64 x.1, .int .i64 x.2])
  | .inr x => ∃ v, e = .returned (.tuple #[.agg #[.int .i64 x.1, v], .int .i64 0, .int .i64 0]) ∧ OwnRows 38 w.heap.size w' v (cellsR x.2)
/-- Ahead of what is read and behind it: the boxes of the line and of the error, and the formula. -/
structure RdB (w : World) (bl be bf : Nat) (n e : Int) (W : World) : Prop where
  r : Whole W w.heap.size 24 #[.int .i64 0, .slice none 0 0]
  l : Whole W bl 3 #[.int .i64 n]
  e : Whole W be 34 #[.int .i64 e]
  b : Below w.heap.size w W
/-- What lies below is written to. -/
theorem Tk.low {X : Nat → Prop} {bf b1 : Nat} {V C : Int} {L : List (List Int)} {cur : List Int} {v c : Value} {svs : List Value} {W W' : World} {K : Nat → Prop} (h : Tk X bf b1 V C L cur v c svs W) (hk : Keeps K W W') (hK : ∀ x, K x → x < bf) : Tk X bf b1 V C L cur v c svs W' := by
  have hlt := h.lt
  have hn : ∀ x, bf ≤ x → ¬ K x := fun x hx hk' => by have := hK x hk'; omega
  exact ⟨h.f.same (hk.block _ h.f.lt (hn _ (Nat.le_refl _))), h.p.same (hk.block _ h.p.lt (hn _ (by omega))), h.n.same (hk.block _ h.n.lt (hn _ (by omega))), h.cb.same (hk.block _ h.cb.lt (hn _ (by omega))),
   owns_same h.row fun g hg => hk.block g (h.row.lt g hg).2 (hn _ (by have := (h.row.lt g hg).1; omega)), owns_same h.lits fun g hg => hk.block g (h.lits.lt g hg).2 (hn _ (by have := (h.lits.lt g hg).1; omega)), h.ne,
   h.ins.same (fun b hb hb' => hk.block b hb fun x => hb' (.inr (.inr (.inl (by have := hK b x; omega))))) hk.size (fun _ => .inl), h.x, h.xr, h.lt, h.len⟩
/-- taking's function, for every word. -/
theorem take_any (x : List UInt8) (hx : x.length ≤ 4000000000) {X : Nat → Prop} {bf b1 : Nat} {V C : Int} {L : List (List Int)} {cur : List Int} {v c : Value} {svs : List Value} {W : World} (h : Tk X bf b1 V C L cur v c svs W) (hXW : ∀ x, X x → x < W.heap.size) (hV : 0 ≤ V) (hC : (L.length : Int) ≤ C ∧ C ≤ 262144) :
    Calls Tryz.prog 91 #[str x, .pointer (some ⟨b1, 0, none⟩), .pointer (some ⟨b1 + 1, 0, none⟩), .pointer (some ⟨b1 + 1 + 1, 0, none⟩)] W fun e W' => e = .returned (.int .i64 (takeE V C L cur x)) ∧ Below bf W W' ∧ SameX X W W' ∧
      (takeE V C L cur x = 0 → ∃ v' c' svs', Tk X bf b1 V C (takeN L cur x).1 (takeN L cur x).2 v' c' svs' W') := by
  by_cases h0 : x = [48]
  · subst h0
    refine (take_end h hXW hV hC).mono ?_
    rintro e W' ⟨h1, h2, h3, h4⟩
    exact ⟨h1, h2, h3, fun he => by obtain ⟨v', s', ht⟩ := h4 he; exact ⟨_, _, _, ht⟩⟩
  · refine (take_word x hx h0 h hXW).mono ?_
    rintro e W' ⟨h1, h2, h3, h4⟩
    exact ⟨h1, h2, h3, fun he => by obtain ⟨c', ht⟩ := h4 he; unfold takeN; rw [if_neg h0]; exact ⟨_, _, _, ht⟩⟩
theorem take_len {V C : Int} {L : List (List Int)} {cur : List Int} {x : List UInt8} (h : takeE V C L cur x = 0) (hL : (L.length : Int) ≤ C) : ((takeN L cur x).1.length : Int) ≤ C := by
  unfold takeN
  split
  · rename_i h0
    have : ¬ (L.length : Int) = C := by
      intro e
      unfold takeE at h
      rw [if_neg (fun h => h.2 h0)] at h
      split at h
      · omega
      · first | omega | (rw [if_pos e] at h; omega)
    simp only [List.length_append, List.length_cons, List.length_nil]
    omega
  · exact hL
theorem wordsS_len {S : List UInt8} {h : Nat} {p : Nat × List UInt8} (hp : p ∈ wordsS S h) : p.2.length ≤ S.length := by
  unfold wordsS at hp
  obtain ⟨q, hq, hx⟩ := List.mem_flatMap.1 hp
  have hl := (lines_le hq).2.2
  unfold wordsOf at hx
  split at hx
  · cases hx
  · obtain ⟨y, hy, rfl⟩ := List.mem_map.1 hx
    have := segs_short (List.mem_filter.1 hy).1
    dsimp only
    omega
section
variable {w W W' : World} {bl be : Nat} {n e : Int} {K : Nat → Prop}
theorem RdB.keep (h : RdB w bl be 0 n e W) (hk : Keeps K W W') (hK : ∀ x, K x → w.heap.size < x ∧ x ≠ bl ∧ x ≠ be) : RdB w bl be 0 n e W' :=
  ⟨h.r.same (hk.block _ h.r.lt fun x => by have := hK _ x; omega), h.l.same (hk.block _ h.l.lt fun x => (hK _ x).2.1 rfl), h.e.same (hk.block _ h.e.lt fun x => (hK _ x).2.2 rfl), h.b.trans (hk.below h.b.size fun x hx => by have := (hK x hx).1; omega)⟩
theorem RdB.on (h : RdB w bl be 0 n e W) {B : Nat} (hb : Below B W W') (h1 : w.heap.size < B) (h2 : bl < B) (h3 : be < B) : RdB w bl be 0 n e W' :=
  ⟨h.r.same (hb.block _ h1), h.l.same (hb.block _ h2), h.e.same (hb.block _ h3), h.b.trans (hb.mono (Nat.le_of_lt h1))⟩
end
/-- Between two words. -/
def RdI (w : World) (bl : Nat) (ln : Nat) (V C : Int) (ws : List (Nat × List UInt8)) (k : Nat) (X : Nat → Prop) (W : World) : Prop :=
  ∃ L cur v c svs, Tk (fun x => X x ∨ x = bl + 1 + 1 + 1 + 1 + 1 + 1) (bl + 1 + 1) (bl + 1 + 1 + 1) V C L cur v c svs W ∧ readW V C ws [] [] = readW V C (ws.drop k) L cur ∧ (L.length : Int) ≤ C ∧ RdB w bl (bl + 1) 0 ln 0 W ∧
    Whole W (bl + 1 + 1 + 1 + 1 + 1 + 1) 100 #[.func (.func 91) #[] #[.pointer (some ⟨bl + 1 + 1 + 1, 0, none⟩), .pointer (some ⟨bl + 1 + 1 + 1 + 1, 0, none⟩), .pointer (some ⟨bl + 1 + 1 + 1 + 1 + 1, 0, none⟩)]] ∧
    w.heap.size < bl ∧ ∀ x, X x → bl + 1 + 1 + 1 + 1 + 1 + 1 < x ∧ x < W.heap.size
theorem rdI_inv (w : World) (bl : Nat) (ln : Nat) (V C : Int) (ws : List (Nat × List UInt8)) (k : Nat) : InvX (RdI w bl ln V C ws k) :=
  ⟨fun _ _ _ ⟨L, cur, v, c, svs, h1, h2, h3, h4, h5, h6, h7⟩ hk => ⟨L, cur, v, c, svs, h1.keep (hk.less fun _ => .inl), h2, h3, h4.keep hk fun x hx => by have := (h7 x hx).1; omega, h5.same (hk.block _ h5.lt fun x => by have := (h7 _ x).1; omega), h6, fun x hx => ⟨(h7 x hx).1, Nat.lt_of_lt_of_le (h7 x hx).2 hk.size⟩⟩,
   fun _ _ _ ⟨L, cur, v, c, svs, h1, h2, h3, h4, h5, h6, h7⟩ hb => ⟨L, cur, v, c, svs, h1.grow hb fun x hx => (hx.elim (fun h => h.elim (fun h => .inl (.inl h)) (fun h => .inr h.1)) (fun h => .inl (.inr h))), h2, h3, h4.on hb h4.r.lt h4.l.lt h4.e.lt, h5.same (hb.block _ h5.lt), h6, fun x hx => hx.elim (fun h => ⟨(h7 x h).1, Nat.lt_of_lt_of_le (h7 x h).2 hb.size⟩) (fun h => ⟨by have := h5.lt; omega, h.2⟩)⟩,
   fun _ _ ⟨_, _, _, _, _, _, _, _, _, _, _, h7⟩ x hx => (h7 x hx).2⟩
/-- When a fault was found. -/
def RdX (w : World) (bl : Nat) (V C : Int) (ws : List (Nat × List UInt8)) (cd : Code) (X : Nat → Prop) (W : World) : Prop :=
  cd = .exit 0 ∧ ∃ (n : Nat) (e : Int), readW V C ws [] [] = .inl (n, e) ∧ e ≠ 0 ∧ RdB w bl (bl + 1) 0 n e W ∧ (w.heap.size < bl ∧ bl + 1 + 1 + 1 + 1 + 1 + 1 < W.heap.size) ∧ ∀ x, X x → bl + 1 + 1 + 1 + 1 + 1 + 1 < x ∧ x < W.heap.size
theorem rdX_inv (w : World) (bl : Nat) (V C : Int) (ws : List (Nat × List UInt8)) (cd : Code) : InvX (RdX w bl V C ws cd) :=
  ⟨fun _ _ _ ⟨h0, n, e, h1, h2, h3, h4, h5⟩ hk => ⟨h0, n, e, h1, h2, h3.keep hk fun x hx => by have := (h5 x hx).1; have := h4.1; omega, ⟨h4.1, Nat.lt_of_lt_of_le h4.2 hk.size⟩, fun x hx => ⟨(h5 x hx).1, Nat.lt_of_lt_of_le (h5 x hx).2 hk.size⟩⟩,
   fun _ _ _ ⟨h0, n, e, h1, h2, h3, h4, h5⟩ hb => ⟨h0, n, e, h1, h2, h3.on hb h3.r.lt h3.l.lt h3.e.lt, ⟨h4.1, Nat.lt_of_lt_of_le h4.2 hb.size⟩, fun x hx => hx.elim (fun h => ⟨(h5 x h).1, Nat.lt_of_lt_of_le (h5 x h).2 hb.size⟩) (fun h => ⟨Nat.lt_of_lt_of_le h4.2 h.1, h.2⟩)⟩,
   fun _ _ ⟨_, _, _, _, _, _, _, h5⟩ x hx => (h5 x hx).2⟩
/-- Ahead of the loop. -/
theorem rd_start {w w2 w4 : World} {ln : Nat} {V C : Int} (hr : Whole w2 w.heap.size 24 #[.int .i64 0, .slice none 0 0]) (hb : Below w.heap.size w w2)
    (h4 : w4 = (((((w2.alloc (.cells #[.int .i64 (ln : Nat)] 3)).alloc (.cells #[.int .i64 0] 34)).alloc (.cells #[.int .i64 V, .slice none 0 0] 24)).alloc (.cells #[.pointer (some ⟨w2.heap.size + 1 + 1, 0, none⟩)] 102)).alloc (.cells #[.int .i64 C] 3)).alloc (.cells #[.slice none 0 0] 38)) :
    RdB w w2.heap.size (w2.heap.size + 1) 0 ln 0 w4 ∧ (∀ X : Nat → Prop, (∀ x, X x → w4.heap.size ≤ x) → Tk X (w2.heap.size + 1 + 1) (w2.heap.size + 1 + 1 + 1) V C [] [] (.slice none 0 0) (.slice none 0 0) [] w4) ∧ w4.heap.size = w2.heap.size + 1 + 1 + 1 + 1 + 1 + 1 ∧ w.heap.size < w2.heap.size := by
  obtain ⟨a1, e1⟩ : ∃ x, w2.alloc (.cells #[.int .i64 (ln : Nat)] 3) = x := ⟨_, rfl⟩
  have m1 := Whole.made w2 3 #[.int .i64 (ln : Nat)]
  have k1 : a1.heap.size = w2.heap.size + 1 := by rw [← e1, World.size_alloc]
  rw [e1] at m1 h4
  obtain ⟨a2, e2⟩ : ∃ x, a1.alloc (.cells #[.int .i64 0] 34) = x := ⟨_, rfl⟩
  have m2 := Whole.made a1 34 #[.int .i64 0]
  have k2 : a2.heap.size = a1.heap.size + 1 := by rw [← e2, World.size_alloc]
  rw [e2] at m2 h4
  obtain ⟨a3, e3⟩ : ∃ x, a2.alloc (.cells #[.int .i64 V, .slice none 0 0] 24) = x := ⟨_, rfl⟩
  have m3 := Whole.made a2 24 #[.int .i64 V, .slice none 0 0]
  have k3 : a3.heap.size = a2.heap.size + 1 := by rw [← e3, World.size_alloc]
  rw [e3] at m3 h4
  obtain ⟨a4, e4⟩ : ∃ x, a3.alloc (.cells #[.pointer (some ⟨w2.heap.size + 1 + 1, 0, none⟩)] 102) = x := ⟨_, rfl⟩
  have m4 := Whole.made a3 102 #[.pointer (some ⟨w2.heap.size + 1 + 1, 0, none⟩)]
  have k4 : a4.heap.size = a3.heap.size + 1 := by rw [← e4, World.size_alloc]
  rw [e4] at m4 h4
  obtain ⟨a5, e5⟩ : ∃ x, a4.alloc (.cells #[.int .i64 C] 3) = x := ⟨_, rfl⟩
  have m5 := Whole.made a4 3 #[.int .i64 C]
  have k5 : a5.heap.size = a4.heap.size + 1 := by rw [← e5, World.size_alloc]
  rw [e5] at m5 h4
  have m6 := Whole.made a5 38 #[.slice none 0 0]
  have k6 : w4.heap.size = a5.heap.size + 1 := by rw [h4, World.size_alloc]
  rw [← h4] at m6
  have s1 : Below w2.heap.size w2 a1 := e1 ▸ (Below.refl _ w2).alloc (Nat.le_refl _) _
  have s2 : Below a1.heap.size a1 w4 := by rw [h4, ← e5, ← e4, ← e3, ← e2]; exact (((((Below.refl _ a1).alloc (Nat.le_refl _) _).alloc (by simp) _).alloc (by simp; omega) _).alloc (by simp; omega) _).alloc (by simp; omega) _
  have s3 : Below a2.heap.size a2 w4 := by rw [h4, ← e5, ← e4, ← e3]; exact ((((Below.refl _ a2).alloc (Nat.le_refl _) _).alloc (by simp) _).alloc (by simp; omega) _).alloc (by simp; omega) _
  have s4 : Below a3.heap.size a3 w4 := by rw [h4, ← e5, ← e4]; exact (((Below.refl _ a3).alloc (Nat.le_refl _) _).alloc (by simp) _).alloc (by simp; omega) _
  have s5 : Below a4.heap.size a4 w4 := by rw [h4, ← e5]; exact ((Below.refl _ a4).alloc (Nat.le_refl _) _).alloc (by simp) _
  have s6 : Below a5.heap.size a5 w4 := by rw [h4]; exact (Below.refl _ a5).alloc (Nat.le_refl _) _
  have hlt := hr.lt
  have sw : Below w2.heap.size w2 w4 := s1.trans (s2.mono (by omega))
  have n2 : Whole w4 (w2.heap.size + 1) 34 #[.int .i64 0] := by rw [← k1]; exact m2.same (s3.block _ m2.lt)
  have n3 : Whole w4 (w2.heap.size + 1 + 1) 24 #[.int .i64 V, .slice none 0 0] := by rw [← k1, ← k2]; exact m3.same (s4.block _ m3.lt)
  have n4 : Whole w4 (w2.heap.size + 1 + 1 + 1) 102 #[.pointer (some ⟨w2.heap.size + 1 + 1, 0, none⟩)] := by
    have := m4.same (s5.block _ m4.lt)
    rwa [k3, k2, k1] at this
  have n5 : Whole w4 (w2.heap.size + 1 + 1 + 1 + 1) 3 #[.int .i64 C] := by
    have := m5.same (s6.block _ m5.lt)
    rwa [k4, k3, k2, k1] at this
  have n6 : Whole w4 (w2.heap.size + 1 + 1 + 1 + 1 + 1) 38 #[.slice none 0 0] := by rwa [k5, k4, k3, k2, k1] at m6
  refine ⟨⟨hr.same (sw.block _ hlt), m1.same (s2.block _ m1.lt), n2, hb.trans (sw.mono hb.size)⟩, fun X hX => ?_, by omega, hlt⟩
  have hx : ∀ x, x < w4.heap.size → ¬ X x := fun x hl h => by have := hX x h; omega
  exact ⟨n3, n4, n5, n6, World.ownsRow_nil _ _ _ _, World.ownsRow_nil _ _ _ _, fun g h => (by cases h), ⟨rfl, fun j xs h => (by cases h)⟩, ⟨hx _ n3.lt, hx _ n4.lt, hx _ n5.lt, hx _ n6.lt⟩, fun g h => (by rcases h with h | h <;> cases h), by omega, ⟨by simp, by simp⟩⟩
theorem rd_loop {w w4 w6 : World} {bl ln : Nat} {V C : Int} {ws : List (Nat × List UInt8)} {S : List UInt8} (h1 : RdB w bl (bl + 1) 0 ln 0 w4) (h2 : ∀ X : Nat → Prop, (∀ x, X x → w4.heap.size ≤ x) → Tk X (bl + 1 + 1) (bl + 1 + 1 + 1) V C [] [] (.slice none 0 0) (.slice none 0 0) [] w4) (h3 : w4.heap.size = bl + 1 + 1 + 1 + 1 + 1 + 1) (h4 : w.heap.size < bl) (hC : 0 ≤ C)
    (h6 : w6 = ((w4.alloc (.cells #[.func (.func 91) #[] #[.pointer (some ⟨bl + 1 + 1 + 1, 0, none⟩), .pointer (some ⟨bl + 1 + 1 + 1 + 1, 0, none⟩), .pointer (some ⟨bl + 1 + 1 + 1 + 1 + 1, 0, none⟩)]] 100)).alloc (.cells #[str S] 9)).alloc (.cells #[.int .i64 (ln : Nat)] 3)) :
    RdI w bl ln V C ws 0 (fun b => b = bl + 1 + 1 + 1 + 1 + 1 + 1 + 1 ∨ b = bl + 1 + 1 + 1 + 1 + 1 + 1 + 1 + 1) w6 ∧ Whole w6 (bl + 1 + 1 + 1 + 1 + 1 + 1 + 1) 9 #[str S] ∧ Whole w6 (bl + 1 + 1 + 1 + 1 + 1 + 1 + 1 + 1) 3 #[.int .i64 (ln : Nat)] := by
  obtain ⟨a1, e1⟩ : ∃ x, w4.alloc (.cells #[.func (.func 91) #[] #[.pointer (some ⟨bl + 1 + 1 + 1, 0, none⟩), .pointer (some ⟨bl + 1 + 1 + 1 + 1, 0, none⟩), .pointer (some ⟨bl + 1 + 1 + 1 + 1 + 1, 0, none⟩)]] 100) = x := ⟨_, rfl⟩
  have m1 := Whole.made w4 100 #[.func (.func 91) #[] #[.pointer (some ⟨bl + 1 + 1 + 1, 0, none⟩), .pointer (some ⟨bl + 1 + 1 + 1 + 1, 0, none⟩), .pointer (some ⟨bl + 1 + 1 + 1 + 1 + 1, 0, none⟩)]]
  have k1 : a1.heap.size = w4.heap.size + 1 := by rw [← e1, World.size_alloc]
  have b1 : Below w4.heap.size w4 a1 := e1 ▸ (Below.refl _ w4).alloc (Nat.le_refl _) _
  rw [e1] at m1 h6
  obtain ⟨a2, e2⟩ : ∃ x, a1.alloc (.cells #[str S] 9) = x := ⟨_, rfl⟩
  have m2 := Whole.made a1 9 #[str S]
  have k2 : a2.heap.size = a1.heap.size + 1 := by rw [← e2, World.size_alloc]
  have b2 : Below a1.heap.size a1 a2 := e2 ▸ (Below.refl _ a1).alloc (Nat.le_refl _) _
  rw [e2] at m2 h6
  have m3 := Whole.made a2 3 #[.int .i64 (ln : Nat)]
  have k3 : w6.heap.size = a2.heap.size + 1 := by rw [h6, World.size_alloc]
  have b3 : Below a2.heap.size a2 w6 := h6 ▸ (Below.refl _ a2).alloc (Nat.le_refl _) _
  rw [← h6] at m3
  have bw : Below w4.heap.size w4 w6 := (b1.trans (b2.mono (by omega))).trans (b3.mono (by omega))
  rw [h3] at m1
  rw [k1, h3] at m2
  rw [k2, k1, h3] at m3
  have n1 := (m1.same (b2.block _ m1.lt))
  have n2 := n1.same (b3.block _ n1.lt)
  refine ⟨⟨[], [], _, _, _, (h2 (fun _ => False) (fun _ h => h.elim)).grow bw (fun x hx => .inr (by rcases hx with (h | h) | h <;> omega)), rfl, hC, h1.on bw h1.r.lt h1.l.lt h1.e.lt, n2, h4, fun x hx => by omega⟩, m2.same (b3.block _ m2.lt), m3⟩
theorem head_line (S : List UInt8) : (headR S).1 ≤ S.length + 2 := by
  unfold headR
  cases h : linesL S with
  | nil => dsimp only; unfold behindN; have := List.count_le_length (a := (10 : UInt8)) (l := S); omega
  | cons p r =>
    have := (lines_le (S := S) (p := p) (by rw [h]; simp)).2.1
    dsimp only
    split <;> (dsimp only; omega)
theorem head_nums (S : List UInt8) (h : (headR S).2.2.2 = 0) : 0 ≤ (headR S).2.1 ∧ (headR S).2.1 ≤ 1048576 ∧ 0 ≤ (headR S).2.2.1 ∧ (headR S).2.2.1 ≤ 262144 := by
  revert h
  unfold headR
  cases linesL S with
  | nil => intro h; cases h
  | cons p r =>
    dsimp only
    split
    · rename_i h
      intro _
      unfold prsH at h
      have h1 := of_decide_eq_true (Bool.and_eq_true_iff.1 h).1
      unfold hdrE at h1
      split at h1
      · cases h1
      · split at h1
        · cases h1
        · dsimp only; omega
    · intro h; cases h
set_option maxRecDepth 100000 in
set_option maxHeartbeats 8000000 in
theorem dmRead_any (S : List UInt8) (hS : S.length ≤ 4000000000) (w : World) (he : Env w) :
    CallsIn .wide 20 Tryz.prog 17 #[str S] w fun e w' => ReadE w (readAll S) e w' ∧ Below w.heap.size w w' := by
  have hhd := fun W hW => callsIn_wide.1 (heading_in S hS W hW)
  have hw1 := Whole.made w 24 #[.int .i64 0, .slice none 0 0]
  have hb1 : Below w.heap.size w (w.alloc (.cells #[.int .i64 0, .slice none 0 0] 24)) := (Below.refl _ w).alloc (Nat.le_refl _) _
  obtain ⟨w1, hw1e⟩ : ∃ x, w.alloc (.cells #[.int .i64 0, .slice none 0 0] 24) = x := ⟨_, rfl⟩
  rw [hw1e] at hw1 hb1
  have HHd := Lib.hid hhd; have HE := Lib.hid he; have HW1 := Lib.hid hw1; have HB1 := Lib.hid hb1
  clear hhd he
  refine callsIn_of_wp_marks Tryz.func17 rfl trivial ?_ rfl
  simp only [Tryz.ntmps17, List.size_toArray, List.length_cons, List.length_nil, Nat.reduceAdd, Nat.reduceSub, Array.replicate_succ, Array.replicate_zero, List.push_toArray, List.append_toArray, List.nil_append, List.cons_append]
  gi_wp2_with fail
  clear hw1e
  have f0 := hw1.frozen 0; have f1 := hw1.frozen 1
  have d0 : w1.cell? ⟨w.heap.size, 0, none⟩ = some (.int .i64 0) := hw1.cell 0
  have d1 : w1.cell? ⟨w.heap.size, 1, none⟩ = some (.slice none 0 0) := hw1.cell 1
  clear hw1 hb1
  refine wpIn_scope_straight ?_
  by_cases hlong : 4194304 < S.length
  · have hl' : (4194304 : Int) < (S.length : Int) := by omega
    gi_wp2_with fail
    rw [Exit.noGoto_ret]
    have hr := (HW1.out.store 0 (.int .i64 0)).store 1 (.slice none 0 0)
    refine ⟨_, results_row_tmp2 (fn := Tryz.f17) rfl _ _ w.heap.size 24 _ (0, 0) _ rfl hr Tryz.underlying24 rfl (by kernel_rfl), ?_, ?_⟩
    · unfold ReadE readAll; rw [if_pos hlong]; rfl
    · exact (HB1.out.setCell (p := ⟨w.heap.size, 0, none⟩) (Nat.le_refl _) _).setCell (p := ⟨w.heap.size, 1, none⟩) (Nat.le_refl _) _
  · have hl' : ¬ (4194304 : Int) < (S.length : Int) := by omega
    gi_wp2_with fail
    refine ⟨trivial, ?_⟩
    refine (callsIn_wide.2 (HHd.out w1 (HE.out.below HB1.out))).mono ?_
    rintro e w2 ⟨rfl, hb2⟩
    obtain ⟨ln, hln⟩ : ∃ x, (headR S).1 = x := ⟨_, rfl⟩
    obtain ⟨V, hV⟩ : ∃ x, (headR S).2.1 = x := ⟨_, rfl⟩
    obtain ⟨C, hC⟩ : ∃ x, (headR S).2.2.1 = x := ⟨_, rfl⟩
    obtain ⟨E, hE⟩ : ∃ x, (headR S).2.2.2 = x := ⟨_, rfl⟩
    have hn := head_nums S
    have hnl := head_line S
    have hra : readAll S = if E = 0 then (match readW V C (wordsS S ln) [] [] with
      | .inl x => .inl x
      | .inr x => if (x.1.length : Int) < C then .inl (behindN S, 63) else .inr (V, x.1)) else .inl (ln, E) := by
      unfold readAll; rw [if_neg hlong, hln, hV, hC, hE]
    rw [hV, hC, hE] at hn
    rw [hln] at hnl
    have HLn : Hid (ln ≤ 4000000001) := Lib.hid (by omega)
    clear hnl
    rw [hln, hV, hC, hE]
    have hb3 : Below w.heap.size w w2 := HB1.out.trans (hb2.mono HB1.out.size)
    have hr2 := HW1.out.same (hb2.block _ HW1.out.lt)
    have HB3 := Lib.hid hb3; have HR2 := Lib.hid hr2; have HRa := Lib.hid hra; have HN := Lib.hid hn
    clear hb2 hb3 hr2 hra hn hln hV hC hE f0 f1 d0 d1
    by_cases hE0 : E = 0
    · subst hE0
      have HN0 := Lib.hid (HN.out rfl)
      clear HN
      have hwd := fun W => words_any S (ln : Nat) W
      have htk := fun W => taking_any ⟨w2.heap.size + 1 + 1, 0, none⟩ C W
      have HWd := Lib.hid hwd; have HTk := Lib.hid htk
      clear hwd htk
      gi_wp2_with fail
      refine ⟨trivial, ?_⟩
      refine (callsIn_wide.2 (HTk.out _)).mono ?_
      rintro e w4 ⟨rfl, hw4⟩
      have HS := Lib.hid (rd_start HR2.out HB3.out hw4)
      clear hw4
      obtain ⟨bl, hbl⟩ : ∃ x, w2.heap.size = x := ⟨_, rfl⟩
      obtain ⟨b0, hb0⟩ : ∃ x, w.heap.size = x := ⟨_, rfl⟩
      rw [hbl] at HS
      have hbt := HS.out.2.2.1
      simp only [World.size_alloc]
      rw [hbl, hb0]
      have y0 : w4.cell? ⟨bl, 0, none⟩ = some (.int .i64 (ln : Nat)) := HS.out.1.l.cell 0
      have y5 : ∀ o, (w4.alloc o).cell? ⟨bl, 0, none⟩ = some (.int .i64 (ln : Nat)) := fun o => (whole_alloc HS.out.1.l o).cell 0
      have HB0 := Lib.hid hb0; have HBl := Lib.hid hbl; have HBt := Lib.hid hbt
      clear hb0 hbl
      have HY5 := Lib.hid y5
      gi_wp2_with fail
      refine wpIn_label ?_
      gi_wp2_with fail
      refine ⟨trivial, ?_⟩
      refine (callsIn_wide.2 (HWd.out _)).mono ?_
      rintro e w6 ⟨rfl, hw6⟩
      have hI := rd_loop (V := V) (C := C) (ln := ln) (ws := wordsS S ln) (S := S) HS.out.1 HS.out.2.1 HBt.out HS.out.2.2.2 HN0.out.2.2.1 hw6
      simp only [World.size_alloc, hbt]
      have HI := Lib.hid hI
      clear hw6 hI y0 y5 HY5 hbt
      gi_wp2_with fail
      refine range_iter rfl (enters_of Tryz.func94 (by kernel_rfl) rfl) (words_iter (bl + 1 + 1 + 1 + 1 + 1 + 1 + 1) (bl + 1 + 1 + 1 + 1 + 1 + 1 + 1 + 1) ln S hS (HLn.out)) (fun args h => by obtain ⟨x, -, rfl⟩ := List.mem_map.1 h; rfl)
        (RdI w bl ln V C (wordsS S ln)) (RdX w bl V C (wordsS S ln)) (rdI_inv w bl ln V C _) (rdX_inv w bl V C _) HI.out.1 (fun W' hb' => ⟨HI.out.2.1.same (hb'.block _ HI.out.2.1.lt), HI.out.2.2.same (hb'.block _ HI.out.2.2.lt)⟩)
        (PlainR ((wordsS S ln).map fun p => #[.int .i64 (p.1 : Nat), str p.2]) (RdI w bl ln V C (wordsS S ln)) (fun args => { tmps := #[str S, undef, .pointer (some ⟨b0, 0, none⟩), .int .i64 0, .int .i64 0, .pointer (some ⟨bl, 0, none⟩), .int .i64 V, .int .i64 C, .pointer (some ⟨bl + 1, 0, none⟩), .pointer (some ⟨bl + 1 + 1, 0, none⟩), .pointer (some ⟨bl + 1 + 1 + 1 + 1 + 1 + 1, 0, none⟩), args.getD 0 undef, args.getD 1 undef, str S, .int .i64 (S.length : Nat), .bool false, undef, (.tuple #[.int .i64 (ln : Nat), .int .i64 V, .int .i64 C, .int .i64 0]), str S, (.tuple #[.int .i64 (ln : Nat), .int .i64 V, .int .i64 C, .int .i64 0]), .int .i64 (ln : Nat), .int .i64 V, .int .i64 C, .int .i64 0, .int .i64 0, .bool false, undef, undef, undef, .int .i64 V, .agg #[.int .i64 V, .slice none 0 0], .int .i64 C, (.func (.func 91) #[] #[.pointer (some ⟨bl + 1 + 1 + 1, 0, none⟩), .pointer (some ⟨bl + 1 + 1 + 1 + 1, 0, none⟩), .pointer (some ⟨bl + 1 + 1 + 1 + 1 + 1, 0, none⟩)]), str S, .int .i64 (ln : Nat), (.func (.func 94) #[] #[.pointer (some ⟨bl + 1 + 1 + 1 + 1 + 1 + 1 + 1, 0, none⟩), .pointer (some ⟨bl + 1 + 1 + 1 + 1 + 1 + 1 + 1 + 1, 0, none⟩)]), args.getD 0 undef, args.getD 1 undef, undef, undef, undef, undef, undef, undef, undef, undef, undef, undef, undef, undef, undef, undef, undef, undef, undef, undef, undef, undef, undef, undef, undef], defers := [] })) (plainR_keep (rdI_inv w bl ln V C _)) ?assign ?body ?done ?stop
      case assign =>
        intro l' k X args W' hX hr hI hk
        obtain ⟨p, hp, rfl⟩ := List.mem_map.1 (List.mem_of_getElem? hk)
        have HI := Lib.hid hI; have HK := Lib.hid hk
        clear hI hk hr
        gi_wp2
        exact ⟨⟨_, rfl, HI.out, HK.out⟩, SameX.refl _ _⟩
      case body =>
        rintro l' k X a' W hX hr hown ⟨args, rfl, ⟨L, cur, v, c, svs, hT, hR, hLC, hB, hF, hb, hXr⟩, hk⟩ hlt
        obtain ⟨p, hp, rfl⟩ : ∃ p, (wordsS S ln)[k]? = some p ∧ #[.int .i64 (p.1 : Nat), str p.2] = args := by rw [List.getElem?_map] at hk; exact Option.map_eq_some_iff.1 hk
        obtain ⟨n, x⟩ := p
        have hxl := wordsS_len (List.mem_of_getElem? hp)
        have hdr : (wordsS S ln).drop k = (n, x) :: (wordsS S ln).drop (k + 1) := by
          obtain ⟨h1, h2⟩ := List.getElem?_eq_some_iff.1 hp
          rw [List.drop_eq_getElem_cons h1, h2]
        rw [hdr] at hR
        have htk := take_any x (by dsimp only at hxl; omega) hT (fun y hy => hy.elim (fun h => (hXr y h).2) (fun h => by rw [h]; exact hF.lt)) HN0.out.1 ⟨hLC, HN0.out.2.2.2⟩
        have c10 : W.cell? ⟨bl + 1 + 1 + 1 + 1 + 1 + 1, 0, none⟩ = some (.func (.func 91) #[] #[.pointer (some ⟨bl + 1 + 1 + 1, 0, none⟩), .pointer (some ⟨bl + 1 + 1 + 1 + 1, 0, none⟩), .pointer (some ⟨bl + 1 + 1 + 1 + 1 + 1, 0, none⟩)]) := hF.cell 0
        obtain ⟨E, hE⟩ : ∃ E, takeE V C L cur x = E := ⟨_, rfl⟩
        have hrw : readW V C (wordsS S ln) [] [] = if E = 0 then readW V C ((wordsS S ln).drop (k + 1)) (takeN L cur x).1 (takeN L cur x).2 else .inl (n, E) := by
          rw [hR, readW_cons, hE]
        have htl : E = 0 → ((takeN L cur x).1.length : Int) ≤ C := fun h => take_len (hE.trans h) hLC
        rw [hE] at htk
        have HTk2 := Lib.hid htk; have HF := Lib.hid hF; have HB := Lib.hid hB; have HXr := Lib.hid hXr; have HRw := Lib.hid hrw; have HTl := Lib.hid htl; have Hb := Lib.hid hb
        clear hT hR hLC hB hF hb hXr hk hp hxl hdr htk hE hrw htl hr hown hlt
        gi_wp2_with fail
        refine ⟨trivial, ?_⟩
        refine (CallsIn.inRound l' (callsIn_wide.2 HTk2.out)).mono ?_
        rintro e W1 ⟨rfl, hb1, hs1, ht1⟩
        have hB1 := HB.out.on hb1 (by have := Hb.out; omega) (by omega) (by omega)
        have hF1 := HF.out.same (hs1.2 _ (.inr rfl))
        have q0 : W1.cell? ⟨bl + 1, 0, none⟩ = some (.int .i64 0) := hB1.e.cell 0
        have q1 := hB1.e.frozen 0
        have q2 : (W1.setCell ⟨bl + 1, 0, none⟩ (.int .i64 E)).cell? ⟨bl, 0, none⟩ = some (.int .i64 (ln : Nat)) := (hB1.l.beside (by omega) _).cell 0
        have q3 := (hB1.l.beside (b := bl + 1) (i := 0) (by omega) (.int .i64 E)).frozen 0
        have k1 : Keeps (fun x => x = bl + 1) W1 (W1.setCell ⟨bl + 1, 0, none⟩ (.int .i64 E)) := (Keeps.refl (fun x => x = bl + 1) W1).setCell (p := ⟨bl + 1, 0, none⟩) (.inl rfl) _
        have hFs := hF1.beside (b := bl + 1) (i := 0) (by omega) (.int .i64 E)
        have hXr1 : ∀ y, X y → bl + 1 + 1 + 1 + 1 + 1 + 1 < y ∧ y < W1.heap.size := fun y hy => ⟨(HXr.out y hy).1, Nat.lt_of_lt_of_le (HXr.out y hy).2 hs1.1⟩
        have HB1' := Lib.hid hB1; have HFs := Lib.hid hFs; have HK1 := Lib.hid k1; have HS1 := Lib.hid hs1; have HT1 := Lib.hid ht1; have HXr1 := Lib.hid hXr1; have HF1 := Lib.hid hF1
        clear hb1 hB1 hF1 k1 hFs hs1 ht1 hXr1 c10
        by_cases hE0 : E = 0
        · subst hE0
          obtain ⟨v', c', svs', hT'⟩ := HT1.out rfl
          have hrw0 := HRw.out
          rw [if_pos rfl] at hrw0
          have HT' := Lib.hid hT'; have HLl := Lib.hid (HTl.out rfl); have HRw0 := Lib.hid hrw0
          clear hT' HTl HT1 HRw hrw0
          gi_wp2_with fail
          have hb0 := Hb.out
          refine ⟨⟨_, _, v', c', svs', HT'.out.low HK1.out (fun y hy => by omega), HRw0.out, HLl.out, ⟨HB1'.out.r.beside (by omega) _, HB1'.out.l.beside (by omega) _, HB1'.out.e.store 0 _, HB1'.out.b.setCell (p := ⟨bl + 1, 0, none⟩) (by dsimp only; omega) _⟩, HFs.out, hb0, fun y hy => ⟨(HXr1.out y hy).1, by have := (HXr1.out y hy).2; simpa [World.setCell] using this⟩⟩, ?_⟩
          exact (HS1.out.less (fun y hy => .inl hy)).trans (SameX.keeps (fun y hy => (HXr1.out y hy).2) HK1.out fun y hy => by have := (HXr1.out y hy).1; omega)
        · have hEb : (E != 0) = true := by simpa using hE0
          gi_wp2_with fail
          have hb0 := Hb.out
          have k2 := ((Keeps.refl (fun y => y = bl + 1 ∨ y = bl) W1).setCell (p := ⟨bl + 1, 0, none⟩) (.inl (.inl rfl)) (.int .i64 E)).setCell (p := ⟨bl, 0, none⟩) (.inl (.inr rfl)) (.int .i64 (n : Nat))
          have hsz : bl + 1 + 1 + 1 + 1 + 1 + 1 < ((W1.setCell ⟨bl + 1, 0, none⟩ (.int .i64 E)).setCell ⟨bl, 0, none⟩ (.int .i64 (n : Nat))).heap.size := by have := HF1.out.lt; simpa [World.setCell] using this
          refine ⟨⟨rfl, n, E, by rw [HRw.out, if_neg hE0], hE0, ⟨(HB1'.out.r.beside (by omega) _).beside (by omega) _, (HB1'.out.l.beside (by omega) _).store 0 _, (HB1'.out.e.store 0 _).beside (by omega) _, (HB1'.out.b.setCell (p := ⟨bl + 1, 0, none⟩) (by dsimp only; omega) _).setCell (p := ⟨bl, 0, none⟩) (by dsimp only; omega) _⟩, ⟨hb0, hsz⟩, fun y hy => ⟨(HXr1.out y hy).1, by have := (HXr1.out y hy).2; simpa [World.setCell] using this⟩⟩, ?_⟩
          exact (HS1.out.less (fun y hy => .inl hy)).trans (SameX.keeps (fun y hy => (HXr1.out y hy).2) k2 fun y hy => by have := (HXr1.out y hy).1; omega)
      case done =>
        rintro X W hX ⟨L, cur, v, c, svs, hT, hR, hLC, hB, hF, hb, hXr⟩ hD
        have hDl := (hXr _ hX).1
        obtain ⟨D, hDe⟩ : ∃ x, w6.heap.size = x := ⟨_, rfl⟩
        rw [hDe] at hD hDl
        rw [hDe]
        rw [List.length_map, List.drop_length] at hR
        have hR := hR.trans (show readW V C [] L cur = .inr (L, cur) by rw [readW])
        rw [hDe] at hX
        have HXD := Lib.hid hX
        obtain ⟨Av, cv, rfl⟩ := own_shape0 hT.row
        have y0 : W.cell? ⟨bl + 1, 0, none⟩ = some (.int .i64 0) := hB.e.cell 0
        have y1 : W.cell? ⟨bl, 0, none⟩ = some (.int .i64 (ln : Nat)) := hB.l.cell 0
        have y2 : W.cell? ⟨bl + 1 + 1, 1, none⟩ = some (.slice Av L.length cv) := hT.f.cell 1
        have y3 : W.cell? ⟨bl + 1 + 1, 0, none⟩ = some (.int .i64 V) := hT.f.cell 0
        have hbh := fun W => behind_any S hS W
        have z0 := hB.e.frozen 0
        have z1 := hB.l.frozen 0
        have HB := Lib.hid hB; have HR := Lib.hid hR; have Hb := Lib.hid hb; have HD := Lib.hid hD; have HDl := Lib.hid hDl; have HT := Lib.hid hT; have HBh := Lib.hid hbh
        clear hB hR hb hD hDl hX hXr hDe hLC hT hF hbh
        by_cases hlt : (L.length : Int) < C
        · gi_wp2_with fail
          refine ⟨trivial, ?_⟩
          refine (callsIn_wide.2 (HBh.out W)).mono ?_
          rintro e W4 ⟨rfl, rfl⟩
          have u0 : (W4.setCell ⟨bl, 0, none⟩ (.int .i64 (behindN S : Nat))).cell? ⟨bl + 1, 0, none⟩ = some (.int .i64 0) := (HB.out.e.beside (by omega) _).cell 0
          have u1 := (HB.out.e.beside (b := bl) (i := 0) (by omega) (.int .i64 (behindN S : Nat))).frozen 0
          have hbl := Hb.out
          have hDl := HDl.out
          obtain ⟨Z, hZ⟩ : ∃ x, (W4.setCell ⟨bl, 0, none⟩ (.int .i64 (behindN S : Nat))).setCell ⟨bl + 1, 0, none⟩ (.int .i64 63) = x := ⟨_, rfl⟩
          have HBz : Hid (RdB w bl (bl + 1) 0 (behindN S : Nat) 63 Z) := Lib.hid (by rw [← hZ]; exact ⟨(HB.out.r.beside (by omega) _).beside (by omega) _, (HB.out.l.store 0 _).beside (by omega) _, (HB.out.e.beside (by omega) _).store 0 _, (HB.out.b.setCell (p := ⟨bl, 0, none⟩) (by dsimp only; omega) _).setCell (p := ⟨bl + 1, 0, none⟩) (by dsimp only; omega) _⟩)
          have HDz : Hid (Z.heap[D]? = some (.deferred (some []))) := Lib.hid (by rw [← hZ, heap_set_ne (by dsimp only; omega), heap_set_ne (by dsimp only; omega)]; exact HD.out)
          have r0 : Z.cell? ⟨bl + 1, 0, none⟩ = some (.int .i64 63) := HBz.out.e.cell 0
          have r1 : Z.cell? ⟨bl, 0, none⟩ = some (.int .i64 (behindN S : Nat)) := HBz.out.l.cell 0
          clear hbl hDl
          gi_wp2_with fail
          have hb1 := HB0.out
          have x0 : Z.cell? ⟨b0, 0, none⟩ = some (.int .i64 0) := by rw [← hb1]; exact HBz.out.r.cell 0
          have x1 : Z.cell? ⟨b0, 1, none⟩ = some (.slice none 0 0) := by rw [← hb1]; exact HBz.out.r.cell 1
          have g0 : Z.frozen? ⟨b0, 0, none⟩ = false := by rw [← hb1]; exact HBz.out.r.frozen 0
          have g1 : Z.frozen? ⟨b0, 1, none⟩ = false := by rw [← hb1]; exact HBz.out.r.frozen 1
          have hbl := Hb.out
          have v0 : ((Z.setCell ⟨b0, 0, none⟩ (.int .i64 0)).setCell ⟨b0, 1, none⟩ (.slice none 0 0)).cell? ⟨bl, 0, none⟩ = some (.int .i64 (behindN S : Nat)) := ((HBz.out.l.beside (by omega) _).beside (by omega) _).cell 0
          have v1 : ((Z.setCell ⟨b0, 0, none⟩ (.int .i64 0)).setCell ⟨b0, 1, none⟩ (.slice none 0 0)).cell? ⟨bl + 1, 0, none⟩ = some (.int .i64 63) := ((HBz.out.e.beside (by omega) _).beside (by omega) _).cell 0
          clear hb1 hbl
          refine wpIn_wide.2 ?_
          go_region_held3 (fun Z' => Z'.cell? ⟨bl, 0, none⟩ = some (.int .i64 (behindN S : Nat)) ∧ Z'.cell? ⟨bl + 1, 0, none⟩ = some (.int .i64 63)) (first | go_keep | exact ⟨v0, v1⟩) (fail)
          all_goals go_simp
          gi_wp2_with fail
          rw [Exit.noGoto_ret]
          have hb0 := HB0.out
          have hbl := Hb.out
          have hDl := HDl.out
          have hD2 : (((Z.setCell ⟨b0, 0, none⟩ (.int .i64 0)).setCell ⟨b0, 1, none⟩ (.slice none 0 0)).drew).heap[D]? = some (.deferred (some [])) := by
            show ((Z.setCell ⟨b0, 0, none⟩ (.int .i64 0)).setCell ⟨b0, 1, none⟩ (.slice none 0 0)).heap[D]? = _
            rw [heap_set_ne (by dsimp only; omega), heap_set_ne (by dsimp only; omega)]; exact HDz.out
          refine ⟨by simp, .inl ⟨_, _, rfl, run_takeDeferred hD2, ?_⟩⟩
          have hr0 := (HBz.out.r.store 0 (.int .i64 0)).store 1 (.slice none 0 0)
          rw [hb0] at hr0
          have hr : Whole ((((Z.setCell ⟨b0, 0, none⟩ (.int .i64 0)).setCell ⟨b0, 1, none⟩ (.slice none 0 0)).drew).putObj D (.deferred none)) b0 24 _ := (whole_drew hr0).same (World.putObj_heap_other (k := b0) (by omega))
          refine ⟨_, results_row_tmp2 (fn := Tryz.f17) rfl _ _ b0 24 _ (0, 0) _ rfl hr Tryz.underlying24 rfl (by kernel_rfl), ?_, ?_⟩
          · unfold ReadE; rw [HRa.out, if_pos trivial, HR.out]; dsimp only; rw [if_pos hlt]; rfl
          · have hb := ((HBz.out.b.setCell (p := ⟨b0, 0, none⟩) (by dsimp only; omega) (.int .i64 0)).setCell (p := ⟨b0, 1, none⟩) (by dsimp only; omega) (.slice none 0 0)).drew
            exact hb.grown (grownBy_putObj' _ D (.deferred none)) hb.size (fun k e => by cases e; omega)
        · have hb1 := HB0.out
          have x0 : W.cell? ⟨b0, 0, none⟩ = some (.int .i64 0) := by rw [← hb1]; exact HB.out.r.cell 0
          have x1 : (W.setCell ⟨b0, 0, none⟩ (.int .i64 V)).cell? ⟨b0, 1, none⟩ = some (.slice none 0 0) := by rw [← hb1]; exact (HB.out.r.store 0 _).cell 1
          have g0 : W.frozen? ⟨b0, 0, none⟩ = false := by rw [← hb1]; exact HB.out.r.frozen 0
          have g1 : (W.setCell ⟨b0, 0, none⟩ (.int .i64 V)).frozen? ⟨b0, 1, none⟩ = false := by rw [← hb1]; exact (HB.out.r.store 0 (.int .i64 V)).frozen 1
          clear hb1
          gi_wp2_with fail
          have hb0 := HB0.out
          have hbl := Hb.out
          have hDl := HDl.out
          have hD2 : ((W.setCell ⟨b0, 0, none⟩ (.int .i64 V)).setCell ⟨b0, 1, none⟩ (.slice Av L.length cv)).heap[D]? = some (.deferred (some [])) := by
            rw [heap_set_ne (by dsimp only; omega), heap_set_ne (by dsimp only; omega)]; exact HD.out
          refine ⟨by simp, .inl ⟨_, _, rfl, run_takeDeferred hD2, ?_⟩⟩
          have hr0 := (HB.out.r.store 0 (.int .i64 V)).store 1 (.slice Av L.length cv)
          rw [hb0] at hr0
          have hr : Whole (((W.setCell ⟨b0, 0, none⟩ (.int .i64 V)).setCell ⟨b0, 1, none⟩ (.slice Av L.length cv)).putObj D (.deferred none)) b0 24 _ := hr0.same (World.putObj_heap_other (k := b0) (by omega))
          refine ⟨_, results_row_tmp2 (fn := Tryz.f17) rfl _ _ b0 24 _ (0, 0) _ rfl hr Tryz.underlying24 rfl (by kernel_rfl), ?_, ?_⟩
          · unfold ReadE; rw [HRa.out, if_pos trivial, HR.out]; dsimp only; rw [if_neg (by omega)]
            have hsz : (((W.setCell ⟨b0, 0, none⟩ (.int .i64 V)).setCell ⟨b0, 1, none⟩ (.slice Av L.length cv)).putObj D (.deferred none)).heap.size = W.heap.size := by simp [World.setCell, World.putObj]
            have hbk : ∀ b, b ≠ b0 → b ≠ D → (((W.setCell ⟨b0, 0, none⟩ (.int .i64 V)).setCell ⟨b0, 1, none⟩ (.slice Av L.length cv)).putObj D (.deferred none)).heap[b]? = W.heap[b]? := fun b h1 h2 => by
              rw [World.putObj_heap_other (by omega), heap_set_ne h1, heap_set_ne h1]
            have hcl : (cellsR L).length = L.length := by simp [cellsR]
            refine ⟨_, rfl, svs, ?_, ?_⟩
            · rw [hcl]
              exact (owns_same HT.out.row fun g hg => hbk g (by have := (HT.out.row.lt g hg).1; omega) (fun e => HT.out.xr g (.inl hg) (.inl (by rw [e]; exact HXD.out)))).mono (by omega)
            · exact HT.out.ins.same (fun b _ hn => hbk b (fun e => hn (.inr (.inr (.inl (by omega))))) (fun e => hn (.inr (.inr (.inr (.inl (by rw [e]; exact HXD.out)))))))  (Nat.le_of_eq hsz.symm) (fun i hi => by
                rcases hi with y | y
                · exact .inl (.inl y)
                · exact .inl (.inr (.inr (.inl (by omega)))))
          · have hb := (HB.out.b.setCell (p := ⟨b0, 0, none⟩) (by dsimp only; omega) (.int .i64 V)).setCell (p := ⟨b0, 1, none⟩) (by dsimp only; omega) (.slice Av L.length cv)
            exact hb.grown (grownBy_putObj' _ D (.deferred none)) hb.size (fun k e => by cases e; omega)
      case stop =>
        rintro c X W hX ⟨rfl, n, E, hR, hE, hB, ⟨hb, hsz⟩, hXr⟩ hD
        have hDl := (hXr _ hX).1
        obtain ⟨D, hDe⟩ : ∃ x, w6.heap.size = x := ⟨_, rfl⟩
        rw [hDe] at hD hDl
        rw [hDe]
        have y0 : W.cell? ⟨bl + 1, 0, none⟩ = some (.int .i64 E) := hB.e.cell 0
        have y1 : W.cell? ⟨bl, 0, none⟩ = some (.int .i64 (n : Nat)) := hB.l.cell 0
        have HB := Lib.hid hB; have HR := Lib.hid hR; have Hb := Lib.hid hb; have HD := Lib.hid hD; have HDl := Lib.hid hDl
        have hEb : (E != 0) = true := by simpa using hE
        have hEb2 : (E == 0) = false := by simpa using hE
        clear hB hR hb hD hDl hX hXr hDe hsz hE
        gi_wp2_with fail
        have hb1 := HB0.out
        have x0 : W.cell? ⟨b0, 0, none⟩ = some (.int .i64 0) := by rw [← hb1]; exact HB.out.r.cell 0
        have x1 : W.cell? ⟨b0, 1, none⟩ = some (.slice none 0 0) := by rw [← hb1]; exact HB.out.r.cell 1
        have g0 : W.frozen? ⟨b0, 0, none⟩ = false := by rw [← hb1]; exact HB.out.r.frozen 0
        have g1 : W.frozen? ⟨b0, 1, none⟩ = false := by rw [← hb1]; exact HB.out.r.frozen 1
        have hbl := Hb.out
        have v0 : ((W.setCell ⟨b0, 0, none⟩ (.int .i64 0)).setCell ⟨b0, 1, none⟩ (.slice none 0 0)).cell? ⟨bl, 0, none⟩ = some (.int .i64 (n : Nat)) := ((HB.out.l.beside (by omega) _).beside (by omega) _).cell 0
        have v1 : ((W.setCell ⟨b0, 0, none⟩ (.int .i64 0)).setCell ⟨b0, 1, none⟩ (.slice none 0 0)).cell? ⟨bl + 1, 0, none⟩ = some (.int .i64 E) := ((HB.out.e.beside (by omega) _).beside (by omega) _).cell 0
        clear hb1 hbl
        refine wpIn_wide.2 ?_
        go_region_held3 (fun W' => W'.cell? ⟨bl, 0, none⟩ = some (.int .i64 (n : Nat)) ∧ W'.cell? ⟨bl + 1, 0, none⟩ = some (.int .i64 E)) (first | go_keep | exact ⟨v0, v1⟩) (fail)
        all_goals go_simp
        gi_wp2_with fail
        rw [Exit.noGoto_ret]
        have hb0 := HB0.out
        have hbl := Hb.out
        have hDl := HDl.out
        have hD2 : (((W.setCell ⟨b0, 0, none⟩ (.int .i64 0)).setCell ⟨b0, 1, none⟩ (.slice none 0 0)).drew).heap[D]? = some (.deferred (some [])) := by
          show ((W.setCell ⟨b0, 0, none⟩ (.int .i64 0)).setCell ⟨b0, 1, none⟩ (.slice none 0 0)).heap[D]? = _
          rw [heap_set_ne (by dsimp only; omega), heap_set_ne (by dsimp only; omega)]; exact HD.out
        refine ⟨by simp, .inl ⟨_, _, rfl, run_takeDeferred hD2, ?_⟩⟩
        have hr0 := (HB.out.r.store 0 (.int .i64 0)).store 1 (.slice none 0 0)
        rw [hb0] at hr0
        have hr : Whole ((((W.setCell ⟨b0, 0, none⟩ (.int .i64 0)).setCell ⟨b0, 1, none⟩ (.slice none 0 0)).drew).putObj D (.deferred none)) b0 24 _ := (whole_drew hr0).same (World.putObj_heap_other (k := b0) (by omega))
        refine ⟨_, results_row_tmp2 (fn := Tryz.f17) rfl _ _ b0 24 _ (0, 0) _ rfl hr Tryz.underlying24 rfl (by kernel_rfl), ?_, ?_⟩
        · unfold ReadE; rw [HRa.out, if_pos trivial, HR.out]; rfl
        · have hb := ((HB.out.b.setCell (p := ⟨b0, 0, none⟩) (by dsimp only; omega) (.int .i64 0)).setCell (p := ⟨b0, 1, none⟩) (by dsimp only; omega) (.slice none 0 0)).drew
          exact hb.grown (grownBy_putObj' _ D (.deferred none)) hb.size (fun k e => by cases e; omega)
    · have hEb : (E != 0) = true := by simpa using hE0
      gi_wp2_with fail
      have hm3 := Whole.made w2 3 #[.int .i64 (ln : Nat)]
      have hm4 := Whole.made (w2.alloc (.cells #[.int .i64 (ln : Nat)] 3)) 34 #[.int .i64 E]
      rw [World.size_alloc] at hm4
      have HB4 : Hid (RdB w w2.heap.size (w2.heap.size + 1) 0 ln E ((w2.alloc (.cells #[.int .i64 (ln : Nat)] 3)).alloc (.cells #[.int .i64 E] 34))) := Lib.hid ⟨whole_alloc (whole_alloc HR2.out _) _, whole_alloc hm3 _, hm4, (HB3.out.alloc HB3.out.size _).alloc (by have := HB3.out.size; simp; omega) _⟩
      have hl2 : w.heap.size < w2.heap.size := HR2.out.lt
      clear hm3 hm4
      obtain ⟨W, hW⟩ : ∃ x, (w2.alloc (.cells #[.int .i64 (ln : Nat)] 3)).alloc (.cells #[.int .i64 E] 34) = x := ⟨_, rfl⟩
      obtain ⟨bl, hbl⟩ : ∃ x, w2.heap.size = x := ⟨_, rfl⟩
      obtain ⟨b0, hb0⟩ : ∃ x, w.heap.size = x := ⟨_, rfl⟩
      rw [hW, hbl] at HB4
      rw [hb0, hbl] at hl2
      rw [hW, hbl, hb0]
      have x0 : W.cell? ⟨b0, 0, none⟩ = some (.int .i64 0) := by rw [← hb0]; exact HB4.out.r.cell 0
      have x1 : W.cell? ⟨b0, 1, none⟩ = some (.slice none 0 0) := by rw [← hb0]; exact HB4.out.r.cell 1
      have g0 : W.frozen? ⟨b0, 0, none⟩ = false := by rw [← hb0]; exact HB4.out.r.frozen 0
      have g1 : W.frozen? ⟨b0, 1, none⟩ = false := by rw [← hb0]; exact HB4.out.r.frozen 1
      have y0 : W.cell? ⟨bl, 0, none⟩ = some (.int .i64 (ln : Nat)) := HB4.out.l.cell 0
      have y1 : W.cell? ⟨bl + 1, 0, none⟩ = some (.int .i64 E) := HB4.out.e.cell 0
      have HB0 := Lib.hid hb0
      clear hW hbl hb0
      have v0 : ((W.setCell ⟨b0, 0, none⟩ (.int .i64 0)).setCell ⟨b0, 1, none⟩ (.slice none 0 0)).cell? ⟨bl, 0, none⟩ = some (.int .i64 (ln : Nat)) := ((HB4.out.l.beside (by omega) _).beside (by omega) _).cell 0
      have v1 : ((W.setCell ⟨b0, 0, none⟩ (.int .i64 0)).setCell ⟨b0, 1, none⟩ (.slice none 0 0)).cell? ⟨bl + 1, 0, none⟩ = some (.int .i64 E) := ((HB4.out.e.beside (by omega) _).beside (by omega) _).cell 0
      refine wpIn_wide.2 ?_
      go_region_held3 (fun W' => W'.cell? ⟨bl, 0, none⟩ = some (.int .i64 (ln : Nat)) ∧ W'.cell? ⟨bl + 1, 0, none⟩ = some (.int .i64 E)) (first | go_keep | exact ⟨v0, v1⟩) (fail)
      all_goals go_simp
      gi_wp2_with fail
      rw [Exit.noGoto_ret]
      have hr := (HB4.out.r.store 0 (.int .i64 0)).store 1 (.slice none 0 0)
      rw [HB0.out] at hr
      refine ⟨_, results_row_tmp2 (fn := Tryz.f17) rfl _ _ b0 24 _ (0, 0) _ rfl (whole_drew hr) Tryz.underlying24 rfl (by kernel_rfl), ?_, ?_⟩
      · unfold ReadE; rw [HRa.out, if_neg hE0]; rfl
      · have := HB0.out
        exact ((HB4.out.b.setCell (p := ⟨b0, 0, none⟩) (by dsimp only; omega) _).setCell (p := ⟨b0, 1, none⟩) (by dsimp only; omega) _).drew
end Go.Proofs.YticcgmegimiegaaGreatDoor
