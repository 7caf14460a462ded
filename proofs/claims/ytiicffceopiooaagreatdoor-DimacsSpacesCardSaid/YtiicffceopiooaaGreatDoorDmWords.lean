/- dimacs.words: the words of the lines behind one, each with the number of its line. -/
import Derived.Test.YtiicffceopiooaaGreatDoorDmLines
namespace Go.Proofs.YtiicffceopiooaaGreatDoor
open Go.RowKit Go.ChangeAt Go.ChangeShapes Go.WideShapes Go.Shelf Go.Sort

attribute [local go_sem] Oper.semAt_some

/-- The words of one line. -/
def wordsOf (h : Nat) (p : Nat × List UInt8) : List (Nat × List UInt8) := if p.1 ≤ h then [] else ((segs 32 p.2).filter (fun x => decide (x ≠ []))).map fun x => (p.1, x)
def wordsS (S : List UInt8) (h : Nat) : List (Nat × List UInt8) := (linesL S).flatMap (wordsOf h)
/-- How many words the first k lines have; and the first j pieces of a line. -/
def cntW (S : List UInt8) (h k : Nat) : Nat := (((linesL S).take k).flatMap (wordsOf h)).length
def cntP (l : List UInt8) (j : Nat) : Nat := (((segs 32 l).take j).filter (fun x => decide (x ≠ []))).length
theorem cntW_old {S : List UInt8} {h k : Nat} {p : Nat × List UInt8} (hp : (linesL S)[k]? = some p) (hh : p.1 ≤ h) : cntW S h (k + 1) = cntW S h k := by
  unfold cntW
  rw [List.take_add_one, hp, Option.toList_some, List.flatMap_append]
  simp [wordsOf, hh]
theorem cntW_new {S : List UInt8} {h k : Nat} {p : Nat × List UInt8} (hp : (linesL S)[k]? = some p) (hh : ¬ p.1 ≤ h) : cntW S h (k + 1) = cntW S h k + cntP p.2 (segs 32 p.2).length := by
  unfold cntW cntP
  rw [List.take_add_one, hp, Option.toList_some, List.flatMap_append, List.length_append, List.take_length]
  simp [wordsOf, hh]
theorem cntP_none {l : List UInt8} {j : Nat} (h : (segs 32 l)[j]? = some []) : cntP l (j + 1) = cntP l j := by
  unfold cntP
  rw [List.take_add_one, h, Option.toList_some, List.filter_append]
  simp
theorem cntP_word {l x : List UInt8} {j : Nat} (h : (segs 32 l)[j]? = some x) (hx : x ≠ []) : cntP l (j + 1) = cntP l j + 1 ∧ ((segs 32 l).filter (fun x => decide (x ≠ [])))[cntP l j]? = some x := by
  have e : ((segs 32 l).take (j + 1)).filter (fun x => decide (x ≠ [])) = ((segs 32 l).take j).filter (fun x => decide (x ≠ [])) ++ [x] := by
    rw [List.take_add_one, h, Option.toList_some, List.filter_append]
    simp [hx]
  refine ⟨by unfold cntP; rw [e]; simp, ?_⟩
  unfold cntP
  conv => lhs; arg 1; rw [← List.take_append_drop (j + 1) (segs 32 l), List.filter_append, e, List.append_assoc]
  rw [List.getElem?_append_right (Nat.le_refl _), Nat.sub_self]
  rfl
theorem words_at {S : List UInt8} {h k j : Nat} {p : Nat × List UInt8} {x : List UInt8} (hp : (linesL S)[k]? = some p) (hh : ¬ p.1 ≤ h) (hx : (segs 32 p.2)[j]? = some x) (hne : x ≠ []) : (wordsS S h)[cntW S h k + cntP p.2 j]? = some (p.1, x) := by
  unfold wordsS
  have hl := (List.getElem?_eq_some_iff.1 hp).1
  have e1 : linesL S = (linesL S).take k ++ (p :: (linesL S).drop (k + 1)) := by
    conv => lhs; rw [← List.take_append_drop k (linesL S)]
    rw [List.drop_eq_getElem_cons hl, (List.getElem?_eq_some_iff.1 hp).2]
  rw [e1, List.flatMap_append, List.flatMap_cons]
  have hc := (cntP_word hx hne).2
  have hw : wordsOf h p = ((segs 32 p.2).filter (fun x => decide (x ≠ []))).map fun x => (p.1, x) := by simp [wordsOf, hh]
  have hlt := (List.getElem?_eq_some_iff.1 hc).1
  show ((((linesL S).take k).flatMap (wordsOf h)) ++ _)[(((linesL S).take k).flatMap (wordsOf h)).length + cntP p.2 j]? = _
  rw [List.getElem?_append_right (by omega), Nat.add_sub_cancel_left, hw, List.getElem?_append_left (by rw [List.length_map]; exact hlt), List.getElem?_map, hc]
  rfl
theorem cntW_all (S : List UInt8) (h : Nat) : cntW S h (linesL S).length = (wordsS S h).length := by unfold cntW wordsS; rw [List.take_length]
/-- Numbers of lines are no greater than the number of the pieces. -/
theorem lines_le {S : List UInt8} {p : Nat × List UInt8} (h : p ∈ linesL S) : 1 ≤ p.1 ∧ p.1 ≤ S.length + 1 ∧ p.2.length ≤ S.length := by
  have key : ∀ (l : List (List UInt8)) (n : Nat), p ∈ numL n l → n + 1 ≤ p.1 ∧ p.1 ≤ n + l.length ∧ p.2 ∈ l := by
    intro l
    induction l with
    | nil => intro n h; simp [numL] at h
    | cons y l ih =>
      intro n h
      rw [numL] at h
      rcases List.mem_append.1 h with h | h
      · split at h
        · simp at h
        · obtain rfl : p = (n + 1, y) := by simpa using h
          exact ⟨Nat.le_refl _, by simp <;> omega, by simp⟩
      · obtain ⟨h1, h2, h3⟩ := ih (n + 1) h
        exact ⟨by omega, by rw [List.length_cons]; omega, List.mem_cons_of_mem _ h3⟩
  obtain ⟨h1, h2, h3⟩ := key _ _ h
  have := segs_le 10 S
  exact ⟨by omega, by omega, segs_short h3⟩
theorem lines_any (S : List UInt8) (w : World) : Calls Tryz.prog 90 #[str S] w fun e w' => e = .returned (.func (.func 111) #[] #[.pointer (some ⟨w.heap.size, 0, none⟩)]) ∧ w' = w.alloc (.cells #[str S] 9) := by
  go_enter Tryz.func90, Tryz.ntmps90
  go_wp2_with fail
  go_ret
  exact ⟨rfl, rfl⟩
theorem words_any (S : List UInt8) (h : Int) (w : World) : Calls Tryz.prog 54 #[str S, .int .i64 h] w fun e w' => e = .returned (.func (.func 94) #[] #[.pointer (some ⟨w.heap.size, 0, none⟩), .pointer (some ⟨w.heap.size + 1, 0, none⟩)]) ∧ w' = (w.alloc (.cells #[str S] 9)).alloc (.cells #[.int .i64 h] 3) := by
  go_enter Tryz.func54, Tryz.ntmps54
  go_wp2_with fail
  go_ret
  exact ⟨rfl, rfl⟩
/-- What lies there for all of it: the function that is yielded to, and the header's line. -/
structure WdB (l by_ hb h : Nat) (W : World) : Prop where
  y : Whole W by_ 135 #[.func (.yield l) #[] #[]]
  b : Whole W hb 3 #[.int .i64 h]
theorem WdB.keep {l by_ hb h : Nat} {W W' : World} {K : Nat → Prop} (x : WdB l by_ hb h W) (hk : Keeps K W W') (h1 : ¬ K by_) (h2 : ¬ K hb) : WdB l by_ hb h W' := ⟨x.y.same (hk.block _ x.y.lt h1), x.b.same (hk.block _ x.b.lt h2)⟩
theorem WdB.on {l by_ hb h : Nat} {W W' : World} (x : WdB l by_ hb h W) (hb' : Below W.heap.size W W') : WdB l by_ hb h W' := ⟨x.y.same (hb'.block _ x.y.lt), x.b.same (hb'.block _ x.b.lt)⟩
/-- Between two lines. -/
def WdI (l by_ hb h : Nat) (S : List UInt8) (J : Nat → (Nat → Prop) → World → Prop) (k : Nat) (X : Nat → Prop) (W : World) : Prop :=
  ∃ Xo, J (cntW S h k) Xo W ∧ (∀ x, X x → Xo x) ∧ (Xo by_ ∧ Xo hb) ∧ (¬ X by_ ∧ ¬ X hb) ∧ WdB l by_ hb h W
theorem wdI_inv {l by_ hb h : Nat} {S : List UInt8} {J : Nat → (Nat → Prop) → World → Prop} (hJ : ∀ k, InvX (J k)) (k : Nat) : InvX (WdI l by_ hb h S J k) :=
  ⟨fun _ _ _ ⟨Xo, h1, h2, h3, h4, h5⟩ hk => ⟨Xo, (hJ _).keep _ _ _ h1 (hk.less h2), h2, h3, h4, h5.keep hk h4.1 h4.2⟩,
   fun _ _ _ ⟨_, h1, h2, h3, h4, h5⟩ hb' => ⟨_, (hJ _).grow _ _ _ h1 hb', fun x hx => hx.imp (h2 x) id, ⟨.inl h3.1, .inl h3.2⟩,
     ⟨fun h => h.elim h4.1 (fun h => by have := h5.y.lt; omega), fun h => h.elim h4.2 (fun h => by have := h5.b.lt; omega)⟩, h5.on hb'⟩,
   fun _ _ ⟨_, h1, h2, _⟩ x hx => (hJ _).own _ _ h1 x (h2 x hx)⟩
/-- What the body of the loop over the lines finds: the number of the line lies in a box. -/
def WdR (l by_ hb h : Nat) (S : List UInt8) (J : Nat → (Nat → Prop) → World → Prop) (a₁ : Nat → Nat → List UInt8 → Act) (k : Nat) (X : Nat → Prop) (a' : Act) (W : World) : Prop :=
  ∃ Xo bx p, a' = a₁ bx p.1 p.2 ∧ (linesL S)[k]? = some p ∧ J (cntW S h k) Xo W ∧ (∀ x, X x → Xo x) ∧ (Xo by_ ∧ Xo hb ∧ Xo bx) ∧ (¬ X by_ ∧ ¬ X hb ∧ ¬ X bx) ∧ WdB l by_ hb h W ∧ Whole W bx 3 #[.int .i64 p.1]
theorem wdR_keep {l by_ hb h : Nat} {S : List UInt8} {J : Nat → (Nat → Prop) → World → Prop} {a₁ : Nat → Nat → List UInt8 → Act} (hJ : ∀ k, InvX (J k)) : ∀ k X a' W W', WdR l by_ hb h S J a₁ k X a' W → Keeps X W W' → WdR l by_ hb h S J a₁ k X a' W' :=
  fun _ _ _ _ _ ⟨Xo, bx, p, h0, hp, h1, h2, h3, h4, h5, h6⟩ hk => ⟨Xo, bx, p, h0, hp, (hJ _).keep _ _ _ h1 (hk.less h2), h2, h3, h4, h5.keep hk h4.1 h4.2.1, h6.same (hk.block _ h6.lt h4.2.2)⟩
/-- Between two pieces of a line: W0 is the world at the line's beginning, Xl what belongs to the loop over the lines. -/
def WpI (l by_ hb h bx n c0 : Nat) (ln : List UInt8) (J : Nat → (Nat → Prop) → World → Prop) (Xl : Nat → Prop) (W0 : World) (j : Nat) (X : Nat → Prop) (W : World) : Prop :=
  ∃ Xo, J (c0 + cntP ln j) Xo W ∧ (∀ x, X x → Xo x) ∧ (∀ x, Xl x → Xo x) ∧ (∀ x, Xl x → ¬ X x) ∧ (Xo by_ ∧ Xo hb ∧ Xo bx) ∧ (¬ X by_ ∧ ¬ X hb ∧ ¬ X bx) ∧ WdB l by_ hb h W ∧ Whole W bx 3 #[.int .i64 n] ∧ SameX Xl W0 W ∧ (∀ x, Xl x → x < W0.heap.size)
theorem same_keep {Xl X : Nat → Prop} {W0 W W' : World} (hs : SameX Xl W0 W) (hl : ∀ x, Xl x → x < W0.heap.size) (hd : ∀ x, Xl x → ¬ X x) (hk : Keeps X W W') : SameX Xl W0 W' :=
  hs.trans (SameX.keeps (fun x hx => Nat.lt_of_lt_of_le (hl x hx) hs.1) hk hd)
theorem wpI_inv {l by_ hb h bx n c0 : Nat} {ln : List UInt8} {J : Nat → (Nat → Prop) → World → Prop} {Xl : Nat → Prop} {W0 : World} (hJ : ∀ k, InvX (J k)) (j : Nat) : InvX (WpI l by_ hb h bx n c0 ln J Xl W0 j) :=
  ⟨fun _ _ _ ⟨Xo, h1, h2, h3, h4, h5, h6, h7, h8, h9, h10⟩ hk => ⟨Xo, (hJ _).keep _ _ _ h1 (hk.less h2), h2, h3, h4, h5, h6, h7.keep hk h6.1 h6.2.1, h8.same (hk.block _ h8.lt h6.2.2), same_keep h9 h10 h4 hk, h10⟩,
   fun _ _ _ ⟨_, h1, h2, h3, h4, h5, h6, h7, h8, h9, h10⟩ hb' => ⟨_, (hJ _).grow _ _ _ h1 hb', fun x hx => hx.imp (h2 x) id, fun x hx => .inl (h3 x hx),
     fun x hx h => h.elim (h4 x hx) (fun h => by have := h10 x hx; have := h9.1; omega), ⟨.inl h5.1, .inl h5.2.1, .inl h5.2.2⟩,
     ⟨fun h => h.elim h6.1 (fun h => by have := h7.y.lt; omega), fun h => h.elim h6.2.1 (fun h => by have := h7.b.lt; omega), fun h => h.elim h6.2.2 (fun h => by have := h8.lt; omega)⟩, h7.on hb', h8.same (hb'.block _ h8.lt),
     h9.trans (SameX.below (fun x hx => Nat.lt_of_lt_of_le (h10 x hx) h9.1) hb'), h10⟩,
   fun _ _ ⟨_, h1, h2, _⟩ x hx => (hJ _).own _ _ h1 x (h2 x hx)⟩
def WpX (Jx : (Nat → Prop) → World → Prop) (Xl : Nat → Prop) (W0 : World) (c : Code) (X : Nat → Prop) (W : World) : Prop := c = .ret ∧ ∃ Xo, Jx Xo W ∧ (∀ x, X x → Xo x) ∧ (∀ x, Xl x → Xo x) ∧ (∀ x, Xl x → ¬ X x) ∧ SameX Xl W0 W ∧ ∀ x, Xl x → x < W0.heap.size
theorem wpX_inv {Jx : (Nat → Prop) → World → Prop} {Xl : Nat → Prop} {W0 : World} (hJ : InvX Jx) (c : Code) : InvX (WpX Jx Xl W0 c) :=
  ⟨fun _ _ _ ⟨hc, Xo, h1, h2, h3, h4, h5, h6⟩ hk => ⟨hc, Xo, hJ.keep _ _ _ h1 (hk.less h2), h2, h3, h4, same_keep h5 h6 h4 hk, h6⟩,
   fun _ _ _ ⟨hc, _, h1, h2, h3, h4, h5, h6⟩ hb => ⟨hc, _, hJ.grow _ _ _ h1 hb, fun x hx => hx.imp (h2 x) id, fun x hx => .inl (h3 x hx), fun x hx h => h.elim (h4 x hx) (fun h => by have := h6 x hx; have := h5.1; omega),
     h5.trans (SameX.below (fun x hx => Nat.lt_of_lt_of_le (h6 x hx) h5.1) hb), h6⟩,
   fun _ _ ⟨_, _, h1, h2, _⟩ x hx => hJ.own _ _ h1 x (h2 x hx)⟩
end Go.Proofs.YtiicffceopiooaaGreatDoor
