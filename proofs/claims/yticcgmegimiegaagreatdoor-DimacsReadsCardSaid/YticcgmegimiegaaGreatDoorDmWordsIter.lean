/- dimacs.words: the words of the lines behind one, each with the number of its line. -/
/- dimacs.words: its iterator. -/
import Derived.Test.YticcgmegimiegaaGreatDoorDmLines
namespace Go.Proofs.YticcgmegimiegaaGreatDoor
open Go.RowKit Go.ChangeAt Go.ChangeShapes Go.WideShapes Go.Shelf Go.Sort

attribute [local go_sem] Oper.semAt_some

/-- The words of one line. -/
def wordsOf (h : Nat) (p : Nat × List UInt8) : List (Nat × List UInt8) := if p.1 ≤ h then [] else ((segs 32 p.2).filter (fun x => decide (x ≠ []))).map fun x => (p.1, x)
def wordsS (S : List UInt8) (h : Nat) : List (Nat × List UInt8) := (linesL S).flatMap (wordsOf h)
/-- How many words the first k lines have; and the first j pieces of a line. -/
def cntW (S : List UInt8) (h k : Nat) : Nat := (((linesL S).take k).flatMap (wordsOf h)).length
def cntP (l : List UInt8) (j : Nat) : Nat := (((segs 32 l).take j).filter (fun x => decide (x ≠ []))).length
theorem cntW_old {S : List UInt8} {h k : Nat} {p : Nat × List UInt8} (hp : (linesL S)[k]? = some p) (hh : p.1 ≤ h) : cntW S h (k + 1) = cntW S h k := by
  unfold cntW
  rw [List.take_add_one, hp, Option.toList_some, List.flatMap_append]
  simp [wordsOf, hh]
theorem cntW_new {S : List UInt8} {h k : Nat} {p : Nat × List UInt8} (hp : (linesL S)[k]? = some p) (hh : ¬ p.1 ≤ h) : cntW S h (k + 1) = cntW S h k + cntP p.2 (segs 32 p.2).length := by
  unfold cntW cntP
  rw [List.take_add_one, hp, Option.toList_some, List.flatMap_append, List.length_append, List.take_length]
  simp [wordsOf, hh]
theorem cntP_none {l : List UInt8} {j : Nat} (h : (segs 32 l)[j]? = some []) : cntP l (j + 1) = cntP l j := by
  unfold cntP
  rw [List.take_add_one, h, Option.toList_some, List.filter_append]
  simp
theorem cntP_word {l x : List UInt8} {j : Nat} (h : (segs 32 l)[j]? = some x) (hx : x ≠ []) : cntP l (j + 1) = cntP l j + 1 ∧ ((segs 32 l).filter (fun x => decide (x ≠ [])))[cntP l j]? = some x := by
  have e : ((segs 32 l).take (j + 1)).filter (fun x => decide (x ≠ [])) = ((segs 32 l).take j).filter (fun x => decide (x ≠ [])) ++ [x] := by
    rw [List.take_add_one, h, Option.toList_some, List.filter_append]
    simp [hx]
  refine ⟨by unfold cntP; rw [e]; simp, ?_⟩
  unfold cntP
  conv => lhs; arg 1; rw [← List.take_append_drop (j + 1) (segs 32 l), List.filter_append, e, List.append_assoc]
  rw [List.getElem?_append_right (Nat.le_refl _), Nat.sub_self]
  rfl
theorem words_at {S : List UInt8} {h k j : Nat} {p : Nat × List UInt8} {x : List UInt8} (hp : (linesL S)[k]? = some p) (hh : ¬ p.1 ≤ h) (hx : (segs 32 p.2)[j]? = some x) (hne : x ≠ []) : (wordsS S h)[cntW S h k + cntP p.2 j]? = some (p.1, x) := by
  unfold wordsS
  have hl := (List.getElem?_eq_some_iff.1 hp).1
  have e1 : linesL S = (linesL S).take k ++ (p :: (linesL S).drop (k + 1)) := by
    conv => lhs; rw [← List.take_append_drop k (linesL S)]
    rw [List.drop_eq_getElem_cons hl, (List.getElem?_eq_some_iff.1 hp).2]
  rw [e1, List.flatMap_append, List.flatMap_cons]
  have hc := (cntP_word hx hne).2
  have hw : wordsOf h p = ((segs 32 p.2).filter (fun x => decide (x ≠ []))).map fun x => (p.1, x) := by simp [wordsOf, hh]
  have hlt := (List.getElem?_eq_some_iff.1 hc).1
  show ((((linesL S).take k).flatMap (wordsOf h)) ++ _)[(((linesL S).take k).flatMap (wordsOf h)).length + cntP p.2 j]? = _
  rw [List.getElem?_append_right (by omega), Nat.add_sub_cancel_left, hw, List.getElem?_append_left (by rw [List.length_map]; exact hlt), List.getElem?_map, hc]
  rfl
theorem cntW_all (S : List UInt8) (h : Nat) : cntW S h (linesL S).length = (wordsS S h).length := by unfold cntW wordsS; rw [List.take_length]
/-- Numbers of lines are no greater than the number of the pieces. -/
theorem lines_le {S : List UInt8} {p : Nat × List UInt8} (h : p ∈ linesL S) : 1 ≤ p.1 ∧ p.1 ≤ S.length + 1 ∧ p.2.length ≤ S.length := by
  have key : ∀ (l : List (List UInt8)) (n : Nat), p ∈ numL n l → n + 1 ≤ p.1 ∧ p.1 ≤ n + l.length ∧ p.2 ∈ l := by
    intro l
    induction l with
    | nil => intro n h; simp [numL] at h
    | cons y l ih =>
      intro n h
      rw [numL] at h
      rcases List.mem_append.1 h with h | h
      · split at h
        · simp at h
        · obtain rfl : p = (n + 1, y) := by simpa using h
          exact ⟨Nat.le_refl _, by simp <;> omega, by simp⟩
      · obtain ⟨h1, h2, h3⟩ := ih (n + 1) h
        exact ⟨by omega, by rw [List.length_cons]; omega, List.mem_cons_of_mem _ h3⟩
  obtain ⟨h1, h2, h3⟩ := key _ _ h
  have := segs_le 10 S
  exact ⟨by omega, by omega, segs_short h3⟩
theorem lines_any (S : List UInt8) (w : World) : Calls Tryz.prog 90 #[str S] w fun e w' => e = .returned (.func (.func 111) #[] #[.pointer (some ⟨w.heap.size, 0, none⟩)]) ∧ w' = w.alloc (.cells #[str S] 9) := by
  go_enter Tryz.func90, Tryz.ntmps90
  go_wp2_with fail
  go_ret
  exact ⟨rfl, rfl⟩
theorem words_any (S : List UInt8) (h : Int) (w : World) : Calls Tryz.prog 54 #[str S, .int .i64 h] w fun e w' => e = .returned (.func (.func 94) #[] #[.pointer (some ⟨w.heap.size, 0, none⟩), .pointer (some ⟨w.heap.size + 1, 0, none⟩)]) ∧ w' = (w.alloc (.cells #[str S] 9)).alloc (.cells #[.int .i64 h] 3) := by
  go_enter Tryz.func54, Tryz.ntmps54
  go_wp2_with fail
  go_ret
  exact ⟨rfl, rfl⟩
/-- What lies there for all of it: the function that is yielded to, and the header's line. -/
structure WdB (l by_ hb h : Nat) (W : World) : Prop where
  y : Whole W by_ 135 #[.func (.yield l) #[] #[]]
  b : Whole W hb 3 #[.int .i64 h]
theorem WdB.keep {l by_ hb h : Nat} {W W' : World} {K : Nat → Prop} (x : WdB l by_ hb h W) (hk : Keeps K W W') (h1 : ¬ K by_) (h2 : ¬ K hb) : WdB l by_ hb h W' := ⟨x.y.same (hk.block _ x.y.lt h1), x.b.same (hk.block _ x.b.lt h2)⟩
theorem WdB.on {l by_ hb h : Nat} {W W' : World} (x : WdB l by_ hb h W) (hb' : Below W.heap.size W W') : WdB l by_ hb h W' := ⟨x.y.same (hb'.block _ x.y.lt), x.b.same (hb'.block _ x.b.lt)⟩
/-- Between two lines. -/
def WdI (l by_ hb h : Nat) (S : List UInt8) (J : Nat → (Nat → Prop) → World → Prop) (k : Nat) (X : Nat → Prop) (W : World) : Prop :=
  ∃ Xo, J (cntW S h k) Xo W ∧ (∀ x, X x → Xo x) ∧ (Xo by_ ∧ Xo hb) ∧ (¬ X by_ ∧ ¬ X hb) ∧ WdB l by_ hb h W
theorem wdI_inv {l by_ hb h : Nat} {S : List UInt8} {J : Nat → (Nat → Prop) → World → Prop} (hJ : ∀ k, InvX (J k)) (k : Nat) : InvX (WdI l by_ hb h S J k) :=
  ⟨fun _ _ _ ⟨Xo, h1, h2, h3, h4, h5⟩ hk => ⟨Xo, (hJ _).keep _ _ _ h1 (hk.less h2), h2, h3, h4, h5.keep hk h4.1 h4.2⟩,
   fun _ _ _ ⟨_, h1, h2, h3, h4, h5⟩ hb' => ⟨_, (hJ _).grow _ _ _ h1 hb', fun x hx => hx.imp (h2 x) id, ⟨.inl h3.1, .inl h3.2⟩,
     ⟨fun h => h.elim h4.1 (fun h => by have := h5.y.lt; omega), fun h => h.elim h4.2 (fun h => by have := h5.b.lt; omega)⟩, h5.on hb'⟩,
   fun _ _ ⟨_, h1, h2, _⟩ x hx => (hJ _).own _ _ h1 x (h2 x hx)⟩
/-- What the body of the loop over the lines finds: the number of the line lies in a box. -/
def WdR (l by_ hb h : Nat) (S : List UInt8) (J : Nat → (Nat → Prop) → World → Prop) (a₁ : Nat → Nat → List UInt8 → Act) (k : Nat) (X : Nat → Prop) (a' : Act) (W : World) : Prop :=
  ∃ Xo bx p, a' = a₁ bx p.1 p.2 ∧ (linesL S)[k]? = some p ∧ J (cntW S h k) Xo W ∧ (∀ x, X x → Xo x) ∧ (Xo by_ ∧ Xo hb ∧ Xo bx) ∧ (¬ X by_ ∧ ¬ X hb ∧ ¬ X bx) ∧ WdB l by_ hb h W ∧ Whole W bx 3 #[.int .i64 p.1]
theorem wdR_keep {l by_ hb h : Nat} {S : List UInt8} {J : Nat → (Nat → Prop) → World → Prop} {a₁ : Nat → Nat → List UInt8 → Act} (hJ : ∀ k, InvX (J k)) : ∀ k X a' W W', WdR l by_ hb h S J a₁ k X a' W → Keeps X W W' → WdR l by_ hb h S J a₁ k X a' W' :=
  fun _ _ _ _ _ ⟨Xo, bx, p, h0, hp, h1, h2, h3, h4, h5, h6⟩ hk => ⟨Xo, bx, p, h0, hp, (hJ _).keep _ _ _ h1 (hk.less h2), h2, h3, h4, h5.keep hk h4.1 h4.2.1, h6.same (hk.block _ h6.lt h4.2.2)⟩
/-- Between two pieces of a line: W0 is the world at the line's beginning, Xl what belongs to the loop over the lines. -/
def WpI (l by_ hb h bx n c0 : Nat) (ln : List UInt8) (J : Nat → (Nat → Prop) → World → Prop) (Xl : Nat → Prop) (W0 : World) (j : Nat) (X : Nat → Prop) (W : World) : Prop :=
  ∃ Xo, J (c0 + cntP ln j) Xo W ∧ (∀ x, X x → Xo x) ∧ (∀ x, Xl x → Xo x) ∧ (∀ x, Xl x → ¬ X x) ∧ (Xo by_ ∧ Xo hb ∧ Xo bx) ∧ (¬ X by_ ∧ ¬ X hb ∧ ¬ X bx) ∧ WdB l by_ hb h W ∧ Whole W bx 3 #[.int .i64 n] ∧ SameX Xl W0 W ∧ (∀ x, Xl x → x < W0.heap.size)
theorem same_keep {Xl X : Nat → Prop} {W0 W W' : World} (hs : SameX Xl W0 W) (hl : ∀ x, Xl x → x < W0.heap.size) (hd : ∀ x, Xl x → ¬ X x) (hk : Keeps X W W') : SameX Xl W0 W' :=
  hs.trans (SameX.keeps (fun x hx => Nat.lt_of_lt_of_le (hl x hx) hs.1) hk hd)
theorem wpI_inv {l by_ hb h bx n c0 : Nat} {ln : List UInt8} {J : Nat → (Nat → Prop) → World → Prop} {Xl : Nat → Prop} {W0 : World} (hJ : ∀ k, InvX (J k)) (j : Nat) : InvX (WpI l by_ hb h bx n c0 ln J Xl W0 j) :=
  ⟨fun _ _ _ ⟨Xo, h1, h2, h3, h4, h5, h6, h7, h8, h9, h10⟩ hk => ⟨Xo, (hJ _).keep _ _ _ h1 (hk.less h2), h2, h3, h4, h5, h6, h7.keep hk h6.1 h6.2.1, h8.same (hk.block _ h8.lt h6.2.2), same_keep h9 h10 h4 hk, h10⟩,
   fun _ _ _ ⟨_, h1, h2, h3, h4, h5, h6, h7, h8, h9, h10⟩ hb' => ⟨_, (hJ _).grow _ _ _ h1 hb', fun x hx => hx.imp (h2 x) id, fun x hx => .inl (h3 x hx),
     fun x hx h => h.elim (h4 x hx) (fun h => by have := h10 x hx; have := h9.1; omega), ⟨.inl h5.1, .inl h5.2.1, .inl h5.2.2⟩,
     ⟨fun h => h.elim h6.1 (fun h => by have := h7.y.lt; omega), fun h => h.elim h6.2.1 (fun h => by have := h7.b.lt; omega), fun h => h.elim h6.2.2 (fun h => by have := h8.lt; omega)⟩, h7.on hb', h8.same (hb'.block _ h8.lt),
     h9.trans (SameX.below (fun x hx => Nat.lt_of_lt_of_le (h10 x hx) h9.1) hb'), h10⟩,
   fun _ _ ⟨_, h1, h2, _⟩ x hx => (hJ _).own _ _ h1 x (h2 x hx)⟩
def WpX (Jx : (Nat → Prop) → World → Prop) (Xl : Nat → Prop) (W0 : World) (c : Code) (X : Nat → Prop) (W : World) : Prop := c = .ret ∧ ∃ Xo, Jx Xo W ∧ (∀ x, X x → Xo x) ∧ (∀ x, Xl x → Xo x) ∧ (∀ x, Xl x → ¬ X x) ∧ SameX Xl W0 W ∧ ∀ x, Xl x → x < W0.heap.size
theorem wpX_inv {Jx : (Nat → Prop) → World → Prop} {Xl : Nat → Prop} {W0 : World} (hJ : InvX Jx) (c : Code) : InvX (WpX Jx Xl W0 c) :=
  ⟨fun _ _ _ ⟨hc, Xo, h1, h2, h3, h4, h5, h6⟩ hk => ⟨hc, Xo, hJ.keep _ _ _ h1 (hk.less h2), h2, h3, h4, same_keep h5 h6 h4 hk, h6⟩,
   fun _ _ _ ⟨hc, _, h1, h2, h3, h4, h5, h6⟩ hb => ⟨hc, _, hJ.grow _ _ _ h1 hb, fun x hx => hx.imp (h2 x) id, fun x hx => .inl (h3 x hx), fun x hx h => h.elim (h4 x hx) (fun h => by have := h6 x hx; have := h5.1; omega),
     h5.trans (SameX.below (fun x hx => Nat.lt_of_lt_of_le (h6 x hx) h5.1) hb), h6⟩,
   fun _ _ ⟨_, _, h1, h2, _⟩ x hx => hJ.own _ _ h1 x (h2 x hx)⟩
end Go.Proofs.YticcgmegimiegaaGreatDoor
namespace Go.Proofs.YticcgmegimiegaaGreatDoor
open Go.RowKit Go.ChangeAt Go.ChangeShapes Go.WideShapes Go.Shelf Go.Sort

attribute [local go_sem] Oper.semAt_some

set_option maxRecDepth 100000 in
set_option maxHeartbeats 2000000 in
theorem words_iter (sb hb h : Nat) (S : List UInt8) (hS : S.length ≤ 4000000000) (hh64 : h ≤ 4000000001) :
    IterIn Tryz.prog 94 #[.pointer (some ⟨sb, 0, none⟩), .pointer (some ⟨hb, 0, none⟩)] ((wordsS S h).map fun p => #[.int .i64 (p.1 : Nat), str p.2]) (fun b => b = sb ∨ b = hb) (fun W => Whole W sb 9 #[str S] ∧ Whole W hb 3 #[.int .i64 h]) := by
  intro m l J Jx W hJ hJx h0 hc hY
  have c0 : W.cell? ⟨sb, 0, none⟩ = some (str S) := hc.1.cell 0
  have c1 : ∀ o, (W.alloc o).cell? ⟨sb, 0, none⟩ = some (str S) := fun o => (((Below.refl _ W).alloc (Nat.le_refl _) o).cell (p := ⟨sb, 0, none⟩) hc.1.lt).trans c0
  have hli := fun W => lines_any S W
  have hsp := fun W s => splitSeq_any s 32 W
  have HJ := Lib.hid hJ; have HJx := Lib.hid hJx; have H0 := Lib.hid h0; have HY := Lib.hid hY; have HC := Lib.hid hc; have HLi := Lib.hid hli; have HSp := Lib.hid hsp
  clear hJ hJx h0 hY hc hsp hli
  refine calls_any (m := 9) ?_
  refine callsIn_of_wp_marks Tryz.func94 rfl trivial ?_ rfl
  simp only [Tryz.ntmps94, List.size_toArray, List.length_cons, List.length_nil, Nat.reduceAdd, Nat.reduceSub, Array.replicate_succ, Array.replicate_zero, List.push_toArray, List.append_toArray, List.nil_append, List.cons_append]
  gi_wp2_with fail
  obtain ⟨W2, hW2⟩ : ∃ x, W.alloc (.cells #[.func (.yield l) #[] #[]] 135) = x := ⟨_, rfl⟩
  have hy2 : Whole W2 W.heap.size 135 #[.func (.yield l) #[] #[]] := by rw [← hW2]; exact Whole.made W _ _
  have hb2 : Below W.heap.size W W2 := by rw [← hW2]; exact (Below.refl _ W).alloc (Nat.le_refl _) _
  have hs2 : W2.heap.size = W.heap.size + 1 := by rw [← hW2]; simp
  obtain ⟨by_, hby⟩ : ∃ x, W.heap.size = x := ⟨_, rfl⟩
  rw [hby] at hy2
  rw [hW2, hby]
  have HB2 := Lib.hid hb2; have HY2 := Lib.hid hy2; have HBy := Lib.hid hby; have HS2 := Lib.hid hs2
  clear hW2 hy2 hb2 hs2 hby c0 c1
  refine ⟨trivial, ?_⟩
  refine (callsIn_wide.2 (HLi.out W2)).mono ?_
  rintro e W3 ⟨rfl, hw3⟩
  have hl3 : Whole W3 W2.heap.size 9 #[str S] := by rw [hw3]; exact Whole.made W2 _ _
  have hb3 : Below W2.heap.size W2 W3 := by rw [hw3]; exact (Below.refl _ W2).alloc (Nat.le_refl _) _
  obtain ⟨bl, hbl⟩ : ∃ x, W2.heap.size = x := ⟨_, rfl⟩
  rw [hbl] at hl3
  rw [hbl]
  have HL3 := Lib.hid hl3; have HB3 := Lib.hid hb3; have HBl := Lib.hid hbl
  clear hl3 hb3 hbl hw3
  gi_wp2_with fail
  have hI := wdI_inv (l := l) (by_ := by_) (hb := hb) (h := h) (S := S) HJ.out
  refine range_iter rfl (enters_of Tryz.func111 (by kernel_rfl) rfl) (lines_iter bl S hS) (fun args h => by obtain ⟨x, -, rfl⟩ := List.mem_map.1 h; rfl)
    (WdI l by_ hb h S J) (LnX Jx) hI (lnX_inv HJx.out) ?start (fun W' hb' => HL3.out.same (hb'.block _ HL3.out.lt))
    (WdR l by_ hb h S J (fun bx n ln => { tmps := #[.func (.yield l) #[] #[], .pointer (some ⟨sb, 0, none⟩), .pointer (some ⟨hb, 0, none⟩), .pointer (some ⟨by_, 0, none⟩), .pointer (some ⟨bx, 0, none⟩), str ln, undef, str S, .func (.func 111) #[] #[.pointer (some ⟨bl, 0, none⟩)], .int .i64 n, str ln, undef, undef, undef, undef, undef, undef, undef, undef, undef, undef, undef, undef, undef, undef, undef], defers := [] })) (wdR_keep HJ.out) ?assign ?body ?done ?stop
  case start =>
    have hW : Below W.heap.size W W3 := HB2.out.trans (HB3.out.mono HB2.out.size)
    have hg := (HJ.out 0).grow _ W W3 H0.out hW
    have h3 := HB3.out.size
    have hs2 := HS2.out; have hby := HBy.out; have hbl := HBl.out; have hl3 := HL3.out.lt
    have hbw := HC.out.2.lt
    refine ⟨fun b => (b = sb ∨ b = hb) ∨ (W.heap.size ≤ b ∧ b < W3.heap.size), (by rw [show cntW S h 0 = 0 by simp [cntW]]; exact hg), fun x hx => .inr (by omega), ⟨.inr (by omega), .inl (.inr rfl)⟩, ⟨(by omega), (by omega)⟩, ⟨HY2.out.same (HB3.out.block _ HY2.out.lt), HC.out.2.same (hW.block _ hbw)⟩⟩
  case assign =>
    intro l' k X args W' hX hr hI' hk
    obtain ⟨p, hp, rfl⟩ : ∃ p, (linesL S)[k]? = some p ∧ args = #[.int .i64 (p.1 : Nat), str p.2] := by
      rw [List.getElem?_map] at hk
      cases hp : (linesL S)[k]? with
      | none => rw [hp] at hk; cases hk
      | some p => rw [hp] at hk; exact ⟨p, rfl, (Option.some.inj hk).symm⟩
    obtain ⟨n, ln⟩ := p
    have HI := Lib.hid hI'; have HP := Lib.hid hp
    clear hI' hk hr hp
    gi_wp2
    obtain ⟨Xo, h1, h2, h3, h4, h5⟩ := HI.out
    have hb4 := (Below.refl W'.heap.size W').alloc (Nat.le_refl _) (.cells #[.int .i64 (n : Nat)] 3)
    have hown := (HJ.out _).own _ _ h1
    refine ⟨⟨_, W'.heap.size, (n, ln), rfl, HP.out, (HJ.out _).grow _ _ _ h1 hb4, fun x hx => .inl (h2 x hx), ⟨.inl h3.1, .inl h3.2, .inr ⟨Nat.le_refl _, by simp⟩⟩, ⟨h4.1, h4.2, fun hx => by have := hown _ (h2 _ hx); omega⟩, h5.on hb4, Whole.made W' _ _⟩, SameX.below (fun x hx => hown x (h2 x hx)) hb4⟩
  case body =>
    rintro l' k X a' W' hX ⟨r0, hr0⟩ hown ⟨Xo, bx, ⟨n, ln⟩, rfl, hp, hj, hXo, ⟨hoy, hob, hox⟩, ⟨hny, hnb, hnx⟩, hwd, hwx⟩ hlt
    have hle := lines_le (List.mem_of_getElem? hp)
    have hn64 : (n : Int) ≤ 4000000001 := by have := hle.2.1; omega
    have hh65 : (h : Int) ≤ 4000000001 := by omega
    have hln : ln.length ≤ 4000000000 := by have := hle.2.2; exact Nat.le_trans this hS
    have cx : W'.cell? ⟨bx, 0, none⟩ = some (.int .i64 n) := hwx.cell 0
    have cb : W'.cell? ⟨hb, 0, none⟩ = some (.int .i64 h) := hwd.b.cell 0
    have HP := Lib.hid hp; have HJ1 := Lib.hid hj; have HXo := Lib.hid hXo; have HWd := Lib.hid hwd; have HWx := Lib.hid hwx; have HOwn := Lib.hid hown; have HR0 := Lib.hid hr0; have HX := Lib.hid hX
    clear hp hj hXo hwd hwx hown hr0 hle hlt hX
    by_cases hnh : n ≤ h
    · have hnh2 : (n : Int) ≤ (h : Int) := by omega
      gi_wp2_with fail
      exact ⟨⟨Xo, by rw [cntW_old HP.out hnh]; exact HJ1.out, HXo.out, ⟨hoy, hob⟩, ⟨hny, hnb⟩, HWd.out⟩, SameX.refl _ _⟩
    · have hnh2 : ¬ (n : Int) ≤ (h : Int) := by omega
      gi_wp2_with fail
      refine ⟨trivial, ?_⟩
      refine (CallsIn.inRound l' (callsIn_wide.2 (HSp.out W' ln))).mono ?_
      rintro e W4 ⟨rfl, hsp, hb4⟩
      obtain ⟨br, hbr⟩ : ∃ x, W'.heap.size = x := ⟨_, rfl⟩
      obtain ⟨bs, hbs⟩ : ∃ x, br + 1 = x := ⟨_, rfl⟩
      obtain ⟨bk, hbk⟩ : ∃ x, bs + 1 = x := ⟨_, rfl⟩
      rw [hbr, hbs, hbk] at hsp
      rw [hbr, hbs, hbk]
      have HSpA := Lib.hid hsp; have HB4 := Lib.hid hb4; have HBr := Lib.hid hbr; have HBs := Lib.hid hbs; have HBk := Lib.hid hbk
      clear hsp hb4 hbr hbs hbk cx cb
      gi_wp2_with fail
      have hI2 := wpI_inv (l := l) (by_ := by_) (hb := hb) (h := h) (bx := bx) (n := n) (c0 := cntW S h k) (ln := ln) (Xl := X) (W0 := W') HJ.out
      have hl4 : W4.heap[l']? = some (.loop r0) := (HB4.out.block _ (HOwn.out l' HX.out)).trans HR0.out
      refine range_iter_in hl4 rfl (enters_of Tryz.func137 (by kernel_rfl) rfl) (split_iter 32 bs br bk ln hln ⟨by have := HBs.out; omega, by have := HBs.out; have := HBk.out; omega⟩) (fun args h => by obtain ⟨x, -, rfl⟩ := List.mem_map.1 h; rfl)
        (WpI l by_ hb h bx n (cntW S h k) ln J X W') (WpX Jx X W') hI2 (wpX_inv HJx.out) ?start2 (fun W' hb => HSpA.out.on hb)
        (PlainR ((segs 32 ln).map fun x => #[str x]) (WpI l by_ hb h bx n (cntW S h k) ln J X W') (fun args => { tmps := #[.func (.yield l) #[] #[], .pointer (some ⟨sb, 0, none⟩), .pointer (some ⟨hb, 0, none⟩), .pointer (some ⟨by_, 0, none⟩), .pointer (some ⟨bx, 0, none⟩), str ln, args.getD 0 undef, str S, .func (.func 111) #[] #[.pointer (some ⟨bl, 0, none⟩)], .int .i64 n, str ln, .int .i64 n, .int .i64 h, .bool false, str ln, .func (.func 137) #[] #[.pointer (some ⟨bs, 0, none⟩), .pointer (some ⟨br, 0, none⟩), .pointer (some ⟨bk, 0, none⟩)], args.getD 0 undef, undef, undef, undef, undef, undef, undef, undef, undef, undef], defers := [] })) (plainR_keep hI2) ?assign2 ?body2 ?done2 ?stop2
      case start2 =>
        have hg := (HJ.out _).grow _ W' W4 HJ1.out HB4.out
        have hbr := HBr.out; have hbs := HBs.out; have hbk := HBk.out
        have h4 := HB4.out.size
        have hk4 := HSpA.out.2.2.lt
        have hy := HWd.out.y.lt; have hbb := HWd.out.b.lt; have hxx := HWx.out.lt
        refine ⟨fun b => Xo b ∨ (W'.heap.size ≤ b ∧ b < W4.heap.size), (by rw [show cntP ln 0 = 0 by simp [cntP]]; exact hg), fun x hx => .inr (by omega), fun x hx => .inl (HXo.out x hx), fun x hx h => by have := HOwn.out x hx; omega,
          ⟨.inl hoy, .inl hob, .inl hox⟩, ⟨(by omega), (by omega), (by omega)⟩, HWd.out.on HB4.out, HWx.out.same (HB4.out.block _ hxx), SameX.below HOwn.out HB4.out, HOwn.out⟩
      case assign2 =>
        intro l2 j X2 args W5 hX2 hr hI' hk'
        obtain ⟨x, hx, rfl⟩ := List.mem_map.1 (List.mem_of_getElem? hk')
        have HI := Lib.hid hI'; have HK := Lib.hid hk'
        clear hI' hk' hr
        gi_wp2
        exact ⟨⟨_, rfl, HI.out, HK.out⟩, SameX.refl _ _⟩
      case body2 =>
        rintro l2 j X2 a' W5 hX2 hr hown2 ⟨args, rfl, ⟨Xo2, g1, g2, g3, g4, ⟨goy, gob, gox⟩, ⟨gny, gnb, gnx⟩, gwd, gwx, gs, gl⟩, hk'⟩ hlt'
        obtain ⟨x, hx⟩ : ∃ x, (segs 32 ln)[j]? = some x := ⟨_, List.getElem?_eq_getElem (by rw [List.length_map] at hlt'; exact hlt')⟩
        obtain rfl : args = #[str x] := by rw [List.getElem?_map, hx] at hk'; exact (Option.some.inj hk').symm
        have cy : W5.cell? ⟨by_, 0, none⟩ = some (.func (.yield l) #[] #[]) := gwd.y.cell 0
        have cx : W5.cell? ⟨bx, 0, none⟩ = some (.int .i64 n) := gwx.cell 0
        have HX2 := Lib.hid hx; have G1 := Lib.hid g1; have G2 := Lib.hid g2; have G3 := Lib.hid g3; have G4 := Lib.hid g4; have GWd := Lib.hid gwd; have GWx := Lib.hid gwx; have GS := Lib.hid gs; have GL := Lib.hid gl
        clear hx g1 g2 g3 g4 gwd gwx gs gl hk' hlt' hr hown2
        by_cases hxe : x = []
        · subst hxe
          gi_wp2_with fail
          refine ⟨fun _ h => (by cases h), ?_⟩
          gi_wp2_with fail
          exact ⟨⟨Xo2, by rw [cntP_none HX2.out]; exact G1.out, G2.out, G3.out, G4.out, ⟨goy, gob, gox⟩, ⟨gny, gnb, gnx⟩, GWd.out, GWx.out, GS.out, GL.out⟩, SameX.refl _ _⟩
        · have hyy := yield_round (l' := l2) (yield_any (m' := 4) (HY.out _ Xo2 #[.int .i64 (n : Nat), str x] W5 G1.out (by rw [List.getElem?_map, words_at HP.out hnh HX2.out hxe]; rfl)))
          obtain ⟨fn, tmps, as', bd, hy, hR⟩ := hyy
          have hxe2 : x.isEmpty = false := by simp [hxe]
          gi_wp2_with fail
          refine hR.mono ?_
          rintro e W6 (⟨rfl, j6, s6⟩ | ⟨rfl, x6, s6⟩)
          · have HJ6 := Lib.hid j6; have HS6 := Lib.hid s6
            clear j6 s6
            gi_wp2
            exact ⟨⟨Xo2, by rw [(cntP_word HX2.out hxe).1]; exact HJ6.out, G2.out, G3.out, G4.out, ⟨goy, gob, gox⟩, ⟨gny, gnb, gnx⟩, ⟨GWd.out.y.same (HS6.out.2 _ goy), GWd.out.b.same (HS6.out.2 _ gob)⟩, GWx.out.same (HS6.out.2 _ gox), GS.out.trans (HS6.out.less G3.out), GL.out⟩, HS6.out.less G2.out⟩
          · have HX6 := Lib.hid x6; have HS6 := Lib.hid s6
            clear x6 s6
            gi_wp2
            exact ⟨⟨rfl, Xo2, HX6.out, G2.out, G3.out, G4.out, GS.out.trans (HS6.out.less G3.out), GL.out⟩, HS6.out.less G2.out⟩
      case done2 =>
        rintro X2 W5 ⟨Xo2, g1, g2, g3, g4, ⟨goy, gob, gox⟩, ⟨gny, gnb, gnx⟩, gwd, gwx, gs, gl⟩
        rw [List.length_map, ← cntW_new HP.out hnh] at g1
        have G1 := Lib.hid g1; have G3 := Lib.hid g3; have GWd := Lib.hid gwd; have GS := Lib.hid gs
        clear g1 g2 g3 g4 gwd gwx gs gl
        gi_wp2
        exact ⟨⟨Xo2, G1.out, G3.out, ⟨goy, gob⟩, ⟨hny, hnb⟩, GWd.out⟩, GS.out⟩
      case stop2 =>
        rintro c X2 W5 ⟨rfl, Xo2, g1, g2, g3, g4, gs, gl⟩
        have G1 := Lib.hid g1; have G3 := Lib.hid g3; have GS := Lib.hid gs
        clear g1 g2 g3 g4 gs gl
        gi_wp2
        exact ⟨⟨rfl, Xo2, G1.out, G3.out⟩, GS.out⟩
  case done =>
    rintro X W' hXD ⟨Xo, hj, hXo, ⟨hoy, hob⟩, ⟨hny, hnb⟩, hwd⟩ hK
    rw [List.length_map, cntW_all] at hj
    have hj2 := (HJ.out _).keep _ _ (W'.putObj W3.heap.size (.deferred none)) hj ((putObj_keeps _).less fun x hx => by subst hx; exact hXo _ hXD)
    have HJ1 := Lib.hid hj2
    clear hj hXo hwd hj2
    gi_wp2
    refine ⟨by simp, .inl ⟨_, _, rfl, run_takeDeferred hK, ?_⟩⟩
    exact ⟨_, results_none rfl _ _ _, ⟨_, rfl⟩, .inl ⟨Xo, by rw [List.length_map]; exact HJ1.out⟩⟩
  case stop =>
    rintro c X W' hXD ⟨rfl, Xo, hx, hXo⟩ hK
    have hx2 := HJx.out.keep _ _ (W'.putObj W3.heap.size (.deferred none)) hx ((putObj_keeps _).less fun x hx => by subst hx; exact hXo _ hXD)
    have HX1 := Lib.hid hx2
    clear hx hXo hx2
    gi_wp2
    refine ⟨by simp, .inl ⟨_, _, rfl, run_takeDeferred hK, ?_⟩⟩
    exact ⟨_, results_none rfl _ _ _, ⟨_, rfl⟩, .inr ⟨Xo, HX1.out⟩⟩
end Go.Proofs.YticcgmegimiegaaGreatDoor
