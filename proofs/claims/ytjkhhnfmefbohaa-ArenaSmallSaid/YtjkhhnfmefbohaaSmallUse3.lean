/- What the closed law of the arena uses: lists of calls that are laid; a full store; a loop over none. -/
import Derived.Test.YtjkhhnfmefbohaaNone
import Derived.Test.YtjkhhnfmefbohaaPlays
import Derived.Laws.MakeOwn
namespace Go.Proofs.Ytjkhhnfmefbohaa
open Go.RowKit Go.ChangeAt Go.ChangeShapes Go.WideShapes Go.Sort

/-! ### a row of calls -/
def actV : List Act3 → List Value → List Value
  | x :: l, v :: vs => .int .u8 x.1 :: .int .i64 x.2.1 :: v :: actV l vs
  | _, _ => []
theorem actV_len : ∀ (l : List Act3) (vs : List Value), vs.length = l.length → (actV l vs).length = l.length * 3
  | [], vs, _ => by simp [actV]
  | x :: l, [], h => by simp at h
  | x :: l, v :: vs, h => by
    have := actV_len l vs (by simpa using h)
    simp [actV, this]
    omega
theorem actV_app : ∀ (l : List Act3) (vs : List Value) (x : Act3) (v : Value), vs.length = l.length → actV (l ++ [x]) (vs ++ [v]) = actV l vs ++ [.int .u8 x.1, .int .i64 x.2.1, v]
  | [], [], _, _, _ => by simp [actV]
  | [], _ :: _, _, _, h => by simp at h
  | y :: l, [], _, _, h => by simp at h
  | y :: l, u :: vs, x, v, h => by
    have := actV_app l vs x v (by simpa using h)
    simp [actV, this]
theorem actV_at : ∀ (l : List Act3) (vs : List Value) (j : Nat) (x : Act3), vs.length = l.length → l[j]? = some x → ∃ v, vs[j]? = some v ∧ (actV l vs)[j * 3]? = some (.int .u8 x.1) ∧ (actV l vs)[j * 3 + 1]? = some (.int .i64 x.2.1) ∧ (actV l vs)[j * 3 + 2]? = some v
  | [], _, _, _, _, h => by simp at h
  | y :: l, [], _, _, h, _ => by simp at h
  | y :: l, u :: vs, 0, x, _, hx => by
    obtain rfl : y = x := by simpa using hx
    exact ⟨u, rfl, by simp [actV], by simp [actV], by simp [actV]⟩
  | y :: l, u :: vs, j + 1, x, h, hx => by
    obtain ⟨v, h1, h2, h3, h4⟩ := actV_at l vs j x (by simpa using h) (by simpa using hx)
    refine ⟨v, by simpa using h1, ?_, ?_, ?_⟩
    · rw [show (j + 1) * 3 = j * 3 + 3 by omega]; simpa [actV] using h2
    · rw [show (j + 1) * 3 + 1 = j * 3 + 1 + 3 by omega]; simpa [actV] using h3
    · rw [show (j + 1) * 3 + 2 = j * 3 + 2 + 3 by omega]; simpa [actV] using h4
/-- A row of calls of the law's own. -/
def ActRow (B : Nat) (W : World) (av : Value) (l : List Act3) : Prop :=
  ∃ vs : List Value, vs.length = l.length ∧ W.ownsRow B 27 3 av l.length (actV l vs) ∧ ∀ (j : Nat) (x : Act3) (v : Value), l[j]? = some x → vs[j]? = some v → Ints W.heap.size W v x.2.2
theorem actRow_nil (B : Nat) (W : World) : ActRow B W (.slice none 0 0) [] := ⟨[], rfl, World.ownsRow_nil _ _ _ _, fun j x v h => by simp at h⟩
theorem ActRow.acts {B : Nat} {W : World} {av : Value} {l : List Act3} (h : ActRow B W av l) : Acts W.heap.size W av l := by
  obtain ⟨vs, hl, hr, hv⟩ := h
  rcases hr.2 with ⟨rfl, h0⟩ | ⟨b, cap, cur, rfl, hb, hg, hn, -⟩
  · exact .inl ⟨_, _, rfl, fun _ => rfl, List.eq_nil_of_length_eq_zero h0⟩
  · refine .inr ⟨b, 0, cap, rfl, hn, (hr.lt b rfl).2, fun j x hx => ?_⟩
    obtain ⟨v, h1, h2, h3, h4⟩ := actV_at l vs j x hl hx
    have hc : ∀ i u, (actV l vs)[i]? = some u → W.cell? ⟨b, i, none⟩ = some u := fun i u hi => by
      have := hr.cells (g := b) rfl i u hi
      rwa [addr_add, Nat.zero_add] at this
    rw [Nat.zero_add]
    exact ⟨v, hc _ _ h2, hc _ _ h3, hc _ _ h4, hv j x v hx h1⟩
theorem ActRow.push {B : Nat} {W W' : World} {av' : Value} {l : List Act3} {vs : List Value} {x : Act3} {v : Value} (hl : vs.length = l.length) (hv : ∀ (j : Nat) (x : Act3) (v : Value), l[j]? = some x → vs[j]? = some v → Ints W.heap.size W v x.2.2)
    (hb : Below W.heap.size W W') (hx : Ints W'.heap.size W' v x.2.2) (hr : W'.ownsRow B 27 3 av' (l.length + 1) (actV l vs ++ [.int .u8 x.1, .int .i64 x.2.1, v])) : ActRow B W' av' (l ++ [x]) := by
  refine ⟨vs ++ [v], by simp [hl], ?_, fun j q u h1 h2 => ?_⟩
  · rw [actV_app l vs x v hl, List.length_append]
    exact hr
  · rcases Nat.lt_or_ge j l.length with h | h
    · rw [List.getElem?_append_left h] at h1
      rw [List.getElem?_append_left (by omega)] at h2
      exact (hv j q u h1 h2).on hb
    · have hj : j = l.length := by
        have := (List.getElem?_eq_some_iff.1 h1).1
        rw [List.length_append] at this
        simp at this
        omega
      subst hj
      rw [List.getElem?_append_right (Nat.le_refl _)] at h1
      rw [← hl, List.getElem?_append_right (Nat.le_refl _)] at h2
      simp at h1 h2
      subst h1 h2
      exact hx
/-- .. that is laid in one block. -/
theorem acts_laid {W : World} {b : Nat} {l : List Act3} {vs : List Value} (hl : vs.length = l.length) (hW : Whole W b 27 (actV l vs).toArray) (hv : ∀ (j : Nat) (x : Act3) (v : Value), l[j]? = some x → vs[j]? = some v → Ints W.heap.size W v x.2.2) :
    Acts W.heap.size W (.slice (some ⟨b, 0, none⟩) l.length l.length) l := by
  refine .inr ⟨b, 0, l.length, rfl, Nat.le_refl _, hW.lt, fun j x hx => ?_⟩
  obtain ⟨v, h1, h2, h3, h4⟩ := actV_at l vs j x hl hx
  rw [Nat.zero_add, hW.cell, hW.cell, hW.cell]
  exact ⟨v, by simpa using h2, by simpa using h3, by simpa using h4, hv j x v hx h1⟩
theorem infoAct : (Try.prog.info? 27).map (fun i => (i.zero, i.size, i.bytes)) = some (some (.agg #[.int .u8 0, .int .i64 0, .slice none 0 0]), 3, 40) := by kernel_rfl
/-- A part of a list of numbers that was just laid. -/
theorem ints_part {W : World} {b n : Nat} {T : TypeId} (xs : List Int) (h : Whole W b T (xs.map (Value.int .i64)).toArray) (hn : n ≤ xs.length) (c : Nat) : Ints W.heap.size W (.slice (some ⟨b, 0, none⟩) n c) (xs.take n) := by
  have hl : (xs.take n).length = n := by rw [List.length_take]; omega
  refine .inr ⟨b, 0, c, by rw [hl], h.lt, fun j hj => ?_⟩
  rw [hl] at hj
  rw [Nat.zero_add, h.cell, List.getElem?_take_of_lt hj]
  simp [List.getElem?_eq_getElem (show j < xs.length by omega)]

/-! ### a long clause -/
def longL (j : Nat) : List Int := List.replicate j 1 ++ List.replicate (4096 - j) 0
theorem longL_len {j : Nat} (h : j ≤ 4096) : (longL j).length = 4096 := by unfold longL; rw [List.length_append, List.length_replicate, List.length_replicate]; omega
theorem longL_set {j : Nat} (h : j < 4096) : (longL j).set j 1 = longL (j + 1) := by
  refine List.ext_getElem? fun i => ?_
  unfold longL
  rw [List.getElem?_set]
  simp only [List.getElem?_append, List.length_replicate, List.getElem?_replicate, List.length_append]
  repeat' split
  all_goals first | rfl | (exfalso; omega)
theorem longL_all : longL 4096 = List.replicate 4096 1 := by unfold longL; rw [Nat.sub_self]; exact List.append_nil _
def onesL : List Int := List.replicate 4096 1
theorem onesL_len : onesL.length = 4096 := List.length_replicate
theorem onesL_right : rightB onesL = true := rightB_mk (by rw [onesL_len]; decide) fun x hx => by
  obtain rfl : x = 1 := (List.mem_replicate.1 hx).2
  decide
def fullL (j : Nat) : List (Int × List Int) := (List.range j).map fun (i : Nat) => ((i : Int) + 1, onesL)
theorem fullL_succ (j : Nat) : fullL (j + 1) = fullL j ++ [((j : Int) + 1, onesL)] := by simp [fullL, List.range_succ]
theorem fullL_sum (j : Nat) : sumL (fullL j) = 4096 * j := by
  induction j with
  | zero => rfl
  | succ j ih =>
    rw [fullL_succ, sumL_app, ih]
    have : sumL [((j : Int) + 1, onesL)] = 4096 := by simp [sumL, onesL_len]
    omega
theorem sumL_map {f : Nat → Int × List Int} {n : Nat} (h : ∀ i, (f i).2.length = n) : ∀ l : List Nat, sumL (l.map f) = n * l.length
  | [] => rfl
  | i :: l => by
    have ih := sumL_map h l
    have e : sumL ((i :: l).map f) = (f i).2.length + sumL (l.map f) := by simp [sumL]
    rw [e, ih, h, List.length_cons, Nat.mul_succ]
    omega
theorem fullL_filt (n : Nat) : (fullL n).filter (fun p => decide (p.1 ≠ 7)) = ((List.range n).filter fun i => decide (i ≠ 6)).map fun (i : Nat) => ((i : Int) + 1, onesL) := by
  unfold fullL
  rw [List.filter_map]
  refine congrArg _ (List.filter_congr fun i _ => decide_eq_decide.2 ?_)
  show ¬ ((i : Int) + 1 = 7) ↔ ¬ i = 6
  omega
/-- What the law's store has at the end. -/
def endL : List (Int × List Int) := ((fullL 256 ++ [(9999, [])]).filter fun p => decide (p.1 ≠ 7)) ++ [(10000, onesL)]
theorem filt_sum : sumL ((fullL 256 ++ [(9999, [])]).filter fun p => decide (p.1 ≠ 7)) = 1044480 := by
  have h1 := fullL_filt 256
  have h2 : (([(9999, [])] : List (Int × List Int)).filter fun p => decide (p.1 ≠ 7)) = [(9999, [])] := by decide
  have h3 : sumL [(9999, [])] = 0 := by decide
  have h4 : ((List.range 256).filter fun i => decide (i ≠ 6)).length = 255 := by decide +kernel
  rw [List.filter_append, sumL_app, h1, h2, h3, sumL_map (n := 4096) (fun i => onesL_len), h4]
theorem endL_sum : sumL endL = 1048576 := by
  unfold endL
  have h : sumL [(10000, onesL)] = 4096 := by simp [sumL, onesL_len]
  rw [sumL_app, filt_sum, h]

/-! ### a loop over none -/
theorem range_none {n : Nat} {gop : Operand} {ps : Array Tmp} {assign body : Code} {Q : Exit → Act → World → Prop} {a : Act} {w : World} {bx : Nat} {p : Option Addr}
    (hg : a.eval gop = .func (.func 43) #[] #[.pointer (some ⟨bx, 0, none⟩)]) (eg : ∀ args w, (callFunc 43 args).run Try.prog w = .ok (.enter 43 args) w)
    (h : NoArena w p) (hb : Whole w bx 31 #[.pointer p])
    (hdone : ∀ (D : Nat) (W : World), w.heap.size ≤ D → Below w.heap.size w W → W.heap[D]? = some (.deferred (some [])) → Q .normal { a with defers := { target := .collected D, args := #[] } :: a.defers } W) :
    (Code.rangeFunc gop ps assign body).wpIn .wide n Try.prog Q a w := by
  refine wide_range (α := Unit) (β := Unit) hg eg (fun _ W => Below w.heap.size w W) (fun _ _ => False) (fun _ => steady_below w (Nat.le_refl _) (Nat.le_refl _)) (fun _ => steady_true False) () (Below.refl _ _)
    (fun _ W _ W' => Below W.heap.size W W') (fun _ _ W W' k i => i.trans (k.mono i.size)) (fun _ _ _ _ k => Odd.of_below k) (fun _ _ _ _ => False) (fun _ _ _ => steady_true False) (fun _ _ _ => True) (fun _ => True) (fun _ _ _ _ h => h.elim) ?_
    (fun _ => a) (fun _ _ _ _ _ _ h _ => h.elim) (fun _ _ _ _ _ _ h => h.elim) (fun D _ W hD _ hB hd => hdone D W hD hB hd) (fun _ _ _ _ h => h.elim)
  intro l J Jx W hJ hJx hJI hs0 hY
  have hB := hJI () W hs0
  refine callsIn_wide.2 ((all1_none (h.on hB) bx l ((hB.cell (p := ⟨bx, 0, none⟩) hb.lt).trans (hb.cell 0))).mono fun e W' ⟨he, hb'⟩ => ⟨he, .inl ⟨(), trivial, hJ () () W W' hb' hs0⟩⟩)
end Go.Proofs.Ytjkhhnfmefbohaa
