/- A play: a trail, the reference beside it, and what a call does to both. -/
import Derived.Test.YtdeedmfofjdbjaaRefTrYes
import Derived.Test.YtdeedmfofjdbjaaTrActs
namespace Go.Proofs.Ytdeedmfofjdbjaa
open Go.RowKit Go.ChangeAt Go.ChangeShapes Go.WideShapes Go.Sort

/-! ### the calls, whatever comes of them -/
def assL (nv : Nat) (its : List It) (lev : Nat) (l r : Int) : List It := if assE nv its l r = 0 then its ++ [⟨l, lev, r⟩] else its
theorem assE_yes {nv : Nat} {its : List It} {l r : Int} (h : assE nv its l r = 0) : (1 ≤ l.natAbs ∧ l.natAbs ≤ nv) ∧ (0 ≤ r ∧ r ≤ 1073741824) ∧ valI its l = 0 := by
  unfold assE at h
  by_cases h1 : 1 ≤ l.natAbs ∧ l.natAbs ≤ nv
  · rw [if_pos h1] at h
    by_cases h2 : 0 ≤ r ∧ r ≤ 1073741824
    · rw [if_pos h2] at h
      by_cases h3 : valI its l = 0
      · exact ⟨h1, h2, h3⟩
      · rw [if_neg h3] at h; cases h
    · rw [if_neg h2] at h; cases h
  · rw [if_neg h1] at h; cases h
theorem RRow.lt {B : Nat} {W : World} {av : Value} {its : List It} (h : RRow B W av its) : ∀ b, av.ownBlock = some b → B ≤ b ∧ b < W.heap.size := fun b e => World.ownsRow.lt h b e
theorem RRow.base {B B' : Nat} {W : World} {av : Value} {its : List It} (h : RRow B W av its) (hb : B' ≤ B) : RRow B' W av its := owns_mono h hb
section
variable {K : Nat → Prop} {g nv B : Nat} {its : List It} {st : List Nat} {iv sv : Value}
theorem assign_ar (l r : Int) (w : World) (h : Trl K w g nv its st) : Calls Try.prog 16 #[.pointer (some ⟨g, 0, none⟩), .int .i64 l, .int .i64 r] w fun e w' =>
    ∃ K', e = .returned (.int .i64 (assE nv its l r)) ∧ Trl K' w' g nv (assL nv its st.length l r) st ∧ Turn K w K' w' := by
  by_cases hy : assE nv its l r = 0
  · obtain ⟨⟨h1, h2⟩, ⟨h3, h4⟩, h5⟩ := assE_yes hy
    unfold assL
    rw [if_pos hy, hy]
    exact assign_tr l r h1 h2 (valI_zero h5) h3 h4 w h
  · refine (assign_no l r hy w h).mono fun e w' ⟨h1, h2⟩ => ⟨K, h1, ?_, Turn.of_below h2⟩
    unfold assL
    rw [if_neg hy]
    exact h.on h2
theorem assign_ref (l r : Int) (w : World) (hB : B ≤ w.heap.size) (hg : TG nv its st) (h : RRow B w iv its) (hs : ∃ As ns cs, sv = .slice As ns cs) : Calls Try.prog 35 #[refT nv (st.length : Nat) iv sv, .int .i64 l, .int .i64 r] w fun e w' =>
    ∃ iv', e = .returned (.tuple #[refT nv (st.length : Nat) iv' sv, .int .i64 (assE nv its l r)]) ∧ RRow B w' iv' (assL nv its st.length l r) ∧ (∀ b, iv'.ownBlock = some b → iv.ownBlock = some b ∨ w.heap.size ≤ b) ∧ Below w.heap.size w w' := by
  obtain ⟨As, ns, cs, rfl⟩ := hs
  by_cases hy : assE nv its l r = 0
  · refine (assign_ref_yes st.length l r w hg h hy).mono fun e w' ⟨iv', h1, h2, h3⟩ => ⟨iv', by rw [hy]; exact h1, ?_, fun b eb => .inr (h2.lt b eb).1, h3⟩
    unfold assL
    rw [if_pos hy]
    exact h2.base hB
  · refine (assign_ref_no (st.length : Nat) l r w hg h hy).mono fun e w' ⟨h1, h2⟩ => ⟨iv, h1, ?_, fun b eb => .inl eb, h2⟩
    unfold assL
    rw [if_neg hy]
    exact h.on h2
def bacB (st : List Nat) (v : Int) : Bool := decide (0 ≤ v ∧ v ≤ (st.length : Int))
def bacE (st : List Nat) (v : Int) : Int := if bacB st v then 0 else 42
def bacI (its : List It) (st : List Nat) (v : Int) : List It := if bacB st v then its.take (endOf its st v.toNat) else its
def bacS (st : List Nat) (v : Int) : List Nat := if bacB st v then st.take v.toNat else st
theorem bac_no {st : List Nat} {v : Int} (h : bacB st v = false) : v < 0 ∨ (st.length : Int) < v := by
  have := of_decide_eq_false h
  omega
theorem back_ar (v : Int) (w : World) (h : Trl K w g nv its st) : Calls Try.prog 17 #[.pointer (some ⟨g, 0, none⟩), .int .i64 v] w fun e w' =>
    ∃ K', e = .returned (.int .i64 (bacE st v)) ∧ Trl K' w' g nv (bacI its st v) (bacS st v) ∧ Turn K w K' w' := by
  unfold bacE bacI bacS
  cases hb : bacB st v
  · refine (back_no v (bac_no hb) w h).mono ?_
    rintro e w' ⟨h1, rfl⟩
    exact ⟨K, h1, h, Turn.refl _ _⟩
  · have := of_decide_eq_true hb
    obtain ⟨k, rfl⟩ := Int.eq_ofNat_of_zero_le this.1
    exact back_tr k (by omega) w h
theorem back_ref (v : Int) (w : World) (hB : B ≤ w.heap.size) (hg : TG nv its st) (h : RRow B w iv its) (hs : w.ownsRow B 3 1 sv (st.length + 1) ((0 :: stI st).map (Value.int .i64))) : Calls Try.prog 37 #[refT nv (st.length : Nat) iv sv, .int .i64 v] w fun e w' =>
    ∃ iv' sv', e = .returned (.tuple #[refT nv ((bacS st v).length : Nat) iv' sv', .int .i64 (bacE st v)]) ∧ RRow B w' iv' (bacI its st v) ∧ w'.ownsRow B 3 1 sv' ((bacS st v).length + 1) ((0 :: stI (bacS st v)).map (Value.int .i64)) ∧
      (∀ b, iv'.ownBlock = some b → iv.ownBlock = some b ∨ w.heap.size ≤ b) ∧ (∀ b, sv'.ownBlock = some b → sv.ownBlock = some b ∨ w.heap.size ≤ b) ∧ Below w.heap.size w w' := by
  unfold bacE bacI bacS
  cases hb : bacB st v
  · obtain ⟨Ai, ci, rfl, -, -⟩ := h.at_
    obtain ⟨As, cs, rfl⟩ := own_shape1 hs
    refine (back_ref_no nv (st.length : Nat) v w (bac_no hb)).mono fun e w' ⟨h1, h2⟩ => ⟨_, _, h1, h.on h2, owns_on0 hs h2, fun b eb => .inl eb, fun b eb => .inl eb, h2⟩
  · have hv := of_decide_eq_true hb
    obtain ⟨k, rfl⟩ := Int.eq_ofNat_of_zero_le hv.1
    have hk : k ≤ st.length := by omega
    refine (back_ref_yes k w hg h hs hk).mono fun e w' ⟨iv', sv', h1, h2, h3, h4, h5⟩ => ⟨iv', sv', ?_, h2.base hB, ?_, fun b eb => .inr (h2.lt b eb).1, fun b eb => .inl (h4 b eb), h5⟩
    · simp only [if_true, Int.toNat_natCast, List.length_take, Nat.min_eq_left hk]
      exact h1
    · simp only [if_true, Int.toNat_natCast, List.length_take, Nat.min_eq_left hk]
      exact h3
theorem push_ref2 (w : World) (hB : B ≤ w.heap.size) (hl : st.length ≤ 1048575) (h : RRow B w iv its) (hs : w.ownsRow B 3 1 sv (st.length + 1) ((0 :: stI st).map (Value.int .i64))) : Calls Try.prog 36 #[refT nv (st.length : Nat) iv sv] w fun e w' =>
    ∃ sv', e = .returned (refT nv ((st ++ [its.length]).length : Nat) iv sv') ∧ w'.ownsRow B 3 1 sv' ((st ++ [its.length]).length + 1) ((0 :: stI (st ++ [its.length])).map (Value.int .i64)) ∧ (∀ b, sv'.ownBlock = some b → sv.ownBlock = some b ∨ w.heap.size ≤ b) ∧ Below w.heap.size w w' := by
  have hsl : (0 :: stI st).length = st.length + 1 := by simp [stI]
  have := push_ref (ss := 0 :: stI st) (nv : Int) (st.length : Nat) w h (by rw [hsl]; exact hs) (by rw [hsl]; omega) (by omega) (by omega)
  refine this.mono fun e w' ⟨sv', h1, h2, h3⟩ => ⟨sv', ?_, ?_, fun b eb => .inr (h2.lt b eb).1, h3⟩
  · rw [show (((st ++ [its.length]).length : Nat) : Int) = (st.length : Int) + 1 from by simp]
    exact h1
  · rw [hsl] at h2
    rw [show (st ++ [its.length]).length = st.length + 1 from by simp, stI_snoc]
    exact owns_mono h2 hB
theorem bac_len (st : List Nat) (v : Int) : (bacS st v).length ≤ st.length := by
  unfold bacS
  split
  · rw [List.length_take]; omega
  · exact Nat.le_refl _
end

/-! ### what is kept between the calls -/
/-- A trail, and beside it, in the cell rb, the reference. -/
structure PT (rb : Nat) (K : Nat → Prop) (g nv : Nat) (its : List It) (st : List Nat) (iv sv : Value) (its2 : List It) (st2 : List Nat) (w W : World) : Prop where
  tr : Trl K W g nv its st
  cell : Whole W rb 69 #[.int .i64 (nv : Nat), .int .i64 (st2.length : Nat), iv, sv]
  row : RRow w.heap.size W iv its2
  sts : W.ownsRow w.heap.size 3 1 sv (st2.length + 1) ((0 :: stI st2).map (Value.int .i64))
  offi : ∀ b, iv.ownBlock = some b → ¬ K b
  offs : ∀ b, sv.ownBlock = some b → ¬ K b
  off : ¬ K rb
  base : ∀ i, K i → w.heap.size ≤ i
  below : Below w.heap.size w W
  rbB : w.heap.size ≤ rb
section
variable {rb g nv : Nat} {K K' : Nat → Prop} {its its' its2 its3 : List It} {st st' st2 st3 : List Nat} {iv sv iv' sv' : Value} {w W W' : World}
theorem PT.turn (h : PT rb K g nv its st iv sv its2 st2 w W) (t : Turn K W K' W') (hA : Trl K' W' g nv its' st') : PT rb K' g nv its' st' iv sv its2 st2 w W' :=
  ⟨hA, h.cell.same (t.1.block _ h.cell.lt h.off), h.row.keeps t.1 h.offi, row_turn h.sts t.1 h.offs, fun b e => t.off (h.row.lt b e).2 (h.offi b e), fun b e => t.off (h.sts.lt b e).2 (h.offs b e), t.off h.cell.lt h.off, t.from_ h.below.size h.base, h.below.trans (t.below h.below.size h.base), h.rbB⟩
theorem PT.on (h : PT rb K g nv its st iv sv its2 st2 w W) (hb : Below W.heap.size W W') : PT rb K g nv its st iv sv its2 st2 w W' := h.turn (Turn.of_below hb) (h.tr.on hb)
theorem PT.put (h : PT rb K g nv its st iv sv its2 st2 w W) (hr : RRow w.heap.size W iv' its3) (hs : W.ownsRow w.heap.size 3 1 sv' (st3.length + 1) ((0 :: stI st3).map (Value.int .i64))) (hki : ∀ b, iv'.ownBlock = some b → ¬ K b) (hks : ∀ b, sv'.ownBlock = some b → ¬ K b) :
    PT rb K g nv its st iv' sv' its3 st3 w ((((W.setCell ⟨rb, 0, none⟩ (.int .i64 (nv : Nat))).setCell ⟨rb, 1, none⟩ (.int .i64 (st3.length : Nat))).setCell ⟨rb, 2, none⟩ iv').setCell ⟨rb, 3, none⟩ sv') := by
  have hKp := ((((Keeps.refl (fun b => b = rb) W).setCell (p := ⟨rb, 0, none⟩) (.inl rfl) (.int .i64 (nv : Nat))).setCell (p := ⟨rb, 1, none⟩) (.inl rfl) (.int .i64 (st3.length : Nat))).setCell (p := ⟨rb, 2, none⟩) (.inl rfl) iv').setCell (p := ⟨rb, 3, none⟩) (.inl rfl) sv'
  have hb := ((((Below.refl w.heap.size W).setCell (p := ⟨rb, 0, none⟩) h.rbB (.int .i64 (nv : Nat))).setCell (p := ⟨rb, 1, none⟩) h.rbB (.int .i64 (st3.length : Nat))).setCell (p := ⟨rb, 2, none⟩) h.rbB iv').setCell (p := ⟨rb, 3, none⟩) h.rbB sv'
  refine ⟨(((h.tr.set (b := rb) (i := 0) h.off _).set (b := rb) (i := 1) h.off _).set (b := rb) (i := 2) h.off _).set (b := rb) (i := 3) h.off _, (h.cell.store4 _ _ _ _).2.2.2.2, hr.keeps hKp (fun b e hb => ?_), row_turn hs hKp (fun b e hb => ?_), hki, hks, h.off, h.base, h.below.trans hb, h.rbB⟩
  · have hb : b = rb := hb
    subst hb
    exact h.cell.row_ne hr (by decide) e
  · have hb : b = rb := hb
    subst hb
    exact h.cell.row_ne hs (by decide) e
end
end Go.Proofs.Ytdeedmfofjdbjaa
