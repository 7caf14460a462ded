/- The trail's functions as steps of a law that has one trail. -/
import Derived.Test.YtdeedmfofjdbjaaTrAssign
import Derived.Test.YtdeedmfofjdbjaaTrBack
namespace Go.Proofs.Ytdeedmfofjdbjaa
open Go.RowKit Go.ChangeAt Go.ChangeShapes Go.WideShapes

/-- A trail that the call has made. -/
def TS (w W : World) (g nv : Nat) (its : List It) (st : List Nat) : Prop := ∃ K, Trl K W g nv its st ∧ (∀ i, K i → w.heap.size ≤ i) ∧ Below w.heap.size w W
section
variable {w W : World} {g nv : Nat} {its : List It} {st : List Nat}
theorem TS.good (h : TS w W g nv its st) : TG nv its st := by
  obtain ⟨K, h1, -⟩ := h
  exact h1.good
theorem TS.below (h : TS w W g nv its st) : Below w.heap.size w W := by
  obtain ⟨K, -, -, h1⟩ := h
  exact h1
theorem TS.on (h : TS w W g nv its st) {W' : World} (hb : Below W.heap.size W W') : TS w W' g nv its st := by
  obtain ⟨K, h1, h2, h3⟩ := h
  exact ⟨K, h1.on hb, h2, h3.trans (hb.mono h3.size)⟩
theorem TS.turn {K K' : Nat → Prop} {its' : List It} {st' : List Nat} {W' : World} (h2 : ∀ i, K i → w.heap.size ≤ i) (h3 : Below w.heap.size w W) (hT : Turn K W K' W') (hA : Trl K' W' g nv its' st') : TS w W' g nv its' st' := ⟨K', hA, hT.from_ h3.size h2, h3.trans (hT.below h3.size h2)⟩
theorem ts_new (nv : Nat) (hn : nv ≤ 1048576) (w0 w : World) (hb : Below w0.heap.size w0 w) : Calls Try.prog 12 #[.int .i64 (nv : Nat)] w fun r W => ∃ g, r = .returned (.tuple #[.pointer (some ⟨g, 0, none⟩), .int .i64 0]) ∧ TS w0 W g nv [] [] := by
  refine (new_tr nv hn w).mono ?_
  rintro r W ⟨g, K, h1, h2, h3, h4⟩
  exact ⟨g, h1, K, h2, fun i hi => Nat.le_trans hb.size (h3 i hi), hb.trans (h4.mono hb.size)⟩
theorem ts_push (h : TS w W g nv its st) (hs : st.length < 1048575) : Calls Try.prog 14 #[.pointer (some ⟨g, 0, none⟩)] W fun r W' => r = .returned (.int .i64 0) ∧ TS w W' g nv its (st ++ [its.length]) := by
  obtain ⟨K, h1, h2, h3⟩ := h
  refine (push_tr W h1 hs).mono ?_
  rintro r W' ⟨K', e, hA, hT⟩
  exact ⟨e, TS.turn h2 h3 hT hA⟩
theorem ts_assign (h : TS w W g nv its st) (l r : Int) (hl1 : 1 ≤ l.natAbs) (hl2 : l.natAbs ≤ nv) (hn : ∀ x ∈ its, x.vr ≠ l.natAbs) (hr0 : 0 ≤ r) (hr1 : r ≤ 1073741824) : Calls Try.prog 16 #[.pointer (some ⟨g, 0, none⟩), .int .i64 l, .int .i64 r] W fun e W' => e = .returned (.int .i64 0) ∧ TS w W' g nv (its ++ [⟨l, st.length, r⟩]) st := by
  obtain ⟨K, h1, h2, h3⟩ := h
  refine (assign_tr l r hl1 hl2 hn hr0 hr1 W h1).mono ?_
  rintro r W' ⟨K', e, hA, hT⟩
  exact ⟨e, TS.turn h2 h3 hT hA⟩
theorem ts_assign_no (h : TS w W g nv its st) (l r : Int) (e : Int) (he : e ≠ 0) (hn : assE nv its l r = e) : Calls Try.prog 16 #[.pointer (some ⟨g, 0, none⟩), .int .i64 l, .int .i64 r] W fun r W' => r = .returned (.int .i64 e) ∧ TS w W' g nv its st := by
  have h' := h
  obtain ⟨K, h1, h2, h3⟩ := h
  refine (assign_no l r (by rw [hn]; exact he) W h1).mono ?_
  rintro r W' ⟨e, hB⟩
  exact ⟨by rw [e, hn], h'.on hB⟩
theorem ts_back (h : TS w W g nv its st) (k : Nat) (hk : k ≤ st.length) : Calls Try.prog 17 #[.pointer (some ⟨g, 0, none⟩), .int .i64 (k : Nat)] W fun r W' => r = .returned (.int .i64 0) ∧ TS w W' g nv (its.take (endOf its st k)) (st.take k) := by
  obtain ⟨K, h1, h2, h3⟩ := h
  refine (back_tr k hk W h1).mono ?_
  rintro r W' ⟨K', e, hA, hT⟩
  exact ⟨e, TS.turn h2 h3 hT hA⟩
theorem ts_back_no (h : TS w W g nv its st) (v : Int) (hv : v < 0 ∨ (st.length : Int) < v) : Calls Try.prog 17 #[.pointer (some ⟨g, 0, none⟩), .int .i64 v] W fun e w' => e = .returned (.int .i64 42) ∧ W = w' := by
  obtain ⟨K, h1, h2, h3⟩ := h
  exact back_no v hv W h1
theorem ts_value (h : TS w W g nv its st) (l : Int) (x : Int) (hx : valI its l = x) : Calls Try.prog 26 #[.pointer (some ⟨g, 0, none⟩), .int .i64 l] W fun r W' => r = .returned (.int .i64 x) ∧ TS w W' g nv its st := by
  have h' := h
  obtain ⟨K, h1, h2, h3⟩ := h
  refine (value_tr l W h1).mono ?_
  rintro r W' ⟨e, hB⟩
  exact ⟨by rw [e, hx], h'.on hB⟩
theorem ts_level (h : TS w W g nv its st) (v : Int) (o : Option (Nat × It)) (ho : OAt its v o) : Calls Try.prog 21 #[.pointer (some ⟨g, 0, none⟩), .int .i64 v] W fun r W' => r = .returned (.tuple #[.int .i64 (fld o 1), .bool o.isSome]) ∧ TS w W' g nv its st := by
  have h' := h
  obtain ⟨K, h1, h2, h3⟩ := h
  refine (level_tr v o ho W h1).mono ?_
  rintro r W' ⟨e, hB⟩
  exact ⟨e, h'.on hB⟩
theorem ts_reason (h : TS w W g nv its st) (v : Int) (o : Option (Nat × It)) (ho : OAt its v o) : Calls Try.prog 22 #[.pointer (some ⟨g, 0, none⟩), .int .i64 v] W fun r W' => r = .returned (.tuple #[.int .i64 (fld o 2), .bool o.isSome]) ∧ TS w W' g nv its st := by
  have h' := h
  obtain ⟨K, h1, h2, h3⟩ := h
  refine (reason_tr v o ho W h1).mono ?_
  rintro r W' ⟨e, hB⟩
  exact ⟨e, h'.on hB⟩
theorem ts_place (h : TS w W g nv its st) (v : Int) (o : Option (Nat × It)) (ho : OAt its v o) : Calls Try.prog 23 #[.pointer (some ⟨g, 0, none⟩), .int .i64 v] W fun r W' => r = .returned (.tuple #[.int .i64 (fld o 3), .bool o.isSome]) ∧ TS w W' g nv its st := by
  have h' := h
  obtain ⟨K, h1, h2, h3⟩ := h
  refine (place_tr v o ho W h1).mono ?_
  rintro r W' ⟨e, hB⟩
  exact ⟨e, h'.on hB⟩
theorem ts_now (h : TS w W g nv its st) : Calls Try.prog 15 #[.pointer (some ⟨g, 0, none⟩)] W fun e w' => e = .returned (.int .i64 (st.length : Nat)) ∧ W = w' := by
  obtain ⟨K, h1, h2, h3⟩ := h
  exact now_tr W h1
theorem ts_len (h : TS w W g nv its st) : Calls Try.prog 18 #[.pointer (some ⟨g, 0, none⟩)] W fun e w' => e = .returned (.int .i64 (its.length : Nat)) ∧ W = w' := by
  obtain ⟨K, h1, h2, h3⟩ := h
  exact len_tr W h1
theorem ts_start (h : TS w W g nv its st) (v : Int) (h0 : 0 ≤ v) (hv : v ≤ (st.length : Nat)) (x : Int) (hx : startI st v = x) : Calls Try.prog 20 #[.pointer (some ⟨g, 0, none⟩), .int .i64 v] W fun e w' => e = .returned (.tuple #[.int .i64 x, .int .i64 0]) ∧ W = w' := by
  obtain ⟨K, h1, h2, h3⟩ := h
  rw [← hx]
  exact start_tr v h0 hv W h1
end
end Go.Proofs.Ytdeedmfofjdbjaa
