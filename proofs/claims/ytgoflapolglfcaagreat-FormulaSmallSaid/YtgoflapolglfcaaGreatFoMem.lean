/- Lists of lists of numbers, as they are read. -/
/- Small facts of memory. -/
import Derived.Test.YtgoflapolglfcaaGreatRight
import Derived.Test.YtgoflapolglfcaaGreatObj
import Derived.IntWalk
namespace Go.Proofs.YtgoflapolglfcaaGreat
open Go.RowKit Go.ChangeAt Go.ChangeShapes Go.WideShapes

/-- A slice of slices holds the lists L; all lies below C. -/
def RowsI (C : Nat) (W : World) (v : Value) (L : List (List Int)) : Prop :=
  (∃ A c, v = .slice A 0 c ∧ L = []) ∨ ∃ b off cap, v = .slice (some ⟨b, off, none⟩) L.length cap ∧ b < C ∧ ∀ (j : Nat) (zs : List Int), L[j]? = some zs → ∃ sv, W.cell? ⟨b, off + j, none⟩ = some sv ∧ Ints C W sv zs
section
variable {C C' : Nat} {X Y W : World} {v : Value} {L : List (List Int)}
theorem RowsI.below (h : Below C X Y) : RowsI C X v L → RowsI C Y v L
  | .inl e => .inl e
  | .inr ⟨b, off, cap, e, hb, hj⟩ => .inr ⟨b, off, cap, e, hb, fun j zs hz => by
      obtain ⟨sv, h1, h2⟩ := hj j zs hz
      exact ⟨sv, (h.cell (p := ⟨b, off + j, none⟩) hb).trans h1, h2.below h⟩⟩
theorem RowsI.more (hC : C ≤ C') : RowsI C W v L → RowsI C' W v L
  | .inl e => .inl e
  | .inr ⟨b, off, cap, e, hb, hj⟩ => .inr ⟨b, off, cap, e, Nat.lt_of_lt_of_le hb hC, fun j zs hz => by
      obtain ⟨sv, h1, h2⟩ := hj j zs hz
      exact ⟨sv, h1, h2.more hC⟩⟩
theorem RowsI.shape (h : RowsI C W v L) : ∃ A cap, v = .slice A L.length cap ∧ ∀ (j : Nat) (zs : List Int), L[j]? = some zs → ∃ b off As cs, A = some ⟨b, off, none⟩ ∧ b < C ∧ W.cell? ⟨b, off + j, none⟩ = some (.slice As zs.length cs) ∧ Ints C W (.slice As zs.length cs) zs := by
  rcases h with ⟨A, c, rfl, rfl⟩ | ⟨b, off, cap, rfl, hb, hj⟩
  · exact ⟨A, c, rfl, fun j zs hz => by simp at hz⟩
  · exact ⟨_, cap, rfl, fun j zs hz => by
      obtain ⟨sv, h1, h2⟩ := hj j zs hz
      obtain ⟨As, cs, rfl, -⟩ := ints_shape h2
      exact ⟨b, off, As, cs, rfl, hb, h1, h2⟩⟩
theorem rowsI_nil (C : Nat) (W : World) : RowsI C W (.slice none 0 0) [] := .inl ⟨_, _, rfl, rfl⟩
end
/-! ### what the definitions say -/
/-- What is wrong with a clause of some variables. -/
def badE (vars : Int) (zs : List Int) : Int := if rightB zs then (if ∀ l ∈ zs, varI l ≤ vars then 0 else 51) else 20
theorem badE_none {vars : Int} {zs : List Int} (h : rightB zs = false) : badE vars zs = 20 := by unfold badE; rw [if_neg (by rw [h]; decide)]
theorem badE_lit {vars : Int} {zs : List Int} (h : rightB zs = true) {l : Int} (hl : l ∈ zs) (hv : vars < varI l) : badE vars zs = 51 := by
  unfold badE
  rw [if_pos h, if_neg (fun e => by have := e l hl; omega)]
theorem badE_ok {vars : Int} {zs : List Int} (h : rightB zs = true) (hv : ∀ l ∈ zs, varI l ≤ vars) : badE vars zs = 0 := by
  unfold badE
  rw [if_pos h, if_pos hv]
/-- The first clause that is wrong, and what is. -/
def firstBad (vars : Int) : Nat → List (List Int) → Option (Nat × Int)
  | _, [] => none
  | k, zs :: L => if badE vars zs = 0 then firstBad vars (k + 1) L else some (k, badE vars zs)
theorem firstBad_at {vars : Int} : ∀ (L : List (List Int)) (k j : Nat) (zs : List Int), L[j]? = some zs → (∀ (m : Nat) (ys : List Int), m < j → L[m]? = some ys → badE vars ys = 0) → badE vars zs ≠ 0 → firstBad vars k L = some (k + j, badE vars zs)
  | [], _, _, _, h, _, _ => by simp at h
  | y :: L, k, 0, zs, h, _, hb => by
    obtain rfl : y = zs := by simpa using h
    unfold firstBad
    rw [if_neg hb]; rfl
  | y :: L, k, j + 1, zs, h, hall, hb => by
    unfold firstBad
    rw [if_pos (hall 0 y (by omega) rfl), firstBad_at L (k + 1) j zs (by simpa using h) (fun m ys hm hy => hall (m + 1) ys (by omega) (by simpa using hy)) hb]
    congr 2
    omega
theorem firstBad_no {vars : Int} : ∀ (L : List (List Int)) (k : Nat), (∀ zs ∈ L, badE vars zs = 0) → firstBad vars k L = none
  | [], _, _ => rfl
  | y :: L, k, h => by
    unfold firstBad
    rw [if_pos (h y (by simp))]
    exact firstBad_no L (k + 1) fun zs hz => h zs (by simp [hz])
/-- P5.1: the index, and the error's number. -/
def chkI (vars : Int) (L : List (List Int)) : Int × Int :=
  if vars < 0 ∨ 1048576 < vars then (-1, 50) else if 262144 < L.length then (-1, 5) else match firstBad vars 0 L with
    | some (i, e) => ((i : Int), e)
    | none => (-1, 0)
/-- P5.2: a literal in a model of ones and zeros. -/
def satI (ms : List Int) (l : Int) : Bool := (decide (ms[l.natAbs - 1]?.getD 2 = 1) && decide (0 < l)) || (decide (ms[l.natAbs - 1]?.getD 2 = 0) && decide (l < 0))
def holdF (zs ms : List Int) : Bool := rightB zs && zs.all (fun l => decide (l.natAbs ≤ ms.length)) && zs.any (satI ms)
theorem holdF_none {zs ms : List Int} (h : rightB zs = false) : holdF zs ms = false := by unfold holdF; rw [h]; rfl
theorem holdF_far {zs ms : List Int} {l : Int} (hl : l ∈ zs) (h : ms.length < l.natAbs) : holdF zs ms = false := by
  unfold holdF
  have : zs.all (fun l => decide (l.natAbs ≤ ms.length)) = false := by
    cases e : zs.all (fun l => decide (l.natAbs ≤ ms.length))
    · rfl
    · have := of_decide_eq_true (List.all_eq_true.1 e l hl)
      omega
  rw [this]
  simp
theorem holdF_near {zs ms : List Int} (h : rightB zs = true) (hn : ∀ l ∈ zs, l.natAbs ≤ ms.length) : holdF zs ms = zs.any (satI ms) := by
  unfold holdF
  have : zs.all (fun l => decide (l.natAbs ≤ ms.length)) = true := List.all_eq_true.2 fun l hl => decide_eq_true (hn l hl)
  rw [h, this]
  rfl
/-- The first clause that does not hold; -1 if all do. -/
def failI (ms : List Int) : Nat → List (List Int) → Int
  | _, [] => -1
  | k, zs :: L => if holdF zs ms then failI ms (k + 1) L else (k : Int)
theorem failI_at {ms : List Int} : ∀ (L : List (List Int)) (k j : Nat) (zs : List Int), L[j]? = some zs → (∀ (m : Nat) (ys : List Int), m < j → L[m]? = some ys → holdF ys ms = true) → holdF zs ms = false → failI ms k L = ((k + j : Nat) : Int)
  | [], _, _, _, h, _, _ => by simp at h
  | y :: L, k, 0, zs, h, _, hb => by
    obtain rfl : y = zs := by simpa using h
    unfold failI
    rw [if_neg (by rw [hb]; decide)]; rfl
  | y :: L, k, j + 1, zs, h, hall, hb => by
    unfold failI
    rw [if_pos (hall 0 y (by omega) rfl), failI_at L (k + 1) j zs (by simpa using h) (fun m ys hm hy => hall (m + 1) ys (by omega) (by simpa using hy)) hb]
    congr 1
    omega
theorem failI_no {ms : List Int} : ∀ (L : List (List Int)) (k : Nat), (∀ zs ∈ L, holdF zs ms = true) → failI ms k L = -1
  | [], _, _ => rfl
  | y :: L, k, h => by
    unfold failI
    rw [if_pos (h y (by simp))]
    exact failI_no L (k + 1) fun zs hz => h zs (by simp [hz])
end Go.Proofs.YtgoflapolglfcaaGreat
namespace Go.Proofs.YtgoflapolglfcaaGreat
open Go.RowKit Go.ChangeAt Go.ChangeShapes Go.WideShapes
abbrev below1a (w : World) (o : Obj) : Below w.heap.size w (w.alloc o) := (Below.refl _ _).alloc (Nat.le_refl _) _
theorem below_cat {a b c : World} (h : Below a.heap.size a b) (k : Below b.heap.size b c) : Below a.heap.size a c := h.trans (k.mono h.size)
end Go.Proofs.YtgoflapolglfcaaGreat
