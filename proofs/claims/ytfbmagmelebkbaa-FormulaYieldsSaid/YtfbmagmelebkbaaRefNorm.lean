/- The reference's Norm: the least literal, and then always the least that is greater. -/
import Derived.Test.YtfbmagmelebkbaaRef02
import Derived.Test.YtfbmagmelebkbaaConv
namespace Go.Proofs.Ytfbmagmelebkbaa
open Go.ChangeShapes Go.WideShapes Go.ChangeAt Go.RowKit Go.Shelf Go.Sort

theorem at_idx {a : Int} (h : litB a = true) : atI (idxI a) = a := by
  have hb := litB_of h
  rw [idxI, if_pos h]
  by_cases h0 : a < 0
  · rw [if_pos h0, atI, if_neg (by omega), show (2 * -a - 1) / 2 + 1 = -a by omega, ofI, if_pos (by omega), decide_eq_true (by omega), if_pos rfl]
    omega
  · rw [if_neg h0, atI, if_neg (by omega), show (2 * a - 2) / 2 + 1 = a by omega, ofI, if_pos (by omega), decide_eq_false (by omega), if_neg (by decide)]
theorem ltI_idx {a b : Int} (ha : litB a = true) (hb : litB b = true) (h : idxI a < idxI b) : ltI a b = true := ltI_iff.2 (.inr (.inr ⟨ha, hb, h⟩))
/-- The least number beyond another one, and -1 if there is none. -/
def bestN (lst : Int) (zs : List Int) : Int := zs.foldl (fun b x => if lst < idxI x ∧ (b < 0 ∨ idxI x < b) then idxI x else b) (-1)
theorem bestN_snoc (lst : Int) (zs : List Int) (x : Int) : bestN lst (zs ++ [x]) = if lst < idxI x ∧ (bestN lst zs < 0 ∨ idxI x < bestN lst zs) then idxI x else bestN lst zs := by
  unfold bestN; rw [List.foldl_append]; rfl
theorem bestN_is (lst : Int) (h0 : -1 ≤ lst) (zs : List Int) : (bestN lst zs = -1 ∧ ∀ x ∈ zs, idxI x ≤ lst) ∨ ((∃ x ∈ zs, idxI x = bestN lst zs) ∧ lst < bestN lst zs ∧ ∀ x ∈ zs, lst < idxI x → bestN lst zs ≤ idxI x) := by
  suffices hs : ∀ r : List Int, (bestN lst r.reverse = -1 ∧ ∀ x ∈ r.reverse, idxI x ≤ lst) ∨ ((∃ x ∈ r.reverse, idxI x = bestN lst r.reverse) ∧ lst < bestN lst r.reverse ∧ ∀ x ∈ r.reverse, lst < idxI x → bestN lst r.reverse ≤ idxI x) by
    have := hs zs.reverse; rwa [List.reverse_reverse] at this
  intro r
  induction r with
  | nil => exact .inl ⟨rfl, (fun v hv => by cases hv)⟩
  | cons x r ih =>
    rw [List.reverse_cons, bestN_snoc]
    obtain ⟨b, hb⟩ : ∃ b, bestN lst r.reverse = b := ⟨_, rfl⟩
    rw [hb] at ih ⊢
    by_cases hc : lst < idxI x ∧ (b < 0 ∨ idxI x < b)
    · rw [if_pos hc]
      refine .inr ⟨⟨x, by simp, rfl⟩, hc.1, fun v hv hlv => ?_⟩
      rcases List.mem_append.1 hv with hv | hv
      · rcases ih with ⟨_, h2⟩ | ⟨_, _, h2⟩
        · have := h2 v hv; omega
        · have := h2 v hv hlv; omega
      · obtain rfl : v = x := List.mem_singleton.1 hv
        exact Int.le_refl _
    · rw [if_neg hc]
      rcases ih with ⟨h1, h2⟩ | ⟨⟨y, hy, e⟩, h2, h3⟩
      · refine .inl ⟨h1, fun v hv => ?_⟩
        rcases List.mem_append.1 hv with hv | hv
        · exact h2 v hv
        · obtain rfl : v = x := List.mem_singleton.1 hv
          omega
      · refine .inr ⟨⟨y, List.mem_append.2 (.inl hy), e⟩, h2, fun v hv hlv => ?_⟩
        rcases List.mem_append.1 hv with hv | hv
        · exact h3 v hv hlv
        · obtain rfl : v = x := List.mem_singleton.1 hv
          omega
/-- What has been found when all literals up to a number are. -/
def Upto (zs o : List Int) (lst : Int) : Prop := Inc o ∧ (∀ x ∈ o, x ∈ zs ∧ idxI x ≤ lst) ∧ ∀ v ∈ zs, idxI v ≤ lst → v ∈ o
theorem Upto.start {zs : List Int} (hl : ∀ x ∈ zs, litB x = true) : Upto zs [] (-1) := ⟨List.Pairwise.nil, (fun x hx => by cases hx), fun v hv h => by have := idx_nonneg (hl v hv); omega⟩
theorem Upto.next {zs o : List Int} {lst b : Int} (hl : ∀ x ∈ zs, litB x = true) (h : Upto zs o lst) (h1 : ∃ x ∈ zs, idxI x = b) (h2 : lst < b) (h3 : ∀ v ∈ zs, lst < idxI v → b ≤ idxI v) : Upto zs (o ++ [atI b]) b := by
  obtain ⟨s1, s2, s3⟩ := h
  obtain ⟨y, hy, rfl⟩ := h1
  rw [at_idx (hl y hy)]
  refine ⟨List.pairwise_append.2 ⟨s1, List.pairwise_singleton _ _, fun x hx z hz => ?_⟩, fun x hx => ?_, fun v hv hle => ?_⟩
  · obtain rfl : z = y := List.mem_singleton.1 hz
    have h4 := s2 x hx
    exact ltI_idx (hl x h4.1) (hl z hy) (by omega)
  · rcases List.mem_append.1 hx with hx | hx
    · exact ⟨(s2 x hx).1, by have := (s2 x hx).2; omega⟩
    · obtain rfl : x = y := List.mem_singleton.1 hx
      exact ⟨hy, Int.le_refl _⟩
  · by_cases hlv : idxI v ≤ lst
    · exact List.mem_append.2 (.inl (s3 v hv hlv))
    · have := h3 v hv (by omega)
      exact List.mem_append.2 (.inr (List.mem_singleton.2 (idxI_lt (hl v hv) (hl y hy) (by omega))))
theorem Upto.all {zs o : List Int} {lst : Int} (h : Upto zs o lst) (h1 : ∀ v ∈ zs, idxI v ≤ lst) : o = normL zs :=
  (norm_unique h.1 fun x => ⟨fun hx => (h.2.1 x hx).1, fun hx => h.2.2 x hx (h1 x hx)⟩).symm

def NRel (w : World) (zs : List Int) (out last : Value) (wr : World) : Prop :=
  ∃ (o : List Int) (lst : Int), last = .int .i64 lst ∧ -1 ≤ lst ∧ lst ≤ 2097151 ∧ wr.ownsRow w.heap.size 3 1 out o.length (o.map (Value.int .i64)) ∧ Below w.heap.size w wr ∧ Upto zs o lst ∧ (o.length : Int) ≤ lst + 1
def MRel (lst : Int) (zs : List Int) (best i : Value) : Prop := ∃ k : Nat, k ≤ zs.length ∧ i = .int .i64 k ∧ best = .int .i64 (bestN lst (zs.take k))
theorem bestN_bd {lst : Int} (h0 : -1 ≤ lst) {zs : List Int} (hl : ∀ x ∈ zs, litB x = true) : -1 ≤ bestN lst zs ∧ bestN lst zs ≤ 2097151 := by
  rcases bestN_is lst h0 zs with ⟨h, -⟩ | ⟨⟨x, hx, h⟩, -, -⟩
  · omega
  · have := idx_nonneg (hl x hx); omega
theorem refIdx_lit {x : Int} (h : litB x = true) : refIdx x = idxI x := by rw [refIdx, if_pos h]

end Go.Proofs.Ytfbmagmelebkbaa
