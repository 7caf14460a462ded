/- Levels and places; how many variables have values. -/
import Derived.Test.YtdeedmfofjdbjaaTrPut
import Derived.Test.YtdeedmfofjdbjaaShelf
namespace Go.Proofs.Ytdeedmfofjdbjaa
open Go.RowKit Go.ChangeAt Go.ChangeShapes Go.WideShapes

theorem startI_0 (st : List Nat) : startI st 0 = 0 := by unfold startI; rw [if_pos rfl]
theorem startI_succ {st : List Nat} {j : Nat} (h : j < st.length) : startI st ((j + 1 : Nat) : Int) = (st[j] : Int) := by
  unfold startI
  rw [if_neg (by omega), show (((j + 1 : Nat) : Int) - 1).toNat = j by omega]
  simp [stI, h]
section
variable {nv : Nat} {its : List It} {st : List Nat}
theorem countP_ge {st : List Nat} (hp : st.Pairwise (· ≤ ·)) {j p : Nat} (hj : j < st.length) (h : st[j] ≤ p) : j + 1 ≤ st.countP (fun s => decide (s ≤ p)) := by
  have h1 : (st.take (j + 1)).countP (fun s => decide (s ≤ p)) = (st.take (j + 1)).length := by
    rw [List.countP_eq_length]
    intro s hs
    obtain ⟨i, hi, rfl⟩ := List.getElem_of_mem hs
    rw [List.length_take] at hi
    rw [List.getElem_take, decide_eq_true_eq]
    rcases Nat.lt_or_ge i j with h2 | h2
    · exact Nat.le_trans (List.pairwise_iff_getElem.1 hp i j (by omega) hj h2) h
    · have : i = j := by omega
      subst this; exact h
  have h2 : (st.take (j + 1)).countP (fun s => decide (s ≤ p)) ≤ st.countP (fun s => decide (s ≤ p)) := (List.take_sublist _ _).countP_le
  rw [h1, List.length_take] at h2
  omega
theorem countP_le' {st : List Nat} (hp : st.Pairwise (· ≤ ·)) {j p : Nat} (hj : j < st.length) (h : p < st[j]) : st.countP (fun s => decide (s ≤ p)) ≤ j := by
  rw [← List.take_append_drop j st, List.countP_append]
  have h1 : (st.drop j).countP (fun s => decide (s ≤ p)) = 0 := by
    rw [List.countP_eq_zero]
    intro s hs
    obtain ⟨i, hi, rfl⟩ := List.getElem_of_mem hs
    rw [List.length_drop] at hi
    rw [List.getElem_drop, decide_eq_true_eq]
    rcases Nat.eq_zero_or_pos i with h2 | h2
    · subst h2; exact Nat.not_le.2 h
    · have := List.pairwise_iff_getElem.1 hp j (j + i) hj (by omega) (by omega)
      omega
  have h2 : (st.take j).countP (fun s => decide (s ≤ p)) ≤ (st.take j).length := List.countP_le_length
  rw [List.length_take] at h2
  omega
theorem TG.lev_ge (h : TG nv its st) {j : Nat} (hj : j < st.length) {x : It} (hx : its[st[j]]? = some x) : j + 1 ≤ x.level := by
  rw [h.lev _ x hx]; exact countP_ge h.inc hj (Nat.le_refl _)
theorem TG.lev_lt (h : TG nv its st) {j p : Nat} (hj : j < st.length) (hp : p + 1 = st[j]) {x : It} (hx : its[p]? = some x) : x.level ≤ j := by
  rw [h.lev _ x hx]; exact countP_le' h.inc hj (by omega)
theorem TG.lev_mono (h : TG nv its st) {p q : Nat} (hpq : p ≤ q) {x y : It} (hx : its[p]? = some x) (hy : its[q]? = some y) : x.level ≤ y.level := by
  rw [h.lev _ x hx, h.lev _ y hy]
  exact List.countP_mono_left fun s _ hs => by
    rw [decide_eq_true_eq] at hs ⊢; omega
theorem levsOf_at {its : List It} {p : Nat} {x : It} (hx : its[p]? = some x) : (levsOf its)[p]? = some (x.level : Int) := by simp [levsOf, hx]
theorem litsOf_at {its : List It} {p : Nat} {x : It} (hx : its[p]? = some x) : (litsOf its)[p]? = some x.lit := by simp [litsOf, hx]
/-- How many of the first variables have values. -/
def cntV (its : List It) (k : Nat) : Nat := ((List.range k).filter fun u => decide (u + 1 ∈ its.map It.vr)).length
theorem cntV_succ (its : List It) (k : Nat) : cntV its (k + 1) = cntV its k + if k + 1 ∈ its.map It.vr then 1 else 0 := by
  unfold cntV
  rw [List.range_succ, List.filter_append, List.length_append]
  congr 1
  by_cases h : k + 1 ∈ its.map It.vr
  · rw [if_pos h, List.filter_cons_of_pos (by simpa using h)]; rfl
  · rw [if_neg h, List.filter_cons_of_neg (by simpa using h)]; rfl
theorem TG.cnt (h : TG nv its st) : cntV its nv = its.length := by
  unfold cntV
  have h1 : (List.range nv).Nodup := List.nodup_range
  refine Nat.le_antisymm ?_ ?_
  · have := List.Nodup.length_le_of_subset (List.Pairwise.filter (fun u => decide (u + 1 ∈ its.map It.vr)) h1) (l₂ := (its.map It.vr).map (· - 1)) (fun u hu => by
      have := (List.mem_filter.1 hu).2
      rw [decide_eq_true_eq] at this
      exact List.mem_map.2 ⟨u + 1, this, by omega⟩)
    simpa using this
  · have := h.nd.length_le_of_subset (l₂ := ((List.range nv).filter (fun u => decide (u + 1 ∈ its.map It.vr))).map (· + 1)) (fun u hu => by
      obtain ⟨x, hx, rfl⟩ := List.mem_map.1 hu
      have hl := h.lit x hx
      refine List.mem_map.2 ⟨x.vr - 1, List.mem_filter.2 ⟨by simp; omega, ?_⟩, by omega⟩
      rw [decide_eq_true_eq, show x.vr - 1 + 1 = x.vr by omega]
      exact hu)
    simpa using this
theorem TG.val_flip (h : TG nv its st) (l : Int) (hl : l ≠ 0) : valI its (-l) = -valI its l := by
  by_cases h1 : ∃ x ∈ its, x.lit = l
  · obtain ⟨x, hx, rfl⟩ := h1
    rw [valI_neg h hx, valI_yes hx]
  · by_cases h2 : ∃ x ∈ its, x.lit = -l
    · obtain ⟨x, hx, he⟩ := h2
      have h3 := valI_neg h hx
      have h4 := valI_yes hx
      rw [he] at h4
      rw [he, Int.neg_neg] at h3
      rw [h3, h4]; rfl
    · have e1 : valI its l = 0 := by unfold valI; rw [if_neg h1, if_neg h2]
      have e2 : valI its (-l) = 0 := by unfold valI; rw [if_neg h2, if_neg (by rw [Int.neg_neg]; exact h1)]
      rw [e1, e2]; rfl
theorem val_has {its : List It} {l : Int} (h : valI its l ≠ 0) : l.natAbs ∈ its.map It.vr := by
  refine Decidable.byContradiction fun hn => h (valI_no fun x hx e => hn (List.mem_map.2 ⟨x, hx, e⟩))
theorem val_hasnt {its : List It} {l : Int} (h : valI its l = 0) : ¬ l.natAbs ∈ its.map It.vr := fun hm => by
  obtain ⟨x, hx, he⟩ := List.mem_map.1 hm
  exact valI_zero h x hx he
theorem val_mem (its : List It) (l : Int) : valI its l = 1 ∨ valI its l = -1 ∨ valI its l = 0 := by
  unfold valI
  split
  · exact .inl rfl
  · split
    · exact .inr (.inl rfl)
    · exact .inr (.inr rfl)
theorem TG.not_before (h : TG nv its st) {p : Nat} {x : It} (hx : its[p]? = some x) {l : Int} (hl : l.natAbs = x.vr) : ¬ l ∈ (litsOf its).take p := fun hm => by
  obtain ⟨i, hi, he⟩ := List.getElem_of_mem hm
  rw [List.length_take, litsOf_len] at hi
  have hil : i < its.length := by omega
  have hy := List.getElem?_eq_getElem hil
  rw [List.getElem_take] at he
  have he2 : its[i].lit = l := by simpa [litsOf] using he
  have := h.pos hy hx (by show its[i].lit.natAbs = x.vr; rw [he2, hl])
  omega
end
theorem contains_tr {B : Nat} {v : Value} {xs : List Int} (x : Int) (w : World) (hx : xs.length ≤ 1000000) (h : Ints B w v xs) (hn : ¬ x ∈ xs) :
    Calls Try.prog 32 #[v, .int .i64 x] w fun e w' => e = .returned (.bool false) ∧ w = w' := by
  rcases h with ⟨A, c, rfl, -, rfl⟩ | ⟨b, off, cap, rfl, -, hc⟩
  · exact (Try.slices_Contains_int_empty_f32 A c x w).mono fun e w' ⟨he, hw⟩ => ⟨he, hw.symm⟩
  · refine (Try.slices_Contains_int_f32 b off xs.length cap xs x w (Nat.le_refl _) (by omega) (fun j hj => by rw [List.getD_eq_getElem?_getD]; exact hc j hj)).mono fun e w' ⟨he, hw⟩ => ⟨?_, hw.symm⟩
    rw [he, List.take_length]
    congr 2
    rw [Bool.eq_false_iff]
    intro hq
    rw [List.contains_iff_mem] at hq
    exact hn hq
end Go.Proofs.Ytdeedmfofjdbjaa
