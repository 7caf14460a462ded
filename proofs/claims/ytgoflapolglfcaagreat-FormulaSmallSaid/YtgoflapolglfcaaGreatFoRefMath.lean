/- What the reference of formulas comes to: all models, the first clause that fails, the normal form step by step. -/
import Derived.Test.YtgoflapolglfcaaGreatFoFirst
import Derived.Test.YtgoflapolglfcaaGreatFoNorm
import Derived.Test.YtgoflapolglfcaaGreatFoModelsMath
import Derived.Test.YtgoflapolglfcaaGreatFoRef5
namespace Go.Proofs.YtgoflapolglfcaaGreat

/-! ### which clause fails, and all models -/
theorem failI_neg {ms : List Int} : ∀ (L : List (List Int)) (k : Nat), failI ms k L < 0 ↔ ∀ zs ∈ L, holdF zs ms = true
  | [], k => by simp [failI]
  | y :: L, k => by
    unfold failI
    by_cases h : holdF y ms = true
    · rw [if_pos h, failI_neg L (k + 1)]
      simp [h]
    · rw [if_neg h]
      constructor
      · intro h1; omega
      · intro h1; exact absurd (h1 y (by simp)) h
theorem failI_failP {bs : List Bool} : ∀ (L : List (List Int)) (k : Nat), (∀ zs ∈ L, holdF zs (bs.map b2i) = holdsM bs zs) → failI (bs.map b2i) k L = if (failP bs k L).2 then (failP bs k L).1 else -1
  | [], k, _ => by simp [failI, failP]
  | y :: L, k, h => by
    unfold failI failP
    rw [h y (by simp)]
    cases hb : holdsM bs y
    · simp
    · simp only [if_true]
      exact failI_failP L (k + 1) fun zs hz => h zs (by simp [hz])
theorem failP_bd {bs : List Bool} : ∀ (L : List (List Int)) (k : Nat), 0 ≤ (failP bs k L).1 ∧ (failP bs k L).1 ≤ k + L.length ∧ ((failP bs k L).2 = false → (failP bs k L).1 = 0)
  | [], k => by simp [failP]
  | y :: L, k => by
    unfold failP
    split
    · have := failP_bd (bs := bs) L (k + 1)
      rw [List.length_cons]
      refine ⟨this.1, by omega, this.2.2⟩
    · simp; omega
theorem hold_near {n : Nat} {L : List (List Int)} (hok : (chkI (n : Int) L).2 = 0) {bs : List Bool} (hb : bs.length = n) : ∀ zs ∈ L, holdF zs (bs.map b2i) = holdsM bs zs := fun zs hz => by
  obtain ⟨-, -, -, h4⟩ := chk_ok hok
  obtain ⟨hr, hl⟩ := h4 zs hz
  rw [hold_bits]
  unfold holdP
  have hg : maxL (vl zs) ≤ bs.length := (greatest_le (fun l hx => (hl l hx).1) (by omega)).2 fun l hx => by
    have := hl l hx
    have hv : varI l = l.natAbs := by
      have := litB_of this.1
      unfold varI
      rw [(hl l hx).1]
      simp only [if_true]
      split <;> omega
    omega
  rw [hr, decide_eq_true hg]
  rfl
theorem want_models {n : Nat} {L : List (List Int)} (hok : (chkI (n : Int) L).2 = 0) : wantM n L = (modelsB n L).map (List.map b2i) := by
  unfold wantM modelsB
  rw [allM_bitM, List.filter_map, List.map_map]
  have : ((List.range (2 ^ n)).filter ((fun ms => decide (failI ms 0 L < 0)) ∘ fun N => (bitM n N).map b2i)) = (List.range (2 ^ n)).filter (holdsN n L) := by
    refine List.filter_congr fun N _ => ?_
    have h := hold_near hok (bitM_len n N)
    simp only [Function.comp]
    unfold holdsN
    rw [Bool.eq_iff_iff, decide_eq_true_eq, failI_neg, List.all_eq_true]
    constructor
    · intro h1 zs hz; rw [← h zs hz]; exact h1 zs hz
    · intro h1 zs hz; rw [h zs hz]; exact h1 zs hz
  rw [this]
  rfl
/-! ### the normal form, a clause at a time -/
theorem cmp_norm_l (a b : List Int) : clCmp (normL a) b = clCmp a b := by unfold clCmp; rw [norm_norm]
theorem cmp_norm_r (a b : List Int) : clCmp a (normL b) = clCmp a b := by unfold clCmp; rw [norm_norm]
theorem cmp_eq_l {a b c : List Int} (h : clCmp a b = 0) : clCmp a c = clCmp b c := by
  have := clCmp_zero.1 h
  unfold clCmp; rw [this]
/-- So far all that is no greater than the last one is there. -/
structure UptoF (L O : List (List Int)) : Prop where
  pw : O.Pairwise fun a b => clCmp a b < 0
  raw : ∀ x ∈ O, x ∈ nrmRaw L
  all : ∀ x ∈ nrmRaw L, ∀ o ∈ O, clCmp x o ≤ 0 → x ∈ O
theorem uptoF_nil (L : List (List Int)) : UptoF L [] := ⟨List.Pairwise.nil, (fun _ h => by cases h), (fun _ _ _ h => by cases h)⟩
/-- A clause that may come next. -/
def CandF (O : List (List Int)) (c : List Int) : Prop := alwB c = false ∧ ∀ o, O.getLast? = some o → ¬ clCmp c o ≤ 0
theorem last_le {O : List (List Int)} (h : O.Pairwise fun a b => clCmp a b < 0) {o l : List Int} (ho : o ∈ O) (hl : O.getLast? = some l) : clCmp o l ≤ 0 := by
  obtain ⟨r, rfl⟩ : ∃ r, O = r ++ [l] := by
    obtain ⟨r, hr⟩ := List.getLast?_eq_some_iff.1 hl
    exact ⟨r, hr⟩
  rcases List.mem_append.1 ho with h1 | h1
  · have := (List.pairwise_append.1 h).2.2 o h1 l (by simp)
    omega
  · rw [List.mem_singleton.1 h1, clCmp_zero.2 rfl]
    omega
theorem uptoF_next {L O : List (List Int)} (h : UptoF L O) {c : List Int} (hc : c ∈ L) (hca : CandF O c) (hle : ∀ d ∈ L, CandF O d → clCmp c d ≤ 0) : UptoF L (O ++ [normL c]) := by
  have hlt : ∀ o ∈ O, clCmp o (normL c) < 0 := fun o ho => by
    rw [cmp_norm_r]
    cases hl : O.getLast? with
    | none =>
      rw [List.getLast?_eq_none_iff] at hl
      rw [hl] at ho; cases ho
    | some l =>
      have h1 := last_le h.pw ho hl
      have h2 := hca.2 l hl
      have h3 : clCmp l c ≤ 0 := by rw [clCmp_flip]; omega
      have h4 := clCmp_trans h1 h3
      rcases Int.lt_or_eq_of_le h4 with h5 | h5
      · exact h5
      · rw [cmp_eq_l h5] at h1
        exact absurd h1 h2
  refine ⟨List.pairwise_append.2 ⟨h.pw, by simp, fun a ha b hb => by rw [List.mem_singleton.1 hb]; exact hlt a ha⟩, fun x hx => ?_, fun x hx o ho hxo => ?_⟩
  · rcases List.mem_append.1 hx with h1 | h1
    · exact h.raw x h1
    · rw [List.mem_singleton.1 h1]
      exact List.mem_map.2 ⟨c, List.mem_filter.2 ⟨hc, by rw [hca.1]; rfl⟩, rfl⟩
  · rcases List.mem_append.1 ho with h1 | h1
    · exact List.mem_append.2 (.inl (h.all x hx o h1 hxo))
    · obtain rfl := List.mem_singleton.1 h1
      obtain ⟨d, hd, rfl⟩ := List.mem_map.1 hx
      obtain ⟨hd, ha⟩ := List.mem_filter.1 hd
      have ha : alwB d = false := by simpa using ha
      by_cases hcd : CandF O d
      · have h2 := hle d hd hcd
        rw [clCmp_norm] at hxo
        have h3 := clCmp_flip c d
        have h4 : clCmp d c = 0 := by omega
        rw [clCmp_zero.1 h4]
        exact List.mem_append.2 (.inr (by simp))
      · refine List.mem_append.2 (.inl ?_)
        obtain ⟨l, hl, hdl⟩ : ∃ l, O.getLast? = some l ∧ clCmp d l ≤ 0 := by
          refine Classical.byContradiction fun hn => hcd ⟨ha, fun o ho hle => hn ⟨o, ho, hle⟩⟩
        exact h.all _ hx l (List.mem_of_getLast? hl) (by rw [cmp_norm_l]; exact hdl)
theorem uptoF_done {L O : List (List Int)} (h : UptoF L O) (hn : ∀ d ∈ L, ¬ CandF O d) : O = nrmF L := by
  refine nrm_unique h.pw fun x => ⟨h.raw x, fun hx => ?_⟩
  obtain ⟨d, hd, rfl⟩ := List.mem_map.1 hx
  obtain ⟨hd, ha⟩ := List.mem_filter.1 hd
  have ha : alwB d = false := by simpa using ha
  obtain ⟨l, hl, hdl⟩ : ∃ l, O.getLast? = some l ∧ clCmp d l ≤ 0 := by
    refine Classical.byContradiction fun hc => hn d hd ⟨ha, fun o ho hle => hc ⟨o, ho, hle⟩⟩
  exact h.all _ hx l (List.mem_of_getLast? hl) (by rw [cmp_norm_l]; exact hdl)
theorem uptoF_len {L O : List (List Int)} (h : UptoF L O) : O.length ≤ L.length := Nat.le_trans (nodup_le (h.pw.imp fun {a b} h e => by subst e; rw [clCmp_zero.2 rfl] at h; omega) h.raw) (nrmRaw_len L)
/-- What is best among the first k. -/
def BestF (L O : List (List Int)) (k : Nat) (b : Int) : Prop := (b = -1 ∧ ∀ (j : Nat) (d : List Int), j < k → L[j]? = some d → ¬ CandF O d) ∨
  ∃ (i : Nat) (c : List Int), b = i ∧ i < k ∧ L[i]? = some c ∧ CandF O c ∧ ∀ (j : Nat) (d : List Int), j < k → L[j]? = some d → CandF O d → clCmp c d ≤ 0
theorem bestF_start (L O : List (List Int)) : BestF L O 0 (-1) := .inl ⟨rfl, fun _ _ h => by omega⟩
theorem bestF_skip {L O : List (List Int)} {k : Nat} {b : Int} {d : List Int} (h : BestF L O k b) (hd : L[k]? = some d) (hn : ¬ CandF O d) : BestF L O (k + 1) b := by
  rcases h with ⟨rfl, h⟩ | ⟨i, c, rfl, hi, hc, hcc, h⟩
  · refine .inl ⟨rfl, fun j e hj he => ?_⟩
    rcases Nat.lt_or_ge j k with h1 | h1
    · exact h j e h1 he
    · obtain rfl : j = k := by omega
      rw [hd] at he; cases he; exact hn
  · refine .inr ⟨i, c, rfl, by omega, hc, hcc, fun j e hj he hce => ?_⟩
    rcases Nat.lt_or_ge j k with h1 | h1
    · exact h j e h1 he hce
    · obtain rfl : j = k := by omega
      rw [hd] at he; cases he; exact absurd hce hn
theorem bestF_first {L O : List (List Int)} {k : Nat} {d : List Int} (h : BestF L O k (-1)) (hd : L[k]? = some d) (hc : CandF O d) : BestF L O (k + 1) (k : Int) := by
  rcases h with ⟨-, h⟩ | ⟨i, c, he, -⟩
  · refine .inr ⟨k, d, rfl, by omega, hd, hc, fun j e hj he hce => ?_⟩
    rcases Nat.lt_or_ge j k with h1 | h1
    · exact absurd hce (h j e h1 he)
    · obtain rfl : j = k := by omega
      rw [hd] at he; cases he
      rw [clCmp_zero.2 rfl]; omega
  · omega
theorem bestF_less {L O : List (List Int)} {k i : Nat} {c d : List Int} (h : BestF L O k (i : Int)) (hi : L[i]? = some c) (hd : L[k]? = some d) (hc : CandF O d) (hlt : clCmp d c < 0) : BestF L O (k + 1) (k : Int) := by
  rcases h with ⟨he, -⟩ | ⟨i', c', he, hik, hc', hcc, h⟩
  · omega
  · obtain rfl : i' = i := by omega
    rw [hi] at hc'; cases hc'
    refine .inr ⟨k, d, rfl, by omega, hd, hc, fun j e hj he hce => ?_⟩
    rcases Nat.lt_or_ge j k with h1 | h1
    · exact clCmp_trans (by omega) (h j e h1 he hce)
    · obtain rfl : j = k := by omega
      rw [hd] at he; cases he
      rw [clCmp_zero.2 rfl]; omega
theorem bestF_more {L O : List (List Int)} {k i : Nat} {c d : List Int} (h : BestF L O k (i : Int)) (hi : L[i]? = some c) (hd : L[k]? = some d) (hge : ¬ clCmp d c < 0) : BestF L O (k + 1) (i : Int) := by
  rcases h with ⟨he, -⟩ | ⟨i', c', he, hik, hc', hcc, h⟩
  · omega
  · obtain rfl : i' = i := by omega
    rw [hi] at hc'; cases hc'
    refine .inr ⟨i', c, rfl, by omega, hi, hcc, fun j e hj he hce => ?_⟩
    rcases Nat.lt_or_ge j k with h1 | h1
    · exact h j e h1 he hce
    · obtain rfl : j = k := by omega
      rw [hd] at he; cases he
      rw [clCmp_flip]; omega
end Go.Proofs.YtgoflapolglfcaaGreat
