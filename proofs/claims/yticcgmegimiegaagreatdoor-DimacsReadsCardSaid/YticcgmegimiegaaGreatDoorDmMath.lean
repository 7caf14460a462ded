/- What a text that was written says: its lines, and the words of a line. -/
import Derived.Test.YticcgmegimiegaaGreatDoorDmRead
import Derived.Test.YticcgmegimiegaaGreatDoorDmWrite
import Derived.Test.YticcgmegimiegaaGreatDoorDmTextMath
namespace Go.Proofs.YticcgmegimiegaaGreatDoor
open Go.RowKit Go.ChangeAt Go.ChangeShapes Go.WideShapes Go.Shelf Go.Sort

theorem hdr_free (v n : Int) : (10 : UInt8) ∉ hdrL v n := by
  have h1 : (10 : UInt8) ∉ Lib.itoa v := itoa_free (by decide) (by decide)
  have h2 : (10 : UInt8) ∉ Lib.itoa n := itoa_free (by decide) (by decide)
  unfold hdrL
  simp only [List.mem_append, List.mem_cons, List.not_mem_nil, or_false, not_or]
  exact ⟨by decide, h1, by decide, h2⟩
theorem text_free {c : UInt8} (h : c.toNat ≠ 45) (h2 : c.toNat < 48 ∨ 57 < c.toNat) (l : Int) : c ∉ textL l := by
  unfold textL
  split
  · exact itoa_free h h2
  · simp
theorem line_free (c : List Int) : (10 : UInt8) ∉ lineL c := by
  unfold lineL wordsL
  simp only [List.mem_append, List.mem_flatMap, List.mem_cons, List.not_mem_nil, or_false, not_or, not_exists, not_and]
  exact ⟨fun l _ => ⟨text_free (by decide) (by decide) l, by decide⟩, by decide⟩
/-- The lines of a text that was written. -/
theorem segs_text (V : Int) (L : List (List Int)) : segs 10 (textF V L) = hdrL V L.length :: (L.map lineL ++ [[]]) := by
  have h := segs_cat (c := 10) (hdrL V L.length :: L.map lineL) [] (fun x hx => by
    rcases List.mem_cons.1 hx with rfl | hx
    · exact hdr_free _ _
    · obtain ⟨c, -, rfl⟩ := List.mem_map.1 hx
      exact line_free c)
  rw [show ((hdrL V L.length :: L.map lineL).map (· ++ [10])).flatten ++ [] = textF V L by
    unfold textF linesF
    simp [List.flatMap, Function.comp_def]] at h
  exact h
/-- The words of a line that was written. -/
theorem segs_line (c : List Int) : segs 32 (lineL c) = c.map textL ++ [[48]] := by
  have h := segs_cat (c := 32) (c.map textL) [48] (fun x hx => by
    obtain ⟨l, -, rfl⟩ := List.mem_map.1 hx
    exact text_free (by decide) (by decide) l)
  rw [show ((c.map textL).map (· ++ [32])).flatten ++ [48] = lineL c by
    unfold lineL wordsL
    simp [List.flatMap, Function.comp_def]] at h
  exact h
theorem mem_dropW {c b : UInt8} (hb : b ≠ c) : ∀ {l : List UInt8}, b ∈ l → b ∈ l.dropWhile (· == c)
  | [], h => by cases h
  | x :: l, h => by
    rw [List.dropWhile_cons]
    split
    · rename_i hx
      have hx : x = c := by simpa using hx
      rcases List.mem_cons.1 h with e | h
      · exact absurd (e.trans hx) hb
      · exact mem_dropW hb h
    · exact h
theorem trim_mem {c b : UInt8} (hb : b ≠ c) {l : List UInt8} (h : b ∈ l) : Lib.trimB l c ≠ [] := by
  have h1 : b ∈ Lib.trimRightB l c := by
    unfold Lib.trimRightB
    exact List.mem_reverse.2 (mem_dropW hb (List.mem_reverse.2 h))
  intro e
  have h2 : b ∈ Lib.trimB l c := mem_dropW hb h1
  rw [e] at h2
  cases h2
theorem not_passed {l : List UInt8} {b : UInt8} (h : b ∈ l) (hb : b ≠ 32) (h9 : l.head? ≠ some 99) : passB l = false := by
  unfold passB
  have h1 : decide (l = [99]) = false := decide_eq_false (fun e => h9 (by rw [e]; rfl))
  have h2 : Lib.hasPrefix l [99, 32] = false := by
    cases l with
    | nil => cases h
    | cons x r =>
      have : x ≠ 99 := fun e => h9 (by rw [e]; rfl)
      show ((99 : UInt8) == x && List.isPrefixOf [32] r) = false
      rw [show ((99 : UInt8) == x) = false from beq_eq_false_iff_ne.2 fun e => this e.symm]
      rfl
  have h3 : decide (Lib.trimB l 32 = []) = false := decide_eq_false (trim_mem hb h)
  rw [h1, h2, h3]; rfl
theorem hdr_seen (v n : Int) : passB (hdrL v n) = false := not_passed (b := 112) (by unfold hdrL; simp) (by decide) (by unfold hdrL; simp)
theorem line_seen (c : List Int) : passB (lineL c) = false := by
  refine not_passed (b := 48) (by unfold lineL; simp) (by decide) (fun e => ?_)
  have hm : (99 : UInt8) ∈ lineL c := List.mem_of_mem_head? e
  have h0 : (99 : UInt8) ∉ lineL c := by
    unfold lineL wordsL
    simp only [List.mem_append, List.mem_flatMap, List.mem_cons, List.not_mem_nil, or_false, not_or, not_exists, not_and]
    exact ⟨fun l _ => ⟨text_free (by decide) (by decide) l, by decide⟩, by decide⟩
  exact h0 hm
/-- Lines with their numbers, from n + 1 on. -/
def numD (n : Nat) : List (List UInt8) → List (Nat × List UInt8)
  | [] => []
  | x :: r => (n + 1, x) :: numD (n + 1) r
theorem numL_seen : ∀ (l : List (List UInt8)) (n : Nat), (∀ x ∈ l, passB x = false) → numL n (l ++ [[]]) = numD n l
  | [], n, _ => by
    show numL n [[]] = []
    rw [numL, show passB [] = true by decide]
    rfl
  | x :: l, n, h => by
    rw [List.cons_append, numL, h x (by simp), numL_seen l (n + 1) (fun y hy => h y (by simp [hy]))]
    rfl
theorem lines_text (V : Int) (L : List (List Int)) : linesL (textF V L) = (1, hdrL V L.length) :: numD 1 (L.map lineL) := by
  unfold linesL
  rw [segs_text, ← List.cons_append, numL_seen]
  · rfl
  · intro x hx
    rcases List.mem_cons.1 hx with rfl | hx
    · exact hdr_seen _ _
    · obtain ⟨c, -, rfl⟩ := List.mem_map.1 hx
      exact line_seen c
theorem head_text {V : Int} {L : List (List Int)} (hv0 : 0 ≤ V) (hv1 : V ≤ 1048576) (hn : L.length ≤ 262144) : headR (textF V L) = (1, V, (L.length : Int), 0) := by
  obtain ⟨h1, h2, h3⟩ := prs_hdr (v := V) (n := (L.length : Int)) hv0 hv1 (by omega) (by omega)
  unfold headR
  rw [lines_text]
  dsimp only
  rw [h1, h2, h3]
  rfl
theorem text_not0 {l : Int} (h : litB l = true) : textL l ≠ [48] := fun e => by
  have h1 := (read_text h).2
  rw [e] at h1
  revert h1
  decide
theorem text_not {l : Int} (h : litB l = true) : textL l ≠ [] := by
  unfold textL
  rw [if_pos h]
  exact itoa_ne l
theorem read_line {V C : Int} (hV : 0 ≤ V) (n : Nat) (r : List (Nat × List UInt8)) : ∀ (c : List Int) (L : List (List Int)) (cur : List Int), (∀ l ∈ c, litB l = true ∧ varI l ≤ V) → cur.length + c.length ≤ 4096 → (L.length : Int) < C →
    readW V C ((c.map textL ++ [[48]]).map (fun x => (n, x)) ++ r) L cur = readW V C r (L ++ [cur ++ c]) []
  | [], L, cur, _, _, hC => by
    have h0 : takeE V C L cur [48] = 0 := by
      unfold takeE
      rw [if_neg (fun h => h.2 rfl), show readI [48] = 0 by decide, show varI 0 = 0 by decide, if_neg (by omega), if_neg (by omega), if_pos rfl]
    show readW V C ((n, [48]) :: r) L cur = _
    rw [readW_cons, if_pos h0, List.append_nil]
    rfl
  | l :: c, L, cur, hl, hn, hC => by
    obtain ⟨h1, h2⟩ := hl l (by simp)
    obtain ⟨hi, he⟩ := read_text h1
    have hx := text_not0 h1
    have hn' : cur.length + (c.length + 1) ≤ 4096 := by simpa using hn
    have h0 : takeE V C L cur (textL l) = 0 := by
      unfold takeE
      rw [he, hi, if_neg (fun h => h.1 rfl), if_neg (by omega), if_neg (by omega), if_neg hx, if_neg (by omega)]
    have ht : takeN L cur (textL l) = (L, cur ++ [l]) := by unfold takeN; rw [if_neg hx, hi]
    show readW V C ((n, textL l) :: ((c.map textL ++ [[48]]).map (fun x => (n, x)) ++ r)) L cur = _
    rw [readW_cons, if_pos h0, ht]
    dsimp only
    rw [read_line hV n r c L (cur ++ [l]) (fun x hx => hl x (by simp [hx])) (by simp; omega) hC, List.append_assoc]
    rfl
theorem words_line {c : List Int} (h : ∀ l ∈ c, litB l = true) (k n : Nat) (hk : ¬ n ≤ k) : wordsOf k (n, lineL c) = (c.map textL ++ [[48]]).map (fun x => (n, x)) := by
  unfold wordsOf
  rw [if_neg hk]
  dsimp only
  rw [segs_line, List.filter_eq_self.2]
  intro x hx
  refine decide_eq_true fun e => ?_
  rcases List.mem_append.1 hx with hx | hx
  · obtain ⟨l, hl, rfl⟩ := List.mem_map.1 hx
    exact text_not (h l hl) e
  · rw [List.mem_singleton.1 hx] at e
    cases e
theorem read_lines {V C : Int} (hV : 0 ≤ V) : ∀ (L D : List (List Int)) (n : Nat), 1 ≤ n → (∀ c ∈ L, c.length ≤ 4096 ∧ ∀ l ∈ c, litB l = true ∧ varI l ≤ V) → (D.length : Int) + L.length ≤ C →
    readW V C ((numD n (L.map lineL)).flatMap (wordsOf 1)) D [] = .inr (D ++ L, [])
  | [], D, n, _, _, _ => by simp [numD, readW]
  | c :: L, D, n, hn, hc, hC => by
    obtain ⟨h1, h2⟩ := hc c (by simp)
    rw [List.map_cons, numD, List.flatMap_cons, words_line (fun l hl => (h2 l hl).1) 1 (n + 1) (by omega), read_line hV (n + 1) _ c D [] h2 (by simpa using h1) (by simp at hC; omega), List.nil_append,
      read_lines hV L (D ++ [c]) (n + 1) (by omega) (fun x hx => hc x (by simp [hx])) (by simp at hC ⊢; omega)]
    simp
/-- What is written is read back. -/
theorem read_back {V : Int} {L : List (List Int)} (hv0 : 0 ≤ V) (hv1 : V ≤ 1048576) (hn : L.length ≤ 262144) (hc : ∀ c ∈ L, c.length ≤ 4096 ∧ ∀ l ∈ c, litB l = true ∧ varI l ≤ V) (ht : (textF V L).length ≤ 4194304) : readAll (textF V L) = .inr (V, L) := by
  unfold readAll
  rw [if_neg (by omega), head_text hv0 hv1 hn]
  dsimp only
  have hw : wordsS (textF V L) 1 = (numD 1 (L.map lineL)).flatMap (wordsOf 1) := by
    unfold wordsS
    rw [lines_text, List.flatMap_cons]
    rfl
  rw [if_pos rfl, hw, read_lines hv0 L [] 1 (Nat.le_refl _) hc (by simp)]
  dsimp only
  rw [List.nil_append, if_neg (by omega)]
end Go.Proofs.YticcgmegimiegaaGreatDoor
