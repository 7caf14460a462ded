/- What is read of a header and lines that were written, with anything behind them. -/
/- strings.Cut at one byte that is there; texts that are put together. -/
import Derived.Test.YtiicffceopiooaaGreatDoorDmEv
namespace Go.Proofs.YtiicffceopiooaaGreatDoor
open Go.RowKit Go.ChangeAt Go.ChangeShapes Go.WideShapes Go.Shelf Go.Sort

theorem readW_append {V C : Int} : ∀ (a b : List (Nat × List UInt8)) (L : List (List Int)) (cur : List Int), readW V C (a ++ b) L cur = match readW V C a L cur with
    | .inl x => .inl x
    | .inr x => readW V C b x.1 x.2
  | [], b, L, cur => by rw [List.nil_append, show readW V C [] L cur = .inr (L, cur) by rw [readW]]
  | (n, w) :: a, b, L, cur => by
    rw [List.cons_append, readW_cons, readW_cons]
    split
    · exact readW_append a b _ _
    · rfl
theorem numL_all : ∀ (l : List (List UInt8)) (n : Nat), (∀ x ∈ l, passB x = false) → numL n l = numD n l
  | [], n, _ => rfl
  | x :: l, n, h => by
    rw [numL, h x (by simp), numL_all l (n + 1) (fun y hy => h y (by simp [hy]))]
    rfl
/-- A header of m clauses, the lines of L, and r. -/
def textH (V m : Int) (L : List (List Int)) (r : List UInt8) : List UInt8 := hdrL V m ++ [10] ++ (linesF L ++ r)
theorem textF_H (V : Int) (L : List (List Int)) : textF V L = textH V L.length L [] := by unfold textF textH; rw [List.append_nil]
theorem segs_H (V m : Int) (L : List (List Int)) (r : List UInt8) : segs 10 (textH V m L r) = (hdrL V m :: L.map lineL) ++ segs 10 r := by
  have h := segs_cat (c := 10) (hdrL V m :: L.map lineL) r (fun x hx => by
    rcases List.mem_cons.1 hx with rfl | hx
    · exact hdr_free _ _
    · obtain ⟨c, -, rfl⟩ := List.mem_map.1 hx
      exact line_free c)
  rw [← h]
  unfold textH linesF
  simp [List.flatMap, Function.comp_def]
theorem lines_H (V m : Int) (L : List (List Int)) (r : List UInt8) : linesL (textH V m L r) = (1, hdrL V m) :: (numD 1 (L.map lineL) ++ numL (1 + L.length) (segs 10 r)) := by
  unfold linesL
  rw [segs_H, numL_append, numL_all]
  · rw [List.length_cons, List.length_map, Nat.zero_add, Nat.add_comm L.length 1]
    rfl
  · intro x hx
    rcases List.mem_cons.1 hx with rfl | hx
    · exact hdr_seen _ _
    · obtain ⟨c, -, rfl⟩ := List.mem_map.1 hx
      exact line_seen c
theorem head_H {V m : Int} {L : List (List Int)} {r : List UInt8} (hv0 : 0 ≤ V) (hv1 : V ≤ 1048576) (hm0 : 0 ≤ m) (hm1 : m ≤ 262144) : headR (textH V m L r) = (1, V, m, 0) := by
  obtain ⟨h1, h2, h3⟩ := prs_hdr (v := V) (n := m) hv0 hv1 hm0 hm1
  unfold headR
  rw [lines_H]
  dsimp only
  rw [h1, h2, h3]
  rfl
theorem words_H (V m : Int) (L : List (List Int)) (r : List UInt8) : wordsS (textH V m L r) 1 = (numD 1 (L.map lineL)).flatMap (wordsOf 1) ++ (numL (1 + L.length) (segs 10 r)).flatMap (wordsOf 1) := by
  unfold wordsS
  rw [lines_H, List.flatMap_cons, List.flatMap_append]
  rfl
theorem count_free {c : UInt8} : ∀ {l : List UInt8}, c ∉ l → l.count c = 0 := fun h => List.count_eq_zero.2 h
theorem count_lines : ∀ L : List (List Int), (linesF L).count 10 = L.length
  | [] => rfl
  | c :: L => by
    have e : linesF (c :: L) = lineL c ++ [10] ++ linesF L := by unfold linesF; simp
    rw [e, List.count_append, List.count_append, count_lines L, count_free (line_free c)]
    simp; omega
theorem behind_H (V m : Int) (L : List (List Int)) (r : List UInt8) : behindN (textH V m L r) = L.length + r.count 10 + 3 := by
  unfold behindN textH
  rw [List.count_append, List.count_append, List.count_append, count_lines, count_free (hdr_free V m)]
  simp; omega
/-- What is read of such a text. -/
theorem readAll_H {V m : Int} {L : List (List Int)} {r : List UInt8} (hv0 : 0 ≤ V) (hv1 : V ≤ 1048576) (hm0 : 0 ≤ m) (hm1 : m ≤ 262144) (hl : (textH V m L r).length ≤ 4194304) :
    readAll (textH V m L r) = match readW V m ((numD 1 (L.map lineL)).flatMap (wordsOf 1) ++ (numL (1 + L.length) (segs 10 r)).flatMap (wordsOf 1)) [] [] with
      | .inl x => .inl x
      | .inr x => if (x.1.length : Int) < m then .inl (L.length + r.count 10 + 3, 63) else .inr (V, x.1) := by
  unfold readAll
  rw [if_neg (by omega), head_H hv0 hv1 hm0 hm1, behind_H]
  dsimp only
  rw [if_pos rfl, words_H]
  rfl
/-- One clause fewer than the header says. -/
theorem read_more {V m : Int} {L : List (List Int)} (hv0 : 0 ≤ V) (hv1 : V ≤ 1048576) (hm : (L.length : Int) < m) (hm1 : m ≤ 262144) (hc : ∀ c ∈ L, OkC V c) (hl : (textH V m L []).length ≤ 4194304) : readAll (textH V m L []) = .inl (L.length + 3, 63) := by
  rw [readAll_H hv0 hv1 (by omega) hm1 hl, readW_append, read_lines hv0 L [] 1 (Nat.le_refl _) hc (by simp; omega)]
  dsimp only
  rw [show (numL (1 + L.length) (segs 10 [])).flatMap (wordsOf 1) = [] by
    rw [show segs 10 [] = [[]] from rfl, numL, show passB [] = true by decide]; rfl]
  rw [show readW V m [] ([] ++ L) [] = .inr (L, []) by rw [readW]; rfl]
  dsimp only
  rw [if_pos hm]
  rfl
theorem numD_snoc : ∀ (l : List (List UInt8)) (n : Nat) (x : List UInt8), numD n (l ++ [x]) = numD n l ++ [(n + l.length + 1, x)]
  | [], n, x => rfl
  | y :: l, n, x => by
    rw [List.cons_append, numD, numD, numD_snoc l (n + 1) x, List.length_cons, show n + 1 + l.length + 1 = n + (l.length + 1) + 1 by omega]
    rfl
/-- A clause more than the header says. -/
theorem read_less {V : Int} {L : List (List Int)} {c : List Int} (hv0 : 0 ≤ V) (hv1 : V ≤ 1048576) (hn : L.length ≤ 262144) (hc : ∀ c ∈ L, OkC V c) (hk : OkC V c) (hl : (textH V L.length (L ++ [c]) []).length ≤ 4194304) : readAll (textH V L.length (L ++ [c]) []) = .inl (L.length + 2, 63) := by
  rw [readAll_H hv0 hv1 (by omega) (by omega) hl, List.map_append, List.map_cons, List.map_nil, numD_snoc, List.flatMap_append, List.append_assoc, readW_append, read_lines hv0 L [] 1 (Nat.le_refl _) hc (by simp)]
  dsimp only
  rw [List.flatMap_cons, words_line (fun l hl => (hk.2 l hl).1) 1 _ (by omega), List.nil_append, List.length_map]
  have key : ∀ x, (∀ h : x ≠ [48], readE x = 0) → varI (readI x) ≤ V → takeE V L.length L [] x = 63 := fun x h1 h2 => by
    unfold takeE
    rw [if_neg (fun h => h.1 (h1 h.2)), if_neg (by omega), if_pos rfl]
  cases c with
  | nil =>
    rw [List.map_nil, List.nil_append, List.map_cons, List.cons_append, List.cons_append, readW_cons, key [48] (fun h => absurd rfl h) (by rw [show readI [48] = 0 by decide, show varI 0 = 0 by decide]; exact hv0), if_neg (by decide)]
    dsimp only
    rw [show 1 + L.length + 1 = L.length + 2 by omega]
  | cons l c =>
    obtain ⟨h1, h2⟩ := hk.2 l (by simp)
    obtain ⟨hi, he⟩ := read_text h1
    rw [List.map_cons, List.cons_append, List.map_cons, List.cons_append, List.cons_append, readW_cons, key (textL l) (fun _ => he) (by rw [hi]; exact h2), if_neg (by decide)]
    dsimp only
    rw [show 1 + L.length + 1 = L.length + 2 by omega]
/-- The last clause without its 0. -/
theorem read_part {V C : Int} (n : Nat) : ∀ (c : List Int) (L : List (List Int)) (cur : List Int), (∀ l ∈ c, litB l = true ∧ varI l ≤ V) → cur.length + c.length ≤ 4096 → (L.length : Int) < C →
    readW V C ((c.map textL).map (fun x => (n, x))) L cur = .inr (L, cur ++ c)
  | [], L, cur, _, _, hC => by rw [List.append_nil]; show readW V C [] L cur = _; rw [readW]
  | l :: c, L, cur, hl, hn, hC => by
    obtain ⟨h1, h2⟩ := hl l (by simp)
    obtain ⟨hi, he⟩ := read_text h1
    have hx := text_not0 h1
    have hn' : cur.length + (c.length + 1) ≤ 4096 := by simpa using hn
    have h0 : takeE V C L cur (textL l) = 0 := by
      unfold takeE
      rw [he, hi, if_neg (fun h => h.1 rfl), if_neg (by omega), if_neg (by omega), if_neg hx, if_neg (by omega)]
    have ht : takeN L cur (textL l) = (L, cur ++ [l]) := by unfold takeN; rw [if_neg hx, hi]
    show readW V C ((n, textL l) :: (c.map textL).map (fun x => (n, x))) L cur = _
    rw [readW_cons, if_pos h0, ht]
    dsimp only
    rw [read_part n c L (cur ++ [l]) (fun x hx => hl x (by simp [hx])) (by simp; omega) hC, List.append_assoc]
    rfl
theorem words_free (c : List Int) : (10 : UInt8) ∉ wordsL c := fun h => line_free c (by unfold lineL; exact List.mem_append_left _ h)
theorem segs_words (c : List Int) : segs 32 (wordsL c) = c.map textL ++ [[]] := by
  have h := segs_cat (c := 32) (c.map textL) [] (fun x hx => by
    obtain ⟨l, -, rfl⟩ := List.mem_map.1 hx
    exact text_free (by decide) (by decide) l)
  rw [show ((c.map textL).map (· ++ [32])).flatten ++ [] = wordsL c by
    unfold wordsL
    simp [List.flatMap, Function.comp_def]] at h
  exact h
theorem read_open {V : Int} {L : List (List Int)} {c : List Int} (hv0 : 0 ≤ V) (hv1 : V ≤ 1048576) (hn : L.length < 262144) (hc : ∀ c ∈ L, OkC V c) (hk : OkC V c) (hl : (textH V (L.length + 1) L (wordsL c)).length ≤ 4194304) : readAll (textH V (L.length + 1) L (wordsL c)) = .inl (L.length + 3, 63) := by
  rw [readAll_H hv0 hv1 (by omega) (by omega) hl, readW_append, read_lines hv0 L [] 1 (Nat.le_refl _) hc (by simp; omega)]
  dsimp only
  have hw : (numL (1 + L.length) (segs 10 (wordsL c))).flatMap (wordsOf 1) = (c.map textL).map (fun x => (1 + L.length + 1, x)) := by
    rw [segs_miss (words_free c), numL]
    cases c with
    | nil => rw [show passB (wordsL []) = true by decide]; rfl
    | cons l c =>
      have hx : passB (wordsL (l :: c)) = false := by
        obtain ⟨h1, h2⟩ := hk.2 l (by simp)
        have hne := text_not h1
        obtain ⟨b, hb⟩ : ∃ b, b ∈ textL l := List.exists_mem_of_ne_nil _ hne
        have hb32 : b ≠ 32 := fun e => text_free (by decide) (by decide) l (e ▸ hb)
        refine not_passed (b := b) (by unfold wordsL; rw [List.flatMap_cons]; exact List.mem_append_left _ (List.mem_append_left _ hb)) hb32 (fun e => ?_)
        have hm : (99 : UInt8) ∈ wordsL (l :: c) := List.mem_of_mem_head? e
        unfold wordsL at hm
        simp only [List.mem_append, List.mem_flatMap, List.mem_cons, List.not_mem_nil, or_false] at hm
        obtain ⟨y, -, h | h⟩ := hm
        · exact text_free (by decide) (by decide) y h
        · exact absurd h (by decide)
      rw [hx]
      show [(1 + L.length + 1, wordsL (l :: c))].flatMap (wordsOf 1) = _
      rw [List.flatMap_cons, List.flatMap_nil, List.append_nil]
      unfold wordsOf
      rw [if_neg (by dsimp only; omega)]
      dsimp only
      rw [segs_words, List.filter_append]
      congr 1
      rw [List.filter_eq_self.2]
      · simp
      · intro x hx
        obtain ⟨y, hy, rfl⟩ := List.mem_map.1 hx
        exact decide_eq_true (text_not (hk.2 y hy).1)
  rw [hw, List.nil_append, read_part _ c L [] hk.2 (by simpa using hk.1) (by omega)]
  dsimp only
  rw [if_pos (by omega), count_free (words_free c)]
end Go.Proofs.YtiicffceopiooaaGreatDoor
namespace Go.Proofs.YtiicffceopiooaaGreatDoor
open Go.RowKit Go.ChangeAt Go.ChangeShapes Go.WideShapes Go.Shelf Go.Sort

theorem index_hit {c : UInt8} (a r : List UInt8) (h : c ∉ a) : Lib.index (a ++ c :: r) [c] = (a.length : Int) := by
  rcases index_cases (a ++ c :: r) c with h1 | ⟨i, h1⟩
  · exact absurd (by simp : c ∈ a ++ c :: r) (split_no h1)
  · obtain ⟨h2, h3, h4⟩ := split_at h1
    rw [h1]
    have e1 := segs_hit (c := c) r h
    have e2 := segs_hit (c := c) ((a ++ c :: r).drop (i + 1)) h3
    rw [← h4] at e2
    rw [e1] at e2
    injection e2 with e2 _
    have := congrArg List.length e2
    rw [List.length_take] at this
    omega
set_option maxRecDepth 100000 in
set_option maxHeartbeats 1000000 in
theorem cut_hit_any (c : UInt8) (a r : List UInt8) (h : c ∉ a) (hs : (a ++ c :: r).length ≤ 4000000000) (w : World) :
    Calls Tryz.prog 31 #[str (a ++ c :: r), str [c]] w fun e w' => e = .returned (.tuple #[str a, str r, .bool true]) ∧ Below w.heap.size w w' := by
  have hi := index_hit a r h
  have hix := Tryz.stringslite_Index_one_f106 ⟨(a ++ c :: r).toArray⟩ c
  have hix : ∀ W, Calls Tryz.prog 106 #[str (a ++ c :: r), str [c]] W fun e w' => e = .returned (.int .i64 (a.length : Int)) ∧ w' = W := fun W => (hix W).mono fun e w' ⟨h1, h2⟩ => ⟨by rw [h1, str_list, ← Lib.index_one, hi], h2⟩
  have ht : (a ++ c :: r).take a.length = a := List.take_left
  have hd : (a ++ c :: r).drop (a.length + 1) = r := by rw [← List.drop_drop, List.drop_left]; rfl
  have hil : a.length < (a ++ c :: r).length := by simp
  obtain ⟨s, hse⟩ : ∃ s, a ++ c :: r = s := ⟨_, rfl⟩
  obtain ⟨i, hie⟩ : ∃ i, a.length = i := ⟨_, rfl⟩
  rw [hse] at hix hs ht hd hil ⊢
  rw [hie] at hix ht hd hil
  have HIx := Lib.hid hix
  have HT := Lib.hid ht; have HD := Lib.hid hd
  clear hix hi hse hie ht hd
  have hin : Calls Tryz.prog 70 #[str s, str [c]] w fun e w' => e = .returned (.tuple #[str a, str r, .bool true]) ∧ Below w.heap.size w w' := by
    have e1 := str_take s i
    have e2 := str_drop s (i + 1)
    rw [HT.out] at e1
    rw [HD.out] at e2
    have hsz := str_size s
    have hil2 : (i : Int) < (s.length : Int) := by omega
    have hsl : (s.length : Int) ≤ 4000000000 := by omega
    go_enter Tryz.func70, Tryz.ntmps70
    go_wp2_with fail
    refine (HIx.out _).mono ?_
    rintro e w' ⟨rfl, rfl⟩
    go_wp2_with fail
    go_quiet (fail)
    go_wp2_with fail
    go_ret3
    exact ⟨rfl, below_drewN (Below.refl _ _) _⟩
  have HIn := Lib.hid hin
  clear hin
  go_enter Tryz.func31, Tryz.ntmps31
  go_wp2_with fail
  refine HIn.out.mono ?_
  rintro e w' ⟨rfl, hb⟩
  have HB := Lib.hid hb
  clear hb
  go_wp2_with fail
  go_ret3
  exact ⟨rfl, HB.out⟩
theorem str_app (a b : List UInt8) : (⟨a.toArray⟩ : ByteArray) ++ ⟨b.toArray⟩ = ⟨(a ++ b).toArray⟩ := str_ext (by simp [ByteArray.data_append])
section
variable {w W : World} {fs : List (Value × List (List Int))} {ss : List (Nat × Int × Value)}
theorem dm_cut (c : UInt8) (a r : List UInt8) (h : c ∉ a) (hs : (a ++ c :: r).length ≤ 4000000000) (hd : Dm w W fs ss) {T : List UInt8} (hT : T = a ++ c :: r) :
    Calls Tryz.prog 31 #[str T, str [c]] W fun e w' => e = .returned (.tuple #[str a, str r, .bool true]) ∧ Dm w w' fs ss :=
  hT ▸ (cut_hit_any c a r h hs W).mono fun _ _ ⟨he, hb⟩ => ⟨he, hd.on hb⟩
theorem dm_header (v n : Int) (hv0 : 0 ≤ v) (hv1 : v ≤ 1048576) (hn0 : 0 ≤ n) (hn1 : n ≤ 262144) (hd : Dm w W fs ss) {H : List UInt8} (hH : hdrL v n = H) :
    Calls Tryz.prog 27 #[.int .i64 v, .int .i64 n] W fun e w' => e = .returned (.tuple #[str H, .int .i64 0]) ∧ Dm w w' fs ss :=
  (header_ok v n hv0 hv1 hn0 hn1 W hd.env.tab).mono fun _ _ ⟨he, hb⟩ => ⟨by rw [he, hH], hd.on hb⟩
theorem dm_trim (S p R : List UInt8) (hS : S.length ≤ 4000000000) (hd : Dm w W fs ss) (hR : Lib.trimSuffix S p = R) :
    Calls Tryz.prog 32 #[str S, str p] W fun e w' => e = .returned (str R) ∧ Dm w w' fs ss :=
  (Tryz.strings_TrimSuffix_f32 ⟨S.toArray⟩ ⟨p.toArray⟩ W (by rw [str_size]; omega)).mono fun _ _ ⟨he, hw⟩ => ⟨by rw [he, str_list, str_list, hR], hw ▸ hd⟩
end
end Go.Proofs.YtiicffceopiooaaGreatDoor
