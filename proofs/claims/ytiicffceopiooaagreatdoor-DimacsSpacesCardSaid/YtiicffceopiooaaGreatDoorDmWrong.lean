/- strings.Split and strings.Join at one byte. -/
/- The law DimacsWrong: what is read of wrong texts. -/
import Derived.Test.YtiicffceopiooaaGreatDoorDmCut
import Derived.Lib.CountLaws
import Derived.Lib.Split
import Derived.Lib.Join
import Derived.Test.YtiicffceopiooaaGreatDoorDmAwakeWalk
namespace Go.Proofs.YtiicffceopiooaaGreatDoor
open Go.RowKit Go.ChangeAt Go.ChangeShapes Go.WideShapes Go.Shelf Go.Sort

theorem split_segs (c : UInt8) : ∀ (k : Nat) (l : List UInt8), l.length ≤ k → Lib.countB ⟨l.toArray⟩ ⟨[c].toArray⟩ + 1 = (segs c l).length ∧ Lib.splitB ⟨[c].toArray⟩ 0 (Lib.countB ⟨l.toArray⟩ ⟨[c].toArray⟩) ⟨l.toArray⟩ = (segs c l).map fun x => (⟨x.toArray⟩ : ByteArray)
  | k, l, hk => by
    have hidx : Lib.indexB ⟨l.toArray⟩ ⟨[c].toArray⟩ = Lib.index l [c] := by unfold Lib.indexB; rw [str_list, str_list]
    rcases index_cases l c with h | ⟨i, h⟩
    · have h1 := split_no h
      have hm : Lib.indexB ⟨l.toArray⟩ ⟨[c].toArray⟩ = -1 := hidx.trans h
      rw [segs_miss h1, Lib.countB_miss _ _ hm, Lib.splitB_miss _ _ _ _ hm]
      exact ⟨rfl, rfl⟩
    · obtain ⟨h1, h2, h3⟩ := split_at h
      have hm : Lib.indexB ⟨l.toArray⟩ ⟨[c].toArray⟩ = (i : Int) := hidx.trans h
      have hs1 : (⟨[c].toArray⟩ : ByteArray).size = 1 := str_size [c]
      have hd : (⟨l.toArray⟩ : ByteArray).extract (i + 1) (⟨l.toArray⟩ : ByteArray).size = ⟨(l.drop (i + 1)).toArray⟩ := by rw [str_size]; exact str_drop l (i + 1) _ (Nat.le_refl _)
      cases k with
      | zero => omega
      | succ k =>
        obtain ⟨e1, e2⟩ := split_segs c k (l.drop (i + 1)) (by rw [List.length_drop]; omega)
        have hseg : segs c l = l.take i :: segs c (l.drop (i + 1)) := by
          conv => lhs; rw [h3]
          exact segs_hit _ h2
        have hc : Lib.countB ⟨l.toArray⟩ ⟨[c].toArray⟩ = Lib.countB ⟨(l.drop (i + 1)).toArray⟩ ⟨[c].toArray⟩ + 1 := by
          rw [Lib.countB_hit _ _ i (by rw [hs1]; exact Nat.le_refl _) hm, hs1, hd, Nat.add_comm]
        rw [hc, hseg, Lib.splitB_hit _ _ _ _ i hm, hs1, hd, e2]
        refine ⟨by rw [List.length_cons]; omega, ?_⟩
        rw [Nat.add_zero, str_take, List.map_cons]
/-- Lines put together are split into the same lines. -/
theorem segs_join (c : UInt8) : ∀ (ls : List (List UInt8)), ls ≠ [] → (∀ x ∈ ls, c ∉ x) → segs c (Lib.join ls [c]) = ls
  | [], h, _ => absurd rfl h
  | [x], _, hf => by rw [Lib.join_one]; exact segs_miss (hf x (by simp))
  | x :: y :: r, _, hf => by
    have h := segs_join c (y :: r) (by simp) (fun z hz => hf z (by simp [hz]))
    have e : Lib.join (x :: y :: r) [c] = x ++ c :: Lib.join (y :: r) [c] := by unfold Lib.join; simp [List.intercalate, List.intersperse]
    rw [e, segs_hit _ (hf x (by simp)), h]
theorem join_len (c : UInt8) : ∀ (ls : List (List UInt8)), (Lib.join ls [c]).length ≤ (ls.map fun x => x.length + 1).sum
  | [] => by simp [Lib.join, List.intercalate]
  | [x] => by rw [Lib.join_one]; simp
  | x :: y :: r => by
    have h := join_len c (y :: r)
    have e : Lib.join (x :: y :: r) [c] = x ++ c :: Lib.join (y :: r) [c] := by unfold Lib.join; simp [List.intercalate, List.intersperse]
    rw [e, List.length_append, List.length_cons, List.map_cons, List.sum_cons]
    omega
/-- Split lays the lines in a new block. -/
theorem split_any (c : UInt8) (l : List UInt8) (hl : l.length ≤ 4000000000) (w : World) (hm : ∃ m, w.cell? ⟨2, 0, none⟩ = some (.int .i64 m)) :
    Calls Tryz.prog 24 #[str l, str [c]] w fun e w' => e = .returned (.slice (some ⟨w.heap.size, 0, none⟩) (segs c l).length (segs c l).length) ∧ w' = w.alloc (.cells ((segs c l).map str).toArray 9) := by
  obtain ⟨m, hm⟩ := hm
  obtain ⟨h1, h2⟩ := split_segs c l.length l (Nat.le_refl _)
  refine (Tryz.strings_Split_f24 ⟨l.toArray⟩ ⟨[c].toArray⟩ m w (by rw [str_size]; omega) hm (by rw [str_size]; exact Nat.le_refl _)).mono fun e w' ⟨he, hw⟩ => ⟨by rw [he, h1], ?_⟩
  rw [hw, h2, List.map_map]
  rfl
/-- Join of a row of texts. -/
theorem join_any {bk o n c : Nat} (b : UInt8) (ls : List (List UInt8)) (hn : ls.length = n) (w : World) (hcells : ∀ (j : Nat) x, ls[j]? = some x → w.cell? ⟨bk, o + j, none⟩ = some (str x)) (hbk : bk < w.heap.size) (hN : n ≤ 1000000) (hcap : n ≤ c) (hlen : (Lib.join ls [b]).length ≤ 4000000000) :
    Calls Tryz.prog 26 #[.slice (some ⟨bk, o, none⟩) n c, str [b]] w fun e w' => e = .returned (str (Lib.join ls [b])) ∧ Below w.heap.size w w' := by
  subst hn
  have hmm : (ls.map fun x => (⟨x.toArray⟩ : ByteArray)).map (·.data.toList) = ls := by
    rw [List.map_map]
    conv => rhs; rw [← List.map_id ls]
    exact List.map_congr_left fun x _ => by simp
  have h := Tryz.strings_Join_f26 bk o c (ls.map fun x => (⟨x.toArray⟩ : ByteArray)) ⟨[b].toArray⟩ w (fun j x hx => by
    rw [List.getElem?_map] at hx
    obtain ⟨y, hy, rfl⟩ := Option.map_eq_some_iff.1 hx
    exact hcells j y hy) hbk (by rw [List.length_map]; omega) (by rw [List.length_map]; omega) (by rw [hmm, str_list]; omega)
  rw [hmm, str_list, List.length_map] at h
  exact h
/-- The cell of internal/bytealg.MaxLen holds some number. -/
theorem maxlen_of {W : World} (h : W.ShapedOpen Tryz.prog) : ∃ m, W.cell? ⟨2, 0, none⟩ = some (.int .i64 m) := Tryz.laysM146.s1_3 W h
end Go.Proofs.YtiicffceopiooaaGreatDoor
namespace Go.Proofs.YtiicffceopiooaaGreatDoor.dimacsWrong
open Go.RowKit Go.ChangeAt Go.ChangeShapes Go.WideShapes Go.Shelf Go.Sort

theorem join_cons' (c : UInt8) (x y : List UInt8) (r : List (List UInt8)) : Lib.join (x :: y :: r) [c] = x ++ c :: Lib.join (y :: r) [c] := by unfold Lib.join; simp [List.intercalate, List.intersperse]
theorem join_app (c : UInt8) (x : List UInt8) (r : List (List UInt8)) : ∀ a : List (List UInt8), Lib.join (a ++ x :: r) [c] = (a.map (· ++ [c])).flatten ++ Lib.join (x :: r) [c]
  | [] => rfl
  | [y] => by rw [List.cons_append, List.nil_append, join_cons']; simp
  | y :: z :: a => by
    have h := join_app c x r (z :: a)
    rw [List.cons_append, List.cons_append, join_cons', ← List.cons_append, h]
    simp
theorem join_text (V m : Int) (L : List (List Int)) (x : List UInt8) (r : List (List UInt8)) : Lib.join ((hdrL V m :: L.map lineL) ++ x :: r) [10] = textH V m L (Lib.join (x :: r) [10]) := by
  rw [join_app]
  unfold textH linesF
  simp [List.flatMap, Function.comp_def]
/-- A line with a wrong word at its head. -/
theorem read_bad {V m e : Int} {L : List (List Int)} {x w : List UInt8} {t r : List (List UInt8)} (hv0 : 0 ≤ V) (hv1 : V ≤ 1048576) (hm : (L.length : Int) ≤ m) (hm1 : m ≤ 262144) (hc : ∀ c ∈ L, OkC V c) (hf : ∀ y ∈ x :: r, (10 : UInt8) ∉ y) (hp : passB x = false) (hx : segs 32 x = w :: t) (hw : w ≠ []) (he : takeE V m L [] w = e) (he0 : e ≠ 0)
    (hl : (textH V m L (Lib.join (x :: r) [10])).length ≤ 4194304) : readAll (textH V m L (Lib.join (x :: r) [10])) = .inl (L.length + 2, e) := by
  rw [readAll_H hv0 hv1 (by omega) hm1 hl, readW_append, read_lines hv0 L [] 1 (Nat.le_refl _) hc (by simpa using hm), segs_join 10 _ (by simp) hf, numL, hp]
  dsimp only
  rw [List.nil_append, if_neg (by decide), List.cons_append, List.nil_append, List.flatMap_cons]
  have hwo : wordsOf 1 (1 + L.length + 1, x) = (1 + L.length + 1, w) :: ((t.filter fun x => decide (x ≠ [])).map fun y => (1 + L.length + 1, y)) := by
    unfold wordsOf
    rw [if_neg (by dsimp only; omega)]
    dsimp only
    rw [hx, List.filter_cons, if_pos (decide_eq_true hw), List.map_cons]
  rw [hwo, List.cons_append, readW_cons, he, if_neg he0]
  dsimp only
  rw [show 1 + L.length + 1 = L.length + 2 by omega]
/-- A header that is none. -/
theorem read_nohead {x : List UInt8} {r : List (List UInt8)} (hf : ∀ y ∈ x :: r, (10 : UInt8) ∉ y) (hp : passB x = false) (hx : prsH x = false) (hl : (Lib.join (x :: r) [10]).length ≤ 4194304) : readAll (Lib.join (x :: r) [10]) = .inl (1, 60) := by
  have h : headR (Lib.join (x :: r) [10]) = (1, 0, 0, 60) := by
    unfold headR linesL
    rw [segs_join 10 _ (by simp) hf, numL, hp]
    rw [if_neg (by decide)]
    dsimp only [List.cons_append, List.nil_append]
    rw [hx]
    rfl
  unfold readAll
  rw [if_neg (by omega), h]
  rfl
/-- The words that are put in, and what is wrong with them. -/
def wordsA (m : Int) : List (List UInt8) := [[120], [48, 48], [45, 48], [43, 49], [49, 46], [57], [45, 57], Lib.itoa m]
def wantE (j : Nat) (m : Int) : Int := if 4 < j ∧ m ≤ 1048576 ∨ j = 5 ∨ j = 6 then 62 else 61
/-- What is asked of such a word. -/
structure Bad (w : List UInt8) (e : Int) : Prop where
  e : ∀ (C : Int) (L : List (List Int)), takeE 8 C L [] w = e
  ne : w ≠ []
  n10 : (10 : UInt8) ∉ w
  n32 : (32 : UInt8) ∉ w
  n99 : w.head? ≠ some 99
  len : w.length ≤ 30
theorem bad_word {w : List UInt8} (h : readE w ≠ 0) (h1 : w ≠ [48]) (h2 : w ≠ []) (h3 : (10 : UInt8) ∉ w) (h4 : (32 : UInt8) ∉ w) (h5 : w.head? ≠ some 99) (h6 : w.length ≤ 30) : Bad w 61 :=
  ⟨fun C L => by unfold takeE; rw [if_pos ⟨h, h1⟩], h2, h3, h4, h5, h6⟩
theorem bad_var {w : List UInt8} (h : readE w = 0) (h1 : 8 < varI (readI w)) (h2 : w ≠ []) (h3 : (10 : UInt8) ∉ w) (h4 : (32 : UInt8) ∉ w) (h5 : w.head? ≠ some 99) (h6 : w.length ≤ 30) : Bad w 62 :=
  ⟨fun C L => by unfold takeE; rw [if_neg (fun x => x.1 h), if_pos h1], h2, h3, h4, h5, h6⟩
theorem word_bad {j : Nat} (hj : j < 8) {m : Int} (h9 : 9 ≤ m) (hm : m ≤ 9223372036854775807) : ∃ w, (wordsA m)[j]? = some w ∧ Bad w (wantE j m) := by
  have hc : ∀ w ∈ [[120], [48, 48], [45, 48], [43, 49], [49, 46]], Bad (w : List UInt8) 61 := fun w hw => by
    simp only [List.mem_cons, List.not_mem_nil, or_false] at hw
    rcases hw with rfl | rfl | rfl | rfl | rfl <;> exact bad_word (by decide +kernel) (by decide) (by decide) (by decide) (by decide) (by decide) (by decide)
  have hv : ∀ w ∈ [[57], [45, 57]], Bad (w : List UInt8) 62 := fun w hw => by
    simp only [List.mem_cons, List.not_mem_nil, or_false] at hw
    rcases hw with rfl | rfl <;> exact bad_var (by decide +kernel) (by decide +kernel) (by decide) (by decide) (by decide) (by decide) (by decide)
  match j with
  | 0 => exact ⟨_, rfl, by rw [show wantE 0 m = 61 from if_neg (by omega)]; exact hc _ (by simp)⟩
  | 1 => exact ⟨_, rfl, by rw [show wantE 1 m = 61 from if_neg (by omega)]; exact hc _ (by simp)⟩
  | 2 => exact ⟨_, rfl, by rw [show wantE 2 m = 61 from if_neg (by omega)]; exact hc _ (by simp)⟩
  | 3 => exact ⟨_, rfl, by rw [show wantE 3 m = 61 from if_neg (by omega)]; exact hc _ (by simp)⟩
  | 4 => exact ⟨_, rfl, by rw [show wantE 4 m = 61 from if_neg (by omega)]; exact hc _ (by simp)⟩
  | 5 => exact ⟨_, rfl, by rw [show wantE 5 m = 62 from if_pos (by omega)]; exact hv _ (by simp)⟩
  | 6 => exact ⟨_, rfl, by rw [show wantE 6 m = 62 from if_pos (by omega)]; exact hv _ (by simp)⟩
  | 7 =>
    refine ⟨Lib.itoa m, rfl, ?_⟩
    have hl := Lib.itoa_length_le m (by omega) (by omega)
    have h10 : (10 : UInt8) ∉ Lib.itoa m := itoa_free (by decide) (by decide)
    have h32 : (32 : UInt8) ∉ Lib.itoa m := itoa_free (by decide) (by decide)
    have h99 : (99 : UInt8) ∉ Lib.itoa m := itoa_free (by decide) (by decide)
    have hh : (Lib.itoa m).head? ≠ some 99 := fun e => h99 (List.mem_of_mem_head? e)
    by_cases h : m ≤ 1048576
    · rw [show wantE 7 m = 62 from if_pos (by omega)]
      have hb : litB m = true := litB_yes (by omega) (by omega) h
      have ht : textL m = Lib.itoa m := by unfold textL; rw [if_pos hb]
      obtain ⟨h1, h2⟩ := read_text hb
      rw [ht] at h1 h2
      refine bad_var h2 ?_ (itoa_ne m) h10 h32 hh (by omega)
      rw [h1]
      unfold varI
      rw [if_pos hb, if_neg (by omega)]
      omega
    · rw [show wantE 7 m = 61 from if_neg (by omega)]
      refine bad_word (fun he => ?_) (fun e => ?_) (itoa_ne m) h10 h32 hh (by omega)
      · have h1 := text_read he
        have hb : litB (readI (Lib.itoa m)) = true := by
          rcases of_ie' (Lib.itoa m) with ⟨-, h5, h6, h7, h8⟩ | ⟨h4, -⟩
          · refine litB_yes h5 ?_ ?_ <;> rw [h8] <;> split <;> omega
          · omega
        have h2 := litB_of hb
        unfold textL at h1
        rw [if_pos hb] at h1
        have h3 := congrArg atoiV h1
        rw [atoiV_itoa _ (by omega) (by omega), atoiV_itoa _ (by omega) (by omega)] at h3
        omega
      · have h3 := congrArg atoiV e
        rw [atoiV_itoa _ (by omega) (by omega), show atoiV [48] = 0 by decide +kernel] at h3
        omega
  | j + 8 => omega
theorem i64_wf {x : Int} (h : (Lit.int .i64 x).wf = true) : -9223372036854775808 ≤ x ∧ x ≤ 9223372036854775807 := by
  have : IntKind.i64.min ≤ x ∧ x ≤ IntKind.i64.max := by simpa [Lit.wf] using h
  exact this
/-- Lines that are no header. -/
def hds : List (List UInt8) := [[112, 32, 99, 110, 102, 32, 56], [99, 110, 102, 32, 56, 32, 49], [112, 32, 99, 110, 102, 32, 56, 32, 45, 49], [112, 32, 99, 110, 102, 32, 56, 32, 49, 32], [80, 32, 99, 110, 102, 32, 56, 32, 49], [112, 32, 99, 110, 102, 32, 48, 56, 32, 49]]
theorem hds_bad : ∀ x ∈ hds, (10 : UInt8) ∉ x ∧ passB x = false ∧ prsH x = false ∧ x.length ≤ 20 := by decide +kernel
theorem set_mid {α : Type} (y x : α) (r : List α) : ∀ a : List α, (a ++ y :: r).set a.length x = a ++ x :: r
  | [] => rfl
  | z :: a => by rw [List.cons_append, List.length_cons, List.cons_append, List.set_cons_succ, set_mid y x r a]
theorem get_mid {α : Type} (y : α) (r a : List α) : (a ++ y :: r)[a.length]? = some y := by rw [List.getElem?_append_right (Nat.le_refl _), Nat.sub_self]; rfl
theorem trim_no {s : List UInt8} (h : s.getLast? ≠ some 32) : Lib.trimSuffix s [32] = s := by
  unfold Lib.trimSuffix Lib.hasSuffix
  rw [if_neg]
  intro hs
  obtain ⟨a, rfl⟩ := List.isSuffixOf_iff_suffix.1 hs
  simp at h
theorem trim_yes (a : List UInt8) : Lib.trimSuffix (a ++ [32]) [32] = a := by
  unfold Lib.trimSuffix Lib.hasSuffix
  rw [if_pos (by simp), List.length_append, Nat.add_sub_cancel, List.take_left]
/-- A line with a word put in ahead. -/
theorem wrong_line {L L1 : List (List Int)} {y w : List UInt8} {r : List (List UInt8)} {e : Int} (hL : L.length ≤ 30) (hseg : segs 10 (textF 8 L) = (hdrL 8 L.length :: L1.map lineL) ++ y :: r) (hl : (textF 8 L).length ≤ 20000) (h1 : L1.length ≤ L.length) (hc : ∀ c ∈ L1, OkC 8 c) (hy : y = [] ∨ y.getLast? = some 48) (hb : Bad w e) (he : e ≠ 0) :
    ∃ x, (segs 10 (textF 8 L))[L1.length + 1]? = some y ∧ y.length ≤ 20000 ∧ Lib.trimSuffix (w ++ [32] ++ y) [32] = x ∧ x.length ≤ 30000 ∧ (Lib.join ((segs 10 (textF 8 L)).set (L1.length + 1) x) [10]).length ≤ 4000000 ∧ readAll (Lib.join ((segs 10 (textF 8 L)).set (L1.length + 1) x) [10]) = .inl (L1.length + 2, e) := by
  have hlen : (hdrL 8 (L.length : Int) :: L1.map lineL).length = L1.length + 1 := by simp
  have hym : y ∈ segs 10 (textF 8 L) := by rw [hseg]; simp
  have hfree : ∀ z ∈ y :: r, (10 : UInt8) ∉ z := fun z hz => segs_free (l := textF 8 L) (by rw [hseg]; exact List.mem_append_right _ hz)
  have hyl := segs_short hym
  have hx : ∃ x t, Lib.trimSuffix (w ++ [32] ++ y) [32] = x ∧ segs 32 x = w :: t ∧ (10 : UInt8) ∉ x ∧ x.head? = w.head? ∧ (∀ b ∈ w, b ∈ x) ∧ x.length ≤ w.length + 1 + y.length := by
    rcases hy with rfl | hy
    · refine ⟨w, [], by rw [List.append_nil, trim_yes], segs_miss hb.n32, hb.n10, rfl, fun _ h => h, by omega⟩
    · refine ⟨w ++ [32] ++ y, segs 32 y, trim_no ?_, ?_, ?_, ?_, fun b h => by simp [h], by simp; omega⟩
      · rw [List.getLast?_append, hy]; simp
      · rw [List.append_assoc]; exact segs_hit y hb.n32
      · have := hfree y (by simp)
        have := hb.n10
        simp_all
      · have := hb.ne
        cases w with
        | nil => exact absurd rfl this
        | cons b w => rfl
  obtain ⟨x, t, hx1, hx2, hx3, hx4, hx5, hx6⟩ := hx
  have hwl := hb.len
  have hset : (segs 10 (textF 8 L)).set (L1.length + 1) x = (hdrL 8 L.length :: L1.map lineL) ++ x :: r := by rw [hseg, ← hlen]; exact set_mid y x r _
  have hsum := segs_sum 10 (textF 8 L)
  rw [hseg, List.map_append, List.sum_append] at hsum
  have hjl := join_len 10 ((hdrL 8 L.length :: L1.map lineL) ++ x :: r)
  rw [List.map_append, List.sum_append] at hjl
  have e1 : ∀ z : List UInt8, ((z :: r).map fun x => x.length + 1).sum = (z.length + 1) + (r.map fun x => x.length + 1).sum := fun z => by simp
  rw [e1] at hsum hjl
  have hjl : (Lib.join ((hdrL 8 (L.length : Int) :: L1.map lineL) ++ x :: r) [10]).length ≤ 4000000 := by omega
  refine ⟨x, by rw [hseg, ← hlen]; exact get_mid y r _, by omega, hx1, by omega, by rw [hset]; exact hjl, ?_⟩
  rw [hset, join_text]
  rw [join_text] at hjl
  obtain ⟨b, hbw⟩ := List.exists_mem_of_ne_nil _ hb.ne
  exact read_bad (by omega) (by omega) (by omega) (by omega) hc (fun z hz => by
    rcases List.mem_cons.1 hz with rfl | hz
    · exact hx3
    · exact hfree z (by simp [hz])) (not_passed (hx5 b hbw) (fun e => hb.n32 (e ▸ hbw)) (by rw [hx4]; exact hb.n99)) hx2 hb.ne (hb.e _ _) he (by omega)
theorem line_last (c : List Int) : (lineL c).getLast? = some 48 := by unfold lineL; simp
theorem wantE_ne (j : Nat) (m : Int) : wantE j m ≠ 0 := by unfold wantE; split <;> decide
theorem wrong_facts (zss : List (List Int)) : ∃ L T Ls, madeF zss = L ∧ L.length ≤ 30 ∧ (∀ zs ∈ L, zs.length ≤ 1000000) ∧ writeT 8 L = (T, 0) ∧ T.length ≤ 20000 ∧ segs 10 T = Ls ∧ Ls.length = L.length + 2 ∧
    (∀ (k : Nat) (w : List UInt8) (e : Int), k ≤ L.length → Bad w e → e ≠ 0 → ∃ y x, Ls[k + 1]? = some y ∧ y.length ≤ 20000 ∧ Lib.trimSuffix (w ++ [32] ++ y) [32] = x ∧ x.length ≤ 30000 ∧ (Lib.join (Ls.set (k + 1) x) [10]).length ≤ 4000000 ∧ readAll (Lib.join (Ls.set (k + 1) x) [10]) = .inl (k + 2, e)) ∧
    ∀ x ∈ hds, x.length ≤ 20 ∧ (Lib.join (Ls.set 0 x) [10]).length ≤ 4000000 ∧ readAll (Lib.join (Ls.set 0 x) [10]) = .inl (1, 60) := by
  have hok : ∀ c ∈ madeF zss, OkC 8 c := fun c hc => cl_okC (madeF_cl c hc)
  have hlen := madeF_len zss
  have hT := made_len zss
  have hw := made_write zss
  have hsh := short_made (zss := zss)
  obtain ⟨L, hL⟩ : ∃ L, madeF zss = L := ⟨_, rfl⟩
  rw [hL] at hok hlen hT hw hsh
  refine ⟨L, textF 8 L, segs 10 (textF 8 L), hL, hlen, hsh, hw, hT, rfl, by rw [segs_text]; simp, fun k w e hk hb he => ?_, fun x hx => ?_⟩
  · by_cases hlt : k < L.length
    · have hsp : L = L.take k ++ L[k] :: L.drop (k + 1) := by rw [List.getElem_cons_drop, List.take_append_drop]
      have h1 : (L.take k).length = k := by rw [List.length_take]; omega
      have hseg : segs 10 (textF 8 L) = (hdrL 8 L.length :: (L.take k).map lineL) ++ lineL L[k] :: ((L.drop (k + 1)).map lineL ++ [[]]) := by
        have hm := congrArg (List.map lineL) hsp
        rw [List.map_append, List.map_cons] at hm
        rw [segs_text, hm, List.append_assoc, List.cons_append, List.cons_append]
      obtain ⟨x, h⟩ := wrong_line hlen hseg hT (by omega) (fun c hc => hok c (List.mem_of_mem_take hc)) (.inr (line_last _)) hb he
      rw [h1] at h
      exact ⟨_, x, h⟩
    · obtain rfl : k = L.length := by omega
      obtain ⟨x, h⟩ := wrong_line (L1 := L) (y := []) (r := []) hlen (by rw [segs_text]; simp) hT (Nat.le_refl _) hok (.inl rfl) hb he
      exact ⟨_, x, h⟩
  · obtain ⟨h1, h2, h3, h4⟩ := hds_bad x hx
    have hset : (segs 10 (textF 8 L)).set 0 x = x :: (L.map lineL ++ [[]]) := by rw [segs_text]; rfl
    have hsum := segs_sum 10 (textF 8 L)
    rw [segs_text, List.map_cons, List.sum_cons] at hsum
    have hjl := join_len 10 (x :: (L.map lineL ++ [[]]))
    rw [List.map_cons, List.sum_cons] at hjl
    rw [hset]
    refine ⟨h4, by omega, read_nohead (fun y hy => ?_) h2 h3 (by omega)⟩
    rcases List.mem_cons.1 hy with rfl | hy
    · exact h1
    · exact segs_free (l := textF 8 L) (by rw [segs_text]; exact List.mem_cons_of_mem _ hy)
end Go.Proofs.YtiicffceopiooaaGreatDoor.dimacsWrong
