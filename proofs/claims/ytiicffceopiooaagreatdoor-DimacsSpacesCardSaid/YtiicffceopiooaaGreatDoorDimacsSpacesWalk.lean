/- The law DimacsSpaces: what is read does not hang on blanks, line feeds and comments. -/
/- Rows of texts: append to them. -/
/- The law DimacsSpaces: its walk. -/
import Derived.Test.YtiicffceopiooaaGreatDoorDmWrong
import Derived.Lib.Replace
import Derived.ArgAppend
namespace Go.Proofs.YtiicffceopiooaaGreatDoor.dimacsSpaces
open Go.RowKit Go.ChangeAt Go.ChangeShapes Go.WideShapes Go.Shelf Go.Sort

theorem segs_cons (c b : UInt8) (l : List UInt8) : segs c (b :: l) = if b = c then [] :: segs c l else match segs c l with
    | [] => [[b]]
    | h :: t => (b :: h) :: t := by rw [segs]; rfl
theorem segs_app (c : UInt8) : ∀ (x t : List UInt8), segs c (x ++ c :: t) = segs c x ++ segs c t
  | [], t => segs_hit (a := []) t (by simp)
  | b :: x, t => by
    have h := segs_app c x t
    rw [List.cons_append, segs_cons, segs_cons c b x]
    by_cases hb : b = c
    · rw [if_pos hb, if_pos hb, h]; rfl
    · rw [if_neg hb, if_neg hb, h]
      cases hs : segs c x with
      | nil => exact absurd hs (segs_ne c x)
      | cons y r => rfl
theorem join_two (sep x y : List UInt8) (r : List (List UInt8)) : Lib.join (x :: y :: r) sep = x ++ (sep ++ Lib.join (y :: r) sep) := by unfold Lib.join; simp [List.intercalate, List.intersperse]
theorem segs_flat (c : UInt8) : ∀ (ls : List (List UInt8)), ls ≠ [] → segs c (Lib.join ls [c]) = ls.flatMap (segs c)
  | [], h => absurd rfl h
  | [x], _ => by rw [Lib.join_one]; simp
  | x :: y :: r, _ => by
    rw [join_two, List.cons_append, List.nil_append, segs_app, segs_flat c (y :: r) (by simp)]
    rfl
theorem join_short (sep : List UInt8) : ∀ (ls : List (List UInt8)), (Lib.join ls sep).length ≤ (ls.map fun x => x.length + sep.length).sum
  | [] => by simp [Lib.join, List.intercalate]
  | [x] => by rw [Lib.join_one]; simp
  | x :: y :: r => by
    have h := join_short sep (y :: r)
    rw [join_two, List.length_append, List.length_append, List.map_cons, List.sum_cons]
    omega
theorem replace_segs (c : UInt8) (new : List UInt8) : ∀ (k : Nat) (l : List UInt8), l.length ≤ k → Lib.replaceK [c] new (Lib.count l [c]) l = Lib.join (segs c l) new
  | k, l, hk => by
    rcases index_cases l c with h | ⟨i, h⟩
    · rw [Lib.count_miss h, segs_miss (split_no h), Lib.join_one]; rfl
    · obtain ⟨h1, h2, h3⟩ := split_at h
      cases k with
      | zero => omega
      | succ k =>
        have ih := replace_segs c new k (l.drop (i + 1)) (by rw [List.length_drop]; omega)
        have hseg : segs c l = l.take i :: segs c (l.drop (i + 1)) := by
          conv => lhs; rw [h3]
          exact segs_hit _ h2
        rw [Lib.count_hit (by simp) h, Nat.add_comm 1, Lib.replaceK_hit _ _ _ _ i h, hseg]
        show l.take i ++ new ++ Lib.replaceK [c] new (Lib.count (l.drop (i + 1)) [c]) (l.drop (i + 1)) = _
        rw [ih]
        cases hs : segs c (l.drop (i + 1)) with
        | nil => exact absurd hs (segs_ne _ _)
        | cons y r => rw [join_two, List.append_assoc]
theorem replaceAll_segs (c : UInt8) (new l : List UInt8) (hn : new ≠ [c]) : Lib.replaceAll l [c] new = Lib.join (segs c l) new := by
  unfold Lib.replaceAll Lib.replace
  rw [if_neg (by simpa using fun h => hn h.symm)]
  unfold Lib.replaceNum
  rw [if_pos (.inl (by decide))]
  exact replace_segs c new l.length l (Nat.le_refl _)
/-- The words of lines. -/
def cw (ls : List (List UInt8)) : List (List UInt8) := ls.flatMap fun x => if passB x then [] else (segs 32 x).filter fun x => decide (x ≠ [])
theorem cw_append (a b : List (List UInt8)) : cw (a ++ b) = cw a ++ cw b := by unfold cw; rw [List.flatMap_append]
theorem cw_flat (E : List (List UInt8)) (f : List UInt8 → List (List UInt8)) : cw (E.flatMap f) = E.flatMap fun e => cw (f e) := by
  induction E with
  | nil => rfl
  | cons e E ih => rw [List.flatMap_cons, cw_append, ih, List.flatMap_cons]
theorem words_cw {h : Nat} : ∀ (ls : List (List UInt8)) (n : Nat), h ≤ n → ((numL n ls).flatMap (wordsOf h)).map Prod.snd = cw ls
  | [], n, _ => rfl
  | x :: r, n, hn => by
    have ih := words_cw (h := h) r (n + 1) (by omega)
    rw [numL, List.flatMap_append, List.map_append, ih]
    show _ = cw ([x] ++ r)
    rw [cw_append]
    congr 1
    unfold cw
    rw [List.flatMap_cons, List.flatMap_nil, List.append_nil]
    split
    · rfl
    · rw [List.flatMap_cons, List.flatMap_nil, List.append_nil]
      unfold wordsOf
      rw [if_neg (by dsimp only; omega), List.map_map]
      conv => rhs; rw [← List.map_id (List.filter _ _)]
      rfl
/-- The words of clauses. -/
def tw (L : List (List Int)) : List (List UInt8) := L.flatMap fun c => c.map textL ++ [[48]]
theorem filter_words {c : List Int} (h : ∀ l ∈ c, litB l = true) : (c.map textL ++ [[48]]).filter (fun x => decide (x ≠ [])) = c.map textL ++ [[48]] := by
  rw [List.filter_eq_self.2]
  intro x hx
  refine decide_eq_true fun e => ?_
  rcases List.mem_append.1 hx with hx | hx
  · obtain ⟨l, hl, rfl⟩ := List.mem_map.1 hx
    exact text_not (h l hl) e
  · rw [List.mem_singleton.1 hx] at e
    cases e
theorem cw_line {c : List Int} (h : ∀ l ∈ c, litB l = true) : cw [lineL c] = c.map textL ++ [[48]] := by
  unfold cw
  rw [List.flatMap_cons, List.flatMap_nil, List.append_nil, line_seen, if_neg (by decide), segs_line, filter_words h]
theorem cw_lines : ∀ {L : List (List Int)}, (∀ c ∈ L, ∀ l ∈ c, litB l = true) → cw (L.map lineL) = tw L
  | [], _ => rfl
  | c :: L, h => by
    show cw ([lineL c] ++ L.map lineL) = _
    rw [cw_append, cw_line (h c (by simp)), cw_lines fun x hx => h x (by simp [hx])]
    rfl
theorem readW_words {V C : Int} : ∀ (ws ws' : List (Nat × List UInt8)) (L : List (List Int)) (cur : List Int) (x : List (List Int) × List Int), ws.map Prod.snd = ws'.map Prod.snd → readW V C ws L cur = .inr x → readW V C ws' L cur = .inr x
  | [], [], _, _, _, _, h => h
  | [], _ :: _, _, _, _, h, _ => by cases h
  | _ :: _, [], _, _, _, h, _ => by cases h
  | (n, w) :: ws, (m, w') :: ws', L, cur, x, hm, h => by
    rw [List.map_cons, List.map_cons] at hm
    injection hm with h1 h2
    obtain rfl : w = w' := h1
    rw [readW_cons] at h ⊢
    split at h
    · rename_i h0
      rw [if_pos h0]
      exact readW_words ws ws' _ _ x h2 h
    · cases h
theorem readW_tw {V C : Int} {L : List (List Int)} {ws : List (Nat × List UInt8)} (hV : 0 ≤ V) (hC : (L.length : Int) ≤ C) (hok : ∀ c ∈ L, OkC V c) (h : ws.map Prod.snd = tw L) : readW V C ws [] [] = .inr (L, []) := by
  refine readW_words _ ws [] [] _ ?_ ((read_lines hV L [] 1 (Nat.le_refl _) hok (by simpa using hC)).trans (by rw [List.nil_append]))
  rw [h, ← numL_all (L.map lineL) 1 (fun x hx => by obtain ⟨c, -, rfl⟩ := List.mem_map.1 hx; exact line_seen c), words_cw _ _ (Nat.le_refl _)]
  exact cw_lines fun c hc l hl => ((hok c hc).2 l hl).1
theorem numL_pass : ∀ (l : List (List UInt8)) (n : Nat), (∀ x ∈ l, passB x = true) → numL n l = []
  | [], n, _ => rfl
  | x :: l, n, h => by rw [numL, h x (by simp), numL_pass l (n + 1) (fun y hy => h y (by simp [hy]))]; rfl
/-- A text is read by its words. -/
theorem read_by_words {S : List UInt8} {L : List (List Int)} {pre rest : List (List UInt8)} (hseg : segs 10 S = pre ++ hdrL 8 L.length :: rest) (hpre : ∀ x ∈ pre, passB x = true) (hcw : cw rest = tw L) (hL : L.length ≤ 262144) (hok : ∀ c ∈ L, OkC 8 c) (hl : S.length ≤ 4194304) : readAll S = .inr (8, L) := by
  have hlin : linesL S = (pre.length + 1, hdrL 8 L.length) :: numL (pre.length + 1) rest := by
    unfold linesL
    rw [hseg, numL_append, numL_pass pre 0 hpre, List.nil_append, numL, hdr_seen, Nat.zero_add]
    rfl
  have hhead : headR S = (pre.length + 1, 8, (L.length : Int), 0) := by
    obtain ⟨h1, h2, h3⟩ := prs_hdr (v := 8) (n := (L.length : Int)) (by omega) (by omega) (by omega) (by omega)
    unfold headR
    rw [hlin]
    dsimp only
    rw [h1, h2, h3]
    rfl
  have hws : (wordsS S (pre.length + 1)).map Prod.snd = tw L := by
    unfold wordsS
    rw [hlin, List.flatMap_cons, show wordsOf (pre.length + 1) (pre.length + 1, hdrL 8 L.length) = [] from if_pos (Nat.le_refl _), List.nil_append, words_cw _ _ (Nat.le_refl _), hcw]
  unfold readAll
  rw [if_neg (by omega), hhead]
  dsimp only
  rw [if_pos rfl, readW_tw (by omega) (Int.le_refl _) hok hws]
  dsimp only
  rw [if_neg (by omega)]
theorem read_spaces {L : List (List Int)} {pre E : List (List UInt8)} (hpre : ∀ x ∈ pre, (10 : UInt8) ∉ x ∧ passB x = true) (hE : (E.flatMap fun e => cw (segs 10 e)) = tw L) (hL : L.length ≤ 262144) (hok : ∀ c ∈ L, OkC 8 c) (hl : (Lib.join (pre ++ hdrL 8 L.length :: E) [10]).length ≤ 4194304) : readAll (Lib.join (pre ++ hdrL 8 L.length :: E) [10]) = .inr (8, L) := by
  refine read_by_words (pre := pre) (rest := E.flatMap (segs 10)) ?_ (fun x hx => (hpre x hx).2) (by rw [cw_flat]; exact hE) hL hok hl
  rw [segs_flat 10 _ (by simp), List.flatMap_append, List.flatMap_cons, segs_miss (hdr_free _ _)]
  congr 1
  have key : ∀ (p : List (List UInt8)), (∀ x ∈ p, (10 : UInt8) ∉ x) → p.flatMap (segs 10) = p := fun p hp => by
    induction p with
    | nil => rfl
    | cons x p ih => rw [List.flatMap_cons, segs_miss (hp x (by simp)), ih fun y hy => hp y (by simp [hy])]; rfl
  exact key pre fun x hx => (hpre x hx).1
/-- Words that stand alone. -/
structure GoodW (w : List UInt8) : Prop where
  ne : w ≠ []
  n10 : (10 : UInt8) ∉ w
  n32 : (32 : UInt8) ∉ w
  n99 : w.head? ≠ some 99
theorem good_pass {w t : List UInt8} (h : GoodW w) : passB (w ++ t) = false := by
  obtain ⟨b, hb⟩ := List.exists_mem_of_ne_nil _ h.ne
  refine not_passed (b := b) (by simp [hb]) (fun e => h.n32 (e ▸ hb)) ?_
  have := h.n99
  cases w with
  | nil => exact absurd rfl h.ne
  | cons c w => exact this
theorem cw_good : ∀ {ws : List (List UInt8)}, (∀ w ∈ ws, GoodW w) → cw ws = ws
  | [], _ => rfl
  | w :: ws, h => by
    have hw := h w (by simp)
    show cw ([w] ++ ws) = _
    rw [cw_append, cw_good (ws := ws) fun x hx => h x (by simp [hx])]
    have hp := good_pass (t := []) hw
    rw [List.append_nil] at hp
    unfold cw
    rw [List.flatMap_cons, List.flatMap_nil, List.append_nil, hp, if_neg (by decide), segs_miss hw.n32, List.filter_cons, if_pos (decide_eq_true hw.ne)]
    rfl
theorem sep_blank : ∀ {ws : List (List UInt8)}, ws ≠ [] → (∀ w ∈ ws, GoodW w) → (segs 32 (Lib.join ws [32, 32])).filter (fun x => decide (x ≠ [])) = ws ∧ (10 : UInt8) ∉ Lib.join ws [32, 32]
  | [], h, _ => absurd rfl h
  | [w], _, h => by
    have hw := h w (by simp)
    rw [Lib.join_one, segs_miss hw.n32, List.filter_cons, if_pos (decide_eq_true hw.ne)]
    exact ⟨rfl, hw.n10⟩
  | w :: y :: r, _, h => by
    have hw := h w (by simp)
    obtain ⟨h1, h2⟩ := sep_blank (ws := y :: r) (by simp) fun x hx => h x (by simp [hx])
    rw [join_two]
    refine ⟨?_, ?_⟩
    · show (segs 32 (w ++ 32 :: ([] ++ 32 :: Lib.join (y :: r) [32, 32]))).filter _ = _
      rw [segs_hit _ hw.n32, segs_hit _ (by simp), List.filter_cons, if_pos (decide_eq_true hw.ne), List.filter_cons, if_neg (by decide), h1]
    · have := hw.n10
      simp only [List.mem_append, List.mem_cons, List.not_mem_nil, or_false, not_or]
      exact ⟨this, ⟨by decide, by decide⟩, h2⟩
/-- What is put in the place of a blank. -/
def seps : List (List UInt8) := [[32, 32], [10], [10, 32, 10]]
theorem sep_lines : ∀ {ws : List (List UInt8)}, ws ≠ [] → (∀ w ∈ ws, GoodW w) → cw (segs 10 (Lib.join ws [10, 32, 10])) = ws
  | [], h, _ => absurd rfl h
  | [w], _, h => by
    have hw := h w (by simp)
    rw [Lib.join_one, segs_miss hw.n10]
    exact cw_good (ws := [w]) (by simpa using hw)
  | w :: y :: r, _, h => by
    have hw := h w (by simp)
    have ih := sep_lines (ws := y :: r) (by simp) fun x hx => h x (by simp [hx])
    rw [join_two]
    show cw (segs 10 (w ++ 10 :: ([32] ++ 10 :: Lib.join (y :: r) [10, 32, 10]))) = _
    rw [segs_hit _ hw.n10, segs_hit _ (by decide)]
    show cw ([w] ++ ([[32]] ++ segs 10 (Lib.join (y :: r) [10, 32, 10]))) = _
    rw [cw_append, cw_append, ih, cw_good (ws := [w]) (by simpa using hw), show cw [[32]] = [] by decide]
    rfl
theorem rep_words {ws : List (List UInt8)} {sep : List UInt8} (hs : sep ∈ seps) (hne : ws ≠ []) (h : ∀ w ∈ ws, GoodW w) : cw (segs 10 (Lib.join ws sep)) = ws := by
  simp only [seps, List.mem_cons, List.not_mem_nil, or_false] at hs
  rcases hs with rfl | rfl | rfl
  · obtain ⟨h1, h2⟩ := sep_blank hne h
    rw [segs_miss h2]
    unfold cw
    rw [List.flatMap_cons, List.flatMap_nil, List.append_nil]
    have hp : passB (Lib.join ws [32, 32]) = false := by
      cases ws with
      | nil => exact absurd rfl hne
      | cons w r =>
        have hw := h w (by simp)
        cases r with
        | nil => rw [Lib.join_one]; have := good_pass (t := []) hw; rwa [List.append_nil] at this
        | cons y r => rw [join_two]; exact good_pass hw
    rw [hp, if_neg (by decide), h1]
  · rw [segs_join 10 _ hne fun x hx => (h x hx).n10]
    exact cw_good h
  · exact sep_lines hne h
theorem good_words {c : List Int} (h : ∀ l ∈ c, litB l = true) : ∀ w ∈ c.map textL ++ [[48]], GoodW w := fun w hw => by
  rcases List.mem_append.1 hw with hw | hw
  · obtain ⟨l, hl, rfl⟩ := List.mem_map.1 hw
    exact ⟨text_not (h l hl), text_free (by decide) (by decide) l, text_free (by decide) (by decide) l, fun e => text_free (by decide) (by decide) l (List.mem_of_mem_head? e)⟩
  · rw [List.mem_singleton.1 hw]
    exact ⟨by decide, by decide, by decide, by decide⟩
/-- A line with other blanks. -/
theorem rep_line {y : List UInt8} {L : List (List Int)} (hok : ∀ c ∈ L, OkC 8 c) (hy : y ∈ L.map lineL ++ [[]]) {sep : List UInt8} (hs : sep ∈ seps) : cw (segs 10 (Lib.replaceAll y [32] sep)) = cw [y] ∧ (Lib.replaceAll y [32] sep).length ≤ 3 * (y.length + 1) := by
  have hn : sep ≠ [32] := by simp only [seps, List.mem_cons, List.not_mem_nil, or_false] at hs; rcases hs with rfl | rfl | rfl <;> decide
  have hsl : sep.length ≤ 3 := by simp only [seps, List.mem_cons, List.not_mem_nil, or_false] at hs; rcases hs with rfl | rfl | rfl <;> decide
  rw [replaceAll_segs 32 sep y hn]
  refine ⟨?_, ?_⟩
  · rcases List.mem_append.1 hy with hy | hy
    · obtain ⟨c, hc, rfl⟩ := List.mem_map.1 hy
      have hl : ∀ l ∈ c, litB l = true := fun l hl => ((hok c hc).2 l hl).1
      rw [segs_line, rep_words hs (by simp) (good_words hl), cw_line hl]
    · rw [List.mem_singleton.1 hy]
      rw [show segs 32 [] = [[]] from rfl, Lib.join_one]
      rfl
  · have h1 := join_short sep (segs 32 y)
    have h2 := segs_sum 32 y
    have h3 : ∀ l : List (List UInt8), (l.map fun x => x.length + sep.length).sum ≤ 3 * (l.map fun x => x.length + 1).sum := fun l => by
      induction l with
      | nil => simp
      | cons x l ih => rw [List.map_cons, List.sum_cons, List.map_cons, List.sum_cons]; omega
    have := h3 (segs 32 y)
    omega
/-- All clauses in one line. -/
theorem read_one {L : List (List Int)} (hL : L.length ≤ 262144) (hok : ∀ c ∈ L, OkC 8 c) (hl : (hdrL 8 L.length ++ [10] ++ Lib.join (L.map lineL ++ [[]]) [32]).length ≤ 4194304) : readAll (hdrL 8 L.length ++ [10] ++ Lib.join (L.map lineL ++ [[]]) [32]) = .inr (8, L) := by
  obtain ⟨x, hx⟩ : ∃ x, Lib.join (L.map lineL ++ [[]]) [32] = x := ⟨_, rfl⟩
  have hfree : (10 : UInt8) ∉ x := by
    have key : ∀ ls : List (List UInt8), (∀ y ∈ ls, (10 : UInt8) ∉ y) → (10 : UInt8) ∉ Lib.join ls [32] := fun ls h => by
      induction ls with
      | nil => simp [Lib.join, List.intercalate]
      | cons a r ih =>
        cases r with
        | nil => rw [Lib.join_one]; exact h a (by simp)
        | cons b r =>
          rw [join_two]
          have h1 := h a (by simp)
          have h2 := ih fun y hy => h y (by simp [hy])
          simp only [List.mem_append, List.mem_cons, List.not_mem_nil, or_false, not_or]
          exact ⟨h1, by decide, h2⟩
    rw [← hx]
    refine key _ fun y hy => ?_
    rcases List.mem_append.1 hy with hy | hy
    · obtain ⟨c, -, rfl⟩ := List.mem_map.1 hy; exact line_free c
    · rw [List.mem_singleton.1 hy]; simp
  have hseg : segs 10 (hdrL 8 L.length ++ [10] ++ x) = [] ++ hdrL 8 L.length :: [x] := by
    rw [List.append_assoc, List.nil_append]
    exact (segs_hit x (hdr_free _ _)).trans (by rw [segs_miss hfree])
  rw [hx] at hl ⊢
  refine read_by_words hseg (by simp) ?_ hL hok hl
  cases L with
  | nil =>
    rw [List.map_nil, List.nil_append, Lib.join_one] at hx
    subst hx
    rfl
  | cons c L =>
    have hlc : ∀ c' ∈ c :: L, ∀ l ∈ c', litB l = true := fun c' hc l hl => ((hok c' hc).2 l hl).1
    have hp : passB x = false := by
      have e : ∃ t, x = lineL c ++ t := by
        rw [← hx, List.map_cons, List.cons_append]
        cases hr : L.map lineL ++ [[]] with
        | nil => simp at hr
        | cons y r => exact ⟨_, join_two _ _ _ _⟩
      obtain ⟨t, rfl⟩ := e
      refine not_passed (b := 48) (by unfold lineL; simp) (by decide) (fun e => ?_)
      have hm : (99 : UInt8) ∈ lineL c := by
        have hne : lineL c ≠ [] := by unfold lineL; simp
        cases hlc' : lineL c with
        | nil => exact absurd hlc' hne
        | cons a r => rw [hlc'] at e; injection e with e; rw [← e]; simp
      unfold lineL wordsL at hm
      simp only [List.mem_append, List.mem_flatMap, List.mem_cons, List.not_mem_nil, or_false] at hm
      rcases hm with ⟨y, -, h | h⟩ | h
      · exact text_free (by decide) (by decide) y h
      · exact absurd h (by decide)
      · exact absurd h (by decide)
    unfold cw
    rw [List.flatMap_cons, List.flatMap_nil, List.append_nil, hp, if_neg (by decide), ← hx, segs_flat 32 _ (by simp)]
    have key : ∀ M : List (List Int), (∀ c' ∈ M, ∀ l ∈ c', litB l = true) → ((M.map lineL ++ [[]]).flatMap (segs 32)).filter (fun x => decide (x ≠ [])) = tw M := fun M hM => by
      induction M with
      | nil => rfl
      | cons a M ih =>
        rw [List.map_cons, List.cons_append, List.flatMap_cons, List.filter_append, ih fun x hx => hM x (by simp [hx]), segs_line, filter_words (hM a (by simp))]
        rfl
    exact key _ hlc
end Go.Proofs.YtiicffceopiooaaGreatDoor.dimacsSpaces
namespace Go.Proofs.YtiicffceopiooaaGreatDoor.dimacsSpaces
open Go.RowKit Go.ChangeAt Go.ChangeShapes Go.WideShapes Go.Shelf Go.Sort

theorem infoStr : (Tryz.prog.info? 9).map (fun i => (i.zero, i.size, i.bytes)) = some (some (.string ⟨#[]⟩), 1, 16) := by kernel_rfl
/-- A row of n texts O: without room, in a block of whomever, or a row of the law's own. -/
def Ot (B : Nat) (W : World) (v : Value) (O : List (List UInt8)) (n : Nat) : Prop := O.length = n ∧ ∃ g cap, v = .slice (some ⟨g, 0, none⟩) n cap ∧ n ≤ cap ∧ g < W.heap.size ∧ (∀ (j : Nat) x, O[j]? = some x → W.cell? ⟨g, j, none⟩ = some (str x)) ∧ (cap = n ∨ W.ownsRow B 9 1 v n (O.map str))
theorem Ot.shape {B : Nat} {W : World} {v : Value} {O : List (List UInt8)} {n : Nat} (h : Ot B W v O n) : ∃ g cap, v = .slice (some ⟨g, 0, none⟩) n cap ∧ n ≤ cap ∧ g < W.heap.size ∧ ∀ (j : Nat) x, O[j]? = some x → W.cell? ⟨g, j, none⟩ = some (str x) := by
  obtain ⟨-, g, cap, h1, h2, h3, h4, -⟩ := h
  exact ⟨g, cap, h1, h2, h3, h4⟩
theorem Ot.cells {B : Nat} {W : World} {g cap : Nat} {O : List (List UInt8)} {n : Nat} (h : Ot B W (.slice (some ⟨g, 0, none⟩) n cap) O n) : ∀ (j : Nat) x, O[j]? = some x → W.cell? ⟨g, j, none⟩ = some (str x) := by
  obtain ⟨-, g', cap', e, -, -, h4, -⟩ := h
  injection e with e1 _ _
  injection e1 with e1
  injection e1 with e1 _ _
  subst e1
  exact h4
theorem Ot.on {B : Nat} {W W' : World} {v : Value} {O : List (List UInt8)} {n : Nat} (h : Ot B W v O n) (hb : Below W.heap.size W W') : Ot B W' v O n := by
  obtain ⟨h0, g, cap, h1, h2, h3, h4, h5⟩ := h
  exact ⟨h0, g, cap, h1, h2, Nat.lt_of_lt_of_le h3 hb.size, fun j x hx => (hb.cell (p := ⟨g, j, none⟩) h3).trans (h4 j x hx), h5.imp id fun h => owns_on0 h hb⟩
theorem row_cells {W : World} {B g n cap : Nat} {T : TypeId} {Ls : List (List UInt8)} (hn : Ls.length = n) (h : W.ownsRow B T 1 (.slice (some ⟨g, 0, none⟩) n cap) n (Ls.map str)) : ∀ (j : Nat) x, Ls[j]? = some x → W.cell? ⟨g, 0 + j, none⟩ = some (str x) := fun j x hx => by
  have hj := (List.getElem?_eq_some_iff.1 hx).1
  rw [Nat.zero_add, h.cellAt j (by omega), List.getElem?_map, hx]; rfl
theorem whole_cells {W : World} {b : Nat} {T : TypeId} {Ls : List (List UInt8)} (h : Whole W b T (Ls.map str).toArray) : ∀ (j : Nat) x, Ls[j]? = some x → W.cell? ⟨b, 0 + j, none⟩ = some (str x) := fun j x hx => by
  rw [Nat.zero_add, h.cell j]
  simp [hx]
theorem ot_own {B : Nat} {W : World} {v : Value} {O : List (List UInt8)} {n : Nat} (hn : O.length = n) (h1 : 1 ≤ n) (h : W.ownsRow B 9 1 v n (O.map str)) : Ot B W v O n := by
  have h' := h
  rcases h'.2 with ⟨-, h0⟩ | ⟨g, cap, cur, rfl, -, -, hc, -⟩
  · omega
  · exact ⟨hn, g, cap, rfl, hc, (h.lt g rfl).2, fun j x hx => by have := row_cells hn h j x hx; rwa [Nat.zero_add] at this, .inr h⟩
set_option maxRecDepth 100000 in
theorem wpList_append_ot {w : World} {ops : Array Oper} {rest : List Oper} {o : Oper} {a : Act} {Q : Exit → Act → World → Prop} (hgd : o.guard = none) (s x : Operand)
    (ho : o.op = .call { callee := .builtin .append, args := #[s, x], argTypes := #[29, 29] }) {B : Nat} (hB : B ≤ w.heap.size) {v : Value} {O : List (List UInt8)} {n : Nat} (hs : a.eval s = v) (hO : Ot B w v O n)
    {g m c : Nat} {R : List (List UInt8)} (hx : a.eval x = .slice (some ⟨g, 0, none⟩) m c) (hm : R.length = m) (h1 : 1 ≤ m) (hnews : ∀ (j : Nat) u, R[j]? = some u → w.cell? ⟨g, j, none⟩ = some (str u)) (hl : n + m ≤ 1000)
    (h : ∀ v' w', Ot B w' v' (O ++ R) (n + m) → Below B w w' → wpList Tryz.prog ops Q rest (a.put o.dst v') w') : wpList Tryz.prog ops Q (o :: rest) a w := by
  obtain ⟨i0, hi, hz0, hz1, hz2⟩ := info_parts infoStr
  obtain ⟨hn, g0, cap, rfl, hcap, hg0, hcell, hown⟩ := hO
  have hRl : (R.map str).length = m * 1 := by rw [List.length_map, hm, Nat.mul_one]
  have hRc : ∀ (j : Nat) (u : Value), (R.map str)[j]? = some u → w.cell? ((⟨g, 0, none⟩ : Addr).add j) = some u := fun j u hu => by
    rw [List.getElem?_map] at hu
    obtain ⟨y, hy, rfl⟩ := Option.map_eq_some_iff.1 hu
    have := hnews j y hy
    rw [addr_add, Nat.zero_add]
    exact this
  have hR1 : ∀ u ∈ R.map str, u.oneCell' = true := fun u hu => by obtain ⟨y, -, rfl⟩ := List.mem_map.1 hu; rfl
  rcases hown with rfl | hown
  · refine wpList_append_grows w hgd s x 29 ho 9 i0 _ 1 16 Tryz.underlying29 hi hz0 hz1 hz2 (by rfl) (by decide) (some ⟨g0, 0, none⟩) cap cap (O.map str) hs (fun e => by cases e) (by rw [List.length_map, hn, Nat.mul_one]) (fun b hb j u hu => ?_) ⟨g, 0, none⟩ m c (R.map str) hx hRl hRc hR1 (by omega) (by unfold maxLen; omega) (by omega) ?_
    · injection hb with hb
      subst hb
      rw [List.getElem?_map] at hu
      obtain ⟨y, hy, rfl⟩ := Option.map_eq_some_iff.1 hu
      rw [addr_add, Nat.zero_add]
      exact hcell j y hy
    · intro v' w' hr hg
      rw [← List.map_append] at hr
      exact h v' w' (ot_own (by rw [List.length_append, hn, hm]) (by omega) (hr.mono hB)) ((Below.refl B w).grown hg hB (fun k e => by cases e))
  · refine wpList_append_own w hgd s x 29 ho B 9 i0 _ 1 16 Tryz.underlying29 hi hz0 hz1 hz2 (by rfl) (by decide) _ n (O.map str) hs hown ⟨g, 0, none⟩ m c (R.map str) hx hRl hRc hR1 (by unfold maxLen; omega) (by omega) hB ?_
    intro v' w' hr hg _
    rw [← List.map_append] at hr
    exact h v' w' (ot_own (by rw [List.length_append, hn, hm]) (by omega) hr) ((Below.refl B w).grown hg hB (fun k e => (hown.lt k e).1))
/-- ReplaceAll of blanks. -/
theorem rep_any (y sep : List UInt8) (hy : y.length ≤ 20000) (hs : sep.length ≤ 3) (w : World) (hm : ∃ m, w.cell? ⟨2, 0, none⟩ = some (.int .i64 m)) :
    Calls Tryz.prog 25 #[str y, str [32], str sep] w fun e w' => e = .returned (str (Lib.replaceAll y [32] sep)) ∧ Below w.heap.size w w' := by
  obtain ⟨m, hm⟩ := hm
  have hc := Lib.countB_le ⟨[32].toArray⟩ (by rw [str_size]; decide) y.length ⟨y.toArray⟩ (by rw [str_size]; exact Nat.le_refl _)
  rw [str_size] at hc
  have hmul : Lib.countB ⟨y.toArray⟩ ⟨[32].toArray⟩ * sep.length ≤ 20000 * 3 := Nat.mul_le_mul (by omega) hs
  have hb : y.length + Lib.countB ⟨y.toArray⟩ ⟨[32].toArray⟩ * sep.length ≤ 140737488355328 := by omega
  have hz : (⟨y.toArray⟩ : ByteArray).size < 4294967281 := by rw [str_size]; omega
  exact (Tryz.strings_ReplaceAll_f25 ⟨y.toArray⟩ ⟨[32].toArray⟩ ⟨sep.toArray⟩ m w hz hm (by rw [str_size]; decide) (by rw [str_size, str_size]; exact hb)).mono fun _ _ ⟨he, hw⟩ => ⟨by rw [he, str_list, str_list, str_list], hw⟩
end Go.Proofs.YtiicffceopiooaaGreatDoor.dimacsSpaces
namespace Go.Proofs.YtiicffceopiooaaGreatDoor.dimacsSpaces
open Go.RowKit Go.ChangeAt Go.ChangeShapes Go.WideShapes Go.Shelf Go.Sort

/-- Lines that are put in. -/
def exL : List (List UInt8) := [[99, 32, 49, 32, 120, 32, 48], [], [32, 32, 32], [99]]
def preL : List (List UInt8) := [[99, 32, 112, 32, 99, 110, 102, 32, 49, 32, 49], [32]]
theorem exL_words : (exL.flatMap fun e => cw (segs 10 e)) = [] := by decide +kernel
theorem preL_pass : ∀ x ∈ preL, (10 : UInt8) ∉ x ∧ passB x = true := by decide +kernel
theorem sp_step {Ls E : List (List UInt8)} {k : Nat} {y y' : List UInt8} (hy : Ls[k]? = some y) (h : (E.flatMap fun e => cw (segs 10 e)) = cw (Ls.take k)) (h' : cw (segs 10 y') = cw [y]) : ((E ++ [y']).flatMap fun e => cw (segs 10 e)) = cw (Ls.take (k + 1)) := by
  rw [List.flatMap_append, h, List.flatMap_cons, List.flatMap_nil, List.append_nil, h', List.take_add_one, hy, cw_append]
  rfl
theorem sp_extra {Ls E : List (List UInt8)} {k : Nat} (h : (E.flatMap fun e => cw (segs 10 e)) = cw (Ls.take k)) : ((E ++ exL).flatMap fun e => cw (segs 10 e)) = cw (Ls.take k) := by
  rw [List.flatMap_append, h, exL_words, List.append_nil]
/-- Between two lines. -/
def SpRel (w3 : World) (H : List UInt8) (Ls : List (List UInt8)) (N : Nat) (v i : Value) (wr : World) : Prop := ∃ (k n : Nat) (E : List (List UInt8)), k ≤ N ∧ i = .int .i64 k ∧ Ot w3.heap.size wr v (H :: E) n ∧ (E.flatMap fun e => cw (segs 10 e)) = cw (Ls.take k) ∧ n ≤ 1 + 5 * k ∧ ((H :: E).map fun x => x.length + 1).sum ≤ 200 + 1600 * k ∧ Below w3.heap.size w3 wr
theorem sum_one (E : List (List UInt8)) (H y : List UInt8) : ((H :: (E ++ [y])).map fun x => x.length + 1).sum = ((H :: E).map fun x => x.length + 1).sum + (y.length + 1) := by simp; omega
theorem sum_extra (E : List (List UInt8)) (H : List UInt8) : ((H :: (E ++ exL)).map fun x => x.length + 1).sum = ((H :: E).map fun x => x.length + 1).sum + 15 := by simp [exL]; omega
theorem sp_len {P E : List (List UInt8)} {H : List UInt8} (hp : (P.map fun x => x.length + 1).sum ≤ 20) (hs : ((H :: E).map fun x => x.length + 1).sum ≤ 60000) : (Lib.join (P ++ H :: E) [10]).length ≤ 100000 := by
  have h := join_len 10 (P ++ H :: E)
  rw [List.map_append, List.sum_append] at h
  omega
theorem sp_join {B n : Nat} {go co : Nat} {O : List (List UInt8)} {J : List UInt8} {w : World} (h : Ot B w (.slice (some ⟨go, 0, none⟩) n co) O n) (hJ : Lib.join O [10] = J) (hl : J.length ≤ 100000) (hn : n ≤ 1000) (W1 : World) (hb : Below w.heap.size w W1) :
    Calls Tryz.prog 26 #[.slice (some ⟨go, 0, none⟩) n co, str [10]] W1 fun e w' => e = .returned (str J) ∧ Below W1.heap.size W1 w' := by
  subst hJ
  have h' := h.on hb
  obtain ⟨h0, g9, c9, e9, h8, h9, -, -⟩ := id h'
  injection e9 with e9 _ e8
  injection e9 with e9
  injection e9 with e9 _ _
  subst e9 e8
  exact join_any 10 O h0 W1 (fun j x hx => by rw [Nat.zero_add]; exact h'.cells j x hx) h9 (by omega) h8 (by omega)
/-- The box of a formula, while it is empty. -/
abbrev Zb : Obj := .cells #[.int .i64 0, .slice none 0 0] 24
theorem sp_read {W1 : World} (he : Env W1) (M R : List UInt8) (hM : M.length ≤ 100) (hR : R.length ≤ 20000) {V : Int} {L : List (List Int)} (hr : readAll (M ++ [10] ++ R) = .inr (V, L)) :
    Calls Tryz.prog 17 #[.string ((⟨M.toArray⟩ : ByteArray) ++ ⟨#[10]⟩ ++ ⟨R.toArray⟩)] W1 fun e w' => ∃ A c, e = .returned (.tuple #[.agg #[.int .i64 V, .slice A L.length c], .int .i64 0, .int .i64 0]) ∧ OwnRows 38 W1.heap.size w' (.slice A L.length c) (cellsR L) ∧ Below W1.heap.size W1 w' := by
  rw [show (⟨#[10]⟩ : ByteArray) = ⟨[10].toArray⟩ from rfl, str_app, str_app]
  refine (callsIn_wide.1 (dmRead_any (M ++ [10] ++ R) (by simp only [List.length_append, List.length_cons, List.length_nil]; omega) W1 he)).mono fun e w' ⟨hr', hb⟩ => ?_
  rw [hr] at hr'
  obtain ⟨v, h1, ho⟩ := hr'
  obtain ⟨A, c, hv⟩ := OwnRows.len ho
  have hl : (cellsR L).length = L.length := by simp [cellsR]
  rw [hl] at hv
  subst hv
  exact ⟨A, c, h1, ho, hb⟩
theorem sp_store {w X w14 : World} {fs : List (Value × List (List Int))} {ss : List (Nat × Int × Value)} {v : Value} {L : List (List Int)} {B : Nat} (hD : Dm w X fs ss) (hb : Below X.heap.size X w14) (hW : Whole w14 X.heap.size 24 #[.int .i64 0, .slice none 0 0]) (ho : OwnRows 38 B w14 v (cellsR L)) (hB : X.heap.size < B) :
    Dm w ((w14.setCell ⟨X.heap.size, 0, none⟩ (.int .i64 8)).setCell ⟨X.heap.size, 1, none⟩ v) ((v, L) :: fs) ((X.heap.size, 8, v) :: ss) := by
  have hb' := (hb.setCell (p := ⟨X.heap.size, 0, none⟩) (Nat.le_refl _) (.int .i64 8)).setCell (p := ⟨X.heap.size, 1, none⟩) (Nat.le_refl _) v
  have ho' := ho.kept (K := fun i => i = X.heap.size) (((Keeps.refl (fun i => i = X.heap.size) w14).setCell (p := ⟨X.heap.size, 0, none⟩) (.inl rfl) (.int .i64 8)).setCell (p := ⟨X.heap.size, 1, none⟩) (.inl rfl) v) (fun i h => by omega)
  exact ((hD.on hb').addF (OwnL.rowsL (L := L) ho')).addS ((hW.store 0 (.int .i64 8)).store 1 v)
theorem sp_cells {w : World} {g : Nat} {T : TypeId} {x y : Value} (h : Whole w g T #[x, y]) : w.cell? ⟨g, 0, none⟩ = some x ∧ w.cell? ⟨g, 1, none⟩ = some y ∧ w.frozen? ⟨g, 0, none⟩ = false ∧ w.frozen? ⟨g, 1, none⟩ = false ∧ ∀ u, (w.setCell ⟨g, 0, none⟩ u).cell? ⟨g, 1, none⟩ = some y ∧ (w.setCell ⟨g, 0, none⟩ u).frozen? ⟨g, 1, none⟩ = false :=
  ⟨h.cell 0, h.cell 1, h.frozen 0, h.frozen 1, fun u => ⟨(h.store 0 u).cell 1, (h.store 0 u).frozen 1⟩⟩
theorem news_list (w : World) (T : TypeId) (R : List (List UInt8)) : ∀ (j : Nat) u, R[j]? = some u → (w.alloc (.cells (R.map str).toArray T)).cell? ⟨w.heap.size, j, none⟩ = some (str u) := fun j u hu => by
  have := whole_cells (Whole.made w T (R.map str).toArray) j u hu
  rwa [Nat.zero_add] at this
theorem line_small {zs : List Int} (h : Cl8 zs) : (lineL zs).length ≤ 500 := by
  have h1 := words_len zs
  have h2 := h.1
  unfold lineL
  rw [List.length_append, List.length_singleton]
  omega
theorem sp_facts (zss : List (List Int)) : ∃ L T H Ls, madeF zss = L ∧ L.length ≤ 30 ∧ (∀ zs ∈ L, zs.length ≤ 1000000) ∧ writeT 8 L = (T, 0) ∧ T.length ≤ 20000 ∧ Lib.hasSuffix T [10] = true ∧ segs 10 T = H :: Ls ∧ Ls.length = L.length + 1 ∧ H.length ≤ 100 ∧
    (∀ y ∈ Ls, y.length ≤ 500 ∧ cw (segs 10 y) = cw [y] ∧ ∀ sep ∈ seps, cw (segs 10 (Lib.replaceAll y [32] sep)) = cw [y] ∧ (Lib.replaceAll y [32] sep).length ≤ 1503) ∧
    (∀ pre E : List (List UInt8), (∀ x ∈ pre, (10 : UInt8) ∉ x ∧ passB x = true) → (E.flatMap fun e => cw (segs 10 e)) = cw Ls → (Lib.join (pre ++ H :: E) [10]).length ≤ 4194304 → (rsV (Lib.join (pre ++ H :: E) [10]) = 8 ∧ rsL (Lib.join (pre ++ H :: E) [10]) = L ∧ rsN (Lib.join (pre ++ H :: E) [10]) = 0 ∧ rsE (Lib.join (pre ++ H :: E) [10]) = 0) ∧ canT (Lib.join (pre ++ H :: E) [10]) = (T, 0, 0)) ∧
    (Lib.join Ls [32]).length ≤ 20000 ∧ readAll (H ++ [10] ++ Lib.join Ls [32]) = .inr (8, L) := by
  have hcl := madeF_cl (zss := zss)
  have hok : ∀ c ∈ madeF zss, OkC 8 c := fun c hc => cl_okC (hcl c hc)
  have hlen := madeF_len zss
  have hT := made_len zss
  have hw := made_write zss
  have hsh := short_made (zss := zss)
  obtain ⟨L, hL⟩ : ∃ L, madeF zss = L := ⟨_, rfl⟩
  rw [hL] at hok hlen hT hw hsh hcl
  have hH := hdr_len (v := 8) (n := (L.length : Int)) (by omega) (by omega) (by omega) (by omega)
  have hsum := segs_sum 10 (textF 8 L)
  rw [segs_text, List.map_cons, List.sum_cons] at hsum
  have hjl := join_len 32 (L.map lineL ++ [[]])
  have hcwl : cw (L.map lineL ++ [[]]) = tw L := by
    rw [cw_append, cw_lines fun c hc l hl => ((hok c hc).2 l hl).1, show cw [[]] = [] by decide, List.append_nil]
  refine ⟨L, textF 8 L, hdrL 8 L.length, L.map lineL ++ [[]], hL, hlen, hsh, hw, hT, ?_, segs_text 8 L, by simp, hH, fun y hy => ?_, fun pre E hp hE hl => ?_, by omega, ?_⟩
  · rcases List.eq_nil_or_concat L with rfl | ⟨L', c, rfl⟩
    · unfold textF Lib.hasSuffix linesF
      simp
    · rw [List.concat_eq_append]
      unfold textF Lib.hasSuffix
      rw [linesF_snoc]
      simp only [List.append_assoc, List.isSuffixOf_iff_suffix]
      exact ⟨hdrL 8 ((L' ++ [c]).length : Int) ++ ([10] ++ (linesF L' ++ lineL c)), by simp only [List.append_assoc]⟩
  · have hyl : y.length ≤ 500 := by
      rcases List.mem_append.1 hy with hy | hy
      · obtain ⟨c, hc, rfl⟩ := List.mem_map.1 hy
        exact line_small (hcl c hc)
      · rw [List.mem_singleton.1 hy]; simp
    refine ⟨hyl, ?_, fun sep hs => ?_⟩
    · rw [segs_miss]
      exact segs_free (l := textF 8 L) (by rw [segs_text]; exact List.mem_cons_of_mem _ hy)
    · obtain ⟨h1, h2⟩ := rep_line hok hy hs
      exact ⟨h1, by omega⟩
  · have h := read_spaces hp (hE.trans hcwl) (by omega) hok hl
    refine ⟨rd_ok h, ?_⟩
    unfold canT
    rw [h]
    dsimp only
    rw [hw]
  · exact (read_one (by omega) hok (by simp only [List.length_append, List.length_cons, List.length_nil]; omega))
set_option maxRecDepth 100000 in
set_option maxHeartbeats 4000000 in
theorem dimacsSpaces_walk (v0 : Value) (z0 : List (List Int)) (_hl0 : z0.length ≤ maxLen) (hw0 : ∀ zs ∈ z0, zs.length ≤ maxLen ∧ ∀ x ∈ zs, (Lit.int .u8 x).wf = true) (v1 : Value) (z1 : List Int) (hl1 : z1.length ≤ maxLen) (hw1 : ∀ x ∈ z1, (Lit.int .u8 x).wf = true)
    (W : World) (hz0 : Rows2 .u8 W.heap.size W v0 z0) (hz1 : IntsK .u8 W.heap.size W v1 z1) (he : Env W) (hm : ∃ m, W.cell? ⟨2, 0, none⟩ = some (.int .i64 m)) :
    Calls Tryz.prog 7 #[v0, v1] W fun e W' => e = .returned (.bool true) ∧ Below W.heap.size W W' := by
  have m0 := fun w fs ss h => dm_made (v := v0) (w := W) (W := w) (fs := fs) (ss := ss) h hw0 hz0
  obtain ⟨L, T, H, Ls, eL, hn, hz, hw, hT, hsuf, hseg, hLs, hHl, hF1, hF2, hjl, hone⟩ := sp_facts z0
  simp only [eL] at m0
  have hmx := fun (w : World) (hb : Below W.heap.size W w) => (show ∃ m, w.cell? ⟨2, 0, none⟩ = some (.int .i64 m) by obtain ⟨m, hm⟩ := hm; exact ⟨m, (hb.cell (World.block_lt_of_cell? _ _ hm)).trans hm⟩)
  have hsp := fun (w : World) (hb : Below W.heap.size W w) => split_any 10 T (by omega) w (hmx w hb)
  rw [hseg] at hsp
  obtain ⟨N, hNn⟩ : ∃ N, Ls.length = N := ⟨_, rfl⟩
  rw [hNn] at hLs
  simp only [List.length_cons, hNn] at hsp
  have hsu := fun w => Tryz.strings_HasSuffix_f23 ⟨T.toArray⟩ ⟨[10].toArray⟩ w (by rw [str_size]; omega)
  simp only [hsuf] at hsu
  obtain ⟨A1, cp1, rfl, hat⟩ := intsK_shape hz1
  obtain ⟨m, hmm⟩ : ∃ m, z1.length = m := ⟨_, rfl⟩
  have hN32 : N ≤ 31 := by omega
  have hN1 : 1 ≤ N := by omega
  have M0 := Lib.hid m0; have HZ := Lib.hid hz; have HW := Lib.hid hw; have HSp := Lib.hid hsp; have HF1 := Lib.hid hF1; have HF2 := Lib.hid hF2; have H0 := Lib.hid (Dm.start W he); have HNn := Lib.hid hNn; have HTl := Lib.hid hT; have HSu := Lib.hid hsu; have HMx := Lib.hid hmx; have HAt := Lib.hid hat; have HMm := Lib.hid hmm; have HWf := Lib.hid hw1; have HOne := Lib.hid hone; have HEnv := Lib.hid he
  rw [hmm] at hl1 ⊢
  clear m0 hz hw hsp hF1 hF2 he hm hw0 eL hT hNn hseg hsu hsuf hmx hat hmm hw1 hone hLs hz1
  obtain ⟨A', c', rfl, -⟩ := Rows2.shape hz0
  clear hz0
  go_enter Tryz.func7, Tryz.ntmps7
  go_wp2_with fail
  refine (M0.out _ _ _ H0.out).mono ?_
  rintro e w1 ⟨A1', c1, rfl, h1⟩
  have h1b := h1.box 8 (.slice A1' L.length c1)
  have H1 := Lib.hid h1b; clear h1 H0 h1b
  go_wp2_with fail
  obtain ⟨g, hg⟩ : ∃ x, w1.heap.size = x := ⟨_, rfl⟩
  obtain ⟨W1, hW1⟩ : ∃ x, w1.alloc (.cells #[.int .i64 8, .slice A1' L.length c1] 24) = x := ⟨_, rfl⟩
  rw [hg, hW1] at H1
  rw [hg, hW1]
  clear hg hW1
  refine (dm_write 8 H1.out (v := .slice A1' L.length c1) (L := L) (by simp) (by omega) HZ.out HW.out).mono ?_
  rintro e w2 ⟨rfl, h2⟩
  have H2 := Lib.hid h2; clear h2 H1
  go_wp2_with fail
  refine (HSu.out _).mono ?_
  rintro e w2' ⟨rfl, hw2'⟩
  obtain rfl : w2' = w2 := hw2'
  go_wp2_with fail
  refine (HSp.out _ H2.out.below).mono ?_
  rintro e w3 ⟨rfl, hw3⟩
  have hW3 : Whole w3 w2'.heap.size 9 ((H :: Ls).map str).toArray := by rw [hw3]; exact Whole.made _ _ _
  have h3 := H2.out.on (show Below w2'.heap.size w2' w3 by rw [hw3]; exact below1a _ _)
  obtain ⟨b, hb⟩ : ∃ b, w2'.heap.size = b := ⟨_, rfl⟩
  rw [hb] at hW3 ⊢
  have H3 := Lib.hid h3; have HW3 := Lib.hid hW3
  have hot : Ot w3.heap.size w3 (.slice (some ⟨b, 0, none⟩) 1 1) [H] 1 := ⟨rfl, b, 1, rfl, Nat.le_refl _, hW3.lt, fun j x hx => by
    have := whole_cells hW3 j x (by
      have hj := (List.getElem?_eq_some_iff.1 hx).1
      obtain rfl : j = 0 := by simpa using hj
      exact hx)
    rwa [Nat.zero_add] at this, .inl rfl⟩
  have HOt := Lib.hid hot
  clear h3 hW3 hw3 H2 hb hot
  go_wp2_with fail
  go_loopw [9, 43] (fun v i wr => SpRel w3 H Ls N v i wr) (fun _ i _ => N - (intOf i).toNat)
  case atStart => exact ⟨0, 1, [], Nat.zero_le _, rfl, HOt.out, rfl, by omega, by simp; omega, Below.refl _ _⟩
  case round =>
    clear HOt
    obtain ⟨k, n, E, hk, rfl, hot, hE, hn5, hsm, hbr⟩ := hrel
    have hot' := hot
    obtain ⟨go, co, rfl, hnc, -, -⟩ := hot'.shape
    clear hot'
    by_cases hlt : k < N
    · obtain ⟨y, hy⟩ : ∃ y, Ls[k]? = some y := ⟨_, List.getElem?_eq_getElem (by have := HNn.out; omega)⟩
      obtain ⟨hyl, hy1, hy2⟩ := HF1.out y (List.mem_of_getElem? hy)
      have cy : wr.cell? ⟨b, 1 + k, none⟩ = some (str y) := by
        have h := whole_cells HW3.out (1 + k) y (by rw [Nat.add_comm, List.getElem?_cons_succ]; exact hy)
        rw [Nat.zero_add] at h
        exact (hbr.cell (p := ⟨b, 1 + k, none⟩) HW3.out.lt).trans h
      have hki : (k : Int) < (N : Int) := by omega
      have hB := hbr.size
      have hbW : Below W.heap.size W wr := (H3.out.on hbr).below
      have HOt := Lib.hid hot; have HE := Lib.hid hE; have HSm := Lib.hid hsm; have HBr := Lib.hid hbr; have HY := Lib.hid hy; have HY1 := Lib.hid hy1; have HY2 := Lib.hid hy2; have HLt := Lib.hid hlt; have HBW := Lib.hid hbW; have HN5 := Lib.hid hn5; have HB := Lib.hid hB
      have hn200 : n ≤ 200 := by omega
      clear hot hE hsm hbr hy hy1 hy2 hbW hn5 hB hlt
      by_cases hm0 : m = 0
      · subst hm0
        go_wp2_with fail
        refine (rep_any y [32, 32] (by omega) (by decide) _ (HMx.out _ (HBW.out.trans ((below1a wr _).mono HBW.out.size)))).mono ?_
        rintro e w6 ⟨rfl, hb6⟩
        obtain ⟨q1, q2⟩ := HY2.out [32, 32] (by simp [seps])
        obtain ⟨y', hy'⟩ : ∃ x, Lib.replaceAll y [32] [32, 32] = x := ⟨_, rfl⟩
        rw [hy'] at q1 q2
        rw [hy']
        have hb6' := (below1a wr _).trans (hb6.mono (below1a wr _).size)
        have HB6 := Lib.hid hb6'; have HQ := Lib.hid (And.intro q1 q2)
        clear hb6 hb6' hy' q1 q2
        go_wp2_with (at_builtin; refine wpList_append_ot rfl _ _ rfl (B := w3.heap.size) (Nat.le_trans HB.out (Nat.le_trans HB6.out.size (by simp))) rfl ((HOt.out.on HB6.out).on (below1a w6 _)) (R := [y']) rfl rfl (by decide) (news_list w6 _ [y']) (by omega) ?_; intro v' w7 hot7 hb7)
        go_roundw
        case rel => exact ⟨k + 1, n + 1, E ++ [y'], HLt.out, by go_num, hot7, sp_step HY.out HE.out HQ.out.1, by have := HN5.out; omega, by rw [sum_one]; have := HSm.out; have := HQ.out.2; omega, ((HBr.out.trans (HB6.out.mono HB.out)).alloc (Nat.le_trans HB.out HB6.out.size) _).trans hb7⟩
        case measure => simp [intOf]; have := HLt.out; omega
      · obtain ⟨p, hp, hpm⟩ : ∃ p : Nat, (k : Int) % (m : Int) = (p : Int) ∧ p < m := ⟨k % m, by omega, Nat.mod_lt _ (by omega)⟩
        have hp' : (k : Int).tmod (m : Int) = (p : Int) := by rw [Int.tmod_eq_emod_of_nonneg (by omega)]; exact hp
        obtain ⟨b1, o1, hA1, hb1, hc1⟩ := HAt.out p (by have := HMm.out; omega)
        subst hA1
        obtain ⟨x, hx⟩ : ∃ x, z1[p]?.getD 0 = x := ⟨_, rfl⟩
        rw [hx] at hc1
        have hxw := u8_wf (HWf.out x (by rw [← hx, List.getElem?_eq_getElem (by have := HMm.out; omega), Option.getD_some]; exact List.getElem_mem _))
        have cx : wr.cell? ⟨b1, o1 + p, none⟩ = some (.int .u8 x) := (HBW.out.cell (p := ⟨b1, o1 + p, none⟩) hb1).trans hc1
        obtain ⟨hx0, hx1⟩ := hxw
        have hm1 : (0 : Int) < (m : Int) := by omega
        have hpm' : (p : Int) < (m : Int) := by omega
        obtain ⟨r3, h3⟩ : ∃ r : Nat, x % 3 = (r : Int) ∧ r < 3 := ⟨(x % 3).toNat, by omega, by omega⟩
        obtain ⟨r5, h5⟩ : ∃ r : Nat, x % 5 = (r : Int) ∧ r < 5 := ⟨(x % 5).toNat, by omega, by omega⟩
        obtain ⟨j3, hj⟩ : ∃ r : Nat, x / 3 % 3 = (r : Int) ∧ r < 3 := ⟨(x / 3 % 3).toNat, by omega, by omega⟩
        obtain ⟨h31, h32⟩ := h3
        obtain ⟨h51, h52⟩ := h5
        obtain ⟨hj1, hj2⟩ := hj
        obtain ⟨sep, hs1, hs2⟩ : ∃ s, seps[j3]? = some s ∧ s ∈ seps := ⟨_, List.getElem?_eq_getElem hj2, List.getElem_mem hj2⟩
        have d3 : [Value.string ⟨#[32, 32]⟩, .string ⟨#[10]⟩, .string ⟨#[10, 32, 10]⟩][j3]? = some (str sep) := by
          show (seps.map str)[j3]? = _
          rw [List.getElem?_map, hs1]; rfl
        have d3' := (List.getElem?_eq_some_iff.1 d3).2
        have hsl : sep.length ≤ 3 := by have h := hs2; simp only [seps, List.mem_cons, List.not_mem_nil, or_false] at h; rcases h with rfl | rfl | rfl <;> decide
        have HS2 := Lib.hid hs2
        clear hs1 hs2 hx hb1 hc1 hp hpm
        have e3 : ((r3 : Int) == 0) = decide (r3 = 0) := by rw [Bool.eq_iff_iff, beq_iff_eq, decide_eq_true_iff]; omega
        have e5 : ((r5 : Int) == 1) = decide (r5 = 1) := by rw [Bool.eq_iff_iff, beq_iff_eq, decide_eq_true_iff]; omega
        by_cases k3 : r3 = 0
        · rw [decide_eq_true k3] at e3
          clear k3
          by_cases k5 : r5 = 1
          · rw [decide_eq_true k5] at e5
            clear k5
            go_wp2_with fail
            refine (rep_any y sep (by omega) (hsl) _ (HMx.out _ (HBW.out.trans ((below1a wr _).mono HBW.out.size)))).mono ?_
            rintro e w6 ⟨rfl, hb6⟩
            obtain ⟨q1, q2⟩ := HY2.out sep (HS2.out)
            obtain ⟨y', hy'⟩ : ∃ x, Lib.replaceAll y [32] sep = x := ⟨_, rfl⟩
            rw [hy'] at q1 q2
            rw [hy']
            have hb6' := (below1a wr _).trans (hb6.mono (below1a wr _).size)
            have HB6 := Lib.hid hb6'; have HQ := Lib.hid (And.intro q1 q2)
            clear hb6 hb6' hy' q1 q2
            go_upto_region 17 with (at_builtin; refine wpList_append_ot rfl _ _ rfl (B := w3.heap.size) (Nat.le_trans HB.out (Nat.le_trans HB6.out.size (by simp))) rfl ((HOt.out.on HB6.out).on (below1a w6 _)) (R := exL) rfl rfl (by decide) (news_list w6 _ exL) (by omega) ?_; intro v' w7 hot7 hb7)
            obtain ⟨g7, cap7, rfl, hc7, -, -⟩ := hot7.shape
            have HO7 := Lib.hid hot7; have HB7 := Lib.hid (((HBr.out.trans (HB6.out.mono HB.out)).alloc (Nat.le_trans HB.out HB6.out.size) (.cells (exL.map str).toArray 9)).trans hb7)
            clear hot7 hb7
            go_wp2_with (at_builtin; refine wpList_append_ot rfl _ _ rfl (B := w3.heap.size) (Nat.le_trans HB7.out.size (by simp)) rfl (HO7.out.on (below1a w7 _)) (R := [y']) rfl rfl (by decide) (news_list w7 _ [y']) (by omega) ?_; intro v8 w8 hot8 hb8)
            go_roundw
            case rel => exact ⟨k + 1, n + 4 + 1, (E ++ exL) ++ [y'], HLt.out, by go_num, hot8, sp_step HY.out (sp_extra HE.out) HQ.out.1, by have := HN5.out; omega, by rw [sum_one, sum_extra]; have := HSm.out; have := HQ.out.2; omega, (HB7.out.alloc HB7.out.size _).trans hb8⟩
            case measure => simp [intOf]; have := HLt.out; omega
          · rw [decide_eq_false k5] at e5
            clear k5
            go_wp2_with fail
            refine (rep_any y sep (by omega) (hsl) _ (HMx.out _ (HBW.out.trans ((below1a wr _).mono HBW.out.size)))).mono ?_
            rintro e w6 ⟨rfl, hb6⟩
            obtain ⟨q1, q2⟩ := HY2.out sep (HS2.out)
            obtain ⟨y', hy'⟩ : ∃ x, Lib.replaceAll y [32] sep = x := ⟨_, rfl⟩
            rw [hy'] at q1 q2
            rw [hy']
            have hb6' := (below1a wr _).trans (hb6.mono (below1a wr _).size)
            have HB6 := Lib.hid hb6'; have HQ := Lib.hid (And.intro q1 q2)
            clear hb6 hb6' hy' q1 q2
            go_wp2_with (at_builtin; refine wpList_append_ot rfl _ _ rfl (B := w3.heap.size) (Nat.le_trans HB.out (Nat.le_trans HB6.out.size (by simp))) rfl ((HOt.out.on HB6.out).on (below1a w6 _)) (R := [y']) rfl rfl (by decide) (news_list w6 _ [y']) (by omega) ?_; intro v' w7 hot7 hb7)
            go_roundw
            case rel => exact ⟨k + 1, n + 1, E ++ [y'], HLt.out, by go_num, hot7, sp_step HY.out HE.out HQ.out.1, by have := HN5.out; omega, by rw [sum_one]; have := HSm.out; have := HQ.out.2; omega, ((HBr.out.trans (HB6.out.mono HB.out)).alloc (Nat.le_trans HB.out HB6.out.size) _).trans hb7⟩
            case measure => simp [intOf]; have := HLt.out; omega
        · rw [decide_eq_false k3] at e3
          clear k3
          by_cases k5 : r5 = 1
          · rw [decide_eq_true k5] at e5
            clear k5
            have HB6 : Hid (Below wr.heap.size wr wr) := Lib.hid (Below.refl _ _)
            have HQ : Hid (cw (segs 10 y) = cw [y] ∧ y.length ≤ 1503) := Lib.hid ⟨HY1.out, by omega⟩
            go_upto_region 17 with (at_builtin; refine wpList_append_ot rfl _ _ rfl (B := w3.heap.size) (Nat.le_trans HB.out (Nat.le_trans HB6.out.size (by simp))) rfl ((HOt.out.on HB6.out).on (below1a wr _)) (R := exL) rfl rfl (by decide) (news_list wr _ exL) (by omega) ?_; intro v' w7 hot7 hb7)
            obtain ⟨g7, cap7, rfl, hc7, -, -⟩ := hot7.shape
            have HO7 := Lib.hid hot7; have HB7 := Lib.hid (((HBr.out.trans (HB6.out.mono HB.out)).alloc (Nat.le_trans HB.out HB6.out.size) (.cells (exL.map str).toArray 9)).trans hb7)
            clear hot7 hb7
            go_wp2_with (at_builtin; refine wpList_append_ot rfl _ _ rfl (B := w3.heap.size) (Nat.le_trans HB7.out.size (by simp)) rfl (HO7.out.on (below1a w7 _)) (R := [y]) rfl rfl (by decide) (news_list w7 _ [y]) (by omega) ?_; intro v8 w8 hot8 hb8)
            go_roundw
            case rel => exact ⟨k + 1, n + 4 + 1, (E ++ exL) ++ [y], HLt.out, by go_num, hot8, sp_step HY.out (sp_extra HE.out) HQ.out.1, by have := HN5.out; omega, by rw [sum_one, sum_extra]; have := HSm.out; have := HQ.out.2; omega, (HB7.out.alloc HB7.out.size _).trans hb8⟩
            case measure => simp [intOf]; have := HLt.out; omega
          · rw [decide_eq_false k5] at e5
            clear k5
            have HB6 : Hid (Below wr.heap.size wr wr) := Lib.hid (Below.refl _ _)
            have HQ : Hid (cw (segs 10 y) = cw [y] ∧ y.length ≤ 1503) := Lib.hid ⟨HY1.out, by omega⟩
            go_wp2_with (at_builtin; refine wpList_append_ot rfl _ _ rfl (B := w3.heap.size) (Nat.le_trans HB.out (Nat.le_trans HB6.out.size (by simp))) rfl ((HOt.out.on HB6.out).on (below1a wr _)) (R := [y]) rfl rfl (by decide) (news_list wr _ [y]) (by omega) ?_; intro v' w7 hot7 hb7)
            go_roundw
            case rel => exact ⟨k + 1, n + 1, E ++ [y], HLt.out, by go_num, hot7, sp_step HY.out HE.out HQ.out.1, by have := HN5.out; omega, by rw [sum_one]; have := HSm.out; have := HQ.out.2; omega, ((HBr.out.trans (HB6.out.mono HB.out)).alloc (Nat.le_trans HB.out HB6.out.size) _).trans hb7⟩
            case measure => simp [intOf]; have := HLt.out; omega
    · obtain rfl : k = N := by omega
      have hEc : (E.flatMap fun e => cw (segs 10 e)) = cw Ls := by rw [hE, List.take_of_length_le (by have := HNn.out; omega)]
      have hd := H3.out.on hbr
      have hn200 : n ≤ 200 := by omega
      have hn1 : 1 ≤ n := by have := hot.1; simp at this; omega
      have hsm2 : ((H :: E).map fun x => x.length + 1).sum ≤ 60000 := by omega
      have HD := Lib.hid hd; have HOt := Lib.hid hot; have HEc := Lib.hid hEc; have HSm := Lib.hid hsm2; have HBr := Lib.hid hbr
      clear hd hot hE hEc hsm hsm2 hbr hn5 hlt hk
      have hcase : m = 0 ∨ ∃ (b1 o1 : Nat) (x : Int), A1 = some ⟨b1, o1, none⟩ ∧ (0 : Int) < (m : Int) ∧ 0 ≤ x ∧ x ≤ 255 ∧ wr.cell? ⟨b1, o1, none⟩ = some (.int .u8 x) ∧ (((x % 2 == 1) = true) ∨ ((x % 2 == 1) = false)) := by
        by_cases hm0 : m = 0
        · exact .inl hm0
        · obtain ⟨b1, o1, hA1, hb1, hc1⟩ := HAt.out 0 (by have := HMm.out; omega)
          have hxw := u8_wf (HWf.out (z1[0]?.getD 0) (by rw [List.getElem?_eq_getElem (by have := HMm.out; omega), Option.getD_some]; exact List.getElem_mem _))
          rw [Nat.add_zero] at hc1
          refine .inr ⟨b1, o1, _, hA1, by omega, hxw.1, hxw.2, (HD.out.below.cell (p := ⟨b1, o1, none⟩) hb1).trans hc1, ?_⟩
          cases ((z1[0]?.getD 0) % 2 == 1)
          · exact .inr rfl
          · exact .inl rfl
      rcases hcase with rfl | ⟨b1, o1, x, rfl, hm1, hx0, hx1, cx, hx2 | hx2⟩
      · go_wp2_with fail
        have hl6 := sp_len (P := ([] : List (List UInt8))) (E := E) (H := H) (by decide) HSm.out
        obtain ⟨hf3, hcan⟩ := HF2.out ([] : List (List UInt8)) E (fun x hx => by cases hx) HEc.out (by omega)
        obtain ⟨J, hJ⟩ : ∃ x, Lib.join (([] : List (List UInt8)) ++ H :: E) [10] = x := ⟨_, rfl⟩
        rw [hJ] at hf3 hcan hl6
        have hjn := sp_join HOt.out hJ hl6 (by omega)
        have HJn := Lib.hid hjn; have HF3 := Lib.hid hf3; have HCan := Lib.hid hcan; have HD0 := Lib.hid (HD.out)
        clear hf3 hcan hjn hJ
        refine (HJn.out _ (Below.refl _ _)).mono ?_
        rintro e w8 ⟨rfl, hb8⟩
        have HB8 := Lib.hid hb8; have HD8 := Lib.hid (HD0.out.on hb8)
        clear hb8
        go_wp2_with fail
        refine (dm_read J (by omega) (Dm.start w8 HD8.out.env) HF3.out).mono ?_
        rintro e w9 ⟨A9, c9, rfl, h9⟩
        have h9b := ((HD8.out.on h9.below).addF (h9.f (List.mem_cons_self ..))).box 8 (.slice A9 L.length c9)
        have hb9 := HB8.out.trans ((h9.below.trans ((below1a w9 (.cells #[.int .i64 8, .slice A9 L.length c9] 24)).mono h9.below.size)).mono HB8.out.size)
        have H9 := Lib.hid h9b; have HB9 := Lib.hid hb9
        clear h9 h9b hb9
        go_wp2_with fail
        obtain ⟨g9, hg9⟩ : ∃ x, w9.heap.size = x := ⟨_, rfl⟩
        obtain ⟨W9, hW9⟩ : ∃ x, w9.alloc (.cells #[.int .i64 8, .slice A9 L.length c9] 24) = x := ⟨_, rfl⟩
        rw [hg9, hW9] at H9
        rw [hW9] at HB9
        rw [hg9, hW9]
        clear hg9 hW9
        refine (HJn.out _ HB9.out).mono ?_
        rintro e w10 ⟨rfl, hb10⟩
        have H10 := Lib.hid (H9.out.on hb10)
        have HB10 := Lib.hid (HB9.out.trans (hb10.mono HB9.out.size))
        clear hb10
        go_wp2_with fail
        refine (dm_canon J (by omega) (Dm.start w10 H10.out.env) HCan.out).mono ?_
        rintro e w12 ⟨rfl, h12⟩
        have H12 := Lib.hid (H10.out.on h12.below)
        have HB12 := Lib.hid ((HBr.out).trans ((HB10.out.trans (h12.below.mono HB10.out.size)).mono (HBr.out).size))
        clear h12 H9 H10 HB9 HB10 HD8 HB8 HJn HCan HF3 HD0
        go_wp2_with fail
        have hC := fun (W1 : World) (hb : Below w3.heap.size w3 W1) => (show W1.cell? ⟨b, 0, none⟩ = some (.string ⟨H.toArray⟩) from (hb.cell (p := ⟨b, 0, none⟩) HW3.out.lt).trans (whole_cells HW3.out 0 H rfl))
        have hJ2 := fun (W1 : World) (hb : Below w3.heap.size w3 W1) => (show Calls Tryz.prog 26 #[.slice (some ⟨b, 1, none⟩) k k, .string ⟨#[32]⟩] W1 fun e w' => e = .returned (.string ⟨(Lib.join Ls [32]).toArray⟩) ∧ Below W1.heap.size W1 w' from join_any (bk := b) (o := 1) (c := k) 32 Ls HNn.out W1 (fun j x hx => by
          have h := whole_cells HW3.out (1 + j) x (by rw [Nat.add_comm, List.getElem?_cons_succ]; exact hx)
          rw [Nat.zero_add] at h
          exact (hb.cell (p := ⟨b, 1 + j, none⟩) HW3.out.lt).trans h) (Nat.lt_of_lt_of_le HW3.out.lt hb.size) (by omega) (Nat.le_refl _) (by omega))
        have hk0 : (0 : Int) ≤ (k : Int) := by omega
        have hkz : ¬ k = 0 := by omega
        have hk1 : (1 : Int) ≤ (k : Int) + 1 := by omega
        have hk2 : (0 : Int) ≤ (k : Int) + 1 := by omega
        have hk3 : (0 : Int) < (k : Int) + 1 := by omega
        have hz1 : ¬ 9223372036854775807 < H.length + 1 := by omega
        have hz2 : ¬ 9223372036854775807 < H.toArray.size + 1 := by rw [List.size_toArray]; omega
        have hz3 : ¬ 9223372036854775807 < H.length + 1 + (Lib.join Ls [32]).length := by omega
        have hz4 : ¬ 9223372036854775807 < H.toArray.size + 1 + (Lib.join Ls [32]).toArray.size := by rw [List.size_toArray, List.size_toArray]; omega
        have HC := Lib.hid hC; have HJ2 := Lib.hid hJ2
        clear hC hJ2
        have HBd := Lib.hid (HB12.out.trans (Below.refl _ w12).drew)
        have HBz := Lib.hid (HB12.out.alloc HB12.out.size Zb)
        have HBzd := Lib.hid (HBz.out.trans (Below.refl _ _).drew)
        have hS0 := HC.out _ HB12.out
        have hS1 := HC.out _ HBd.out
        have hS2 := HC.out _ HBz.out
        have hS3 := HC.out _ HBzd.out
        go_region_held3 (fun W' => W'.cell? ⟨b, 0, none⟩ = some (.string ⟨H.toArray⟩)) (first | assumption | exact hS0 | exact hS1 | exact hS2 | exact hS3 | exact hS5 | exact hS6 _ | exact hS7 | exact hS8 _ | exact hS9 _ _) (first
          | (go_at_call 26; first
            | ((with_reducible refine (HJ2.out w12.drew HBd.out).mono ?_); rintro r w13 ⟨rfl, hb13⟩; have hd13 : Below w12.heap.size w12 w13 := (Below.refl _ w12).drew.trans hb13; have HZ13 : Hid True := Lib.hid trivial; have HD13 := Lib.hid hd13; have HB13 := Lib.hid (HB12.out.trans (hd13.mono HB12.out.size)); have hS5 := HC.out _ HB13.out; have hS6 := fun o => HC.out _ (HB13.out.alloc HB13.out.size o); clear hb13 hd13)
            | ((with_reducible refine (HJ2.out (w12.alloc Zb).drew HBzd.out).mono ?_); rintro r w13 ⟨rfl, hb13⟩; have hd13 : Below (w12.alloc Zb).heap.size (w12.alloc Zb) w13 := (Below.refl _ (w12.alloc Zb)).drew.trans hb13; have HZ13 := Lib.hid ((Whole.made w12 24 #[.int .i64 0, .slice none 0 0]).same (hd13.block _ (Whole.made w12 24 #[.int .i64 0, .slice none 0 0]).lt)); have HL13 := Lib.hid hd13.size; have HD13 := Lib.hid ((below1a w12 Zb).trans (hd13.mono (below1a w12 Zb).size)); have HB13 := Lib.hid (HB12.out.trans (HD13.out.mono HB12.out.size)); have hS5 := HC.out _ HB13.out; have hS6 := fun o => HC.out _ (HB13.out.alloc HB13.out.size o); clear hb13 hd13))
          | (go_at_call 17; first
            | ((with_reducible refine (sp_read (H12.out.on HD13.out).env H (Lib.join Ls [32]) (by omega) (by omega) HOne.out).mono ?_); rintro r w14 ⟨A14, c14, rfl, ho14, hb14⟩; have HO14 := Lib.hid ho14; have HD14 := Lib.hid hb14; have HB14 := Lib.hid (HB13.out.trans (hb14.mono HB13.out.size)); have hS7 := HC.out _ HB14.out; have hS8 := fun o => HC.out _ (HB14.out.alloc HB14.out.size o); clear ho14 hb14; first
              | (have hc14 := sp_cells (HZ13.out.same (HD14.out.block _ HZ13.out.lt)); obtain ⟨q1, q2, q3, q4, q5⟩ := hc14; have q6 := (q5 (.int .i64 8)).1; have q7 := (q5 (.int .i64 8)).2; have hS9 := fun u v => HC.out _ ((HB14.out.setCell (p := ⟨w12.heap.size, 0, none⟩) HB12.out.size u).setCell (p := ⟨w12.heap.size, 1, none⟩) HB12.out.size v))
              | skip)
            | ((with_reducible refine (sp_read ((H12.out.on HD13.out).on (below1a w13 Zb)).env H (Lib.join Ls [32]) (by omega) (by omega) HOne.out).mono ?_); rintro r w14 ⟨A14, c14, rfl, ho14, hb14⟩; have HO14 := Lib.hid ho14; have HD14 := Lib.hid hb14; have HB14 := Lib.hid ((HB13.out.alloc HB13.out.size Zb).trans (hb14.mono (HB13.out.alloc HB13.out.size Zb).size)); have hS7 := HC.out _ HB14.out; have hS8 := fun o => HC.out _ (HB14.out.alloc HB14.out.size o); clear ho14 hb14; have HZ14 := Lib.hid ((Whole.made w13 24 #[.int .i64 0, .slice none 0 0]).same (HD14.out.block _ (Whole.made w13 24 #[.int .i64 0, .slice none 0 0]).lt)); have hc14 := sp_cells HZ14.out; obtain ⟨q1, q2, q3, q4, q5⟩ := hc14; have q6 := (q5 (.int .i64 8)).1; have q7 := (q5 (.int .i64 8)).2; have hS9 := fun u v => HC.out _ ((HB14.out.setCell (p := ⟨w13.heap.size, 0, none⟩) HB13.out.size u).setCell (p := ⟨w13.heap.size, 1, none⟩) HB13.out.size v))))
        · have H15 := Lib.hid ((((H12.out.on HD13.out).on HD14.out).addF (OwnL.rowsL (L := L) HO14.out)).box 8 (.slice A14 L.length c14))
          obtain ⟨W15, hW15⟩ : ∃ x, w14.alloc (.cells #[.int .i64 8, .slice A14 L.length c14] 24) = x := ⟨_, rfl⟩
          obtain ⟨g19, hg19⟩ : ∃ x, w14.heap.size = x := ⟨_, rfl⟩
          rw [hW15, hg19] at H15
          rw [hW15, hg19]
          clear hW15 hg19 hS0 hS1 hS2 hS3 hS5 hS6 hS7 hS8
          clear H12 HBd HBz HBzd HB12 HC HJ2 HD13 HB13 HZ13 HO14 HD14 HB14
          have HS := Lib.hid (fun (fs : List (Value × List (List Int))) (ss : List (Nat × Int × Value)) (W' : World) (h : Dm W W' fs ss) (m1 : (g19, (8 : Int), Value.slice A14 L.length c14) ∈ ss) (m2 : (g9, (8 : Int), Value.slice A9 L.length c9) ∈ ss) (m3 : (g, (8 : Int), Value.slice A1' L.length c1) ∈ ss) => And.intro (h.s _ _ _ m1) (And.intro (h.s _ _ _ m2) (h.s _ _ _ m3)))
          obtain ⟨⟨a1, a2⟩, ⟨a3, a4⟩, ⟨a5, a6⟩⟩ := HS.out _ _ _ H15.out (by simp) (by simp) (by simp)
          go_wp2_with fail
          refine (dm_sameq 8 8 H15.out (v := .slice A9 L.length c9) (v' := .slice A1' L.length c1) (L := L) (L' := L) (by simp) (by simp) (by omega) HZ.out HZ.out (q := true) (by simp)).mono ?_
          rintro e w16 ⟨rfl, h16⟩
          clear a1 a2 a3 a4 a5 a6
          obtain ⟨⟨a1, a2⟩, ⟨a3, a4⟩, ⟨a5, a6⟩⟩ := HS.out _ _ _ h16 (by simp) (by simp) (by simp)
          have H16 := Lib.hid h16; clear h16 H15
          go_wp2_with fail
          refine (dm_sameq 8 8 H16.out (v := .slice A14 L.length c14) (v' := .slice A1' L.length c1) (L := L) (L' := L) (by simp) (by simp) (by omega) HZ.out HZ.out (q := true) (by simp)).mono ?_
          rintro e w17 ⟨rfl, h17⟩
          have H17 := Lib.hid h17; clear h17 H16 a1 a2 a3 a4 a5 a6
          go_wp2_with fail
          refine (dm_awake H17.out).mono ?_
          rintro e w18 ⟨rfl, h18⟩
          have HB := Lib.hid h18.below
          clear h18 H17
          go_wp2_with fail
          go_ret
          exact ⟨rfl, HB.out⟩
        · have H15 := Lib.hid (sp_store (H12.out.on HD13.out) ((below1a w13 Zb).trans (HD14.out.mono (by simp))) HZ14.out HO14.out (by simp))
          obtain ⟨W15, hW15⟩ : ∃ x, (w14.setCell ⟨w13.heap.size, 0, none⟩ (.int .i64 8)).setCell ⟨w13.heap.size, 1, none⟩ (.slice A14 L.length c14) = x := ⟨_, rfl⟩
          obtain ⟨g19, hg19⟩ : ∃ x, w13.heap.size = x := ⟨_, rfl⟩
          rw [hW15, hg19] at H15
          rw [hW15, hg19]
          clear hW15 hg19 hS0 hS1 hS2 hS3 hS5 hS6 hS7 hS8 hS9 q1 q2 q3 q4 q5 q6 q7 HZ14
          clear H12 HBd HBz HBzd HB12 HC HJ2 HD13 HB13 HZ13 HO14 HD14 HB14
          have HS := Lib.hid (fun (fs : List (Value × List (List Int))) (ss : List (Nat × Int × Value)) (W' : World) (h : Dm W W' fs ss) (m1 : (g19, (8 : Int), Value.slice A14 L.length c14) ∈ ss) (m2 : (g9, (8 : Int), Value.slice A9 L.length c9) ∈ ss) (m3 : (g, (8 : Int), Value.slice A1' L.length c1) ∈ ss) => And.intro (h.s _ _ _ m1) (And.intro (h.s _ _ _ m2) (h.s _ _ _ m3)))
          obtain ⟨⟨a1, a2⟩, ⟨a3, a4⟩, ⟨a5, a6⟩⟩ := HS.out _ _ _ H15.out (by simp) (by simp) (by simp)
          go_wp2_with fail
          refine (dm_sameq 8 8 H15.out (v := .slice A9 L.length c9) (v' := .slice A1' L.length c1) (L := L) (L' := L) (by simp) (by simp) (by omega) HZ.out HZ.out (q := true) (by simp)).mono ?_
          rintro e w16 ⟨rfl, h16⟩
          clear a1 a2 a3 a4 a5 a6
          obtain ⟨⟨a1, a2⟩, ⟨a3, a4⟩, ⟨a5, a6⟩⟩ := HS.out _ _ _ h16 (by simp) (by simp) (by simp)
          have H16 := Lib.hid h16; clear h16 H15
          go_wp2_with fail
          refine (dm_sameq 8 8 H16.out (v := .slice A14 L.length c14) (v' := .slice A1' L.length c1) (L := L) (L' := L) (by simp) (by simp) (by omega) HZ.out HZ.out (q := true) (by simp)).mono ?_
          rintro e w17 ⟨rfl, h17⟩
          have H17 := Lib.hid h17; clear h17 H16 a1 a2 a3 a4 a5 a6
          go_wp2_with fail
          refine (dm_awake H17.out).mono ?_
          rintro e w18 ⟨rfl, h18⟩
          have HB := Lib.hid h18.below
          clear h18 H17
          go_wp2_with fail
          go_ret
          exact ⟨rfl, HB.out⟩
        · have H15 := Lib.hid (sp_store H12.out (HD13.out.trans (HD14.out.mono HD13.out.size)) (HZ13.out.same (HD14.out.block _ HZ13.out.lt)) HO14.out (by have h := HL13.out; simp at h; omega))
          obtain ⟨W15, hW15⟩ : ∃ x, (w14.setCell ⟨w12.heap.size, 0, none⟩ (.int .i64 8)).setCell ⟨w12.heap.size, 1, none⟩ (.slice A14 L.length c14) = x := ⟨_, rfl⟩
          obtain ⟨g19, hg19⟩ : ∃ x, w12.heap.size = x := ⟨_, rfl⟩
          rw [hW15, hg19] at H15
          rw [hW15, hg19]
          clear hW15 hg19 hS0 hS1 hS2 hS3 hS5 hS6 hS7 hS8 hS9 q1 q2 q3 q4 q5 q6 q7 HL13
          clear H12 HBd HBz HBzd HB12 HC HJ2 HD13 HB13 HZ13 HO14 HD14 HB14
          have HS := Lib.hid (fun (fs : List (Value × List (List Int))) (ss : List (Nat × Int × Value)) (W' : World) (h : Dm W W' fs ss) (m1 : (g19, (8 : Int), Value.slice A14 L.length c14) ∈ ss) (m2 : (g9, (8 : Int), Value.slice A9 L.length c9) ∈ ss) (m3 : (g, (8 : Int), Value.slice A1' L.length c1) ∈ ss) => And.intro (h.s _ _ _ m1) (And.intro (h.s _ _ _ m2) (h.s _ _ _ m3)))
          obtain ⟨⟨a1, a2⟩, ⟨a3, a4⟩, ⟨a5, a6⟩⟩ := HS.out _ _ _ H15.out (by simp) (by simp) (by simp)
          go_wp2_with fail
          refine (dm_sameq 8 8 H15.out (v := .slice A9 L.length c9) (v' := .slice A1' L.length c1) (L := L) (L' := L) (by simp) (by simp) (by omega) HZ.out HZ.out (q := true) (by simp)).mono ?_
          rintro e w16 ⟨rfl, h16⟩
          clear a1 a2 a3 a4 a5 a6
          obtain ⟨⟨a1, a2⟩, ⟨a3, a4⟩, ⟨a5, a6⟩⟩ := HS.out _ _ _ h16 (by simp) (by simp) (by simp)
          have H16 := Lib.hid h16; clear h16 H15
          go_wp2_with fail
          refine (dm_sameq 8 8 H16.out (v := .slice A14 L.length c14) (v' := .slice A1' L.length c1) (L := L) (L' := L) (by simp) (by simp) (by omega) HZ.out HZ.out (q := true) (by simp)).mono ?_
          rintro e w17 ⟨rfl, h17⟩
          have H17 := Lib.hid h17; clear h17 H16 a1 a2 a3 a4 a5 a6
          go_wp2_with fail
          refine (dm_awake H17.out).mono ?_
          rintro e w18 ⟨rfl, h18⟩
          have HB := Lib.hid h18.below
          clear h18 H17
          go_wp2_with fail
          go_ret
          exact ⟨rfl, HB.out⟩
      · go_upto_region 21 with (at_builtin; refine wpList_append_ot rfl _ _ rfl (B := w3.heap.size) (Nat.le_trans HBr.out.size (by simp)) rfl (O := preL) (n := 2) ⟨rfl, wr.heap.size, 2, rfl, Nat.le_refl _, by simp, news_list wr _ preL, .inl rfl⟩ (R := H :: E) rfl HOt.out.1 hn1 (HOt.out.on (below1a wr _)).cells (by omega) ?_; intro v' w7 hot7 hb7)
        obtain ⟨g7, c7, rfl, hn7, -, -⟩ := hot7.shape
        have HO7 := Lib.hid hot7
        have HB7 := Lib.hid ((HBr.out.alloc HBr.out.size (.cells (preL.map str).toArray 9)).trans hb7)
        have HD7 := Lib.hid (H3.out.on ((HBr.out.alloc HBr.out.size _).trans hb7))
        clear hot7 hb7
        go_wp2_with fail
        have hl6 := sp_len (P := preL) (E := E) (H := H) (by decide) HSm.out
        obtain ⟨hf3, hcan⟩ := HF2.out preL E preL_pass HEc.out (by omega)
        obtain ⟨J, hJ⟩ : ∃ x, Lib.join (preL ++ H :: E) [10] = x := ⟨_, rfl⟩
        rw [hJ] at hf3 hcan hl6
        have hjn := sp_join HO7.out hJ hl6 (by omega)
        have HJn := Lib.hid hjn; have HF3 := Lib.hid hf3; have HCan := Lib.hid hcan; have HD0 := Lib.hid (HD7.out)
        clear hf3 hcan hjn hJ
        refine (HJn.out _ (Below.refl _ _)).mono ?_
        rintro e w8 ⟨rfl, hb8⟩
        have HB8 := Lib.hid hb8; have HD8 := Lib.hid (HD0.out.on hb8)
        clear hb8
        go_wp2_with fail
        refine (dm_read J (by omega) (Dm.start w8 HD8.out.env) HF3.out).mono ?_
        rintro e w9 ⟨A9, c9, rfl, h9⟩
        have h9b := ((HD8.out.on h9.below).addF (h9.f (List.mem_cons_self ..))).box 8 (.slice A9 L.length c9)
        have hb9 := HB8.out.trans ((h9.below.trans ((below1a w9 (.cells #[.int .i64 8, .slice A9 L.length c9] 24)).mono h9.below.size)).mono HB8.out.size)
        have H9 := Lib.hid h9b; have HB9 := Lib.hid hb9
        clear h9 h9b hb9
        go_wp2_with fail
        obtain ⟨g9, hg9⟩ : ∃ x, w9.heap.size = x := ⟨_, rfl⟩
        obtain ⟨W9, hW9⟩ : ∃ x, w9.alloc (.cells #[.int .i64 8, .slice A9 L.length c9] 24) = x := ⟨_, rfl⟩
        rw [hg9, hW9] at H9
        rw [hW9] at HB9
        rw [hg9, hW9]
        clear hg9 hW9
        refine (HJn.out _ HB9.out).mono ?_
        rintro e w10 ⟨rfl, hb10⟩
        have H10 := Lib.hid (H9.out.on hb10)
        have HB10 := Lib.hid (HB9.out.trans (hb10.mono HB9.out.size))
        clear hb10
        go_wp2_with fail
        refine (dm_canon J (by omega) (Dm.start w10 H10.out.env) HCan.out).mono ?_
        rintro e w12 ⟨rfl, h12⟩
        have H12 := Lib.hid (H10.out.on h12.below)
        have HB12 := Lib.hid ((HB7.out).trans ((HB10.out.trans (h12.below.mono HB10.out.size)).mono (HB7.out).size))
        clear h12 H9 H10 HB9 HB10 HD8 HB8 HJn HCan HF3 HD0
        go_wp2_with fail
        have hC := fun (W1 : World) (hb : Below w3.heap.size w3 W1) => (show W1.cell? ⟨b, 0, none⟩ = some (.string ⟨H.toArray⟩) from (hb.cell (p := ⟨b, 0, none⟩) HW3.out.lt).trans (whole_cells HW3.out 0 H rfl))
        have hJ2 := fun (W1 : World) (hb : Below w3.heap.size w3 W1) => (show Calls Tryz.prog 26 #[.slice (some ⟨b, 1, none⟩) k k, .string ⟨#[32]⟩] W1 fun e w' => e = .returned (.string ⟨(Lib.join Ls [32]).toArray⟩) ∧ Below W1.heap.size W1 w' from join_any (bk := b) (o := 1) (c := k) 32 Ls HNn.out W1 (fun j x hx => by
          have h := whole_cells HW3.out (1 + j) x (by rw [Nat.add_comm, List.getElem?_cons_succ]; exact hx)
          rw [Nat.zero_add] at h
          exact (hb.cell (p := ⟨b, 1 + j, none⟩) HW3.out.lt).trans h) (Nat.lt_of_lt_of_le HW3.out.lt hb.size) (by omega) (Nat.le_refl _) (by omega))
        have hk0 : (0 : Int) ≤ (k : Int) := by omega
        have hkz : ¬ k = 0 := by omega
        have hk1 : (1 : Int) ≤ (k : Int) + 1 := by omega
        have hk2 : (0 : Int) ≤ (k : Int) + 1 := by omega
        have hk3 : (0 : Int) < (k : Int) + 1 := by omega
        have hz1 : ¬ 9223372036854775807 < H.length + 1 := by omega
        have hz2 : ¬ 9223372036854775807 < H.toArray.size + 1 := by rw [List.size_toArray]; omega
        have hz3 : ¬ 9223372036854775807 < H.length + 1 + (Lib.join Ls [32]).length := by omega
        have hz4 : ¬ 9223372036854775807 < H.toArray.size + 1 + (Lib.join Ls [32]).toArray.size := by rw [List.size_toArray, List.size_toArray]; omega
        have HC := Lib.hid hC; have HJ2 := Lib.hid hJ2
        clear hC hJ2
        have HBd := Lib.hid (HB12.out.trans (Below.refl _ w12).drew)
        have HBz := Lib.hid (HB12.out.alloc HB12.out.size Zb)
        have HBzd := Lib.hid (HBz.out.trans (Below.refl _ _).drew)
        have hS0 := HC.out _ HB12.out
        have hS1 := HC.out _ HBd.out
        have hS2 := HC.out _ HBz.out
        have hS3 := HC.out _ HBzd.out
        go_region_held3 (fun W' => W'.cell? ⟨b, 0, none⟩ = some (.string ⟨H.toArray⟩)) (first | assumption | exact hS0 | exact hS1 | exact hS2 | exact hS3 | exact hS5 | exact hS6 _ | exact hS7 | exact hS8 _ | exact hS9 _ _) (first
          | (go_at_call 26; first
            | ((with_reducible refine (HJ2.out w12.drew HBd.out).mono ?_); rintro r w13 ⟨rfl, hb13⟩; have hd13 : Below w12.heap.size w12 w13 := (Below.refl _ w12).drew.trans hb13; have HZ13 : Hid True := Lib.hid trivial; have HD13 := Lib.hid hd13; have HB13 := Lib.hid (HB12.out.trans (hd13.mono HB12.out.size)); have hS5 := HC.out _ HB13.out; have hS6 := fun o => HC.out _ (HB13.out.alloc HB13.out.size o); clear hb13 hd13)
            | ((with_reducible refine (HJ2.out (w12.alloc Zb).drew HBzd.out).mono ?_); rintro r w13 ⟨rfl, hb13⟩; have hd13 : Below (w12.alloc Zb).heap.size (w12.alloc Zb) w13 := (Below.refl _ (w12.alloc Zb)).drew.trans hb13; have HZ13 := Lib.hid ((Whole.made w12 24 #[.int .i64 0, .slice none 0 0]).same (hd13.block _ (Whole.made w12 24 #[.int .i64 0, .slice none 0 0]).lt)); have HL13 := Lib.hid hd13.size; have HD13 := Lib.hid ((below1a w12 Zb).trans (hd13.mono (below1a w12 Zb).size)); have HB13 := Lib.hid (HB12.out.trans (HD13.out.mono HB12.out.size)); have hS5 := HC.out _ HB13.out; have hS6 := fun o => HC.out _ (HB13.out.alloc HB13.out.size o); clear hb13 hd13))
          | (go_at_call 17; first
            | ((with_reducible refine (sp_read (H12.out.on HD13.out).env H (Lib.join Ls [32]) (by omega) (by omega) HOne.out).mono ?_); rintro r w14 ⟨A14, c14, rfl, ho14, hb14⟩; have HO14 := Lib.hid ho14; have HD14 := Lib.hid hb14; have HB14 := Lib.hid (HB13.out.trans (hb14.mono HB13.out.size)); have hS7 := HC.out _ HB14.out; have hS8 := fun o => HC.out _ (HB14.out.alloc HB14.out.size o); clear ho14 hb14; first
              | (have hc14 := sp_cells (HZ13.out.same (HD14.out.block _ HZ13.out.lt)); obtain ⟨q1, q2, q3, q4, q5⟩ := hc14; have q6 := (q5 (.int .i64 8)).1; have q7 := (q5 (.int .i64 8)).2; have hS9 := fun u v => HC.out _ ((HB14.out.setCell (p := ⟨w12.heap.size, 0, none⟩) HB12.out.size u).setCell (p := ⟨w12.heap.size, 1, none⟩) HB12.out.size v))
              | skip)
            | ((with_reducible refine (sp_read ((H12.out.on HD13.out).on (below1a w13 Zb)).env H (Lib.join Ls [32]) (by omega) (by omega) HOne.out).mono ?_); rintro r w14 ⟨A14, c14, rfl, ho14, hb14⟩; have HO14 := Lib.hid ho14; have HD14 := Lib.hid hb14; have HB14 := Lib.hid ((HB13.out.alloc HB13.out.size Zb).trans (hb14.mono (HB13.out.alloc HB13.out.size Zb).size)); have hS7 := HC.out _ HB14.out; have hS8 := fun o => HC.out _ (HB14.out.alloc HB14.out.size o); clear ho14 hb14; have HZ14 := Lib.hid ((Whole.made w13 24 #[.int .i64 0, .slice none 0 0]).same (HD14.out.block _ (Whole.made w13 24 #[.int .i64 0, .slice none 0 0]).lt)); have hc14 := sp_cells HZ14.out; obtain ⟨q1, q2, q3, q4, q5⟩ := hc14; have q6 := (q5 (.int .i64 8)).1; have q7 := (q5 (.int .i64 8)).2; have hS9 := fun u v => HC.out _ ((HB14.out.setCell (p := ⟨w13.heap.size, 0, none⟩) HB13.out.size u).setCell (p := ⟨w13.heap.size, 1, none⟩) HB13.out.size v))))
        · have H15 := Lib.hid ((((H12.out.on HD13.out).on HD14.out).addF (OwnL.rowsL (L := L) HO14.out)).box 8 (.slice A14 L.length c14))
          obtain ⟨W15, hW15⟩ : ∃ x, w14.alloc (.cells #[.int .i64 8, .slice A14 L.length c14] 24) = x := ⟨_, rfl⟩
          obtain ⟨g19, hg19⟩ : ∃ x, w14.heap.size = x := ⟨_, rfl⟩
          rw [hW15, hg19] at H15
          rw [hW15, hg19]
          clear hW15 hg19 hS0 hS1 hS2 hS3 hS5 hS6 hS7 hS8
          clear H12 HBd HBz HBzd HB12 HC HJ2 HD13 HB13 HZ13 HO14 HD14 HB14
          have HS := Lib.hid (fun (fs : List (Value × List (List Int))) (ss : List (Nat × Int × Value)) (W' : World) (h : Dm W W' fs ss) (m1 : (g19, (8 : Int), Value.slice A14 L.length c14) ∈ ss) (m2 : (g9, (8 : Int), Value.slice A9 L.length c9) ∈ ss) (m3 : (g, (8 : Int), Value.slice A1' L.length c1) ∈ ss) => And.intro (h.s _ _ _ m1) (And.intro (h.s _ _ _ m2) (h.s _ _ _ m3)))
          obtain ⟨⟨a1, a2⟩, ⟨a3, a4⟩, ⟨a5, a6⟩⟩ := HS.out _ _ _ H15.out (by simp) (by simp) (by simp)
          go_wp2_with fail
          refine (dm_sameq 8 8 H15.out (v := .slice A9 L.length c9) (v' := .slice A1' L.length c1) (L := L) (L' := L) (by simp) (by simp) (by omega) HZ.out HZ.out (q := true) (by simp)).mono ?_
          rintro e w16 ⟨rfl, h16⟩
          clear a1 a2 a3 a4 a5 a6
          obtain ⟨⟨a1, a2⟩, ⟨a3, a4⟩, ⟨a5, a6⟩⟩ := HS.out _ _ _ h16 (by simp) (by simp) (by simp)
          have H16 := Lib.hid h16; clear h16 H15
          go_wp2_with fail
          refine (dm_sameq 8 8 H16.out (v := .slice A14 L.length c14) (v' := .slice A1' L.length c1) (L := L) (L' := L) (by simp) (by simp) (by omega) HZ.out HZ.out (q := true) (by simp)).mono ?_
          rintro e w17 ⟨rfl, h17⟩
          have H17 := Lib.hid h17; clear h17 H16 a1 a2 a3 a4 a5 a6
          go_wp2_with fail
          refine (dm_awake H17.out).mono ?_
          rintro e w18 ⟨rfl, h18⟩
          have HB := Lib.hid h18.below
          clear h18 H17
          go_wp2_with fail
          go_ret
          exact ⟨rfl, HB.out⟩
        · have H15 := Lib.hid (sp_store (H12.out.on HD13.out) ((below1a w13 Zb).trans (HD14.out.mono (by simp))) HZ14.out HO14.out (by simp))
          obtain ⟨W15, hW15⟩ : ∃ x, (w14.setCell ⟨w13.heap.size, 0, none⟩ (.int .i64 8)).setCell ⟨w13.heap.size, 1, none⟩ (.slice A14 L.length c14) = x := ⟨_, rfl⟩
          obtain ⟨g19, hg19⟩ : ∃ x, w13.heap.size = x := ⟨_, rfl⟩
          rw [hW15, hg19] at H15
          rw [hW15, hg19]
          clear hW15 hg19 hS0 hS1 hS2 hS3 hS5 hS6 hS7 hS8 hS9 q1 q2 q3 q4 q5 q6 q7 HZ14
          clear H12 HBd HBz HBzd HB12 HC HJ2 HD13 HB13 HZ13 HO14 HD14 HB14
          have HS := Lib.hid (fun (fs : List (Value × List (List Int))) (ss : List (Nat × Int × Value)) (W' : World) (h : Dm W W' fs ss) (m1 : (g19, (8 : Int), Value.slice A14 L.length c14) ∈ ss) (m2 : (g9, (8 : Int), Value.slice A9 L.length c9) ∈ ss) (m3 : (g, (8 : Int), Value.slice A1' L.length c1) ∈ ss) => And.intro (h.s _ _ _ m1) (And.intro (h.s _ _ _ m2) (h.s _ _ _ m3)))
          obtain ⟨⟨a1, a2⟩, ⟨a3, a4⟩, ⟨a5, a6⟩⟩ := HS.out _ _ _ H15.out (by simp) (by simp) (by simp)
          go_wp2_with fail
          refine (dm_sameq 8 8 H15.out (v := .slice A9 L.length c9) (v' := .slice A1' L.length c1) (L := L) (L' := L) (by simp) (by simp) (by omega) HZ.out HZ.out (q := true) (by simp)).mono ?_
          rintro e w16 ⟨rfl, h16⟩
          clear a1 a2 a3 a4 a5 a6
          obtain ⟨⟨a1, a2⟩, ⟨a3, a4⟩, ⟨a5, a6⟩⟩ := HS.out _ _ _ h16 (by simp) (by simp) (by simp)
          have H16 := Lib.hid h16; clear h16 H15
          go_wp2_with fail
          refine (dm_sameq 8 8 H16.out (v := .slice A14 L.length c14) (v' := .slice A1' L.length c1) (L := L) (L' := L) (by simp) (by simp) (by omega) HZ.out HZ.out (q := true) (by simp)).mono ?_
          rintro e w17 ⟨rfl, h17⟩
          have H17 := Lib.hid h17; clear h17 H16 a1 a2 a3 a4 a5 a6
          go_wp2_with fail
          refine (dm_awake H17.out).mono ?_
          rintro e w18 ⟨rfl, h18⟩
          have HB := Lib.hid h18.below
          clear h18 H17
          go_wp2_with fail
          go_ret
          exact ⟨rfl, HB.out⟩
        · have H15 := Lib.hid (sp_store H12.out (HD13.out.trans (HD14.out.mono HD13.out.size)) (HZ13.out.same (HD14.out.block _ HZ13.out.lt)) HO14.out (by have h := HL13.out; simp at h; omega))
          obtain ⟨W15, hW15⟩ : ∃ x, (w14.setCell ⟨w12.heap.size, 0, none⟩ (.int .i64 8)).setCell ⟨w12.heap.size, 1, none⟩ (.slice A14 L.length c14) = x := ⟨_, rfl⟩
          obtain ⟨g19, hg19⟩ : ∃ x, w12.heap.size = x := ⟨_, rfl⟩
          rw [hW15, hg19] at H15
          rw [hW15, hg19]
          clear hW15 hg19 hS0 hS1 hS2 hS3 hS5 hS6 hS7 hS8 hS9 q1 q2 q3 q4 q5 q6 q7 HL13
          clear H12 HBd HBz HBzd HB12 HC HJ2 HD13 HB13 HZ13 HO14 HD14 HB14
          have HS := Lib.hid (fun (fs : List (Value × List (List Int))) (ss : List (Nat × Int × Value)) (W' : World) (h : Dm W W' fs ss) (m1 : (g19, (8 : Int), Value.slice A14 L.length c14) ∈ ss) (m2 : (g9, (8 : Int), Value.slice A9 L.length c9) ∈ ss) (m3 : (g, (8 : Int), Value.slice A1' L.length c1) ∈ ss) => And.intro (h.s _ _ _ m1) (And.intro (h.s _ _ _ m2) (h.s _ _ _ m3)))
          obtain ⟨⟨a1, a2⟩, ⟨a3, a4⟩, ⟨a5, a6⟩⟩ := HS.out _ _ _ H15.out (by simp) (by simp) (by simp)
          go_wp2_with fail
          refine (dm_sameq 8 8 H15.out (v := .slice A9 L.length c9) (v' := .slice A1' L.length c1) (L := L) (L' := L) (by simp) (by simp) (by omega) HZ.out HZ.out (q := true) (by simp)).mono ?_
          rintro e w16 ⟨rfl, h16⟩
          clear a1 a2 a3 a4 a5 a6
          obtain ⟨⟨a1, a2⟩, ⟨a3, a4⟩, ⟨a5, a6⟩⟩ := HS.out _ _ _ h16 (by simp) (by simp) (by simp)
          have H16 := Lib.hid h16; clear h16 H15
          go_wp2_with fail
          refine (dm_sameq 8 8 H16.out (v := .slice A14 L.length c14) (v' := .slice A1' L.length c1) (L := L) (L' := L) (by simp) (by simp) (by omega) HZ.out HZ.out (q := true) (by simp)).mono ?_
          rintro e w17 ⟨rfl, h17⟩
          have H17 := Lib.hid h17; clear h17 H16 a1 a2 a3 a4 a5 a6
          go_wp2_with fail
          refine (dm_awake H17.out).mono ?_
          rintro e w18 ⟨rfl, h18⟩
          have HB := Lib.hid h18.below
          clear h18 H17
          go_wp2_with fail
          go_ret
          exact ⟨rfl, HB.out⟩
      · go_wp2_with fail
        have hl6 := sp_len (P := ([] : List (List UInt8))) (E := E) (H := H) (by decide) HSm.out
        obtain ⟨hf3, hcan⟩ := HF2.out ([] : List (List UInt8)) E (fun x hx => by cases hx) HEc.out (by omega)
        obtain ⟨J, hJ⟩ : ∃ x, Lib.join (([] : List (List UInt8)) ++ H :: E) [10] = x := ⟨_, rfl⟩
        rw [hJ] at hf3 hcan hl6
        have hjn := sp_join HOt.out hJ hl6 (by omega)
        have HJn := Lib.hid hjn; have HF3 := Lib.hid hf3; have HCan := Lib.hid hcan; have HD0 := Lib.hid (HD.out)
        clear hf3 hcan hjn hJ
        refine (HJn.out _ (Below.refl _ _)).mono ?_
        rintro e w8 ⟨rfl, hb8⟩
        have HB8 := Lib.hid hb8; have HD8 := Lib.hid (HD0.out.on hb8)
        clear hb8
        go_wp2_with fail
        refine (dm_read J (by omega) (Dm.start w8 HD8.out.env) HF3.out).mono ?_
        rintro e w9 ⟨A9, c9, rfl, h9⟩
        have h9b := ((HD8.out.on h9.below).addF (h9.f (List.mem_cons_self ..))).box 8 (.slice A9 L.length c9)
        have hb9 := HB8.out.trans ((h9.below.trans ((below1a w9 (.cells #[.int .i64 8, .slice A9 L.length c9] 24)).mono h9.below.size)).mono HB8.out.size)
        have H9 := Lib.hid h9b; have HB9 := Lib.hid hb9
        clear h9 h9b hb9
        go_wp2_with fail
        obtain ⟨g9, hg9⟩ : ∃ x, w9.heap.size = x := ⟨_, rfl⟩
        obtain ⟨W9, hW9⟩ : ∃ x, w9.alloc (.cells #[.int .i64 8, .slice A9 L.length c9] 24) = x := ⟨_, rfl⟩
        rw [hg9, hW9] at H9
        rw [hW9] at HB9
        rw [hg9, hW9]
        clear hg9 hW9
        refine (HJn.out _ HB9.out).mono ?_
        rintro e w10 ⟨rfl, hb10⟩
        have H10 := Lib.hid (H9.out.on hb10)
        have HB10 := Lib.hid (HB9.out.trans (hb10.mono HB9.out.size))
        clear hb10
        go_wp2_with fail
        refine (dm_canon J (by omega) (Dm.start w10 H10.out.env) HCan.out).mono ?_
        rintro e w12 ⟨rfl, h12⟩
        have H12 := Lib.hid (H10.out.on h12.below)
        have HB12 := Lib.hid ((HBr.out).trans ((HB10.out.trans (h12.below.mono HB10.out.size)).mono (HBr.out).size))
        clear h12 H9 H10 HB9 HB10 HD8 HB8 HJn HCan HF3 HD0
        go_wp2_with fail
        have hC := fun (W1 : World) (hb : Below w3.heap.size w3 W1) => (show W1.cell? ⟨b, 0, none⟩ = some (.string ⟨H.toArray⟩) from (hb.cell (p := ⟨b, 0, none⟩) HW3.out.lt).trans (whole_cells HW3.out 0 H rfl))
        have hJ2 := fun (W1 : World) (hb : Below w3.heap.size w3 W1) => (show Calls Tryz.prog 26 #[.slice (some ⟨b, 1, none⟩) k k, .string ⟨#[32]⟩] W1 fun e w' => e = .returned (.string ⟨(Lib.join Ls [32]).toArray⟩) ∧ Below W1.heap.size W1 w' from join_any (bk := b) (o := 1) (c := k) 32 Ls HNn.out W1 (fun j x hx => by
          have h := whole_cells HW3.out (1 + j) x (by rw [Nat.add_comm, List.getElem?_cons_succ]; exact hx)
          rw [Nat.zero_add] at h
          exact (hb.cell (p := ⟨b, 1 + j, none⟩) HW3.out.lt).trans h) (Nat.lt_of_lt_of_le HW3.out.lt hb.size) (by omega) (Nat.le_refl _) (by omega))
        have hk0 : (0 : Int) ≤ (k : Int) := by omega
        have hkz : ¬ k = 0 := by omega
        have hk1 : (1 : Int) ≤ (k : Int) + 1 := by omega
        have hk2 : (0 : Int) ≤ (k : Int) + 1 := by omega
        have hk3 : (0 : Int) < (k : Int) + 1 := by omega
        have hz1 : ¬ 9223372036854775807 < H.length + 1 := by omega
        have hz2 : ¬ 9223372036854775807 < H.toArray.size + 1 := by rw [List.size_toArray]; omega
        have hz3 : ¬ 9223372036854775807 < H.length + 1 + (Lib.join Ls [32]).length := by omega
        have hz4 : ¬ 9223372036854775807 < H.toArray.size + 1 + (Lib.join Ls [32]).toArray.size := by rw [List.size_toArray, List.size_toArray]; omega
        have HC := Lib.hid hC; have HJ2 := Lib.hid hJ2
        clear hC hJ2
        have HBd := Lib.hid (HB12.out.trans (Below.refl _ w12).drew)
        have HBz := Lib.hid (HB12.out.alloc HB12.out.size Zb)
        have HBzd := Lib.hid (HBz.out.trans (Below.refl _ _).drew)
        have hS0 := HC.out _ HB12.out
        have hS1 := HC.out _ HBd.out
        have hS2 := HC.out _ HBz.out
        have hS3 := HC.out _ HBzd.out
        go_region_held3 (fun W' => W'.cell? ⟨b, 0, none⟩ = some (.string ⟨H.toArray⟩)) (first | assumption | exact hS0 | exact hS1 | exact hS2 | exact hS3 | exact hS5 | exact hS6 _ | exact hS7 | exact hS8 _ | exact hS9 _ _) (first
          | (go_at_call 26; first
            | ((with_reducible refine (HJ2.out w12.drew HBd.out).mono ?_); rintro r w13 ⟨rfl, hb13⟩; have hd13 : Below w12.heap.size w12 w13 := (Below.refl _ w12).drew.trans hb13; have HZ13 : Hid True := Lib.hid trivial; have HD13 := Lib.hid hd13; have HB13 := Lib.hid (HB12.out.trans (hd13.mono HB12.out.size)); have hS5 := HC.out _ HB13.out; have hS6 := fun o => HC.out _ (HB13.out.alloc HB13.out.size o); clear hb13 hd13)
            | ((with_reducible refine (HJ2.out (w12.alloc Zb).drew HBzd.out).mono ?_); rintro r w13 ⟨rfl, hb13⟩; have hd13 : Below (w12.alloc Zb).heap.size (w12.alloc Zb) w13 := (Below.refl _ (w12.alloc Zb)).drew.trans hb13; have HZ13 := Lib.hid ((Whole.made w12 24 #[.int .i64 0, .slice none 0 0]).same (hd13.block _ (Whole.made w12 24 #[.int .i64 0, .slice none 0 0]).lt)); have HL13 := Lib.hid hd13.size; have HD13 := Lib.hid ((below1a w12 Zb).trans (hd13.mono (below1a w12 Zb).size)); have HB13 := Lib.hid (HB12.out.trans (HD13.out.mono HB12.out.size)); have hS5 := HC.out _ HB13.out; have hS6 := fun o => HC.out _ (HB13.out.alloc HB13.out.size o); clear hb13 hd13))
          | (go_at_call 17; first
            | ((with_reducible refine (sp_read (H12.out.on HD13.out).env H (Lib.join Ls [32]) (by omega) (by omega) HOne.out).mono ?_); rintro r w14 ⟨A14, c14, rfl, ho14, hb14⟩; have HO14 := Lib.hid ho14; have HD14 := Lib.hid hb14; have HB14 := Lib.hid (HB13.out.trans (hb14.mono HB13.out.size)); have hS7 := HC.out _ HB14.out; have hS8 := fun o => HC.out _ (HB14.out.alloc HB14.out.size o); clear ho14 hb14; first
              | (have hc14 := sp_cells (HZ13.out.same (HD14.out.block _ HZ13.out.lt)); obtain ⟨q1, q2, q3, q4, q5⟩ := hc14; have q6 := (q5 (.int .i64 8)).1; have q7 := (q5 (.int .i64 8)).2; have hS9 := fun u v => HC.out _ ((HB14.out.setCell (p := ⟨w12.heap.size, 0, none⟩) HB12.out.size u).setCell (p := ⟨w12.heap.size, 1, none⟩) HB12.out.size v))
              | skip)
            | ((with_reducible refine (sp_read ((H12.out.on HD13.out).on (below1a w13 Zb)).env H (Lib.join Ls [32]) (by omega) (by omega) HOne.out).mono ?_); rintro r w14 ⟨A14, c14, rfl, ho14, hb14⟩; have HO14 := Lib.hid ho14; have HD14 := Lib.hid hb14; have HB14 := Lib.hid ((HB13.out.alloc HB13.out.size Zb).trans (hb14.mono (HB13.out.alloc HB13.out.size Zb).size)); have hS7 := HC.out _ HB14.out; have hS8 := fun o => HC.out _ (HB14.out.alloc HB14.out.size o); clear ho14 hb14; have HZ14 := Lib.hid ((Whole.made w13 24 #[.int .i64 0, .slice none 0 0]).same (HD14.out.block _ (Whole.made w13 24 #[.int .i64 0, .slice none 0 0]).lt)); have hc14 := sp_cells HZ14.out; obtain ⟨q1, q2, q3, q4, q5⟩ := hc14; have q6 := (q5 (.int .i64 8)).1; have q7 := (q5 (.int .i64 8)).2; have hS9 := fun u v => HC.out _ ((HB14.out.setCell (p := ⟨w13.heap.size, 0, none⟩) HB13.out.size u).setCell (p := ⟨w13.heap.size, 1, none⟩) HB13.out.size v))))
        · have H15 := Lib.hid ((((H12.out.on HD13.out).on HD14.out).addF (OwnL.rowsL (L := L) HO14.out)).box 8 (.slice A14 L.length c14))
          obtain ⟨W15, hW15⟩ : ∃ x, w14.alloc (.cells #[.int .i64 8, .slice A14 L.length c14] 24) = x := ⟨_, rfl⟩
          obtain ⟨g19, hg19⟩ : ∃ x, w14.heap.size = x := ⟨_, rfl⟩
          rw [hW15, hg19] at H15
          rw [hW15, hg19]
          clear hW15 hg19 hS0 hS1 hS2 hS3 hS5 hS6 hS7 hS8
          clear H12 HBd HBz HBzd HB12 HC HJ2 HD13 HB13 HZ13 HO14 HD14 HB14
          have HS := Lib.hid (fun (fs : List (Value × List (List Int))) (ss : List (Nat × Int × Value)) (W' : World) (h : Dm W W' fs ss) (m1 : (g19, (8 : Int), Value.slice A14 L.length c14) ∈ ss) (m2 : (g9, (8 : Int), Value.slice A9 L.length c9) ∈ ss) (m3 : (g, (8 : Int), Value.slice A1' L.length c1) ∈ ss) => And.intro (h.s _ _ _ m1) (And.intro (h.s _ _ _ m2) (h.s _ _ _ m3)))
          obtain ⟨⟨a1, a2⟩, ⟨a3, a4⟩, ⟨a5, a6⟩⟩ := HS.out _ _ _ H15.out (by simp) (by simp) (by simp)
          go_wp2_with fail
          refine (dm_sameq 8 8 H15.out (v := .slice A9 L.length c9) (v' := .slice A1' L.length c1) (L := L) (L' := L) (by simp) (by simp) (by omega) HZ.out HZ.out (q := true) (by simp)).mono ?_
          rintro e w16 ⟨rfl, h16⟩
          clear a1 a2 a3 a4 a5 a6
          obtain ⟨⟨a1, a2⟩, ⟨a3, a4⟩, ⟨a5, a6⟩⟩ := HS.out _ _ _ h16 (by simp) (by simp) (by simp)
          have H16 := Lib.hid h16; clear h16 H15
          go_wp2_with fail
          refine (dm_sameq 8 8 H16.out (v := .slice A14 L.length c14) (v' := .slice A1' L.length c1) (L := L) (L' := L) (by simp) (by simp) (by omega) HZ.out HZ.out (q := true) (by simp)).mono ?_
          rintro e w17 ⟨rfl, h17⟩
          have H17 := Lib.hid h17; clear h17 H16 a1 a2 a3 a4 a5 a6
          go_wp2_with fail
          refine (dm_awake H17.out).mono ?_
          rintro e w18 ⟨rfl, h18⟩
          have HB := Lib.hid h18.below
          clear h18 H17
          go_wp2_with fail
          go_ret
          exact ⟨rfl, HB.out⟩
        · have H15 := Lib.hid (sp_store (H12.out.on HD13.out) ((below1a w13 Zb).trans (HD14.out.mono (by simp))) HZ14.out HO14.out (by simp))
          obtain ⟨W15, hW15⟩ : ∃ x, (w14.setCell ⟨w13.heap.size, 0, none⟩ (.int .i64 8)).setCell ⟨w13.heap.size, 1, none⟩ (.slice A14 L.length c14) = x := ⟨_, rfl⟩
          obtain ⟨g19, hg19⟩ : ∃ x, w13.heap.size = x := ⟨_, rfl⟩
          rw [hW15, hg19] at H15
          rw [hW15, hg19]
          clear hW15 hg19 hS0 hS1 hS2 hS3 hS5 hS6 hS7 hS8 hS9 q1 q2 q3 q4 q5 q6 q7 HZ14
          clear H12 HBd HBz HBzd HB12 HC HJ2 HD13 HB13 HZ13 HO14 HD14 HB14
          have HS := Lib.hid (fun (fs : List (Value × List (List Int))) (ss : List (Nat × Int × Value)) (W' : World) (h : Dm W W' fs ss) (m1 : (g19, (8 : Int), Value.slice A14 L.length c14) ∈ ss) (m2 : (g9, (8 : Int), Value.slice A9 L.length c9) ∈ ss) (m3 : (g, (8 : Int), Value.slice A1' L.length c1) ∈ ss) => And.intro (h.s _ _ _ m1) (And.intro (h.s _ _ _ m2) (h.s _ _ _ m3)))
          obtain ⟨⟨a1, a2⟩, ⟨a3, a4⟩, ⟨a5, a6⟩⟩ := HS.out _ _ _ H15.out (by simp) (by simp) (by simp)
          go_wp2_with fail
          refine (dm_sameq 8 8 H15.out (v := .slice A9 L.length c9) (v' := .slice A1' L.length c1) (L := L) (L' := L) (by simp) (by simp) (by omega) HZ.out HZ.out (q := true) (by simp)).mono ?_
          rintro e w16 ⟨rfl, h16⟩
          clear a1 a2 a3 a4 a5 a6
          obtain ⟨⟨a1, a2⟩, ⟨a3, a4⟩, ⟨a5, a6⟩⟩ := HS.out _ _ _ h16 (by simp) (by simp) (by simp)
          have H16 := Lib.hid h16; clear h16 H15
          go_wp2_with fail
          refine (dm_sameq 8 8 H16.out (v := .slice A14 L.length c14) (v' := .slice A1' L.length c1) (L := L) (L' := L) (by simp) (by simp) (by omega) HZ.out HZ.out (q := true) (by simp)).mono ?_
          rintro e w17 ⟨rfl, h17⟩
          have H17 := Lib.hid h17; clear h17 H16 a1 a2 a3 a4 a5 a6
          go_wp2_with fail
          refine (dm_awake H17.out).mono ?_
          rintro e w18 ⟨rfl, h18⟩
          have HB := Lib.hid h18.below
          clear h18 H17
          go_wp2_with fail
          go_ret
          exact ⟨rfl, HB.out⟩
        · have H15 := Lib.hid (sp_store H12.out (HD13.out.trans (HD14.out.mono HD13.out.size)) (HZ13.out.same (HD14.out.block _ HZ13.out.lt)) HO14.out (by have h := HL13.out; simp at h; omega))
          obtain ⟨W15, hW15⟩ : ∃ x, (w14.setCell ⟨w12.heap.size, 0, none⟩ (.int .i64 8)).setCell ⟨w12.heap.size, 1, none⟩ (.slice A14 L.length c14) = x := ⟨_, rfl⟩
          obtain ⟨g19, hg19⟩ : ∃ x, w12.heap.size = x := ⟨_, rfl⟩
          rw [hW15, hg19] at H15
          rw [hW15, hg19]
          clear hW15 hg19 hS0 hS1 hS2 hS3 hS5 hS6 hS7 hS8 hS9 q1 q2 q3 q4 q5 q6 q7 HL13
          clear H12 HBd HBz HBzd HB12 HC HJ2 HD13 HB13 HZ13 HO14 HD14 HB14
          have HS := Lib.hid (fun (fs : List (Value × List (List Int))) (ss : List (Nat × Int × Value)) (W' : World) (h : Dm W W' fs ss) (m1 : (g19, (8 : Int), Value.slice A14 L.length c14) ∈ ss) (m2 : (g9, (8 : Int), Value.slice A9 L.length c9) ∈ ss) (m3 : (g, (8 : Int), Value.slice A1' L.length c1) ∈ ss) => And.intro (h.s _ _ _ m1) (And.intro (h.s _ _ _ m2) (h.s _ _ _ m3)))
          obtain ⟨⟨a1, a2⟩, ⟨a3, a4⟩, ⟨a5, a6⟩⟩ := HS.out _ _ _ H15.out (by simp) (by simp) (by simp)
          go_wp2_with fail
          refine (dm_sameq 8 8 H15.out (v := .slice A9 L.length c9) (v' := .slice A1' L.length c1) (L := L) (L' := L) (by simp) (by simp) (by omega) HZ.out HZ.out (q := true) (by simp)).mono ?_
          rintro e w16 ⟨rfl, h16⟩
          clear a1 a2 a3 a4 a5 a6
          obtain ⟨⟨a1, a2⟩, ⟨a3, a4⟩, ⟨a5, a6⟩⟩ := HS.out _ _ _ h16 (by simp) (by simp) (by simp)
          have H16 := Lib.hid h16; clear h16 H15
          go_wp2_with fail
          refine (dm_sameq 8 8 H16.out (v := .slice A14 L.length c14) (v' := .slice A1' L.length c1) (L := L) (L' := L) (by simp) (by simp) (by omega) HZ.out HZ.out (q := true) (by simp)).mono ?_
          rintro e w17 ⟨rfl, h17⟩
          have H17 := Lib.hid h17; clear h17 H16 a1 a2 a3 a4 a5 a6
          go_wp2_with fail
          refine (dm_awake H17.out).mono ?_
          rintro e w18 ⟨rfl, h18⟩
          have HB := Lib.hid h18.below
          clear h18 H17
          go_wp2_with fail
          go_ret
          exact ⟨rfl, HB.out⟩
end Go.Proofs.YtiicffceopiooaaGreatDoor.dimacsSpaces
