/- What is read of any text is right; faults have their lines. -/
/- dimacs.Canonical. -/
/- What lies where between the calls of a law: formulas, their boxes, the library's tables. -/
import Derived.Test.YticcgmegimiegaaGreatDoorDmMath
import Derived.Test.YticcgmegimiegaaGreatDoorDmForm
namespace Go.Proofs.YticcgmegimiegaaGreatDoor
open Go.RowKit Go.ChangeAt Go.ChangeShapes Go.WideShapes Go.Shelf Go.Sort

/-- A clause of literals of V variables. -/
def OkC (V : Int) (c : List Int) : Prop := c.length ≤ 4096 ∧ ∀ l ∈ c, litB l = true ∧ varI l ≤ V
theorem take_lit {V C : Int} {L : List (List Int)} {cur : List Int} {x : List UInt8} (h : takeE V C L cur x = 0) (hx : x ≠ [48]) : litB (readI x) = true ∧ varI (readI x) ≤ V ∧ cur.length ≠ 4096 := by
  unfold takeE at h
  split at h
  · cases h
  · rename_i h1
    split at h
    · cases h
    · rename_i h2
      split at h
      · cases h
      · split at h
        · cases h
        · rename_i h3
          refine ⟨?_, by omega, h3⟩
          rcases of_ie' x with ⟨-, h5, h6, h7, h8⟩ | ⟨h4, -⟩
          · refine litB_yes h5 ?_ ?_ <;> rw [h8] <;> split <;> omega
          · exact absurd ⟨by rw [h4]; decide, hx⟩ h1
theorem readW_ok {V C : Int} : ∀ (ws : List (Nat × List UInt8)) (L : List (List Int)) (cur : List Int) (x : List (List Int) × List Int), readW V C ws L cur = .inr x → (∀ c ∈ L, OkC V c) → OkC V cur → (L.length : Int) ≤ C →
    (∀ c ∈ x.1, OkC V c) ∧ (x.1.length : Int) ≤ C ∧ (linesF x.1).length ≤ (linesF L).length + 22 * cur.length + 24 * ws.length
  | [], L, cur, x, h, hL, hc, hn => by
    rw [readW] at h
    injection h with h
    subst h
    exact ⟨hL, hn, by dsimp only; omega⟩
  | (n, w) :: ws, L, cur, x, h, hL, hc, hn => by
    rw [readW_cons] at h
    split at h
    · rename_i h0
      have hlen := take_len h0 hn
      by_cases hw : w = [48]
      · have e : takeN L cur w = (L ++ [cur], []) := by unfold takeN; rw [if_pos hw]
        rw [e] at h hlen
        obtain ⟨h1, h2, h3⟩ := readW_ok ws (L ++ [cur]) [] x h (fun c hc' => by
          rcases List.mem_append.1 hc' with h | h
          · exact hL c h
          · rw [List.mem_singleton.1 h]; exact hc) ⟨by simp, by simp⟩ hlen
        refine ⟨h1, h2, ?_⟩
        have := words_len cur
        rw [linesF_snoc] at h3
        unfold lineL at h3
        simp only [List.length_append, List.length_cons, List.length_nil] at h3 ⊢
        omega
      · have e : takeN L cur w = (L, cur ++ [readI w]) := by unfold takeN; rw [if_neg hw]
        obtain ⟨k1, k2, k3⟩ := take_lit h0 hw
        rw [e] at h hlen
        have hc1 := hc.1
        obtain ⟨h1, h2, h3⟩ := readW_ok ws L (cur ++ [readI w]) x h hL ⟨by simp; omega, fun l hl => by
          rcases List.mem_append.1 hl with h | h
          · exact hc.2 l h
          · rw [List.mem_singleton.1 h]; exact ⟨k1, k2⟩⟩ hn
        refine ⟨h1, h2, ?_⟩
        simp only [List.length_append, List.length_cons, List.length_nil] at h3 ⊢
        omega
    · cases h
theorem readW_fault {V C : Int} : ∀ (ws : List (Nat × List UInt8)) (L : List (List Int)) (cur : List Int) (n : Nat) (e : Int), readW V C ws L cur = .inl (n, e) → e ≠ 0 ∧ ∃ p ∈ ws, p.1 = n
  | [], L, cur, n, e, h => by rw [readW] at h; cases h
  | (m, w) :: ws, L, cur, n, e, h => by
    rw [readW_cons] at h
    split at h
    · obtain ⟨h1, p, hp, h2⟩ := readW_fault ws _ _ n e h
      exact ⟨h1, p, by simp [hp], h2⟩
    · rename_i h0
      injection h with h
      injection h with ha hb
      subst ha hb
      exact ⟨h0, (m, w), by simp, rfl⟩
theorem words_line1 {S : List UInt8} {h : Nat} {p : Nat × List UInt8} (hp : p ∈ wordsS S h) : 1 ≤ p.1 := by
  unfold wordsS at hp
  obtain ⟨q, hq, hx⟩ := List.mem_flatMap.1 hp
  have hl := (lines_le hq).1
  unfold wordsOf at hx
  split at hx
  · cases hx
  · obtain ⟨y, hy, rfl⟩ := List.mem_map.1 hx
    exact hl
theorem head_line1 (S : List UInt8) : 1 ≤ (headR S).1 := by
  unfold headR
  cases h : linesL S with
  | nil => dsimp only; unfold behindN; omega
  | cons p r =>
    have := (lines_le (S := S) (p := p) (by rw [h]; simp)).1
    dsimp only
    split <;> (dsimp only; omega)
theorem readAll_fault {S : List UInt8} {n : Nat} {e : Int} (h : readAll S = .inl (n, e)) : e ≠ 0 ∧ (S.length ≤ 4194304 → 1 ≤ n) := by
  unfold readAll at h
  split at h
  · injection h with h
    injection h with ha hb
    subst ha hb
    exact ⟨by decide, fun h => by omega⟩
  · split at h
    · cases hr : readW (headR S).2.1 (headR S).2.2.1 (wordsS S (headR S).1) [] [] with
      | inl x =>
        rw [hr] at h
        obtain ⟨n', e'⟩ := x
        injection h with h
        injection h with ha hb
        subst ha hb
        obtain ⟨h1, p, hp, h2⟩ := readW_fault _ _ _ _ _ hr
        exact ⟨h1, fun _ => h2 ▸ words_line1 hp⟩
      | inr x =>
        rw [hr] at h
        dsimp only at h
        split at h
        · injection h with h
          injection h with ha hb
          subst ha hb
          exact ⟨by decide, fun _ => by unfold behindN; omega⟩
        · cases h
    · rename_i h0
      injection h with h
      injection h with ha hb
      subst ha hb
      exact ⟨h0, fun _ => head_line1 S⟩
theorem segs_sum (c : UInt8) : ∀ l : List UInt8, ((segs c l).map fun x => x.length + 1).sum = l.length + 1
  | [] => rfl
  | b :: l => by
    have h := segs_sum c l
    unfold segs
    by_cases hb : b = c
    · rw [if_pos hb, List.map_cons, List.sum_cons, h]
      simp; omega
    · rw [if_neg hb]
      cases hs : segs c l with
      | nil => exact absurd hs (segs_ne c l)
      | cons x r =>
        rw [hs] at h
        simp only [List.map_cons, List.sum_cons, List.length_cons] at h ⊢
        omega
theorem wordsOf_len (h : Nat) (p : Nat × List UInt8) : (wordsOf h p).length ≤ p.2.length + 1 := by
  unfold wordsOf
  split
  · exact Nat.zero_le _
  · rw [List.length_map]
    exact Nat.le_trans (List.length_filter_le _ _) (segs_le 32 p.2)
theorem numL_words (h : Nat) : ∀ (l : List (List UInt8)) (n : Nat), ((numL n l).flatMap (wordsOf h)).length ≤ (l.map fun x => x.length + 1).sum
  | [], n => Nat.zero_le _
  | x :: l, n => by
    have h1 := numL_words h l (n + 1)
    rw [numL, List.flatMap_append, List.length_append, List.map_cons, List.sum_cons]
    have : ((if passB x then [] else [(n + 1, x)]).flatMap (wordsOf h)).length ≤ x.length + 1 := by
      split
      · simp
      · have := wordsOf_len h (n + 1, x)
        simpa using this
    omega
theorem wordsS_count (S : List UInt8) (h : Nat) : (wordsS S h).length ≤ S.length + 1 := by
  have := numL_words h (segs 10 S) 0
  rw [segs_sum] at this
  exact this
/-- What is read is right. -/
theorem readAll_ok {S : List UInt8} {V : Int} {L : List (List Int)} (h : readAll S = .inr (V, L)) : 0 ≤ V ∧ V ≤ 1048576 ∧ L.length ≤ 262144 ∧ (∀ c ∈ L, OkC V c) ∧ (linesF L).length ≤ 24 * (S.length + 1) := by
  unfold readAll at h
  split at h
  · cases h
  · split at h
    · rename_i h0
      obtain ⟨h1, h2, h3, h4⟩ := head_nums S h0
      cases hr : readW (headR S).2.1 (headR S).2.2.1 (wordsS S (headR S).1) [] [] with
      | inl x => rw [hr] at h; cases h
      | inr x =>
        rw [hr] at h
        dsimp only at h
        split at h
        · cases h
        · injection h with h
          injection h with ha hb
          subst ha hb
          obtain ⟨k1, k2, k3⟩ := readW_ok _ _ _ _ hr (by simp) ⟨by simp, by simp⟩ (by simpa using h3)
          have := wordsS_count S (headR S).1
          refine ⟨h1, h2, by omega, k1, ?_⟩
          simp [linesF] at k3 ⊢
          omega
    · cases h
theorem okC_right {V : Int} {c : List Int} (h : OkC V c) : rightB c = true := rightB_mk h.1 fun x hx => (h.2 x hx).1
theorem chk_okC {V : Int} {L : List (List Int)} (h0 : 0 ≤ V) (h1 : V ≤ 1048576) (hn : L.length ≤ 262144) (h : ∀ c ∈ L, OkC V c) : chkI V L = (-1, 0) :=
  chkI_ok (by omega) (by omega) fun zs hz => badE_ok (okC_right (h zs hz)) fun l hl => ((h zs hz).2 l hl).2
end Go.Proofs.YticcgmegimiegaaGreatDoor
namespace Go.Proofs.YticcgmegimiegaaGreatDoor
open Go.RowKit Go.ChangeAt Go.ChangeShapes Go.WideShapes Go.Shelf Go.Sort

/-- What Write answers: a text and an error. -/
def writeT (V : Int) (L : List (List Int)) : List UInt8 × Int := if (chkI V L).2 = 0 then (if 4194304 < (textF V L).length ∧ L ≠ [] then ([], 3) else (textF V L, 0)) else ([], (chkI V L).2)
theorem writeE_eq (V : Int) (L : List (List Int)) : writeE V L = .returned (.tuple #[str (writeT V L).1, .int .i64 (writeT V L).2]) := by
  unfold writeE writeT
  split
  · split <;> rfl
  · rfl
/-- What Canonical answers: a text, a line and an error. -/
def canT (S : List UInt8) : List UInt8 × Int × Int := match readAll S with
  | .inl x => ([], (x.1 : Int), x.2)
  | .inr x => ((writeT x.1 x.2).1, 0, (writeT x.1 x.2).2)
set_option maxRecDepth 100000 in
set_option maxHeartbeats 1000000 in
theorem canonical_any (S : List UInt8) (hS : S.length ≤ 4000000000) (w : World) (he : Env w) :
    Calls Tryz.prog 20 #[str S] w fun e w' => e = .returned (.tuple #[str (canT S).1, .int .i64 (canT S).2.1, .int .i64 (canT S).2.2]) ∧ Below w.heap.size w w' := by
  have hrd := callsIn_wide.1 (dmRead_any S hS w he)
  unfold canT
  cases hr : readAll S with
  | inl x =>
    obtain ⟨n, E⟩ := x
    have hE := (readAll_fault hr).1
    have hEb : (E != 0) = true := by simpa using hE
    rw [hr] at hrd
    have HRd := Lib.hid hrd
    clear hrd hr
    go_enter Tryz.func20, Tryz.ntmps20
    go_wp2_with fail
    refine HRd.out.mono ?_
    rintro e w1 ⟨he1, hb⟩
    obtain rfl := he1
    have HB := Lib.hid hb
    clear hb
    go_wp2_with fail
    go_ret3
    exact ⟨rfl, HB.out.alloc HB.out.size _⟩
  | inr x =>
    obtain ⟨V, L⟩ := x
    obtain ⟨h1, h2, h3, h4, h5⟩ := readAll_ok hr
    rw [hr] at hrd
    have hwr := fun W v B hB hL ht => write_any (B := B) (v := v) (L := L) V W hB (by omega) (fun zs hz => by have := (h4 zs hz).1; omega) hL ht
    simp only [writeE_eq] at hwr
    dsimp only
    obtain ⟨T, hT⟩ : ∃ x, (writeT V L).1 = x := ⟨_, rfl⟩
    obtain ⟨E, hE⟩ : ∃ x, (writeT V L).2 = x := ⟨_, rfl⟩
    simp only [hT, hE] at hwr ⊢
    have HRd := Lib.hid hrd; have HWr := Lib.hid hwr; have HE := Lib.hid he
    clear hrd hwr he hr hT hE h1 h2 h3 h4 h5
    go_enter Tryz.func20, Tryz.ntmps20
    go_wp2_with fail
    refine HRd.out.mono ?_
    rintro e w1 ⟨⟨v, he1, hown⟩, hb⟩
    obtain rfl := he1
    have HOwn := Lib.hid (show OwnL w.heap.size w1 v L from hown)
    have HB := Lib.hid hb; have HE1 := Lib.hid (HE.out.below hb)
    have hrl := HOwn.out.rowsL
    obtain ⟨A, c, rfl, -⟩ := rowsL_shape hrl
    have HRl := Lib.hid hrl
    clear hb hown hrl
    go_wp2_with fail
    have hb1 := below1a w1 (.cells #[.int .i64 V, .slice A L.length c] 24)
    refine (HWr.out _ _ w1.heap.size hb1.size (RowsV.below hb1 HRl.out) (HE1.out.below hb1).tab).mono ?_
    rintro e w2 ⟨rfl, hb2⟩
    have HB2 := Lib.hid ((HB.out.trans (hb1.mono HB.out.size)).trans (hb2.mono (Nat.le_trans HB.out.size hb1.size)))
    clear hb2
    go_wp2_with fail
    go_ret3
    exact ⟨rfl, HB2.out⟩
end Go.Proofs.YticcgmegimiegaaGreatDoor
namespace Go.Proofs.YticcgmegimiegaaGreatDoor
open Go.RowKit Go.ChangeAt Go.ChangeShapes Go.WideShapes Go.Shelf Go.Sort

/-- Behind calls that began at w: the formulas fs lie, and the boxes ss hold formulas. -/
structure Dm (w W : World) (fs : List (Value × List (List Int))) (ss : List (Nat × Int × Value)) : Prop where
  below : Below w.heap.size w W
  env : Env W
  fo : ∀ p ∈ fs, RowsL W.heap.size W p.1 p.2
  st : ∀ p ∈ ss, Whole W p.1 24 #[.int .i64 p.2.1, p.2.2]
section
variable {w W W' : World} {fs : List (Value × List (List Int))} {ss : List (Nat × Int × Value)}
theorem Dm.on (h : Dm w W fs ss) (hb : Below W.heap.size W W') : Dm w W' fs ss :=
  ⟨h.below.trans (hb.mono h.below.size), h.env.below hb, fun p hp => (RowsV.below hb (h.fo p hp)).more hb.size, fun p hp => (h.st p hp).same (hb.block _ (h.st p hp).lt)⟩
theorem Dm.start (w : World) (he : Env w) : Dm w w [] [] := ⟨Below.refl _ _, he, fun _ h => by simp at h, fun _ h => by simp at h⟩
theorem Dm.addF (h : Dm w W fs ss) {v : Value} {L : List (List Int)} (hL : RowsL W.heap.size W v L) : Dm w W ((v, L) :: fs) ss :=
  ⟨h.below, h.env, fun p hp => by
    rcases List.mem_cons.1 hp with rfl | hp
    · exact hL
    · exact h.fo p hp, h.st⟩
theorem Dm.addS (h : Dm w W fs ss) {g : Nat} {x : Int} {v : Value} (hw : Whole W g 24 #[.int .i64 x, v]) : Dm w W fs ((g, x, v) :: ss) :=
  ⟨h.below, h.env, h.fo, fun p hp => by
    rcases List.mem_cons.1 hp with rfl | hp
    · exact hw
    · exact h.st p hp⟩
/-- A formula's own block, new, is written. -/
theorem Dm.box (h : Dm w W fs ss) (x : Int) (v : Value) : Dm w (W.alloc (.cells #[.int .i64 x, v] 24)) fs ((W.heap.size, x, v) :: ss) :=
  (h.on (below1a W _)).addS (Whole.made W 24 #[.int .i64 x, v])
theorem Dm.s (h : Dm w W fs ss) (g : Nat) (x : Int) (v : Value) (hp : (g, x, v) ∈ ss) : W.cell? ⟨g, 0, none⟩ = some (.int .i64 x) ∧ W.cell? ⟨g, 1, none⟩ = some v := ⟨(h.st _ hp).cell 0, (h.st _ hp).cell 1⟩
theorem Dm.f (h : Dm w W fs ss) {v : Value} {L : List (List Int)} (hp : (v, L) ∈ fs) : RowsL W.heap.size W v L := h.fo _ hp
end
/-- What Read answers, without cases. -/
def rsV (S : List UInt8) : Int := match readAll S with | .inl _ => 0 | .inr x => x.1
def rsL (S : List UInt8) : List (List Int) := match readAll S with | .inl _ => [] | .inr x => x.2
def rsN (S : List UInt8) : Int := match readAll S with | .inl x => (x.1 : Int) | .inr _ => 0
def rsE (S : List UInt8) : Int := match readAll S with | .inl x => x.2 | .inr _ => 0
theorem rd_ok {S : List UInt8} {V : Int} {L : List (List Int)} (h : readAll S = .inr (V, L)) : rsV S = V ∧ rsL S = L ∧ rsN S = 0 ∧ rsE S = 0 := by
  unfold rsV rsL rsN rsE; rw [h]; exact ⟨rfl, rfl, rfl, rfl⟩
theorem rd_no {S : List UInt8} {n : Nat} {e : Int} (h : readAll S = .inl (n, e)) : rsV S = 0 ∧ rsL S = [] ∧ rsN S = n ∧ rsE S = e := by
  unfold rsV rsL rsN rsE; rw [h]; exact ⟨rfl, rfl, rfl, rfl⟩
theorem rd_small (S : List UInt8) : (rsL S).length ≤ 262144 ∧ ∀ zs ∈ rsL S, zs.length ≤ 4096 := by
  unfold rsL
  cases h : readAll S with
  | inl x => exact ⟨by simp, fun zs hz => by simp at hz⟩
  | inr x =>
    obtain ⟨-, -, h3, h4, -⟩ := readAll_ok h
    exact ⟨h3, fun zs hz => (h4 zs hz).1⟩
section
variable {w W : World} {fs : List (Value × List (List Int))} {ss : List (Nat × Int × Value)} {v v' : Value} {L L' : List (List Int)}
theorem dm_read (S : List UInt8) (hS : S.length ≤ 4000000000) (h : Dm w W fs ss) {V n E : Int} {L : List (List Int)} (hr : rsV S = V ∧ rsL S = L ∧ rsN S = n ∧ rsE S = E) :
    Calls Tryz.prog 17 #[str S] W fun e w' => ∃ A c, e = .returned (.tuple #[.agg #[.int .i64 V, .slice A L.length c], .int .i64 n, .int .i64 E]) ∧ Dm w w' ((.slice A L.length c, L) :: fs) ss :=
  (callsIn_wide.1 (dmRead_any S hS W h.env)).mono fun e w' ⟨hr', hb⟩ => by
    obtain ⟨rfl, rfl, rfl, rfl⟩ := hr
    unfold rsV rsL rsN rsE
    cases hx : readAll S with
    | inl x => rw [hx] at hr'; exact ⟨_, _, hr', (h.on hb).addF (rows_none _ _)⟩
    | inr x =>
      rw [hx] at hr'
      obtain ⟨v, he, ho⟩ := hr'
      have hl := OwnL.rowsL (L := x.2) ho
      obtain ⟨A, c, rfl, -⟩ := rowsL_shape hl
      exact ⟨A, c, he, (h.on hb).addF hl⟩
theorem dm_write (V : Int) (h : Dm w W fs ss) (hp : (v, L) ∈ fs) (hn : L.length ≤ 1000000000) (hz : ∀ zs ∈ L, zs.length ≤ 1000000) {T : List UInt8} {E : Int} (hT : writeT V L = (T, E)) :
    Calls Tryz.prog 18 #[.agg #[.int .i64 V, v]] W fun e w' => e = .returned (.tuple #[str T, .int .i64 E]) ∧ Dm w w' fs ss :=
  (write_any V W (Nat.le_refl _) hn hz (h.f hp) h.env.tab).mono fun _ _ ⟨he, hb⟩ => ⟨by rw [he, writeE_eq V L, hT], h.on hb⟩
theorem dm_canon (S : List UInt8) (hS : S.length ≤ 4000000000) (h : Dm w W fs ss) {T : List UInt8} {n E : Int} (hT : canT S = (T, n, E)) :
    Calls Tryz.prog 20 #[str S] W fun e w' => e = .returned (.tuple #[str T, .int .i64 n, .int .i64 E]) ∧ Dm w w' fs ss :=
  (canonical_any S hS W h.env).mono fun _ _ ⟨he, hb⟩ => ⟨by rw [he, hT], h.on hb⟩
theorem dm_same (x y : Int) (h : Dm w W fs ss) (hp : (v, L) ∈ fs) (hp' : (v', L') ∈ fs) (hn : L.length ≤ 1000000000) (hz : ∀ zs ∈ L, zs.length ≤ 1000000) (hz' : ∀ zs ∈ L', zs.length ≤ 1000000) :
    Calls Tryz.prog 21 #[.agg #[.int .i64 x, v], .agg #[.int .i64 y, v']] W fun e w' => e = .returned (.bool (decide (x = y ∧ L = L'))) ∧ Dm w w' fs ss :=
  (fosame_any x y W (Nat.le_refl _) hn hz hz' (h.f hp) (h.f hp')).mono fun _ _ ⟨he, hb⟩ => ⟨he, h.on hb⟩
theorem dm_sameq (x y : Int) (h : Dm w W fs ss) (hp : (v, L) ∈ fs) (hp' : (v', L') ∈ fs) (hn : L.length ≤ 1000000000) (hz : ∀ zs ∈ L, zs.length ≤ 1000000) (hz' : ∀ zs ∈ L', zs.length ≤ 1000000) {q : Bool} (hq : decide (x = y ∧ L = L') = q) :
    Calls Tryz.prog 21 #[.agg #[.int .i64 x, v], .agg #[.int .i64 y, v']] W fun e w' => e = .returned (.bool q) ∧ Dm w w' fs ss := hq ▸ dm_same x y h hp hp' hn hz hz'
theorem dm_check (V : Int) (h : Dm w W fs ss) (hp : (v, L) ∈ fs) (hn : L.length ≤ 1000000000) (hz : ∀ zs ∈ L, zs.length ≤ 1000000) :
    Calls Tryz.prog 22 #[.agg #[.int .i64 V, v]] W fun e w' => e = .returned (.tuple #[.int .i64 (chkI V L).1, .int .i64 (chkI V L).2]) ∧ Dm w w' fs ss :=
  (check_any V W (Nat.le_refl _) hn hz (h.f hp)).mono fun _ _ ⟨he, hb⟩ => ⟨he, h.on hb⟩
theorem dm_made {zss : List (List Int)} (h : Dm w W fs ss) (hz : ∀ zs ∈ zss, zs.length ≤ maxLen ∧ ∀ x ∈ zs, (Lit.int .u8 x).wf = true) (hL : Rows2 .u8 w.heap.size w v zss) :
    Calls Tryz.prog 19 #[v] W fun e w' => ∃ A c, e = .returned (.agg #[.int .i64 8, .slice A (madeF zss).length c]) ∧ Dm w w' ((.slice A (madeF zss).length c, madeF zss) :: fs) ss :=
  (foMade_any W h.below.size hz (hL.below h.below)).mono fun e w' ⟨v', he, ho, hb⟩ => by
    have hl := ho.rowsL
    obtain ⟨A, c, rfl, -⟩ := rowsL_shape hl
    exact ⟨A, c, he, (h.on hb).addF hl⟩
theorem dm_of (vars : Int) (h : Dm w W fs ss) {W1 : World} (hb : Below W.heap.size W W1) (hn : L.length ≤ 262144) (hz : ∀ zs ∈ L, zs.length ≤ 1000000) (hL : RowsL W1.heap.size W1 v L) :
    Calls Tryz.prog 15 #[.int .i64 vars, v] W1 fun e w' => ∃ A c, e = .returned (.agg #[.int .i64 vars, .slice A L.length c]) ∧ Dm w w' ((.slice A L.length c, L) :: fs) ss :=
  (foof_any vars W1 (Nat.le_refl _) hn hz hL).mono fun e w' ⟨v', he, ho, hB⟩ => by
    have hl := ho.rowsL
    obtain ⟨A, c, rfl, -⟩ := rowsL_shape hl
    exact ⟨A, c, he, ((h.on hb).on hB).addF hl⟩
end
/-! ### The formulas that the laws make -/
theorem linesF_len : ∀ {L : List (List Int)} {n : Nat}, (∀ zs ∈ L, zs.length ≤ n) → (linesF L).length ≤ L.length * (22 * n + 2)
  | [], n, _ => by simp [linesF]
  | c :: L, n, h => by
    have h1 := linesF_len (L := L) (n := n) fun zs hz => h zs (by simp [hz])
    have h2 := words_len c
    have h3 := h c (by simp)
    have e : linesF (c :: L) = lineL c ++ [10] ++ linesF L := by unfold linesF; simp
    rw [e, List.length_append, List.length_append, show (c :: L).length = L.length + 1 from rfl, show (L.length + 1) * (22 * n + 2) = L.length * (22 * n + 2) + (22 * n + 2) from Nat.succ_mul _ _]
    unfold lineL
    simp only [List.length_append, List.length_cons, List.length_nil]
    have : 22 * c.length ≤ 22 * n := Nat.mul_le_mul_left 22 h3
    omega
theorem made_len (zss : List (List Int)) : (textF 8 (madeF zss)).length ≤ 20000 := by
  have h1 := linesF_len (L := madeF zss) (n := 20) fun zs hz => (madeF_cl zs hz).1
  have h2 := madeF_len zss
  have h3 := hdr_len (v := 8) (n := (madeF zss).length) (by omega) (by omega) (by omega) (by omega)
  unfold textF
  simp only [List.length_append, List.length_cons, List.length_nil]
  have : (madeF zss).length * (22 * 20 + 2) ≤ 30 * (22 * 20 + 2) := Nat.mul_le_mul_right _ h2
  omega
theorem made_write (zss : List (List Int)) : writeT 8 (madeF zss) = (textF 8 (madeF zss), 0) := by
  have := made_len zss
  unfold writeT
  rw [chk_made, if_pos rfl, if_neg (by omega)]
theorem cl_okC {zs : List Int} (h : Cl8 zs) : zs.length ≤ 4096 ∧ ∀ l ∈ zs, litB l = true ∧ varI l ≤ 8 := ⟨by have := h.1; omega, fun l hl => by
  have h1 := h.2 l hl
  have h2 := lit_small (l := l) (by omega)
  exact ⟨h2, by rw [varI_small h2]; omega⟩⟩
theorem made_read (zss : List (List Int)) : readAll (textF 8 (madeF zss)) = .inr (8, madeF zss) :=
  read_back (by omega) (by omega) (by have := madeF_len zss; omega) (fun c hc => cl_okC (madeF_cl c hc)) (by have := made_len zss; omega)
theorem made_canon (zss : List (List Int)) : canT (textF 8 (madeF zss)) = (textF 8 (madeF zss), 0, 0) := by
  unfold canT
  rw [made_read]
  dsimp only
  rw [made_write]
theorem made_inj {a b : List (List Int)} (h : textF 8 (madeF a) = textF 8 (madeF b)) : madeF a = madeF b := by
  have h1 := made_read a
  rw [h, made_read b] at h1
  injection h1 with h1
  injection h1 with _ h1
  exact h1.symm
end Go.Proofs.YticcgmegimiegaaGreatDoor
