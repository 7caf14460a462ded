/- Where the entry behind a number stands. -/
import Derived.Test.YtjkhhnfmefbohaaArRead
import Derived.LoopNIn
namespace Go.Proofs.Ytjkhhnfmefbohaa
open Go.RowKit Go.ChangeAt Go.ChangeShapes Go.WideShapes

def entA (id of ln : Int) : Value := .agg #[.int .i64 id, .int .i64 of, .int .i64 ln]
theorem cmpI_neg (a b : Int) : cmpI a b < 0 ↔ a < b := by unfold cmpI; split <;> (try split) <;> omega
set_option maxHeartbeats 400000 in
theorem behind1_any (id of ln n : Int) (w : World) : Calls Try.prog 50 #[.agg #[.int .i64 id, .int .i64 of, .int .i64 ln], .int .i64 n] w fun r w' => r = .returned (.int .i64 (cmpI id n)) ∧ Below w.heap.size w w' := by
  go_enter Try.func50, Try.ntmps50
  go_wp2_with (go_at_call 51; refine (cmp2 _ _ _).mono ?_; rintro e w' ⟨rfl, rfl⟩)
  go_ret
  exact ⟨rfl, below1a _ _⟩

/-- How many entries have a number up to n. -/
def upTo (es : List Ent) (n : Int) : Nat := es.countP fun e => decide (e.id ≤ n)
theorem upTo_le (es : List Ent) (n : Int) : upTo es n ≤ es.length := List.countP_le_length
theorem upTo_lt {es : List Ent} (hp : es.Pairwise fun a b => a.id < b.id) {n : Int} {k : Nat} {e : Ent} (hk : es[k]? = some e) : e.id ≤ n ↔ k < upTo es n := by
  induction es generalizing k with
  | nil => simp at hk
  | cons x r ih =>
    obtain ⟨h1, h2⟩ := List.pairwise_cons.1 hp
    unfold upTo at *
    rw [List.countP_cons]
    cases k with
    | zero =>
      obtain rfl : x = e := by simpa using hk
      by_cases hx : x.id ≤ n
      · simp [hx]
      · have : r.countP (fun e => decide (e.id ≤ n)) = 0 := by
          rw [List.countP_eq_zero]
          intro y hy
          have := h1 y hy
          simp; omega
        simp [hx, this]
    | succ k =>
      have hk' : r[k]? = some e := by simpa using hk
      have ih := ih h2 hk'
      by_cases hx : x.id ≤ n
      · simp only [hx, decide_true, if_true]; omega
      · have := h1 e (List.mem_of_getElem? hk')
        have hen : ¬ e.id ≤ n := by omega
        have : r.countP (fun e => decide (e.id ≤ n)) = 0 := by
          rw [List.countP_eq_zero]
          intro y hy
          have := h1 y hy
          simp; omega
        simp only [hen, false_iff]
        simp [hx, this]

def BsRel (es : List Ent) (n : Int) (w : World) (i j : Value) (wr : World) : Prop :=
  ∃ a b : Nat, i = .int .i64 a ∧ j = .int .i64 b ∧ a ≤ upTo es n ∧ upTo es n ≤ b ∧ b ≤ es.length ∧ Below w.heap.size w wr
set_option maxRecDepth 100000 in
set_option maxHeartbeats 2000000 in
theorem bsf_any (es : List Ent) (n : Int) (ev : Value) (w : World) (hl : es.length ≤ 1073741824) (hp : es.Pairwise fun a b => a.id < b.id) (he : w.ownsRow 0 77 3 ev es.length (entV 0 es)) :
    Calls Try.prog 49 #[ev, .int .i64 (n + 1), .func (.func 50) #[] #[]] w fun r w' =>
      ∃ b, r = .returned (.tuple #[.int .i64 (upTo es n : Nat), .bool b]) ∧ Below w.heap.size w w' := by
  obtain ⟨A, c, rfl⟩ := own_shape0 he
  have hc := fun k e (hk : es[k]? = some e) => ent_cells he hk
  have hle := upTo_le es n
  have HC := Lib.hid hc; have HP := Lib.hid hp; clear he hc hp
  go_enter Try.func49, Try.ntmps49
  go_wp2_with fail
  go_loopw [9, 10] (fun i j wr => BsRel es n w i j wr) (fun i j _ => (intOf j).toNat - (intOf i).toNat)
  case atStart => exact ⟨0, es.length, rfl, rfl, Nat.zero_le _, hle, Nat.le_refl _, Below.refl _ _⟩
  case round =>
    obtain ⟨a, b, rfl, rfl, ha, hb, hbl, hbw⟩ := hrel
    by_cases hlt : a < b
    · obtain ⟨e, hk⟩ : ∃ e, es[(a + b) / 2]? = some e := ⟨es[(a + b) / 2]'(by omega), List.getElem?_eq_getElem _⟩
      obtain ⟨bb, cap, hsv, hbl2, e0, e1, e2⟩ := HC.out _ e hk
      have hu := upTo_lt HP.out (n := n) hk
      have e0 := (hbw.cell (p := ⟨bb, (a + b) / 2 * 3, none⟩) hbl2).trans e0
      have e1 := (hbw.cell (p := ⟨bb, (a + b) / 2 * 3 + 1, none⟩) hbl2).trans e1
      have e2 := (hbw.cell (p := ⟨bb, (a + b) / 2 * 3 + 2, none⟩) hbl2).trans e2
      injection hsv with hA _ hcap
      subst hA hcap
      obtain ⟨of, hOf⟩ : ∃ i, offE es ((a + b) / 2) = i := ⟨_, rfl⟩
      rw [hOf] at e1
      clear hk hOf
      have HU := Lib.hid hu; clear hu
      have s1 : IntKind.i64.wrap ((a : Int) + (b : Int)) = (a : Int) + (b : Int) := IntWalk.i64_in _ (by omega)
      obtain ⟨i, hI⟩ : ∃ i, e.id = i := ⟨_, rfl⟩
      rw [hI] at e0 HU
      clear hI
      by_cases hx : i ≤ n
      · have s5 : cmpI i (n + 1) < 0 := (cmpI_neg _ _).2 (by omega)
        have hu := HU.out.1 hx
        go_wp2_with (go_at_call 50; refine (behind1_any _ _ _ _ _).mono ?_; rintro r w1 ⟨rfl, hB1⟩)
        refine ⟨⟨(a + b) / 2 + 1, b, by simp, rfl, by omega, hb, hbl, hbw.trans (hB1.mono hbw.size)⟩, ?_⟩
        simp [intOf]; omega
      · have s5 : ¬ cmpI i (n + 1) < 0 := fun x => hx (by have := (cmpI_neg _ _).1 x; omega)
        have hu : ¬ (a + b) / 2 < upTo es n := fun x => hx (HU.out.2 x)
        go_wp2_with (go_at_call 50; refine (behind1_any _ _ _ _ _).mono ?_; rintro r w1 ⟨rfl, hB1⟩)
        refine ⟨⟨a, (a + b) / 2, rfl, by simp, ha, by omega, by omega, hbw.trans (hB1.mono hbw.size)⟩, ?_⟩
        simp [intOf]; omega
    · obtain rfl : a = b := by omega
      obtain rfl : a = upTo es n := by omega
      by_cases hl2 : upTo es n < es.length
      · obtain ⟨e, hk⟩ : ∃ e, es[upTo es n]? = some e := ⟨es[upTo es n]'hl2, List.getElem?_eq_getElem _⟩
        obtain ⟨bb, cap, hsv, hbl2, e0, e1, e2⟩ := HC.out _ e hk
        obtain ⟨u, hU⟩ : ∃ u, upTo es n = u := ⟨_, rfl⟩
        rw [hU] at e0 e1 e2 hl2 ⊢
        have e0 := (hbw.cell (p := ⟨bb, u * 3, none⟩) hbl2).trans e0
        have e1 := (hbw.cell (p := ⟨bb, u * 3 + 1, none⟩) hbl2).trans e1
        have e2 := (hbw.cell (p := ⟨bb, u * 3 + 2, none⟩) hbl2).trans e2
        injection hsv with hA _ hcap
        subst hA hcap
        have HU2 := Lib.hid hU
        clear hk hU
        go_wp2_with (go_at_call 50; refine (behind1_any _ _ _ _ _).mono ?_; rintro r w1 ⟨rfl, hB1⟩)
        go_ret2
        exact ⟨cmpI e.id (n + 1) == 0, by rw [HU2.out]; rfl, hbw.trans (hB1.mono hbw.size)⟩
      · go_wp2_with fail
        go_ret2
        exact ⟨false, rfl, hbw⟩

set_option maxHeartbeats 400000 in
theorem behind_any {K : Nat → Prop} {g : Nat} {es : List Ent} {last : Int} (n : Int) (hn : n ≤ 1073741824) (h0 : 0 ≤ n) (w : World) (h : Arena K w g es last) : Calls Try.prog 44 #[.pointer (some ⟨g, 0, none⟩), .int .i64 n] w fun r w' =>
    r = .returned (.int .i64 (upTo es n : Nat)) ∧ Below w.heap.size w w' := by
  have hgd := h.good
  obtain ⟨sv, ev, m, nn, D, ⟨-, hc1, -, -, -⟩, -, -, -, he, -, -, -⟩ := h.cells
  have hb := bsf_any es n ev w hgd.len_le hgd.inc he
  have HB := Lib.hid hb
  clear h hgd he hb
  go_enter Try.func44, Try.ntmps44
  go_wp2_with (go_at_call 49; refine (HB.out).mono ?_; rintro e w1 ⟨b, rfl, hB1⟩)
  go_ret
  exact ⟨rfl, hB1⟩
end Go.Proofs.Ytjkhhnfmefbohaa
