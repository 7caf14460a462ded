/- A play: an arena, the reference beside it, and what a call does to both. -/
import Derived.Test.YtjkhhnfmefbohaaSame
import Derived.Test.YtjkhhnfmefbohaaFew
namespace Go.Proofs.Ytjkhhnfmefbohaa
open Go.RowKit Go.ChangeAt Go.ChangeShapes Go.WideShapes Go.Sort

/-! ### the reference's calls, whatever comes of them -/
theorem RefRow.lt {B C : Nat} {W : World} {av : Value} {L : List (Int × List Int)} (h : RefRow B C W av L) : ∀ b, av.ownBlock = some b → B ≤ b ∧ b < W.heap.size := fun b e => by
  obtain ⟨vs, -, hr, -⟩ := h
  exact hr.lt b e
theorem add_ref {B C : Nat} {av cv : Value} {L : List (Int × List Int)} {last : Int} {c : List Int} (id : Int) (w : World) (hCw : C ≤ w.heap.size) (hBw : B ≤ w.heap.size) (h : RefRow B C w av L) (hc : Ints C w cv c) (hcl : c.length ≤ 1000000000) (h0 : 0 ≤ last) (h1 : last ≤ 1073741824) (hL : L.length ≤ 1000000) (hS : sumL L ≤ 1048576) :
    Calls Try.prog 30 #[.agg #[av, .int .i64 last], .int .i64 id, cv] w fun r w' => ∃ av', r = .returned (.tuple #[.agg #[av', .int .i64 (addN L last id c)], .int .i64 (addE L last id c)]) ∧ RefRow B C w' av' (addL L last id c) ∧ (∀ b, av'.ownBlock = some b → av.ownBlock = some b ∨ w.heap.size ≤ b) ∧ Below w.heap.size w w' := by
  by_cases hy : addE L last id c = 0
  · refine (add_ref_yes id w hCw h hc hcl h0 h1 hL hS hy).mono fun r w' ⟨av', hr, hR, hb⟩ => ⟨av', ?_, ?_, fun b e => .inr (hR.lt b e).1, hb⟩
    · unfold addN; rw [if_pos hy, hy]; exact hr
    · unfold addL; rw [if_pos hy]; exact hR.base hBw
  · refine (add_ref_no id w hCw h hc hcl h0 h1 hL hS hy).mono fun r w' ⟨hr, hb⟩ => ⟨av, ?_, ?_, fun b e => .inl e, hb⟩
    · unfold addN; rw [if_neg hy]; exact hr
    · unfold addL; rw [if_neg hy]; exact h.on hCw hb
def delE (L : List (Int × List Int)) (id : Int) : Int := if L.any (fun p => decide (p.1 = id)) then 0 else 30
def delL (L : List (Int × List Int)) (id : Int) : List (Int × List Int) := L.filter fun p => decide (p.1 ≠ id)
theorem delE_in {L : List (Int × List Int)} {id : Int} {ls : List Int} (h : (id, ls) ∈ L) : delE L id = 0 := by
  unfold delE
  rw [if_pos (List.any_eq_true.2 ⟨_, h, decide_eq_true rfl⟩)]
theorem delE_out {L : List (Int × List Int)} {id : Int} (h : ∀ p ∈ L, p.1 ≠ id) : delE L id = 30 ∧ delL L id = L := by
  unfold delE delL
  refine ⟨if_neg (fun e => ?_), List.filter_eq_self.2 fun p hp => decide_eq_true (h p hp)⟩
  obtain ⟨p, hp, hq⟩ := List.any_eq_true.1 e
  exact h p hp (of_decide_eq_true hq)
theorem del_ref {B C : Nat} {av : Value} {L : List (Int × List Int)} {last : Int} (id : Int) (w : World) (hCw : C ≤ w.heap.size) (hBw : B ≤ w.heap.size) (h : RefRow B C w av L) (hL : L.length ≤ 1000000) (hp : L.Pairwise fun a b => a.1 < b.1) :
    Calls Try.prog 31 #[.agg #[av, .int .i64 last], .int .i64 id] w fun r w' => ∃ av', r = .returned (.tuple #[.agg #[av', .int .i64 last], .int .i64 (delE L id)]) ∧ RefRow B C w' av' (delL L id) ∧ (∀ b, av'.ownBlock = some b → av.ownBlock = some b ∨ w.heap.size ≤ b) ∧ Below w.heap.size w w' := by
  by_cases hx : ∃ p ∈ L, p.1 = id
  · obtain ⟨⟨id', ls⟩, hm, rfl⟩ := hx
    obtain ⟨k, hk⟩ := List.mem_iff_getElem?.1 hm
    refine (del_ref_yes _ ls k w hCw h hL hp hk).mono fun r w' ⟨av', hr, hR, hb⟩ => ⟨av', ?_, hR.base hBw, fun b e => .inr (hR.lt b e).1, hb⟩
    rw [delE_in hm]; exact hr
  · obtain ⟨e1, e2⟩ := delE_out (L := L) (id := id) fun p hp e => hx ⟨p, hp, e⟩
    refine (del_ref_no id w hCw h (by omega) fun p hp e => hx ⟨p, hp, e⟩).mono fun r w' ⟨hr, hb⟩ => ⟨av, ?_, ?_, fun b e => .inl e, hb⟩
    · rw [e1]; exact hr
    · rw [e2]; exact h.on hCw hb
theorem del_ar {K : Nat → Prop} {g : Nat} {L : List (Int × List Int)} {last id : Int} {w : World} (h : Ar K w g L last) (hw : (Lit.int .i64 id).wf = true) : Calls Try.prog 15 #[.pointer (some ⟨g, 0, none⟩), .int .i64 id] w fun r w' =>
    ∃ K', r = .returned (.int .i64 (delE L id)) ∧ Ar K' w' g (delL L id) last ∧ Turn K w K' w' := by
  by_cases hx : ∃ p ∈ L, p.1 = id
  · obtain ⟨⟨id', ls⟩, hm, rfl⟩ := hx
    refine (del_ok h hm).mono fun r w' ⟨hr, K', hA, hT⟩ => ⟨K', ?_, hA, hT⟩
    rw [delE_in hm]; exact hr
  · obtain ⟨e1, e2⟩ := delE_out (L := L) (id := id) fun p hp e => hx ⟨p, hp, e⟩
    refine (del_bad h hw fun p hp e => hx ⟨p, hp, e⟩).mono fun r w' ⟨hr, hb⟩ => ⟨K, ?_, ?_, Turn.of_below hb⟩
    · rw [e1]; exact hr
    · rw [e2]; exact h.on hb
theorem addL_len (L : List (Int × List Int)) (last id : Int) (c : List Int) : (addL L last id c).length ≤ L.length + 1 := by
  unfold addL; split <;> simp
theorem addL_mem {L : List (Int × List Int)} {last id : Int} {c : List Int} {n : Nat} (h : ∀ p ∈ L, p.2.length ≤ n) (hc : c.length ≤ n) : ∀ p ∈ addL L last id c, p.2.length ≤ n := fun p hp => by
  unfold addL at hp
  split at hp
  · rcases List.mem_append.1 hp with hp | hp
    · exact h p hp
    · obtain rfl : p = _ := by simpa using hp
      exact hc
  · exact h p hp
theorem delL_len (L : List (Int × List Int)) (id : Int) : (delL L id).length ≤ L.length := List.length_filter_le _ _
theorem delL_mem {L : List (Int × List Int)} {id : Int} {n : Nat} (h : ∀ p ∈ L, p.2.length ≤ n) : ∀ p ∈ delL L id, p.2.length ≤ n := fun p hp => h p (List.mem_filter.1 hp).1

/-! ### what is kept between the calls -/
/-- An arena with L1, and beside it, in the cell rb, the reference with L2. -/
structure PS (rb : Nat) (K : Nat → Prop) (g : Nat) (L1 : List (Int × List Int)) (last1 : Int) (av : Value) (L2 : List (Int × List Int)) (last2 : Int) (w W : World) : Prop where
  ar : Ar K W g L1 last1
  cell : Whole W rb 65 #[av, .int .i64 last2]
  row : RefRow w.heap.size w.heap.size W av L2
  offr : ∀ b, av.ownBlock = some b → ¬ K b
  off : ¬ K rb
  base : ∀ i, K i → w.heap.size ≤ i
  below : Below w.heap.size w W
  rbB : w.heap.size ≤ rb
section
variable {rb g : Nat} {K K' : Nat → Prop} {L1 L1' L2 L2' : List (Int × List Int)} {last1 last1' last2 last2' : Int} {av av' : Value} {w W W' : World}
theorem PS.turn (h : PS rb K g L1 last1 av L2 last2 w W) (t : Turn K W K' W') (hA : Ar K' W' g L1' last1') : PS rb K' g L1' last1' av L2 last2 w W' :=
  ⟨hA, h.cell.same (t.1.block _ h.cell.lt h.off), h.row.keeps t.1 h.offr (t.below h.below.size h.base), fun b e => t.off (h.row.lt b e).2 (h.offr b e), t.off h.cell.lt h.off, t.from_ h.below.size h.base, h.below.trans (t.below h.below.size h.base), h.rbB⟩
theorem PS.on (h : PS rb K g L1 last1 av L2 last2 w W) (hb : Below W.heap.size W W') : PS rb K g L1 last1 av L2 last2 w W' := h.turn (Turn.of_below hb) (h.ar.on hb)
theorem RefRow.grown {B C : Nat} {L : List (Int × List Int)} (h : RefRow B C W av L) {row : Option Nat} (hg : W.grownBy W' row) (hn : av.ownBlock = none ∨ av.ownBlock ≠ row) (hb : Below C W W') : RefRow B C W' av L := by
  obtain ⟨vs, hl, hr, hv⟩ := h
  exact ⟨vs, hl, hr.kept hg hn, fun j p v h1 h2 => (hv j p v h1 h2).below hb⟩
theorem PS.grown (h : PS rb K g L1 last1 av L2 last2 w W) {r : Nat} (hg : W.grownBy W' (some r)) (h1 : w.heap.size ≤ r) (h2 : ¬ K r) (h3 : r ≠ rb) (h4 : av.ownBlock ≠ some r) : PS rb K g L1 last1 av L2 last2 w W' := by
  have hb : Below w.heap.size W W' := (Below.refl w.heap.size W).grown hg h.below.size (fun k e => by cases e; exact h1)
  exact ⟨h.ar.grown hg (fun k e => by cases e; exact h2), h.cell.same (hg.block rb h.cell.lt (fun e => by cases e; exact h3 rfl)), h.row.grown hg (.inr h4) hb, h.offr, h.off, h.base, h.below.trans hb, h.rbB⟩
theorem PS.put (h : PS rb K g L1 last1 av L2 last2 w W) (hr : RefRow w.heap.size w.heap.size W av' L2') (hk : ∀ b, av'.ownBlock = some b → ¬ K b) (l : Int) :
    PS rb K g L1 last1 av' L2' l w ((W.setCell ⟨rb, 0, none⟩ av').setCell ⟨rb, 1, none⟩ (.int .i64 l)) := by
  have hne : av'.ownBlock ≠ some rb := by
    obtain ⟨vs, -, ho, -⟩ := hr
    exact h.cell.row_ne ho (by decide)
  have g1 := grownBy_set W rb 0 av'
  have g2 := grownBy_set (W.setCell ⟨rb, 0, none⟩ av') rb 1 (.int .i64 l)
  have b1 : Below w.heap.size W (W.setCell ⟨rb, 0, none⟩ av') := (Below.refl _ _).setCell (p := ⟨rb, 0, none⟩) h.rbB _
  have b2 : Below w.heap.size (W.setCell ⟨rb, 0, none⟩ av') ((W.setCell ⟨rb, 0, none⟩ av').setCell ⟨rb, 1, none⟩ (.int .i64 l)) := (Below.refl _ _).setCell (p := ⟨rb, 1, none⟩) h.rbB _
  exact ⟨(h.ar.set (p := ⟨rb, 0, none⟩) h.off _).set (p := ⟨rb, 1, none⟩) h.off _, (h.cell.store 0 _).store 1 _, (hr.grown g1 (.inr hne) b1).grown g2 (.inr hne) b2, hk, h.off, h.base, (h.below.trans b1).trans b2, h.rbB⟩
end
end Go.Proofs.Ytjkhhnfmefbohaa
