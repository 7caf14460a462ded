/- What the laws use of the arena: its calls, one by one. -/
import Derived.Test.YtjkhhnfmefbohaaArRange
import Derived.Test.YtjkhhnfmefbohaaEqual
namespace Go.Proofs.Ytjkhhnfmefbohaa
open Go.RowKit Go.ChangeAt Go.ChangeShapes Go.WideShapes

theorem posOf_take_lt {L : List (Int × List Int)} (hp : L.Pairwise fun a b => a.1 < b.1) (h0 : ∀ p ∈ L, 1 ≤ p.1) {k : Nat} (hk : k < L.length) : posOf (L.take k) < (L[k]'hk).1 := by
  cases k with
  | zero =>
    have := h0 _ (List.getElem_mem hk)
    show (0 : Int) < _
    omega
  | succ k =>
    rw [List.take_succ_eq_append_getElem (by omega : k < L.length), posOf_snoc]
    exact List.pairwise_iff_getElem.1 hp k (k + 1) (by omega) hk (by omega)
/-- Behind the first k clauses of an arena comes the next one. -/
theorem nextOf_take {L : List (Int × List Int)} (hp : L.Pairwise fun a b => a.1 < b.1) (h0 : ∀ p ∈ L, 1 ≤ p.1) {k : Nat} (hk : k ≤ L.length) : nextOf L (posOf (L.take k)) = L[k]? := by
  have hle : ∀ y ∈ L.take k, y.1 ≤ posOf (L.take k) := by
    intro y hy
    obtain ⟨j, hj⟩ := List.mem_iff_getElem?.1 hy
    obtain ⟨hjl, rfl⟩ := List.getElem?_eq_some_iff.1 hj
    rw [List.length_take] at hjl
    cases k with
    | zero => omega
    | succ k =>
      have hpk : posOf (L.take (k + 1)) = (L[k]'(by omega)).1 := by rw [List.take_succ_eq_append_getElem (by omega : k < L.length), posOf_snoc]
      rw [hpk, List.getElem_take]
      rcases Nat.lt_or_ge j k with h1 | h1
      · exact Int.le_of_lt (List.pairwise_iff_getElem.1 hp j k (by omega) (by omega) h1)
      · obtain rfl : j = k := by omega
        exact Int.le_refl _
  rcases Nat.lt_or_ge k L.length with h | h
  · rw [List.getElem?_eq_getElem h]
    refine nextOf_mk hp (List.getElem_mem h) (posOf_take_lt hp h0 h) fun y hy hlt => ?_
    obtain ⟨j, hj⟩ := List.mem_iff_getElem?.1 hy
    obtain ⟨hjl, rfl⟩ := List.getElem?_eq_some_iff.1 hj
    have hjk : j < k := by
      rcases Nat.lt_or_ge j k with h1 | h1
      · exact h1
      · rcases Nat.eq_or_lt_of_le h1 with rfl | h1
        · exact absurd hlt (Int.lt_irrefl _)
        · have := List.pairwise_iff_getElem.1 hp k j h hjl h1
          omega
    exact hle _ (List.mem_take_iff_getElem.2 ⟨j, by omega, rfl⟩)
  · rw [List.getElem?_eq_none h, nextOf, List.find?_eq_none]
    intro y hy
    have : y ∈ L.take k := by rw [List.take_of_length_le h]; exact hy
    have := hle y this
    simpa using this
/-- What has come of an arena that stays as it is. -/
def Come (L xs : List (Int × List Int)) : Prop := ∃ k, k ≤ L.length ∧ xs = L.take k
theorem come_nil (L : List (Int × List Int)) : Come L [] := ⟨0, Nat.zero_le _, rfl⟩
theorem Come.step {L xs : List (Int × List Int)} {x : Int × List Int} (hp : L.Pairwise fun a b => a.1 < b.1) (h0 : ∀ p ∈ L, 1 ≤ p.1) (h : Come L xs) (hx : nextOf L (posOf xs) = some x) : L[xs.length]? = some x ∧ Come L (xs ++ [x]) := by
  obtain ⟨k, hk, rfl⟩ := h
  rw [nextOf_take hp h0 hk] at hx
  obtain ⟨hl, rfl⟩ := List.getElem?_eq_some_iff.1 hx
  have hlen : (L.take k).length = k := by rw [List.length_take]; omega
  rw [hlen]
  exact ⟨hx, k + 1, hl, by rw [List.take_succ_eq_append_getElem hl]⟩
theorem Come.all {L xs : List (Int × List Int)} (hp : L.Pairwise fun a b => a.1 < b.1) (h0 : ∀ p ∈ L, 1 ≤ p.1) (h : Come L xs) (hx : nextOf L (posOf xs) = none) : xs = L := by
  obtain ⟨k, hk, rfl⟩ := h
  rw [nextOf_take hp h0 hk] at hx
  have := List.getElem?_eq_none_iff.1 hx
  exact List.take_of_length_le this

abbrev laidO (xs : List Int) (T : TypeId) : Obj := .cells ((xs.map (Value.int .i64)).toArray) T
/-- A list of numbers that was just laid is none of an object's own. -/
theorem intsF_laid {K : Nat → Prop} {W : World} (h : KOk K W) (xs : List Int) (T : TypeId) : IntsF .i64 K (W.alloc (laidO xs T)) (.slice (some ⟨W.heap.size, 0, none⟩) xs.length xs.length) xs := by
  refine .inr ⟨W.heap.size, 0, xs.length, rfl, by simp, fun x => Nat.lt_irrefl _ (h.lt x), fun j hj => ?_⟩
  rw [Nat.zero_add, (Whole.made W T _).cell j]
  simp [hj]
theorem intsF_nil {K : Nat → Prop} {W : World} (k : IntKind) : IntsF k K W (.slice none 0 0) [] := .inl ⟨_, _, rfl, fun _ => rfl, rfl⟩
theorem row_intsF {K : Nat → Prop} {W : World} {B : Nat} {e : TypeId} {v : Value} {n : Nat} {xs : List Int} (h : W.ownsRow B e 1 v n (xs.map (Value.int .i64))) (hK : ∀ b, v.ownBlock = some b → ¬ K b) : IntsF .i64 K W v xs := by
  have hl : xs.length = n := by simpa using h.1
  rcases h.2 with ⟨rfl, h0⟩ | ⟨g, cap, cur, rfl, hb, hg, hn, hm, hs, ht⟩
  · subst h0
    exact .inl ⟨_, _, rfl, fun _ => rfl, List.eq_nil_of_length_eq_zero hl⟩
  · refine .inr ⟨g, 0, cap, by rw [hl], (h.lt g rfl).2, hK g rfl, fun j hj => ?_⟩
    rw [Nat.zero_add, h.cellAt j (by omega), List.getElem?_map]
    simp [hj]

section
variable {K : Nat → Prop} {g : Nat} {L : List (Int × List Int)} {last : Int} {id : Int} {c : List Int} {w : World} {cv : Value}
theorem add_ok (h : Ar K w g L last) (hI : IntsF .i64 K w cv c) (h1 : rightB c = true) (h2 : last < id) (h3 : id ≤ 1073741824) (h4 : sumL L + c.length ≤ 1048576) :
    Calls Try.prog 14 #[.pointer (some ⟨g, 0, none⟩), .int .i64 id, cv] w fun r w' => ∃ K', r = .returned (.int .i64 0) ∧ Ar K' w' g (L ++ [(id, c)]) id ∧ Turn K w K' w' := by
  have h0 := addE_mk (L := L) h1 h2 h3 h4
  have hc := (rightB_of h1).1
  refine (add_ar id cv c h hI (by omega)).mono fun r w' ⟨K', hr, hA, ht⟩ => ⟨K', by rw [hr, h0], ?_, ht⟩
  unfold addL addN at hA
  rwa [if_pos h0, if_pos h0] at hA
theorem add_bad {e : Int} (h : Ar K w g L last) (hI : IntsF .i64 K w cv c) (hc : c.length ≤ 100000000) (he : addE L last id c = e) (h0 : e ≠ 0) :
    Calls Try.prog 14 #[.pointer (some ⟨g, 0, none⟩), .int .i64 id, cv] w fun r w' => r = .returned (.int .i64 e) ∧ Below w.heap.size w w' := by
  obtain ⟨es, hA, rfl, hH⟩ := h
  subst he
  exact add_not id cv c w hA hI hc h0
theorem del_ok {ls : List Int} (h : Ar K w g L last) (hm : (id, ls) ∈ L) : Calls Try.prog 15 #[.pointer (some ⟨g, 0, none⟩), .int .i64 id] w fun r w' =>
    r = .returned (.int .i64 0) ∧ ∃ K', Ar K' w' g (L.filter fun p => decide (p.1 ≠ id)) last ∧ Turn K w K' w' := by
  obtain ⟨es, hA, rfl, hH⟩ := h
  obtain ⟨k, e, hk, ho, rfl, rfl⟩ := mem_clO hm
  refine (del_yes w hA hk ho).mono fun r w' ⟨hr, K', fs, hA', hc, hb, ht⟩ => ⟨hr, K', ⟨fs, hA', by rw [hc, offI_cl], ?_⟩, ht⟩
  rw [← offI_cl, ← hc]
  exact hb
theorem del_bad (h : Ar K w g L last) (hw : (Lit.int .i64 id).wf = true) (hm : ∀ p ∈ L, p.1 ≠ id) : Calls Try.prog 15 #[.pointer (some ⟨g, 0, none⟩), .int .i64 id] w fun r w' =>
    r = .returned (.int .i64 30) ∧ Below w.heap.size w w' := by
  obtain ⟨es, hA, rfl, hH⟩ := h
  exact del_no id hw w hA (isOn_no hm)
/-- A store beside an arena leaves it. -/
theorem Ar.set (h : Ar K w g L last) {p : Addr} (hp : ¬ K p.block) (u : Value) : Ar K (w.setCell p u) g L last := by
  have hg : w.grownBy (w.setCell p u) (some p.block) := ⟨rfl, rfl, rfl, by simp [World.setCell], fun k _ hk => Below.heap_setCell _ _ _ _ (fun e => hk (by rw [e]))⟩
  obtain ⟨es, ⟨sv, ev, m, n, D, h1, h2, h3, h4, h5, h6, h7, h8, h9, h10, h11, h12⟩, hL, hH⟩ := h
  refine ⟨es, ⟨sv, ev, m, n, D, h1.same (hg.block g h1.lt (fun e => hp (by cases e; exact h8))), h2.kept hg ?_, h3.kept hg ?_, h4.kept hg (fun e => hp (by cases e; exact h9)), h5, h6, h7, h8, h9, h10, h11, fun i hi => ?_⟩, hL, hH⟩
  · cases hb : sv.ownBlock with
    | none => exact .inl rfl
    | some b => exact .inr fun e => hp (by cases e; exact h10 _ hb)
  · cases hb : ev.ownBlock with
    | none => exact .inl rfl
    | some b => exact .inr fun e => hp (by cases e; exact h11 _ hb)
  · obtain ⟨o, ho, hpl⟩ := h12 i hi
    exact ⟨o, (hg.block i (Array.getElem?_eq_some_iff.1 ho).1 (fun e => hp (by cases e; exact hi))).trans ho, hpl⟩
theorem Ar.turn_odd {K' : Nat → Prop} {w' : World} (h : Ar K w g L last) (t : Turn K w K' w') : Odd w w' := Odd.of_keeps t.1 h.kok
end
end Go.Proofs.Ytjkhhnfmefbohaa
