/- The arena by its clauses alone: what Add comes to, whatever is added. -/
import Derived.Test.YtjkhhnfmefbohaaArAdd2
namespace Go.Proofs.Ytjkhhnfmefbohaa
open Go.RowKit Go.ChangeAt Go.ChangeShapes Go.WideShapes

/-- An arena with these clauses. -/
def Ar (K : Nat → Prop) (w : World) (g : Nat) (L : List (Int × List Int)) (last : Int) : Prop := ∃ es, Arena K w g es last ∧ clO es = L ∧ (stO es).length ≤ 2 * sumL L + 64
structure GoodL (L : List (Int × List Int)) (last : Int) : Prop where
  inc : L.Pairwise fun a b => a.1 < b.1
  lo : ∀ p ∈ L, 1 ≤ p.1 ∧ p.1 ≤ last
  last0 : 0 ≤ last
  last1 : last ≤ 1073741824
  used : sumL L ≤ 1048576
theorem Ar.good {K : Nat → Prop} {w : World} {g : Nat} {L : List (Int × List Int)} {last : Int} (h : Ar K w g L last) : GoodL L last := by
  obtain ⟨es, hA, rfl, hH⟩ := h
  have hg := hA.good
  refine ⟨?_, fun p hp => ?_, hg.last0, hg.last1, hg.used⟩
  · exact List.pairwise_map.2 (hg.inc.filter _)
  · obtain ⟨e, he, rfl⟩ := List.mem_map.1 hp
    exact hg.lo e (List.mem_filter.1 he).1
theorem GoodL.len {L : List (Int × List Int)} {last : Int} (g : GoodL L last) : L.length ≤ 1073741824 := by
  have h : ∀ (L : List (Int × List Int)) (lo hi : Int), L.Pairwise (fun a b => a.1 < b.1) → (∀ p ∈ L, lo < p.1 ∧ p.1 ≤ hi) → lo ≤ hi → (L.length : Int) ≤ hi - lo := by
    intro L
    induction L with
    | nil => intro lo hi _ _ h; simp; omega
    | cons e r ih =>
      intro lo hi hp hl hh
      obtain ⟨h1, h2⟩ := List.pairwise_cons.1 hp
      obtain ⟨a, b⟩ := hl e (by simp)
      have := ih e.1 hi h2 (fun x hx => ⟨h1 x hx, (hl x (by simp [hx])).2⟩) b
      rw [List.length_cons]
      omega
  have := h L 0 last g.inc (fun p hp => ⟨by have := (g.lo p hp).1; omega, (g.lo p hp).2⟩) g.last0
  have := g.last1
  omega
theorem Ar.kok {K : Nat → Prop} {w : World} {g : Nat} {L : List (Int × List Int)} {last : Int} (h : Ar K w g L last) : KOk K w := by
  obtain ⟨es, hA, rfl, hH⟩ := h
  exact hA.kok
theorem Ar.on {K : Nat → Prop} {w w' : World} {g : Nat} {L : List (Int × List Int)} {last : Int} (h : Ar K w g L last) (hb : Below w.heap.size w w') : Ar K w' g L last := by
  obtain ⟨es, hA, rfl, hH⟩ := h
  exact ⟨es, hA.on hb, rfl, hH⟩
theorem mem_clO {es : List Ent} {id : Int} {ls : List Int} (h : (id, ls) ∈ clO es) : ∃ (k : Nat) (e : Ent), es[k]? = some e ∧ e.on = true ∧ e.id = id ∧ e.ls = ls := by
  obtain ⟨e, he, hc⟩ := List.mem_map.1 h
  obtain ⟨he, ho⟩ := List.mem_filter.1 he
  obtain ⟨k, hk⟩ := List.mem_iff_getElem?.1 he
  unfold clE at hc
  injection hc with h1 h2
  exact ⟨k, e, hk, ho, h1, h2⟩
theorem isOn_no {es : List Ent} {id : Int} (h : ∀ p ∈ clO es, p.1 ≠ id) : isOn es id = false := by
  unfold isOn
  rw [List.any_eq_false]
  intro e he
  cases ho : e.on
  · simp
  · have := h (clE e) (List.mem_map.2 ⟨e, List.mem_filter.2 ⟨he, ho⟩, rfl⟩)
    have : e.id ≠ id := this
    simp [this]
section
variable {K : Nat → Prop} {g : Nat} {L : List (Int × List Int)} {last : Int} {id : Int} {ls : List Int} {w : World}
theorem has_in (h : Ar K w g L last) (hm : (id, ls) ∈ L) : Calls Try.prog 21 #[.pointer (some ⟨g, 0, none⟩), .int .i64 id] w fun r w' => r = .returned (.bool true) ∧ Below w.heap.size w w' := by
  obtain ⟨es, hA, rfl, hH⟩ := h
  obtain ⟨k, e, hk, ho, rfl, rfl⟩ := mem_clO hm
  exact has_yes w hA hk ho
theorem has_out (h : Ar K w g L last) (hw : (Lit.int .i64 id).wf = true) (hm : ∀ p ∈ L, p.1 ≠ id) : Calls Try.prog 21 #[.pointer (some ⟨g, 0, none⟩), .int .i64 id] w fun r w' => r = .returned (.bool false) ∧ Below w.heap.size w w' := by
  obtain ⟨es, hA, rfl, hH⟩ := h
  exact has_no id hw w hA (isOn_no hm)
theorem len_in (h : Ar K w g L last) (hm : (id, ls) ∈ L) : Calls Try.prog 18 #[.pointer (some ⟨g, 0, none⟩), .int .i64 id] w fun r w' => r = .returned (.tuple #[.int .i64 (ls.length : Nat), .int .i64 0]) ∧ Below w.heap.size w w' := by
  obtain ⟨es, hA, rfl, hH⟩ := h
  obtain ⟨k, e, hk, ho, rfl, rfl⟩ := mem_clO hm
  exact len_yes w hA hk ho
theorem len_out (h : Ar K w g L last) (hw : (Lit.int .i64 id).wf = true) (hm : ∀ p ∈ L, p.1 ≠ id) : Calls Try.prog 18 #[.pointer (some ⟨g, 0, none⟩), .int .i64 id] w fun r w' => r = .returned (.tuple #[.int .i64 0, .int .i64 30]) ∧ Below w.heap.size w w' := by
  obtain ⟨es, hA, rfl, hH⟩ := h
  exact len_no id hw w hA (isOn_no hm)
theorem get_in (h : Ar K w g L last) (hm : (id, ls) ∈ L) : Calls Try.prog 17 #[.pointer (some ⟨g, 0, none⟩), .int .i64 id] w fun r w' =>
    ∃ v, r = .returned (.tuple #[v, .int .i64 0]) ∧ w'.ownsRow w.heap.size 30 1 v ls.length (ls.map (Value.int .i64)) ∧ Below w.heap.size w w' := by
  obtain ⟨es, hA, rfl, hH⟩ := h
  obtain ⟨k, e, hk, ho, rfl, rfl⟩ := mem_clO hm
  exact get_yes w hA hk ho
theorem get_out (h : Ar K w g L last) (hw : (Lit.int .i64 id).wf = true) (hm : ∀ p ∈ L, p.1 ≠ id) : Calls Try.prog 17 #[.pointer (some ⟨g, 0, none⟩), .int .i64 id] w fun r w' => r = .returned (.tuple #[.slice none 0 0, .int .i64 30]) ∧ Below w.heap.size w w' := by
  obtain ⟨es, hA, rfl, hH⟩ := h
  exact get_no id hw w hA (isOn_no hm)
theorem lit_in (h : Ar K w g L last) (hm : (id, ls) ∈ L) (j : Nat) (hj : j < ls.length) : Calls Try.prog 19 #[.pointer (some ⟨g, 0, none⟩), .int .i64 id, .int .i64 (j : Nat)] w fun r w' => r = .returned (.tuple #[.int .i64 (ls[j]?.getD 0), .int .i64 0]) ∧ Below w.heap.size w w' := by
  obtain ⟨es, hA, rfl, hH⟩ := h
  obtain ⟨k, e, hk, ho, rfl, rfl⟩ := mem_clO hm
  exact lit_yes j hj w hA hk ho
theorem lit_off (h : Ar K w g L last) (hm : (id, ls) ∈ L) (i : Int) (hi : i < 0 ∨ (ls.length : Int) ≤ i) : Calls Try.prog 19 #[.pointer (some ⟨g, 0, none⟩), .int .i64 id, .int .i64 i] w fun r w' => r = .returned (.tuple #[.int .i64 0, .int .i64 2]) ∧ Below w.heap.size w w' := by
  obtain ⟨es, hA, rfl, hH⟩ := h
  obtain ⟨k, e, hk, ho, rfl, rfl⟩ := mem_clO hm
  exact lit_out i hi w hA hk ho
theorem lit_gone (h : Ar K w g L last) (hw : (Lit.int .i64 id).wf = true) (hm : ∀ p ∈ L, p.1 ≠ id) (i : Int) : Calls Try.prog 19 #[.pointer (some ⟨g, 0, none⟩), .int .i64 id, .int .i64 i] w fun r w' => r = .returned (.tuple #[.int .i64 0, .int .i64 30]) ∧ Below w.heap.size w w' := by
  obtain ⟨es, hA, rfl, hH⟩ := h
  exact lit_no id i hw w hA (isOn_no hm)
theorem count_ar (h : Ar K w g L last) : Calls Try.prog 22 #[.pointer (some ⟨g, 0, none⟩)] w fun e w' => e = .returned (.int .i64 (L.length : Nat)) ∧ w = w' := by
  obtain ⟨es, hA, rfl, hH⟩ := h
  exact count_any w hA
theorem used_ar (h : Ar K w g L last) : Calls Try.prog 16 #[.pointer (some ⟨g, 0, none⟩)] w fun e w' => e = .returned (.int .i64 (sumL L : Nat)) ∧ w = w' := by
  obtain ⟨es, hA, rfl, hH⟩ := h
  exact used_any w hA
theorem last_ar (h : Ar K w g L last) : Calls Try.prog 24 #[.pointer (some ⟨g, 0, none⟩)] w fun e w' => e = .returned (.int .i64 last) ∧ w = w' := by
  obtain ⟨es, hA, rfl, hH⟩ := h
  exact last_any w hA
theorem held_ar (h : Ar K w g L last) : Calls Try.prog 23 #[.pointer (some ⟨g, 0, none⟩)] w fun e w' => ∃ n : Nat, e = .returned (.int .i64 (n : Nat)) ∧ sumL L ≤ n ∧ n ≤ 2 * sumL L + 64 ∧ w = w' := by
  obtain ⟨es, hA, rfl, hH⟩ := h
  exact (held_any w hA).mono fun e w' ⟨he, hw⟩ => ⟨_, he, sum_le_store es, hH, hw⟩
theorem new_ar (w : World) : Calls Try.prog 13 #[] w fun r w' => ∃ g K, r = .returned (.pointer (some ⟨g, 0, none⟩)) ∧ Ar K w' g [] 0 ∧ (∀ i, K i → w.heap.size ≤ i) ∧ Below w.heap.size w w' :=
  (new_any w).mono fun r w' ⟨g, K, h1, h2, h3, h4⟩ => ⟨g, K, h1, ⟨[], h2, rfl, by simp [stO]⟩, h3, h4⟩
end

set_option maxRecDepth 100000 in
set_option maxHeartbeats 1000000 in
theorem add_not {K : Nat → Prop} {g : Nat} {es : List Ent} {last : Int} (id : Int) (cv : Value) (c : List Int) (w : World) (h : Arena K w g es last) (hI : IntsF .i64 K w cv c) (hc : c.length ≤ 100000000) (hn : addE (clO es) last id c ≠ 0) :
    Calls Try.prog 14 #[.pointer (some ⟨g, 0, none⟩), .int .i64 id, cv] w fun r w' => r = .returned (.int .i64 (addE (clO es) last id c)) ∧ Below w.heap.size w w' := by
  have HA := Lib.hid h
  have hgd := h.good
  have hl0 := hgd.last0
  have hl1 := hgd.last1
  have hu := hgd.used
  obtain ⟨sv, ev, m, n, D, ⟨-, -, -, hc3, hc4⟩, -⟩ := h.cells
  obtain ⟨Ac, cc, rfl, -⟩ := ints_shape hI.ints
  have HC := Lib.hid hI
  clear h hI hgd
  cases hr : rightB c
  · have hq : addE (clO es) last id c = 20 := by unfold addE; rw [hr]; rfl
    have HR := Lib.hid hr; have HQ := Lib.hid hq; clear hr hq hn
    go_enter Try.func14, Try.ntmps14
    go_wp2_with (first
      | (go_at_call 35; refine (exists_yes _ HA.out).mono ?_; rintro e w' ⟨rfl, rfl⟩)
      | (go_at_call 36; refine (clright_any _ _ c (by omega) _ HC.out.ints).mono ?_; rintro e w' ⟨rfl, rfl⟩; rw [HR.out]))
    go_ret
    exact ⟨ret_i HQ.out.symm, Below.refl _ _⟩
  · by_cases hi : last < id ∧ id ≤ 1073741824
    · have hs : ¬ sumL (clO es) + c.length ≤ 1048576 := fun x => hn (by unfold addE; rw [hr, if_pos rfl, if_pos hi, if_pos x])
      have hq : addE (clO es) last id c = 4 := by unfold addE; rw [hr, if_pos rfl, if_pos hi, if_neg hs]
      obtain ⟨hi1, hi2⟩ := hi
      have s1 : (1048576 : Int) < (sumL (clO es) : Nat) + (c.length : Nat) := by omega
      have HR := Lib.hid hr; have HQ := Lib.hid hq; clear hr hq hn hs
      obtain ⟨u, hU⟩ : ∃ u, sumL (clO es) = u := ⟨_, rfl⟩
      rw [hU] at hc3 s1 hu
      clear hU
      go_enter Try.func14, Try.ntmps14
      go_wp2_with (first
        | (go_at_call 35; refine (exists_yes _ HA.out).mono ?_; rintro e w' ⟨rfl, rfl⟩)
        | (go_at_call 36; refine (clright_any _ _ c (by omega) _ HC.out.ints).mono ?_; rintro e w' ⟨rfl, rfl⟩; rw [HR.out]))
      go_ret
      exact ⟨ret_i HQ.out.symm, Below.refl _ _⟩
    · have hq : addE (clO es) last id c = 30 := by unfold addE; rw [hr, if_pos rfl, if_neg hi]
      have HR := Lib.hid hr; have HQ := Lib.hid hq; clear hr hq hn
      by_cases h1 : id ≤ last
      · clear hi
        go_enter Try.func14, Try.ntmps14
        go_wp2_with (first
          | (go_at_call 35; refine (exists_yes _ HA.out).mono ?_; rintro e w' ⟨rfl, rfl⟩)
          | (go_at_call 36; refine (clright_any _ _ c (by omega) _ HC.out.ints).mono ?_; rintro e w' ⟨rfl, rfl⟩; rw [HR.out]))
        go_ret
        exact ⟨ret_i HQ.out.symm, Below.refl _ _⟩
      · have h2 : 1073741824 < id := by omega
        clear hi
        go_enter Try.func14, Try.ntmps14
        go_wp2_with (first
          | (go_at_call 35; refine (exists_yes _ HA.out).mono ?_; rintro e w' ⟨rfl, rfl⟩)
          | (go_at_call 36; refine (clright_any _ _ c (by omega) _ HC.out.ints).mono ?_; rintro e w' ⟨rfl, rfl⟩; rw [HR.out]))
        go_ret
        exact ⟨ret_i HQ.out.symm, Below.refl _ _⟩

/-- What is there behind an Add. -/
def addL (L : List (Int × List Int)) (last id : Int) (c : List Int) : List (Int × List Int) := if addE L last id c = 0 then L ++ [(id, c)] else L
def addN (L : List (Int × List Int)) (last id : Int) (c : List Int) : Int := if addE L last id c = 0 then id else last
theorem addE_0 {L : List (Int × List Int)} {last id : Int} {c : List Int} (h : addE L last id c = 0) : rightB c = true ∧ last < id ∧ id ≤ 1073741824 ∧ sumL L + c.length ≤ 1048576 := by
  unfold addE at h
  split at h
  · rename_i hr
    split at h
    · rename_i hi
      split at h
      · rename_i hs; exact ⟨hr, hi.1, hi.2, hs⟩
      · simp at h
    · simp at h
  · simp at h
theorem addE_mk {L : List (Int × List Int)} {last id : Int} {c : List Int} (h1 : rightB c = true) (h2 : last < id) (h3 : id ≤ 1073741824) (h4 : sumL L + c.length ≤ 1048576) : addE L last id c = 0 := by
  unfold addE; rw [h1, if_pos rfl, if_pos ⟨h2, h3⟩, if_pos h4]
theorem add_ar {K : Nat → Prop} {g : Nat} {L : List (Int × List Int)} {last : Int} (id : Int) (cv : Value) (c : List Int) {w : World} (h : Ar K w g L last) (hI : IntsF .i64 K w cv c) (hc : c.length ≤ 100000000) :
    Calls Try.prog 14 #[.pointer (some ⟨g, 0, none⟩), .int .i64 id, cv] w fun r w' => ∃ K', r = .returned (.int .i64 (addE L last id c)) ∧ Ar K' w' g (addL L last id c) (addN L last id c) ∧ Turn K w K' w' := by
  obtain ⟨es, hA, rfl, hH⟩ := h
  by_cases h0 : addE (clO es) last id c = 0
  · obtain ⟨a1, a2, a3, a4⟩ := addE_0 h0
    refine (add_yes id cv c w hA hI a1 a2 a3 a4 (by omega)).mono fun r w' ⟨K', hr, hA', ht⟩ => ⟨K', by rw [h0]; exact hr, ⟨es ++ [⟨id, c, true⟩], ?_, ?_, ?_⟩, ht⟩
    · unfold addN; rw [if_pos h0]; exact hA'
    · unfold addL; rw [if_pos h0, clO_app, clO_on]
    · unfold addL; rw [if_pos h0, sumL_app, stO_app, stO_one, List.length_append]
      simp only [sumL, List.map_cons, List.map_nil, List.sum_cons, List.sum_nil] at *
      omega
  · refine (add_not id cv c w hA hI hc h0).mono fun r w' ⟨hr, hb⟩ => ⟨K, hr, ⟨es, ?_, ?_, ?_⟩, Turn.of_below hb⟩
    · unfold addN; rw [if_neg h0]; exact hA.on hb
    · unfold addL; rw [if_neg h0]
    · unfold addL; rw [if_neg h0]; exact hH
end Go.Proofs.Ytjkhhnfmefbohaa
