/- The closure of lits.meeting: whether a variable was asked of before. -/
import Derived.Test.YtjipmjimggggbaaDoorVariables
import Derived.Maps.Views
import Derived.Maps.OwnSet
import Derived.Laws.EntriesVeiled
namespace Go.Proofs.YtjipmjimggggbaaDoor
open Go.RowKit Go.Shelf
open Go.Maps (Keyed)

attribute [local go_sem] Oper.semAt_some

/-- The variables that were asked of, as a map to true. -/
def metD {H : Type} (l : List Int) : DataW H := l.foldl (fun D x => D.put (.int .i64 x) (.lit (.bool true))) (.map [])
theorem metD_snoc {H : Type} (l : List Int) (x : Int) : metD (H := H) (l ++ [x]) = (metD l).put (.int .i64 x) (.lit (.bool true)) := by simp [metD]
theorem metD_at {H : Type} (l : List Int) (x : Int) : Maps.IsMap (metD (H := H) l) ∧ (metD (H := H) l).atKey (.int .i64 x) (.lit (.bool false)) = .lit (.bool (decide (x ∈ l))) := by
  suffices h : ∀ r : List Int, Maps.IsMap (metD (H := H) r.reverse) ∧ (metD (H := H) r.reverse).atKey (.int .i64 x) (.lit (.bool false)) = .lit (.bool (decide (x ∈ r))) by
    have := h l.reverse
    rw [List.reverse_reverse] at this
    simpa using this
  intro r
  induction r with
  | nil => exact ⟨⟨[], rfl⟩, rfl⟩
  | cons y r ih =>
    rw [List.reverse_cons, metD_snoc]
    refine ⟨ih.1.put _ _, ?_⟩
    by_cases e : x = y
    · subst e
      rw [Maps.atKey_put_same ih.1 (by trivial)]
      simp
    · rw [Maps.atKey_put_other (by intro h; exact e (by injection h)), ih.2]
      simp [e]

theorem boolElem_inv {H : Type} {P : Program} {e : TypeId} (he : P.underlying e = some .bool) {v : Value} {z : DataW H × List MemPlace} (h : plainElem P e v = some z) : ∃ b, v = .bool b ∧ z = (.lit (.bool b), []) := by
  unfold plainElem at h
  rw [he] at h
  cases v <;> simp at h
  exact ⟨_, rfl, h.symm⟩

theorem look_bool {H : Type} {P : Program} {w : World} {k : TypeId} {b n : Nat} {D : DataW H} {t e : TypeId} (h : w.ownsMap P k (plainElem P e) b n D) (K : Keyed P k) (ht : P.underlying t = some (.map k e)) (he : P.underlying e = some .bool) (hz : (zeroValue e).run P w = .ok (.bool false) w)
    {key : Value} {kl : Lit} (hkey : keyOf P k key = some kl) {c : Bool} (hc : D.atKey kl (.lit (.bool false)) = .lit (.bool c)) : (Instr.lookup t (.map (some b)) key false).run P w = .ok (.bool c) w := by
  obtain ⟨v, ps, hrun, hv⟩ := h.lookup K ht hz (plainElem_bool he false) hkey
  obtain ⟨c', rfl, hc'⟩ := boolElem_inv he hv
  rw [hc] at hc'
  simp only [Prod.mk.injEq, DataW.lit.injEq, Lit.bool.injEq] at hc'
  rw [hrun, hc'.1]

theorem meeting_in (n : Nat) (w : World) :
    CallsIn .wide n Tryd.prog 49 #[] w fun e w' => e = .returned (.func (.func 63) #[] #[.pointer (some ⟨w.heap.size + 1, 0, none⟩)]) ∧ w' = (w.alloc (.map #[] 0)).alloc (.cells #[.map (some w.heap.size)] 82) := by
  have hmm := @run_makeMap Tryd.prog
  refine callsIn_of_wp Tryd.func49 rfl trivial ?_ rfl
  simp only [Tryd.ntmps49, List.size_toArray, List.length_nil, Nat.reduceSub, Array.replicate_succ, Array.replicate_zero, List.push_toArray, List.append_toArray, List.nil_append, List.cons_append]
  gi_wp2
  go_ret
  exact ⟨rfl, rfl⟩

set_option maxHeartbeats 1000000 in
theorem isMet_in {H : Type} (n : Nat) (x : V) (Bm bm k : Nat) (l : List Int) (w : World) (hc : w.cell? ⟨Bm, 0, none⟩ = some (.map (some bm))) (hown : w.ownsMap Tryd.prog 3 (plainElem (H := H) Tryd.prog 4) bm k (metD l)) (hk : k < maxLen) :
    CallsIn .wide n Tryd.prog 63 #[.int .i64 x.1, .pointer (some ⟨Bm, 0, none⟩)] w fun e w' =>
      e = .returned (.bool (decide (x.1 ∈ l))) ∧ w'.ownsMap Tryd.prog 3 (plainElem (H := H) Tryd.prog 4) bm (k + 1) (metD (l ++ [x.1])) ∧ w.grownBy w' (some bm) := by
  have hwf : (Lit.int .i64 x.1).wf = true := by have := x.2; exact WalkArith.wf_i64 (by omega)
  have hkey := Maps.keyOf_int_mk Tryd.underlying3 hwf
  have hrun := look_bool hown (Maps.int_keyed Tryd.underlying3) Tryd.underlying82 Tryd.underlying4 (by kernel_rfl) hkey (metD_at l x.1).2
  rw [metD_snoc]
  have Hown := Lib.hid hown; clear hown
  refine callsIn_of_wp Tryd.func63 rfl trivial ?_ rfl
  simp only [Tryd.ntmps63, List.size_toArray, List.length_cons, List.length_nil, Nat.reduceAdd, Nat.reduceSub, Array.replicate_succ, Array.replicate_zero, List.push_toArray, List.append_toArray, List.nil_append, List.cons_append]
  gi_wp2_with (gi_at_mapUpdate; refine wpListIn_mapUpdate_own _ rfl _ _ _ 82 rfl 3 4 (Maps.int_keyed Tryd.underlying3) Tryd.underlying82 _ bm k _ rfl Hown.out hk _ _ _ rfl rfl hkey _ [] (plainElem_bool Tryd.underlying4 true) ?_; intro w1 hown1 hgrow1)
  go_ret
  exact ⟨rfl, hown1, hgrow1⟩
end Go.Proofs.YtjipmjimggggbaaDoor
