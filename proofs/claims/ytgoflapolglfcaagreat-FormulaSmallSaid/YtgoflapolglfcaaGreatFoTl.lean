/- What salvorlaw05.tells asks of a formula, call by call, without cases. -/
import Derived.Test.YtgoflapolglfcaaGreatFoLawModels
import Derived.Test.YtgoflapolglfcaaGreatFoCopy
import Derived.Test.YtgoflapolglfcaaGreatFoAwake
namespace Go.Proofs.YtgoflapolglfcaaGreat
open Go.RowKit Go.ChangeAt Go.ChangeShapes Go.WideShapes Go.Shelf Go.Sort

attribute [local go_sem] Oper.semAt_some

set_option maxRecDepth 100000 in
set_option maxHeartbeats 1000000 in
theorem first_bad {C : Nat} {v : Value} {L : List (List Int)} (vars : Int) (w : World) (hC : C ≤ w.heap.size) (hn : L.length ≤ 1000000000) (hz : ∀ zs ∈ L, zs.length ≤ 1000000) (hL : RowsL C w v L) (f : Int) (hf : triedE vars L = f) (h0 : f ≠ 0) :
    Calls Tryz.prog 20 #[.agg #[.int .i64 vars, v]] w fun e w' => e = .returned (.tuple #[.slice none 0 0, .bool false, .int .i64 f]) ∧ Below w.heap.size w w' := by
  obtain ⟨A, cap, rfl, -⟩ := rowsL_shape hL
  have hq : (f != 0) = true := by simp [h0]
  have hmo : ∀ W, Below w.heap.size w W → Calls Tryz.prog 21 #[.agg #[.int .i64 vars, .slice A L.length cap]] W _ := fun W hb => models_bad vars W (Nat.le_trans hC hb.size) hn hz (hL.below (hb.mono hC)) f hf h0
  have HMo := Lib.hid hmo
  have hb1 : Below w.heap.size w ((((w.alloc (.cells #[.int .i64 vars, .slice A L.length cap] 27)).alloc (.cells #[.slice none 0 0] 29)).alloc (.cells #[.bool false] 4)).alloc (.cells #[.int .i64 0] 30)) := ((((below1a w _).alloc (by simp) _).alloc (by simp; omega) _).alloc (by simp; omega) _)
  have n1 := Whole.made (w.alloc (.cells #[.int .i64 vars, .slice A L.length cap] 27)) 29 #[.slice none 0 0]
  have n2 := Whole.made ((w.alloc (.cells #[.int .i64 vars, .slice A L.length cap] 27)).alloc (.cells #[.slice none 0 0] 29)) 4 #[.bool false]
  have n3 := Whole.made (((w.alloc (.cells #[.int .i64 vars, .slice A L.length cap] 27)).alloc (.cells #[.slice none 0 0] 29)).alloc (.cells #[.bool false] 4)) 30 #[.int .i64 0]
  have n2 := n2.same ((below1a _ (.cells #[.int .i64 0] 30)).block _ n2.lt)
  have n1 := n1.same ((below2c _ (.cells #[.bool false] 4) (.cells #[.int .i64 0] 30)).block _ n1.lt)
  simp only [World.size_alloc] at n1 n2 n3
  clear hmo hL hz hf
  refine (callsIn_wide (n := 5)).1 ?_
  refine callsIn_of_wp_marks Tryz.func20 rfl trivial ?_ rfl
  simp only [Tryz.ntmps20, List.size_toArray, List.length_cons, List.length_nil, Nat.reduceAdd, Nat.reduceSub, Array.replicate_succ, Array.replicate_zero, List.push_toArray, List.append_toArray, List.nil_append, List.cons_append]
  obtain ⟨w4, hw4⟩ : ∃ y, (((w.alloc (.cells #[.int .i64 vars, .slice A L.length cap] 27)).alloc (.cells #[.slice none 0 0] 29)).alloc (.cells #[.bool false] 4)).alloc (.cells #[.int .i64 0] 30) = y := ⟨_, rfl⟩
  rw [hw4] at hb1 n1 n2 n3
  have HB4 := Lib.hid hb1; have HN1 := Lib.hid n1; have HN2 := Lib.hid n2; have HN3 := Lib.hid n3; have HW := Lib.hid hw4
  clear hw4 hb1 n1 n2 n3
  refine wpIn_wide.2 ?_
  go_wp2_with fail
  rw [HW.out]
  go_wp2_with fail
  refine (HMo.out w4 HB4.out).mono ?_
  rintro e w5 ⟨rfl, hb5⟩
  have k1 := HN1.out.same (hb5.block _ HN1.out.lt)
  have k2 := HN2.out.same (hb5.block _ HN2.out.lt)
  have k3 := HN3.out.same (hb5.block _ HN3.out.lt)
  have c1 : w5.cell? ⟨w.heap.size + 1, 0, none⟩ = some (.slice none 0 0) := k1.cell 0
  have c2 : w5.cell? ⟨w.heap.size + 1 + 1, 0, none⟩ = some (.bool false) := k2.cell 0
  have c3 : w5.cell? ⟨w.heap.size + 1 + 1 + 1, 0, none⟩ = some (.int .i64 0) := k3.cell 0
  have f1 := k1.frozen 0
  have f2 := k2.frozen 0
  have f3 := k3.frozen 0
  have HK1 := Lib.hid k1; have HK2 := Lib.hid k2; have HK3 := Lib.hid k3; have HB5 := Lib.hid (below_cat HB4.out hb5)
  clear hb5 k1 k2 k3
  go_wp2_with fail
  have q1 := ((HK1.out.store 0 (.slice none 0 0)).beside (b := w.heap.size + 1 + 1) (i := 0) (by omega) (.bool false)).beside (b := w.heap.size + 1 + 1 + 1) (i := 0) (by omega) (.int .i64 f)
  have q2 := ((HK2.out.beside (b := w.heap.size + 1) (i := 0) (by omega) (.slice none 0 0)).store 0 (.bool false)).beside (b := w.heap.size + 1 + 1 + 1) (i := 0) (by omega) (.int .i64 f)
  have q3 := ((HK3.out.beside (b := w.heap.size + 1) (i := 0) (by omega) (.slice none 0 0)).beside (b := w.heap.size + 1 + 1) (i := 0) (by omega) (.bool false)).store 0 (.int .i64 f)
  have hbw := (((HB5.out.setCell (p := ⟨w.heap.size + 1, 0, none⟩) (by simp) (.slice none 0 0)).setCell (p := ⟨w.heap.size + 1 + 1, 0, none⟩) (by simp; omega) (.bool false)).setCell (p := ⟨w.heap.size + 1 + 1 + 1, 0, none⟩) (by simp; omega) (.int .i64 f))
  exact ⟨.tuple #[.slice none 0 0, .bool false, .int .i64 f], res_three q1 q2 q3, rfl, hbw⟩
/-- Behind calls that began at w: there lie clauses fs, models ms, numbers is, and whole blocks ss. -/
structure Tl (w W : World) (fs : List (Value × List (List Int))) (ms : List (Value × List Bool)) (is : List (Value × List Int)) (ss : List (Nat × TypeId × Array Value)) : Prop where
  below : Below w.heap.size w W
  fo : ∀ p ∈ fs, RowsL W.heap.size W p.1 p.2
  mo : ∀ p ∈ ms, Bools W.heap.size W p.1 p.2
  io : ∀ p ∈ is, Ints W.heap.size W p.1 p.2
  st : ∀ p ∈ ss, Whole W p.1 p.2.1 p.2.2
section
variable {w W W' : World} {fs : List (Value × List (List Int))} {ms : List (Value × List Bool)} {is : List (Value × List Int)} {ss : List (Nat × TypeId × Array Value)} {v v' : Value} {L L' : List (List Int)} {x : List Bool} {zs ys : List Int}
theorem Tl.on (h : Tl w W fs ms is ss) (hb : Below W.heap.size W W') : Tl w W' fs ms is ss :=
  ⟨h.below.trans (hb.mono h.below.size), fun p hp => (RowsV.below hb (h.fo p hp)).more hb.size, fun p hp => ((h.mo p hp).below hb).more hb.size, fun p hp => ((h.io p hp).below hb).more hb.size, fun p hp => (h.st p hp).same (hb.block _ (h.st p hp).lt)⟩
theorem Tl.addF (h : Tl w W fs ms is ss) (hL : RowsL W.heap.size W v L) : Tl w W ((v, L) :: fs) ms is ss :=
  ⟨h.below, fun p hp => by
    rcases List.mem_cons.1 hp with rfl | hp
    · exact hL
    · exact h.fo p hp, h.mo, h.io, h.st⟩
theorem Tl.addM (h : Tl w W fs ms is ss) (hm : Bools W.heap.size W v x) : Tl w W fs ((v, x) :: ms) is ss :=
  ⟨h.below, h.fo, fun p hp => by
    rcases List.mem_cons.1 hp with rfl | hp
    · exact hm
    · exact h.mo p hp, h.io, h.st⟩
theorem Tl.addI (h : Tl w W fs ms is ss) (hi : Ints W.heap.size W v zs) : Tl w W fs ms ((v, zs) :: is) ss :=
  ⟨h.below, h.fo, h.mo, fun p hp => by
    rcases List.mem_cons.1 hp with rfl | hp
    · exact hi
    · exact h.io p hp, h.st⟩
theorem Tl.addS (h : Tl w W fs ms is ss) {g : Nat} {t : TypeId} {cs : Array Value} (hw : Whole W g t cs) : Tl w W fs ms is ((g, t, cs) :: ss) :=
  ⟨h.below, h.fo, h.mo, h.io, fun p hp => by
    rcases List.mem_cons.1 hp with rfl | hp
    · exact hw
    · exact h.st p hp⟩
theorem Tl.box (h : Tl w W fs ms is ss) (t : TypeId) (cs : Array Value) : Tl w (W.alloc (.cells cs t)) fs ms is ((W.heap.size, t, cs) :: ss) := (h.on (below1a W _)).addS (Whole.made W t cs)
theorem Tl.drew (h : Tl w W fs ms is ss) : Tl w W.drew fs ms is ss := h.on (Below.refl _ _).drew
theorem Tl.s (h : Tl w W fs ms is ss) {g : Nat} {t : TypeId} {cs : Array Value} (hp : (g, t, cs) ∈ ss) : Whole W g t cs := h.st _ hp
theorem Tl.start (w : World) : Tl w w [] [] [] [] := ⟨Below.refl _ _, (fun _ h => by cases h), (fun _ h => by cases h), (fun _ h => by cases h), (fun _ h => by cases h)⟩
/-- Clauses that are few and short. -/
structure OkT (L : List (List Int)) : Prop where
  len : L.length ≤ 262144
  cl : ∀ zs ∈ L, zs.length ≤ 1000000
theorem tl_equal (a b : Int) (h : Tl w W fs ms is ss) (hp : (v, L) ∈ fs) (hp' : (v', L') ∈ fs) (hk : OkT L) (hk' : OkT L') {q : Bool} (hq : decide (a = b ∧ L = L') = q) :
    Calls Tryz.prog 13 #[.agg #[.int .i64 a, v], .agg #[.int .i64 b, v']] W fun e w' => e = .returned (.bool q) ∧ Tl w w' fs ms is ss :=
  (lawEqual_any a b W (Nat.le_refl _) (by have := hk.len; omega) hk.cl hk'.cl (h.fo _ hp) (h.fo _ hp')).mono fun e w' ⟨he, hb⟩ => ⟨by rw [he, hq], h.on hb⟩
theorem tl_same (a b : Int) (h : Tl w W fs ms is ss) (hp : (v, L) ∈ fs) (hp' : (v', L') ∈ fs) (hk : OkT L) (hk' : OkT L') {q : Bool} (hq : decide (a = b ∧ L = L') = q) :
    Calls Tryz.prog 14 #[.agg #[.int .i64 a, v], .agg #[.int .i64 b, v']] W fun e w' => e = .returned (.bool q) ∧ Tl w w' fs ms is ss :=
  (fosame_any a b W (Nat.le_refl _) (by have := hk.len; omega) hk.cl hk'.cl (h.fo _ hp) (h.fo _ hp')).mono fun e w' ⟨he, hb⟩ => ⟨by rw [he, hq], h.on hb⟩
theorem tl_check (vars : Int) (h : Tl w W fs ms is ss) (hp : (v, L) ∈ fs) (hk : OkT L) {i E : Int} (hi : chkI vars L = (i, E)) :
    Calls Tryz.prog 6 #[.agg #[.int .i64 vars, v]] W fun e w' => e = .returned (.tuple #[.int .i64 i, .int .i64 E]) ∧ Tl w w' fs ms is ss :=
  (check_any vars W (Nat.le_refl _) (by have := hk.len; omega) hk.cl (h.fo _ hp)).mono fun e w' ⟨he, hb⟩ => ⟨by rw [he, hi], h.on hb⟩
theorem tl_refcheck (vars : Int) (h : Tl w W fs ms is ss) (hp : (v, L) ∈ fs) (hk : OkT L) {i E : Int} (hi : chkI vars L = (i, E)) :
    Calls Tryz.prog 15 #[.agg #[.int .i64 vars, v]] W fun e w' => e = .returned (.tuple #[.int .i64 i, .int .i64 E]) ∧ Tl w w' fs ms is ss :=
  (ref05_check (L := L) vars W (Nat.le_refl _) (by have := hk.len; omega) (fun zs hz => by have := hk.cl zs hz; omega) (rowsI_of (h.fo _ hp))).mono fun e w' ⟨he, hb⟩ => ⟨by rw [he, hi], h.on hb⟩
theorem tl_value (vars : Int) {mv : Value} (h : Tl w W fs ms is ss) (hp : (v, L) ∈ fs) (hm : (mv, x) ∈ ms) (hk : OkT L) {q : Bool} {E : Int} (hq : valueR vars L x = q) (hE : (failsR vars L x).2.2 = E) :
    Calls Tryz.prog 16 #[.agg #[.int .i64 vars, v], mv] W fun e w' => e = .returned (.tuple #[.bool q, .int .i64 E]) ∧ Tl w w' fs ms is ss :=
  (value_any vars W (Nat.le_refl _) (by have := hk.len; omega) hk.cl (h.fo _ hp) (h.mo _ hm)).mono fun e w' ⟨he, hb⟩ => ⟨by rw [he, hq, hE], h.on hb⟩
theorem tl_fails (vars : Int) {mv : Value} (h : Tl w W fs ms is ss) (hp : (v, L) ∈ fs) (hm : (mv, x) ∈ ms) (hk : OkT L) {i E : Int} {q : Bool} (hq : failsR vars L x = (i, q, E)) :
    Calls Tryz.prog 17 #[.agg #[.int .i64 vars, v], mv] W fun e w' => e = .returned (.tuple #[.int .i64 i, .bool q, .int .i64 E]) ∧ Tl w w' fs ms is ss :=
  (fails_any vars W (Nat.le_refl _) (by have := hk.len; omega) hk.cl (h.fo _ hp) (h.mo _ hm)).mono fun e w' ⟨he, hb⟩ => ⟨by rw [he, hq], h.on hb⟩
/-- What Assign answers. -/
def asgR (vars l : Int) (L : List (List Int)) : Int × List (List Int) × Int := if (chkI vars L).2 = 0 then (if hasV vars l then (vars, asgL l L, 0) else (0, [], 51)) else (0, [], (chkI vars L).2)
theorem tl_assign (vars l : Int) (h : Tl w W fs ms is ss) (hp : (v, L) ∈ fs) (hk : OkT L) {V E : Int} {N : List (List Int)} (hq : asgR vars l L = (V, N, E)) :
    Calls Tryz.prog 18 #[.agg #[.int .i64 vars, v], .int .i64 l] W fun e w' => ∃ A c, e = .returned (.tuple #[.agg #[.int .i64 V, .slice A N.length c], .int .i64 E]) ∧ Tl w w' ((.slice A N.length c, N) :: fs) ms is ss := by
  have hbad := fun f hf h0 => assign_bad vars l W (Nat.le_refl _) (by have := hk.len; omega) hk.cl (h.fo _ hp) f hf h0
  unfold asgR at hq
  by_cases h0 : (chkI vars L).2 = 0
  · rw [if_pos h0] at hq
    cases hv : hasV vars l
    · rw [hv] at hq
      injection hq with e1 e2
      injection e2 with e2 e3
      subst e1 e2 e3
      exact (hbad 51 (by rw [if_pos h0, hv]; rfl) (by decide)).mono fun e w' ⟨he, hb⟩ => ⟨none, 0, he, (h.on hb).addF (L := []) (.inl ⟨_, _, rfl, (fun _ => rfl), rfl⟩)⟩
    · rw [hv] at hq
      injection hq with e1 e2
      injection e2 with e2 e3
      subst e1 e2 e3
      exact (assign_ok vars l W (Nat.le_refl _) hk.cl (h.fo _ hp) h0 hv).mono fun e w' ⟨v', he, ho, hb⟩ => by
        have hl := OwnL.rowsL ho
        obtain ⟨A, c, rfl, -⟩ := rowsL_shape hl
        exact ⟨A, c, he, (h.on hb).addF hl⟩
  · rw [if_neg h0] at hq
    injection hq with e1 e2
    injection e2 with e2 e3
    subst e1 e2 e3
    exact (hbad _ (by rw [if_neg h0]) h0).mono fun e w' ⟨he, hb⟩ => ⟨none, 0, he, (h.on hb).addF (L := []) (.inl ⟨_, _, rfl, (fun _ => rfl), rfl⟩)⟩
/-- What Norm answers. -/
def nrmR (vars : Int) (L : List (List Int)) : Int × List (List Int) × Int := if (chkI vars L).2 = 0 then (vars, nrmF L, 0) else (0, [], (chkI vars L).2)
theorem tl_norm (vars : Int) (h : Tl w W fs ms is ss) (hp : (v, L) ∈ fs) (hk : OkT L) {V E : Int} {N : List (List Int)} (hq : nrmR vars L = (V, N, E)) :
    Calls Tryz.prog 19 #[.agg #[.int .i64 vars, v]] W fun e w' => ∃ A c, e = .returned (.tuple #[.agg #[.int .i64 V, .slice A N.length c], .int .i64 E]) ∧ Tl w w' ((.slice A N.length c, N) :: fs) ms is ss := by
  unfold nrmR at hq
  by_cases h0 : (chkI vars L).2 = 0
  · rw [if_pos h0] at hq
    injection hq with e1 e2
    injection e2 with e2 e3
    subst e1 e2 e3
    exact (fonorm_ok vars W (Nat.le_refl _) hk.cl (h.fo _ hp) h0).mono fun e w' ⟨v', he, ho, hb⟩ => by
      have hl := OwnL.rowsL ho
      obtain ⟨A, c, rfl, -⟩ := rowsL_shape hl
      exact ⟨A, c, he, (h.on hb).addF hl⟩
  · rw [if_neg h0] at hq
    injection hq with e1 e2
    injection e2 with e2 e3
    subst e1 e2 e3
    exact (fonorm_bad vars W (Nat.le_refl _) (by have := hk.len; omega) hk.cl (h.fo _ hp) _ rfl h0).mono fun e w' ⟨he, hb⟩ => ⟨none, 0, he, (h.on hb).addF (L := []) (.inl ⟨_, _, rfl, (fun _ => rfl), rfl⟩)⟩
/-- What Count and First answer. -/
def mdlR (vars : Int) (L : List (List Int)) : List (List Bool) := if triedE vars L = 0 then modelsB vars.toNat L else []
theorem mdlR_ok {n : Nat} {L : List (List Int)} (h : triedE (n : Int) L = 0) : mdlR (n : Int) L = modelsB n L := by unfold mdlR; rw [if_pos h, Int.toNat_natCast]
theorem mdlR_no {vars : Int} {L : List (List Int)} (h : triedE vars L ≠ 0) : mdlR vars L = [] := by unfold mdlR; rw [if_neg h]
theorem tl_count (vars : Int) (h : Tl w W fs ms is ss) (hp : (v, L) ∈ fs) (hk : OkT L) {T : Int} (hT : triedE vars L = T) {K : Nat} (hK : (mdlR vars L).length = K) :
    Calls Tryz.prog 7 #[.agg #[.int .i64 vars, v]] W fun e w' => e = .returned (.tuple #[.int .i64 (K : Nat), .int .i64 T]) ∧ Tl w w' fs ms is ss := by
  by_cases h0 : T = 0
  · subst h0
    obtain ⟨hok, n, rfl, hn⟩ := triedE_ok hT
    rw [mdlR_ok hT] at hK
    exact (count_ok n hn W (Nat.le_refl _) hk.cl (h.fo _ hp) hok).mono fun e w' ⟨he, hb⟩ => ⟨by rw [he, hK], h.on hb⟩
  · rw [mdlR_no (by rw [hT]; exact h0)] at hK
    subst hK
    exact (count_bad vars W (Nat.le_refl _) (by have := hk.len; omega) hk.cl (h.fo _ hp) T hT h0).mono fun e w' ⟨he, hb⟩ => ⟨he, h.on hb⟩
theorem tl_first (vars : Int) (h : Tl w W fs ms is ss) (hp : (v, L) ∈ fs) (hk : OkT L) {T : Int} (hT : triedE vars L = T) {K : Nat} (hK : (mdlR vars L).length = K) {x : List Bool} (hx : (mdlR vars L)[0]?.getD [] = x) :
    Calls Tryz.prog 20 #[.agg #[.int .i64 vars, v]] W fun e w' => ∃ A c, e = .returned (.tuple #[.slice A x.length c, .bool (decide (0 < K)), .int .i64 T]) ∧ Tl w w' fs ((.slice A x.length c, x) :: ms) is ss := by
  by_cases h0 : T = 0
  · subst h0
    obtain ⟨hok, n, rfl, hn⟩ := triedE_ok hT
    rw [mdlR_ok hT] at hK hx
    refine (callsIn_wide.1 (first_in n hn W (Nat.le_refl _) hk.cl (h.fo _ hp) hok)).mono fun e w' ⟨fv, he, ho, hb⟩ => ?_
    rw [hx] at ho
    obtain ⟨A, c, rfl⟩ := own_shape0 ho
    have hd : decide (modelsB n L ≠ []) = decide (0 < K) := by
      rw [← hK, Bool.eq_iff_iff, decide_eq_true_eq, decide_eq_true_eq, List.length_pos_iff]
    exact ⟨A, c, by rw [he, hd], (h.on hb).addM (rowV_own ho)⟩
  · rw [mdlR_no (by rw [hT]; exact h0)] at hK hx
    subst hK
    have hx : [] = x := hx
    subst hx
    exact (first_bad vars W (Nat.le_refl _) (by have := hk.len; omega) hk.cl (h.fo _ hp) T hT h0).mono fun e w' ⟨he, hb⟩ => ⟨none, 0, he, (h.on hb).addM (x := []) (.inl ⟨_, _, rfl, (fun _ => rfl), rfl⟩)⟩
/-- What Models gives back. -/
def ModV (vars : Int) (L : List (List Int)) (T : Int) (mv : Value) (W : World) : Prop := (T ≠ 0 ∧ mv = .nilFunc) ∨ (T = 0 ∧ ∃ n bf bv g cf, vars = (n : Nat) ∧ n ≤ 16 ∧ (chkI (n : Int) L).2 = 0 ∧ mv = .func (.func 51) #[] #[.pointer (some ⟨bf, 0, none⟩), .pointer (some ⟨bv, 0, none⟩)] ∧ MdAt n L bf bv g cf W.heap.size W)
theorem tl_models (vars : Int) (h : Tl w W fs ms is ss) (hp : (v, L) ∈ fs) (hk : OkT L) {T : Int} (hT : triedE vars L = T) :
    Calls Tryz.prog 21 #[.agg #[.int .i64 vars, v]] W fun e w' => ∃ mv, e = .returned (.tuple #[mv, .int .i64 T]) ∧ ModV vars L T mv w' ∧ Tl w w' fs ms is ss := by
  by_cases h0 : T = 0
  · subst h0
    obtain ⟨hok, n, rfl, hn⟩ := triedE_ok hT
    exact (models_ok n hn W (Nat.le_refl _) hk.cl (h.fo _ hp) hok).mono fun e w' ⟨bf, bv, g, cf, he, hmd, hb⟩ => ⟨_, he, .inr ⟨rfl, n, bf, bv, g, cf, rfl, hn, hok, rfl, hmd⟩, h.on hb⟩
  · exact (models_bad vars W (Nat.le_refl _) (by have := hk.len; omega) hk.cl (h.fo _ hp) T hT h0).mono fun e w' ⟨he, hb⟩ => ⟨_, he, .inl ⟨h0, rfl⟩, h.on hb⟩
theorem tl_bits {mv : Value} (h : Tl w W fs ms is ss) (hm : (mv, x) ∈ ms) (hx : x.length ≤ 1000000) {n : Nat} (hn : x.length = n) :
    Calls Tryz.prog 12 #[mv] W fun e w' => ∃ A c, e = .returned (.slice A n c) ∧ Tl w w' fs ms ((.slice A n c, x.map b2i) :: is) ss :=
  (bits_any hx W (Nat.le_refl _) (h.mo _ hm)).mono fun e w' ⟨v', he, ho, hb⟩ => by
    obtain ⟨A, c, rfl⟩ := own_shape0 ho
    rw [List.length_map, hn] at he ho
    exact ⟨A, c, he, (h.on hb).addI (rowV_lits.1 (rowV_own ho)).ints⟩
theorem tl_eqints {iv iv' : Value} (h : Tl w W fs ms is ss) (hi : (iv, zs) ∈ is) (hi' : (iv', zs) ∈ is) (hz : zs.length ≤ 1000000) :
    Calls Tryz.prog 22 #[iv, iv'] W fun e w' => e = .returned (.bool true) ∧ Tl w w' fs ms is ss :=
  (equal_int (xs := zs) (ys := zs) W (by omega) (by omega) (h.io _ hi) (h.io _ hi')).mono fun e w' ⟨he, q, hw⟩ => ⟨by rw [he, beq_self_eq_true], by rw [hw]; exact h.on (below_dN _ _)⟩
theorem tl_reffails (vars : Int) {iv : Value} (h : Tl w W fs ms is ss) (hp : (v, L) ∈ fs) (hi : (iv, zs) ∈ is) (hk : OkT L) {f : Int} (hf : failI zs 0 L = f) :
    Calls Tryz.prog 23 #[.agg #[.int .i64 vars, v], iv] W fun e w' => e = .returned (.int .i64 f) ∧ Tl w w' fs ms is ss :=
  (ref05_fails (L := L) (ms := zs) vars W (Nat.le_refl _) (by have := hk.len; omega) (fun zs hz => by have := hk.cl zs hz; omega) (rowsI_of (h.fo _ hp)) (h.io _ hi)).mono fun e w' ⟨he, hb⟩ => ⟨by rw [he, hf], h.on hb⟩
theorem tl_refassign (vars l : Int) (h0 : -1048576 ≤ l) (h1 : l ≤ 1048576) (h : Tl w W fs ms is ss) (hp : (v, L) ∈ fs) (hk : OkT L) :
    Calls Tryz.prog 24 #[.agg #[.int .i64 vars, v], .int .i64 l] W fun e w' => ∃ A c, e = .returned (.agg #[.int .i64 vars, .slice A (asgL l L).length c]) ∧ Tl w w' ((.slice A (asgL l L).length c, asgL l L) :: fs) ms is ss :=
  (ref05_assign vars l h0 h1 W (Nat.le_refl _) hk.len hk.cl (h.fo _ hp)).mono fun e w' ⟨v', he, ho, hb⟩ => by
    have hl := rows_cells5 ho rfl
    obtain ⟨A, c, rfl, -⟩ := rowsL_shape hl
    exact ⟨A, c, he, (h.on hb).addF hl⟩
theorem tl_refnorm (vars : Int) (h : Tl w W fs ms is ss) (hp : (v, L) ∈ fs) (hk : OkT L) (hr : ∀ zs ∈ L, rightB zs = true) :
    Calls Tryz.prog 25 #[.agg #[.int .i64 vars, v]] W fun e w' => ∃ A c, e = .returned (.agg #[.int .i64 vars, .slice A (nrmF L).length c]) ∧ Tl w w' ((.slice A (nrmF L).length c, nrmF L) :: fs) ms is ss :=
  (ref05_norm vars W (Nat.le_refl _) hk.len hr (h.fo _ hp)).mono fun e w' ⟨v', he, ho, hb⟩ => by
    have hl := rows_cells5 ho rfl
    obtain ⟨A, c, rfl, -⟩ := rowsL_shape hl
    exact ⟨A, c, he, (h.on hb).addF hl⟩
theorem tl_lawmodels {n : Nat} (hn8 : n ≤ 8) {fv : Value} (h : Tl w W fs ms is ss) (hp : (v, L) ∈ fs) (hm : (fv, x) ∈ ms) (hk : OkT L) (hok : (chkI (n : Int) L).2 = 0) (hx : (modelsB n L)[0]?.getD [] = x) {K : Nat} (hK : (modelsB n L).length = K) {bf bv g cf B : Nat} (hB : B ≤ W.heap.size) (hmd : MdAt n L bf bv g cf B W) :
    Calls Tryz.prog 26 #[.agg #[.int .i64 (n : Nat), v], .int .i64 (K : Nat), fv, .bool (decide (0 < K)), .func (.func 51) #[] #[.pointer (some ⟨bf, 0, none⟩), .pointer (some ⟨bv, 0, none⟩)]] W fun e w' => e = .returned (.bool true) ∧ Tl w w' fs ms is ss :=
  (lawModels_any n hn8 W (Nat.le_refl _) hk.len hk.cl hok (h.fo _ hp) (h.mo _ hm) hx.symm K hK bf bv g cf B hB hmd).mono fun _ _ ⟨he, hb⟩ => ⟨he, h.on hb⟩
end
end Go.Proofs.YtgoflapolglfcaaGreat
