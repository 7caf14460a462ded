/- clauses.fitting, Norm, Without, Union, Resolve. -/
import Derived.Test.YtfbmagmelebkbaaGreatClConcat
import Derived.Test.YtfbmagmelebkbaaGreatClAlways
import Derived.Test.YtfbmagmelebkbaaGreatRefMore
namespace Go.Proofs.YtfbmagmelebkbaaGreat
open Go.RowKit Go.ChangeAt Go.ChangeShapes Go.WideShapes

theorem owns_on {W W' : World} {base n : Nat} {e : TypeId} {v : Value} {xs : List Value} (h : W.ownsRow base e 1 v n xs) (hb : Below W.heap.size W W') : W'.ownsRow base e 1 v n xs := by
  refine ⟨h.1, ?_⟩
  rcases h.2 with h0 | ⟨g, cap, cur, h1, h2, h3, r⟩
  · exact .inl h0
  · exact .inr ⟨g, cap, cur, h1, h2, (hb.block g (Array.getElem?_eq_some_iff.1 h3).1).trans h3, r⟩
theorem normal_any (B : Nat) (sv : Value) (zs : List Int) (w : World) (h : Ints B w sv zs) :
    Calls Tryz.prog 71 #[sv] w fun e w' => e = .returned (.func (.func 111) #[] #[.pointer (some ⟨w.heap.size, 0, none⟩)]) ∧ w' = w.alloc (.cells #[sv] 38) :=
  (callsIn_wide (n := 1)).1 (normal_in 1 B sv zs w h)
theorem collect_any (sv : Value) (zs : List Int) (hz : zs.length ≤ 1000000) (w : World) (hI : Lits w.heap.size w sv zs) :
    Calls Tryz.prog 112 #[.func (.func 111) #[] #[.pointer (some ⟨w.heap.size, 0, none⟩)]] (w.alloc (.cells #[sv] 38)) (GivesE 37 (w.alloc (.cells #[sv] 38)) (normL zs)) := by
  have hb : Below w.heap.size w (w.alloc (.cells #[sv] 38)) := (Below.refl _ _).alloc (Nat.le_refl _) _
  exact (callsIn_wide (n := 3)).1 (collectL_in 3 w.heap.size w.heap.size (by omega) sv zs hz _ (by simp) (by simp) (Boxed.new w 38 sv).cell (hI.below hb))

set_option maxHeartbeats 1000000 in
theorem fitting_any (B : Nat) (sv : Value) (zs : List Int) (hz : zs.length ≤ 1000000) (w : World) (hB : B ≤ w.heap.size) (hI : Lits B w sv zs) : Calls Tryz.prog 88 #[sv] w (Gives2 37 w (manyL zs) (manyE zs)) := by
  have h1 := normal_any B sv zs w hI.ints
  have h2 := collect_any sv zs hz w (hI.more hB)
  have hl := norm_length zs
  have hb0 : Below w.heap.size w (w.alloc (.cells #[sv] 38)) := (Below.refl _ _).alloc (Nat.le_refl _) _
  unfold manyL manyE
  obtain ⟨ns, hns⟩ : ∃ ns, normL zs = ns := ⟨_, rfl⟩
  rw [hns] at h2 hl ⊢
  obtain ⟨A1, c1, rfl, -⟩ := ints_shape hI.ints
  have H1 := Lib.hid h1; have H2 := Lib.hid h2; clear h1 h2 hI hns
  obtain ⟨W0, hW0⟩ : ∃ W0, w.alloc (.cells #[.slice A1 zs.length c1] 38) = W0 := ⟨_, rfl⟩
  rw [hW0] at H1 H2 hb0
  clear hW0
  by_cases h4 : 4096 < ns.length
  · rw [if_pos h4, if_pos h4]
    go_enter Tryz.func88, Tryz.ntmps88
    go_wp2_with fail
    refine H1.out.mono ?_
    rintro e w' ⟨rfl, rfl⟩
    go_wp2_with fail
    refine H2.out.mono ?_
    rintro e w2 ⟨v2, rfl, hr2, hb2⟩
    obtain ⟨A2, c2, rfl⟩ := own_shape hr2
    go_wp2_with fail
    go_ret2
    exact ⟨_, rfl, World.ownsRow_nil _ _ _ _, hb0.trans (hb2.mono hb0.size)⟩
  · rw [if_neg h4, if_neg h4]
    go_enter Tryz.func88, Tryz.ntmps88
    go_wp2_with fail
    refine H1.out.mono ?_
    rintro e w' ⟨rfl, rfl⟩
    go_wp2_with fail
    refine H2.out.mono ?_
    rintro e w2 ⟨v2, rfl, hr2, hb2⟩
    obtain ⟨A2, c2, rfl⟩ := own_shape hr2
    have HR := Lib.hid hr2; clear hr2
    go_wp2_with fail
    go_ret2
    exact ⟨_, rfl, owns_mono HR.out hb0.size, hb0.trans (hb2.mono hb0.size)⟩

/-- A slice of the call's own, a bool, and a number. -/
def Gives3 (e : TypeId) (w : World) (zs : List Int) (b : Bool) (f : Int) (r : Ending) (w' : World) : Prop :=
  ∃ v, r = .returned (.tuple #[v, .bool b, .int .i64 f]) ∧ w'.ownsRow w.heap.size e 1 v zs.length (zs.map (Value.int .i64)) ∧ Below w.heap.size w w'
set_option maxHeartbeats 1000000 in
theorem clnorm_any (B : Nat) (sv : Value) (zs : List Int) (hz : zs.length ≤ 1000000) (w : World) (hB : B ≤ w.heap.size) (hI : Lits B w sv zs) :
    Calls Tryz.prog 73 #[sv] w (Gives3 37 w (if rightB zs then normL zs else []) (rightB zs && alwB zs) (if rightB zs then 0 else 20)) := by
  have h0 := clright_any B sv zs (by omega) w hI.ints
  have h1 := normal_any B sv zs w hI.ints
  have h2 := collect_any sv zs hz w (hI.more hB)
  have h3 := fun W (hb : Below w.heap.size w W) => always_any w.heap.size sv zs hz W hb.size ((hI.more hB).below hb)
  have hb0 : Below w.heap.size w (w.alloc (.cells #[sv] 38)) := (Below.refl _ _).alloc (Nat.le_refl _) _
  obtain ⟨A1, c1, rfl, -⟩ := ints_shape hI.ints
  obtain ⟨W0, hW0⟩ : ∃ W0, w.alloc (.cells #[.slice A1 zs.length c1] 38) = W0 := ⟨_, rfl⟩
  rw [hW0] at h1 h2 hb0
  clear hW0
  cases hr : rightB zs
  · rw [hr] at h0
    have H0 := Lib.hid h0
    clear h0 h1 h2 h3 hI hr
    rw [if_neg (by decide), if_neg (by decide), Bool.false_and]
    go_enter Tryz.func73, Tryz.ntmps73
    go_wp2_with fail
    refine H0.out.mono ?_
    rintro e w' ⟨rfl, rfl⟩
    go_wp2_with fail
    go_ret3
    exact ⟨_, rfl, World.ownsRow_nil _ _ _ _, Below.refl _ _⟩
  · rw [hr] at h0 h3
    rw [Bool.true_and] at h3
    have H0 := Lib.hid h0; have H1 := Lib.hid h1; have H2 := Lib.hid h2; have H3 := Lib.hid h3
    clear h0 h1 h2 h3 hI hr
    rw [if_pos rfl, if_pos rfl, Bool.true_and]
    go_enter Tryz.func73, Tryz.ntmps73
    go_wp2_with fail
    refine H0.out.mono ?_
    rintro e w' ⟨rfl, rfl⟩
    go_wp2_with fail
    refine H1.out.mono ?_
    rintro e w' ⟨rfl, rfl⟩
    go_wp2_with fail
    refine H2.out.mono ?_
    rintro e w2 ⟨v2, rfl, hr2, hb2⟩
    have hb2' := hb0.trans (hb2.mono hb0.size)
    have HR := Lib.hid hr2; clear hr2
    go_wp2_with fail
    refine (H3.out w2 hb2').mono ?_
    rintro e w3 ⟨rfl, hb3⟩
    have hr3 : w3.ownsRow w'.heap.size 37 1 v2 (normL zs).length ((normL zs).map (Value.int .i64)) := owns_on HR.out hb3
    have HR3 := Lib.hid hr3; clear hr3
    go_wp2_with fail
    go_ret3
    exact ⟨_, rfl, owns_mono HR3.out hb0.size, hb2'.trans (hb3.mono hb2'.size)⟩


/-- concat of two clauses whose slices have just been laid side by side. -/
theorem concat2_any (v1 v2 : Value) (xs ys : List Int) (hx : xs.length ≤ 10000) (hy : ys.length ≤ 10000) (w : World) (h1 : Ints w.heap.size w v1 xs) (h2 : Ints w.heap.size w v2 ys) :
    Calls Tryz.prog 89 #[.slice (some ⟨w.heap.size, 0, none⟩) 2 2] (w.alloc (.cells #[v1, v2] 41)) (GivesE 37 w (xs ++ ys)) := by
  have hb : Below w.heap.size w (w.alloc (.cells #[v1, v2] 41)) := (Below.refl _ _).alloc (Nat.le_refl _) _
  refine (concatLit w.heap.size v1 v2 xs ys hx hy _ (by simp) (h1.on hb) (h2.on hb) ?_ ?_).mono fun e w' ⟨v, he, hr, hb'⟩ => ⟨v, he, owns_mono hr hb.size, hb.trans (hb'.mono hb.size)⟩
  · rw [cell_of_row _ _ 0 _ _ (0, 0) (World.alloc_heap_new w _)]; rfl
  · rw [cell_of_row _ _ 1 _ _ (0, 0) (World.alloc_heap_new w _)]; rfl


/-- The answer of Resolve. -/
def clResL (xs ys : List Int) (l : Int) : List Int := if rightB xs && rightB ys then resL xs ys l else []
def clResE (xs ys : List Int) (l : Int) : Int := if rightB xs && rightB ys then resE xs ys l else 20
set_option maxRecDepth 100000 in
set_option maxHeartbeats 4000000 in
theorem clresolve_any (B : Nat) (xv yv : Value) (xs ys : List Int) (l : Int) (hx : xs.length ≤ 10000) (hy : ys.length ≤ 10000) (w : World) (hB : B ≤ w.heap.size) (hI : Lits B w xv xs) (hJ : Lits B w yv ys) :
    Calls Tryz.prog 40 #[xv, yv, .int .i64 l] w (Gives2 37 w (clResL xs ys l) (clResE xs ys l)) := by
  have h1 := clright_any B xv xs (by omega) w hI.ints
  have h2 := clright_any B yv ys (by omega) w hJ.ints
  have h3 := clhas_any B xv xs l (by omega) w hI.ints
  have h4 := clhas_any B yv ys (negI l) (by omega) w hJ.ints
  have h5 := rest_any B xv xs l (by omega) w hB hI
  have h6 := fun W (hb : Below w.heap.size w W) => rest_any w.heap.size yv ys (negI l) (by omega) W hb.size ((hJ.more hB).below hb)
  unfold clResL clResE resL resE
  obtain ⟨A1, c1, rfl, -⟩ := ints_shape hI.ints
  obtain ⟨A2, c2, rfl, -⟩ := ints_shape hJ.ints
  clear hI hJ
  cases r1 : rightB xs
  · rw [r1] at h1
    rw [Bool.false_and, if_neg (by decide), if_neg (by decide)]
    have H1 := Lib.hid h1
    clear r1 h1 h2 h3 h4 h5 h6
    go_enter Tryz.func40, Tryz.ntmps40
    go_wp2_with fail
    refine H1.out.mono ?_
    rintro e w' ⟨rfl, rfl⟩
    go_wp2_with fail
    go_ret2
    exact ⟨_, rfl, World.ownsRow_nil _ _ _ _, Below.refl _ _⟩
  · rw [r1] at h1 h3
    rw [Bool.true_and] at h3 ⊢
    cases r2 : rightB ys
    · rw [r2] at h2
      rw [if_neg (by decide), if_neg (by decide)]
      have H1 := Lib.hid h1; have H2 := Lib.hid h2
      clear r1 r2 h1 h2 h3 h4 h5 h6
      go_enter Tryz.func40, Tryz.ntmps40
      go_wp2_with fail
      refine H1.out.mono ?_
      rintro e w' ⟨rfl, rfl⟩
      go_wp2_with fail
      refine H2.out.mono ?_
      rintro e w' ⟨rfl, rfl⟩
      go_wp2_with fail
      go_ret2
      exact ⟨_, rfl, World.ownsRow_nil _ _ _ _, Below.refl _ _⟩
    · rw [r2] at h2 h4
      rw [Bool.true_and] at h4
      rw [if_pos rfl, if_pos rfl]
      cases hl : litB l
      · rw [if_neg (by decide), if_neg (by decide)]
        have H1 := Lib.hid h1; have H2 := Lib.hid h2; have HL := Lib.hid hl
        clear r1 r2 h1 h2 h3 h4 h5 h6 hl
        go_enter Tryz.func40, Tryz.ntmps40
        go_wp2_with fail
        refine H1.out.mono ?_
        rintro e w' ⟨rfl, rfl⟩
        go_wp2_with fail
        refine H2.out.mono ?_
        rintro e w' ⟨rfl, rfl⟩
        go_wp2_with fail
        refine (right_any _ _).mono ?_
        rintro e w' ⟨rfl, rfl⟩
        rw [HL.out]
        go_wp2_with fail
        go_ret2
        exact ⟨_, rfl, World.ownsRow_nil _ _ _ _, Below.refl _ _⟩
      · rw [if_pos rfl, if_pos rfl]
        have hn : negI l = -l := by rw [negI, if_pos hl]
        rw [hn] at h4 h6
        obtain ⟨m, hm⟩ : ∃ m, -l = m := ⟨_, rfl⟩
        rw [hm] at hn h4 h6 ⊢
        have hnc := fun W => neg_any l W
        rw [hn] at hnc
        have hX : (normL (lessL xs l)).length ≤ xs.length := Nat.le_trans (norm_length _) (lessL_length _ _)
        have hY : (normL (lessL ys m)).length ≤ ys.length := Nat.le_trans (norm_length _) (lessL_length _ _)
        obtain ⟨X, eX⟩ : ∃ X, normL (lessL xs l) = X := ⟨_, rfl⟩
        obtain ⟨Y, eY⟩ : ∃ Y, normL (lessL ys m) = Y := ⟨_, rfl⟩
        rw [eX] at h5 hX ⊢
        rw [eY] at h6 hY ⊢
        have H1 := Lib.hid h1; have H2 := Lib.hid h2; have H3 := Lib.hid h3; have H4 := Lib.hid h4; have H5 := Lib.hid h5; have H6 := Lib.hid h6; have HL := Lib.hid hl; have HN := Lib.hid hnc
        clear r1 r2 h1 h2 h3 h4 h5 h6 hl hn hm hnc eX eY
        cases r3 : hasB xs l
        · rw [r3] at H3
          rw [Bool.false_and, if_neg (by decide), if_neg (by decide)]
          clear r3
          go_enter Tryz.func40, Tryz.ntmps40
          go_wp2_with fail
          refine H1.out.mono ?_
          rintro e w' ⟨rfl, rfl⟩
          go_wp2_with fail
          refine H2.out.mono ?_
          rintro e w' ⟨rfl, rfl⟩
          go_wp2_with fail
          refine (right_any _ _).mono ?_
          rintro e w' ⟨rfl, rfl⟩
          rw [HL.out]
          go_wp2_with fail
          refine H3.out.mono ?_
          rintro e w' ⟨rfl, rfl⟩
          go_wp2_with fail
          go_ret2
          exact ⟨_, rfl, World.ownsRow_nil _ _ _ _, Below.refl _ _⟩
        · rw [r3] at H3
          rw [Bool.true_and]
          clear r3
          cases r4 : hasB ys m
          · rw [r4] at H4
            rw [if_neg (by decide), if_neg (by decide)]
            clear r4
            go_enter Tryz.func40, Tryz.ntmps40
            go_wp2_with fail
            refine H1.out.mono ?_
            rintro e w' ⟨rfl, rfl⟩
            go_wp2_with fail
            refine H2.out.mono ?_
            rintro e w' ⟨rfl, rfl⟩
            go_wp2_with fail
            refine (right_any _ _).mono ?_
            rintro e w' ⟨rfl, rfl⟩
            rw [HL.out]
            go_wp2_with fail
            refine H3.out.mono ?_
            rintro e w' ⟨rfl, rfl⟩
            go_wp2_with fail
            refine (HN.out _).mono ?_
            rintro e w' ⟨rfl, rfl⟩
            go_wp2_with fail
            refine H4.out.mono ?_
            rintro e w' ⟨rfl, rfl⟩
            go_wp2_with fail
            go_ret2
            exact ⟨_, rfl, World.ownsRow_nil _ _ _ _, Below.refl _ _⟩
          · rw [r4] at H4
            rw [if_pos rfl, if_pos rfl]
            clear r4
            go_enter Tryz.func40, Tryz.ntmps40
            go_wp2_with fail
            refine H1.out.mono ?_
            rintro e w' ⟨rfl, rfl⟩
            go_wp2_with fail
            refine H2.out.mono ?_
            rintro e w' ⟨rfl, rfl⟩
            go_wp2_with fail
            refine (right_any _ _).mono ?_
            rintro e w' ⟨rfl, rfl⟩
            rw [HL.out]
            go_wp2_with fail
            refine H3.out.mono ?_
            rintro e w' ⟨rfl, rfl⟩
            go_wp2_with fail
            refine (HN.out _).mono ?_
            rintro e w' ⟨rfl, rfl⟩
            go_wp2_with fail
            refine H4.out.mono ?_
            rintro e w' ⟨rfl, rfl⟩
            go_wp2_with fail
            refine H5.out.mono ?_
            rintro e w2 ⟨v2, rfl, hr2, hb2⟩
            have HR2 := Lib.hid hr2; clear hr2
            go_wp2_with fail
            refine (HN.out _).mono ?_
            rintro e w' ⟨rfl, rfl⟩
            go_wp2_with fail
            refine (H6.out w2 hb2).mono ?_
            rintro e w3 ⟨v3, rfl, hr3, hb3⟩
            have hcc := concat2_any v2 v3 X Y (by omega) (by omega) w3 (ints_own (owns_on HR2.out hb3)) (ints_own hr3)
            obtain ⟨A3, c3, rfl⟩ := own_shape HR2.out
            obtain ⟨A4, c4, rfl⟩ := own_shape hr3
            have hb3' := hb2.trans (hb3.mono hb2.size)
            have hlen : (X ++ Y).length ≤ 1000000 := by rw [List.length_append]; omega
            obtain ⟨Z, eZ⟩ : ∃ Z, X ++ Y = Z := ⟨_, rfl⟩
            rw [eZ] at hcc hlen
            have HC := Lib.hid hcc; have HZ := Lib.hid eZ; clear hr3 hcc eZ
            go_wp2_with fail
            refine HC.out.mono ?_
            rintro e w4 ⟨v4, rfl, hr4, hb4⟩
            have HF := Lib.hid (fitting_any w4.heap.size v4 Z hlen w4 (Nat.le_refl _) (lits_own hr4))
            have hb4' := hb3'.trans (hb4.mono hb3'.size)
            clear hr4
            go_wp2_with fail
            refine HF.out.mono ?_
            rintro e w5 ⟨v5, rfl, hr5, hb5⟩
            have HR := Lib.hid hr5; clear hr5
            go_wp2_with fail
            go_ret2
            rw [HZ.out]
            exact ⟨v5, rfl, owns_mono HR.out hb4'.size, hb4'.trans (hb5.mono hb4'.size)⟩
end Go.Proofs.YtfbmagmelebkbaaGreat
