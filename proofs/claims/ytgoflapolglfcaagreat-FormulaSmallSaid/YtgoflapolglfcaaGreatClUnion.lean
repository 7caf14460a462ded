/- clauses.fitting, Norm, Without, Union, Resolve. -/
import Derived.Test.YtgoflapolglfcaaGreatClConcat
import Derived.Test.YtgoflapolglfcaaGreatClAlways
import Derived.Test.YtgoflapolglfcaaGreatRefMore
namespace Go.Proofs.YtgoflapolglfcaaGreat
open Go.RowKit Go.ChangeAt Go.ChangeShapes Go.WideShapes

theorem owns_on {W W' : World} {base n : Nat} {e : TypeId} {v : Value} {xs : List Value} (h : W.ownsRow base e 1 v n xs) (hb : Below W.heap.size W W') : W'.ownsRow base e 1 v n xs := by
  refine ⟨h.1, ?_⟩
  rcases h.2 with h0 | ⟨g, cap, cur, h1, h2, h3, r⟩
  · exact .inl h0
  · exact .inr ⟨g, cap, cur, h1, h2, (hb.block g (Array.getElem?_eq_some_iff.1 h3).1).trans h3, r⟩
theorem normal_any (B : Nat) (sv : Value) (zs : List Int) (w : World) (h : Ints B w sv zs) :
    Calls Tryz.prog 67 #[sv] w fun e w' => e = .returned (.func (.func 81) #[] #[.pointer (some ⟨w.heap.size, 0, none⟩)]) ∧ w' = w.alloc (.cells #[sv] 36) :=
  (callsIn_wide (n := 1)).1 (normal_in 1 B sv zs w h)
theorem collect_any (sv : Value) (zs : List Int) (hz : zs.length ≤ 1000000) (w : World) (hI : Lits w.heap.size w sv zs) :
    Calls Tryz.prog 66 #[.func (.func 81) #[] #[.pointer (some ⟨w.heap.size, 0, none⟩)]] (w.alloc (.cells #[sv] 36)) (GivesE 35 (w.alloc (.cells #[sv] 36)) (normL zs)) := by
  have hb : Below w.heap.size w (w.alloc (.cells #[sv] 36)) := (Below.refl _ _).alloc (Nat.le_refl _) _
  exact (callsIn_wide (n := 3)).1 (collectL_in 3 w.heap.size w.heap.size (by omega) sv zs hz _ (by simp) (by simp) (Boxed.new w 36 sv).cell (hI.below hb))


/-- A slice of the call's own, a bool, and a number. -/
def Gives3 (e : TypeId) (w : World) (zs : List Int) (b : Bool) (f : Int) (r : Ending) (w' : World) : Prop :=
  ∃ v, r = .returned (.tuple #[v, .bool b, .int .i64 f]) ∧ w'.ownsRow w.heap.size e 1 v zs.length (zs.map (Value.int .i64)) ∧ Below w.heap.size w w'
set_option maxHeartbeats 1000000 in
theorem clnorm_any (B : Nat) (sv : Value) (zs : List Int) (hz : zs.length ≤ 1000000) (w : World) (hB : B ≤ w.heap.size) (hI : Lits B w sv zs) :
    Calls Tryz.prog 47 #[sv] w (Gives3 35 w (if rightB zs then normL zs else []) (rightB zs && alwB zs) (if rightB zs then 0 else 20)) := by
  have h0 := clright_any B sv zs (by omega) w hI.ints
  have h1 := normal_any B sv zs w hI.ints
  have h2 := collect_any sv zs hz w (hI.more hB)
  have h3 := fun W (hb : Below w.heap.size w W) => always_any w.heap.size sv zs hz W hb.size ((hI.more hB).below hb)
  have hb0 : Below w.heap.size w (w.alloc (.cells #[sv] 36)) := (Below.refl _ _).alloc (Nat.le_refl _) _
  obtain ⟨A1, c1, rfl, -⟩ := ints_shape hI.ints
  obtain ⟨W0, hW0⟩ : ∃ W0, w.alloc (.cells #[.slice A1 zs.length c1] 36) = W0 := ⟨_, rfl⟩
  rw [hW0] at h1 h2 hb0
  clear hW0
  cases hr : rightB zs
  · rw [hr] at h0
    have H0 := Lib.hid h0
    clear h0 h1 h2 h3 hI hr
    rw [if_neg (by decide), if_neg (by decide), Bool.false_and]
    go_enter Tryz.func47, Tryz.ntmps47
    go_wp2_with fail
    refine H0.out.mono ?_
    rintro e w' ⟨rfl, rfl⟩
    go_wp2_with fail
    go_ret3
    exact ⟨_, rfl, World.ownsRow_nil _ _ _ _, Below.refl _ _⟩
  · rw [hr] at h0 h3
    rw [Bool.true_and] at h3
    have H0 := Lib.hid h0; have H1 := Lib.hid h1; have H2 := Lib.hid h2; have H3 := Lib.hid h3
    clear h0 h1 h2 h3 hI hr
    rw [if_pos rfl, if_pos rfl, Bool.true_and]
    go_enter Tryz.func47, Tryz.ntmps47
    go_wp2_with fail
    refine H0.out.mono ?_
    rintro e w' ⟨rfl, rfl⟩
    go_wp2_with fail
    refine H1.out.mono ?_
    rintro e w' ⟨rfl, rfl⟩
    go_wp2_with fail
    refine H2.out.mono ?_
    rintro e w2 ⟨v2, rfl, hr2, hb2⟩
    have hb2' := hb0.trans (hb2.mono hb0.size)
    have HR := Lib.hid hr2; clear hr2
    go_wp2_with fail
    refine (H3.out w2 hb2').mono ?_
    rintro e w3 ⟨rfl, hb3⟩
    have hr3 : w3.ownsRow w'.heap.size 35 1 v2 (normL zs).length ((normL zs).map (Value.int .i64)) := owns_on HR.out hb3
    have HR3 := Lib.hid hr3; clear hr3
    go_wp2_with fail
    go_ret3
    exact ⟨_, rfl, owns_mono HR3.out hb0.size, hb2'.trans (hb3.mono hb2'.size)⟩




/-- The answer of Resolve. -/
def clResL (xs ys : List Int) (l : Int) : List Int := if rightB xs && rightB ys then resL xs ys l else []
def clResE (xs ys : List Int) (l : Int) : Int := if rightB xs && rightB ys then resE xs ys l else 20
end Go.Proofs.YtgoflapolglfcaaGreat
