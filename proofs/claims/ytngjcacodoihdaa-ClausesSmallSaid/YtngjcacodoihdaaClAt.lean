/- The contracts of layer 2 where clauses are right: with the values named. -/
import Derived.Test.YtngjcacodoihdaaClMath
import Derived.Test.YtngjcacodoihdaaClPair
namespace Go.Proofs.Ytngjcacodoihdaa
open Go.RowKit Go.ChangeAt Go.ChangeShapes Go.WideShapes

/-- What Made gives of a slice, in each world in which it reads so. -/
def MadeAt (v : Value) (z a : List Int) : Prop := ∀ W, IntsK .u8 W.heap.size W v z → Calls Try.prog 20 #[v] W (GivesE 34 W a)
theorem madeAt {v : Value} {z a : List Int} (hl : z.length ≤ maxLen) (hw : ∀ x ∈ z, (Lit.int .u8 x).wf = true) (hf : Fits v) (ha : madeL z = a) : MadeAt v z a := fun W hI => by
  subst ha
  exact made_any W.heap.size v z (by unfold maxLen at hl; omega) hw hf W (Nat.le_refl _) hI
def AwakeAt : Prop := ∀ W, Calls Try.prog 13 #[] W fun e w' => e = .returned (.bool true) ∧ Below W.heap.size W w'
theorem awakeAt : AwakeAt := clawake_any
def cmpE (a b : List Int) : Int := if rightB a && rightB b then clCmp a b else 0
def sameB (a b : List Int) : Bool := withinB a b && withinB b a
theorem cmp_at (B : Nat) (xv yv : Value) (xs ys : List Int) (n : Int) (hx : xs.length ≤ 1000000) (hy : ys.length ≤ 1000000) (hn : cmpE xs ys = n) (w : World) (hB : B ≤ w.heap.size) (hI : Lits B w xv xs) (hJ : Lits B w yv ys) :
    Calls Try.prog 37 #[xv, yv] w fun e w' => e = .returned (.int .i64 n) ∧ Below w.heap.size w w' := by
  subst hn
  exact clcompare_any B xv yv xs ys hx hy w hB hI hJ
theorem same_at (B : Nat) (xv yv : Value) (xs ys : List Int) (b : Bool) (hx : xs.length ≤ 1000000) (hy : ys.length ≤ 1000000) (hb : sameB xs ys = b) (w : World) (hB : B ≤ w.heap.size) (hI : Lits B w xv xs) (hJ : Lits B w yv ys) :
    Calls Try.prog 33 #[xv, yv] w fun e w' => e = .returned (.bool b) ∧ Below w.heap.size w w' := by
  subst hb
  exact same_any B xv yv xs ys hx hy w hB hI hJ
theorem within_at (B : Nat) (xv yv : Value) (xs ys : List Int) (b : Bool) (hx : xs.length ≤ 1000000) (hy : ys.length ≤ 1000000) (hb : withinB xs ys = b) (w : World) (hB : B ≤ w.heap.size) (hI : Lits B w xv xs) (hJ : Lits B w yv ys) :
    Calls Try.prog 36 #[xv, yv] w fun e w' => e = .returned (.bool b) ∧ Below w.heap.size w w' := by
  subst hb
  exact within_any B xv yv xs ys hx hy w hB hI hJ
theorem norm_at (B : Nat) (sv : Value) (zs ns : List Int) (b : Bool) (hz : zs.length ≤ 1000000) (hr : rightB zs = true) (hn : normL zs = ns) (hb : alwB zs = b) (w : World) (hB : B ≤ w.heap.size) (hI : Lits B w sv zs) :
    Calls Try.prog 28 #[sv] w (Gives3 34 w ns b 0) := by
  have h := clnorm_any B sv zs hz w hB hI
  rw [hr, if_pos rfl, if_pos rfl, Bool.true_and, hn, hb] at h
  exact h
theorem union_at (B : Nat) (xv yv : Value) (xs ys us : List Int) (hx : xs.length ≤ 2000) (hy : ys.length ≤ 2000) (hr : rightB xs = true) (hr' : rightB ys = true) (hu : normL (xs ++ ys) = us) (w : World) (hB : B ≤ w.heap.size) (hI : Lits B w xv xs) (hJ : Lits B w yv ys) :
    Calls Try.prog 16 #[xv, yv] w (Gives2 34 w us 0) := by
  have h := clunion_any B xv yv xs ys (by omega) (by omega) w hB hI hJ
  have hl : (xs ++ ys).length ≤ 4096 := by rw [List.length_append]; omega
  rw [hr, hr', Bool.and_self, if_pos rfl, if_pos rfl, manyE_few hl, manyL_few hl, hu] at h
  exact h
theorem holds_at (B : Nat) (sv lv : Value) (zs ls : List Int) (b : Bool) (hz : zs.length ≤ 1000000) (hl : ls.length ≤ 1000) (hr : rightB zs = true) (hb : holdsB zs ls = b) (w : World) (hB : B ≤ w.heap.size) (hI : Lits B w sv zs) (hJ : Ints B w lv ls) :
    Calls Try.prog 27 #[sv, lv] w fun e w' => e = .returned (.bool b) ∧ Below w.heap.size w w' := by
  have h := holds_any B sv lv zs ls hz (by omega) w hB hI hJ
  rw [hr, Bool.true_and, hb] at h
  exact h
theorem has_at (B : Nat) (sv : Value) (zs : List Int) (x : Int) (b : Bool) (hz : zs.length ≤ 1000000) (hr : rightB zs = true) (hb : hasB zs x = b) (w : World) (hI : Ints B w sv zs) :
    Calls Try.prog 23 #[sv, .int .i64 x] w fun e w' => e = .returned (.bool b) ∧ w = w' := by
  have h := clhas_any B sv zs x hz w hI
  rw [hr, Bool.true_and, hb] at h
  exact h
theorem always_at (B : Nat) (sv : Value) (zs : List Int) (b : Bool) (hz : zs.length ≤ 1000000) (hr : rightB zs = true) (hb : alwB zs = b) (w : World) (hB : B ≤ w.heap.size) (hI : Lits B w sv zs) :
    Calls Try.prog 24 #[sv] w fun e w' => e = .returned (.bool b) ∧ Below w.heap.size w w' := by
  have h := always_any B sv zs hz w hB hI
  rw [hr, Bool.true_and, hb] at h
  exact h
theorem without_at (B : Nat) (sv : Value) (zs : List Int) (l : Int) (ns : List Int) (hz : zs.length ≤ 1000000) (hr : rightB zs = true) (hl : litB l = true) (hn : normL (lessL zs l) = ns) (w : World) (hB : B ≤ w.heap.size) (hI : Lits B w sv zs) :
    Calls Try.prog 25 #[sv, .int .i64 l] w (Gives2 34 w ns 0) := by
  have h := clwithout_any B sv zs l hz w hB hI
  rw [hr, hl, if_pos rfl, if_pos rfl, if_pos rfl, if_pos rfl, hn] at h
  exact h
theorem clash_at (B : Nat) (xv yv : Value) (xs ys ks : List Int) (hx : xs.length ≤ 1000000) (hy : ys.length ≤ 1000000) (hr : rightB xs = true) (hr' : rightB ys = true) (hk : normL (xs.filter fun x => hasB ys (-x)) = ks) (w : World) (hB : B ≤ w.heap.size) (hI : Lits B w xv xs) (hJ : Lits B w yv ys) :
    Calls Try.prog 21 #[xv, yv] w (Gives2 34 w ks 0) := by
  have h := clashes_any B xv yv xs ys hx hy w hB hI hJ
  rw [hr, hr', Bool.and_self, if_pos rfl, if_pos rfl, hk] at h
  exact h
theorem resolve_at (B : Nat) (xv yv : Value) (xs ys : List Int) (l : Int) (rs : List Int) (f : Int) (hx : xs.length ≤ 10000) (hy : ys.length ≤ 10000) (hr : clResL xs ys l = rs) (hf : clResE xs ys l = f) (w : World) (hB : B ≤ w.heap.size) (hI : Lits B w xv xs) (hJ : Lits B w yv ys) :
    Calls Try.prog 17 #[xv, yv, .int .i64 l] w (Gives2 34 w rs f) := by
  subst hr; subst hf
  exact clresolve_any B xv yv xs ys l hx hy w hB hI hJ
end Go.Proofs.Ytngjcacodoihdaa
