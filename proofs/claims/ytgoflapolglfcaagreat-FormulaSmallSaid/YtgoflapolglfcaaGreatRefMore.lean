/- slices.CompareFunc with lits.Compare. -/
/- The reference's Without, Clashes, Union, Resolve, Compare. -/
import Derived.Test.YtgoflapolglfcaaGreatRight
import Derived.Test.YtgoflapolglfcaaGreatRefNorm
import Derived.Laws.AppendOwnNone
namespace Go.Proofs.YtgoflapolglfcaaGreat
open Go.ChangeShapes Go.WideShapes Go.ChangeAt Go.RowKit Go.Shelf Go.Sort

/-- The first places that differ tell; then the lengths. -/
def cmpLL : List Int → List Int → Int
  | [], [] => 0
  | [], _ :: _ => -1
  | _ :: _, [] => 1
  | a :: x, b :: y => if compareI a b = 0 then cmpLL x y else compareI a b
def CmpRel (xs ys : List Int) (i : Value) : Prop := ∃ k : Nat, k ≤ xs.length ∧ k ≤ ys.length ∧ i = .int .i64 k ∧ cmpLL xs ys = cmpLL (xs.drop k) (ys.drop k)
theorem drop_one (xs : List Int) {k : Nat} (h : k < xs.length) : xs.drop k = xs[k]?.getD 0 :: xs.drop (k + 1) := by
  rw [List.drop_eq_getElem_cons h]; simp [h]

set_option maxRecDepth 100000 in
set_option maxHeartbeats 2000000 in
theorem cmpFunc_any (B : Nat) (v1 v2 : Value) (xs ys : List Int) (hx : xs.length ≤ 9223372036854775807) (w : World) (h1 : Ints B w v1 xs) (h2 : Ints B w v2 ys) :
    Calls Tryz.prog 73 #[v1, v2, .func (.func 74) #[] #[]] w fun e w' => e = .returned (.int .i64 (cmpLL xs ys)) ∧ w = w' := by
  obtain ⟨A1, c1, rfl, hc1⟩ := ints_shape h1
  obtain ⟨A2, c2, rfl, hc2⟩ := ints_shape h2
  have H1 := Lib.hid hc1; have H2 := Lib.hid hc2; clear hc1 hc2 h1 h2
  go_enter Tryz.func73, Tryz.ntmps73
  go_wp2_with fail
  go_loop [13] (fun i => CmpRel xs ys i) (fun i => xs.length - (intOf i).toNat)
  case atStart => exact ⟨0, Nat.zero_le _, Nat.zero_le _, rfl, rfl⟩
  case round =>
    obtain ⟨k, hk1, hk2, rfl, he⟩ := hrel
    by_cases hlt : k < xs.length
    · obtain ⟨b1, o1, rfl, -, hck1⟩ := H1.out k hlt
      have hd1 := drop_one xs hlt
      obtain ⟨x, hx⟩ : ∃ x, xs[k]?.getD 0 = x := ⟨_, rfl⟩
      rw [hx] at hck1 hd1
      clear hx
      have HD1 := Lib.hid hd1; have HE := Lib.hid he; clear hd1 he
      by_cases hlt2 : k < ys.length
      · obtain ⟨b2, o2, rfl, -, hck2⟩ := H2.out k hlt2
        have hd2 := drop_one ys hlt2
        obtain ⟨y, hy⟩ : ∃ y, ys[k]?.getD 0 = y := ⟨_, rfl⟩
        rw [hy] at hck2 hd2
        clear hy
        have HD2 := Lib.hid hd2; clear hd2
        obtain ⟨c, ec⟩ : ∃ c, compareI x y = c := ⟨_, rfl⟩
        have hcmp := fun W => compare_any x y W
        rw [ec] at hcmp
        have HEc := Lib.hid ec; clear ec
        have HCm := Lib.hid hcmp; clear hcmp
        by_cases h0 : c = 0
        · subst h0
          go_wp2_with (go_at_call 74; refine (HCm.out _).mono ?_; rintro e w' ⟨rfl, rfl⟩)
          go_round
          case rel => exact ⟨k + 1, by omega, by omega, by go_num, by rw [HE.out, HD1.out, HD2.out, cmpLL, if_pos HEc.out]⟩
          case measure => simp [intOf]; omega
        · go_wp2_with (go_at_call 74; refine (HCm.out _).mono ?_; rintro e w' ⟨rfl, rfl⟩)
          go_ret
          exact ⟨ret_i (by rw [HE.out, HD1.out, HD2.out, cmpLL, HEc.out, if_neg h0]), rfl⟩
      · have hd2 : ys.drop k = [] := List.drop_of_length_le (by omega)
        have HD2 := Lib.hid hd2; clear hd2
        go_wp2_with fail
        go_ret
        exact ⟨ret_i (by rw [HE.out, HD1.out, HD2.out, cmpLL]), rfl⟩
    · obtain rfl : k = xs.length := by omega
      have hd1 : xs.drop xs.length = [] := List.drop_length
      have HD1 := Lib.hid hd1; have HE := Lib.hid he; clear hd1 he
      by_cases hlt2 : xs.length < ys.length
      · have hd2 := drop_one ys hlt2
        have HD2 := Lib.hid hd2; clear hd2
        go_wp2_with fail
        go_ret
        exact ⟨ret_i (by rw [HE.out, HD1.out, HD2.out, cmpLL]), rfl⟩
      · have hd2 : ys.drop xs.length = [] := List.drop_of_length_le (by omega)
        have HD2 := Lib.hid hd2; clear hd2
        go_wp2_with fail
        go_ret
        exact ⟨ret_i (by rw [HE.out, HD1.out, HD2.out, cmpLL]), rfl⟩
end Go.Proofs.YtgoflapolglfcaaGreat
namespace Go.Proofs.YtgoflapolglfcaaGreat
open Go.ChangeShapes Go.WideShapes Go.ChangeAt Go.RowKit Go.Shelf Go.Sort

/-- A slice of the call's own, and a number. -/
def Gives2 (e : TypeId) (w : World) (zs : List Int) (f : Int) (r : Ending) (w' : World) : Prop :=
  ∃ v, r = .returned (.tuple #[v, .int .i64 f]) ∧ w'.ownsRow w.heap.size e 1 v zs.length (zs.map (Value.int .i64)) ∧ Below w.heap.size w w'
theorem below_drewN {B : Nat} {a w : World} (h : Below B a w) (n : Nat) : Below B a (w.drewN n) := ⟨h.os, h.tape, h.output, h.size, h.block⟩
theorem own_shape {W : World} {base n : Nat} {e : TypeId} {v : Value} {xs : List Value} (h : W.ownsRow base e 1 v n xs) : ∃ A c, v = .slice A n c := by
  rcases h.2 with ⟨h1, h0⟩ | ⟨g, cap, cur, h1, -⟩
  · exact ⟨none, 0, by rw [h1, h0]⟩
  · exact ⟨_, _, h1⟩
/-- What is collected of the first k places. -/
def FiltRel (e : TypeId) (w : World) (p : Int → Bool) (zs : List Int) (own i : Value) (wr : World) : Prop :=
  ∃ (k : Nat) (o : Value) (l : List Int), o = own ∧ k ≤ zs.length ∧ i = .int .i64 k ∧ l = (zs.take k).filter p ∧ l.length ≤ k ∧ wr.ownsRow w.heap.size e 1 o l.length (l.map (Value.int .i64)) ∧ Below w.heap.size w wr
theorem filt_yes {p : Int → Bool} {zs l : List Int} {k : Nat} {x : Int} (ht : zs.take (k + 1) = zs.take k ++ [x]) (h : l = (zs.take k).filter p) (hp : p x = true) : l ++ [x] = (zs.take (k + 1)).filter p := by
  rw [ht, List.filter_append, h]; simp [hp]
theorem filt_no {p : Int → Bool} {zs l : List Int} {k : Nat} {x : Int} (ht : zs.take (k + 1) = zs.take k ++ [x]) (h : l = (zs.take k).filter p) (hp : p x = false) : l = (zs.take (k + 1)).filter p := by
  rw [ht, List.filter_append, h]; simp [hp]
theorem norm_lit {zs : List Int} (h : ∀ x ∈ zs, litB x = true) : ∀ x ∈ normL zs, litB x = true := fun x hx => h x (norm_mem.1 hx)

/-- All but one number. -/
def lessL (zs : List Int) (l : Int) : List Int := zs.filter fun x => x != l
theorem lessL_mem {zs : List Int} {l x : Int} : x ∈ lessL zs l ↔ x ∈ zs ∧ x ≠ l := by
  unfold lessL
  rw [List.mem_filter, bne_iff_ne]
theorem lessL_lit {zs : List Int} {l : Int} (h : ∀ x ∈ zs, litB x = true) : ∀ x ∈ lessL zs l, litB x = true := fun x hx => h x (lessL_mem.1 hx).1
/-- The errors of Union: too many. -/
def manyE (zs : List Int) : Int := if 4096 < (normL zs).length then 5 else 0
def manyL (zs : List Int) : List Int := if 4096 < (normL zs).length then [] else normL zs

/-- What the reference's Resolve says. -/
def resE (xs ys : List Int) (l : Int) : Int := if litB l then (if hasB xs l && hasB ys (-l) then manyE (normL (lessL xs l) ++ normL (lessL ys (-l))) else 21) else 10
def resL (xs ys : List Int) (l : Int) : List Int := if litB l then (if hasB xs l && hasB ys (-l) then manyL (normL (lessL xs l) ++ normL (lessL ys (-l))) else []) else []
theorem neg_lit {l : Int} (h : litB l = true) : litB (-l) = true := by have := litB_of h; exact litB_yes (by omega) (by omega) (by omega)

end Go.Proofs.YtgoflapolglfcaaGreat
