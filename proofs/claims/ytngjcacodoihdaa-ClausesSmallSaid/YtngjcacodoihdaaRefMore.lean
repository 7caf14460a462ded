/- The reference's Without, Clashes, Union, Resolve, Compare. -/
import Derived.Test.YtngjcacodoihdaaRefNorm
import Derived.Test.YtngjcacodoihdaaCmpFunc
import Derived.Laws.AppendOwnNone
namespace Go.Proofs.Ytngjcacodoihdaa
open Go.ChangeShapes Go.WideShapes Go.ChangeAt Go.RowKit Go.Shelf Go.Sort

/-- A slice of the call's own, and a number. -/
def Gives2 (e : TypeId) (w : World) (zs : List Int) (f : Int) (r : Ending) (w' : World) : Prop :=
  ∃ v, r = .returned (.tuple #[v, .int .i64 f]) ∧ w'.ownsRow w.heap.size e 1 v zs.length (zs.map (Value.int .i64)) ∧ Below w.heap.size w w'
theorem below_drewN {B : Nat} {a w : World} (h : Below B a w) (n : Nat) : Below B a (w.drewN n) := ⟨h.os, h.tape, h.output, h.size, h.block⟩
theorem own_shape {W : World} {base n : Nat} {e : TypeId} {v : Value} {xs : List Value} (h : W.ownsRow base e 1 v n xs) : ∃ A c, v = .slice A n c := by
  rcases h.2 with ⟨h1, h0⟩ | ⟨g, cap, cur, h1, -⟩
  · exact ⟨none, 0, by rw [h1, h0]⟩
  · exact ⟨_, _, h1⟩
/-- What is collected of the first k places. -/
def FiltRel (e : TypeId) (w : World) (p : Int → Bool) (zs : List Int) (own i : Value) (wr : World) : Prop :=
  ∃ (k : Nat) (o : Value) (l : List Int), o = own ∧ k ≤ zs.length ∧ i = .int .i64 k ∧ l = (zs.take k).filter p ∧ l.length ≤ k ∧ wr.ownsRow w.heap.size e 1 o l.length (l.map (Value.int .i64)) ∧ Below w.heap.size w wr
theorem filt_yes {p : Int → Bool} {zs l : List Int} {k : Nat} {x : Int} (ht : zs.take (k + 1) = zs.take k ++ [x]) (h : l = (zs.take k).filter p) (hp : p x = true) : l ++ [x] = (zs.take (k + 1)).filter p := by
  rw [ht, List.filter_append, h]; simp [hp]
theorem filt_no {p : Int → Bool} {zs l : List Int} {k : Nat} {x : Int} (ht : zs.take (k + 1) = zs.take k ++ [x]) (h : l = (zs.take k).filter p) (hp : p x = false) : l = (zs.take (k + 1)).filter p := by
  rw [ht, List.filter_append, h]; simp [hp]
theorem norm_lit {zs : List Int} (h : ∀ x ∈ zs, litB x = true) : ∀ x ∈ normL zs, litB x = true := fun x hx => h x (norm_mem.1 hx)

/-- All but one number. -/
def lessL (zs : List Int) (l : Int) : List Int := zs.filter fun x => x != l
theorem lessL_mem {zs : List Int} {l x : Int} : x ∈ lessL zs l ↔ x ∈ zs ∧ x ≠ l := by
  unfold lessL
  rw [List.mem_filter, bne_iff_ne]
theorem lessL_lit {zs : List Int} {l : Int} (h : ∀ x ∈ zs, litB x = true) : ∀ x ∈ lessL zs l, litB x = true := fun x hx => h x (lessL_mem.1 hx).1
set_option maxRecDepth 100000 in
set_option maxHeartbeats 2000000 in
theorem ref_without (B : Nat) (sv : Value) (zs : List Int) (l : Int) (hz : zs.length ≤ 1000000) (hl : ∀ x ∈ zs, litB x = true) (w : World) (hB : B ≤ w.heap.size) (hI : Ints B w sv zs) :
    Calls Try.prog 46 #[sv, .int .i64 l] w (Gives2 3 w (if litB l then normL (lessL zs l) else []) (if litB l then 0 else 10)) := by
  obtain ⟨i0, hi, hz0, hz1, hz2⟩ := info_parts infoInt
  obtain ⟨A, cap, rfl, hc⟩ := ints_shape hI
  have HC := Lib.hid hc; have HL := Lib.hid hl; clear hc hI hl
  cases hb : litB l
  · rw [if_neg (by decide), if_neg (by decide)]
    have HBl := Lib.hid hb; clear hb
    go_enter Try.func46, Try.ntmps46
    go_wp2_with (go_at_call 19; refine (ref_right _ _).mono ?_; rintro e w' ⟨rfl, rfl⟩; rw [HBl.out])
    go_ret2
    exact ⟨_, rfl, World.ownsRow_nil _ _ _ _, Below.refl _ _⟩
  · rw [if_pos rfl, if_pos rfl]
    have HBl := Lib.hid hb; clear hb
    go_enter Try.func46, Try.ntmps46
    go_wp2_with (go_at_call 19; refine (ref_right _ _).mono ?_; rintro e w' ⟨rfl, rfl⟩; rw [HBl.out])
    go_loopw [6, 7] (fun own i wr => FiltRel 3 w (fun x => x != l) zs own i wr) (fun _ i _ => zs.length - (intOf i).toNat)
    case atStart => exact ⟨0, _, [], rfl, by omega, rfl, rfl, Nat.le_refl _, World.ownsRow_nil _ _ _ _, Below.refl _ _⟩
    case round =>
      obtain ⟨k, own, o, rfl, hk, rfl, ho, hol, hrow, hbw⟩ := hrel
      have HO := Lib.hid ho; have HR := Lib.hid hrow; clear ho hrow
      by_cases hlt : k < zs.length
      · obtain ⟨b, off, rfl, hb, hck⟩ := HC.out k hlt
        have hck : wr.cell? ⟨b, off + k, none⟩ = some (.int .i64 (zs[k]?.getD 0)) := (hbw.cell (p := ⟨b, off + k, none⟩) (Nat.lt_of_lt_of_le hb hB)).trans hck
        have htk := take_one zs hlt
        obtain ⟨x, hx⟩ : ∃ x, zs[k]?.getD 0 = x := ⟨_, rfl⟩
        rw [hx] at hck htk
        clear hx
        have HT := Lib.hid htk; clear htk
        by_cases he : x = l
        · subst he
          go_wp2_with fail
          go_roundw
          case rel => exact ⟨k + 1, own, o, rfl, by omega, by go_num, filt_no HT.out HO.out (by simp), by omega, HR.out, hbw⟩
          case measure => simp [intOf]; omega
        · have hq : (x == l) = false := by rw [beq_eq_false_iff_ne]; exact he
          have hq2 : (x != l) = true := by rw [bne_iff_ne]; exact he
          have HQ := Lib.hid hq2
          clear he
          go_wp2_with (at_builtin; refine wpList_append_own _ rfl _ _ 22 rfl w.heap.size 3 i0 (.int .i64 0) 1 8 Try.underlying22 hi hz0 hz1 hz2 rfl (by decide) _ _ _ rfl (HR.out.alloc _) ⟨wr.heap.size, 0, none⟩ 1 1 [.int .i64 x] rfl rfl (cell_one_new _ _ _) (by simp [Value.oneCell']) (by unfold maxLen; omega) (by omega) (by have := hbw.size; simp; omega) ?_; intro v' w2 hown' hgrow _)
          have hbn : Below w.heap.size w w2 := by
            refine (hbw.alloc hbw.size _).grown hgrow (by have := hbw.size; simp; omega) (fun k e => ?_)
            exact (HR.out.lt k e).1
          have hlen : (o ++ [x]).length = o.length + 1 := by simp
          refine ⟨⟨k + 1, _, o ++ [x], rfl, by omega, by go_num, filt_yes HT.out HO.out HQ.out, by omega, ?_, hbn⟩, ?_⟩
          · rw [hlen, List.map_append]; exact hown'
          · simp [intOf]; omega
      · obtain rfl : k = zs.length := by omega
        have hoz : o = lessL zs l := by rw [HO.out, List.take_length]; rfl
        subst hoz
        have hI := ints_own HR.out
        have HN := Lib.hid (ref_norm wr.heap.size own (lessL zs l) (by omega) (lessL_lit HL.out) wr (Nat.le_refl _) hI)
        clear hI
        go_wp2_with (go_at_call 47; refine HN.out.mono ?_; rintro e w2 ⟨v2, rfl, hr2, hb2⟩)
        go_ret2
        exact ⟨v2, rfl, owns_mono hr2 hbw.size, hbw.trans (hb2.mono hbw.size)⟩

set_option maxRecDepth 100000 in
set_option maxHeartbeats 2000000 in
theorem ref_clashes (B : Nat) (xv yv : Value) (xs ys : List Int) (hz : xs.length ≤ 1000000) (hz' : ys.length ≤ 1000000) (hl : ∀ x ∈ xs, litB x = true) (w : World) (hB : B ≤ w.heap.size) (hI : Ints B w xv xs) (hJ : Ints B w yv ys) :
    Calls Try.prog 53 #[xv, yv] w (GivesE 3 w (normL (xs.filter fun x => hasB ys (-x)))) := by
  obtain ⟨i0, hi, hz0, hz1, hz2⟩ := info_parts infoInt
  have hH := fun x w' (h : Below w.heap.size w w') => ref_has w.heap.size yv ys x (by omega) w' ((hJ.more hB).below h)
  obtain ⟨A, cap, rfl, hc⟩ := ints_shape hI
  have HC := Lib.hid hc; have HL := Lib.hid hl; have HH := Lib.hid hH; clear hc hI hl hJ hH
  go_enter Try.func53, Try.ntmps53
  go_wp2_with fail
  go_loopw [5, 6] (fun own i wr => FiltRel 3 w (fun x => hasB ys (-x)) xs own i wr) (fun _ i _ => xs.length - (intOf i).toNat)
  case atStart => exact ⟨0, _, [], rfl, by omega, rfl, rfl, Nat.le_refl _, World.ownsRow_nil _ _ _ _, Below.refl _ _⟩
  case round =>
    obtain ⟨k, own, o, rfl, hk, rfl, ho, hol, hrow, hbw⟩ := hrel
    have HO := Lib.hid ho; have HR := Lib.hid hrow; clear ho hrow
    by_cases hlt : k < xs.length
    · obtain ⟨b, off, rfl, hb, hck⟩ := HC.out k hlt
      have hck : wr.cell? ⟨b, off + k, none⟩ = some (.int .i64 (xs[k]?.getD 0)) := (hbw.cell (p := ⟨b, off + k, none⟩) (Nat.lt_of_lt_of_le hb hB)).trans hck
      have htk := take_one xs hlt
      have hlx := litB_of (HL.out _ (get_mem hlt))
      obtain ⟨x, hx⟩ : ∃ x, xs[k]?.getD 0 = x := ⟨_, rfl⟩
      rw [hx] at hck htk hlx
      clear hx
      have HT := Lib.hid htk; clear htk
      have HHx := Lib.hid (HH.out (-x) wr hbw)
      cases hv : hasB ys (-x)
      · rw [hv] at HHx
        have HV := Lib.hid hv; clear hv
        go_wp2_with (go_at_call 41; refine HHx.out.mono ?_; rintro e w' ⟨rfl, rfl⟩)
        go_roundw
        case rel => exact ⟨k + 1, own, o, rfl, by omega, by go_num, filt_no HT.out HO.out HV.out, by omega, HR.out, hbw⟩
        case measure => simp [intOf]; omega
      · rw [hv] at HHx
        have HV := Lib.hid hv; clear hv
        go_wp2_with (first
          | (go_at_call 41; refine HHx.out.mono ?_; rintro e w' ⟨rfl, rfl⟩)
          | (at_builtin; refine wpList_append_own _ rfl _ _ 22 rfl w.heap.size 3 i0 (.int .i64 0) 1 8 Try.underlying22 hi hz0 hz1 hz2 rfl (by decide) _ _ _ rfl (HR.out.alloc _) ⟨wr.heap.size, 0, none⟩ 1 1 [.int .i64 x] rfl rfl (cell_one_new _ _ _) (by simp [Value.oneCell']) (by unfold maxLen; omega) (by omega) (by have := hbw.size; simp; omega) ?_; intro v' w2 hown' hgrow _))
        have hbn : Below w.heap.size w w2 := by
          refine (hbw.alloc hbw.size _).grown hgrow (by have := hbw.size; simp; omega) (fun k e => ?_)
          exact (HR.out.lt k e).1
        have hlen : (o ++ [x]).length = o.length + 1 := by simp
        refine ⟨⟨k + 1, _, o ++ [x], rfl, by omega, by go_num, filt_yes HT.out HO.out HV.out, by omega, ?_, hbn⟩, ?_⟩
        · rw [hlen, List.map_append]; exact hown'
        · simp [intOf]; omega
    · obtain rfl : k = xs.length := by omega
      have hoz : o = xs.filter fun x => hasB ys (-x) := by rw [HO.out, List.take_length]
      subst hoz
      have hI := ints_own HR.out
      have HN := Lib.hid (ref_norm wr.heap.size own _ (by omega) (fun x hx => HL.out x (List.mem_filter.1 hx).1) wr (Nat.le_refl _) hI)
      clear hI
      go_wp2_with (go_at_call 47; refine HN.out.mono ?_; rintro e w2 ⟨v2, rfl, hr2, hb2⟩)
      go_ret
      exact ⟨v2, rfl, owns_mono hr2 hbw.size, hbw.trans (hb2.mono hbw.size)⟩

/-- The errors of Union: too many. -/
def manyE (zs : List Int) : Int := if 4096 < (normL zs).length then 5 else 0
def manyL (zs : List Int) : List Int := if 4096 < (normL zs).length then [] else normL zs

set_option maxRecDepth 100000 in
set_option maxHeartbeats 2000000 in
theorem ref_union (B : Nat) (xv yv : Value) (xs ys : List Int) (hz : xs.length ≤ 100000) (hz' : ys.length ≤ 100000) (hl : ∀ x ∈ xs, litB x = true) (hl' : ∀ x ∈ ys, litB x = true) (w : World) (hB : B ≤ w.heap.size) (hI : Ints B w xv xs) (hJ : Ints B w yv ys) :
    Calls Try.prog 49 #[xv, yv] w (Gives2 3 w (manyL (xs ++ ys)) (manyE (xs ++ ys))) := by
  obtain ⟨i0, hi, hz0, hz1, hz2⟩ := info_parts infoInt
  have hlz : ∀ x ∈ xs ++ ys, litB x = true := fun x hx => (List.mem_append.1 hx).elim (hl x) (hl' x)
  have hlen : (xs ++ ys).length ≤ 200000 := by rw [List.length_append]; omega
  have HLz := Lib.hid hlz
  have hI0 := (hI.more hB)
  have hJ0 := (hJ.more hB)
  clear hI hJ hl hl' hlz
  have hE : (w.alloc (.cells #[] 3)).ownsRow w.heap.size 3 1 (.slice (some ⟨w.heap.size, 0, none⟩) 0 0) 0 [] :=
    ⟨rfl, .inr ⟨_, _, _, rfl, Nat.le_refl _, World.alloc_heap_new w _, Nat.zero_le _, Nat.zero_le _, rfl, rfl⟩⟩
  have hb0 : Below w.heap.size w (w.alloc (.cells #[] 3)) := (Below.refl _ w).alloc (Nat.le_refl _) _
  have hN : ∀ W v, Below w.heap.size w W → W.ownsRow w.heap.size 3 1 v (xs ++ ys).length ((xs ++ ys).map (Value.int .i64)) → Calls Try.prog 47 #[v] W (GivesE 3 W (normL (xs ++ ys))) := fun W v _ hr =>
    ref_norm W.heap.size v _ (by omega) HLz.out W (Nat.le_refl _) (ints_own hr)
  have HE := Lib.hid hE; have HN := Lib.hid hN; clear hE hN
  have HI := Lib.hid (hI0.below hb0); have HJ : Hid (∀ W, Below w.heap.size w W → Ints w.heap.size W yv ys) := fun W h => hJ0.below h
  obtain ⟨A1, c1, rfl, -⟩ := ints_shape hI0
  obtain ⟨A2, c2, rfl, -⟩ := ints_shape hJ0
  clear hI0 hJ0
  have hfin : ∀ W v, Below w.heap.size w W → W.ownsRow w.heap.size 3 1 v (normL (xs ++ ys)).length ((normL (xs ++ ys)).map (Value.int .i64)) → (4096 < (normL (xs ++ ys)).length → Gives2 3 w (manyL (xs ++ ys)) (manyE (xs ++ ys)) (.returned (.tuple #[.slice none 0 0, .int .i64 5])) W) ∧ (¬ 4096 < (normL (xs ++ ys)).length → Gives2 3 w (manyL (xs ++ ys)) (manyE (xs ++ ys)) (.returned (.tuple #[v, .int .i64 0])) W) := by
    intro W v hb hr
    constructor
    · intro h
      rw [manyL, manyE, if_pos h, if_pos h]
      exact ⟨_, rfl, World.ownsRow_nil _ _ _ _, hb⟩
    · intro h
      rw [manyL, manyE, if_neg h, if_neg h]
      exact ⟨v, rfl, hr, hb⟩
  obtain ⟨R, hR⟩ : ∃ R, Gives2 3 w (manyL (xs ++ ys)) (manyE (xs ++ ys)) = R := ⟨_, rfl⟩
  rw [hR] at hfin ⊢
  have hnl := norm_length (xs ++ ys)
  obtain ⟨ns, hns⟩ : ∃ ns, normL (xs ++ ys) = ns := ⟨_, rfl⟩
  rw [hns] at hfin HN hnl
  have HF := Lib.hid hfin; clear hfin hR hns
  go_enter Try.func49, Try.ntmps49
  go_wp2_with (first
    | (at_builtin; refine wpList_append_ints rfl (.tmp 7) (.tmp 8) 22 rfl w.heap.size 3 i0 (.int .i64 0) 8 Try.underlying22 hi hz0 hz1 hz2 rfl _ _ _ rfl HE.out .i64 w.heap.size _ xs rfl HI.out (by unfold maxLen; omega) (by omega) (by simp) ?_; intro v1 w1 hown1 hb1)
    | (at_builtin; refine wpList_append_ints rfl (.tmp 9) (.tmp 10) 22 rfl w.heap.size 3 i0 (.int .i64 0) 8 Try.underlying22 hi hz0 hz1 hz2 rfl _ _ _ rfl hown1 .i64 w.heap.size _ ys rfl (HJ.out _ (hb0.trans hb1)) (by unfold maxLen; omega) (by omega) (Nat.le_trans hb0.size hb1.size) ?_; intro v2 w2 hown2 hb2)
    | (go_at_call 47; refine (HN.out _ _ (hb0.trans (hb1.trans hb2)) (by rw [List.length_append, List.map_append]; simpa using hown2)).mono ?_; rintro e w3 ⟨v3, rfl, hr3, hb3⟩; obtain ⟨A3, c3, rfl⟩ := own_shape hr3))
  all_goals
    have hb4 : Below w.heap.size w w3 := hb0.trans (hb1.trans (hb2.trans (hb3.mono (Nat.le_trans hb0.size (Nat.le_trans hb1.size hb2.size)))))
    have hr4 := owns_mono hr3 (Nat.le_trans hb0.size (Nat.le_trans hb1.size hb2.size))
    first
    | exact (HF.out w3 _ hb4 hr4).1 (by omega)
    | exact (HF.out w3 _ hb4 hr4).2 (by omega)

/-- What the reference's Resolve says. -/
def resE (xs ys : List Int) (l : Int) : Int := if litB l then (if hasB xs l && hasB ys (-l) then manyE (normL (lessL xs l) ++ normL (lessL ys (-l))) else 21) else 10
def resL (xs ys : List Int) (l : Int) : List Int := if litB l then (if hasB xs l && hasB ys (-l) then manyL (normL (lessL xs l) ++ normL (lessL ys (-l))) else []) else []
theorem neg_lit {l : Int} (h : litB l = true) : litB (-l) = true := by have := litB_of h; exact litB_yes (by omega) (by omega) (by omega)

set_option maxRecDepth 100000 in
set_option maxHeartbeats 4000000 in
theorem ref_resolve (B : Nat) (xv yv : Value) (xs ys : List Int) (l : Int) (hz : xs.length ≤ 100000) (hz' : ys.length ≤ 100000) (hl : ∀ x ∈ xs, litB x = true) (hl' : ∀ x ∈ ys, litB x = true) (w : World) (hB : B ≤ w.heap.size) (hI : Ints B w xv xs) (hJ : Ints B w yv ys) :
    Calls Try.prog 50 #[xv, yv, .int .i64 l] w (Gives2 3 w (resL xs ys l) (resE xs ys l)) := by
  have hI0 := hI.more hB
  have hJ0 := hJ.more hB
  clear hI hJ
  unfold resL resE
  cases hb : litB l
  · rw [if_neg (by decide), if_neg (by decide)]
    have HBl := Lib.hid hb; clear hb
    obtain ⟨A1, c1, rfl, -⟩ := ints_shape hI0
    obtain ⟨A2, c2, rfl, -⟩ := ints_shape hJ0
    clear hI0 hJ0 hl hl'
    go_enter Try.func50, Try.ntmps50
    go_wp2_with (go_at_call 19; refine (ref_right _ _).mono ?_; rintro e w' ⟨rfl, rfl⟩; rw [HBl.out])
    go_ret2
    exact ⟨_, rfl, World.ownsRow_nil _ _ _ _, Below.refl _ _⟩
  · rw [if_pos rfl, if_pos rfl]
    have hbl := litB_of hb
    have hnl := neg_lit hb
    have hH1 := ref_has w.heap.size xv xs l (by omega) w hI0
    have hH2 := ref_has w.heap.size yv ys (-l) (by omega) w hJ0
    have hw1 := ref_without w.heap.size xv xs l (by omega) hl w (Nat.le_refl _) hI0
    rw [if_pos hb, if_pos hb] at hw1
    have hw2 := fun W (h : Below w.heap.size w W) => ref_without w.heap.size yv ys (-l) (by omega) hl' W h.size (hJ0.below h)
    rw [if_pos hnl, if_pos hnl] at hw2
    have hu := fun W v1 v2 h1 h2 => ref_union W.heap.size v1 v2 (normL (lessL xs l)) (normL (lessL ys (-l))) (by have := norm_length (lessL xs l); have : (lessL xs l).length ≤ xs.length := List.length_filter_le _ _; omega) (by have := norm_length (lessL ys (-l)); have : (lessL ys (-l)).length ≤ ys.length := List.length_filter_le _ _; omega) (norm_lit (lessL_lit hl)) (norm_lit (lessL_lit hl')) W (Nat.le_refl _) h1 h2
    have HBl := Lib.hid hb; have HH1 := Lib.hid hH1; have HH2 := Lib.hid hH2; have HW1 := Lib.hid hw1; have HW2 := Lib.hid hw2; have HU := Lib.hid hu; clear hb hnl hH1 hH2 hw1 hw2 hu hl hl'
    obtain ⟨A1, c1, rfl, -⟩ := ints_shape hI0
    obtain ⟨A2, c2, rfl, -⟩ := ints_shape hJ0
    clear hI0 hJ0
    obtain ⟨X, hX⟩ : ∃ X, normL (lessL xs l) = X := ⟨_, rfl⟩
    obtain ⟨Y, hY⟩ : ∃ Y, normL (lessL ys (-l)) = Y := ⟨_, rfl⟩
    rw [hX] at HW1 HU
    rw [hY] at HW2 HU
    rw [hX, hY]
    clear hX hY
    cases h1 : hasB xs l
    · rw [h1] at HH1
      rw [Bool.false_and, if_neg (by decide), if_neg (by decide)]
      clear h1
      go_enter Try.func50, Try.ntmps50
      go_wp2_with (first
        | (go_at_call 19; refine (ref_right _ _).mono ?_; rintro e w' ⟨rfl, rfl⟩; rw [HBl.out])
        | (go_at_call 41; refine HH1.out.mono ?_; rintro e w' ⟨rfl, rfl⟩))
      go_ret2
      exact ⟨_, rfl, World.ownsRow_nil _ _ _ _, Below.refl _ _⟩
    · rw [h1] at HH1
      rw [Bool.true_and]
      clear h1
      cases h2 : hasB ys (-l)
      · rw [h2] at HH2
        rw [if_neg (by decide), if_neg (by decide)]
        clear h2
        go_enter Try.func50, Try.ntmps50
        go_wp2_with (first
          | (go_at_call 19; refine (ref_right _ _).mono ?_; rintro e w' ⟨rfl, rfl⟩; rw [HBl.out])
          | (go_at_call 41; with_reducible refine HH1.out.mono ?_; rintro e w' ⟨rfl, rfl⟩)
          | (go_at_call 41; refine HH2.out.mono ?_; rintro e w' ⟨rfl, rfl⟩))
        go_ret2
        exact ⟨_, rfl, World.ownsRow_nil _ _ _ _, Below.refl _ _⟩
      · rw [h2] at HH2
        rw [if_pos rfl, if_pos rfl]
        clear h2
        go_enter Try.func50, Try.ntmps50
        go_wp2_with (first
          | (go_at_call 19; refine (ref_right _ _).mono ?_; rintro e w' ⟨rfl, rfl⟩; rw [HBl.out])
          | (go_at_call 41; with_reducible refine HH1.out.mono ?_; rintro e w' ⟨rfl, rfl⟩)
          | (go_at_call 41; refine HH2.out.mono ?_; rintro e w' ⟨rfl, rfl⟩))
        refine HW1.out.mono ?_
        rintro e w1 ⟨v1, rfl, hr1, hb1⟩
        go_wp2_with fail
        refine (HW2.out w1 hb1).mono ?_
        rintro e w2 ⟨v2, rfl, hr2, hb2⟩
        have hi1 : Ints w2.heap.size w2 v1 X := (ints_own hr1).on hb2
        have HU2 := Lib.hid (HU.out w2 v1 v2 hi1 (ints_own hr2))
        clear hi1
        go_wp2_with fail
        refine HU2.out.mono ?_
        rintro e w3 ⟨v3, rfl, hr3, hb3⟩
        go_wp2_with fail
        go_ret2
        exact ⟨v3, rfl, owns_mono hr3 (Nat.le_trans hb1.size hb2.size), hb1.trans ((hb2.mono hb1.size).trans (hb3.mono (Nat.le_trans hb1.size hb2.size)))⟩
end Go.Proofs.Ytngjcacodoihdaa
