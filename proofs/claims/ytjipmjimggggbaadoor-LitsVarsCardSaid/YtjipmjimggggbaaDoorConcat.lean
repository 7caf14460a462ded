/- slices.Grow and Concat, of numbers and of literals. -/
import Derived.Test.YtjipmjimggggbaaDoorSorted
import Derived.Test.YtjipmjimggggbaaDoorLitsListsWalk
import Derived.Laws.AppendOwnNone
namespace Go.Proofs.YtjipmjimggggbaaDoor
open Go.RowKit Go.ChangeAt Go.ChangeShapes Go.WideShapes
open litsLists (infoLit)

def szI (a b : Nat) : Nat → Int
  | 0 => 0
  | 1 => a
  | _ => (a : Int) + (b : Int)
def catL (xs ys : List Int) : Nat → List Int
  | 0 => []
  | 1 => xs
  | _ => xs ++ ys
/-- The slice value v holds the numbers xs, and is nil, or in a block below B. -/
def IntsN (B : Nat) (W : World) (v : Value) (xs : List Int) : Prop :=
  (v = .slice none 0 0 ∧ xs = []) ∨ ∃ b off cap, v = .slice (some ⟨b, off, none⟩) xs.length cap ∧ b < B ∧ ∀ j, j < xs.length → W.cell? ⟨b, off + j, none⟩ = some (.int .i64 (xs[j]?.getD 0))
theorem IntsN.ints {B : Nat} {W : World} {v : Value} {xs : List Int} : IntsN B W v xs → Ints B W v xs
  | .inl ⟨h, e⟩ => .inl ⟨_, _, h, e⟩
  | .inr h => .inr h
theorem IntsN.below {B : Nat} {X Y : World} (h : Below B X Y) {v : Value} {xs : List Int} : IntsN B X v xs → IntsN B Y v xs
  | .inl e => .inl e
  | .inr ⟨b, off, cap, e, hb, hc⟩ => .inr ⟨b, off, cap, e, hb, fun j hj => (h.cell (p := ⟨b, off + j, none⟩) hb).trans (hc j hj)⟩
theorem IntsN.more {B B' : Nat} (h : B ≤ B') {X : World} {v : Value} {xs : List Int} : IntsN B X v xs → IntsN B' X v xs
  | .inl e => .inl e
  | .inr ⟨b, off, cap, e, hb, hc⟩ => .inr ⟨b, off, cap, e, by omega, hc⟩
theorem IntsN.shape {B : Nat} {W : World} {v : Value} {xs : List Int} : IntsN B W v xs → ∃ A c, v = .slice A xs.length c
  | .inl ⟨h, e⟩ => ⟨none, 0, by rw [h, e]; rfl⟩
  | .inr ⟨b, off, cap, e, _, _⟩ => ⟨_, _, e⟩
theorem news_ok {W : World} {b off : Nat} {xs : List Int} (h : ∀ j, j < xs.length → W.cell? ⟨b, off + j, none⟩ = some (.int .i64 (xs[j]?.getD 0))) :
    ∀ (j : Nat) (u : Value), (xs.map (Value.int .i64))[j]? = some u → W.cell? ((⟨b, off, none⟩ : Addr).add j) = some u := by
  intro j u hu
  have hadd : (⟨b, off, none⟩ : Addr).add j = ⟨b, off + j, none⟩ := by
    unfold Addr.add
    split
    · subst_vars; rfl
    · rfl
  rw [List.getElem?_map] at hu
  cases hx : xs[j]? with
  | none => rw [hx] at hu; cases hu
  | some x =>
    have hj : j < xs.length := (List.getElem?_eq_some_iff.1 hx).1
    rw [hadd, h j hj, hx]
    rw [hx] at hu
    exact hu
theorem news_one (xs : List Int) : ∀ u ∈ xs.map (Value.int .i64), u.oneCell' = true := by
  intro u hu
  obtain ⟨x, -, rfl⟩ := List.mem_map.1 hu
  simp [Value.oneCell']
theorem intsN_own {W : World} {base : Nat} {e : TypeId} {v : Value} {n : Nat} {xs : List Int} (h : W.ownsRow base e 1 v n (xs.map (Value.int .i64))) : IntsN W.heap.size W v xs := by
  have hl : xs.length = n := by simpa using h.1
  rcases h.2 with ⟨hv, h0⟩ | ⟨g, cap, cur, rfl, hb, hg, hn, hm, hs, ht⟩
  · subst h0
    exact .inl ⟨hv, List.eq_nil_of_length_eq_zero hl⟩
  · refine .inr ⟨g, 0, cap, by rw [hl], (h.lt g rfl).2, fun j hj => ?_⟩
    rw [Nat.zero_add, h.cellAt j (by omega), List.getElem?_map]
    simp [hj]

set_option maxRecDepth 100000 in
set_option maxHeartbeats 1000000 in
/-- slices.Grow of nil. -/
theorem growInt (n : Nat) (hn : n ≤ 1000000) (w : World) :
    Calls Tryd.prog 59 #[.slice none 0 0, .int .i64 n] w fun e w' => ∃ v, e = .returned v ∧ w'.ownsRow w.heap.size 3 1 v 0 [] ∧ Below w.heap.size w w' := by
  obtain ⟨i0, hi, hz0, hz1, hz2⟩ := info_parts infoInt
  by_cases h0 : n = 0
  · subst h0
    go_enter Tryd.func59, Tryd.ntmps59
    go_wp2
    go_ret
    exact ⟨_, rfl, World.ownsRow_nil _ _ _ _, Below.refl _ _⟩
  · have hn0 : (0 : Int) < (n : Int) := by omega
    have hb : ¬ (281474976710656 : Int) < (n : Int) * (Tryd.t3.bytes : Int) := by rw [show Tryd.t3.bytes = 8 by kernel_rfl]; omega
    have hns : ¬ 281474976710656 < Builtin.nextslicecap n 0 * Tryd.t3.bytes := by rw [show Tryd.t3.bytes = 8 by kernel_rfl]; have := nextslicecap_le (need := n) (old := 0) (by omega); omega
    have hcap := And.intro (grownCap_ge w n 0 3) (grownCap_le_maxLen w n 0 3 (by unfold maxLen; omega))
    simp only [grownCap] at hcap
    go_enter Tryd.func59, Tryd.ntmps59
    go_wp2
    obtain ⟨c, hc⟩ : ∃ c, (Question.appendCap n 0 3).cut (w.tape w.drawn (Question.appendCap n 0 3)) = c := ⟨_, rfl⟩
    rw [hc] at hcap ⊢
    have hb1 : Below w.heap.size w ((w.alloc (.cells (Builtin.zeroCells #[Value.int .i64 0] n ++ Builtin.zeroCells #[Value.int .i64 0] (c - n)) 3)).drew) := (((Below.refl _ w).alloc (Nat.le_refl _) _)).drew
    have hr : ((w.alloc (.cells (Builtin.zeroCells #[Value.int .i64 0] n ++ Builtin.zeroCells #[Value.int .i64 0] (c - n)) 3)).drew).ownsRow w.heap.size 3 1 (.slice (some ⟨w.heap.size, 0, none⟩) 0 c) 0 [] := by
      refine ⟨rfl, .inr ⟨_, _, _, rfl, Nat.le_refl _, World.alloc_heap_new w _, Nat.zero_le _, hcap.2, ?_, by simp⟩⟩
      rw [Array.size_append, size_zeroCells, size_zeroCells]
      simp
      omega
    go_ret
    exact ⟨_, rfl, hr, hb1⟩

def SzInt (xs ys : List Int) (size i : Value) : Prop := ∃ k : Nat, k ≤ 2 ∧ i = .int .i64 k ∧ size = .int .i64 (szI xs.length ys.length k)
def CcInt (w : World) (xs ys : List Int) (o i : Value) (wr : World) : Prop :=
  ∃ (k : Nat) (v : Value), v = o ∧ k ≤ 2 ∧ i = .int .i64 k ∧ Below w.heap.size w wr ∧ wr.ownsRow w.heap.size 3 1 v (catL xs ys k).length ((catL xs ys k).map (Value.int .i64))

set_option maxRecDepth 100000 in
set_option maxHeartbeats 2000000 in
theorem concatInt (B : Nat) (va vb : Value) (xs ys : List Int) (hx : xs.length ≤ 10000) (hy : ys.length ≤ 10000) (w : World) (hB : B < w.heap.size) (hA : IntsN w.heap.size w va xs) (hC : IntsN w.heap.size w vb ys)
    (h0 : w.cell? ⟨B, 0, none⟩ = some va) (h1 : w.cell? ⟨B, 1, none⟩ = some vb) :
    Calls Tryd.prog 38 #[.slice (some ⟨B, 0, none⟩) 2 2] w fun e w' => ∃ v, e = .returned v ∧ w'.ownsRow w.heap.size 3 1 v (xs ++ ys).length ((xs ++ ys).map (Value.int .i64)) ∧ Below w.heap.size w w' := by
  obtain ⟨i0, hi, hz0, hz1, hz2⟩ := info_parts infoInt
  obtain ⟨A1, c1, e1⟩ := hA.shape
  obtain ⟨A2, c2, e2⟩ := hC.shape
  go_enter Tryd.func38, Tryd.ntmps38
  go_wp2_with fail
  have h0' := h0; have h1' := h1
  rw [e1] at h0'
  rw [e2] at h1'
  go_loop [3, 11] (fun s i => SzInt xs ys s i) (fun _ i => 2 - (intOf i).toNat)
  case atStart => exact ⟨0, by omega, rfl, rfl⟩
  case round =>
    obtain ⟨k, hk, rfl, rfl⟩ := hrel
    by_cases k0 : k = 0
    · subst k0
      rw [show szI xs.length ys.length 0 = 0 from rfl, show ((0 : Nat) : Int) = 0 from rfl]
      go_wp2_with fail
      go_round
      case rel => exact ⟨1, by omega, rfl, by go_num⟩
      case measure => simp [intOf]
    · by_cases k1 : k = 1
      · subst k1
        rw [show szI xs.length ys.length 1 = (xs.length : Int) from rfl, show ((1 : Nat) : Int) = 1 from rfl]
        go_wp2_with fail
        go_round
        case rel => exact ⟨2, by omega, rfl, by go_num⟩
        case measure => simp [intOf]
      · obtain rfl : k = 2 := by omega
        rw [show szI xs.length ys.length 2 = ((xs.length + ys.length : Nat) : Int) from (Int.natCast_add _ _).symm, show ((2 : Nat) : Int) = 2 from rfl]
        clear hk k0 k1
        obtain ⟨nn, hnn⟩ : ∃ nn, xs.length + ys.length = nn := ⟨_, rfl⟩
        have hn1 : nn ≤ 1000000 := by omega
        rw [hnn]
        clear hnn
        go_wp2_with fail
        refine (growInt nn hn1 w).mono ?_
        rintro e w1 ⟨v, rfl, hr, hb⟩
        go_wp2_with fail
        go_loopw [6, 27] (fun o i wr => CcInt w xs ys o i wr) (fun _ i _ => 2 - (intOf i).toNat)
        case atStart => exact ⟨0, _, rfl, by omega, rfl, hb, hr⟩
        case round =>
          obtain ⟨k, v, rfl, hk, rfl, hb, hr⟩ := hrel
          obtain ⟨wo, rfl⟩ : ∃ wo : World, wo = wr := ⟨_, rfl⟩
          have c0 := (hb.cell (p := ⟨B, 0, none⟩) hB).trans h0
          have c1 := (hb.cell (p := ⟨B, 1, none⟩) hB).trans h1
          have HA := Lib.hid (hA.below hb); have HC := Lib.hid (hC.below hb)
          clear h0 h1 h0' h1' hA hC e1 e2
          have HR := Lib.hid hr; clear hr
          by_cases k0 : k = 0
          · subst k0
            have HR0 : Hid (wo.ownsRow w.heap.size 3 1 v ([] : List Int).length (([] : List Int).map (Value.int .i64))) := HR.out
            rw [show ((0 : Nat) : Int) = 0 from rfl]
            rcases HA.out with ⟨rfl, hx0⟩ | ⟨b, off, cap, rfl, hbl, hcs⟩
            · go_wp2_with (at_builtin; refine wpList_append_own_none rfl _ _ 25 rfl w.heap.size 3 i0 1 Tryd.underlying25 hi _ _ _ rfl HR0.out rfl ?_)
              go_roundw
              case rel => exact ⟨1, _, rfl, by omega, rfl, hb, by rw [show catL xs ys 1 = xs from rfl, hx0]; exact HR0.out⟩
              case measure => simp [intOf]
            · go_wp2_with (at_builtin; refine wpList_append_own _ rfl _ _ 25 rfl w.heap.size 3 i0 (.int .i64 0) 1 8 Tryd.underlying25 hi hz0 hz1 hz2 rfl (by decide) _ _ _ rfl HR0.out ⟨b, off, none⟩ xs.length cap (xs.map (Value.int .i64)) rfl (by simp) (news_ok hcs) (news_one xs) (by simp [maxLen]; omega) (by simp; omega) hb.size ?_; intro v' w2 hown' hgrow hv')
              have hbn : Below w.heap.size w w2 := hb.grown hgrow hb.size (fun k e => (HR0.out.lt k e).1)
              have hrn : w2.ownsRow w.heap.size 3 1 v' xs.length (xs.map (Value.int .i64)) := by simpa using hown'
              clear hown' hgrow hv'
              go_roundw
              case rel => exact ⟨1, _, rfl, by omega, rfl, hbn, hrn⟩
              case measure => simp [intOf]
          · by_cases k1 : k = 1
            · subst k1
              have HR0 : Hid (wo.ownsRow w.heap.size 3 1 v xs.length (xs.map (Value.int .i64))) := HR.out
              rw [show ((1 : Nat) : Int) = 1 from rfl]
              rcases HC.out with ⟨rfl, hx0⟩ | ⟨b, off, cap, rfl, hbl, hcs⟩
              · go_wp2_with (at_builtin; refine wpList_append_own_none rfl _ _ 25 rfl w.heap.size 3 i0 1 Tryd.underlying25 hi _ _ _ rfl HR0.out rfl ?_)
                go_roundw
                case rel => exact ⟨2, _, rfl, by omega, rfl, hb, by rw [show catL xs ys 2 = xs ++ ys from rfl, hx0, List.append_nil]; exact HR0.out⟩
                case measure => simp [intOf]
              · go_wp2_with (at_builtin; refine wpList_append_own _ rfl _ _ 25 rfl w.heap.size 3 i0 (.int .i64 0) 1 8 Tryd.underlying25 hi hz0 hz1 hz2 rfl (by decide) _ _ _ rfl HR0.out ⟨b, off, none⟩ ys.length cap (ys.map (Value.int .i64)) rfl (by simp) (news_ok hcs) (news_one ys) (by simp [maxLen]; omega) (by omega) hb.size ?_; intro v' w2 hown' hgrow hv')
                have hbn : Below w.heap.size w w2 := hb.grown hgrow hb.size (fun k e => (HR0.out.lt k e).1)
                have hrn : w2.ownsRow w.heap.size 3 1 v' (catL xs ys 2).length ((catL xs ys 2).map (Value.int .i64)) := by
                  rw [show catL xs ys 2 = xs ++ ys from rfl, List.length_append, List.map_append]
                  exact hown'
                clear hown' hgrow hv'
                go_roundw
                case rel => exact ⟨2, _, rfl, by omega, rfl, hbn, hrn⟩
                case measure => simp [intOf]
            · obtain rfl : k = 2 := by omega
              rw [show ((2 : Nat) : Int) = 2 from rfl]
              go_wp2_with fail
              go_ret
              exact ⟨_, rfl, HR.out, hb⟩

set_option maxRecDepth 100000 in
set_option maxHeartbeats 1000000 in
/-- slices.Grow of nil. -/
theorem growLit (n : Nat) (hn : n ≤ 1000000) (w : World) :
    Calls Tryd.prog 56 #[.slice none 0 0, .int .i64 n] w fun e w' => ∃ v, e = .returned v ∧ w'.ownsRow w.heap.size 27 1 v 0 [] ∧ Below w.heap.size w w' := by
  obtain ⟨i0, hi, hz0, hz1, hz2⟩ := info_parts infoLit
  by_cases h0 : n = 0
  · subst h0
    go_enter Tryd.func56, Tryd.ntmps56
    go_wp2
    go_ret
    exact ⟨_, rfl, World.ownsRow_nil _ _ _ _, Below.refl _ _⟩
  · have hn0 : (0 : Int) < (n : Int) := by omega
    have hb : ¬ (281474976710656 : Int) < (n : Int) * (Tryd.t27.bytes : Int) := by rw [show Tryd.t27.bytes = 8 by kernel_rfl]; omega
    have hns : ¬ 281474976710656 < Builtin.nextslicecap n 0 * Tryd.t27.bytes := by rw [show Tryd.t27.bytes = 8 by kernel_rfl]; have := nextslicecap_le (need := n) (old := 0) (by omega); omega
    have hcap := And.intro (grownCap_ge w n 0 27) (grownCap_le_maxLen w n 0 27 (by unfold maxLen; omega))
    simp only [grownCap] at hcap
    go_enter Tryd.func56, Tryd.ntmps56
    go_wp2
    obtain ⟨c, hc⟩ : ∃ c, (Question.appendCap n 0 27).cut (w.tape w.drawn (Question.appendCap n 0 27)) = c := ⟨_, rfl⟩
    rw [hc] at hcap ⊢
    have hb1 : Below w.heap.size w ((w.alloc (.cells (Builtin.zeroCells #[Value.int .i64 0] n ++ Builtin.zeroCells #[Value.int .i64 0] (c - n)) 27)).drew) := (((Below.refl _ w).alloc (Nat.le_refl _) _)).drew
    have hr : ((w.alloc (.cells (Builtin.zeroCells #[Value.int .i64 0] n ++ Builtin.zeroCells #[Value.int .i64 0] (c - n)) 27)).drew).ownsRow w.heap.size 27 1 (.slice (some ⟨w.heap.size, 0, none⟩) 0 c) 0 [] := by
      refine ⟨rfl, .inr ⟨_, _, _, rfl, Nat.le_refl _, World.alloc_heap_new w _, Nat.zero_le _, hcap.2, ?_, by simp⟩⟩
      rw [Array.size_append, size_zeroCells, size_zeroCells]
      simp
      omega
    go_ret
    exact ⟨_, rfl, hr, hb1⟩

def SzLit (xs ys : List Int) (size i : Value) : Prop := ∃ k : Nat, k ≤ 2 ∧ i = .int .i64 k ∧ size = .int .i64 (szI xs.length ys.length k)
def CcLit (w : World) (xs ys : List Int) (o i : Value) (wr : World) : Prop :=
  ∃ (k : Nat) (v : Value), v = o ∧ k ≤ 2 ∧ i = .int .i64 k ∧ Below w.heap.size w wr ∧ wr.ownsRow w.heap.size 27 1 v (catL xs ys k).length ((catL xs ys k).map (Value.int .i64))

set_option maxRecDepth 100000 in
set_option maxHeartbeats 2000000 in
theorem concatLit (B : Nat) (va vb : Value) (xs ys : List Int) (hx : xs.length ≤ 10000) (hy : ys.length ≤ 10000) (w : World) (hB : B < w.heap.size) (hA : IntsN w.heap.size w va xs) (hC : IntsN w.heap.size w vb ys)
    (h0 : w.cell? ⟨B, 0, none⟩ = some va) (h1 : w.cell? ⟨B, 1, none⟩ = some vb) :
    Calls Tryd.prog 34 #[.slice (some ⟨B, 0, none⟩) 2 2] w fun e w' => ∃ v, e = .returned v ∧ w'.ownsRow w.heap.size 27 1 v (xs ++ ys).length ((xs ++ ys).map (Value.int .i64)) ∧ Below w.heap.size w w' := by
  obtain ⟨i0, hi, hz0, hz1, hz2⟩ := info_parts infoLit
  obtain ⟨A1, c1, e1⟩ := hA.shape
  obtain ⟨A2, c2, e2⟩ := hC.shape
  go_enter Tryd.func34, Tryd.ntmps34
  go_wp2_with fail
  have h0' := h0; have h1' := h1
  rw [e1] at h0'
  rw [e2] at h1'
  go_loop [3, 11] (fun s i => SzLit xs ys s i) (fun _ i => 2 - (intOf i).toNat)
  case atStart => exact ⟨0, by omega, rfl, rfl⟩
  case round =>
    obtain ⟨k, hk, rfl, rfl⟩ := hrel
    by_cases k0 : k = 0
    · subst k0
      rw [show szI xs.length ys.length 0 = 0 from rfl, show ((0 : Nat) : Int) = 0 from rfl]
      go_wp2_with fail
      go_round
      case rel => exact ⟨1, by omega, rfl, by go_num⟩
      case measure => simp [intOf]
    · by_cases k1 : k = 1
      · subst k1
        rw [show szI xs.length ys.length 1 = (xs.length : Int) from rfl, show ((1 : Nat) : Int) = 1 from rfl]
        go_wp2_with fail
        go_round
        case rel => exact ⟨2, by omega, rfl, by go_num⟩
        case measure => simp [intOf]
      · obtain rfl : k = 2 := by omega
        rw [show szI xs.length ys.length 2 = ((xs.length + ys.length : Nat) : Int) from (Int.natCast_add _ _).symm, show ((2 : Nat) : Int) = 2 from rfl]
        clear hk k0 k1
        obtain ⟨nn, hnn⟩ : ∃ nn, xs.length + ys.length = nn := ⟨_, rfl⟩
        have hn1 : nn ≤ 1000000 := by omega
        rw [hnn]
        clear hnn
        go_wp2_with fail
        refine (growLit nn hn1 w).mono ?_
        rintro e w1 ⟨v, rfl, hr, hb⟩
        go_wp2_with fail
        go_loopw [6, 27] (fun o i wr => CcLit w xs ys o i wr) (fun _ i _ => 2 - (intOf i).toNat)
        case atStart => exact ⟨0, _, rfl, by omega, rfl, hb, hr⟩
        case round =>
          obtain ⟨k, v, rfl, hk, rfl, hb, hr⟩ := hrel
          obtain ⟨wo, rfl⟩ : ∃ wo : World, wo = wr := ⟨_, rfl⟩
          have c0 := (hb.cell (p := ⟨B, 0, none⟩) hB).trans h0
          have c1 := (hb.cell (p := ⟨B, 1, none⟩) hB).trans h1
          have HA := Lib.hid (hA.below hb); have HC := Lib.hid (hC.below hb)
          clear h0 h1 h0' h1' hA hC e1 e2
          have HR := Lib.hid hr; clear hr
          by_cases k0 : k = 0
          · subst k0
            have HR0 : Hid (wo.ownsRow w.heap.size 27 1 v ([] : List Int).length (([] : List Int).map (Value.int .i64))) := HR.out
            rw [show ((0 : Nat) : Int) = 0 from rfl]
            rcases HA.out with ⟨rfl, hx0⟩ | ⟨b, off, cap, rfl, hbl, hcs⟩
            · go_wp2_with (at_builtin; refine wpList_append_own_none rfl _ _ 26 rfl w.heap.size 27 i0 1 Tryd.underlying26 hi _ _ _ rfl HR0.out rfl ?_)
              go_roundw
              case rel => exact ⟨1, _, rfl, by omega, rfl, hb, by rw [show catL xs ys 1 = xs from rfl, hx0]; exact HR0.out⟩
              case measure => simp [intOf]
            · go_wp2_with (at_builtin; refine wpList_append_own _ rfl _ _ 26 rfl w.heap.size 27 i0 (.int .i64 0) 1 8 Tryd.underlying26 hi hz0 hz1 hz2 rfl (by decide) _ _ _ rfl HR0.out ⟨b, off, none⟩ xs.length cap (xs.map (Value.int .i64)) rfl (by simp) (news_ok hcs) (news_one xs) (by simp [maxLen]; omega) (by simp; omega) hb.size ?_; intro v' w2 hown' hgrow hv')
              have hbn : Below w.heap.size w w2 := hb.grown hgrow hb.size (fun k e => (HR0.out.lt k e).1)
              have hrn : w2.ownsRow w.heap.size 27 1 v' xs.length (xs.map (Value.int .i64)) := by simpa using hown'
              clear hown' hgrow hv'
              go_roundw
              case rel => exact ⟨1, _, rfl, by omega, rfl, hbn, hrn⟩
              case measure => simp [intOf]
          · by_cases k1 : k = 1
            · subst k1
              have HR0 : Hid (wo.ownsRow w.heap.size 27 1 v xs.length (xs.map (Value.int .i64))) := HR.out
              rw [show ((1 : Nat) : Int) = 1 from rfl]
              rcases HC.out with ⟨rfl, hx0⟩ | ⟨b, off, cap, rfl, hbl, hcs⟩
              · go_wp2_with (at_builtin; refine wpList_append_own_none rfl _ _ 26 rfl w.heap.size 27 i0 1 Tryd.underlying26 hi _ _ _ rfl HR0.out rfl ?_)
                go_roundw
                case rel => exact ⟨2, _, rfl, by omega, rfl, hb, by rw [show catL xs ys 2 = xs ++ ys from rfl, hx0, List.append_nil]; exact HR0.out⟩
                case measure => simp [intOf]
              · go_wp2_with (at_builtin; refine wpList_append_own _ rfl _ _ 26 rfl w.heap.size 27 i0 (.int .i64 0) 1 8 Tryd.underlying26 hi hz0 hz1 hz2 rfl (by decide) _ _ _ rfl HR0.out ⟨b, off, none⟩ ys.length cap (ys.map (Value.int .i64)) rfl (by simp) (news_ok hcs) (news_one ys) (by simp [maxLen]; omega) (by omega) hb.size ?_; intro v' w2 hown' hgrow hv')
                have hbn : Below w.heap.size w w2 := hb.grown hgrow hb.size (fun k e => (HR0.out.lt k e).1)
                have hrn : w2.ownsRow w.heap.size 27 1 v' (catL xs ys 2).length ((catL xs ys 2).map (Value.int .i64)) := by
                  rw [show catL xs ys 2 = xs ++ ys from rfl, List.length_append, List.map_append]
                  exact hown'
                clear hown' hgrow hv'
                go_roundw
                case rel => exact ⟨2, _, rfl, by omega, rfl, hbn, hrn⟩
                case measure => simp [intOf]
            · obtain rfl : k = 2 := by omega
              rw [show ((2 : Nat) : Int) = 2 from rfl]
              go_wp2_with fail
              go_ret
              exact ⟨_, rfl, HR.out, hb⟩
end Go.Proofs.YtjipmjimggggbaaDoor
