/- slices.Grow and Concat of clauses. -/
import Derived.Test.YtfbmagmelebkbaaGreatClWithin
import Derived.Laws.AppendOwnNone
namespace Go.Proofs.YtfbmagmelebkbaaGreat
open Go.RowKit Go.ChangeAt Go.ChangeShapes Go.WideShapes

def szI (a b : Nat) : Nat → Int
  | 0 => 0
  | 1 => a
  | _ => (a : Int) + (b : Int)
def catL (xs ys : List Int) : Nat → List Int
  | 0 => []
  | 1 => xs
  | _ => xs ++ ys

set_option maxRecDepth 100000 in
set_option maxHeartbeats 1000000 in
/-- slices.Grow of nil. -/
theorem growLit (n : Nat) (hn : n ≤ 1000000) (w : World) :
    Calls Tryz.prog 123 #[.slice none 0 0, .int .i64 n] w fun e w' => ∃ v, e = .returned v ∧ w'.ownsRow w.heap.size 37 1 v 0 [] ∧ Below w.heap.size w w' := by
  obtain ⟨i0, hi, hz0, hz1, hz2⟩ := info_parts infoLit
  by_cases h0 : n = 0
  · subst h0
    go_enter Tryz.func123, Tryz.ntmps123
    go_wp2
    go_ret
    exact ⟨_, rfl, World.ownsRow_nil _ _ _ _, Below.refl _ _⟩
  · have hn0 : (0 : Int) < (n : Int) := by omega
    have hb : ¬ (281474976710656 : Int) < (n : Int) * (Tryz.t37.bytes : Int) := by rw [show Tryz.t37.bytes = 8 by kernel_rfl]; omega
    have hns : ¬ 281474976710656 < Builtin.nextslicecap n 0 * Tryz.t37.bytes := by rw [show Tryz.t37.bytes = 8 by kernel_rfl]; have := nextslicecap_le (need := n) (old := 0) (by omega); omega
    have hcap := And.intro (grownCap_ge w n 0 37) (grownCap_le_maxLen w n 0 37 (by unfold maxLen; omega))
    simp only [grownCap] at hcap
    go_enter Tryz.func123, Tryz.ntmps123
    go_wp2
    obtain ⟨c, hc⟩ : ∃ c, (Question.appendCap n 0 37).cut (w.tape w.drawn (Question.appendCap n 0 37)) = c := ⟨_, rfl⟩
    rw [hc] at hcap ⊢
    have hb1 : Below w.heap.size w ((w.alloc (.cells (Builtin.zeroCells #[Value.int .i64 0] n ++ Builtin.zeroCells #[Value.int .i64 0] (c - n)) 37)).drew) := (((Below.refl _ w).alloc (Nat.le_refl _) _)).drew
    have hr : ((w.alloc (.cells (Builtin.zeroCells #[Value.int .i64 0] n ++ Builtin.zeroCells #[Value.int .i64 0] (c - n)) 37)).drew).ownsRow w.heap.size 37 1 (.slice (some ⟨w.heap.size, 0, none⟩) 0 c) 0 [] := by
      refine ⟨rfl, .inr ⟨_, _, _, rfl, Nat.le_refl _, World.alloc_heap_new w _, Nat.zero_le _, hcap.2, ?_, by simp⟩⟩
      rw [Array.size_append, size_zeroCells, size_zeroCells]
      simp
      omega
    go_ret
    exact ⟨_, rfl, hr, hb1⟩

def SzLit (xs ys : List Int) (size i : Value) : Prop := ∃ k : Nat, k ≤ 2 ∧ i = .int .i64 k ∧ size = .int .i64 (szI xs.length ys.length k)
def CcLit (w : World) (xs ys : List Int) (o i : Value) (wr : World) : Prop :=
  ∃ (k : Nat) (v : Value), v = o ∧ k ≤ 2 ∧ i = .int .i64 k ∧ Below w.heap.size w wr ∧ wr.ownsRow w.heap.size 37 1 v (catL xs ys k).length ((catL xs ys k).map (Value.int .i64))

set_option maxRecDepth 100000 in
set_option maxHeartbeats 2000000 in
theorem concatLit (B : Nat) (va vb : Value) (xs ys : List Int) (hx : xs.length ≤ 10000) (hy : ys.length ≤ 10000) (w : World) (hB : B < w.heap.size) (hA : Ints w.heap.size w va xs) (hC : Ints w.heap.size w vb ys)
    (h0 : w.cell? ⟨B, 0, none⟩ = some va) (h1 : w.cell? ⟨B, 1, none⟩ = some vb) :
    Calls Tryz.prog 89 #[.slice (some ⟨B, 0, none⟩) 2 2] w fun e w' => ∃ v, e = .returned v ∧ w'.ownsRow w.heap.size 37 1 v (xs ++ ys).length ((xs ++ ys).map (Value.int .i64)) ∧ Below w.heap.size w w' := by
  obtain ⟨i0, hi, hz0, hz1, hz2⟩ := info_parts infoLit
  obtain ⟨A1, c1, rfl, -⟩ := ints_shape hA
  obtain ⟨A2, c2, rfl, -⟩ := ints_shape hC
  go_enter Tryz.func89, Tryz.ntmps89
  go_wp2_with fail
  go_loop [3, 11] (fun s i => SzLit xs ys s i) (fun _ i => 2 - (intOf i).toNat)
  case atStart => exact ⟨0, by omega, rfl, rfl⟩
  case round =>
    obtain ⟨k, hk, rfl, rfl⟩ := hrel
    by_cases k0 : k = 0
    · subst k0
      rw [show szI xs.length ys.length 0 = 0 from rfl, show ((0 : Nat) : Int) = 0 from rfl]
      go_wp2_with fail
      go_round
      case rel => exact ⟨1, by omega, rfl, by go_num⟩
      case measure => simp [intOf]
    · by_cases k1 : k = 1
      · subst k1
        rw [show szI xs.length ys.length 1 = (xs.length : Int) from rfl, show ((1 : Nat) : Int) = 1 from rfl]
        go_wp2_with fail
        go_round
        case rel => exact ⟨2, by omega, rfl, by go_num⟩
        case measure => simp [intOf]
      · obtain rfl : k = 2 := by omega
        rw [show szI xs.length ys.length 2 = ((xs.length + ys.length : Nat) : Int) from (Int.natCast_add _ _).symm, show ((2 : Nat) : Int) = 2 from rfl]
        clear hk k0 k1
        obtain ⟨nn, hnn⟩ : ∃ nn, xs.length + ys.length = nn := ⟨_, rfl⟩
        have hn1 : nn ≤ 1000000 := by omega
        rw [hnn]
        clear hnn
        go_wp2_with fail
        refine (growLit nn hn1 w).mono ?_
        rintro e w1 ⟨v, rfl, hr, hb⟩
        go_wp2_with fail
        go_loopw [6, 27] (fun o i wr => CcLit w xs ys o i wr) (fun _ i _ => 2 - (intOf i).toNat)
        case atStart => exact ⟨0, _, rfl, by omega, rfl, hb, hr⟩
        case round =>
          obtain ⟨k, v, rfl, hk, rfl, hb, hr⟩ := hrel
          obtain ⟨wo, rfl⟩ : ∃ wo : World, wo = wr := ⟨_, rfl⟩
          have c0 := (hb.cell (p := ⟨B, 0, none⟩) hB).trans h0
          have c1 := (hb.cell (p := ⟨B, 1, none⟩) hB).trans h1
          have HA := Lib.hid (hA.below hb); have HC := Lib.hid (hC.below hb)
          clear h0 h1 hA hC
          have HR := Lib.hid hr; clear hr
          by_cases k0 : k = 0
          · subst k0
            have HR0 : Hid (wo.ownsRow w.heap.size 37 1 v ([] : List Int).length (([] : List Int).map (Value.int .i64))) := HR.out
            rw [show ((0 : Nat) : Int) = 0 from rfl]
            go_wp2_with (at_builtin; refine wpList_append_ints rfl _ _ 41 rfl w.heap.size 37 i0 (.int .i64 0) 8 Tryz.underlying41 hi hz0 hz1 hz2 rfl _ _ _ rfl HR0.out .i64 w.heap.size _ xs rfl HA.out (by simp [maxLen]; omega) (by simp; omega) hb.size ?_; intro v' w2 hown' hb2)
            have hbn : Below w.heap.size w w2 := hb.trans hb2
            have hrn : w2.ownsRow w.heap.size 37 1 v' xs.length (xs.map (Value.int .i64)) := by simpa using hown'
            clear hown'
            go_roundw
            case rel => exact ⟨1, _, rfl, by omega, rfl, hbn, hrn⟩
            case measure => simp [intOf]
          · by_cases k1 : k = 1
            · subst k1
              have HR0 : Hid (wo.ownsRow w.heap.size 37 1 v xs.length (xs.map (Value.int .i64))) := HR.out
              rw [show ((1 : Nat) : Int) = 1 from rfl]
              go_wp2_with (at_builtin; refine wpList_append_ints rfl _ _ 41 rfl w.heap.size 37 i0 (.int .i64 0) 8 Tryz.underlying41 hi hz0 hz1 hz2 rfl _ _ _ rfl HR0.out .i64 w.heap.size _ ys rfl HC.out (by simp [maxLen]; omega) (by omega) hb.size ?_; intro v' w2 hown' hb2)
              have hbn : Below w.heap.size w w2 := hb.trans hb2
              have hrn : w2.ownsRow w.heap.size 37 1 v' (catL xs ys 2).length ((catL xs ys 2).map (Value.int .i64)) := by
                rw [show catL xs ys 2 = xs ++ ys from rfl, List.length_append, List.map_append]
                exact hown'
              clear hown'
              go_roundw
              case rel => exact ⟨2, _, rfl, by omega, rfl, hbn, hrn⟩
              case measure => simp [intOf]
            · obtain rfl : k = 2 := by omega
              rw [show ((2 : Nat) : Int) = 2 from rfl]
              go_wp2_with fail
              go_ret
              exact ⟨_, rfl, HR.out, hb⟩
end Go.Proofs.YtfbmagmelebkbaaGreat
