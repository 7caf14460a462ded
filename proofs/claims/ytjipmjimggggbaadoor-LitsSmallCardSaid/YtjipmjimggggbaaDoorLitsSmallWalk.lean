/- The walk of LitsSmall. -/
import Derived.Test.YtjipmjimggggbaaDoorTells
import Derived.Test.YtjipmjimggggbaaDoorLitsListsWalk
import Derived.BigQuiet
import Derived.IntWalk
namespace Go.Proofs.YtjipmjimggggbaaDoor.litsSmall
open Go.RowKit Go.ChangeAt Go.ChangeShapes Go.WideShapes

def ARel (w : World) (i : Value) (wr : World) : Prop := ∃ k : Nat, k ≤ 81 ∧ i = .int .i64 ((k : Int) - 40) ∧ Below w.heap.size w wr
def IRel (m : Nat) (w : World) (i : Value) (wr : World) : Prop := ∃ k : Nat, k ≤ m ∧ i = .int .i64 k ∧ Below w.heap.size w wr

/-- The numbers at the limits. -/
def endI (k : Nat) : Int := [(-9223372036854775808 : Int), -9223372036854775807, -1048577, -1048576, -1, 0, 1, 1048576, 1048577, 2097151, 2097152, 9223372036854775807].getD k 0
theorem endI_le (k : Nat) : endI k ≤ 9223372036854775807 := by
  by_cases h : k < 12
  · revert k
    decide
  · have : endI k = 0 := by
      unfold endI
      rw [List.getD_eq_getElem?_getD, List.getElem?_eq_none (by simp; omega)]
      rfl
    omega
def endsO : Obj := .cells #[.int .i64 (-9223372036854775808), .int .i64 (-9223372036854775807), .int .i64 (-1048577), .int .i64 (-1048576), .int .i64 (-1), .int .i64 0, .int .i64 1, .int .i64 1048576, .int .i64 1048577, .int .i64 2097151, .int .i64 2097152, .int .i64 9223372036854775807] 3

theorem ends_cells (w : World) : ∀ k, k < 12 → (w.alloc endsO).cell? ⟨w.heap.size, k, none⟩ = some (.int .i64 (endI k)) := by
  intro k hk
  unfold endsO
  rw [cell_of_row _ _ k _ _ (0, 0) (World.alloc_heap_new w _)]
  match k, hk with
  | 0, _ => rfl
  | 1, _ => rfl
  | 2, _ => rfl
  | 3, _ => rfl
  | 4, _ => rfl
  | 5, _ => rfl
  | 6, _ => rfl
  | 7, _ => rfl
  | 8, _ => rfl
  | 9, _ => rfl
  | 10, _ => rfl
  | 11, _ => rfl

theorem reads_drew (s : ByteArray) (w : World) (hs : s.size ≤ 9223372036854775807) :
    Calls Tryd.prog 14 #[.string s] w fun e w' => e = .returned (.bool true) ∧ ∃ q, w' = w.drewN q := by
  have h := of_ie (txV s.data.toList) (txN s.data.toList)
  have H1 := Lib.hid (read_any s w hs)
  have H2 := Lib.hid (ref_read s w hs)
  rw [show ofI (txV s.data.toList) (txN s.data.toList) = readI s.data.toList from rfl, show ofE (txV s.data.toList) = readE s.data.toList from rfl] at h
  obtain ⟨i, hi⟩ : ∃ i, readI s.data.toList = i := ⟨_, rfl⟩
  obtain ⟨e, he⟩ : ∃ e, readE s.data.toList = e := ⟨_, rfl⟩
  rw [hi, he] at h H1
  rw [hi] at H2
  clear hi he hs
  rcases h with ⟨rfl, hn⟩ | ⟨rfl, rfl⟩
  · have hb : (i == 0) = false := beq_eq_false_iff_ne.2 hn
    have hb2 : (i != 0) = true := bne_iff_ne.2 hn
    clear hn
    go_enter Tryd.func14, Tryd.ntmps14
    go_wp2_with (first
      | (go_at_call 29; refine H1.out.mono ?_; rintro e w' ⟨rfl, rfl⟩)
      | (go_at_call 48; refine H2.out.mono ?_; rintro e w' ⟨rfl, q, rfl⟩))
    go_ret
    exact ⟨rfl, _, rfl⟩
  · go_enter Tryd.func14, Tryd.ntmps14
    go_wp2_with (first
      | (go_at_call 29; refine H1.out.mono ?_; rintro e w' ⟨rfl, rfl⟩)
      | (go_at_call 48; refine H2.out.mono ?_; rintro e w' ⟨rfl, q, rfl⟩))
    go_ret
    exact ⟨rfl, _, rfl⟩

/-- The texts of many digits. -/
def longB (k : Nat) : ByteArray := match k with | 0 => ⟨#[49, 48, 52, 56, 53, 55, 54]⟩ | 1 => ⟨#[49, 48, 52, 56, 53, 55, 55]⟩ | 2 => ⟨#[45, 49, 48, 52, 56, 53, 55, 54]⟩ | 3 => ⟨#[45, 49, 48, 52, 56, 53, 55, 55]⟩ | 4 => ⟨#[57, 57, 57, 57, 57, 57, 57]⟩ | 5 => ⟨#[49, 48, 52, 56, 53, 55, 54, 48]⟩ | 6 => ⟨#[57, 57, 57, 57, 57, 57, 57, 57, 57, 57, 57, 57, 57, 57, 57, 57, 57, 57, 57, 57, 57, 57, 57]⟩ | 7 => ⟨#[45, 57, 57, 57, 57, 57, 57, 57, 57, 57, 57, 57, 57, 57, 57, 57, 57, 57, 57, 57, 57, 57, 57, 57]⟩ | 8 => ⟨#[45, 45, 49]⟩ | 9 => ⟨#[49, 45]⟩ | 10 => ⟨#[45]⟩ | 11 => ⟨#[49, 10]⟩ | _ => ⟨#[49, 56, 52, 52, 54, 55, 52, 52, 48, 55, 51, 55, 48, 57, 53, 53, 49, 54, 49, 55]⟩
theorem longB_le (k : Nat) : (longB k).size ≤ 9223372036854775807 := by
  match k with
  | 0 => decide
  | 1 => decide
  | 2 => decide
  | 3 => decide
  | 4 => decide
  | 5 => decide
  | 6 => decide
  | 7 => decide
  | 8 => decide
  | 9 => decide
  | 10 => decide
  | 11 => decide
  | n + 12 => exact Nat.le_trans (m := 20) (Nat.le_of_eq (rfl : (longB (n + 12)).size = 20)) (by decide)
def longO : Obj := .cells #[.string ⟨#[49, 48, 52, 56, 53, 55, 54]⟩, .string ⟨#[49, 48, 52, 56, 53, 55, 55]⟩, .string ⟨#[45, 49, 48, 52, 56, 53, 55, 54]⟩, .string ⟨#[45, 49, 48, 52, 56, 53, 55, 55]⟩, .string ⟨#[57, 57, 57, 57, 57, 57, 57]⟩, .string ⟨#[49, 48, 52, 56, 53, 55, 54, 48]⟩, .string ⟨#[57, 57, 57, 57, 57, 57, 57, 57, 57, 57, 57, 57, 57, 57, 57, 57, 57, 57, 57, 57, 57, 57, 57]⟩, .string ⟨#[45, 57, 57, 57, 57, 57, 57, 57, 57, 57, 57, 57, 57, 57, 57, 57, 57, 57, 57, 57, 57, 57, 57, 57]⟩, .string ⟨#[45, 45, 49]⟩, .string ⟨#[49, 45]⟩, .string ⟨#[45]⟩, .string ⟨#[49, 10]⟩, .string ⟨#[49, 56, 52, 52, 54, 55, 52, 52, 48, 55, 51, 55, 48, 57, 53, 53, 49, 54, 49, 55]⟩] 9
theorem long_cells (w : World) : ∀ k, k < 13 → (w.alloc longO).cell? ⟨w.heap.size, k, none⟩ = some (.string (longB k)) := by
  intro k hk
  unfold longO
  rw [cell_of_row _ _ k _ _ (0, 0) (World.alloc_heap_new w _)]
  match k, hk with
  | 0, _ => rfl
  | 1, _ => rfl
  | 2, _ => rfl
  | 3, _ => rfl
  | 4, _ => rfl
  | 5, _ => rfl
  | 6, _ => rfl
  | 7, _ => rfl
  | 8, _ => rfl
  | 9, _ => rfl
  | 10, _ => rfl
  | 11, _ => rfl
  | 12, _ => rfl
theorem ways (k : Nat) (h : k < 512) : ∃ p q m r : Nat, p < 8 ∧ q < 8 ∧ r < 8 ∧ m < 512 ∧ Int.tmod (k : Int) 8 = (p : Int) ∧ Int.tdiv (k : Int) 8 = (m : Int) ∧ Int.tmod (m : Int) 8 = (q : Int) ∧ Int.tdiv (k : Int) 64 = (r : Int) := by
  refine ⟨k % 8, k / 8 % 8, k / 8, k / 64, by omega, by omega, by omega, by omega, ?_, ?_, ?_, ?_⟩
  · rw [Int.tmod_eq_emod_of_nonneg (by omega)]; omega
  · rw [Int.tdiv_eq_ediv_of_nonneg (by omega)]; omega
  · rw [Int.tmod_eq_emod_of_nonneg (by omega)]; omega
  · rw [Int.tdiv_eq_ediv_of_nonneg (by omega)]; omega
def fourO (x y : Int) : Obj := .cells #[.int .i64 x, .int .i64 y, .int .i64 1, .int .i64 x] 3
theorem four_ints (w : World) (x y : Int) : Ints (w.alloc (fourO x y)).heap.size (w.alloc (fourO x y)) (.slice (some ⟨w.heap.size, 0, none⟩) 4 4) [x, y, 1, x] := by
  refine .inr ⟨_, _, _, rfl, by simp, fun j hj => ?_⟩
  unfold fourO
  rw [cell_of_row _ _ (0 + j) _ _ (0, 0) (World.alloc_heap_new w _)]
  match j, hj with
  | 0, _ => rfl
  | 1, _ => rfl
  | 2, _ => rfl
  | 3, _ => rfl
/-- The eight signs. -/
def signB (k : Nat) : ByteArray := match k with | 0 => ⟨#[]⟩ | 1 => ⟨#[45]⟩ | 2 => ⟨#[48]⟩ | 3 => ⟨#[49]⟩ | 4 => ⟨#[57]⟩ | 5 => ⟨#[43]⟩ | 6 => ⟨#[32]⟩ | _ => ⟨#[97]⟩
theorem signB_le (k : Nat) : (signB k).size ≤ 1 := by
  match k with
  | 0 => decide
  | 1 => decide
  | 2 => decide
  | 3 => decide
  | 4 => decide
  | 5 => decide
  | 6 => decide
  | _ + 7 => exact Nat.le_refl 1
theorem three_le (p q r : Nat) : (signB p ++ signB q ++ signB r).size ≤ 9223372036854775807 := by
  have := signB_le p; have := signB_le q; have := signB_le r
  rw [ByteArray.size_append, ByteArray.size_append]
  omega
def signsO : Obj := .cells #[.string ⟨#[]⟩, .string ⟨#[45]⟩, .string ⟨#[48]⟩, .string ⟨#[49]⟩, .string ⟨#[57]⟩, .string ⟨#[43]⟩, .string ⟨#[32]⟩, .string ⟨#[97]⟩] 9
theorem signs_cells (w : World) : ∀ k, k < 8 → (w.alloc signsO).cell? ⟨w.heap.size, k, none⟩ = some (.string (signB k)) := by
  intro k hk
  unfold signsO
  rw [cell_of_row _ _ k _ _ (0, 0) (World.alloc_heap_new w _)]
  match k, hk with
  | 0, _ => rfl
  | 1, _ => rfl
  | 2, _ => rfl
  | 3, _ => rfl
  | 4, _ => rfl
  | 5, _ => rfl
  | 6, _ => rfl
  | 7, _ => rfl

set_option maxRecDepth 100000 in
set_option maxHeartbeats 4000000 in
theorem small_any (w : World) (ht : Tab w) :
    Calls Tryd.prog 6 #[] w fun e w' => e = .returned (.bool true) ∧ Below w.heap.size w w' := by
  have hT : Hid (∀ w', Below w.heap.size w w' → Tab w') := fun w' hb => ht.below hb
  clear ht
  go_enter Tryd.func6, Tryd.ntmps6
  go_wp2_with fail
  go_loopw [1] (fun i wr => ARel w i wr) (fun i _ => (40 - intOf i + 1).toNat)
  case atStart => exact ⟨0, by omega, rfl, Below.refl _ _⟩
  case round =>
    obtain ⟨k, hk, rfl, hbw⟩ := hrel
    by_cases hlt : k < 81
    · go_wp2_with fail
      rw [show decide ((k : Int) - 40 ≤ 40) = true from decide_eq_true (by omega)]
      go_loopw [2] (fun i wr => ARel w i wr) (fun i _ => (40 - intOf i + 1).toNat)
      case atStart => exact ⟨0, by omega, rfl, hbw⟩
      case round =>
        obtain ⟨j, hj, rfl, hbw'⟩ := hrel
        by_cases hlj : j < 81
        · have HS := Lib.hid (tells_any ((k : Int) - 40) ((j : Int) - 40) ((k : Int) - 40 + ((j : Int) - 40)) (by omega) _ (hT.out _ hbw'))
          go_wp2_with (go_at_call 12; refine HS.out.mono ?_; rintro e w1 ⟨rfl, hb1⟩)
          go_roundw
          case rel => exact ⟨j + 1, by omega, by go_num, hbw'.trans (hb1.mono hbw'.size)⟩
          case measure => simp [intOf]; omega
        · obtain rfl : j = 81 := by omega
          go_wp2_with fail
          go_roundw
          case rel => exact ⟨k + 1, by omega, by go_num, hbw'⟩
          case measure => simp [intOf]; omega
    · obtain rfl : k = 81 := by omega
      rw [show ((81 : Nat) : Int) - 40 = 41 from rfl]
      go_wp2_with fail
      have hcs := ends_cells wr
      have hb1 : Below w.heap.size w (wr.alloc endsO) := hbw.alloc hbw.size _
      have hN : wr.heap.size < (wr.alloc endsO).heap.size := by simp
      obtain ⟨w1, hw1⟩ : ∃ w1, wr.alloc endsO = w1 := ⟨_, rfl⟩
      rw [hw1] at hcs hb1 hN
      unfold endsO at hw1
      rw [hw1]
      obtain ⟨n1, hn1⟩ : ∃ n1, wr.heap.size = n1 := ⟨_, rfl⟩
      rw [hn1] at hcs hN ⊢
      clear hw1 hn1 hk hlt
      have HC := Lib.hid hcs; clear hcs
      go_loopw [30] (fun i wr => IRel 12 w1 i wr) (fun i _ => 12 - (intOf i).toNat)
      case atStart => exact ⟨0, by omega, rfl, Below.refl _ _⟩
      case round =>
        obtain ⟨k, hk, rfl, hbr⟩ := hrel
        by_cases hlt : k < 12
        · have hc : wr.cell? ⟨n1, k, none⟩ = some (.int .i64 (endI k)) := (hbr.cell (p := ⟨n1, k, none⟩) hN).trans (HC.out k hlt)
          have hx := endI_le k
          obtain ⟨x, ex⟩ : ∃ x, endI k = x := ⟨_, rfl⟩
          rw [ex] at hx hc
          clear ex
          go_wp2_with fail
          rw [show decide ((k : Int) < 12) = true from decide_eq_true (by omega)]
          go_loopw [36] (fun i wr => IRel 12 w1 i wr) (fun i _ => 12 - (intOf i).toNat)
          case atStart => exact ⟨0, by omega, rfl, hbr⟩
          case round =>
            obtain ⟨j, hj, rfl, hbj⟩ := hrel
            by_cases hlj : j < 12
            · have hd : wr.cell? ⟨n1, j, none⟩ = some (.int .i64 (endI j)) := (hbj.cell (p := ⟨n1, j, none⟩) hN).trans (HC.out j hlj)
              have hy := endI_le j
              obtain ⟨y, ey⟩ : ∃ y, endI j = y := ⟨_, rfl⟩
              rw [ey] at hy hd
              clear ey
              have hbw1 : Below w.heap.size w wr := hb1.trans (hbj.mono hb1.size)
              go_wp2_with fail
              refine (tells_any x y x hx _ (hT.out _ hbw1)).mono ?_
              rintro e w2 ⟨rfl, hb2⟩
              have hbw2 : Below w.heap.size w w2 := hbw1.trans (hb2.mono hbw1.size)
              have hj2 : Below w1.heap.size w1 w2 := hbj.trans (hb2.mono hbj.size)
              go_wp2_with fail
              refine (tells_any x y y hy _ (hT.out _ hbw2)).mono ?_
              rintro e w3 ⟨rfl, hb3⟩
              have hbw3 : Below w.heap.size w w3 := hbw2.trans (hb3.mono hbw2.size)
              have hj3 : Below w1.heap.size w1 w3 := hj2.trans (hb3.mono hj2.size)
              go_wp2_with fail
              have hI4 := four_ints w3 x y
              have hbw4 : Below w.heap.size w (w3.alloc (fourO x y)) := hbw3.alloc hbw3.size _
              have hj4 : Below w1.heap.size w1 (w3.alloc (fourO x y)) := hj3.alloc hj3.size _
              obtain ⟨w4, hw4⟩ : ∃ w4, w3.alloc (fourO x y) = w4 := ⟨_, rfl⟩
              rw [hw4] at hI4 hbw4 hj4
              unfold fourO at hw4
              rw [hw4]
              clear hw4
              refine (litsLists.lists_any _ _ (by simp) w4 hI4 (hT.out _ hbw4)).mono ?_
              rintro e w5 ⟨rfl, hb5⟩
              have hj5 : Below w1.heap.size w1 w5 := hj4.trans (hb5.mono hj4.size)
              clear hI4
              go_wp2_with fail
              go_roundw
              case rel => exact ⟨j + 1, by omega, by go_num, hj5⟩
              case measure => simp [intOf]; omega
            · obtain rfl : j = 12 := by omega
              go_wp2_with fail
              go_roundw
              case rel => exact ⟨k + 1, by omega, by go_num, hbj⟩
              case measure => simp [intOf]; omega
        · obtain rfl : k = 12 := by omega
          rw [show ((12 : Nat) : Int) = 12 from rfl]
          go_wp2_with fail
          have hcs := signs_cells wr
          have hb2 : Below w.heap.size w (wr.alloc signsO) := (hb1.trans (hbr.mono hb1.size)).alloc (Nat.le_trans hb1.size hbr.size) _
          have hN2 : wr.heap.size < (wr.alloc signsO).heap.size := by simp
          obtain ⟨w2, hw2⟩ : ∃ w2, wr.alloc signsO = w2 := ⟨_, rfl⟩
          rw [hw2] at hcs hb2 hN2
          unfold signsO at hw2
          rw [hw2]
          obtain ⟨n2, hn2⟩ : ∃ n2, wr.heap.size = n2 := ⟨_, rfl⟩
          rw [hn2] at hcs hN2 ⊢
          clear hw2 hn2 hk hlt hbr hb1
          have HD := Lib.hid hcs; clear hcs HC hN
          go_loopw [63] (fun i wr => IRel 512 w2 i wr) (fun i _ => 512 - (intOf i).toNat)
          case atStart => exact ⟨0, by omega, rfl, Below.refl _ _⟩
          case round =>
            obtain ⟨k, hk, rfl, hbr⟩ := hrel
            by_cases hlt : k < 512
            · have hc : Hid (∀ i, i < 8 → wr.cell? ⟨n2, i, none⟩ = some (.string (signB i))) := fun i hi => (hbr.cell (p := ⟨n2, i, none⟩) hN2).trans (HD.out i hi)
              have hbw2 : Below w.heap.size w wr := hb2.trans (hbr.mono hb2.size)
              obtain ⟨p, q, m, r, hp, hq, hr, hm, e1, e2, e3, e4⟩ := ways k (by omega)
              have c1 := hc.out p hp
              have c2 := hc.out q hq
              have c3 := hc.out r hr
              have g1 := signB_le p; have g2 := signB_le q; have g3 := signB_le r
              have i1 : (p : Int) < 8 := by omega
              have i2 : (q : Int) < 8 := by omega
              have i3 : (r : Int) < 8 := by omega
              have z1 : (0 : Int) ≤ (p : Int) := by omega
              have z2 : (0 : Int) ≤ (q : Int) := by omega
              have z3 : (0 : Int) ≤ (r : Int) := by omega
              have w1 : IntKind.i64.wrap (m : Int) = (m : Int) := IntWalk.i64_in _ (by omega)
              have w2 : IntKind.i64.wrap (r : Int) = (r : Int) := IntWalk.i64_in _ (by omega)
              clear hk
              go_wp2_with fail
              go_quiet (first | (go_at_call 14; exact Calls.quiet_of (reads_drew _ _ (three_le _ _ _))))
              go_wp2_with fail
              go_roundw
              case rel => exact ⟨k + 1, by omega, by go_num, below_drewN hbr _⟩
              case measure => simp [intOf]; omega
            · obtain rfl : k = 512 := by omega
              rw [show ((512 : Nat) : Int) = 512 from rfl]
              go_wp2_with fail
              have hcs := long_cells wr
              have hb3 : Below w.heap.size w (wr.alloc longO) := (hb2.trans (hbr.mono hb2.size)).alloc (Nat.le_trans hb2.size hbr.size) _
              have hN3 : wr.heap.size < (wr.alloc longO).heap.size := by simp
              obtain ⟨w3, hw3⟩ : ∃ w3, wr.alloc longO = w3 := ⟨_, rfl⟩
              rw [hw3] at hcs hb3 hN3
              unfold longO at hw3
              rw [hw3]
              obtain ⟨n3, hn3⟩ : ∃ n3, wr.heap.size = n3 := ⟨_, rfl⟩
              rw [hn3] at hcs hN3 ⊢
              clear hw3 hn3 hk hlt hbr hb2
              have HL := Lib.hid hcs; clear hcs HD hN2
              go_loopw [89] (fun i wr => IRel 13 w3 i wr) (fun i _ => 13 - (intOf i).toNat)
              case atStart => exact ⟨0, by omega, rfl, Below.refl _ _⟩
              case round =>
                obtain ⟨k, hk, rfl, hbr⟩ := hrel
                by_cases hlt : k < 13
                · have hc : wr.cell? ⟨n3, k, none⟩ = some (.string (longB k)) := (hbr.cell (p := ⟨n3, k, none⟩) hN3).trans (HL.out k hlt)
                  have hs := longB_le k
                  obtain ⟨t, et⟩ : ∃ t, longB k = t := ⟨_, rfl⟩
                  rw [et] at hc hs
                  clear et
                  have HR := Lib.hid (reads_drew t wr hs)
                  go_wp2_with (go_at_call 14; refine HR.out.mono ?_; rintro e w' ⟨rfl, q, rfl⟩)
                  go_roundw
                  case rel => exact ⟨k + 1, by omega, by go_num, below_drewN hbr _⟩
                  case measure => simp [intOf]; omega
                · obtain rfl : k = 13 := by omega
                  have hbw : Below w.heap.size w wr := hb3.trans (hbr.mono hb3.size)
                  have HA := Lib.hid (awake_any wr (hT.out _ hbw))
                  go_wp2_with (go_at_call 13; refine HA.out.mono ?_; rintro e w6 ⟨rfl, hb6⟩)
                  go_ret
                  exact ⟨rfl, hbw.trans (hb6.mono hbw.size)⟩
theorem litsSmall_walk (w : World) (ht : Tab w) :
    Calls Tryd.prog 6 #[] w fun e w' => e = .returned (.bool true) ∧ Below w.heap.size w w' := small_any w ht
end Go.Proofs.YtjipmjimggggbaaDoor.litsSmall
