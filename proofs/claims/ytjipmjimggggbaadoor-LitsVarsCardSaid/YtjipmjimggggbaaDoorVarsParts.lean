/- The parts of LitsVars: IsSorted, the lists that it makes. -/
import Derived.Test.YtjipmjimggggbaaDoorConcat
import Derived.Test.YtjipmjimggggbaaDoorMade
import Derived.BigQuiet
import Derived.IntWalk
namespace Go.Proofs.YtjipmjimggggbaaDoor.litsVars
open Go.RowKit Go.ChangeAt Go.ChangeShapes Go.WideShapes
open litsLists (infoLit)

set_option maxRecDepth 100000 in
set_option maxHeartbeats 1000000 in
theorem isSorted_any (v : Value) (xs : List Int) (hx : xs.length ≤ 1000000) (hs : xs.Pairwise (· < ·)) (w : World) (hI : Ints w.heap.size w v xs) :
    Calls Tryd.prog 39 #[v] w fun e w' => e = .returned (.bool true) ∧ ∃ q, w' = w.drewN q := by
  obtain ⟨A, cap, rfl, hc⟩ := litsLists.ints_shape hI
  have HC := Lib.hid hc; clear hc hI
  have HS := Lib.hid hs; clear hs
  go_enter Tryd.func39, Tryd.ntmps39
  go_wp2_with fail
  go_loopw [3] (fun i wr => ∃ (k : Int) (q : Nat), -1 ≤ k ∧ k < xs.length ∧ i = .int .i64 k ∧ wr = w.drewN q) (fun i _ => (intOf i + 1).toNat)
  case atStart => exact ⟨_, 0, by omega, by omega, rfl, (World.drewN_zero _).symm⟩
  case round =>
    obtain ⟨k, q, hk0, hk1, rfl, rfl⟩ := hrel
    by_cases hlt : 0 < k
    · obtain ⟨p, rfl⟩ : ∃ p : Nat, k = (p : Int) := ⟨k.toNat, by omega⟩
      obtain ⟨m, hm⟩ : ∃ m : Nat, p = m + 1 := ⟨p - 1, by omega⟩
      obtain ⟨b, off, rfl, hb, h1⟩ := HC.out p (by omega)
      obtain ⟨b', off', e', hb', h2⟩ := HC.out m (by omega)
      obtain ⟨rfl, rfl⟩ : b = b' ∧ off = off' := by cases e'; exact ⟨rfl, rfl⟩
      have hlt2 : xs[m]?.getD 0 < xs[p]?.getD 0 := by
        have h := List.pairwise_iff_getElem.1 HS.out m p (by omega) (by omega) (by omega)
        rw [List.getElem?_eq_getElem (by omega), List.getElem?_eq_getElem (by omega)]
        exact h
      obtain ⟨x, ex⟩ : ∃ x, xs[p]?.getD 0 = x := ⟨_, rfl⟩
      obtain ⟨y, ey⟩ : ∃ y, xs[m]?.getD 0 = y := ⟨_, rfl⟩
      rw [ex, ey] at hlt2
      rw [ex] at h1
      rw [ey] at h2
      have hd : decide (x < y) = false := decide_eq_false (by omega)
      have HL : Hid (∀ W, Calls Tryd.prog 60 #[.int .i64 x, .int .i64 y] W fun e w' => e = .returned (.bool false) ∧ w' = W) := fun W => by have h := Tryd.cmp_Less_int2 x y W; rw [hd] at h; exact h
      clear hd
      have i1 : (p : Int) < (xs.length : Int) := hk1
      have i2 : (m : Int) < (xs.length : Int) := by omega
      have z1 : (0 : Int) ≤ (p : Int) := by omega
      have z2 : (0 : Int) ≤ (m : Int) := by omega
      have w2 : IntKind.i64.wrap (m : Int) = (m : Int) := IntWalk.i64_in _ (by omega)
      have w3 : IntKind.i64.wrap ((p : Int) - 1) = (m : Int) := by rw [show (p : Int) - 1 = (m : Int) by omega]; exact w2
      have hpm : (p : Int) - 1 = (m : Int) := by omega
      have g1 : (w.drewN q).cell? ⟨b, off + p, none⟩ = some (.int .i64 x) := by simpa using h1
      have g2 : (w.drewN q).cell? ⟨b, off + m, none⟩ = some (.int .i64 y) := by simpa using h2
      obtain ⟨wq, hwq⟩ : ∃ wq, w.drewN q = wq := ⟨_, rfl⟩
      rw [hwq] at g1 g2 ⊢
      have HW : Hid (∀ n, wq.drewN n = w.drewN (q + n)) := fun n => by rw [← hwq, World.drewN_drewN]
      clear ex ey hm hk0 hk1 hlt hlt2 e' hb' hb hx h1 h2 hwq
      go_wp2_with fail
      go_quiet (first | (go_at_call 60; exact Calls.quiet_of_same (HL.out _)))
      go_wp2_with fail
      exact ⟨⟨m, q + nq, by omega, by omega, rfl, HW.out _⟩, by simp only [intOf]; omega⟩
    · go_wp2_with fail
      go_ret
      exact ⟨rfl, _, rfl⟩

def MRel (n : Nat) (w : World) (zs : List Int) (o i : Value) (wr : World) : Prop :=
  ∃ (k : Nat) (v : Value), v = o ∧ k ≤ n ∧ i = .int .i64 k ∧ Below w.heap.size w wr ∧ wr.ownsRow w.heap.size 27 1 v k (((zs.take k).map fun x => madeI (Int.tmod x 64)).map (Value.int .i64))

/-- A slice that comes in has no more numbers than room. -/
def Fits (sv : Value) : Prop := ∀ A n c, sv = .slice A n c → n ≤ c
theorem fits_of {H : Type} {enc : TypeId × Value → H} {P : Program} {W : World} {base : Nat} {sp : Nat → Bool} {hd : Bool} {t e : TypeId} {k : IntKind} {v : Value} {d : DataW H} {ps : List MemPlace} (ht : P.underlying t = some (.slice e)) (he : P.underlying e = some (.int k)) (hc : P.cellsOf e = 1)
    (h : DataW.Trod enc P W base sp hd t v d ps) : Fits v := by
  rintro A n c rfl
  obtain ⟨fuel, hf⟩ := h
  rcases open_ints ht he hc hf with ⟨hcs, -⟩ | ⟨a, len', cap', zs, hcs, -, hl, -⟩
  · simp [Value.cells] at hcs
    omega
  · simp [Value.cells] at hcs
    omega

set_option maxRecDepth 100000 in
set_option maxHeartbeats 2000000 in
/-- The literals that the law makes of a list. -/
theorem made_list (sv : Value) (zs : List Int) (hm : zs.length ≤ 9223372036854775807) (hw : ∀ x ∈ zs, (Lit.int .i32 x).wf = true) (hF : Fits sv) (w : World) (hI : IntsK .i32 w.heap.size w sv zs) :
    Calls Tryd.prog 33 #[sv] w fun e w' => ∃ v, e = .returned v ∧ w'.ownsRow w.heap.size 27 1 v (zs.take 60).length (((zs.take 60).map fun x => madeI (Int.tmod x 64)).map (Value.int .i64)) ∧ Below w.heap.size w w' := by
  obtain ⟨i0, hi, hz0, hz1, hz2⟩ := info_parts infoLit
  rcases hI with ⟨A, c, rfl, rfl⟩ | ⟨b, off, cap, rfl, hb, hc⟩
  · go_enter Tryd.func33, Tryd.ntmps33
    go_wp2_with fail
    go_loop [3, 12] (fun o i => o = .slice none 0 0 ∧ i = .int .i64 0) (fun _ _ => 0)
    case atStart => exact ⟨rfl, rfl⟩
    case round =>
      obtain ⟨rfl, rfl⟩ := hrel
      go_wp2_with fail
      go_ret
      exact ⟨.slice none 0 0, rfl, World.ownsRow_nil _ _ _ _, Below.refl _ _⟩
  · have hcap := hF _ _ _ rfl
    obtain ⟨n, hn⟩ : ∃ n : Nat, min zs.length 60 = n := ⟨_, rfl⟩
    have hn0 : n ≤ zs.length := by omega
    have hn1 : n ≤ 60 := by omega
    have hn2 : n ≤ cap := by omega
    have hmin : min (zs.length : Int) 60 = (n : Int) := by omega
    have htl : (zs.take 60).length = n := by rw [List.length_take]; omega
    have hte : zs.take n = zs.take 60 := by rw [← hn, Nat.min_comm, ← List.take_take, List.take_length]
    clear hF hn
    go_enter Tryd.func33, Tryd.ntmps33
    go_wp2_with fail
    have HC := Lib.hid hc; have HWf := Lib.hid hw; clear hc hw
    go_loopw [3, 12] (fun o i wr => MRel n w zs o i wr) (fun _ i _ => n - (intOf i).toNat)
    case atStart => exact ⟨0, _, rfl, by omega, rfl, Below.refl _ _, World.ownsRow_nil _ _ _ _⟩
    case round =>
      obtain ⟨k, v, rfl, hk, rfl, hbw, hrow⟩ := hrel
      by_cases hlt : k < n
      · have hkz : k < zs.length := by omega
        have hck : wr.cell? ⟨b, off + k, none⟩ = some (.int .i32 (zs[k]?.getD 0)) := (hbw.cell (p := ⟨b, off + k, none⟩) hb).trans (HC.out k hkz)
        have hwx := HWf.out (zs[k]?.getD 0) (by rw [List.getElem?_eq_getElem hkz]; exact List.getElem_mem hkz)
        have htk := take_one zs hkz
        obtain ⟨x, hx⟩ : ∃ x, zs[k]?.getD 0 = x := ⟨_, rfl⟩
        rw [hx] at hck htk hwx
        clear hx
        have hbx : IntKind.i32.min ≤ x ∧ x ≤ IntKind.i32.max := by simpa [Lit.wf] using hwx
        have h0 : -2147483648 ≤ x := hbx.1
        have h1 : x ≤ 2147483647 := hbx.2
        have hr0 : -64 < Int.tmod x 64 ∧ Int.tmod x 64 < 64 := ⟨Int.lt_tmod_of_pos x (by omega), Int.tmod_lt_of_pos x (by omega)⟩
        obtain ⟨r, hr⟩ : ∃ r, Int.tmod x 64 = r := ⟨_, rfl⟩
        have hy : madeI (Int.tmod x 64) = madeI r := by rw [hr]
        rw [hr] at hr0
        have hwr : (Lit.int .i32 r).wf = true := by
          have h1 : IntKind.i32.min ≤ r := by show (-2147483648 : Int) ≤ r; omega
          have h2 : r ≤ IntKind.i32.max := by show r ≤ (2147483647 : Int); omega
          simp [Lit.wf, h1, h2]
        have HM := Lib.hid (made_any r hwr)
        obtain ⟨y, ey⟩ : ∃ y, madeI r = y := ⟨_, rfl⟩
        rw [ey] at HM hy
        have HR := Lib.hid hrow; have HT := Lib.hid htk; have HY := Lib.hid hy
        clear hrow htk hy hbx hwx hwr ey
        go_wp2_with (first
          | (go_at_call 22; refine (HM.out _).mono ?_; rintro e w' ⟨rfl, rfl⟩)
          | (at_builtin; refine wpList_append_own _ rfl _ _ 26 rfl w.heap.size 27 i0 (.int .i64 0) 1 8 Tryd.underlying26 hi hz0 hz1 hz2 rfl (by decide) _ _ _ rfl (HR.out.alloc _) ⟨wr.heap.size, 0, none⟩ 1 1 [.int .i64 y] rfl rfl (cell_one_new _ _ _) (by simp [Value.oneCell']) (by unfold maxLen; omega) (by omega) (by have := hbw.size; simp; omega) ?_; intro v' w2 hown' hgrow _))
        have hbn : Below w.heap.size w w2 := by
          refine (hbw.alloc hbw.size _).grown hgrow (by have := hbw.size; simp; omega) (fun k e => ?_)
          exact (HR.out.lt k e).1
        refine ⟨⟨k + 1, _, rfl, by omega, by go_num, hbn, ?_⟩, by simp [intOf]; omega⟩
        rw [HT.out, List.map_append, List.map_append]
        rw [show (List.map (fun x => madeI (Int.tmod x 64)) [x]) = [y] by simp [HY.out]]
        exact hown'
      · obtain rfl : k = n := by omega
        rw [hte] at hrow
        rw [← htl] at hrow
        have HR := Lib.hid hrow; clear hrow
        go_wp2_with fail
        go_ret
        exact ⟨_, rfl, HR.out, hbw⟩
end Go.Proofs.YtjipmjimggggbaaDoor.litsVars
