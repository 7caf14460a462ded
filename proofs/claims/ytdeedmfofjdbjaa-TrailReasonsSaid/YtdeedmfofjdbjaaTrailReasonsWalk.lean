/- The walk of TrailReasons. -/
import Derived.Test.YtdeedmfofjdbjaaTrAwake
namespace Go.Proofs.Ytdeedmfofjdbjaa.trailReasons
open Go.RowKit Go.ChangeAt Go.ChangeShapes Go.WideShapes

theorem oat_hit' {nv p : Nat} {its : List It} {st : List Nat} {x : It} {v : Int} (h : TG nv its st) (hx : its[p]? = some x) (hv : (x.vr : Int) = v) : OAt its v (some (p, x)) := by
  rw [← hv]; exact oat_hit h hx
theorem ass_set {x y : Int} {k : Nat} {r a n : Int} (hx : (x.natAbs : Int) = n) (hy : (y.natAbs : Int) = n) (h1 : 1 ≤ n) (h2 : n ≤ 8) (h3 : 0 ≤ r) (h4 : r ≤ 1073741824) : assE 8 [⟨x, k, a⟩] y r = 41 := by
  unfold assE
  rw [if_pos ⟨by omega, by omega⟩, if_pos ⟨h3, h4⟩, if_neg]
  intro e
  exact valI_zero e ⟨x, k, a⟩ (by simp) (by show x.natAbs = y.natAbs; omega)
set_option maxRecDepth 100000 in
set_option maxHeartbeats 4000000 in
theorem core (v a b n a' b' x y : Int) (p q : Bool) (hv0 : 0 ≤ v) (hv1 : v ≤ 255) (ha0 : 0 ≤ a) (ha1 : a ≤ 4294967295) (hb0 : 0 ≤ b) (hb1 : b ≤ 4294967295) (hn : 1 + v % 8 = n) (ha : a % 1073741824 = a') (hb : b % 1073741824 = b') (hx : ofI n p = x) (hy : ofI n q = y) (w : World) :
    Calls Try.prog 8 #[.int .u8 v, .int .u32 a, .int .u32 b, .bool p, .bool q] w fun e w' => e = .returned (.bool true) ∧ Below w.heap.size w w' := by
  have hn1 : 1 ≤ n := by omega
  have hn8 : n ≤ 8 := by omega
  have ha2 : 0 ≤ a' := by omega
  have ha3 : a' < 1073741824 := by omega
  have hb2 : 0 ≤ b' := by omega
  have hb3 : b' < 1073741824 := by omega
  have he : ofE n = 0 := by unfold ofE; simp; omega
  have hxn : (x.natAbs : Int) = n := by rw [← hx]; unfold ofI; cases p <;> simp <;> omega
  have hyn : (y.natAbs : Int) = n := by rw [← hy]; unfold ofI; cases q <;> simp <;> omega
  have hxy : (valI [⟨y, 0, b'⟩] x == 1) = (p == q) := by
    have : x = if p = q then y else -y := by rw [← hx, ← hy]; unfold ofI; cases p <;> cases q <;> simp <;> omega
    cases p <;> cases q <;> simp at this <;> subst this <;> simp [valI] <;> omega
  have hyy : valI [⟨y, 0, b'⟩] y = 1 := by simp [valI]
  have hset := ass_set (k := 1) (r := 1) (a := a') hxn hyn hn1 hn8 (by decide) (by decide)
  obtain ⟨z, hz⟩ : ∃ z, valI [⟨y, 0, b'⟩] x = z := ⟨_, rfl⟩
  rw [hz] at hxy
  have hx1 : 1 ≤ x.natAbs := by omega
  have hx2 : x.natAbs ≤ 8 := by omega
  have hy1 : 1 ≤ y.natAbs := by omega
  have hy2 : y.natAbs ≤ 8 := by omega
  have HX := Lib.hid hx; have HY := Lib.hid hy; have HE := Lib.hid he; have HXn := Lib.hid hxn; have HYn := Lib.hid hyn; have HYY := Lib.hid hyy; have HSet := Lib.hid hset; have HZ := Lib.hid hz; have HX1 := Lib.hid hx1; have HX2 := Lib.hid hx2; have HY1 := Lib.hid hy1; have HY2 := Lib.hid hy2
  clear hx hy he hxn hyn hyy hset hz hx1 hx2 hy1 hy2
  go_enter Try.func8, Try.ntmps8
  go_wp2_with fail
  refine (ts_new 8 (by decide) w w (Below.refl _ _)).mono ?_
  rintro r W ⟨g, rfl, h⟩
  have H := Lib.hid h; clear h
  go_wp2_with fail
  refine (of_any _ _ _).mono ?_
  rintro r w' ⟨rfl, rfl⟩
  rw [HX.out, HE.out]
  go_wp2_with fail
  refine (of_any _ _ _).mono ?_
  rintro r w' ⟨rfl, rfl⟩
  rw [HY.out, HE.out]
  go_wp2_with fail
  refine (ts_push H.out (by decide)).mono ?_
  rintro r W ⟨rfl, h⟩
  have hs : TS w W g 8 [] [0] := h
  have H := Lib.hid hs; clear h hs
  go_wp2_with fail
  refine (ts_assign H.out x a' HX1.out HX2.out (by simp) (by omega) (by omega)).mono ?_
  rintro r W ⟨rfl, h⟩
  have hs : TS w W g 8 [⟨x, 1, a'⟩] [0] := h
  have H := Lib.hid hs; clear h hs
  go_wp2_with fail
  refine (ts_reason H.out n (some (0, ⟨x, 1, a'⟩)) (oat_hit' H.out.good rfl HXn.out)).mono ?_
  rintro r W ⟨rfl, h⟩
  have H := Lib.hid h; clear h
  go_wp2_with fail
  refine (ts_assign_no H.out y 1 41 (by decide) HSet.out).mono ?_
  rintro r W ⟨rfl, h⟩
  have H := Lib.hid h; clear h
  go_wp2_with fail
  refine (ts_back H.out 0 (by decide)).mono ?_
  rintro r W ⟨rfl, h⟩
  have hs : TS w W g 8 [] [] := h
  have H := Lib.hid hs; clear h hs
  go_wp2_with fail
  refine (ts_reason H.out n none (oat_miss (by simp))).mono ?_
  rintro r W ⟨rfl, h⟩
  have H := Lib.hid h; clear h
  go_wp2_with fail
  refine (ts_assign H.out y b' HY1.out HY2.out (by simp) (by omega) (by omega)).mono ?_
  rintro r W ⟨rfl, h⟩
  have hs : TS w W g 8 [⟨y, 0, b'⟩] [] := h
  have H := Lib.hid hs; clear h hs
  go_wp2_with fail
  refine (ts_reason H.out n (some (0, ⟨y, 0, b'⟩)) (oat_hit' H.out.good rfl HYn.out)).mono ?_
  rintro r W ⟨rfl, h⟩
  have H := Lib.hid h; clear h
  go_wp2_with fail
  refine (ts_level H.out n (some (0, ⟨y, 0, b'⟩)) (oat_hit' H.out.good rfl HYn.out)).mono ?_
  rintro r W ⟨rfl, h⟩
  have H := Lib.hid h; clear h
  go_wp2_with fail
  refine (ts_value H.out y 1 HYY.out).mono ?_
  rintro r W ⟨rfl, h⟩
  have H := Lib.hid h; clear h
  go_wp2_with fail
  refine (ts_value H.out x z HZ.out).mono ?_
  rintro r W ⟨rfl, h⟩
  have H := Lib.hid h; clear h
  go_wp2_with fail
  refine (trawake_any _).mono ?_
  rintro r W2 ⟨rfl, hB⟩
  have hB2 := H.out.below.trans (hB.mono H.out.below.size)
  go_wp2_with fail
  go_ret
  exact ⟨rfl, hB2⟩
theorem trailReasons_walk (v : Int) (wv : (Lit.int .u8 v).wf = true) (a : Int) (wa : (Lit.int .u32 a).wf = true) (b : Int) (wb : (Lit.int .u32 b).wf = true) (p q : Bool) (w : World) :
    Calls Try.prog 8 #[.int .u8 v, .int .u32 a, .int .u32 b, .bool p, .bool q] w fun e w' => e = .returned (.bool true) ∧ Below w.heap.size w w' := by
  have h1 : IntKind.u8.min ≤ v ∧ v ≤ IntKind.u8.max := by simpa [Lit.wf] using wv
  have h2 : IntKind.u32.min ≤ a ∧ a ≤ IntKind.u32.max := by simpa [Lit.wf] using wa
  have h3 : IntKind.u32.min ≤ b ∧ b ≤ IntKind.u32.max := by simpa [Lit.wf] using wb
  exact core v a b _ _ _ _ _ p q h1.1 h1.2 h2.1 h2.2 h3.1 h3.2 rfl rfl rfl rfl rfl w
end Go.Proofs.Ytdeedmfofjdbjaa.trailReasons
