/- The law's asks: what is asked of a number. -/
import Derived.Test.YtjkhhnfmefbohaaRefArAdd
import Derived.Test.YtjkhhnfmefbohaaEqualInt
import Derived.Test.YtjkhhnfmefbohaaLawUse
namespace Go.Proofs.Ytjkhhnfmefbohaa
open Go.RowKit Go.ChangeAt Go.ChangeShapes Go.WideShapes Go.Sort

set_option maxRecDepth 100000 in
set_option maxHeartbeats 2000000 in
theorem asks_out {K : Nat → Prop} {g B C : Nat} {av : Value} {L : List (Int × List Int)} {last : Int} (id : Int) (w : World) (hw : (Lit.int .i64 id).wf = true) (hCw : C ≤ w.heap.size) (hA : Ar K w g L last) (hR : RefRow B C w av L) (hm : ∀ p ∈ L, p.1 ≠ id) :
    Calls Try.prog 33 #[.pointer (some ⟨g, 0, none⟩), .agg #[av, .int .i64 last], .int .i64 id] w fun r w' => r = .returned (.bool true) ∧ Below w.heap.size w w' := by
  have hl := hA.good.len
  obtain ⟨A, cap, rfl, -, -⟩ := hR.at_
  have b1 := below1a w (.cells #[.slice A L.length cap, .int .i64 last] 65)
  have m1 := Whole.made w 65 #[.slice A L.length cap, .int .i64 last]
  have hA1 := hA.on b1
  have hR1 := hR.on hCw b1
  have hwi := whereI_no hm
  obtain ⟨w1, hw1⟩ : ∃ y, w.alloc (.cells #[.slice A L.length cap, .int .i64 last] 65) = y := ⟨_, rfl⟩
  rw [hw1] at b1 m1 hA1 hR1
  have HA1 := Lib.hid hA1; have HR1 := Lib.hid hR1; have M1 := Lib.hid m1; have B1 := Lib.hid b1; have H1 := Lib.hid hw1; have HM := Lib.hid hm; have HW := Lib.hid hwi; have HWf := Lib.hid hw
  clear b1 m1 hA1 hR1 hw1 hm hwi hA hR hw
  go_enter Try.func33, Try.ntmps33
  go_wp2_with fail
  rw [H1.out]
  refine (get_out HA1.out HWf.out HM.out).mono ?_
  rintro r w2 ⟨rfl, hb2⟩
  have hA2 := HA1.out.on hb2
  have HA2 := Lib.hid hA2; have HB2 := Lib.hid hb2
  clear hA2 hb2
  go_wp2_with fail
  refine (len_out HA2.out HWf.out HM.out).mono ?_
  rintro r w3 ⟨rfl, hb3⟩
  have hA3 := HA2.out.on hb3
  have hb13 := HB2.out.trans (hb3.mono HB2.out.size)
  have hm3 := M1.out.same (hb13.block _ M1.out.lt)
  have c0 : w3.cell? ⟨w.heap.size, 0, none⟩ = some (.slice A L.length cap) := hm3.cell 0
  have c1 : w3.cell? ⟨w.heap.size, 1, none⟩ = some (.int .i64 last) := hm3.cell 1
  have hR3 := HR1.out.on (Nat.le_trans hCw B1.out.size) hb13
  have hfind := find_ref (last := last) id w3 hR3 hl
  have HA3 := Lib.hid hA3; have HB3 := Lib.hid hb13; have HF := Lib.hid hfind
  clear hA3 hb13 hb3 hm3 hR3 hfind HA2 HB2
  go_wp2_with fail
  refine (HF.out).mono ?_
  rintro r w4 ⟨rfl, hb4⟩
  rw [HW.out]
  have hA4 := HA3.out.on hb4
  have hb14 := HB3.out.trans (hb4.mono HB3.out.size)
  have HA4 := Lib.hid hA4; have HB4 := Lib.hid hb14
  clear hA4 hb14 hb4 HA3 HB3 HF c0 c1
  go_wp2_with fail
  refine (has_out HA4.out HWf.out HM.out).mono ?_
  rintro r w5 ⟨rfl, hb5⟩
  have hA5 := HA4.out.on hb5
  have hb15 := HB4.out.trans (hb5.mono HB4.out.size)
  have HA5 := Lib.hid hA5; have HB5 := Lib.hid hb15
  clear hA5 hb15 hb5 HA4 HB4
  go_wp2_with fail
  refine (lit_gone HA5.out HWf.out HM.out (-1)).mono ?_
  rintro r w6 ⟨rfl, hb6⟩
  have HB6 := Lib.hid (B1.out.trans ((HB5.out.trans (hb6.mono HB5.out.size)).mono B1.out.size))
  clear hb6 HA5 HB5
  go_wp2_with fail
  go_ret
  exact ⟨rfl, HB6.out⟩

theorem ints_at {B : Nat} {W : World} {sv : Value} {zs : List Int} {i : Nat} {x : Int} (h : Ints B W sv zs) (hx : zs[i]? = some x) : ∀ b off n cap, sv = .slice (some ⟨b, off, none⟩) n cap → W.cell? ⟨b, off + i, none⟩ = some (.int .i64 x) := fun b off n cap e => by
  obtain ⟨A, c, rfl, hc⟩ := ints_shape h
  obtain ⟨hl, rfl⟩ := List.getElem?_eq_some_iff.1 hx
  obtain ⟨b', off', rfl, -, hk⟩ := hc i hl
  cases e
  rw [hk, List.getElem?_eq_getElem hl]; rfl
def AskRel (n : Nat) (w : World) (i : Value) (wr : World) : Prop := ∃ j : Int, -1 ≤ j ∧ j ≤ (n : Int) + 1 ∧ i = .int .i64 j ∧ Below w.heap.size w wr
set_option maxRecDepth 100000 in
set_option maxHeartbeats 4000000 in
theorem asks_in {K : Nat → Prop} {g B C : Nat} {av : Value} {L : List (Int × List Int)} {last : Int} (id : Int) (ls : List Int) (k : Nat) (w : World) (hCw : C ≤ w.heap.size) (hA : Ar K w g L last) (hR : RefRow B C w av L) (hk : L[k]? = some (id, ls)) (hll : ls.length ≤ 1000000) :
    Calls Try.prog 33 #[.pointer (some ⟨g, 0, none⟩), .agg #[av, .int .i64 last], .int .i64 id] w fun r w' => r = .returned (.bool true) ∧ Below w.heap.size w w' := by
  have hl := hA.good.len
  have hkl := (List.getElem?_eq_some_iff.1 hk).1
  have hm : (id, ls) ∈ L := List.mem_iff_getElem?.2 ⟨k, hk⟩
  have hwi : whereI L id = k := whereI_yes hk rfl (fun m q hm hq => inc_ne hA.good.inc hk hq (by omega))
  obtain ⟨A, cap, rfl, -, hat⟩ := hR.at_
  obtain ⟨b, u, rfl, hb, e0, e1, hI⟩ := hat k _ hk
  obtain ⟨Au, cu, rfl, hcu⟩ := ints_shape hI
  have b1 := below1a w (.cells #[.slice (some ⟨b, 0, none⟩) L.length cap, .int .i64 last] 65)
  have m1 := Whole.made w 65 #[.slice (some ⟨b, 0, none⟩) L.length cap, .int .i64 last]
  have hA1 := hA.on b1
  have hR1 := hR.on hCw b1
  have e1 := (b1.cell (p := ⟨b, k * 2 + 1, none⟩) hb).trans e1
  have hI1 := hI.below (b1.mono hCw)
  have hb1 := Nat.lt_of_lt_of_le hb b1.size
  obtain ⟨w1, hw1⟩ : ∃ y, w.alloc (.cells #[.slice (some ⟨b, 0, none⟩) L.length cap, .int .i64 last] 65) = y := ⟨_, rfl⟩
  rw [hw1] at b1 m1 hA1 hR1 e1 hI1 hb1
  have hC1 := Nat.le_trans hCw b1.size
  have HA1 := Lib.hid hA1; have HR1 := Lib.hid hR1; have M1 := Lib.hid m1; have B1 := Lib.hid b1; have H1 := Lib.hid hw1; have HM := Lib.hid hm; have HW := Lib.hid hwi; have E1 := Lib.hid e1; have HI1 := Lib.hid hI1; have HCu := Lib.hid hcu
  clear b1 m1 hA1 hR1 hw1 hm hwi hA hR hat e0 e1 hI hI1 hk hcu
  go_enter Try.func33, Try.ntmps33
  go_wp2_with fail
  rw [H1.out]
  refine (get_in HA1.out HM.out).mono ?_
  rintro r w2 ⟨vc, rfl, hr2, hb2⟩
  obtain ⟨Ac, cc, rfl⟩ := own_shape0 hr2
  have hA2 := HA1.out.on hb2
  have HA2 := Lib.hid hA2; have HB2 := Lib.hid hb2; have HRw2 := Lib.hid hr2
  clear hA2 hb2 hr2
  go_wp2_with fail
  refine (len_in HA2.out HM.out).mono ?_
  rintro r w3 ⟨rfl, hb3⟩
  have hA3 := HA2.out.on hb3
  have hb13 := HB2.out.trans (hb3.mono HB2.out.size)
  have hm3 := M1.out.same (hb13.block _ M1.out.lt)
  have c0 : w3.cell? ⟨w.heap.size, 0, none⟩ = some (.slice (some ⟨b, 0, none⟩) L.length cap) := hm3.cell 0
  have c1 : w3.cell? ⟨w.heap.size, 1, none⟩ = some (.int .i64 last) := hm3.cell 1
  have hR3 := HR1.out.on hC1 hb13
  have hfind := find_ref (last := last) id w3 hR3 hl
  have hrw3 := owns_on0 HRw2.out hb3
  have HA3 := Lib.hid hA3; have HB3 := Lib.hid hb13; have HF := Lib.hid hfind; have HRw3 := Lib.hid hrw3; have M3 := Lib.hid hm3
  clear hA3 hb13 hb3 hm3 hR3 hfind hrw3 HA2 HB2 HRw2 HR1
  go_wp2_with fail
  refine (HF.out).mono ?_
  rintro r w4 ⟨rfl, hb4⟩
  rw [HW.out]
  have hA4 := HA3.out.on hb4
  have hb14 := HB3.out.trans (hb4.mono HB3.out.size)
  have hrw4 := owns_on0 HRw3.out hb4
  have HA4 := Lib.hid hA4; have HB4 := Lib.hid hb14; have HRw4 := Lib.hid hrw4
  clear hA4 hb14 hb4 hrw4 HA3 HB3 HF HRw3 c0 c1
  go_wp2_with fail
  refine (has_in HA4.out HM.out).mono ?_
  rintro r w5 ⟨rfl, hb5⟩
  have hA5 := HA4.out.on hb5
  have hb15 := HB4.out.trans (hb5.mono HB4.out.size)
  have hm5 := M1.out.same (hb15.block _ M1.out.lt)
  have c0 : w5.cell? ⟨w.heap.size, 0, none⟩ = some (.slice (some ⟨b, 0, none⟩) L.length cap) := hm5.cell 0
  have e5 := (hb15.cell (p := ⟨b, k * 2 + 1, none⟩) hb1).trans E1.out
  have hint := intsOf_any w5.heap.size _ ls hll w5 (Nat.le_refl _) (ints_own (owns_on0 HRw4.out hb5))
  have hz5 := hb15.size
  have hI5 := HI1.out.below (hb15.mono hC1)
  have HA5 := Lib.hid hA5; have HB5 := Lib.hid hb15; have HInt := Lib.hid hint; have HI5 := Lib.hid hI5
  clear hA5 hb15 hb5 hm5 hint hI5 HA4 HB4 HRw4 M3
  go_wp2_with fail
  refine (HInt.out).mono ?_
  rintro r w6 ⟨vi, rfl, hr6, hb6⟩
  have hA6 := HA5.out.on hb6
  have hb16 := HB5.out.trans (hb6.mono HB5.out.size)
  have hz6 := hb16.size
  have hI6 := (HI5.out.below (hb6.mono (Nat.le_trans hC1 hz5)))
  have heq := equal_int w6 (by omega) (by omega) (ints_own hr6) (hI6.more (Nat.le_trans hC1 hz6))
  rw [beq_self_eq_true] at heq
  have HA6 := Lib.hid hA6; have HB6 := Lib.hid hb16; have HI6 := Lib.hid hI6; have HEq := Lib.hid heq
  clear hA6 hb16 hb6 hr6 hI6 heq HA5 HB5 HI5 HInt c0 e5
  go_wp2_with fail
  refine (HEq.out).mono ?_
  rintro r w7 ⟨rfl, q, rfl⟩
  have HB7 := Lib.hid (below_drewN HB6.out q); have HI7 := Lib.hid (HI6.out.below (below_drewN (Below.refl C w6) q))
  have hA7 := HA6.out.on (below_drewN (Below.refl _ _) q)
  have HA7 := Lib.hid hA7
  clear hA7 HA6 HB6 HEq HI6 HI1 E1
  go_wp2_with fail
  have hBw := B1.out.trans (HB7.out.mono B1.out.size)
  have hI7 := HI7.out
  have hCW : C ≤ (w6.drewN q).heap.size := Nat.le_trans hC1 HB7.out.size
  obtain ⟨W, hW⟩ : ∃ y, w6.drewN q = y := ⟨_, rfl⟩
  rw [hW] at hBw hI7 hCW ⊢
  have hA7 := HA7.out
  rw [hW] at hA7
  have HA8 := Lib.hid hA7; have HBw := Lib.hid hBw; have HI8 := Lib.hid hI7
  clear hBw hI7 hA7 HI7 HB7 HA7 hW
  go_loopw [15] (fun i wr => AskRel ls.length W i wr) (fun i _ => ((ls.length : Int) + 1 - intOf i).toNat)
  case atStart => exact ⟨-1, by omega, by omega, rfl, Below.refl _ _⟩
  case round =>
    obtain ⟨j, hj1, hj2, rfl, hB⟩ := hrel
    have hA := HA8.out.on hB
    have hI := HI8.out.below (hB.mono hCW)
    have HA := Lib.hid hA; have HB := Lib.hid hB; have HI := Lib.hid hI
    clear hA hB hI HA8 HI8
    by_cases hlo : j < 0
    · obtain rfl : j = -1 := by omega
      go_wp2_with fail
      refine (lit_off HA.out HM.out (-1) (.inl (by omega))).mono ?_
      rintro r w8 ⟨rfl, hb8⟩
      have HB8 := Lib.hid (HB.out.trans (hb8.mono HB.out.size))
      clear hb8 HB
      go_wp2_with fail
      refine ⟨⟨0, by omega, by omega, rfl, HB8.out⟩, ?_⟩
      simp [intOf]; omega
    · obtain ⟨i, rfl⟩ := Int.eq_ofNat_of_zero_le (by omega : 0 ≤ j)
      clear hlo
      by_cases hlt : i < ls.length
      · obtain ⟨x, hx⟩ : ∃ x, ls[i]? = some x := ⟨_, List.getElem?_eq_getElem hlt⟩
        obtain ⟨b9, off9, rfl, -, hc9⟩ := HCu.out i hlt
        have hlit := lit_at (id := id) (ls := ls) (i := (i : Int)) (x := x) HA.out HM.out (by omega) (by simpa using hx)
        have hck := fun (w8 : World) (hb8 : Below wr.heap.size wr w8) => ints_at (HI.out.below (hb8.mono (Nat.le_trans hCW HB.out.size))) hx
        have HL := Lib.hid hlit; have HCk := Lib.hid hck
        have hq1 : ((i : Int) == (ls.length : Int)) = false := by rw [beq_eq_false_iff_ne]; omega
        have hq0 : ¬ (i : Int) < 0 := by omega
        clear hlit hck hx hc9
        go_wp2_with fail
        refine (HL.out).mono ?_
        rintro r w8 ⟨rfl, hb8⟩
        have hc8 := HCk.out w8 hb8 b9 off9 _ cu rfl
        have HB8 := Lib.hid (HB.out.trans (hb8.mono HB.out.size))
        clear hb8 HB HCk HL
        go_wp2_with fail
        refine ⟨⟨(i : Int) + 1, by omega, by omega, rfl, HB8.out⟩, ?_⟩
        simp [intOf]; omega
      · by_cases heq : i = ls.length
        · subst heq
          have hlit := lit_off HA.out HM.out (ls.length : Int) (.inr (Int.le_refl _))
          have HL := Lib.hid hlit
          clear hlit hlt
          go_wp2_with fail
          refine (HL.out).mono ?_
          rintro r w8 ⟨rfl, hb8⟩
          have HB8 := Lib.hid (HB.out.trans (hb8.mono HB.out.size))
          clear hb8 HB HL
          go_wp2_with fail
          refine ⟨⟨(ls.length : Int) + 1, by omega, by omega, rfl, HB8.out⟩, ?_⟩
          simp [intOf]
        · have HBf := Lib.hid (HBw.out.trans (HB.out.mono HBw.out.size))
          clear HB
          go_wp2_with fail
          go_ret
          exact ⟨rfl, HBf.out⟩
theorem asks_any {K : Nat → Prop} {g B C : Nat} {av : Value} {L : List (Int × List Int)} {last : Int} (id : Int) (w : World) (hw : (Lit.int .i64 id).wf = true) (hCw : C ≤ w.heap.size) (hA : Ar K w g L last) (hR : RefRow B C w av L) (hs : ∀ p ∈ L, p.2.length ≤ 1000000) :
    Calls Try.prog 33 #[.pointer (some ⟨g, 0, none⟩), .agg #[av, .int .i64 last], .int .i64 id] w fun r w' => r = .returned (.bool true) ∧ Below w.heap.size w w' := by
  by_cases h : ∃ p ∈ L, p.1 = id
  · obtain ⟨⟨id', ls⟩, hp, rfl⟩ := h
    obtain ⟨k, hk⟩ := List.mem_iff_getElem?.1 hp
    exact asks_in _ ls k w hCw hA hR hk (hs _ hp)
  · exact asks_out id w hw hCw hA hR (fun p hp e => h ⟨p, hp, e⟩)
end Go.Proofs.Ytjkhhnfmefbohaa
