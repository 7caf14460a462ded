/- The walk of TrailSmall. -/
import Derived.Test.YtdeedmfofjdbjaaTrPlays
import Derived.Test.YtdeedmfofjdbjaaTrAwake
import Derived.Test.YtdeedmfofjdbjaaTrNone
import Derived.Deep.RegionHeld3
namespace Go.Proofs.Ytdeedmfofjdbjaa.trailSmall
open Go.RowKit Go.ChangeAt Go.ChangeShapes Go.WideShapes Go.Sort

attribute [local go_sem] Oper.semAt_some

def nineL : List Act4 := [(0, 1, 3), (0, -1, 0), (0, 2, 1073741824), (0, -2, 4), (5, 0, 0), (7, 0, 0), (7, 1, 0), (7, 2, 0), (0, 3, 0)]
abbrev nineC : Array Value := #[.int .u8 0, .int .i64 1, .int .i64 3, .int .u8 0, .int .i64 (-1), .int .i64 0, .int .u8 0, .int .i64 2, .int .i64 1073741824, .int .u8 0, .int .i64 (-2), .int .i64 4, .int .u8 5, .int .i64 0, .int .i64 0, .int .u8 7, .int .i64 0, .int .i64 0, .int .u8 7, .int .i64 1, .int .i64 0, .int .u8 7, .int .i64 2, .int .i64 0, .int .u8 0, .int .i64 3, .int .i64 0]
theorem nine_at {i : Nat} (h : i < 9) : ∃ x : Act4, ActOk x ∧ nineC[i * 3]? = some (.int .u8 x.1) ∧ nineC[i * 3 + 1]? = some (.int .i64 x.2.1) ∧ nineC[i * 3 + 2]? = some (.int .i64 x.2.2) := by
  have h9 : i = 0 ∨ i = 1 ∨ i = 2 ∨ i = 3 ∨ i = 4 ∨ i = 5 ∨ i = 6 ∨ i = 7 ∨ i = 8 := by omega
  rcases h9 with rfl | rfl | rfl | rfl | rfl | rfl | rfl | rfl | rfl
  · exact ⟨(0, 1, 3), ⟨rfl, rfl, rfl⟩, rfl, rfl, rfl⟩
  · exact ⟨(0, -1, 0), ⟨rfl, rfl, rfl⟩, rfl, rfl, rfl⟩
  · exact ⟨(0, 2, 1073741824), ⟨rfl, rfl, rfl⟩, rfl, rfl, rfl⟩
  · exact ⟨(0, -2, 4), ⟨rfl, rfl, rfl⟩, rfl, rfl, rfl⟩
  · exact ⟨(5, 0, 0), ⟨rfl, rfl, rfl⟩, rfl, rfl, rfl⟩
  · exact ⟨(7, 0, 0), ⟨rfl, rfl, rfl⟩, rfl, rfl, rfl⟩
  · exact ⟨(7, 1, 0), ⟨rfl, rfl, rfl⟩, rfl, rfl, rfl⟩
  · exact ⟨(7, 2, 0), ⟨rfl, rfl, rfl⟩, rfl, rfl, rfl⟩
  · exact ⟨(0, 3, 0), ⟨rfl, rfl, rfl⟩, rfl, rfl, rfl⟩
/-- A list of calls that is laid. -/
def actC (l : List Act4) : Array Value := (l.flatMap fun x => [.int .u8 x.1, .int .i64 x.2.1, .int .i64 x.2.2]).toArray
theorem actC_at : ∀ (l : List Act4) (j : Nat) (x : Act4), l[j]? = some x → (l.flatMap fun x => [Value.int .u8 x.1, .int .i64 x.2.1, .int .i64 x.2.2])[j * 3]? = some (.int .u8 x.1) ∧ (l.flatMap fun x => [Value.int .u8 x.1, .int .i64 x.2.1, .int .i64 x.2.2])[j * 3 + 1]? = some (.int .i64 x.2.1) ∧ (l.flatMap fun x => [Value.int .u8 x.1, .int .i64 x.2.1, .int .i64 x.2.2])[j * 3 + 2]? = some (.int .i64 x.2.2)
  | [], _, _, h => by simp at h
  | y :: l, 0, x, h => by
    obtain rfl : y = x := by simpa using h
    exact ⟨rfl, rfl, rfl⟩
  | y :: l, j + 1, x, h => by
    obtain ⟨h1, h2, h3⟩ := actC_at l j x (by simpa using h)
    rw [List.flatMap_cons]
    refine ⟨?_, ?_, ?_⟩
    · rw [show (j + 1) * 3 = j * 3 + 3 by omega]; simpa using h1
    · rw [show (j + 1) * 3 + 1 = j * 3 + 1 + 3 by omega]; simpa using h2
    · rw [show (j + 1) * 3 + 2 = j * 3 + 2 + 3 by omega]; simpa using h3
theorem acts_laid {W : World} {b : Nat} (l : List Act4) (h : Whole W b 26 (actC l)) : Acts W.heap.size W (.slice (some ⟨b, 0, none⟩) l.length l.length) l :=
  .inr ⟨b, 0, l.length, rfl, Nat.le_refl _, h.lt, fun j x hx => by
    obtain ⟨h1, h2, h3⟩ := actC_at l j x hx
    have hc : ∀ (k : Nat) (v : Value), (l.flatMap fun x => [Value.int .u8 x.1, .int .i64 x.2.1, .int .i64 x.2.2])[k]? = some v → W.cell? ⟨b, k, none⟩ = some v := fun k v hk => by
      rw [h.cell]
      unfold actC
      rw [List.getElem?_toArray]
      exact hk
    rw [Nat.zero_add]
    exact ⟨hc _ _ h1, hc _ _ h2, hc _ _ h3⟩⟩
theorem plays_laid (n : Int) (l : List Act4) (ho : ∀ x ∈ l, ActOk x) (hl : l.length ≤ 1000) (W : World) (b : Nat) (h : Whole W b 26 (actC l)) : Calls Try.prog 10 #[.int .i64 n, .slice (some ⟨b, 0, none⟩) l.length l.length] W fun r w' => r = .returned (.bool true) ∧ Below W.heap.size W w' :=
  plays_any n _ l W (acts_laid l h) ho hl
abbrev elevenC : Array Value := #[.int .i64 (-9223372036854775808), .int .i64 (-1048577), .int .i64 (-1048576), .int .i64 (-1), .int .i64 0, .int .i64 1, .int .i64 1048576, .int .i64 1048577, .int .i64 1073741824, .int .i64 1073741825, .int .i64 9223372036854775807]
theorem eleven_at {i : Nat} (h : i < 11) : ∃ n : Int, (Lit.int .i64 n).wf = true ∧ elevenC[i]? = some (.int .i64 n) := by
  have h9 : i = 0 ∨ i = 1 ∨ i = 2 ∨ i = 3 ∨ i = 4 ∨ i = 5 ∨ i = 6 ∨ i = 7 ∨ i = 8 ∨ i = 9 ∨ i = 10 := by omega
  rcases h9 with rfl | rfl | rfl | rfl | rfl | rfl | rfl | rfl | rfl | rfl | rfl <;> exact ⟨_, rfl, rfl⟩
theorem plays_w (n : Int) (k : Nat) (l : List Act4) (hk : l.length = k) (ho : ∀ x ∈ l, ActOk x) (hl : k ≤ 1000) (W : World) (b : Nat) (h : Whole W b 26 (actC l)) : Calls Try.prog 10 #[.int .i64 n, .slice (some ⟨b, 0, none⟩) k k] W fun r w' => r = .returned (.bool true) ∧ Below W.heap.size W w' := by
  subst hk
  exact plays_laid n l ho hl W b h
theorem ts_push_no {w W : World} {g nv : Nat} {its : List It} {st : List Nat} (h : TS w W g nv its st) (hs : 1048575 ≤ st.length) : Calls Try.prog 14 #[.pointer (some ⟨g, 0, none⟩)] W fun e w' => e = .returned (.int .i64 5) ∧ W = w' := by
  obtain ⟨K, h1, h2, h3⟩ := h
  exact push_no W h1 hs
/-- What stands beside the calls on none. -/
def NI (w1 : World) (zb : Nat) (Ds : List Nat) (W : World) : Prop := Below w1.heap.size w1 W ∧ Whole W zb 41 zeroT ∧ Whole W (zb + 1) 28 #[.pointer none, .pointer (some ⟨zb, 0, none⟩)] ∧ MarksOk w1.heap.size Ds W
section
variable {w1 W W' : World} {zb : Nat} {Ds : List Nat}
theorem NI.on (h : NI w1 zb Ds W) (hb : Below W.heap.size W W') : NI w1 zb Ds W' := ⟨below_cat h.1 hb, h.2.1.same (hb.block _ h.2.1.lt), h.2.2.1.same (hb.block _ h.2.2.1.lt), marks_odd h.2.2.2 (Odd.of_below hb)⟩
theorem NI.n1 (_h : NI w1 zb Ds W) : NoTrail W none := .inl rfl
theorem NI.n2 (h : NI w1 zb Ds W) : NoTrail W (some ⟨zb, 0, none⟩) := .inr ⟨zb, rfl, h.2.1⟩
theorem NI.mark (h : NI w1 zb Ds W) (hb : Below W.heap.size W W') {D : Nat} (hD : W.heap.size ≤ D) (hd : W'.heap[D]? = some (.deferred (some []))) : NI w1 zb (D :: Ds) W' :=
  ⟨below_cat h.1 hb, h.2.1.same (hb.block _ h.2.1.lt), h.2.2.1.same (hb.block _ h.2.2.1.lt), marks_cons (marks_odd h.2.2.2 (Odd.of_below hb)) (fun E hE => (Array.getElem?_eq_some_iff.1 (h.2.2.2.2 E hE).2).1) hD (Nat.le_trans h.1.size hD) hd⟩
end
def ElRel (w : World) (eb : Nat) (i : Value) (wr : World) : Prop := ∃ j : Nat, j ≤ 11 ∧ i = .int .i64 j ∧ Whole wr eb 3 elevenC ∧ Below w.heap.size w wr
def PuRel (w : World) (g : Nat) (i : Value) (wr : World) : Prop := ∃ (j : Nat) (q : Int), (j : Int) = q ∧ j ≤ 1048575 ∧ i = .int .i64 q ∧ TS w wr g 1 [] (List.replicate j 0)
def WayRel (w : World) (nb : Nat) (i : Value) (wr : World) : Prop := ∃ j : Nat, j ≤ 6561 ∧ i = .int .i64 j ∧ Whole wr nb 26 nineC ∧ Below w.heap.size w wr
set_option maxRecDepth 100000 in
set_option maxHeartbeats 1000000 in
theorem trailSmall_walk (w : World) : Calls Try.prog 4 #[] w fun e w' => e = .returned (.bool true) ∧ Below w.heap.size w w' := by
  refine (callsIn_wide (n := 5)).1 ?_
  refine callsIn_of_wp_marks Try.func4 rfl trivial ?_ rfl
  simp only [Try.ntmps4, List.size_toArray, List.length_nil, Nat.reduceSub, Array.replicate_succ, Array.replicate_zero, List.push_toArray, List.append_toArray, List.nil_append, List.cons_append]
  refine wpIn_wide.2 ?_
  have b1 := below1a w (.cells #[.bool false] 4)
  have r1 := Whole.made w 4 #[.bool false]
  have n1 := Whole.made (w.alloc (.cells #[.bool false] 4)) 26 nineC
  rw [World.size_alloc] at n1
  have b2 := below1a (w.alloc (.cells #[.bool false] 4)) (.cells nineC 26)
  have R1 := Lib.hid (r1.same (b2.block _ r1.lt)); have N1 := Lib.hid n1; have B1 := Lib.hid (b1.trans (b2.mono b1.size))
  clear b1 r1 n1 b2
  go_wp2_with fail
  obtain ⟨w1, hw1⟩ : ∃ y, (w.alloc (.cells #[.bool false] 4)).alloc (.cells nineC 26) = y := ⟨_, rfl⟩
  rw [hw1] at R1 N1 B1 ⊢
  clear hw1
  go_loopw [30] (fun i wr => WayRel w1 (w.heap.size + 1) i wr) (fun i _ => 6561 - (intOf i).toNat)
  case atStart => exact ⟨0, Nat.zero_le _, rfl, N1.out, Below.refl _ _⟩
  case round =>
    obtain ⟨j, hj, rfl, hN, hB⟩ := hrel
    by_cases hlt : j < 6561
    · obtain ⟨i1, hi1⟩ : ∃ i1, j % 9 = i1 := ⟨_, rfl⟩
      obtain ⟨q1, hq1⟩ : ∃ q1, j / 9 = q1 := ⟨_, rfl⟩
      obtain ⟨i2, hi2⟩ : ∃ i2, q1 % 9 = i2 := ⟨_, rfl⟩
      obtain ⟨q2, hq2⟩ : ∃ q2, j / 81 = q2 := ⟨_, rfl⟩
      obtain ⟨i3, hi3⟩ : ∃ i3, q2 % 9 = i3 := ⟨_, rfl⟩
      obtain ⟨i4, hi4⟩ : ∃ i4, j / 729 = i4 := ⟨_, rfl⟩
      have l1 : i1 < 9 := by omega
      have l2 : i2 < 9 := by omega
      have l3 : i3 < 9 := by omega
      have l4 : i4 < 9 := by omega
      obtain ⟨⟨x1, y1, z1⟩, o1, c1, d1, e1⟩ := nine_at l1
      obtain ⟨⟨x2, y2, z2⟩, o2, c2, d2, e2⟩ := nine_at l2
      obtain ⟨⟨x3, y3, z3⟩, o3, c3, d3, e3⟩ := nine_at l3
      obtain ⟨⟨x4, y4, z4⟩, o4, c4, d4, e4⟩ := nine_at l4
      have hS : ∀ W', Below wr.heap.size wr W' → W'.cell? ⟨w.heap.size + 1, i1 * 3, none⟩ = some (.int .u8 x1) ∧ W'.cell? ⟨w.heap.size + 1, i1 * 3 + 1, none⟩ = some (.int .i64 y1) ∧ W'.cell? ⟨w.heap.size + 1, i1 * 3 + 2, none⟩ = some (.int .i64 z1) ∧ W'.cell? ⟨w.heap.size + 1, i2 * 3, none⟩ = some (.int .u8 x2) ∧ W'.cell? ⟨w.heap.size + 1, i2 * 3 + 1, none⟩ = some (.int .i64 y2) ∧ W'.cell? ⟨w.heap.size + 1, i2 * 3 + 2, none⟩ = some (.int .i64 z2) ∧ W'.cell? ⟨w.heap.size + 1, i3 * 3, none⟩ = some (.int .u8 x3) ∧ W'.cell? ⟨w.heap.size + 1, i3 * 3 + 1, none⟩ = some (.int .i64 y3) ∧ W'.cell? ⟨w.heap.size + 1, i3 * 3 + 2, none⟩ = some (.int .i64 z3) ∧ W'.cell? ⟨w.heap.size + 1, i4 * 3, none⟩ = some (.int .u8 x4) ∧ W'.cell? ⟨w.heap.size + 1, i4 * 3 + 1, none⟩ = some (.int .i64 y4) ∧ W'.cell? ⟨w.heap.size + 1, i4 * 3 + 2, none⟩ = some (.int .i64 z4) := fun W' hb => by
        have h := hN.same (hb.block _ hN.lt)
        exact ⟨(h.cell _).trans c1, (h.cell _).trans d1, (h.cell _).trans e1, (h.cell _).trans c2, (h.cell _).trans d2, (h.cell _).trans e2, (h.cell _).trans c3, (h.cell _).trans d3, (h.cell _).trans e3, (h.cell _).trans c4, (h.cell _).trans d4, (h.cell _).trans e4⟩
      obtain ⟨s1, s2, s3, s4, s5, s6, s7, s8, s9, s10, s11, s12⟩ := hS wr (Below.refl _ _)
      have hpl : ∀ W, Whole W wr.heap.size 26 (actC [(x1, y1, z1), (x2, y2, z2), (5, 0, 0), (x3, y3, z3), (x4, y4, z4)]) → Calls Try.prog 10 #[.int .i64 2, .slice (some ⟨wr.heap.size, 0, none⟩) 5 5] W fun r w' => r = .returned (.bool true) ∧ Below W.heap.size W w' := fun W h =>
        plays_laid 2 [(x1, y1, z1), (x2, y2, z2), (5, 0, 0), (x3, y3, z3), (x4, y4, z4)] (fun x hx => by
          simp only [List.mem_cons, List.not_mem_nil, or_false] at hx
          rcases hx with rfl | rfl | rfl | rfl | rfl
          · exact o1
          · exact o2
          · exact ⟨rfl, rfl, rfl⟩
          · exact o3
          · exact o4) (by simp) W _ h
      have HPl := Lib.hid hpl
      clear hpl o1 o2 o3 o4
      have HS := Lib.hid hS; have HN := Lib.hid hN; have HB := Lib.hid hB; have HNext := Lib.hid hlt
      have m1 : (j : Int).tmod 9 = (i1 : Int) := by rw [Int.tmod_eq_emod_of_nonneg (by omega)]; omega
      have m2 : (q1 : Int).tmod 9 = (i2 : Int) := by rw [Int.tmod_eq_emod_of_nonneg (by omega)]; omega
      have m3 : (q2 : Int).tmod 9 = (i3 : Int) := by rw [Int.tmod_eq_emod_of_nonneg (by omega)]; omega
      have v1 : (j : Int).tdiv 9 = (q1 : Int) := by rw [Int.tdiv_eq_ediv_of_nonneg (by omega)]; omega
      have v2 : (j : Int).tdiv 81 = (q2 : Int) := by rw [Int.tdiv_eq_ediv_of_nonneg (by omega)]; omega
      have v3 : (j : Int).tdiv 729 = (i4 : Int) := by rw [Int.tdiv_eq_ediv_of_nonneg (by omega)]; omega
      have u1 : IntKind.i64.wrap (q1 : Int) = q1 := IntWalk.i64_in _ (by omega)
      have u2 : IntKind.i64.wrap (q2 : Int) = q2 := IntWalk.i64_in _ (by omega)
      have u3 : IntKind.i64.wrap (i4 : Int) = i4 := IntWalk.i64_in _ (by omega)
      have u4 : IntKind.i64.wrap (i1 : Int) = i1 := IntWalk.i64_in _ (by omega)
      have u5 : IntKind.i64.wrap (i2 : Int) = i2 := IntWalk.i64_in _ (by omega)
      have u6 : IntKind.i64.wrap (i3 : Int) = i3 := IntWalk.i64_in _ (by omega)
      have a1 : (i1 : Int) < 9 := by omega
      have a2 : (i2 : Int) < 9 := by omega
      have a3 : (i3 : Int) < 9 := by omega
      have a4 : (i4 : Int) < 9 := by omega
      have a0 : (j : Int) < 6561 := by omega
      clear hS hN hB hi1 hq1 hi2 hq2 hi3 hi4 c1 d1 e1 c2 d2 e2 c3 d3 e3 c4 d4 e4 l1 l2 l3 l4
      go_wp2_with fail
      go_region_held3 (fun W' => W'.cell? ⟨w.heap.size + 1, i1 * 3, none⟩ = some (.int .u8 x1) ∧ W'.cell? ⟨w.heap.size + 1, i1 * 3 + 1, none⟩ = some (.int .i64 y1) ∧ W'.cell? ⟨w.heap.size + 1, i1 * 3 + 2, none⟩ = some (.int .i64 z1) ∧ W'.cell? ⟨w.heap.size + 1, i2 * 3, none⟩ = some (.int .u8 x2) ∧ W'.cell? ⟨w.heap.size + 1, i2 * 3 + 1, none⟩ = some (.int .i64 y2) ∧ W'.cell? ⟨w.heap.size + 1, i2 * 3 + 2, none⟩ = some (.int .i64 z2) ∧ W'.cell? ⟨w.heap.size + 1, i3 * 3, none⟩ = some (.int .u8 x3) ∧ W'.cell? ⟨w.heap.size + 1, i3 * 3 + 1, none⟩ = some (.int .i64 y3) ∧ W'.cell? ⟨w.heap.size + 1, i3 * 3 + 2, none⟩ = some (.int .i64 z3) ∧ W'.cell? ⟨w.heap.size + 1, i4 * 3, none⟩ = some (.int .u8 x4) ∧ W'.cell? ⟨w.heap.size + 1, i4 * 3 + 1, none⟩ = some (.int .i64 y4) ∧ W'.cell? ⟨w.heap.size + 1, i4 * 3 + 2, none⟩ = some (.int .i64 z4)) (first | assumption | exact HS.out _ (Below.refl _ _).drew | exact HS.out _ ((Below.refl _ _).drew.alloc (Nat.le_refl _) _)) (fail)
      clear s1 s2 s3 s4 s5 s6 s7 s8 s9 s10 s11 s12 m1 m2 m3 v1 v2 v3 u1 u2 u3 u4 u5 u6 a1 a2 a3 a4
      go_simp
      go_wp2_with fail
      refine (HPl.out _ (by first | exact Whole.made wr _ _ | exact whole_drew (Whole.made wr _ _))).mono ?_
      rintro r w2 ⟨rfl, hb2⟩
      have hB2 : Below wr.heap.size wr w2 := by
        have h1 := (below1a wr (.cells #[.int .u8 x1, .int .i64 y1, .int .i64 z1, .int .u8 x2, .int .i64 y2, .int .i64 z2, .int .u8 5, .int .i64 0, .int .i64 0, .int .u8 x3, .int .i64 y3, .int .i64 z3, .int .u8 x4, .int .i64 y4, .int .i64 z4] 26)).drew
        exact h1.trans (hb2.mono h1.size)
      have HN2 := Lib.hid (HN.out.same (hB2.block _ HN.out.lt)); have HB2 := Lib.hid (below_cat HB.out hB2)
      clear hb2 hB2 HN HB HPl HS
      go_wp2_with fail
      refine ⟨⟨j + 1, HNext.out, by go_num, HN2.out, HB2.out⟩, ?_⟩
      simp [intOf]
      omega
    · obtain rfl : j = 6561 := by omega
      rw [show ((6561 : Nat) : Int) = 6561 from rfl]
      have HB := Lib.hid (below_cat (Below.refl _ _ : Below w1.heap.size w1 w1) hB)
      clear hN hB N1 hlt hj
      have e1 := Whole.made wr 3 elevenC
      have HE1 := Lib.hid e1; have HBe := Lib.hid (below_cat HB.out (below1a wr (.cells elevenC 3)))
      clear e1 HB
      go_wp2_with fail
      obtain ⟨eb, heb⟩ : ∃ y, wr.heap.size = y := ⟨_, rfl⟩
      rw [heb] at HE1 ⊢
      clear heb
      go_loopw [63] (fun i wr' => ElRel w1 eb i wr') (fun i _ => 11 - (intOf i).toNat)
      case atStart => exact ⟨0, Nat.zero_le _, rfl, HE1.out, HBe.out⟩
      case round =>
        clear HE1 HBe
        obtain ⟨j, hj, rfl, hE, hB⟩ := hrel
        by_cases hlt : j < 11
        · obtain ⟨n, hn, hc⟩ := eleven_at hlt
          have hcell := (hE.cell j).trans hc
          have hp1 : ∀ W b, Whole W b 26 (actC [(0, 1, 0)]) → Calls Try.prog 10 #[.int .i64 n, .slice (some ⟨b, 0, none⟩) 1 1] W fun r w' => r = .returned (.bool true) ∧ Below W.heap.size W w' := plays_w n 1 [(0, 1, 0)] rfl (fun x hx => by
            simp only [List.mem_cons, List.not_mem_nil, or_false] at hx
            subst hx
            exact ⟨rfl, rfl, rfl⟩) (by decide)
          have hp2 : ∀ W b, Whole W b 26 (actC [(0, n, 0), (0, 1, n), (7, n, 0), (0, 2, n)]) → Calls Try.prog 10 #[.int .i64 2, .slice (some ⟨b, 0, none⟩) 4 4] W fun r w' => r = .returned (.bool true) ∧ Below W.heap.size W w' := plays_w 2 4 [(0, n, 0), (0, 1, n), (7, n, 0), (0, 2, n)] rfl (fun x hx => by
            simp only [List.mem_cons, List.not_mem_nil, or_false] at hx
            rcases hx with rfl | rfl | rfl | rfl
            · exact ⟨rfl, hn, rfl⟩
            · exact ⟨rfl, rfl, hn⟩
            · exact ⟨rfl, hn, rfl⟩
            · exact ⟨rfl, rfl, hn⟩) (by decide)
          have hp3 : ∀ W b, Whole W b 26 (actC [(0, n, 0), (0, n, 0)]) → Calls Try.prog 10 #[.int .i64 1048576, .slice (some ⟨b, 0, none⟩) 2 2] W fun r w' => r = .returned (.bool true) ∧ Below W.heap.size W w' := plays_w 1048576 2 [(0, n, 0), (0, n, 0)] rfl (fun x hx => by
            simp only [List.mem_cons, List.not_mem_nil, or_false] at hx
            rcases hx with rfl | rfl
            · exact ⟨rfl, hn, rfl⟩
            · exact ⟨rfl, hn, rfl⟩) (by decide)
          have hji : (j : Int) < 11 := by omega
          have HP1 := Lib.hid hp1; have HP2 := Lib.hid hp2; have HP3 := Lib.hid hp3; have HE := Lib.hid hE; have HB := Lib.hid hB; have HNext := Lib.hid hlt
          clear hp1 hp2 hp3 hE hB hn hc
          go_wp2_with fail
          refine (HP1.out _ _ (Whole.made _ _ _)).mono ?_
          rintro r w2 ⟨rfl, hb2⟩
          have HB2 := Lib.hid (below_cat (below1a wr (.cells #[.int .u8 0, .int .i64 1, .int .i64 0] 26)) hb2)
          clear hb2 hcell
          go_wp2_with fail
          refine (HP2.out _ _ (Whole.made _ _ _)).mono ?_
          rintro r w3 ⟨rfl, hb3⟩
          have HB3 := Lib.hid (below_cat (below_cat HB2.out (below1a w2 (.cells #[.int .u8 0, .int .i64 n, .int .i64 0, .int .u8 0, .int .i64 1, .int .i64 n, .int .u8 7, .int .i64 n, .int .i64 0, .int .u8 0, .int .i64 2, .int .i64 n] 26))) hb3)
          clear hb3 HB2
          go_wp2_with fail
          refine (HP3.out _ _ (Whole.made _ _ _)).mono ?_
          rintro r w4 ⟨rfl, hb4⟩
          have HB4 := Lib.hid (below_cat (below_cat HB3.out (below1a w3 (.cells #[.int .u8 0, .int .i64 n, .int .i64 0, .int .u8 0, .int .i64 n, .int .i64 0] 26))) hb4)
          clear hb4 HB3
          go_wp2_with fail
          refine ⟨⟨j + 1, HNext.out, by go_num, HE.out.same (HB4.out.block _ HE.out.lt), below_cat HB.out HB4.out⟩, ?_⟩
          simp [intOf]
          omega
        · obtain rfl : j = 11 := by omega
          rw [show ((11 : Nat) : Int) = 11 from rfl]
          have HB := Lib.hid hB
          have hnw := ts_new 1 (by decide) w1 wr hB
          rw [show ((1 : Nat) : Int) = 1 from rfl] at hnw
          have HNw := Lib.hid hnw
          clear hE hB hlt hj hnw
          go_wp2_with fail
          refine (HNw.out).mono ?_
          rintro r w2 ⟨g, rfl, hT⟩
          have HT := Lib.hid hT
          clear hT HNw HB
          go_wp2_with fail
          refine (ref_right _ _).mono ?_
          rintro r w3 ⟨rfl, rfl⟩
          rw [show litB 1 = true from rfl]
          go_wp2_with fail
          go_loopw [109] (fun i wr' => PuRel w1 g i wr') (fun i _ => (1048575 - intOf i).toNat)
          case atStart => exact ⟨0, 0, rfl, Nat.zero_le _, rfl, HT.out⟩
          case round =>
            clear HT
            obtain ⟨j, q, hjq, hj, rfl, hT⟩ := hrel
            have q0 : 0 ≤ q := by omega
            by_cases hlt : q < 1048575
            · have hpu := ts_push hT (by rw [List.length_replicate]; omega)
              have hnx : j + 1 ≤ 1048575 := by omega
              have hq1 : ((j + 1 : Nat) : Int) = q + 1 := by omega
              have HPu := Lib.hid hpu; have HNx := Lib.hid hnx; have HQ1 := Lib.hid hq1
              clear hpu hnx hq1 hjq hj hT
              go_wp2_with fail
              refine (HPu.out).mono ?_
              rintro r w4 ⟨rfl, hT4⟩
              have HT4 := Lib.hid hT4
              clear hT4 HPu
              go_wp2_with fail
              refine ⟨⟨j + 1, q + 1, HQ1.out, HNx.out, rfl, by rw [List.replicate_succ']; exact HT4.out⟩, ?_⟩
              simp [intOf]
              omega
            · obtain rfl : j = 1048575 := by omega
              obtain rfl : q = 1048575 := by omega
              have HT := Lib.hid hT
              have hno := ts_push_no hT (by rw [List.length_replicate]; exact Nat.le_refl _)
              have HNo := Lib.hid hno
              clear hjq hj hT hlt q0 hno
              go_wp2_with fail
              refine (HNo.out).mono ?_
              rintro r w4 ⟨rfl, rfl⟩
              clear HNo
              obtain ⟨sts, hsts⟩ : ∃ s, List.replicate 1048575 0 = s := ⟨_, rfl⟩
              have hlen : sts.length = 1048575 := by rw [← hsts, List.length_replicate]
              have hget : sts[0]? = some 0 := by rw [← hsts, List.getElem?_replicate]; exact if_pos (by decide)
              rw [hsts] at HT
              have hnw := ts_now HT.out
              rw [hlen, show ((1048575 : Nat) : Int) = 1048575 from rfl] at hnw
              have HNw := Lib.hid hnw
              have has := ts_assign HT.out 1 0 (by decide) (by decide) (fun x hx => by cases hx) (by decide) (by decide)
              have HAs := Lib.hid has; have HGet := Lib.hid hget
              clear hsts hlen hnw has hget HT
              go_wp2_with fail
              refine (HNw.out).mono ?_
              rintro r w4 ⟨rfl, rfl⟩
              clear HNw
              go_wp2_with fail
              refine (HAs.out).mono ?_
              rintro r w4 ⟨rfl, hT4⟩
              have hbk := ts_back hT4 0 (Nat.zero_le _)
              rw [show ((0 : Nat) : Int) = 0 from rfl, show endOf ([] ++ [(⟨1, sts.length, 0⟩ : It)]) sts 0 = 0 from by unfold endOf; rw [HGet.out]; rfl, List.take_zero, List.take_zero] at hbk
              have HBk := Lib.hid hbk
              clear hT4 hbk HAs HGet
              go_wp2_with fail
              refine (HBk.out).mono ?_
              rintro r w5 ⟨rfl, hT5⟩
              have hle := ts_len hT5
              have HLe := Lib.hid hle; have HT5 := Lib.hid hT5
              clear hT5 hle HBk
              go_wp2_with fail
              refine (HLe.out).mono ?_
              rintro r w6 ⟨rfl, rfl⟩
              clear HLe
              go_wp2_with fail
              refine (ts_push HT5.out (by decide)).mono ?_
              rintro r w6 ⟨rfl, hT6⟩
              have HB6 := Lib.hid hT6.below
              clear hT6 HT5
              go_wp2_with fail
              have b11 := below1a w6 (.cells zeroT 41)
              have z11 := Whole.made w6 41 zeroT
              have b12 := below1a (w6.alloc (.cells zeroT 41)) (.cells #[.pointer none, .pointer (some ⟨w6.heap.size, 0, none⟩)] 28)
              have s12 := Whole.made (w6.alloc (.cells zeroT 41)) 28 #[.pointer none, .pointer (some ⟨w6.heap.size, 0, none⟩)]
              rw [World.size_alloc] at s12
              have hN0 : NI w1 w6.heap.size [] ((w6.alloc (.cells zeroT 41)).alloc (.cells #[.pointer none, .pointer (some ⟨w6.heap.size, 0, none⟩)] 28)) := ⟨below_cat HB6.out (b11.trans (b12.mono b11.size)), z11.same (b12.block _ z11.lt), s12, marks_nil _ _⟩
              obtain ⟨zb, hzb⟩ : ∃ y, w6.heap.size = y := ⟨_, rfl⟩
              rw [hzb] at hN0 ⊢
              obtain ⟨v0, hv0⟩ : ∃ y, (w6.alloc (.cells zeroT 41)).alloc (.cells #[.pointer none, .pointer (some ⟨zb, 0, none⟩)] 28) = y := ⟨_, rfl⟩
              rw [hv0] at hN0 ⊢
              have HN := Lib.hid hN0
              clear b11 z11 b12 s12 hN0 hzb hv0 HB6
              refine wp_loop_rounds 3 ?_
              rw [rounds_succ]
              have cr : v0.cell? ⟨zb + 1, 0, none⟩ = some (.pointer none) := HN.out.2.2.1.cell 0
              go_wp2_with fail
              refine (atp_none HN.out.n1 0).mono ?_
              rintro r w' ⟨rfl, rfl⟩
              go_wp2_with fail
              refine (start_none HN.out.n1 0).mono ?_
              rintro r w' ⟨rfl, rfl⟩
              go_wp2_with fail
              refine (level_none HN.out.n1 1).mono ?_
              rintro r v1 ⟨rfl, hb⟩
              have HN' := Lib.hid (HN.out.on hb)
              clear hb HN cr
              have HN := HN'
              clear HN'
              go_wp2_with fail
              refine (reason_none HN.out.n1 1).mono ?_
              rintro r v2 ⟨rfl, hb⟩
              have HN' := Lib.hid (HN.out.on hb)
              clear hb HN
              have HN := HN'
              clear HN'
              go_wp2_with fail
              refine (place_none HN.out.n1 1).mono ?_
              rintro r v3 ⟨rfl, hb⟩
              have HN' := Lib.hid (HN.out.on hb)
              clear hb HN
              have HN := HN'
              clear HN'
              go_wp2_with fail
              refine (lits_any _ _ _).mono ?_
              rintro r w' ⟨rfl, rfl⟩
              go_wp2_with fail
              have a1 := below1a v3 (.cells #[.pointer none] 28)
              have a2 := below1a (v3.alloc (.cells #[.pointer none] 28)) (.cells #[.int .i64 0] 3)
              have f2 := Whole.made (v3.alloc (.cells #[.pointer none] 28)) 3 #[.int .i64 0]
              rw [World.size_alloc] at f2
              refine wpIn_wide.1 (range_lits_none (n := 5) (bf := v3.heap.size + 1) (bt := v3.heap.size) (p := none) rfl (enters_of Try.func45 (by kernel_rfl) rfl) ((HN.out.n1).on (a1.trans (a2.mono a1.size))) f2 ((Whole.made v3 _ _).same (a2.block _ (by simp))) ?_)
              intro D4 v4 hD hB hd
              have hba := (a1.trans (a2.mono a1.size)).trans (hB.mono (Nat.le_trans a1.size a2.size))
              have HN' := Lib.hid (HN.out.mark hba (Nat.le_trans (Nat.le_trans a1.size a2.size) hD) hd)
              clear hba hB hd hD HN a1 a2 f2
              have HN := HN'
              clear HN'
              go_simp
              go_wp2_with fail
              refine (down_any _ _).mono ?_
              rintro r w' ⟨rfl, rfl⟩
              go_wp2_with fail
              have a1 := below1a v4 (.cells #[.pointer none] 28)
              refine wpIn_wide.1 (range_down_none (n := 5) (by decide) (bt := v4.heap.size) (p := none) rfl (enters_of Try.func46 (by kernel_rfl) rfl) ((HN.out.n1).on a1) (Whole.made v4 _ _) ?_)
              intro D5 v5 hD hB hd
              have hba := a1.trans (hB.mono a1.size)
              have HN' := Lib.hid (HN.out.mark hba (Nat.le_trans a1.size hD) hd)
              clear hba hB hd hD HN a1
              have HN := HN'
              clear HN'
              go_simp
              go_wp2_with fail
              refine (assign_none HN.out.n1 1 (-1)).mono ?_
              rintro r w' ⟨rfl, rfl⟩
              go_wp2_with fail
              refine (push_none HN.out.n1).mono ?_
              rintro r w' ⟨rfl, rfl⟩
              go_wp2_with fail
              refine (back_none HN.out.n1 0).mono ?_
              rintro r w' ⟨rfl, rfl⟩
              go_wp2_with fail
              refine (value_none HN.out.n1 1).mono ?_
              rintro r v6 ⟨rfl, hb⟩
              have HN' := Lib.hid (HN.out.on hb)
              clear hb HN
              have HN := HN'
              clear HN'
              go_wp2_with fail
              refine (now_none HN.out.n1).mono ?_
              rintro r v7 ⟨rfl, hb⟩
              have HN' := Lib.hid (HN.out.on hb)
              clear hb HN
              have HN := HN'
              clear HN'
              go_wp2_with fail
              refine (len_none HN.out.n1).mono ?_
              rintro r v8 ⟨rfl, hb⟩
              have HN' := Lib.hid (HN.out.on hb)
              clear hb HN
              have HN := HN'
              clear HN'
              go_wp2_with fail
              refine (vars_none HN.out.n1).mono ?_
              rintro r w' ⟨rfl, rfl⟩
              go_wp2_with fail
              rw [rounds_succ]
              have cr : v8.cell? ⟨zb + 1, 1, none⟩ = some (.pointer (some ⟨zb, 0, none⟩)) := HN.out.2.2.1.cell 1
              go_wp2_with fail
              refine (atp_none HN.out.n2 0).mono ?_
              rintro r w' ⟨rfl, rfl⟩
              go_wp2_with fail
              refine (start_none HN.out.n2 0).mono ?_
              rintro r w' ⟨rfl, rfl⟩
              go_wp2_with fail
              refine (level_none HN.out.n2 1).mono ?_
              rintro r v9 ⟨rfl, hb⟩
              have HN' := Lib.hid (HN.out.on hb)
              clear hb HN cr
              have HN := HN'
              clear HN'
              go_wp2_with fail
              refine (reason_none HN.out.n2 1).mono ?_
              rintro r v10 ⟨rfl, hb⟩
              have HN' := Lib.hid (HN.out.on hb)
              clear hb HN
              have HN := HN'
              clear HN'
              go_wp2_with fail
              refine (place_none HN.out.n2 1).mono ?_
              rintro r v11 ⟨rfl, hb⟩
              have HN' := Lib.hid (HN.out.on hb)
              clear hb HN
              have HN := HN'
              clear HN'
              go_wp2_with fail
              refine (lits_any _ _ _).mono ?_
              rintro r w' ⟨rfl, rfl⟩
              go_wp2_with fail
              have a1 := below1a v11 (.cells #[.pointer (some ⟨zb, 0, none⟩)] 28)
              have a2 := below1a (v11.alloc (.cells #[.pointer (some ⟨zb, 0, none⟩)] 28)) (.cells #[.int .i64 0] 3)
              have f2 := Whole.made (v11.alloc (.cells #[.pointer (some ⟨zb, 0, none⟩)] 28)) 3 #[.int .i64 0]
              rw [World.size_alloc] at f2
              refine wpIn_wide.1 (range_lits_none (n := 5) (bf := v11.heap.size + 1) (bt := v11.heap.size) (p := (some ⟨zb, 0, none⟩)) rfl (enters_of Try.func45 (by kernel_rfl) rfl) ((HN.out.n2).on (a1.trans (a2.mono a1.size))) f2 ((Whole.made v11 _ _).same (a2.block _ (by simp))) ?_)
              intro D12 v12 hD hB hd
              have hba := (a1.trans (a2.mono a1.size)).trans (hB.mono (Nat.le_trans a1.size a2.size))
              have HN' := Lib.hid (HN.out.mark hba (Nat.le_trans (Nat.le_trans a1.size a2.size) hD) hd)
              clear hba hB hd hD HN a1 a2 f2
              have HN := HN'
              clear HN'
              go_simp
              go_wp2_with fail
              refine (down_any _ _).mono ?_
              rintro r w' ⟨rfl, rfl⟩
              go_wp2_with fail
              have a1 := below1a v12 (.cells #[.pointer (some ⟨zb, 0, none⟩)] 28)
              refine wpIn_wide.1 (range_down_none (n := 5) (by decide) (bt := v12.heap.size) (p := (some ⟨zb, 0, none⟩)) rfl (enters_of Try.func46 (by kernel_rfl) rfl) ((HN.out.n2).on a1) (Whole.made v12 _ _) ?_)
              intro D13 v13 hD hB hd
              have hba := a1.trans (hB.mono a1.size)
              have HN' := Lib.hid (HN.out.mark hba (Nat.le_trans a1.size hD) hd)
              clear hba hB hd hD HN a1
              have HN := HN'
              clear HN'
              go_simp
              go_wp2_with fail
              refine (assign_none HN.out.n2 1 (-1)).mono ?_
              rintro r w' ⟨rfl, rfl⟩
              go_wp2_with fail
              refine (push_none HN.out.n2).mono ?_
              rintro r w' ⟨rfl, rfl⟩
              go_wp2_with fail
              refine (back_none HN.out.n2 0).mono ?_
              rintro r w' ⟨rfl, rfl⟩
              go_wp2_with fail
              refine (value_none HN.out.n2 1).mono ?_
              rintro r v14 ⟨rfl, hb⟩
              have HN' := Lib.hid (HN.out.on hb)
              clear hb HN
              have HN := HN'
              clear HN'
              go_wp2_with fail
              refine (now_none HN.out.n2).mono ?_
              rintro r v15 ⟨rfl, hb⟩
              have HN' := Lib.hid (HN.out.on hb)
              clear hb HN
              have HN := HN'
              clear HN'
              go_wp2_with fail
              refine (len_none HN.out.n2).mono ?_
              rintro r v16 ⟨rfl, hb⟩
              have HN' := Lib.hid (HN.out.on hb)
              clear hb HN
              have HN := HN'
              clear HN'
              go_wp2_with fail
              refine (vars_none HN.out.n2).mono ?_
              rintro r w' ⟨rfl, rfl⟩
              go_wp2_with fail
              rw [rounds_succ]
              go_wp2_with fail
              refine (trawake_any _).mono ?_
              rintro r wz ⟨rfl, hb⟩
              have hN := HN.out.on hb
              have hsz : w.heap.size < w1.heap.size := R1.out.lt
              have hr := R1.out.same (hN.1.block _ R1.out.lt)
              have cr : wz.cell? ⟨w.heap.size, 0, none⟩ = some (.bool false) := hr.cell 0
              have hfr := hr.frozen 0
              have hM4 := marks_odd hN.2.2.2 (Odd.set hr 0 (.bool true))
              have hr4 : Whole _ _ _ #[.bool true] := hr.store 0 (.bool true)
              have hb4 := (below_cat B1.out hN.1).setCell (p := ⟨w.heap.size, 0, none⟩) (Nat.le_refl _) (.bool true)
              have HM4 := Lib.hid hM4; have HR4 := Lib.hid hr4; have HB4 := Lib.hid hb4
              clear hN hr hM4 hr4 hb4 hb HN
              go_wp2_with fail
              refine leaves_marks (B := w1.heap.size) (fun W' => Below w.heap.size w W' ∧ Whole W' w.heap.size 4 #[.bool true]) (fun W' D' h1 h2 h3 => ⟨h2.1.grown (grownBy_putObj' W' D' (.deferred none)) h2.1.size (fun k e => by cases e; omega), h2.2.same (World.putObj_heap_other (by omega))⟩) (fun W' h => ?_) [D13, D12, D5, D4] _ HM4.out ⟨HB4.out, HR4.out⟩
              have hc3 : W'.cell? ⟨w.heap.size, 0, none⟩ = some (.bool true) := h.2.cell 0
              refine ⟨.bool true, ?_, rfl, h.1⟩
              simp [results, Try.f4, go_sem, hc3]
end Go.Proofs.Ytdeedmfofjdbjaa.trailSmall
