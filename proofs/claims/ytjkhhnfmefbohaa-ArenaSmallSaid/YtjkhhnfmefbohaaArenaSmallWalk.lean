/- The walk of ArenaSmall. -/
import Derived.Test.YtjkhhnfmefbohaaSmallUse3
namespace Go.Proofs.Ytjkhhnfmefbohaa.arenaSmall
open Go.RowKit Go.ChangeAt Go.ChangeShapes Go.WideShapes Go.Sort

attribute [local go_sem] Oper.semAt_some

theorem wrap_u8 (x : Int) : IntKind.u8.wrap x = x % 256 := by simp [IntKind.wrap, IntKind.bits, IntKind.signed]
def CntRel (n : Nat) (w1 : World) (i : Value) (wr : World) : Prop := ∃ j : Nat, j ≤ n ∧ i = .int .i64 j ∧ Below w1.heap.size w1 wr
/-- The literals of a call: the first ones of four that are laid. -/
def WayV (W : World) (v : Value) (zs : List Int) : Prop := ∃ b q, v = .slice (some ⟨b, 0, none⟩) q 4 ∧ q ≤ 4 ∧ zs = ([1, -2, 3, 3] : List Int).take q ∧ Whole W b 3 #[.int .i64 1, .int .i64 (-2), .int .i64 3, .int .i64 3]
theorem WayV.ints {W : World} {v : Value} {zs : List Int} (h : WayV W v zs) : Ints W.heap.size W v zs := by
  obtain ⟨b, q, rfl, hq, rfl, hW⟩ := h
  exact ints_part [1, -2, 3, 3] hW hq 4
theorem WayV.on {W W' : World} {v : Value} {zs : List Int} (h : WayV W v zs) (hb : Below W.heap.size W W') : WayV W' v zs := by
  obtain ⟨b, q, h1, h2, h3, hW⟩ := h
  exact ⟨b, q, h1, h2, h3, hW.same (hb.block _ hW.lt)⟩
theorem WayV.grown {W W' : World} {v av : Value} {zs : List Int} {B n : Nat} {xs : List Value} (h : WayV W v zs) (hr : W.ownsRow B 27 3 av n xs) (hg : W.grownBy W' av.ownBlock) : WayV W' v zs := by
  obtain ⟨b, q, h1, h2, h3, hW⟩ := h
  exact ⟨b, q, h1, h2, h3, hW.same (hg.block b hW.lt (fun e => hW.row_ne hr (by decide) e.symm))⟩
def WayRow (B : Nat) (W : World) (av : Value) (l : List Act3) : Prop :=
  ∃ vs : List Value, vs.length = l.length ∧ W.ownsRow B 27 3 av l.length (actV l vs) ∧ ∀ (j : Nat) (x : Act3) (v : Value), l[j]? = some x → vs[j]? = some v → WayV W v x.2.2
theorem WayRow.acts {B : Nat} {W : World} {av : Value} {l : List Act3} (h : WayRow B W av l) : Acts W.heap.size W av l := by
  obtain ⟨vs, h1, h2, h3⟩ := h
  exact ActRow.acts ⟨vs, h1, h2, fun j x v a b => (h3 j x v a b).ints⟩
theorem wayRow_push {B : Nat} {W' : World} {av' : Value} {l : List Act3} {vs : List Value} {x : Act3} {v : Value} (hl : vs.length = l.length) (hv : ∀ (j : Nat) (x : Act3) (v : Value), l[j]? = some x → vs[j]? = some v → WayV W' v x.2.2)
    (hx : WayV W' v x.2.2) (hr : W'.ownsRow B 27 3 av' (l.length + 1) (actV l vs ++ [.int .u8 x.1, .int .i64 x.2.1, v])) : WayRow B W' av' (l ++ [x]) := by
  refine ⟨vs ++ [v], by simp [hl], ?_, fun j q u h1 h2 => ?_⟩
  · rw [actV_app l vs x v hl, List.length_append]
    exact hr
  · rcases Nat.lt_or_ge j l.length with h | h
    · rw [List.getElem?_append_left h] at h1
      rw [List.getElem?_append_left (by omega)] at h2
      exact hv j q u h1 h2
    · have hj : j = l.length := by
        have := (List.getElem?_eq_some_iff.1 h1).1
        rw [List.length_append] at this
        simp at this
        omega
      subst hj
      rw [List.getElem?_append_right (Nat.le_refl _)] at h1
      rw [← hl, List.getElem?_append_right (Nat.le_refl _)] at h2
      simp at h1 h2
      subst h1 h2
      exact hx
theorem way_ok {k r q : Nat} (hk : k < 4) (hr : r < 4) : ActOk ((k : Int), 1 + (r : Int), ([1, -2, 3, 3] : List Int).take q) ∧ (([1, -2, 3, 3] : List Int).take q).length ≤ 3000 := by
  have hl : (([1, -2, 3, 3] : List Int).take q).length ≤ 4 := by rw [List.length_take]; exact Nat.min_le_right _ _
  refine ⟨⟨?_, int_wf (by show _ ≤ 1 + (r : Int) ∧ 1 + (r : Int) ≤ _; omega), ?_⟩, by omega⟩
  · simp only [Lit.wf, IntKind.min, IntKind.max, IntKind.signed, IntKind.bits]
    simp
    omega
  · show (([1, -2, 3, 3] : List Int).take q).length * 8 ≤ reachBytes
    unfold reachBytes
    omega
def endsL : List Int := [-9223372036854775808, -1, 0, 1, 1073741823, 1073741824, 1073741825]
abbrev endsC : Array Value := #[.int .i64 (-9223372036854775808), .int .i64 (-1), .int .i64 0, .int .i64 1, .int .i64 1073741823, .int .i64 1073741824, .int .i64 1073741825]
theorem ends_cell {W W' : World} {b m : Nat} {a : Int} (h : Whole W b 3 endsC) (hb : Below W.heap.size W W') (ha : endsL[m]? = some a) : W'.cell? ⟨b, m, none⟩ = some (.int .i64 a) := by
  rw [(h.same (hb.block _ h.lt)).cell]
  have : endsC = (endsL.map (Value.int .i64)).toArray := rfl
  rw [this]
  simp [ha]
theorem ends_wf {m : Nat} {a : Int} (ha : endsL[m]? = some a) : (Lit.int .i64 a).wf = true := by
  have h : ∀ x ∈ endsL, -9223372036854775808 ≤ x ∧ x ≤ 9223372036854775807 := by decide
  exact int_wf (h a (List.mem_of_getElem? ha))
def sixC (n : Nat) (a b : Int) : Array Value := #[.int .u8 0, .int .i64 a, .slice (some ⟨n, 0, none⟩) 1 1, .int .u8 0, .int .i64 b, .slice (some ⟨n + 1, 0, none⟩) 2 2, .int .u8 0, .int .i64 b, .slice (some ⟨n + 2, 0, none⟩) 2 2,
  .int .u8 2, .int .i64 a, .slice none 0 0, .int .u8 2, .int .i64 b, .slice none 0 0, .int .u8 2, .int .i64 b, .slice none 0 0]
theorem act_ok {k id : Int} {ls : List Int} (hk : k = 0 ∨ k = 2) (hi : (Lit.int .i64 id).wf = true) (hl : ls.length ≤ 2) : ActOk (k, id, ls) := by
  refine ⟨?_, hi, ?_⟩
  · rcases hk with rfl | rfl
    · show (Lit.int .u8 0).wf = true
      decide
    · show (Lit.int .u8 2).wf = true
      decide
  · show ls.length * 8 ≤ reachBytes
    unfold reachBytes
    omega
theorem six_acts (W : World) (a b : Int) (ha : (Lit.int .i64 a).wf = true) (hb : (Lit.int .i64 b).wf = true) :
    Calls Try.prog 11 #[.slice (some ⟨W.heap.size + 3, 0, none⟩) 6 6] ((((W.alloc (.cells #[.int .i64 1] 3)).alloc (.cells #[.int .i64 2, .int .i64 0] 3)).alloc (.cells #[.int .i64 2, .int .i64 (-1)] 3)).alloc (.cells (sixC W.heap.size a b) 27))
      fun r w' => r = .returned (.bool true) ∧ Below W.heap.size W w' := by
  have b1 := below1a W (.cells #[.int .i64 1] 3)
  have m1 := Whole.made W 3 #[.int .i64 1]
  have s1 : (W.alloc (.cells #[.int .i64 1] 3)).heap.size = W.heap.size + 1 := World.size_alloc _ _
  obtain ⟨W1, h1⟩ : ∃ y, W.alloc (.cells #[.int .i64 1] 3) = y := ⟨_, rfl⟩
  rw [h1] at b1 m1 s1 ⊢
  have b2 := below1a W1 (.cells #[.int .i64 2, .int .i64 0] 3)
  have m2 := Whole.made W1 3 #[.int .i64 2, .int .i64 0]
  have s2 : (W1.alloc (.cells #[.int .i64 2, .int .i64 0] 3)).heap.size = W1.heap.size + 1 := World.size_alloc _ _
  obtain ⟨W2, h2⟩ : ∃ y, W1.alloc (.cells #[.int .i64 2, .int .i64 0] 3) = y := ⟨_, rfl⟩
  rw [h2] at b2 m2 s2 ⊢
  have b3 := below1a W2 (.cells #[.int .i64 2, .int .i64 (-1)] 3)
  have m3 := Whole.made W2 3 #[.int .i64 2, .int .i64 (-1)]
  have s3 : (W2.alloc (.cells #[.int .i64 2, .int .i64 (-1)] 3)).heap.size = W2.heap.size + 1 := World.size_alloc _ _
  obtain ⟨W3, h3⟩ : ∃ y, W2.alloc (.cells #[.int .i64 2, .int .i64 (-1)] 3) = y := ⟨_, rfl⟩
  rw [h3] at b3 m3 s3 ⊢
  have b4 := below1a W3 (.cells (sixC W.heap.size a b) 27)
  have m4 := Whole.made W3 27 (sixC W.heap.size a b)
  obtain ⟨W4, h4⟩ : ∃ y, W3.alloc (.cells (sixC W.heap.size a b) 27) = y := ⟨_, rfl⟩
  rw [h4] at b4 m4 ⊢
  have i1 := ints_part (n := 1) [1] (((m1.same (b2.block _ m1.lt)).same (b3.block _ (m1.same (b2.block _ m1.lt)).lt)).same (b4.block _ ((m1.same (b2.block _ m1.lt)).same (b3.block _ (m1.same (b2.block _ m1.lt)).lt)).lt)) (by decide) 1
  have i2 := ints_part (n := 2) [2, 0] ((m2.same (b3.block _ m2.lt)).same (b4.block _ (m2.same (b3.block _ m2.lt)).lt)) (by decide) 2
  have i3 := ints_part (n := 2) [2, -1] (m3.same (b4.block _ m3.lt)) (by decide) 2
  have hn : ∀ W : World, Ints W.heap.size W (.slice none 0 0) [] := fun W => .inl ⟨_, _, rfl, fun _ => rfl, rfl⟩
  rw [s1] at i2
  rw [s2, s1] at i3
  rw [s3, s2, s1] at m4
  have hac := acts_laid (l := [(0, a, [1]), (0, b, [2, 0]), (0, b, [2, -1]), (2, a, []), (2, b, []), (2, b, [])]) (vs := [.slice (some ⟨W.heap.size, 0, none⟩) 1 1, .slice (some ⟨W.heap.size + 1, 0, none⟩) 2 2, .slice (some ⟨W.heap.size + 1 + 1, 0, none⟩) 2 2, .slice none 0 0, .slice none 0 0, .slice none 0 0]) rfl m4
    (fun j x v hx hv => by
      match j with
      | 0 => cases hx; cases hv; exact i1
      | 1 => cases hx; cases hv; exact i2
      | 2 => cases hx; cases hv; exact i3
      | 3 => cases hx; cases hv; exact hn _
      | 4 => cases hx; cases hv; exact hn _
      | 5 => cases hx; cases hv; exact hn _
      | n + 6 => simp at hx)
  have hbw : Below W.heap.size W W4 := b1.trans ((b2.trans ((b3.trans (b4.mono b3.size)).mono b2.size)).mono b1.size)
  refine (plays_any _ _ W4 hac (fun x hx => ?_) (by simp) (fun x hx => ?_)).mono fun r w' ⟨h, hb'⟩ => ⟨h, hbw.trans (hb'.mono hbw.size)⟩
  · simp only [List.mem_cons, List.not_mem_nil, or_false] at hx
    rcases hx with rfl | rfl | rfl | rfl | rfl | rfl
    · exact act_ok (.inl rfl) ha (by simp)
    · exact act_ok (.inl rfl) hb (by simp)
    · exact act_ok (.inl rfl) hb (by simp)
    · exact act_ok (.inr rfl) ha (by simp)
    · exact act_ok (.inr rfl) hb (by simp)
    · exact act_ok (.inr rfl) hb (by simp)
  · simp only [List.mem_cons, List.not_mem_nil, or_false] at hx
    rcases hx with rfl | rfl | rfl | rfl | rfl | rfl <;> simp
def longC (j : Nat) : Array Value := ((longL j).map (Value.int .i64)).toArray
theorem infoL : ∃ i : TypeInfo, Try.prog.info? 30 = some i ∧ i.zero = some (.int .i64 0) ∧ i.size = 1 ∧ i.bytes = 8 := info_parts infoLit
theorem made_zeros (n : Nat) : madeCells (Value.int .i64 0).cells n = ((List.replicate n (0 : Int)).map (Value.int .i64)).toArray := by
  refine Array.ext (by simp [madeCells]) fun i h1 h2 => ?_
  simp [madeCells, Value.cells, Nat.mod_one]
theorem make_long (W : World) : (Instr.makeSlice 29 (.int .i64 4096) (.int .i64 4096)).run Try.prog W = .ok (.slice (some ⟨W.heap.size, 0, none⟩) 4096 4096) (W.alloc (.cells (longC 0) 30)) := by
  obtain ⟨i, hi, hz, hs, hb⟩ := infoL
  have h := run_make (P := Try.prog) W 29 30 i (.int .i64 0) Try.underlying29 hi hz .i64 .i64 (4096 : Nat) (4096 : Nat) (by omega) (by omega) (by rw [hb]; omega) (by omega)
  rw [hs] at h
  simp only [Int.toNat_natCast, Nat.mul_one] at h
  have e : madeCells (Value.int .i64 0).cells 4096 = longC 0 := (made_zeros 4096).trans (by unfold longC longL; exact congrArg (fun l : List Int => (l.map (Value.int .i64)).toArray) (List.nil_append _).symm)
  rw [e] at h
  exact h
def LongRel (lb : Nat) (w1 : World) (i : Value) (wr : World) : Prop :=
  ∃ j : Nat, j ≤ 4096 ∧ i = .int .i64 j ∧ wr.ownsRow w1.heap.size 30 1 (.slice (some ⟨lb, 0, none⟩) 4096 4096) 4096 ((longL j).map (Value.int .i64)) ∧ Below w1.heap.size w1 wr
/-- An arena, beside the long clause. -/
structure FS (lb g : Nat) (K : Nat → Prop) (L : List (Int × List Int)) (last : Int) (w1 W : World) : Prop where
  ar : Ar K W g L last
  row : W.ownsRow w1.heap.size 30 1 (.slice (some ⟨lb, 0, none⟩) 4096 4096) 4096 (onesL.map (Value.int .i64))
  off : ¬ K lb
  base : ∀ i, K i → w1.heap.size ≤ i
  below : Below w1.heap.size w1 W
theorem FS.turn {lb g : Nat} {K K' : Nat → Prop} {L L' : List (Int × List Int)} {last last' : Int} {w1 W W' : World} (h : FS lb g K L last w1 W) (t : Turn K W K' W') (hA : Ar K' W' g L' last') : FS lb g K' L' last' w1 W' :=
  ⟨hA, row_turn h.row t.1 (fun b e => by cases e; exact h.off), t.off (h.row.lt lb rfl).2 h.off, t.from_ h.below.size h.base, h.below.trans (t.below h.below.size h.base)⟩
theorem FS.on {lb g : Nat} {K : Nat → Prop} {L : List (Int × List Int)} {last : Int} {w1 W W' : World} (h : FS lb g K L last w1 W) (hb : Below W.heap.size W W') : FS lb g K L last w1 W' := h.turn (Turn.of_below hb) (h.ar.on hb)
theorem FS.long {lb g : Nat} {K : Nat → Prop} {L : List (Int × List Int)} {last : Int} {w1 W : World} (h : FS lb g K L last w1 W) : IntsF .i64 K W (.slice (some ⟨lb, 0, none⟩) 4096 4096) onesL := row_intsF h.row (fun b e => by cases e; exact h.off)
def FullRel (lb g : Nat) (w1 : World) (i : Value) (wr : World) : Prop := ∃ (j : Nat) (K : Nat → Prop), j ≤ 256 ∧ i = .int .i64 j ∧ FS lb g K (fullL j) j w1 wr
theorem full_7 : ((7 : Int), onesL) ∈ fullL 256 ++ [(9999, [])] := List.mem_append_left _ (List.mem_map.2 ⟨6, List.mem_range.2 (by decide), rfl⟩)
/-- What the loop over arenas that are none keeps. -/
structure NS (zb sb : Nat) (w1 W : World) : Prop where
  below : Below w1.heap.size w1 W
  z : Whole W zb 40 zeroC
  s : Whole W sb 31 #[.pointer none, .pointer (some ⟨zb, 0, none⟩)]
theorem NS.on {zb sb : Nat} {w1 W W' : World} (h : NS zb sb w1 W) (hb : Below W.heap.size W W') : NS zb sb w1 W' := ⟨h.below.trans (hb.mono h.below.size), h.z.same (hb.block _ h.z.lt), h.s.same (hb.block _ h.s.lt)⟩
theorem NS.n1 {zb sb : Nat} {w1 W : World} (_h : NS zb sb w1 W) : NoArena W none := .inl rfl
theorem NS.n2 {zb sb : Nat} {w1 W : World} (h : NS zb sb w1 W) : NoArena W (some ⟨zb, 0, none⟩) := .inr ⟨zb, rfl, h.z⟩
def WayRel (w1 : World) (s2 s3 s4 : Value) (wr : World) : Prop :=
  ∃ (i x : Nat) (l : List Act3), i ≤ 6 ∧ x ≤ 4096 ∧ s3 = .int .i64 i ∧ s4 = .int .i64 x ∧ l.length = i ∧ WayRow w1.heap.size wr s2 l ∧ (∀ y ∈ l, ActOk y ∧ y.2.2.length ≤ 3000) ∧ Below w1.heap.size w1 wr

set_option maxRecDepth 100000 in
set_option maxHeartbeats 4000000 in
theorem arenaSmall_walk (w : World) : Calls Try.prog 4 #[] w fun e w' => e = .returned (.bool true) ∧ Below w.heap.size w w' := by
  have hm1 := Whole.made w 4 #[.bool false]
  have hbl := below1a w (.cells #[.bool false] 4)
  have hsz1 : (w.alloc (.cells #[.bool false] 4)).heap.size = w.heap.size + 1 := World.size_alloc _ _
  obtain ⟨i0, hi0, hz0, hz1, hz2⟩ := info_parts infoAct
  obtain ⟨w1, hw1⟩ : ∃ y, w.alloc (.cells #[.bool false] 4) = y := ⟨_, rfl⟩
  rw [hw1] at hm1 hbl hsz1
  have HM1 := Lib.hid hm1; have HBl := Lib.hid hbl; have HSz := Lib.hid hsz1; have H1 := Lib.hid hw1
  clear hm1 hbl hsz1 hw1
  refine (callsIn_wide (n := 5)).1 ?_
  refine callsIn_of_wp_marks Try.func4 rfl trivial ?_ rfl
  simp only [Try.ntmps4, List.size_toArray, List.length_nil, Nat.sub_zero, Array.replicate_succ, Array.replicate_zero, List.push_toArray, List.append_toArray, List.nil_append, List.cons_append]
  refine wpIn_wide.2 ?_
  go_wp2_with fail
  rw [H1.out]
  go_loopw [22] (fun i wr => CntRel 4096 w1 i wr) (fun i _ => 4096 - (intOf i).toNat)
  case atStart => exact ⟨0, Nat.zero_le _, rfl, Below.refl _ _⟩
  case round =>
    obtain ⟨j, hj, rfl, hB⟩ := hrel
    by_cases hlt : j < 4096
    · obtain ⟨w0, rfl⟩ : ∃ y : World, y = wr := ⟨_, rfl⟩
      have HB := Lib.hid hB
      clear hB
      go_wp2_with fail
      rw [show decide ((j : Int) < 4096) = true from decide_eq_true (by omega)]
      go_loopw [2, 3, 4] (fun s2 s3 s4 wr => WayRel w1 s2 s3 s4 wr) (fun _ s3 _ _ => 6 - (intOf s3).toNat)
      case atStart => exact ⟨0, j, [], Nat.zero_le _, hj, rfl, rfl, rfl, ⟨[], rfl, World.ownsRow_nil _ _ _ _, fun j x v h => by simp at h⟩, fun y hy => (by cases hy), HB.out⟩
      case round =>
        obtain ⟨i, x, l, hi, hx, rfl, rfl, hl, hR, hok, hB2⟩ := hrel
        clear HB
        by_cases hil : i < 6
        · obtain ⟨u, hu⟩ : ∃ u, (i + x) % 256 = u := ⟨_, rfl⟩
          have hu1 : u < 256 := by omega
          have hwu : IntKind.u8.wrap ((i : Int) + (x : Int)) = (u : Int) := by rw [wrap_u8]; omega
          obtain ⟨k, hk⟩ : ∃ k, u % 4 = k := ⟨_, rfl⟩
          have hk1 : k < 4 := by omega
          have hku : (u : Int) % 4 = (k : Int) := by omega
          obtain ⟨r, hr⟩ : ∃ r, (x + i) % 4 = r := ⟨_, rfl⟩
          have hr1 : r < 4 := by omega
          have hrx : ((x : Int) + (i : Int)) % 4 = (r : Int) := by omega
          obtain ⟨q, hq⟩ : ∃ q, x % 4 = q := ⟨_, rfl⟩
          have hq1 : q < 4 := by omega
          have hqx : (x : Int) % 4 = (q : Int) := by omega
          have hx0 : (0 : Int) ≤ (x : Int) := by omega
          have hx4096 : (x : Int) ≤ 4096 := by omega
          clear hu hk hr hq
          obtain ⟨vs, hvl, hrw, hvs⟩ := hR
          have hB2s := hB2.size
          have b3 := below1a wr (.cells #[.int .i64 1, .int .i64 (-2), .int .i64 3, .int .i64 3] 3)
          have m3 := Whole.made wr 3 #[.int .i64 1, .int .i64 (-2), .int .i64 3, .int .i64 3]
          have r3 := hrw.alloc (.cells #[.int .i64 1, .int .i64 (-2), .int .i64 3, .int .i64 3] 3)
          have hs3 : (wr.alloc (.cells #[.int .i64 1, .int .i64 (-2), .int .i64 3, .int .i64 3] 3)).heap.size = wr.heap.size + 1 := World.size_alloc _ _
          obtain ⟨w3, hw3⟩ : ∃ y, wr.alloc (.cells #[.int .i64 1, .int .i64 (-2), .int .i64 3, .int .i64 3] 3) = y := ⟨_, rfl⟩
          rw [hw3] at b3 m3 r3 hs3
          have hb13 := hB2.trans (b3.mono hB2s)
          have hvs3 := fun (j : Nat) (x : Act3) (v : Value) a b => (hvs j x v a b).on b3
          have hV3 : WayV w3 (.slice (some ⟨wr.heap.size, 0, none⟩) q 4) (([1, -2, 3, 3] : List Int).take q) := ⟨_, _, rfl, by omega, rfl, m3⟩
          have hbs3 : w1.heap.size ≤ w3.heap.size := by omega
          have hl6 : l.length ≤ 6 := by omega
          have HR3 := Lib.hid r3; have HV3 := Lib.hid hV3; have HB13 := Lib.hid hb13; have HVs := Lib.hid hvs3; have HVl := Lib.hid hvl; have HOk := Lib.hid hok; have HLl := Lib.hid hl; have HS3 := Lib.hid hs3
          clear hvl hrw hvs hvs3 hB2 b3 m3 r3 hb13 hV3 hok hl hs3
          go_wp2_with (at_builtin; (refine wpList_append_own _ rfl _ _ 22 rfl w1.heap.size 27 i0 _ 3 40 Try.underlying22 hi0 hz0 hz1 hz2 rfl (by decide) _ _ _ rfl (HR3.out.alloc _) ⟨w3.heap.size, 0, none⟩ 1 1 [.int .u8 (k : Nat), .int .i64 (1 + (r : Nat)), .slice (some ⟨wr.heap.size, 0, none⟩) q 4] rfl rfl (World.news_of_block (cs := #[.int .u8 (k : Nat), .int .i64 (1 + (r : Nat)), .slice (some ⟨wr.heap.size, 0, none⟩) q 4]) (t := 27) (fr := (0, 0)) (heap_alloc_new w3 _)) (by simp [Value.oneCell']) (by unfold maxLen; omega) (by omega) (Nat.le_trans hbs3 (by rw [World.size_alloc]; exact Nat.le_succ _)) ?_; intro v5 w5 hown5 hg5 _; have HO5 := Lib.hid hown5; have HGr := Lib.hid hg5; clear hown5 hg5))
          have hr3 := HR3.out.alloc (.cells #[.int .u8 (k : Nat), .int .i64 (1 + (r : Nat)), .slice (some ⟨wr.heap.size, 0, none⟩) q 4] 27)
          have ha3 := below1a w3 (.cells #[.int .u8 (k : Nat), .int .i64 (1 + (r : Nat)), .slice (some ⟨wr.heap.size, 0, none⟩) q 4] 27)
          have hb5 : Below w1.heap.size w1 w5 := (HB13.out.alloc hbs3 _).grown HGr.out (Nat.le_trans hbs3 ha3.size) (fun k e => (HR3.out.lt k e).1)
          have hrow5 := wayRow_push (x := ((k : Int), 1 + (r : Int), ([1, -2, 3, 3] : List Int).take q)) HVl.out (fun j x v a b => ((HVs.out j x v a b).on ha3).grown hr3 HGr.out) ((HV3.out.on ha3).grown hr3 HGr.out) HO5.out
          have hok5 : ∀ y ∈ l ++ [((k : Int), 1 + (r : Int), ([1, -2, 3, 3] : List Int).take q)], ActOk y ∧ y.2.2.length ≤ 3000 := fun y hy => by
            rcases List.mem_append.1 hy with hy | hy
            · exact HOk.out y hy
            · obtain rfl : y = _ := by simpa using hy
              exact way_ok hk1 hr1
          have HB5 := Lib.hid hb5; have HRw5 := Lib.hid hrow5; have HOk5 := Lib.hid hok5
          clear hr3 ha3 hb5 hrow5 hok5
          go_roundw
          case rel =>
            exact ⟨i + 1, x / 4, _, by omega, by omega, by go_num, by go_num, by rw [List.length_append, HLl.out]; rfl, HRw5.out, HOk5.out, HB5.out⟩
          case measure => simp [intOf]; omega
        · obtain rfl : i = 6 := by omega
          have hac := hR.acts
          obtain ⟨A2, c2, rfl, -⟩ := hac.shape
          have HPl := Lib.hid (plays_any _ l wr hac (fun y hy => (hok y hy).1) (by omega) (fun y hy => (hok y hy).2))
          have HB2 := Lib.hid hB2
          clear hR hac hok hB2 hl
          by_cases h7 : j % 7 < 2
          · have hq : (j : Int) % 7 < 2 := by omega
            go_wp2_with fail
            refine (HPl.out).mono ?_
            rintro r w5 ⟨rfl, hb5⟩
            have HB5 := Lib.hid (HB2.out.trans (hb5.mono HB2.out.size))
            clear hb5 HB2 HPl
            go_wp2_with fail
            go_roundw
            case rel => exact ⟨j + 1, by omega, by go_num, HB5.out⟩
            case measure => simp [intOf]; omega
          · have hq : ¬ (j : Int) % 7 < 2 := by omega
            clear HPl
            go_wp2_with fail
            go_roundw
            case rel => exact ⟨j + 1, by omega, by go_num, HB2.out⟩
            case measure => simp [intOf]; omega
    · obtain rfl : j = 4096 := by omega
      have HB := Lib.hid hB
      clear hB
      go_wp2_with fail
      have hbe := below1a wr (.cells endsC 3)
      have hme := Whole.made wr 3 endsC
      have hB2 := HB.out.trans (hbe.mono HB.out.size)
      obtain ⟨eb, heb⟩ : ∃ y, wr.heap.size = y := ⟨_, rfl⟩
      obtain ⟨w2, hw2⟩ : ∃ y, wr.alloc (.cells endsC 3) = y := ⟨_, rfl⟩
      rw [heb] at hme ⊢
      rw [hw2] at hbe hme hB2
      have HW2 := Lib.hid (show wr.alloc (.cells #[.int .i64 (-9223372036854775808), .int .i64 (-1), .int .i64 0, .int .i64 1, .int .i64 1073741823, .int .i64 1073741824, .int .i64 1073741825] 3) = w2 from hw2)
      rw [HW2.out, show ((4096 : Nat) : Int) = 4096 from rfl]
      have HB2 := Lib.hid hB2; have HMe := Lib.hid hme
      clear hbe hme hB2 HB hw2 heb HW2
      go_loopw [62] (fun i wr => CntRel 7 w2 i wr) (fun i _ => 7 - (intOf i).toNat)
      case atStart => exact ⟨0, Nat.zero_le _, rfl, Below.refl _ _⟩
      case round =>
        obtain ⟨m, hm, rfl, hB3⟩ := hrel
        by_cases hm7 : m < 7
        · obtain ⟨a, ha⟩ : ∃ a, endsL[m]? = some a := ⟨_, List.getElem?_eq_getElem hm7⟩
          have hce := ends_cell HMe.out hB3 ha
          have hwa := ends_wf ha
          obtain ⟨w0, rfl⟩ : ∃ y : World, y = wr := ⟨_, rfl⟩
          have HB3 := Lib.hid hB3; have HWa := Lib.hid hwa
          clear hB3 hwa ha
          go_wp2_with fail
          first
            | rw [show decide ((m : Int) < 7) = true from decide_eq_true (by omega)]
            | rw [show decide (m < 7) = true from decide_eq_true (by omega)]
          go_loopw [68] (fun i wr => CntRel 7 w0 i wr) (fun i _ => 7 - (intOf i).toNat)
          case atStart => exact ⟨0, Nat.zero_le _, rfl, Below.refl _ _⟩
          case round =>
            obtain ⟨m2, hm2, rfl, hB4⟩ := hrel
            have hB5 := HB3.out.trans (hB4.mono HB3.out.size)
            clear hce
            by_cases hm27 : m2 < 7
            · obtain ⟨b, hb⟩ : ∃ b, endsL[m2]? = some b := ⟨_, List.getElem?_eq_getElem hm27⟩
              have hce := ends_cell HMe.out hB5 hb
              have HPl := Lib.hid (six_acts wr a b HWa.out (ends_wf hb))
              have HB4 := Lib.hid hB4
              clear hB4 hB5 hb
              go_wp2_with fail
              refine (HPl.out).mono ?_
              rintro r w5 ⟨rfl, hb5⟩
              have HB5 := Lib.hid (HB4.out.trans (hb5.mono HB4.out.size))
              clear hb5 HB4 HPl
              go_wp2_with fail
              go_roundw
              case rel => exact ⟨m2 + 1, by omega, by go_num, HB5.out⟩
              case measure => simp [intOf]; omega
            · have HB5 := Lib.hid hB5
              clear hB4 hB5
              go_wp2_with fail
              go_roundw
              case rel => exact ⟨m + 1, by omega, by go_num, HB5.out⟩
              case measure => simp [intOf]; omega
        · obtain rfl : m = 7 := by omega
          have HB4 := Lib.hid (HB2.out.trans (hB3.mono HB2.out.size))
          have hmk := make_long
          clear hB3
          go_wp2_with fail
          rw [show ((7 : Nat) : Int) = 7 from rfl]
          have hrow := World.ownsRow_lit (base := wr.heap.size) (size := 1) (e := 30) wr (longC 0) 4096 (Nat.le_refl _) (by unfold maxLen; omega) (by unfold longC; rw [List.size_toArray, List.length_map, longL_len (Nat.zero_le _)])
          have hbe := below1a wr (.cells (longC 0) 30)
          have hB5 := HB4.out.trans (hbe.mono HB4.out.size)
          rw [show (longC 0).toList = (longL 0).map (Value.int .i64) from by unfold longC; simp] at hrow
          have hrow := owns_mono hrow HB4.out.size
          obtain ⟨lb, hlb⟩ : ∃ y, wr.heap.size = y := ⟨_, rfl⟩
          obtain ⟨w4, hw4⟩ : ∃ y, wr.alloc (.cells (longC 0) 30) = y := ⟨_, rfl⟩
          rw [hlb, hw4] at hrow
          rw [hw4] at hB5
          rw [hlb, hw4]
          have HRow := Lib.hid hrow; have HB5 := Lib.hid hB5
          clear hmk hrow hbe hlb hw4 hB5 HB4 HB2 HMe
          go_loopw [95] (fun i wr => LongRel lb w1 i wr) (fun i _ => 4096 - (intOf i).toNat)
          case atStart => exact ⟨0, Nat.zero_le _, rfl, HRow.out, HB5.out⟩
          case round =>
            obtain ⟨n, hn, rfl, hR, hB⟩ := hrel
            clear HRow HB5
            by_cases hn4 : n < 4096
            · have hcell : wr.cell? ⟨lb, n, none⟩ = some (.int .i64 ((longL n)[n]?.getD 0)) := by
                rw [hR.cellAt n (by omega), List.getElem?_map, List.getElem?_eq_getElem (by rw [longL_len (by omega)]; exact hn4)]
                rfl
              have hfz := hR.frozenAt n
              obtain ⟨hR2, hg2⟩ := hR.stored n (.int .i64 1)
              have hB2 := hB.grown hg2 hB.size (fun k e => by cases e; exact (hR.lt lb rfl).1)
              have hR3 : (wr.setCell ⟨lb, n, none⟩ (.int .i64 1)).ownsRow w1.heap.size 30 1 (.slice (some ⟨lb, 0, none⟩) 4096 4096) 4096 ((longL (n + 1)).map (Value.int .i64)) := by
                rw [← longL_set hn4, List.map_set]; exact hR2
              have HR3 := Lib.hid hR3; have HB2 := Lib.hid hB2
              clear hR hB hR2 hg2 hB2 hR3
              go_wp2_with fail
              go_roundw
              case rel => exact ⟨n + 1, by omega, by go_num, HR3.out, HB2.out⟩
              case measure => simp [intOf]; omega
            · obtain rfl : n = 4096 := by omega
              rw [longL_all] at hR
              have HR := Lib.hid (show wr.ownsRow w1.heap.size 30 1 (.slice (some ⟨lb, 0, none⟩) 4096 4096) 4096 (onesL.map (Value.int .i64)) from hR); have HB := Lib.hid hB
              clear hR hB
              go_wp2_with fail
              refine (new_ar wr).mono ?_
              rintro r w5 ⟨g, K5, rfl, hA5, hK5, hB5⟩
              have hF5 : FS lb g K5 [] 0 w1 w5 := ⟨hA5, owns_on0 HR.out hB5, fun x => by have := hK5 _ x; have := (HR.out.lt lb rfl).2; omega, fun i x => Nat.le_trans HB.out.size (hK5 i x), HB.out.trans (hB5.mono HB.out.size)⟩
              have HF5 := Lib.hid hF5
              clear hA5 hK5 hB5 hF5 HR HB
              go_wp2_with fail
              go_loopw [105] (fun i wr => FullRel lb g w1 i wr) (fun i _ => 256 - (intOf i).toNat)
              case atStart => exact ⟨0, K5, Nat.zero_le _, rfl, HF5.out⟩
              case round =>
                obtain ⟨n, K, hn, rfl, hF⟩ := hrel
                clear HF5
                by_cases hn2 : n < 256
                · have hsum := fullL_sum n
                  have hadd := add_ok (id := (n : Int) + 1) hF.ar hF.long onesL_right (by omega) (by omega) (by rw [hsum, onesL_len]; omega)
                  have HA := Lib.hid hadd; have HF := Lib.hid hF
                  clear hsum hadd hF
                  go_wp2_with fail
                  refine (HA.out).mono ?_
                  rintro r w6 ⟨K6, rfl, hA6, hT6⟩
                  have hF6 := HF.out.turn hT6 hA6
                  rw [← fullL_succ] at hF6
                  have HF6 := Lib.hid hF6
                  clear hA6 hT6 hF6 HA HF
                  go_wp2_with fail
                  go_roundw
                  case rel => exact ⟨n + 1, K6, by omega, by go_num, by have := HF6.out; simpa using this⟩
                  case measure => simp [intOf]; omega
                · obtain rfl : n = 256 := by omega
                  have HF := Lib.hid hF
                  clear hF
                  go_wp2_with fail
                  refine (add_bad (e := 4) (c := [1]) (HF.out.ar.on (below1a _ _)) (intsF_laid HF.out.ar.kok [1] _) (by decide) (addE_s (by decide) ⟨by decide, by decide⟩ (by rw [fullL_sum]; decide)) (by decide)).mono ?_
                  rintro r w6 ⟨rfl, hb6⟩
                  have HF6 := Lib.hid ((HF.out.on (below1a _ _)).on hb6)
                  clear hb6 HF
                  go_wp2_with fail
                  refine (add_ok (id := 9999) (c := []) HF6.out.ar (intsF_nil _) (by decide) (by decide) (by decide) (by rw [fullL_sum]; decide)).mono ?_
                  rintro r w7 ⟨K7, rfl, hA7, hT7⟩
                  have HF7 := Lib.hid (HF6.out.turn hT7 hA7)
                  clear hA7 hT7 HF6
                  go_wp2_with fail
                  refine (del_ok (ls := onesL) HF7.out.ar full_7).mono ?_
                  rintro r w8 ⟨rfl, K8, hA8, hT8⟩
                  have HF8 := Lib.hid (HF7.out.turn hT8 hA8)
                  clear hA8 hT8 HF7
                  go_wp2_with fail
                  refine (add_ok (id := 10000) HF8.out.ar HF8.out.long onesL_right (by decide) (by decide) (by rw [filt_sum, onesL_len]; decide)).mono ?_
                  rintro r w9 ⟨K9, rfl, hA9, hT9⟩
                  have HF9 := Lib.hid (HF8.out.turn hT9 hA9)
                  clear hA9 hT9 HF8
                  go_wp2_with fail
                  refine (used_is (n := 1048576) HF9.out.ar (congrArg Int.ofNat endL_sum)).mono ?_
                  rintro r w' ⟨rfl, rfl⟩
                  go_wp2_with fail
                  refine (add_bad (e := 20) (c := [0]) (HF9.out.ar.on (below1a _ _)) (intsF_laid HF9.out.ar.kok [0] _) (by decide) (addE_r (by decide)) (by decide)).mono ?_
                  rintro r w10 ⟨rfl, hb10⟩
                  have HB10 := Lib.hid ((HF9.out.on (below1a _ _)).on hb10).below
                  clear hb10 HF9
                  go_wp2_with fail
                  have b11 := below1a w10 (.cells zeroC 40)
                  have z11 := Whole.made w10 40 zeroC
                  have b12 := below1a (w10.alloc (.cells zeroC 40)) (.cells #[.pointer none, .pointer (some ⟨w10.heap.size, 0, none⟩)] 31)
                  have s12 := Whole.made (w10.alloc (.cells zeroC 40)) 31 #[.pointer none, .pointer (some ⟨w10.heap.size, 0, none⟩)]
                  have hN0 : NS w10.heap.size (w10.heap.size + 1) w1 ((w10.alloc (.cells zeroC 40)).alloc (.cells #[.pointer none, .pointer (some ⟨w10.heap.size, 0, none⟩)] 31)) := ⟨HB10.out.trans ((b11.trans (b12.mono b11.size)).mono HB10.out.size), z11.same (b12.block _ z11.lt), by rw [World.size_alloc] at s12; exact s12⟩
                  obtain ⟨zb, hzb⟩ : ∃ y, w10.heap.size = y := ⟨_, rfl⟩
                  rw [hzb] at hN0 ⊢
                  obtain ⟨v0, hv0⟩ : ∃ y, (w10.alloc (.cells zeroC 40)).alloc (.cells #[.pointer none, .pointer (some ⟨zb, 0, none⟩)] 31) = y := ⟨_, rfl⟩
                  rw [hv0] at hN0 ⊢
                  have HN := Lib.hid hN0
                  clear b11 z11 b12 s12 hN0 hzb hv0 HB10
                  refine wp_loop_rounds 3 ?_
                  rw [rounds_succ]
                  have cr : v0.cell? ⟨zb + 1, 0, none⟩ = some (.pointer none) := HN.out.s.cell 0
                  go_wp2_with fail
                  refine (get_none HN.out.n1 1).mono ?_
                  rintro r v1 ⟨rfl, hb⟩
                  have HN' := Lib.hid (HN.out.on hb)
                  clear hb HN cr
                  have HN := HN'
                  clear HN'
                  go_wp2_with fail
                  refine (len_none HN.out.n1 1).mono ?_
                  rintro r v2 ⟨rfl, hb⟩
                  have HN' := Lib.hid (HN.out.on hb)
                  clear hb HN
                  have HN := HN'
                  clear HN'
                  go_wp2_with fail
                  refine (lit_none HN.out.n1 1 0).mono ?_
                  rintro r v3 ⟨rfl, hb⟩
                  have HN' := Lib.hid (HN.out.on hb)
                  clear hb HN
                  have HN := HN'
                  clear HN'
                  go_wp2_with fail
                  refine (all_any _ _).mono ?_
                  rintro r w' ⟨rfl, rfl⟩
                  go_wp2_with fail
                  refine wpIn_wide.1 (range_none (n := 5) (bx := v3.heap.size) (p := none) rfl (enters_of Try.func43 (by kernel_rfl) rfl) ((HN.out.n1).on (below1a _ _)) (Whole.made v3 _ _) ?_)
                  intro D1 v4 hD1 hB hd
                  have hba := (below1a v3 (.cells #[.pointer none] 31)).trans (hB.mono (by simp))
                  have HN' := Lib.hid (HN.out.on hba)
                  have hlt1 : w1.heap.size < D1 := by rw [World.size_alloc] at hD1; have := HN.out.s.lt; have := HN.out.below.size; omega
                  have HD1 := Lib.hid hd
                  clear hba hB hd hD1 HN
                  have HN := HN'
                  clear HN'
                  go_simp
                  go_wp2_with fail
                  refine (add_none HN.out.n1 0 _).mono ?_
                  rintro r v5 ⟨rfl, hb⟩
                  have HN' := Lib.hid (HN.out.on hb)
                  have HD1' := Lib.hid ((Odd.of_below hb).same D1 _ HD1.out rfl)
                  clear hb HN HD1
                  have HN := HN'; have HD1 := HD1'
                  clear HN' HD1'
                  go_wp2_with fail
                  refine (del_none HN.out.n1 1).mono ?_
                  rintro r v6 ⟨rfl, hb⟩
                  have HN' := Lib.hid (HN.out.on hb)
                  have HD1' := Lib.hid ((Odd.of_below hb).same D1 _ HD1.out rfl)
                  clear hb HN HD1
                  have HN := HN'; have HD1 := HD1'
                  clear HN' HD1'
                  go_wp2_with fail
                  refine (has_none HN.out.n1 1).mono ?_
                  rintro r v7 ⟨rfl, hb⟩
                  have HN' := Lib.hid (HN.out.on hb)
                  have HD1' := Lib.hid ((Odd.of_below hb).same D1 _ HD1.out rfl)
                  clear hb HN HD1
                  have HN := HN'; have HD1 := HD1'
                  clear HN' HD1'
                  go_wp2_with fail
                  refine (count_none HN.out.n1).mono ?_
                  rintro r v8 ⟨rfl, hb⟩
                  have HN' := Lib.hid (HN.out.on hb)
                  have HD1' := Lib.hid ((Odd.of_below hb).same D1 _ HD1.out rfl)
                  clear hb HN HD1
                  have HN := HN'; have HD1 := HD1'
                  clear HN' HD1'
                  go_wp2_with fail
                  refine (used_none HN.out.n1).mono ?_
                  rintro r v9 ⟨rfl, hb⟩
                  have HN' := Lib.hid (HN.out.on hb)
                  have HD1' := Lib.hid ((Odd.of_below hb).same D1 _ HD1.out rfl)
                  clear hb HN HD1
                  have HN := HN'; have HD1 := HD1'
                  clear HN' HD1'
                  go_wp2_with fail
                  refine (held_none HN.out.n1).mono ?_
                  rintro r v10 ⟨rfl, hb⟩
                  have HN' := Lib.hid (HN.out.on hb)
                  have HD1' := Lib.hid ((Odd.of_below hb).same D1 _ HD1.out rfl)
                  clear hb HN HD1
                  have HN := HN'; have HD1 := HD1'
                  clear HN' HD1'
                  go_wp2_with fail
                  refine (last_none HN.out.n1).mono ?_
                  rintro r v11 ⟨rfl, hb⟩
                  have HN' := Lib.hid (HN.out.on hb)
                  have HD1' := Lib.hid ((Odd.of_below hb).same D1 _ HD1.out rfl)
                  clear hb HN HD1
                  have HN := HN'; have HD1 := HD1'
                  clear HN' HD1'
                  go_wp2_with fail
                  rw [rounds_succ]
                  have cr : v11.cell? ⟨zb + 1, 1, none⟩ = some (.pointer (some ⟨zb, 0, none⟩)) := HN.out.s.cell 1
                  go_wp2_with fail
                  refine (get_none HN.out.n2 1).mono ?_
                  rintro r v12 ⟨rfl, hb⟩
                  have HN' := Lib.hid (HN.out.on hb)
                  have HD1' := Lib.hid ((Odd.of_below hb).same D1 _ HD1.out rfl)
                  clear hb HN cr HD1
                  have HN := HN'; have HD1 := HD1'
                  clear HN' HD1'
                  go_wp2_with fail
                  refine (len_none HN.out.n2 1).mono ?_
                  rintro r v13 ⟨rfl, hb⟩
                  have HN' := Lib.hid (HN.out.on hb)
                  have HD1' := Lib.hid ((Odd.of_below hb).same D1 _ HD1.out rfl)
                  clear hb HN HD1
                  have HN := HN'; have HD1 := HD1'
                  clear HN' HD1'
                  go_wp2_with fail
                  refine (lit_none HN.out.n2 1 0).mono ?_
                  rintro r v14 ⟨rfl, hb⟩
                  have HN' := Lib.hid (HN.out.on hb)
                  have HD1' := Lib.hid ((Odd.of_below hb).same D1 _ HD1.out rfl)
                  clear hb HN HD1
                  have HN := HN'; have HD1 := HD1'
                  clear HN' HD1'
                  go_wp2_with fail
                  refine (all_any _ _).mono ?_
                  rintro r w' ⟨rfl, rfl⟩
                  go_wp2_with fail
                  refine wpIn_wide.1 (range_none (n := 5) (bx := v14.heap.size) (p := (some ⟨zb, 0, none⟩)) rfl (enters_of Try.func43 (by kernel_rfl) rfl) ((HN.out.n2).on (below1a _ _)) (Whole.made v14 _ _) ?_)
                  intro D2 v15 hD2 hB hd
                  have hba := (below1a v14 (.cells #[.pointer (some ⟨zb, 0, none⟩)] 31)).trans (hB.mono (by simp))
                  have HN' := Lib.hid (HN.out.on hba)
                  have hlt2 : w1.heap.size < D2 := by rw [World.size_alloc] at hD2; have := HN.out.s.lt; have := HN.out.below.size; omega
                  have HD1' := Lib.hid ((Odd.of_below hba).same D1 _ HD1.out rfl)
                  have hne : D2 ≠ D1 := by rw [World.size_alloc] at hD2; have := (Array.getElem?_eq_some_iff.1 HD1.out).1; omega
                  have HD2 := Lib.hid hd
                  clear hba hB hd hD2 HN HD1
                  have HN := HN'; have HD1 := HD1'
                  clear HN' HD1'
                  go_simp
                  go_wp2_with fail
                  refine (add_none HN.out.n2 0 _).mono ?_
                  rintro r v16 ⟨rfl, hb⟩
                  have HN' := Lib.hid (HN.out.on hb)
                  have HD1' := Lib.hid ((Odd.of_below hb).same D1 _ HD1.out rfl)
                  have HD2' := Lib.hid ((Odd.of_below hb).same D2 _ HD2.out rfl)
                  clear hb HN HD1 HD2
                  have HN := HN'; have HD1 := HD1'; have HD2 := HD2'
                  clear HN' HD1' HD2'
                  go_wp2_with fail
                  refine (del_none HN.out.n2 1).mono ?_
                  rintro r v17 ⟨rfl, hb⟩
                  have HN' := Lib.hid (HN.out.on hb)
                  have HD1' := Lib.hid ((Odd.of_below hb).same D1 _ HD1.out rfl)
                  have HD2' := Lib.hid ((Odd.of_below hb).same D2 _ HD2.out rfl)
                  clear hb HN HD1 HD2
                  have HN := HN'; have HD1 := HD1'; have HD2 := HD2'
                  clear HN' HD1' HD2'
                  go_wp2_with fail
                  refine (has_none HN.out.n2 1).mono ?_
                  rintro r v18 ⟨rfl, hb⟩
                  have HN' := Lib.hid (HN.out.on hb)
                  have HD1' := Lib.hid ((Odd.of_below hb).same D1 _ HD1.out rfl)
                  have HD2' := Lib.hid ((Odd.of_below hb).same D2 _ HD2.out rfl)
                  clear hb HN HD1 HD2
                  have HN := HN'; have HD1 := HD1'; have HD2 := HD2'
                  clear HN' HD1' HD2'
                  go_wp2_with fail
                  refine (count_none HN.out.n2).mono ?_
                  rintro r v19 ⟨rfl, hb⟩
                  have HN' := Lib.hid (HN.out.on hb)
                  have HD1' := Lib.hid ((Odd.of_below hb).same D1 _ HD1.out rfl)
                  have HD2' := Lib.hid ((Odd.of_below hb).same D2 _ HD2.out rfl)
                  clear hb HN HD1 HD2
                  have HN := HN'; have HD1 := HD1'; have HD2 := HD2'
                  clear HN' HD1' HD2'
                  go_wp2_with fail
                  refine (used_none HN.out.n2).mono ?_
                  rintro r v20 ⟨rfl, hb⟩
                  have HN' := Lib.hid (HN.out.on hb)
                  have HD1' := Lib.hid ((Odd.of_below hb).same D1 _ HD1.out rfl)
                  have HD2' := Lib.hid ((Odd.of_below hb).same D2 _ HD2.out rfl)
                  clear hb HN HD1 HD2
                  have HN := HN'; have HD1 := HD1'; have HD2 := HD2'
                  clear HN' HD1' HD2'
                  go_wp2_with fail
                  refine (held_none HN.out.n2).mono ?_
                  rintro r v21 ⟨rfl, hb⟩
                  have HN' := Lib.hid (HN.out.on hb)
                  have HD1' := Lib.hid ((Odd.of_below hb).same D1 _ HD1.out rfl)
                  have HD2' := Lib.hid ((Odd.of_below hb).same D2 _ HD2.out rfl)
                  clear hb HN HD1 HD2
                  have HN := HN'; have HD1 := HD1'; have HD2 := HD2'
                  clear HN' HD1' HD2'
                  go_wp2_with fail
                  refine (last_none HN.out.n2).mono ?_
                  rintro r v22 ⟨rfl, hb⟩
                  have HN' := Lib.hid (HN.out.on hb)
                  have HD1' := Lib.hid ((Odd.of_below hb).same D1 _ HD1.out rfl)
                  have HD2' := Lib.hid ((Odd.of_below hb).same D2 _ HD2.out rfl)
                  clear hb HN HD1 HD2
                  have HN := HN'; have HD1 := HD1'; have HD2 := HD2'
                  clear HN' HD1' HD2'
                  go_wp2_with fail
                  rw [rounds_succ]
                  go_wp2_with fail
                  refine (arawake_any _).mono ?_
                  rintro r wz ⟨rfl, hb⟩
                  have hN := HN.out.on hb
                  have hsz := HSz.out
                  have mW := HM1.out.same (hN.below.block _ HM1.out.lt)
                  have hD1 := (Odd.of_below hb).same D1 _ HD1.out rfl
                  have hD2 := (Odd.of_below hb).same D2 _ HD2.out rfl
                  have hD1s := (Odd.set mW 0 (.bool true)).same D1 _ hD1 rfl
                  have hD2s := (Odd.set mW 0 (.bool true)).same D2 _ hD2 rfl
                  have cr : wz.cell? ⟨w.heap.size, 0, none⟩ = some (.bool false) := mW.cell 0
                  have hfr := mW.frozen 0
                  have cr2 : (wz.setCell ⟨w.heap.size, 0, none⟩ (.bool true)).cell? ⟨w.heap.size, 0, none⟩ = some (.bool true) := (mW.store 0 _).cell 0
                  have hbw : Below w.heap.size w (wz.setCell ⟨w.heap.size, 0, none⟩ (.bool true)) := (HBl.out.trans (hN.below.mono HBl.out.size)).setCell (p := ⟨w.heap.size, 0, none⟩) (Nat.le_refl _) _
                  have HD1s := Lib.hid hD1s; have HD2s := Lib.hid hD2s; have HC2 := Lib.hid cr2; have HBw := Lib.hid hbw
                  clear hN mW hD1 hD2 hD1s hD2s cr2 hbw hb HN HD1 HD2
                  go_wp2_with fail
                  refine ⟨by simp, .inl ⟨_, _, rfl, run_takeDeferred HD2s.out, ?_⟩⟩
                  have hD1t : ((wz.setCell ⟨w.heap.size, 0, none⟩ (.bool true)).putObj D2 (.deferred none)).heap[D1]? = some (.deferred (some [])) := (World.putObj_heap_other (k := D1) (by omega)).trans HD1s.out
                  have hc3 : ((wz.setCell ⟨w.heap.size, 0, none⟩ (.bool true)).putObj D2 (.deferred none)).cell? ⟨w.heap.size, 0, none⟩ = some (.bool true) := (World.cell?_of_block (World.putObj_heap_other (k := w.heap.size) (by omega))).trans HC2.out
                  have hb3 := HBw.out.grown (grownBy_putObj' _ D2 (.deferred none)) HBw.out.size (fun k e => by cases e; omega)
                  refine ⟨by simp, .inl ⟨_, _, rfl, run_takeDeferred hD1t, ?_⟩⟩
                  have hc4 : (((wz.setCell ⟨w.heap.size, 0, none⟩ (.bool true)).putObj D2 (.deferred none)).putObj D1 (.deferred none)).cell? ⟨w.heap.size, 0, none⟩ = some (.bool true) := (World.cell?_of_block (World.putObj_heap_other (k := w.heap.size) (by omega))).trans hc3
                  have hb4 := hb3.grown (grownBy_putObj' _ D1 (.deferred none)) hb3.size (fun k e => by cases e; omega)
                  refine ⟨.bool true, ?_, rfl, hb4⟩
                  simp [results, Try.f4, go_sem, hc4]
end Go.Proofs.Ytjkhhnfmefbohaa.arenaSmall
