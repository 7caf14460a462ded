/- The arena's methods that only read. -/
import Derived.Test.YtjkhhnfmefbohaaArMem
import Derived.Test.YtjkhhnfmefbohaaAppend2
import Derived.Test.YtjkhhnfmefbohaaConv
import Derived.Deep.QuietTactic
import Derived.BigQuiet
import Derived.IntWalk
namespace Go.Proofs.Ytjkhhnfmefbohaa
open Go.RowKit Go.ChangeAt Go.ChangeShapes Go.WideShapes

theorem int_wf {i : Int} (h : -9223372036854775808 ≤ i ∧ i ≤ 9223372036854775807) : (Lit.int .i64 i).wf = true := by simp only [Lit.wf]; exact WalkArith.wf_i64 h
def isOn (es : List Ent) (id : Int) : Bool := es.any fun e => e.on && decide (e.id = id)
set_option maxHeartbeats 1000000 in
theorem find_no {K : Nat → Prop} {g : Nat} {es : List Ent} {last : Int} (id : Int) (hw : (Lit.int .i64 id).wf = true) (w : World) (h : Arena K w g es last) (hno : isOn es id = false) : Calls Try.prog 37 #[.pointer (some ⟨g, 0, none⟩), .int .i64 id] w fun r w' =>
    r = .returned (.tuple #[.agg #[.int .i64 0, .int .i64 0, .int .i64 0], .int .i64 30]) ∧ Below w.heap.size w w' := by
  have HA := Lib.hid h
  obtain ⟨sv, ev, m, n, D, ⟨hc0, hc1, hc2, hc3, hc4⟩, hfz, hlt, hs, he, hm, hn, hi⟩ := h.cells
  have hkey := keyI id hw
  have hhas : Maps.has D (li id) = false := by rw [hi.has]; exact hno
  have HM := Lib.hid hm; have HKey := Lib.hid hkey; have HH := Lib.hid hhas
  clear h hm hkey hhas hs he hi hw hno
  go_enter Try.func37, Try.ntmps37
  go_wp2_with (first
    | (go_at_call 35; refine (exists_yes _ (HA.out.on (below1a _ _))).mono ?_; rintro e w' ⟨rfl, rfl⟩)
    | (at_lookup; refine wpList_lookup_own_ok_int _ rfl _ _ 38 rfl 3 3 .i64 (Maps.int_keyed Try.underlying3) Try.underlying38 Try.underlying3 (zeroInt _) m n D rfl (HM.out.alloc _) _ _ rfl HKey.out ?_; intro c hcat hwc; rw [HH.out]; clear hcat hwc))
  exact bodyPost_ret (v := .tuple #[.agg #[.int .i64 0, .int .i64 0, .int .i64 0], .int .i64 30]) (by simp [results, Try.results37, go_sem]) rfl ⟨rfl, (Below.refl _ _).alloc (Nat.le_refl _) _⟩

set_option maxHeartbeats 400000 in
theorem has_yes {K : Nat → Prop} {g : Nat} {es : List Ent} {last : Int} {k : Nat} {e : Ent} (w : World) (h : Arena K w g es last) (hk : es[k]? = some e) (ho : e.on = true) : Calls Try.prog 21 #[.pointer (some ⟨g, 0, none⟩), .int .i64 e.id] w fun r w' =>
    r = .returned (.bool true) ∧ Below w.heap.size w w' := by
  have hf := find_yes w h hk ho
  have HF := Lib.hid hf; clear hf h hk ho
  obtain ⟨id, hID⟩ : ∃ i, e.id = i := ⟨_, rfl⟩
  rw [hID] at HF ⊢
  clear hID
  go_enter Try.func21, Try.ntmps21
  go_wp2_with (go_at_call 37; refine (HF.out).mono ?_; rintro e w1 ⟨rfl, hB⟩)
  go_ret
  exact ⟨rfl, hB.alloc hB.size _⟩
set_option maxHeartbeats 400000 in
theorem has_no {K : Nat → Prop} {g : Nat} {es : List Ent} {last : Int} (id : Int) (hw : (Lit.int .i64 id).wf = true) (w : World) (h : Arena K w g es last) (hno : isOn es id = false) : Calls Try.prog 21 #[.pointer (some ⟨g, 0, none⟩), .int .i64 id] w fun r w' =>
    r = .returned (.bool false) ∧ Below w.heap.size w w' := by
  have hf := find_no id hw w h hno
  have HF := Lib.hid hf; clear hf h hno hw
  go_enter Try.func21, Try.ntmps21
  go_wp2_with (go_at_call 37; refine (HF.out).mono ?_; rintro e w1 ⟨rfl, hB⟩)
  go_ret
  exact ⟨rfl, hB.alloc hB.size _⟩
set_option maxHeartbeats 400000 in
theorem len_yes {K : Nat → Prop} {g : Nat} {es : List Ent} {last : Int} {k : Nat} {e : Ent} (w : World) (h : Arena K w g es last) (hk : es[k]? = some e) (ho : e.on = true) : Calls Try.prog 18 #[.pointer (some ⟨g, 0, none⟩), .int .i64 e.id] w fun r w' =>
    r = .returned (.tuple #[.int .i64 (e.ls.length : Nat), .int .i64 0]) ∧ Below w.heap.size w w' := by
  have hf := find_yes w h hk ho
  have HF := Lib.hid hf; clear hf h hk ho
  obtain ⟨id, hID⟩ : ∃ i, e.id = i := ⟨_, rfl⟩
  obtain ⟨ln, hLn⟩ : ∃ i, e.ls.length = i := ⟨_, rfl⟩
  rw [hID] at HF ⊢
  rw [hLn] at HF ⊢
  clear hID hLn
  go_enter Try.func18, Try.ntmps18
  go_wp2_with (go_at_call 37; refine (HF.out).mono ?_; rintro e w1 ⟨rfl, hB⟩)
  go_ret2
  exact ⟨rfl, hB.alloc hB.size _⟩
set_option maxHeartbeats 400000 in
theorem len_no {K : Nat → Prop} {g : Nat} {es : List Ent} {last : Int} (id : Int) (hw : (Lit.int .i64 id).wf = true) (w : World) (h : Arena K w g es last) (hno : isOn es id = false) : Calls Try.prog 18 #[.pointer (some ⟨g, 0, none⟩), .int .i64 id] w fun r w' =>
    r = .returned (.tuple #[.int .i64 0, .int .i64 30]) ∧ Below w.heap.size w w' := by
  have hf := find_no id hw w h hno
  have HF := Lib.hid hf; clear hf h hno hw
  go_enter Try.func18, Try.ntmps18
  go_wp2_with (go_at_call 37; refine (HF.out).mono ?_; rintro e w1 ⟨rfl, hB⟩)
  go_ret2
  exact ⟨rfl, hB.alloc hB.size _⟩

/-- The literals of an entry, in the store. -/
theorem st_cells {w : World} {sv : Value} {es : List Ent} {k : Nat} {e : Ent} (h : w.ownsRow 0 30 1 sv (stO es).length ((stO es).map (Value.int .i64))) (hk : es[k]? = some e) :
    (sv = .slice none 0 0 ∧ offE es k = 0 ∧ e.ls = []) ∨ ∃ b n cap, sv = .slice (some ⟨b, 0, none⟩) n cap ∧ b < w.heap.size ∧ offE es k + e.ls.length ≤ n ∧ n = (stO es).length ∧ n ≤ cap ∧ cap ≤ maxLen ∧ ∀ j, j < e.ls.length → w.cell? ⟨b, offE es k + j, none⟩ = some (.int .i64 (e.ls[j]?.getD 0)) := by
  obtain ⟨hs, hle⟩ := stO_at hk
  have hb := fun b => h.cells (g := b)
  rcases h.2 with ⟨rfl, h0⟩ | ⟨b, cap, cur, rfl, -, hg, hn, hm, -⟩
  · exact .inl ⟨rfl, by omega, List.eq_nil_of_length_eq_zero (by omega)⟩
  · refine .inr ⟨b, _, cap, rfl, (Array.getElem?_eq_some_iff.1 hg).1, hle, rfl, hn, hm, fun j hj => ?_⟩
    have hx : (stO es)[offE es k + j]? = e.ls[j]? := by
      conv => rhs; rw [← hs]
      rw [List.getElem?_take_of_lt hj, List.getElem?_drop]
    have := hb b rfl (offE es k + j) (.int .i64 (e.ls[j]?.getD 0)) (by rw [List.getElem?_map, hx, List.getElem?_eq_getElem hj]; rfl)
    rwa [addr_add, Nat.zero_add] at this
set_option maxHeartbeats 1000000 in
theorem literals_any {K : Nat → Prop} {g : Nat} {es : List Ent} {last : Int} {k : Nat} {e : Ent} (id : Int) (w : World) (h : Arena K w g es last) (hk : es[k]? = some e) : Calls Try.prog 42 #[.pointer (some ⟨g, 0, none⟩), .agg #[.int .i64 id, .int .i64 (offE es k : Nat), .int .i64 (e.ls.length : Nat)]] w fun r w' =>
    ∃ v, r = .returned v ∧ Ints w.heap.size w' v e.ls ∧ Below w.heap.size w w' := by
  have hgd := h.good.st_le
  obtain ⟨sv, ev, m, n, D, ⟨hc0, hc1, hc2, hc3, hc4⟩, hfz, hlt, hs, he, hm, hn, hi⟩ := h.cells
  obtain ⟨-, hle⟩ := stO_at hk
  rcases st_cells hs hk with ⟨rfl, h0, h1⟩ | ⟨b, nn, cap, rfl, hb, hbn, hnn, hcap, hmx, hcell⟩
  · rw [h0, h1]
    clear h hs he hm hi hk hle h0
    go_enter Try.func42, Try.ntmps42
    go_wp2
    go_quiet (fail)
    go_wp2
    go_ret
    exact ⟨_, rfl, .inl ⟨none, 0, rfl, fun _ => rfl, rfl⟩, below_drewN (below1a _ _) _⟩
  · rw [← hnn] at hle hgd
    have HC := Lib.hid hcell
    clear h hs he hm hi hk hnn hcell
    unfold maxLen at hmx
    obtain ⟨of, hOf⟩ : ∃ i, offE es k = i := ⟨_, rfl⟩
    obtain ⟨ln, hLn⟩ : ∃ i, e.ls.length = i := ⟨_, rfl⟩
    have HLn := Lib.hid hLn
    rw [hOf, hLn] at hle hbn ⊢
    rw [hOf, hLn] at HC
    clear hOf hLn hbn
    by_cases hof : cap = of
    · obtain rfl : ln = 0 := by omega
      subst hof
      have s1 : IntKind.i64.wrap ((cap : Int) + 0) = cap := by rw [Int.add_zero]; exact IntWalk.i64_in _ (by omega)
      have s2 : IntKind.i64.wrap (cap : Int) = cap := IntWalk.i64_in _ (by omega)
      go_enter Try.func42, Try.ntmps42
      go_wp2
      go_quiet (fail)
      go_wp2
      go_ret
      exact ⟨_, rfl, .inl ⟨_, _, rfl, (fun e => by cases e), List.eq_nil_of_length_eq_zero HLn.out⟩, below_drewN (below1a _ _) _⟩
    · have s1 : IntKind.i64.wrap ((of : Int) + (ln : Int)) = (of : Int) + (ln : Int) := IntWalk.i64_in _ (by omega)
      have s2 : (0 : Int) ≤ (of : Int) + (ln : Int) := by omega
      have s3 : ((of : Int) + (ln : Int)).toNat = of + ln := by omega
      have s4 : (of : Int) ≤ (of : Int) + (ln : Int) := by omega
      have s5 : (of : Int) + (ln : Int) ≤ (cap : Int) := by omega
      have s6 : ¬ cap - of = 0 := by omega
      go_enter Try.func42, Try.ntmps42
      go_wp2
      go_quiet (fail)
      go_wp2
      go_ret
      exact ⟨_, rfl, .inr ⟨b, of, cap - of, by show Value.slice _ _ _ = _; rw [HLn.out], hb, fun j hj => ((below_drewN (below1a _ _) _).cell (p := ⟨b, of + j, none⟩) hb).trans (HC.out j (by rw [← HLn.out]; exact hj))⟩, below_drewN (below1a _ _) _⟩

set_option maxHeartbeats 400000 in
theorem fresh_any (B : Nat) (v : Value) (xs : List Int) (hx : xs.length ≤ 2000000) (w : World) (hI : Ints B w v xs) : Calls Try.prog 41 #[v] w (GivesE 30 w xs) := by
  obtain ⟨i0, hi, hz0, hz1, hz2⟩ := info_parts infoLit
  have HI := Lib.hid hI; clear hI
  go_enter Try.func41, Try.ntmps41
  go_wp2_with (at_builtin; refine wpList_append_ints rfl _ _ 29 rfl w.heap.size 30 i0 (.int .i64 0) 8 Try.underlying29 hi hz0 hz1 hz2 rfl _ 0 [] rfl (World.ownsRow_nil _ _ _ _) .i64 B v xs rfl HI.out (by unfold maxLen; omega) (by omega) (Nat.le_refl _) ?_; intro v' w' hown hbl; rw [Nat.zero_add, List.nil_append] at hown)
  go_ret
  exact ⟨v', rfl, hown, hbl⟩

set_option maxHeartbeats 400000 in
theorem get_yes {K : Nat → Prop} {g : Nat} {es : List Ent} {last : Int} {k : Nat} {e : Ent} (w : World) (h : Arena K w g es last) (hk : es[k]? = some e) (ho : e.on = true) : Calls Try.prog 17 #[.pointer (some ⟨g, 0, none⟩), .int .i64 e.id] w fun r w' =>
    ∃ v, r = .returned (.tuple #[v, .int .i64 0]) ∧ w'.ownsRow w.heap.size 30 1 v e.ls.length (e.ls.map (Value.int .i64)) ∧ Below w.heap.size w w' := by
  have hf := find_yes w h hk ho
  have hll : e.ls.length ≤ 2000000 := by have := h.good.ls_le hk ho; omega
  have HA := Lib.hid h; have HK := Lib.hid hk
  have HF := Lib.hid hf; clear hf h hk ho
  have hL := fun (W : World) (hA : Arena K W g es last) => literals_any e.id W hA HK.out
  have HL := Lib.hid hL; clear hL
  obtain ⟨id, hID⟩ : ∃ i, e.id = i := ⟨_, rfl⟩
  obtain ⟨of, hOf⟩ : ∃ i, offE es k = i := ⟨_, rfl⟩
  obtain ⟨ln, hLn⟩ : ∃ i, e.ls.length = i := ⟨_, rfl⟩
  rw [hID, hOf, hLn] at HF
  rw [hID, hOf, hLn] at HL
  rw [hID]
  clear hID hOf
  have HLn := Lib.hid hLn; clear hLn
  go_enter Try.func17, Try.ntmps17
  go_wp2_with (first
    | (go_at_call 37; refine (HF.out).mono ?_; rintro r w1 ⟨rfl, hB⟩)
    | (go_at_call 42; refine (HL.out _ (HA.out.on (hB.alloc hB.size _))).mono ?_; rintro r w2 ⟨v2, rfl, hI2, hB2⟩)
    | (go_at_call 41; refine (fresh_any _ _ e.ls hll _ hI2).mono ?_; rintro r w3 ⟨v3, rfl, hr3, hB3⟩))
  go_ret2
  have hb2 := (hB.alloc hB.size (.cells #[.int .i64 id, .int .i64 (of : Nat), .int .i64 (ln : Nat)] 77)).trans (hB2.mono (by simp; have := hB.size; omega))
  exact ⟨v3, rfl, owns_mono hr3 hb2.size, hb2.trans (hB3.mono hb2.size)⟩
set_option maxHeartbeats 400000 in
theorem get_no {K : Nat → Prop} {g : Nat} {es : List Ent} {last : Int} (id : Int) (hw : (Lit.int .i64 id).wf = true) (w : World) (h : Arena K w g es last) (hno : isOn es id = false) : Calls Try.prog 17 #[.pointer (some ⟨g, 0, none⟩), .int .i64 id] w fun r w' =>
    r = .returned (.tuple #[.slice none 0 0, .int .i64 30]) ∧ Below w.heap.size w w' := by
  have hf := find_no id hw w h hno
  have HF := Lib.hid hf; clear hf h hno hw
  go_enter Try.func17, Try.ntmps17
  go_wp2_with (go_at_call 37; refine (HF.out).mono ?_; rintro e w1 ⟨rfl, hB⟩)
  go_ret2
  exact ⟨rfl, hB.alloc hB.size _⟩

set_option maxHeartbeats 400000 in
theorem lit_no {K : Nat → Prop} {g : Nat} {es : List Ent} {last : Int} (id i : Int) (hw : (Lit.int .i64 id).wf = true) (w : World) (h : Arena K w g es last) (hno : isOn es id = false) : Calls Try.prog 19 #[.pointer (some ⟨g, 0, none⟩), .int .i64 id, .int .i64 i] w fun r w' =>
    r = .returned (.tuple #[.int .i64 0, .int .i64 30]) ∧ Below w.heap.size w w' := by
  have hf := find_no id hw w h hno
  have HF := Lib.hid hf; clear hf h hno hw
  go_enter Try.func19, Try.ntmps19
  go_wp2_with (go_at_call 37; refine (HF.out).mono ?_; rintro e w1 ⟨rfl, hB⟩)
  go_ret2
  exact ⟨rfl, hB.alloc hB.size _⟩
set_option maxHeartbeats 400000 in
theorem lit_out {K : Nat → Prop} {g : Nat} {es : List Ent} {last : Int} {k : Nat} {e : Ent} (i : Int) (hi : i < 0 ∨ (e.ls.length : Int) ≤ i) (w : World) (h : Arena K w g es last) (hk : es[k]? = some e) (ho : e.on = true) : Calls Try.prog 19 #[.pointer (some ⟨g, 0, none⟩), .int .i64 e.id, .int .i64 i] w fun r w' =>
    r = .returned (.tuple #[.int .i64 0, .int .i64 2]) ∧ Below w.heap.size w w' := by
  have hf := find_yes w h hk ho
  have HF := Lib.hid hf; clear hf h hk ho
  obtain ⟨id, hID⟩ : ∃ i, e.id = i := ⟨_, rfl⟩
  obtain ⟨ln, hLn⟩ : ∃ i, e.ls.length = i := ⟨_, rfl⟩
  rw [hID] at HF ⊢
  rw [hLn] at HF hi
  clear hID hLn
  by_cases h0 : i < 0
  · clear hi
    go_enter Try.func19, Try.ntmps19
    go_wp2_with (go_at_call 37; refine (HF.out).mono ?_; rintro e w1 ⟨rfl, hB⟩)
    go_ret2
    exact ⟨rfl, hB.alloc hB.size _⟩
  · have h1 : (ln : Int) ≤ i := by omega
    clear hi
    go_enter Try.func19, Try.ntmps19
    go_wp2_with (go_at_call 37; refine (HF.out).mono ?_; rintro e w1 ⟨rfl, hB⟩)
    go_ret2
    exact ⟨rfl, hB.alloc hB.size _⟩
set_option maxHeartbeats 1000000 in
theorem lit_yes {K : Nat → Prop} {g : Nat} {es : List Ent} {last : Int} {k : Nat} {e : Ent} (j : Nat) (hj : j < e.ls.length) (w : World) (h : Arena K w g es last) (hk : es[k]? = some e) (ho : e.on = true) : Calls Try.prog 19 #[.pointer (some ⟨g, 0, none⟩), .int .i64 e.id, .int .i64 (j : Nat)] w fun r w' =>
    r = .returned (.tuple #[.int .i64 (e.ls[j]?.getD 0), .int .i64 0]) ∧ Below w.heap.size w w' := by
  have hf := find_yes w h hk ho
  have hgd := h.good.st_le
  obtain ⟨sv, ev, m, n, D, ⟨hc0, -, -, -, -⟩, -, hlt, hs, -, -, -, -⟩ := h.cells
  rcases st_cells hs hk with ⟨rfl, h0, h1⟩ | ⟨b, nn, cap, rfl, hb, hbn, hnn, hcap, hmx, hcell⟩
  · rw [h1] at hj; exact absurd hj (Nat.not_lt_zero _)
  · have hcj := hcell j hj
    rw [← hnn] at hgd
    obtain ⟨x, hX⟩ : ∃ x, e.ls[j]?.getD 0 = x := ⟨_, rfl⟩
    rw [hX] at hcj ⊢
    have HF := Lib.hid hf; clear hf h hk ho hs hcell hnn hX
    obtain ⟨id, hID⟩ : ∃ i, e.id = i := ⟨_, rfl⟩
    obtain ⟨of, hOf⟩ : ∃ i, offE es k = i := ⟨_, rfl⟩
    obtain ⟨ln, hLn⟩ : ∃ i, e.ls.length = i := ⟨_, rfl⟩
    rw [hID, hOf, hLn] at HF
    rw [hID]
    rw [hLn] at hj hbn
    rw [hOf] at hbn hcj
    clear hID hLn hOf
    have s1 : IntKind.i64.wrap ((of : Int) + (j : Int)) = (of : Int) + (j : Int) := IntWalk.i64_in _ (by omega)
    have s2 : (0 : Int) ≤ (of : Int) + (j : Int) := by omega
    have s3 : ((of : Int) + (j : Int)).toNat = of + j := by omega
    have s4 : (of : Int) + (j : Int) < (nn : Int) := by omega
    go_enter Try.func19, Try.ntmps19
    go_wp2_with (go_at_call 37; refine (HF.out).mono ?_; rintro e w1 ⟨rfl, hB⟩; have hc0 := (hB.cell (p := ⟨g, 0, none⟩) hlt).trans hc0; have hcj := (hB.cell (p := ⟨b, of + j, none⟩) hb).trans hcj; have hlt1 := Nat.lt_of_lt_of_le hlt hB.size; have hb1 := Nat.lt_of_lt_of_le hb hB.size)
    go_quiet (fail)
    go_wp2
    go_ret2
    exact ⟨rfl, below_drewN (hB.alloc hB.size _) _⟩

set_option maxHeartbeats 400000 in
theorem orEmpty_yes {K : Nat → Prop} {g : Nat} {es : List Ent} {last : Int} (w : World) (h : Arena K w g es last) : Calls Try.prog 40 #[.pointer (some ⟨g, 0, none⟩)] w fun e w' => e = .returned (.pointer (some ⟨g, 0, none⟩)) ∧ w = w' := by
  have HA := Lib.hid h; clear h
  go_enter Try.func40, Try.ntmps40
  go_wp2_with (go_at_call 35; refine (exists_yes _ HA.out).mono ?_; rintro e w' ⟨rfl, rfl⟩)
  go_ret
  exact ⟨rfl, rfl⟩
set_option maxHeartbeats 400000 in
theorem count_any {K : Nat → Prop} {g : Nat} {es : List Ent} {last : Int} (w : World) (h : Arena K w g es last) : Calls Try.prog 22 #[.pointer (some ⟨g, 0, none⟩)] w fun e w' => e = .returned (.int .i64 ((clO es).length : Nat)) ∧ w = w' := by
  have HA := Lib.hid h
  obtain ⟨sv, ev, m, n, D, ⟨-, -, hc2, -, -⟩, -, -, -, -, hm, hn, hi⟩ := h.cells
  have hsz := hi.size
  have HS := Lib.hid hsz; have HM := Lib.hid hm; clear h hm hi hsz
  go_enter Try.func22, Try.ntmps22
  go_wp2_with (first
    | (go_at_call 40; refine (orEmpty_yes _ HA.out).mono ?_; rintro e w' ⟨rfl, rfl⟩)
    | (at_len; refine wpList_len_own _ rfl _ 38 rfl 3 3 Try.underlying38 _ m n D rfl HM.out ?_; rw [HS.out]))
  go_ret
  exact ⟨rfl, rfl⟩
set_option maxHeartbeats 400000 in
theorem used_any {K : Nat → Prop} {g : Nat} {es : List Ent} {last : Int} (w : World) (h : Arena K w g es last) : Calls Try.prog 16 #[.pointer (some ⟨g, 0, none⟩)] w fun e w' => e = .returned (.int .i64 (sumL (clO es) : Nat)) ∧ w = w' := by
  have HA := Lib.hid h
  obtain ⟨sv, ev, m, n, D, ⟨-, -, -, hc3, -⟩, -⟩ := h.cells
  clear h
  go_enter Try.func16, Try.ntmps16
  go_wp2_with (go_at_call 40; refine (orEmpty_yes _ HA.out).mono ?_; rintro e w' ⟨rfl, rfl⟩)
  go_ret
  exact ⟨rfl, rfl⟩
set_option maxHeartbeats 400000 in
theorem last_any {K : Nat → Prop} {g : Nat} {es : List Ent} {last : Int} (w : World) (h : Arena K w g es last) : Calls Try.prog 24 #[.pointer (some ⟨g, 0, none⟩)] w fun e w' => e = .returned (.int .i64 last) ∧ w = w' := by
  have HA := Lib.hid h
  obtain ⟨sv, ev, m, n, D, ⟨-, -, -, -, hc4⟩, -⟩ := h.cells
  clear h
  go_enter Try.func24, Try.ntmps24
  go_wp2_with (go_at_call 40; refine (orEmpty_yes _ HA.out).mono ?_; rintro e w' ⟨rfl, rfl⟩)
  go_ret
  exact ⟨rfl, rfl⟩
set_option maxHeartbeats 400000 in
theorem held_any {K : Nat → Prop} {g : Nat} {es : List Ent} {last : Int} (w : World) (h : Arena K w g es last) : Calls Try.prog 23 #[.pointer (some ⟨g, 0, none⟩)] w fun e w' => e = .returned (.int .i64 ((stO es).length : Nat)) ∧ w = w' := by
  have HA := Lib.hid h
  obtain ⟨sv, ev, m, n, D, ⟨hc0, -, -, -, -⟩, -, -, hs, -⟩ := h.cells
  obtain ⟨A, c, rfl⟩ := own_shape0 hs
  clear h hs
  go_enter Try.func23, Try.ntmps23
  go_wp2_with (go_at_call 40; refine (orEmpty_yes _ HA.out).mono ?_; rintro e w' ⟨rfl, rfl⟩)
  go_ret
  exact ⟨rfl, rfl⟩
end Go.Proofs.Ytjkhhnfmefbohaa
