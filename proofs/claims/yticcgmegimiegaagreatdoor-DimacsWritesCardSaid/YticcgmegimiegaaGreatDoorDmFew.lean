/- salvorlaw06.few; a formula that comes in: its clauses, none of which is frozen, with their sizes. -/
import Derived.Test.YticcgmegimiegaaGreatDoorDmTheirs
import Derived.Control
import Derived.Deep.RegionHeld3
import Derived.Deep.Slices
import Derived.Deep.Fields
import Derived.Lib.SmallJoins
import Derived.ChangeSame
import Derived.SizedLaws
namespace Go.Proofs.YticcgmegimiegaaGreatDoor
open Go.RowKit Go.ChangeAt Go.ChangeShapes Go.WideShapes Go.Shelf Go.Sort

attribute [local go_sem] Oper.semAt_some

set_option maxRecDepth 100000 in
set_option maxHeartbeats 1000000 in
theorem few06_any {C : Nat} {v : Value} {L : List (List Int)} (vars : Int) (w : World) (hC : C ≤ w.heap.size) (hl : L.length ≤ maxLen) (hz : ∀ zs ∈ L, zs.length ≤ 17592186044416) (hF : Fits v) (hL : RowsL C w v L) :
    Calls Tryz.prog 11 #[.agg #[.int .i64 vars, v]] w fun e w' => e = .returned (.bool (fewF L)) ∧ Below w.heap.size w w' := by
  obtain ⟨A, cap, rfl, hat⟩ := rowsL_shape hL
  have hlc : L.length ≤ cap := hF _ _ _ rfl
  have hsl := sumL_le hz
  obtain ⟨n, hn⟩ : ∃ n, min L.length 101 = n := ⟨_, rfl⟩
  have hn1 : n ≤ L.length := by omega
  have hn2 : n ≤ 101 := by omega
  have hmin : min (L.length : Int) 101 = (n : Int) := by omega
  have hf1 : L.length ≤ 100 → fewF L = decide (sumL (L.take n) ≤ 1000) := fun h => by
    have : n = L.length := by omega
    unfold fewF
    rw [this, List.take_of_length_le (by omega), List.take_length, decide_eq_true h]
    rfl
  have hf2 : ¬ L.length ≤ 100 → fewF L = false := fun h => by
    unfold fewF
    rw [decide_eq_false h]
    rfl
  have h0 := (fo_new w vars (.slice A L.length cap) 24)
  have c1 := h0.2.1
  have hb0 := below1a w (.cells #[.int .i64 vars, .slice A L.length cap] 24)
  obtain ⟨w1, hw1⟩ : ∃ y, w.alloc (.cells #[.int .i64 vars, .slice A L.length cap] 24) = y := ⟨_, rfl⟩
  rw [hw1] at c1 hb0 h0
  have HAt := Lib.hid hat; have HSl := Lib.hid hsl; have HF1 := Lib.hid hf1; have HF2 := Lib.hid hf2; have HB0 := Lib.hid hb0; have HW := Lib.hid hw1; have HLt := Lib.hid h0.2.2
  unfold maxLen at hl
  clear hL hat hsl hn hf1 hf2 hz hF hb0 hw1 h0
  go_enter Tryz.func11, Tryz.ntmps11
  go_wp2_with fail
  rw [HW.out]
  go_wp2_with fail
  go_loopw [3, 14] (fun s i wr => FewF L n w1 s i wr) (fun _ i _ => n - (intOf i).toNat)
  case atStart => exact ⟨0, Nat.zero_le _, by simp [sumL], rfl, Below.refl _ _⟩
  case round =>
    obtain ⟨j, hj, rfl, rfl, hB⟩ := hrel
    have hs := HSl.out j
    have hs1 := HSl.out (j + 1)
    by_cases hlt : j < n
    · obtain ⟨x, hx⟩ : ∃ x, L[j]? = some x := ⟨_, List.getElem?_eq_getElem (by omega)⟩
      obtain ⟨b, off, As, cs, rfl, hb, hc, hI⟩ := HAt.out j x hx
      have hc := ((HB0.out.trans (hB.mono HB0.out.size)).cell (p := ⟨b, off + j, none⟩) (Nat.lt_of_lt_of_le hb hC)).trans hc
      have hsn : sumL (L.take (j + 1)) = sumL (L.take j) + x.length := sumL_take hx
      obtain ⟨u, hu⟩ : ∃ u, sumL (L.take j) = u := ⟨_, rfl⟩
      rw [hu] at hsn hs ⊢
      rw [hsn] at hs1
      have hs2 : u + x.length ≤ 9223372036854775807 := by omega
      have HSn := Lib.hid hsn; have HB2 := Lib.hid hB
      clear hsn hu hx hI hB HAt HSl hs1
      go_wp2_with fail
      refine ⟨⟨j + 1, hlt, by rw [HSn.out]; go_num, by go_num, HB2.out⟩, ?_⟩
      simp [intOf]; omega
    · obtain rfl : j = n := by omega
      have HBf := Lib.hid (HB0.out.trans (hB.mono HB0.out.size))
      have c1 := (hB.cell (p := ⟨w.heap.size, 1, none⟩) HLt.out).trans c1
      obtain ⟨u, hu⟩ : ∃ u, sumL (L.take j) = u := ⟨_, rfl⟩
      by_cases h2 : L.length ≤ 100
      · have HQ := Lib.hid ((HF1.out h2).trans (by rw [hu]))
        rw [hu] at hs ⊢
        clear hB hu HAt HSl hs1 HF1 HF2
        by_cases h3 : u ≤ 1000
        · have hd : decide (u ≤ 1000) = true := decide_eq_true h3
          have HD := Lib.hid hd
          go_wp2_with fail
          go_ret
          exact ⟨ret_bool (by rw [HQ.out, HD.out]; try exact decide_eq_true (by omega)), HBf.out⟩
        · have hd : decide (u ≤ 1000) = false := decide_eq_false h3
          have HD := Lib.hid hd
          go_wp2_with fail
          go_ret
          exact ⟨ret_bool (by rw [HQ.out, HD.out]; try exact decide_eq_false (by omega)), HBf.out⟩
      · have HQ := Lib.hid (HF2.out h2)
        rw [hu] at hs ⊢
        clear hB hu HAt HSl hs1 HF1 HF2
        go_wp2_with fail
        go_ret
        exact ⟨ret_bool (by rw [HQ.out]), HBf.out⟩
end Go.Proofs.YticcgmegimiegaaGreatDoor
namespace Go.Proofs.YticcgmegimiegaaGreatDoor
open Go.ChangeShapes Go.WideShapes Go.ChangeAt Go.RowKit Go.Deep

section
variable {H : Type} {enc : TypeId × Value → H} {P : Program} {W : World} {hd : Bool}
theorem weightsAll_mem5 {P : Program} {e : TypeId} : ∀ {l : List (DataW H)} {d : DataW H}, d ∈ l → ∀ n ∈ d.weights P e, n ∈ DataW.weightsAll P e l
  | x :: l, d, hd, n, hn => by
    simp only [DataW.weightsAll]
    rcases List.mem_cons.1 hd with rfl | hd
    · exact List.mem_append_left _ hn
    · exact List.mem_append_right _ (weightsAll_mem5 hd n hn)
theorem rowv_trod {t e : TypeId} {k : IntKind} {fuel : Nat} {v : Value} {x : DataW H × List MemPlace} (ht : P.underlying t = some (.slice e)) (he : P.underlying e = some (.int k)) (hc : P.cellsOf e = 1)
    (hf : DataW.trod enc P W 0 (fun _ => true) hd fuel t [v] = some x) (hfz : ∀ y ∈ x.2, MemPlace.frozenIn W y = false) :
    ∃ zs : List Int, RowV W.heap.size W v (zs.map (Value.int k)) ∧ ((∀ n ∈ x.1.weights P t, n ≤ reachBytes) → zs.length * P.bytesOf e ≤ reachBytes) := by
  rcases open_ints ht he hc hf with ⟨hcs, -⟩ | ⟨a, len, cap, zs, hcs, -, hl, hm, hz, hx, hcell, -⟩
  · obtain rfl : v = _ := by simpa using hcs
    exact ⟨[], .inl ⟨_, _, rfl, fun _ => rfl, rfl⟩, fun _ => by simp⟩
  · obtain rfl : v = _ := by simpa using hcs
    have hlz : len ≤ zs.length := by rw [hz]; split <;> omega
    have hlt : (zs.take len).length = len := by rw [List.length_take]; omega
    refine ⟨zs.take len, ?_, fun hw => ?_⟩
    rotate_left
    · have := hw (((lits (H := H) k (zs.take len)).length + (lits (H := H) k (zs.drop len)).length) * P.bytesOf e) (by rw [hx]; simp [DataW.weights, ht])
      refine Nat.le_trans (Nat.mul_le_mul_right _ ?_) this
      simp [lits]
    by_cases h0 : len = 0
    · subst h0
      exact .inl ⟨_, _, rfl, (fun e => by cases e), by simp⟩
    · obtain ⟨b, off, sp'⟩ := a
      have h0' := hcell 0 (by omega)
      have hpl : sp' = none := by simpa [Addr.add] using World.cell?_spot h0'
      subst hpl
      have hadd : ∀ j, (⟨b, off, none⟩ : Addr).add j = ⟨b, off + j, none⟩ := fun j => addr_add b off j
      have hb := World.block_lt_of_cell? W _ h0'
      rw [hadd] at hb
      refine .inr ⟨b, off, cap, by rw [List.length_map, hlt], hb, fun j hj => ?_⟩
      rw [List.length_map, hlt] at hj
      refine ⟨?_, ?_⟩
      · rw [← hadd j, hcell j (by omega), List.getElem?_map, List.getElem?_take_of_lt hj, List.getElem?_eq_getElem (by omega)]
        rw [List.getD_eq_getElem?_getD, List.getElem?_eq_getElem (by omega)]
        rfl
      · have hp := congrArg Prod.snd hx
        have := hfz (.cell b (off + j)) (by rw [hp]; exact MemPlace.mem_row.2 ⟨j, by omega, rfl⟩)
        exact this
end
theorem bytesLit5 : Tryz.prog.bytesOf 39 = 8 := by kernel_rfl
theorem rowsl_trod {H : Type} {enc : TypeId × Value → H} {W : World} {hd : Bool} {fuel : Nat} {v : Value} {x : DataW H × List MemPlace} (hf : DataW.trod enc Tryz.prog W 0 (fun _ => true) hd fuel 22 [v] = some x)
    (hfz : ∀ y ∈ x.2, MemPlace.frozenIn W y = false) (hsz : ∀ n ∈ x.1.weights Tryz.prog 22, n ≤ reachBytes) :
    ∃ L : List (List Int), RowsL W.heap.size W v L ∧ L.length ≤ maxLen ∧ Fits v ∧ ∀ zs ∈ L, zs.length ≤ 17592186044416 := by
  rcases open_slice Tryz.underlying22 hf with ⟨hcs, -⟩ | ⟨a, len, cap, m, n, D, Pl, hcs, -, hl, hm, hmm, hx, hi⟩
  · obtain rfl : v = _ := by simpa using hcs
    exact ⟨[], .inl ⟨_, _, rfl, fun _ => rfl, rfl⟩, Nat.zero_le _, (fun A n c e => by cases e; exact Nat.le_refl _), fun zs h => by cases h⟩
  · obtain rfl : v = _ := by simpa using hcs
    have hcE : Tryz.prog.cellsOf 38 = 1 := by kernel_rfl
    simp only [if_true] at hmm
    subst hmm
    rw [hcE] at hx hi
    have hone : ∀ i, i < len → ∃ zs : List Int, ∃ sv, W.cell? (a.add (i * 1)) = some sv ∧ RowV W.heap.size W sv (zs.map (Value.int .i64)) ∧ zs.length ≤ 17592186044416 := fun i hil => by
      obtain ⟨cs', hc, ht'⟩ := hi i (by omega)
      obtain ⟨_, hcl, hat⟩ := World.cells?_some hc
      obtain ⟨sv, rfl⟩ : ∃ sv, cs' = [sv] := List.length_eq_one_iff.1 hcl
      have h0 := hat 0 (by omega)
      obtain ⟨zs, hr, hb⟩ := rowv_trod Tryz.underlying38 Tryz.underlying39 (by kernel_rfl) ht' (fun y hy => hfz y (by
        rw [hx]
        exact List.mem_append_right _ (List.mem_flatMap.2 ⟨i, List.mem_range.2 (by omega), hy⟩)))
      have hb := hb fun n hn => hsz n (by
        rw [hx]
        simp only [DataW.weights, Tryz.underlying22, List.mem_cons, List.mem_append]
        exact .inr (.inl (weightsAll_mem5 (List.mem_map.2 ⟨i, List.mem_range.2 hil, rfl⟩) n hn)))
      rw [bytesLit5] at hb
      refine ⟨zs, sv, ?_, hr, ?_⟩
      · simpa [Addr.add] using h0
      · have : reachBytes = 140737488351232 := rfl
        omega
    obtain ⟨f, hf⟩ := choose_lt (n := len) hone
    refine ⟨(List.range len).map f, ?_, by simp; omega, (fun A n c e => by cases e; exact hl), fun zs hz => ?_⟩
    · by_cases h0 : len = 0
      · subst h0
        exact .inl ⟨_, _, rfl, (fun e => by cases e), rfl⟩
      · obtain ⟨b, off, sp⟩ := a
        obtain ⟨sv0, c0, -⟩ := hf 0 (by omega)
        have hpl : sp = none := by simpa [Addr.add] using World.cell?_spot c0
        subst hpl
        have hadd : ∀ j, (⟨b, off, none⟩ : Addr).add j = ⟨b, off + j, none⟩ := fun j => addr_add b off j
        have hb := World.block_lt_of_cell? W _ c0
        rw [hadd] at hb
        refine .inr ⟨b, off, m, by simp, hb, fun j xs hj => ?_⟩
        have hj' : j < len := by simpa using (List.getElem?_eq_some_iff.1 hj).1
        obtain rfl : (f j).map (Value.int .i64) = xs := by
          have := (List.getElem?_eq_some_iff.1 hj).2
          simpa using this
        obtain ⟨sv, c0, hr, -⟩ := hf j (by omega)
        rw [hadd, Nat.mul_one] at c0
        refine ⟨sv, c0, ?_, hr⟩
        have hp := congrArg Prod.snd hx
        exact hfz (.cell b (off + j)) (by rw [hp]; exact List.mem_append_left _ (MemPlace.mem_row.2 ⟨j, by omega, rfl⟩))
    · obtain ⟨j, hj, rfl⟩ := List.mem_map.1 hz
      exact (hf j (List.mem_range.1 hj)).choose_spec.2.2
end Go.Proofs.YticcgmegimiegaaGreatDoor
