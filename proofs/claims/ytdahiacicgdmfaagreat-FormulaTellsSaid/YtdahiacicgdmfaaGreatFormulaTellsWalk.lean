/- A formula that comes in: its clauses, none of which is frozen, with their sizes. -/
/- The law FormulaTells: its walk. -/
import Derived.Test.YtdahiacicgdmfaaGreatFoTl
import Derived.Deep.Slices
import Derived.Deep.Fields
import Derived.Lib.SmallJoins
import Derived.ChangeSame
import Derived.SizedLaws
import Derived.Test.YtdahiacicgdmfaaGreatFoTells
namespace Go.Proofs.YtdahiacicgdmfaaGreat
open Go.ChangeShapes Go.WideShapes Go.ChangeAt Go.RowKit Go.Deep

section
variable {H : Type} {enc : TypeId × Value → H} {P : Program} {W : World} {hd : Bool}
theorem weightsAll_mem5 {P : Program} {e : TypeId} : ∀ {l : List (DataW H)} {d : DataW H}, d ∈ l → ∀ n ∈ d.weights P e, n ∈ DataW.weightsAll P e l
  | x :: l, d, hd, n, hn => by
    simp only [DataW.weightsAll]
    rcases List.mem_cons.1 hd with rfl | hd
    · exact List.mem_append_left _ hn
    · exact List.mem_append_right _ (weightsAll_mem5 hd n hn)
theorem rowv_trod {t e : TypeId} {k : IntKind} {fuel : Nat} {v : Value} {x : DataW H × List MemPlace} (ht : P.underlying t = some (.slice e)) (he : P.underlying e = some (.int k)) (hc : P.cellsOf e = 1)
    (hf : DataW.trod enc P W 0 (fun _ => true) hd fuel t [v] = some x) (hfz : ∀ y ∈ x.2, MemPlace.frozenIn W y = false) :
    ∃ zs : List Int, RowV W.heap.size W v (zs.map (Value.int k)) ∧ ((∀ n ∈ x.1.weights P t, n ≤ reachBytes) → zs.length * P.bytesOf e ≤ reachBytes) := by
  rcases open_ints ht he hc hf with ⟨hcs, -⟩ | ⟨a, len, cap, zs, hcs, -, hl, hm, hz, hx, hcell, -⟩
  · obtain rfl : v = _ := by simpa using hcs
    exact ⟨[], .inl ⟨_, _, rfl, fun _ => rfl, rfl⟩, fun _ => by simp⟩
  · obtain rfl : v = _ := by simpa using hcs
    have hlz : len ≤ zs.length := by rw [hz]; split <;> omega
    have hlt : (zs.take len).length = len := by rw [List.length_take]; omega
    refine ⟨zs.take len, ?_, fun hw => ?_⟩
    rotate_left
    · have := hw (((lits (H := H) k (zs.take len)).length + (lits (H := H) k (zs.drop len)).length) * P.bytesOf e) (by rw [hx]; simp [DataW.weights, ht])
      refine Nat.le_trans (Nat.mul_le_mul_right _ ?_) this
      simp [lits]
    by_cases h0 : len = 0
    · subst h0
      exact .inl ⟨_, _, rfl, (fun e => by cases e), by simp⟩
    · obtain ⟨b, off, sp'⟩ := a
      have h0' := hcell 0 (by omega)
      have hpl : sp' = none := by simpa [Addr.add] using World.cell?_spot h0'
      subst hpl
      have hadd : ∀ j, (⟨b, off, none⟩ : Addr).add j = ⟨b, off + j, none⟩ := fun j => addr_add b off j
      have hb := World.block_lt_of_cell? W _ h0'
      rw [hadd] at hb
      refine .inr ⟨b, off, cap, by rw [List.length_map, hlt], hb, fun j hj => ?_⟩
      rw [List.length_map, hlt] at hj
      refine ⟨?_, ?_⟩
      · rw [← hadd j, hcell j (by omega), List.getElem?_map, List.getElem?_take_of_lt hj, List.getElem?_eq_getElem (by omega)]
        rw [List.getD_eq_getElem?_getD, List.getElem?_eq_getElem (by omega)]
        rfl
      · have hp := congrArg Prod.snd hx
        have := hfz (.cell b (off + j)) (by rw [hp]; exact MemPlace.mem_row.2 ⟨j, by omega, rfl⟩)
        exact this
end
theorem bytesLit5 : Tryz.prog.bytesOf 37 = 8 := by kernel_rfl
theorem rowsl_trod {H : Type} {enc : TypeId × Value → H} {W : World} {hd : Bool} {fuel : Nat} {v : Value} {x : DataW H × List MemPlace} (hf : DataW.trod enc Tryz.prog W 0 (fun _ => true) hd fuel 22 [v] = some x)
    (hfz : ∀ y ∈ x.2, MemPlace.frozenIn W y = false) (hsz : ∀ n ∈ x.1.weights Tryz.prog 22, n ≤ reachBytes) :
    ∃ L : List (List Int), RowsL W.heap.size W v L ∧ L.length ≤ maxLen ∧ Fits v ∧ ∀ zs ∈ L, zs.length ≤ 17592186044416 := by
  rcases open_slice Tryz.underlying22 hf with ⟨hcs, -⟩ | ⟨a, len, cap, m, n, D, Pl, hcs, -, hl, hm, hmm, hx, hi⟩
  · obtain rfl : v = _ := by simpa using hcs
    exact ⟨[], .inl ⟨_, _, rfl, fun _ => rfl, rfl⟩, Nat.zero_le _, (fun A n c e => by cases e; exact Nat.le_refl _), fun zs h => by cases h⟩
  · obtain rfl : v = _ := by simpa using hcs
    have hcE : Tryz.prog.cellsOf 39 = 1 := by kernel_rfl
    simp only [if_true] at hmm
    subst hmm
    rw [hcE] at hx hi
    have hone : ∀ i, i < len → ∃ zs : List Int, ∃ sv, W.cell? (a.add (i * 1)) = some sv ∧ RowV W.heap.size W sv (zs.map (Value.int .i64)) ∧ zs.length ≤ 17592186044416 := fun i hil => by
      obtain ⟨cs', hc, ht'⟩ := hi i (by omega)
      obtain ⟨_, hcl, hat⟩ := World.cells?_some hc
      obtain ⟨sv, rfl⟩ : ∃ sv, cs' = [sv] := List.length_eq_one_iff.1 hcl
      have h0 := hat 0 (by omega)
      obtain ⟨zs, hr, hb⟩ := rowv_trod Tryz.underlying39 Tryz.underlying37 (by kernel_rfl) ht' (fun y hy => hfz y (by
        rw [hx]
        exact List.mem_append_right _ (List.mem_flatMap.2 ⟨i, List.mem_range.2 (by omega), hy⟩)))
      have hb := hb fun n hn => hsz n (by
        rw [hx]
        simp only [DataW.weights, Tryz.underlying22, List.mem_cons, List.mem_append]
        exact .inr (.inl (weightsAll_mem5 (List.mem_map.2 ⟨i, List.mem_range.2 hil, rfl⟩) n hn)))
      rw [bytesLit5] at hb
      refine ⟨zs, sv, ?_, hr, ?_⟩
      · simpa [Addr.add] using h0
      · have : reachBytes = 140737488351232 := rfl
        omega
    obtain ⟨f, hf⟩ := choose_lt (n := len) hone
    refine ⟨(List.range len).map f, ?_, by simp; omega, (fun A n c e => by cases e; exact hl), fun zs hz => ?_⟩
    · by_cases h0 : len = 0
      · subst h0
        exact .inl ⟨_, _, rfl, (fun e => by cases e), rfl⟩
      · obtain ⟨b, off, sp⟩ := a
        obtain ⟨sv0, c0, -⟩ := hf 0 (by omega)
        have hpl : sp = none := by simpa [Addr.add] using World.cell?_spot c0
        subst hpl
        have hadd : ∀ j, (⟨b, off, none⟩ : Addr).add j = ⟨b, off + j, none⟩ := fun j => addr_add b off j
        have hb := World.block_lt_of_cell? W _ c0
        rw [hadd] at hb
        refine .inr ⟨b, off, m, by simp, hb, fun j xs hj => ?_⟩
        have hj' : j < len := by simpa using (List.getElem?_eq_some_iff.1 hj).1
        obtain rfl : (f j).map (Value.int .i64) = xs := by
          have := (List.getElem?_eq_some_iff.1 hj).2
          simpa using this
        obtain ⟨sv, c0, hr, -⟩ := hf j (by omega)
        rw [hadd, Nat.mul_one] at c0
        refine ⟨sv, c0, ?_, hr⟩
        have hp := congrArg Prod.snd hx
        exact hfz (.cell b (off + j)) (by rw [hp]; exact List.mem_append_left _ (MemPlace.mem_row.2 ⟨j, by omega, rfl⟩))
    · obtain ⟨j, hj, rfl⟩ := List.mem_map.1 hz
      exact (hf j (List.mem_range.1 hj)).choose_spec.2.2
end Go.Proofs.YtdahiacicgdmfaaGreat
namespace Go.Proofs.YtdahiacicgdmfaaGreat.formulaTells
open Go.RowKit Go.ChangeAt Go.ChangeShapes Go.WideShapes Go.Shelf Go.Sort

set_option maxRecDepth 100000 in
set_option maxHeartbeats 4000000 in
theorem formulaTells_walk (fv mv : Value) (L : List (List Int)) (x : List Bool) (vars l : Int) (w : World) (hl : L.length ≤ maxLen) (hz : ∀ zs ∈ L, zs.length ≤ 17592186044416) (hF : Fits fv) (_hlx : x.length ≤ maxLen) (hL : RowsL w.heap.size w fv L) (hm : Bools w.heap.size w mv x) :
    Calls Tryz.prog 3 #[.agg #[.int .i64 vars, fv], mv, .int .i64 l] w fun e w' => e = .returned (.bool true) ∧ Below w.heap.size w w' := by
  obtain ⟨A, cap, rfl, -⟩ := rowsL_shape hL
  obtain ⟨Am, cm, rfl, -⟩ := bools_shape hm
  have hb1 := below1a w (.cells #[.int .i64 vars, .slice A L.length cap] 24)
  have m1 := Whole.made w 24 #[.int .i64 vars, .slice A L.length cap]
  obtain ⟨w1, hw1⟩ : ∃ y, w.alloc (.cells #[.int .i64 vars, .slice A L.length cap] 24) = y := ⟨_, rfl⟩
  rw [hw1] at hb1 m1
  have hfew : Calls Tryz.prog 5 #[.agg #[.int .i64 vars, .slice A L.length cap]] w1 fun e w' => e = .returned (.bool (fewF L)) ∧ Below w1.heap.size w1 w' := fewF_any vars w1 hb1.size hl hz hF (RowsV.below hb1 hL)
  have htl : ∀ W, Below w.heap.size w W → fewF L = true → x.length ≤ 300 → Calls Tryz.prog 6 #[.agg #[.int .i64 vars, .slice A L.length cap], .slice Am x.length cm, .int .i64 l] W fun e w' => e = .returned (.bool true) ∧ Below W.heap.size W w' := fun W hb hf hx =>
    tells_any vars l W hb.size ⟨by have := (fewF_of hf).1; omega, fun zs h => by have := (fewF_of hf).2 zs h; omega⟩ (by omega) (RowsV.below hb hL) (RowV.below hb hm)
  obtain ⟨n, hnl⟩ : ∃ n, L.length = n := ⟨_, rfl⟩
  obtain ⟨m, hml⟩ : ∃ m, x.length = m := ⟨_, rfl⟩
  obtain ⟨q, hq⟩ : ∃ q, fewF L = q := ⟨_, rfl⟩
  rw [hnl, hq] at hfew
  rw [hnl, hml, hq] at htl
  rw [hnl] at m1 hw1 ⊢
  rw [hml]
  have c0 : w1.cell? ⟨w.heap.size, 0, none⟩ = some (.int .i64 vars) := m1.cell 0
  have c1 : w1.cell? ⟨w.heap.size, 1, none⟩ = some (.slice A n cap) := m1.cell 1
  have HFew := Lib.hid hfew; have HTl := Lib.hid htl; have HW1 := Lib.hid hw1; have HB1 := Lib.hid hb1; have HM1 := Lib.hid m1
  clear hfew htl hw1 hb1 m1 hL hm hF hz hl hnl hml hq
  go_enter Tryz.func3, Tryz.ntmps3
  go_wp2_with fail
  rw [HW1.out]
  go_wp2_with fail
  refine HFew.out.mono ?_
  rintro e w2 ⟨rfl, hb2⟩
  have m2 := HM1.out.same (hb2.block _ HM1.out.lt)
  have d0 : w2.cell? ⟨w.heap.size, 0, none⟩ = some (.int .i64 vars) := m2.cell 0
  have d1 : w2.cell? ⟨w.heap.size, 1, none⟩ = some (.slice A n cap) := m2.cell 1
  have HB2 := Lib.hid (HB1.out.trans (hb2.mono HB1.out.size))
  clear hb2 m2 c0 c1
  rcases Bool.eq_false_or_eq_true q with rfl | rfl
  · by_cases h3 : (300 : Int) < (m : Nat)
    · have hd : decide ((300 : Int) < (m : Nat)) = true := decide_eq_true h3
      go_wp2_with fail
      refine (awake_any w2).mono ?_
      rintro e w3 ⟨rfl, hb3⟩
      have HB3 := Lib.hid (HB2.out.trans (hb3.mono HB2.out.size))
      clear hb3
      go_wp2_with fail
      go_ret
      exact ⟨by trivial, HB3.out⟩
    · have hd : decide ((300 : Int) < (m : Nat)) = false := decide_eq_false h3
      go_wp2_with fail
      refine (HTl.out w2 HB2.out (by trivial) (by omega)).mono ?_
      rintro e w3 ⟨rfl, hb3⟩
      have HB3 := Lib.hid (HB2.out.trans (hb3.mono HB2.out.size))
      clear hb3
      go_wp2_with fail
      refine (awake_any w3).mono ?_
      rintro e w4 ⟨rfl, hb4⟩
      have HB4 := Lib.hid (HB3.out.trans (hb4.mono HB3.out.size))
      clear hb4
      go_wp2_with fail
      go_ret
      exact ⟨by trivial, HB4.out⟩
  · go_wp2_with fail
    refine (awake_any w2).mono ?_
    rintro e w3 ⟨rfl, hb3⟩
    have HB3 := Lib.hid (HB2.out.trans (hb3.mono HB2.out.size))
    clear hb3
    go_wp2_with fail
    go_ret
    exact ⟨by trivial, HB3.out⟩
end Go.Proofs.YtdahiacicgdmfaaGreat.formulaTells
