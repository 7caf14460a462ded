/- The reference's Assign where it refuses. -/
import Derived.Test.YtdeedmfofjdbjaaRefTrNew
import Derived.Test.YtdeedmfofjdbjaaTrUse
import Derived.Deep.QuietTactic
import Derived.BigQuiet
namespace Go.Proofs.Ytdeedmfofjdbjaa
open Go.RowKit Go.ChangeAt Go.ChangeShapes Go.WideShapes Go.Sort

theorem varI_abs {l : Int} {nv : Nat} (hnv : nv ≤ 1048576) : (1 ≤ l.natAbs ∧ l.natAbs ≤ nv) ↔ (1 ≤ varI l ∧ varI l ≤ nv) := by
  constructor
  · intro h
    rw [varI_nat (litB_yes (by omega) (by omega) (by omega))]
    omega
  · intro h
    cases hl : litB l
    · unfold varI at h
      rw [hl] at h
      simp at h
    · rw [varI_nat hl] at h
      omega
/-- What the end of a call of the reference reads and writes. -/
theorem ref_end {W w : World} {u0 u1 u2 u3 : Value} (h1 : Whole W w.heap.size 69 #[u0, u1, u2, u3]) (h2 : Whole W (w.heap.size + 1) 69 #[.int .i64 0, .int .i64 0, .slice none 0 0, .slice none 0 0]) (hb : Below w.heap.size w W) :
    (W.cell? ⟨w.heap.size, 0, none⟩ = some u0 ∧ W.cell? ⟨w.heap.size, 1, none⟩ = some u1 ∧ W.cell? ⟨w.heap.size, 2, none⟩ = some u2 ∧ W.cell? ⟨w.heap.size, 3, none⟩ = some u3) ∧
    (W.cell? ⟨w.heap.size + 1, 0, none⟩ = some (.int .i64 0) ∧ W.frozen? ⟨w.heap.size + 1, 0, none⟩ = false) ∧
    ((W.setCell ⟨w.heap.size + 1, 0, none⟩ u0).cell? ⟨w.heap.size + 1, 1, none⟩ = some (.int .i64 0) ∧ (W.setCell ⟨w.heap.size + 1, 0, none⟩ u0).frozen? ⟨w.heap.size + 1, 1, none⟩ = false) ∧
    (((W.setCell ⟨w.heap.size + 1, 0, none⟩ u0).setCell ⟨w.heap.size + 1, 1, none⟩ u1).cell? ⟨w.heap.size + 1, 2, none⟩ = some (.slice none 0 0) ∧ ((W.setCell ⟨w.heap.size + 1, 0, none⟩ u0).setCell ⟨w.heap.size + 1, 1, none⟩ u1).frozen? ⟨w.heap.size + 1, 2, none⟩ = false) ∧
    ((((W.setCell ⟨w.heap.size + 1, 0, none⟩ u0).setCell ⟨w.heap.size + 1, 1, none⟩ u1).setCell ⟨w.heap.size + 1, 2, none⟩ u2).cell? ⟨w.heap.size + 1, 3, none⟩ = some (.slice none 0 0) ∧ (((W.setCell ⟨w.heap.size + 1, 0, none⟩ u0).setCell ⟨w.heap.size + 1, 1, none⟩ u1).setCell ⟨w.heap.size + 1, 2, none⟩ u2).frozen? ⟨w.heap.size + 1, 3, none⟩ = false) ∧
    Hid (Whole ((((W.setCell ⟨w.heap.size + 1, 0, none⟩ u0).setCell ⟨w.heap.size + 1, 1, none⟩ u1).setCell ⟨w.heap.size + 1, 2, none⟩ u2).setCell ⟨w.heap.size + 1, 3, none⟩ u3) (w.heap.size + 1) 69 #[u0, u1, u2, u3]) ∧
    Hid (Below w.heap.size w ((((W.setCell ⟨w.heap.size + 1, 0, none⟩ u0).setCell ⟨w.heap.size + 1, 1, none⟩ u1).setCell ⟨w.heap.size + 1, 2, none⟩ u2).setCell ⟨w.heap.size + 1, 3, none⟩ u3)) := by
  obtain ⟨a0, a1, a2, a3, y⟩ := h2.store4 u0 u1 u2 u3
  exact ⟨⟨h1.cell 0, h1.cell 1, h1.cell 2, h1.cell 3⟩, a0, a1, a2, a3, Lib.hid y, Lib.hid ((((hb.setCell (p := ⟨w.heap.size + 1, 0, none⟩) (Nat.le_succ _) u0).setCell (p := ⟨w.heap.size + 1, 1, none⟩) (Nat.le_succ _) u1).setCell (p := ⟨w.heap.size + 1, 2, none⟩) (Nat.le_succ _) u2).setCell (p := ⟨w.heap.size + 1, 3, none⟩) (Nat.le_succ _) u3)⟩
set_option maxRecDepth 100000 in
set_option maxHeartbeats 4000000 in
theorem assign_ref_no {B : Nat} {iv : Value} {As : Option Addr} {ns cs nv : Nat} {its : List It} {st : List Nat} (now l r : Int) (w : World) (hg : TG nv its st) (h : RRow B w iv its) (hn : assE nv its l r ≠ 0) :
    Calls Try.prog 35 #[refT nv now iv (.slice As ns cs), .int .i64 l, .int .i64 r] w fun e w' => e = .returned (.tuple #[refT nv now iv (.slice As ns cs), .int .i64 (assE nv its l r)]) ∧ Below w.heap.size w w' := by
  have hnv := hg.nvmax
  have hva := varI_abs (l := l) hnv
  obtain ⟨Ai, ci, rfl, -, -⟩ := h.at_
  unfold refT
  obtain ⟨m1, m2, bb⟩ := ref_blocks w (.int .i64 nv) (.int .i64 now) (.slice Ai its.length ci) (.slice As ns cs)
  obtain ⟨w1, hw1⟩ : ∃ y, (w.alloc (.cells #[.int .i64 nv, .int .i64 now, .slice Ai its.length ci, .slice As ns cs] 69)).alloc (.cells #[.int .i64 0, .int .i64 0, .slice none 0 0, .slice none 0 0] 69) = y := ⟨_, rfl⟩
  rw [hw1] at m1 m2 bb
  have hr1 := h.keeps (K := fun _ => False) (Keeps.of_below bb) (fun _ _ x => x)
  obtain ⟨n, hnn⟩ : ∃ n : Int, (nv : Int) = n := ⟨_, rfl⟩
  obtain ⟨v, hv⟩ : ∃ v, varI l = v := ⟨_, rfl⟩
  have hE : assE nv its l r = if 1 ≤ v ∧ v ≤ n then (if 0 ≤ r ∧ r ≤ 1073741824 then (if valI its l = 0 then 0 else 41) else 2) else 40 := by
    unfold assE
    rw [hv, hnn] at hva
    simp only [hva]
  have hval := fun (W : World) (hb : Below w1.heap.size w1 W) => value_ref (sv := .slice As ns cs) now l W hg (hr1.on hb)
  unfold refT at hval
  rw [hnn] at hval m1
  rw [hnn] at hw1 ⊢
  generalize assE nv its l r = E at hE hn ⊢
  -- how it ends
  have fin : ∀ (W : World), Below w1.heap.size w1 W → Whole W w.heap.size 69 #[.int .i64 n, .int .i64 now, .slice Ai its.length ci, .slice As ns cs] ∧ Whole W (w.heap.size + 1) 69 #[.int .i64 0, .int .i64 0, .slice none 0 0, .slice none 0 0] ∧ Below w.heap.size w W := fun W hb =>
    ⟨m1.same (hb.block _ m1.lt), m2.same (hb.block _ m2.lt), bb.trans (hb.mono bb.size)⟩
  have hvq : ∀ q, Calls Try.prog 50 #[.int .i64 l] (w1.drewN q) fun e w' => e = .returned (.int .i64 v) ∧ w' = w1.drewN q := fun q => by
    have := ref_var l (w1.drewN q)
    rw [hv] at this
    exact this.mono fun _ _ ⟨a, b⟩ => ⟨a, b.symm⟩
  have HVq := Lib.hid hvq
  have c0 : w1.cell? ⟨w.heap.size, 0, none⟩ = some (.int .i64 n) := m1.cell 0
  have HV := Lib.hid hv; have HVal := Lib.hid hval; have HF := Lib.hid fin
  clear hvq m1 m2 bb hr1 hval fin hg h hva hv hnn
  by_cases h1 : v < 1
  · skip
    have hc : E = 40 := by rw [hE, if_neg (by omega)]
    subst hc
    clear hE hn
    go_enter Try.func35, Try.ntmps35
    go_wp2_with fail
    go_quiet (first | (go_at_call 50; exact Calls.quiet_of_same (HVq.out _)))
    have hbd := below_drewN (Below.refl w1.heap.size w1) nq
    obtain ⟨W, hW⟩ : ∃ X, w1.drewN nq = X := ⟨_, rfl⟩
    rw [hW] at hbd ⊢
    clear c0 hw1
    obtain ⟨⟨c0, c1, c2, c3⟩, ⟨d0, f0⟩, ⟨d1, f1⟩, ⟨d2, f2⟩, ⟨d3, f3⟩, HZ, HBf⟩ := ref_end (HF.out _ hbd).1 (HF.out _ hbd).2.1 (HF.out _ hbd).2.2
    go_wp2_with fail
    have z0 : _ = some (Value.int .i64 n) := HZ.out.cell 0
    have z1 : _ = some (Value.int .i64 now) := HZ.out.cell 1
    have z2 : _ = some (Value.slice Ai its.length ci) := HZ.out.cell 2
    have z3 : _ = some (Value.slice As ns cs) := HZ.out.cell 3
    exact bodyPost_ret (v := .tuple #[.agg #[.int .i64 n, .int .i64 now, .slice Ai its.length ci, .slice As ns cs], .int .i64 40]) (by simp [results, Try.results35, go_sem, z0, z1, z2, z3]) rfl ⟨rfl, HBf.out⟩
  · skip
    by_cases h2 : n < v
    · skip
      have hc : E = 40 := by rw [hE, if_neg (by omega)]
      subst hc
      clear hE hn
      go_enter Try.func35, Try.ntmps35
      go_wp2_with fail
      go_quiet (first | (go_at_call 50; exact Calls.quiet_of_same (HVq.out _)))
      have hbd := below_drewN (Below.refl w1.heap.size w1) nq
      obtain ⟨W, hW⟩ : ∃ X, w1.drewN nq = X := ⟨_, rfl⟩
      rw [hW] at hbd ⊢
      clear c0 hw1
      obtain ⟨⟨c0, c1, c2, c3⟩, ⟨d0, f0⟩, ⟨d1, f1⟩, ⟨d2, f2⟩, ⟨d3, f3⟩, HZ, HBf⟩ := ref_end (HF.out _ hbd).1 (HF.out _ hbd).2.1 (HF.out _ hbd).2.2
      go_wp2_with fail
      have z0 : _ = some (Value.int .i64 n) := HZ.out.cell 0
      have z1 : _ = some (Value.int .i64 now) := HZ.out.cell 1
      have z2 : _ = some (Value.slice Ai its.length ci) := HZ.out.cell 2
      have z3 : _ = some (Value.slice As ns cs) := HZ.out.cell 3
      exact bodyPost_ret (v := .tuple #[.agg #[.int .i64 n, .int .i64 now, .slice Ai its.length ci, .slice As ns cs], .int .i64 40]) (by simp [results, Try.results35, go_sem, z0, z1, z2, z3]) rfl ⟨rfl, HBf.out⟩
    · skip
      by_cases h3 : r < 0
      · skip
        have hc : E = 2 := by rw [hE, if_pos (by omega), if_neg (by omega)]
        subst hc
        clear hE hn
        go_enter Try.func35, Try.ntmps35
        go_wp2_with fail
        go_quiet (first | (go_at_call 50; exact Calls.quiet_of_same (HVq.out _)))
        have hbd := below_drewN (Below.refl w1.heap.size w1) nq
        obtain ⟨W, hW⟩ : ∃ X, w1.drewN nq = X := ⟨_, rfl⟩
        rw [hW] at hbd ⊢
        clear c0 hw1
        obtain ⟨⟨c0, c1, c2, c3⟩, ⟨d0, f0⟩, ⟨d1, f1⟩, ⟨d2, f2⟩, ⟨d3, f3⟩, HZ, HBf⟩ := ref_end (HF.out _ hbd).1 (HF.out _ hbd).2.1 (HF.out _ hbd).2.2
        go_wp2_with fail
        have z0 : _ = some (Value.int .i64 n) := HZ.out.cell 0
        have z1 : _ = some (Value.int .i64 now) := HZ.out.cell 1
        have z2 : _ = some (Value.slice Ai its.length ci) := HZ.out.cell 2
        have z3 : _ = some (Value.slice As ns cs) := HZ.out.cell 3
        exact bodyPost_ret (v := .tuple #[.agg #[.int .i64 n, .int .i64 now, .slice Ai its.length ci, .slice As ns cs], .int .i64 2]) (by simp [results, Try.results35, go_sem, z0, z1, z2, z3]) rfl ⟨rfl, HBf.out⟩
      · skip
        by_cases h4 : 1073741824 < r
        · skip
          have hc : E = 2 := by rw [hE, if_pos (by omega), if_neg (by omega)]
          subst hc
          clear hE hn
          go_enter Try.func35, Try.ntmps35
          go_wp2_with fail
          go_quiet (first | (go_at_call 50; exact Calls.quiet_of_same (HVq.out _)))
          have hbd := below_drewN (Below.refl w1.heap.size w1) nq
          obtain ⟨W, hW⟩ : ∃ X, w1.drewN nq = X := ⟨_, rfl⟩
          rw [hW] at hbd ⊢
          clear c0 hw1
          obtain ⟨⟨c0, c1, c2, c3⟩, ⟨d0, f0⟩, ⟨d1, f1⟩, ⟨d2, f2⟩, ⟨d3, f3⟩, HZ, HBf⟩ := ref_end (HF.out _ hbd).1 (HF.out _ hbd).2.1 (HF.out _ hbd).2.2
          go_wp2_with fail
          have z0 : _ = some (Value.int .i64 n) := HZ.out.cell 0
          have z1 : _ = some (Value.int .i64 now) := HZ.out.cell 1
          have z2 : _ = some (Value.slice Ai its.length ci) := HZ.out.cell 2
          have z3 : _ = some (Value.slice As ns cs) := HZ.out.cell 3
          exact bodyPost_ret (v := .tuple #[.agg #[.int .i64 n, .int .i64 now, .slice Ai its.length ci, .slice As ns cs], .int .i64 2]) (by simp [results, Try.results35, go_sem, z0, z1, z2, z3]) rfl ⟨rfl, HBf.out⟩
        · have h5 : ¬ valI its l = 0 := fun e => by
            rw [hE, if_pos (by omega), if_pos (by omega), if_pos e] at hn
            exact hn rfl
          have hc : E = 41 := by rw [hE, if_pos (by omega), if_pos (by omega), if_neg h5]
          subst hc
          clear hE hn
          obtain ⟨y, hy⟩ : ∃ y, valI its l = y := ⟨_, rfl⟩
          rw [hy] at h5 HVal
          clear hy
          go_enter Try.func35, Try.ntmps35
          go_wp2_with fail
          go_quiet (first | (go_at_call 50; exact Calls.quiet_of_same (HVq.out _)))
          have hbd := below_drewN (Below.refl w1.heap.size w1) nq
          obtain ⟨W, hW⟩ : ∃ X, w1.drewN nq = X := ⟨_, rfl⟩
          rw [hW] at hbd ⊢
          clear c0 hw1
          obtain ⟨c0, c1, c2, c3⟩ := (ref_end (HF.out _ hbd).1 (HF.out _ hbd).2.1 (HF.out _ hbd).2.2).1
          go_wp2_with fail
          refine (HVal.out _ hbd).mono ?_
          rintro r w2 ⟨rfl, hb2⟩
          have hb3 := hbd.trans (hb2.mono hbd.size)
          obtain ⟨⟨e0, e1, e2, e3⟩, ⟨d0, f0⟩, ⟨d1, f1⟩, ⟨d2, f2⟩, ⟨d3, f3⟩, HZ, HBf⟩ := ref_end (HF.out _ hb3).1 (HF.out _ hb3).2.1 (HF.out _ hb3).2.2
          clear hb2 hb3
          go_wp2_with fail
          have z0 : _ = some (Value.int .i64 n) := HZ.out.cell 0
          have z1 : _ = some (Value.int .i64 now) := HZ.out.cell 1
          have z2 : _ = some (Value.slice Ai its.length ci) := HZ.out.cell 2
          have z3 : _ = some (Value.slice As ns cs) := HZ.out.cell 3
          exact bodyPost_ret (v := .tuple #[.agg #[.int .i64 n, .int .i64 now, .slice Ai its.length ci, .slice As ns cs], .int .i64 41]) (by simp [results, Try.results35, go_sem, z0, z1, z2, z3]) rfl ⟨rfl, HBf.out⟩
end Go.Proofs.Ytdeedmfofjdbjaa
