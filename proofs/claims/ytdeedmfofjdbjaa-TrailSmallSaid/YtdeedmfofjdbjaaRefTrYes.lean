/- The reference's Assign where it assigns. -/
import Derived.Test.YtdeedmfofjdbjaaRefTrBack
namespace Go.Proofs.Ytdeedmfofjdbjaa
open Go.RowKit Go.ChangeAt Go.ChangeShapes Go.WideShapes Go.Sort
theorem whole_drew {w : World} {b : Nat} {t : TypeId} {cs : Array Value} (h : Whole w b t cs) : Whole w.drew b t cs := h
theorem whole_alloc {w : World} {b : Nat} {t : TypeId} {cs : Array Value} (h : Whole w b t cs) (o : Obj) : Whole (w.alloc o) b t cs := h.same ((below1a w o).block b h.lt)
theorem whole_grown {w w' : World} {row : Option Nat} {b : Nat} {t : TypeId} {cs : Array Value} (hg : w.grownBy w' row) (hne : some b ≠ row) (h : Whole w b t cs) : Whole w' b t cs := h.same (hg.block b h.lt hne)
/-- append of all items to an empty row of them. -/
theorem step_item_copy {w : World} {ops : Array Oper} {o : Oper} {a : Act} {K : Act → World → Prop} {Q : Exit → Act → World → Prop} {E : Prop} (hgd : o.guard = none) (s x : Operand)
    (ho : o.op = .call { callee := .builtin .append, args := #[s, x], argTypes := #[67, 67] }) (base g : Nat) (hs : a.eval s = .slice (some ⟨g, 0, none⟩) 0 0) (hW : Whole w g 90 #[]) (hbg : base ≤ g)
    (B : Nat) (iv : Value) (its : List It) (hx : a.eval x = iv) (hsrc : RRow B w iv its) (hl : its.length ≤ 1048576) (hb : base ≤ w.heap.size)
    (h : ∀ A c w', w'.ownsRow base 90 3 (.slice A its.length c) its.length (itV its) → w.grownBy w' (some g) → K (a.put o.dst (.slice A its.length c)) w') :
    if Region.wanted o (yielded ops a.tmps) = true then Oper.wp Try.prog o a w K Q else E := by
  obtain ⟨j0, hj, hy0, hy1, hy2⟩ := info_parts infoItem
  refine step_append3 hgd s x _ ho 90 j0 _ 3 24 Try.underlying67 hj hy0 hy1 hy2 rfl (by decide) base _ _ _ hs (own_empty hbg hW) B iv its.length (itV its) hx hsrc (itV_one its) (by unfold maxLen; omega) (by omega) hb ?_
  intro v' w' h1 h2 _
  rw [Nat.zero_add, List.nil_append] at h1
  obtain ⟨A, c, rfl⟩ := own_shape0 h1
  exact h A c w' h1 h2
/-- append of one item. -/
theorem step_item_push {w : World} {ops : Array Oper} {o : Oper} {a : Act} {K : Act → World → Prop} {Q : Exit → Act → World → Prop} {E : Prop} (hgd : o.guard = none) (s x : Operand)
    (ho : o.op = .call { callee := .builtin .append, args := #[s, x], argTypes := #[67, 67] }) (base n : Nat) (v : Value) (xs : List Value) (hs : a.eval s = v) (hown : w.ownsRow base 90 3 v n xs) (gb : Nat) (hx : a.eval x = .slice (some ⟨gb, 0, none⟩) 1 1)
    (x0 x1 x2 : Int) (hW : Whole w gb 90 #[.int .i64 x0, .int .i64 x1, .int .i64 x2]) (hn : n ≤ 1048576) (hb : base ≤ w.heap.size)
    (h : ∀ gg cap w', w'.ownsRow base 90 3 (.slice (some ⟨gg, 0, none⟩) (n + 1) cap) (n + 1) (xs ++ [.int .i64 x0, .int .i64 x1, .int .i64 x2]) → w.grownBy w' v.ownBlock → K (a.put o.dst (.slice (some ⟨gg, 0, none⟩) (n + 1) cap)) w') :
    if Region.wanted o (yielded ops a.tmps) = true then Oper.wp Try.prog o a w K Q else E := by
  obtain ⟨j0, hj, hy0, hy1, hy2⟩ := info_parts infoItem
  refine step_append_lies w hgd s x 67 ho base 90 j0 _ 3 24 Try.underlying67 hj hy0 hy1 hy2 (by rfl) (by decide) v n xs hs hown ⟨gb, 0, none⟩ 1 1 [.int .i64 x0, .int .i64 x1, .int .i64 x2] hx (by rfl) (World.news_of_block (cs := #[.int .i64 x0, .int .i64 x1, .int .i64 x2]) (t := 90) (fr := (0, 0)) hW) (by simp [Value.oneCell']) (by decide) (by unfold maxLen; omega) (by omega) hb _ rfl ?_
  intro gg cap w5 h1 h2 _ _
  exact h gg cap w5 h1 h2
set_option maxRecDepth 100000 in
set_option maxHeartbeats 4000000 in
theorem assign_ref_yes {B : Nat} {iv : Value} {As : Option Addr} {ns cs nv : Nat} {its : List It} {st : List Nat} (lev : Nat) (l r : Int) (w : World) (hg : TG nv its st) (h : RRow B w iv its) (hn : assE nv its l r = 0) :
    Calls Try.prog 35 #[refT nv (lev : Int) iv (.slice As ns cs), .int .i64 l, .int .i64 r] w fun e w' => ∃ iv', e = .returned (.tuple #[refT nv (lev : Int) iv' (.slice As ns cs), .int .i64 0]) ∧ RRow w.heap.size w' iv' (its ++ [⟨l, lev, r⟩]) ∧ Below w.heap.size w w' := by
  obtain ⟨now, hnow⟩ : ∃ now : Int, (lev : Int) = now := ⟨_, rfl⟩
  rw [hnow]
  have hnv := hg.nvmax
  have hlen := hg.len
  have hva := varI_abs (l := l) hnv
  obtain ⟨Ai, ci, rfl, -, -⟩ := h.at_
  unfold refT
  obtain ⟨m1, m2, bb⟩ := ref_blocks w (.int .i64 nv) (.int .i64 now) (.slice Ai its.length ci) (.slice As ns cs)
  obtain ⟨w1, hw1⟩ : ∃ y, (w.alloc (.cells #[.int .i64 nv, .int .i64 now, .slice Ai its.length ci, .slice As ns cs] 69)).alloc (.cells #[.int .i64 0, .int .i64 0, .slice none 0 0, .slice none 0 0] 69) = y := ⟨_, rfl⟩
  rw [hw1] at m1 m2 bb
  have hr1 := h.keeps (K := fun _ => False) (Keeps.of_below bb) (fun _ _ x => x)
  obtain ⟨n, hnn⟩ : ∃ n : Int, (nv : Int) = n := ⟨_, rfl⟩
  obtain ⟨v, hv⟩ : ∃ v, varI l = v := ⟨_, rfl⟩
  have hE : assE nv its l r = if 1 ≤ v ∧ v ≤ n then (if 0 ≤ r ∧ r ≤ 1073741824 then (if valI its l = 0 then 0 else 41) else 2) else 40 := by
    unfold assE
    rw [hv, hnn] at hva
    simp only [hva]
  have hval := fun (W : World) (hb : Below w1.heap.size w1 W) => value_ref (sv := .slice As ns cs) now l W hg (hr1.on hb)
  unfold refT at hval
  rw [hnn] at hval m1
  rw [hnn] at hw1 ⊢
  rw [hE] at hn
  -- how it ends
  have fin : ∀ (W : World), Below w1.heap.size w1 W → Whole W w.heap.size 69 #[.int .i64 n, .int .i64 now, .slice Ai its.length ci, .slice As ns cs] ∧ Whole W (w.heap.size + 1) 69 #[.int .i64 0, .int .i64 0, .slice none 0 0, .slice none 0 0] ∧ Below w.heap.size w W := fun W hb =>
    ⟨m1.same (hb.block _ m1.lt), m2.same (hb.block _ m2.lt), bb.trans (hb.mono bb.size)⟩
  have hvq : ∀ q, Calls Try.prog 50 #[.int .i64 l] (w1.drewN q) fun e w' => e = .returned (.int .i64 v) ∧ w' = w1.drewN q := fun q => by
    have := ref_var l (w1.drewN q)
    rw [hv] at this
    exact this.mono fun _ _ ⟨a, b⟩ => ⟨a, b.symm⟩
  have HVq := Lib.hid hvq
  have c0 : w1.cell? ⟨w.heap.size, 0, none⟩ = some (.int .i64 n) := m1.cell 0
  have HV := Lib.hid hv; have HVal := Lib.hid hval; have HF := Lib.hid fin
  have HR1 := Lib.hid hr1
  clear hvq m1 m2 bb hr1 hval fin hg h hva hv hnn
  have h1 : 1 ≤ v ∧ v ≤ n := by
    by_cases h : 1 ≤ v ∧ v ≤ n
    · exact h
    · rw [if_neg h] at hn; cases hn
  rw [if_pos h1] at hn
  have h2 : 0 ≤ r ∧ r ≤ 1073741824 := by
    by_cases h : 0 ≤ r ∧ r ≤ 1073741824
    · exact h
    · rw [if_neg h] at hn; cases hn
  rw [if_pos h2] at hn
  have h3 : valI its l = 0 := by
    by_cases h : valI its l = 0
    · exact h
    · rw [if_neg h] at hn; cases hn
  obtain ⟨h1, h1b⟩ := h1
  obtain ⟨h2, h2b⟩ := h2
  have h1n : ¬ v < 1 := by omega
  have h1m : ¬ n < v := by omega
  have h2n : ¬ r < 0 := by omega
  have h2m : ¬ 1073741824 < r := by omega
  rw [h3] at HVal
  have HLev := Lib.hid hnow
  clear hE hn h3 hnow
  obtain ⟨j0, hj, hy0, hy1, hy2⟩ := info_parts infoItem
  go_enter Try.func35, Try.ntmps35
  go_wp2_with fail
  go_quiet (first | (go_at_call 50; exact Calls.quiet_of_same (HVq.out _)))
  have hbd := below_drewN (Below.refl w1.heap.size w1) nq
  obtain ⟨W, hW⟩ : ∃ X, w1.drewN nq = X := ⟨_, rfl⟩
  rw [hW] at hbd ⊢
  clear c0 hw1
  obtain ⟨c0, c1, c2, c3⟩ := (ref_end (HF.out _ hbd).1 (HF.out _ hbd).2.1 (HF.out _ hbd).2.2).1
  go_wp2_with fail
  refine (HVal.out _ hbd).mono ?_
  rintro r' w2 ⟨rfl, hb2⟩
  have hb3 := hbd.trans (hb2.mono hbd.size)
  clear c0 c1 c2 c3
  have M1 := Lib.hid (HF.out _ hb3).1; have M2 := Lib.hid (HF.out _ hb3).2.1; have BS := Lib.hid (HF.out _ hb3).2.2; have HS1 := Lib.hid (HR1.out.on hb3)
  have l1 := M1.out.lt
  have l2 := M2.out.lt
  have c1 : w2.cell? ⟨w.heap.size, 1, none⟩ = some (.int .i64 now) := M1.out.cell 1
  have c2 : w2.cell? ⟨w.heap.size, 2, none⟩ = some (.slice Ai its.length ci) := M1.out.cell 2
  have k1 : 0 + its.length ≤ maxLen := by unfold maxLen; omega
  have k2 : (0 + its.length) * 24 ≤ 140737488355328 := by omega
  have H1 := Lib.hid (itV_one its)
  have hk1 : ∀ W', Below w2.heap.size w2 W' → W'.cell? ⟨w.heap.size, 1, none⟩ = some (.int .i64 now) := fun W' hb => (hb.cell (p := ⟨w.heap.size, 1, none⟩) l1).trans c1
  have hk2 : ∀ W', Below w2.heap.size w2 W' → W'.cell? ⟨w.heap.size, 2, none⟩ = some (.slice Ai its.length ci) := fun W' hb => (hb.cell (p := ⟨w.heap.size, 2, none⟩) l1).trans c2
  have hsx : ∀ W', Below w2.heap.size w2 W' → RRow B W' (.slice Ai its.length ci) its := fun W' hb => HS1.out.on hb
  have hle : its.length ≤ 1048576 := by omega
  have HK1 := Lib.hid hk1; have HK2 := Lib.hid hk2; have HSX := Lib.hid hsx
  clear hk1 hk2 hsx
  clear hb2 hb3 hbd HVal HF HVq HR1
  go_upto_region 7 with fail
  go_cut [] (fun wx => ∃ A c, Whole wx w.heap.size 69 #[.int .i64 n, .int .i64 now, .slice A (its.length + 1) c, .slice As ns cs] ∧ Whole wx (w.heap.size + 1) 69 #[.int .i64 0, .int .i64 0, .slice none 0 0, .slice none 0 0] ∧ wx.ownsRow (w.heap.size + 2) 90 3 (.slice A (its.length + 1) c) (its.length + 1) (itV (its ++ [⟨l, lev, r⟩])) ∧ Below w.heap.size w wx)
  case first =>
    go_region_law (first
      | (refine step_item_copy (by rfl) _ _ (by rfl) w2.heap.size _ (by rfl) (by repeat (first | exact heap_alloc_new _ _ | exact heap_new1 _ _ _ | refine whole_drew ?_ | refine whole_alloc ?_ _)) (by first | exact Nat.le_refl _ | (simp; try omega)) B _ its (by rfl) (HSX.out _ (by repeat (first | exact Below.refl _ _ | apply Below.drew | refine Below.alloc ?_ (by first | exact Nat.le_refl _ | (simp; try omega)) _))) hle (by simp; try omega) ?_; intro A4 c4 w4 hown4 hg4; have hb4 : Below w2.heap.size w2 w4 := grown_to hg4 (by repeat (first | exact Below.refl _ _ | apply Below.drew | refine Below.alloc ?_ (by first | exact Nat.le_refl _ | (simp; try omega)) _)) (by intro k e; cases e; simp; try omega); have hc41 : w4.cell? ⟨w.heap.size, 1, none⟩ = some (.int .i64 now) := HK1.out _ hb4; have hc42 : w4.cell? ⟨w.heap.size, 2, none⟩ = some (.slice Ai its.length ci) := HK2.out _ hb4; have hl4 := hb4.size; have HR4 := Lib.hid hown4; have HG4 := Lib.hid hg4; have HB4 := Lib.hid hb4; clear hown4 hg4 hb4)
      | (refine step_item_push (by rfl) _ _ (by rfl) w2.heap.size its.length _ _ (by rfl) (by repeat (first | exact HR4.out | apply World.ownsRow.drew | apply World.ownsRow.alloc)) _ (by rfl) l r now (by repeat (first | exact heap_alloc_new _ _ | exact heap_new1 _ _ _ | refine whole_grown HG4.out (by simp; try omega) ?_ | refine whole_drew ?_ | refine whole_alloc ?_ _)) hle (by first | exact hl4 | (simp; omega)) ?_; intro gg cap w5 hown5 hg5; have hb5 : Below w2.heap.size w2 w5 := grown_to hg5 (by repeat (first | exact HB4.out | apply Below.drew | refine Below.alloc ?_ (by first | exact hl4 | (simp; try omega)) _)) (fun k e => (HR4.out.lt k e).1); have hm5 := M1.out.same (hb5.block _ l1); have hc51 : w5.cell? ⟨w.heap.size, 1, none⟩ = some (.int .i64 now) := HK1.out _ hb5; have hc52 : w5.cell? ⟨w.heap.size, 2, none⟩ = some (.slice Ai its.length ci) := HK2.out _ hb5; have hf52 := hm5.frozen 2; have HO5 := Lib.hid hown5; have HB5 := Lib.hid hb5; clear hown5 hg5 hb5 hm5))
    all_goals
      have hm6 := HB5.out
      have x1 := (M1.out.same (hm6.block _ l1)).store 2 (.slice (some ⟨gg, 0, none⟩) (its.length + 1) cap)
      have x2 := (M2.out.same (hm6.block _ l2)).at_other (c := w.heap.size) (by omega) 2 (.slice (some ⟨gg, 0, none⟩) (its.length + 1) cap)
      have x3 := owns_mono (row_turn HO5.out ((Keeps.refl (fun b => b = w.heap.size) w5).setCell (p := ⟨w.heap.size, 2, none⟩) (.inl rfl) (.slice (some ⟨gg, 0, none⟩) (its.length + 1) cap)) (fun b e hb => by
        have := (HO5.out.lt b e).1
        have : b = w.heap.size := hb
        omega)) (by omega : w.heap.size + 2 ≤ w2.heap.size)
      have x4 := (BS.out.trans (hm6.mono BS.out.size)).setCell (p := ⟨w.heap.size, 2, none⟩) (Nat.le_refl _) (.slice (some ⟨gg, 0, none⟩) (its.length + 1) cap)
      have hfin : ∃ A c, Whole (w5.setCell ⟨w.heap.size, 2, none⟩ (.slice (some ⟨gg, 0, none⟩) (its.length + 1) cap)) w.heap.size 69 #[.int .i64 n, .int .i64 now, .slice A (its.length + 1) c, .slice As ns cs] ∧ Whole (w5.setCell ⟨w.heap.size, 2, none⟩ (.slice (some ⟨gg, 0, none⟩) (its.length + 1) cap)) (w.heap.size + 1) 69 #[.int .i64 0, .int .i64 0, .slice none 0 0, .slice none 0 0] ∧ (w5.setCell ⟨w.heap.size, 2, none⟩ (.slice (some ⟨gg, 0, none⟩) (its.length + 1) cap)).ownsRow (w.heap.size + 2) 90 3 (.slice A (its.length + 1) c) (its.length + 1) (itV (its ++ [⟨l, lev, r⟩])) ∧ Below w.heap.size w (w5.setCell ⟨w.heap.size, 2, none⟩ (.slice (some ⟨gg, 0, none⟩) (its.length + 1) cap)) :=
        ⟨_, _, x1, x2, (by rw [itV_app, show itV [⟨l, lev, r⟩] = [.int .i64 l, .int .i64 r, .int .i64 now] from by rw [← HLev.out]; rfl]; exact x3), x4⟩
      have HF := Lib.hid hfin
      clear hm6 x1 x2 x3 x4 hfin
      go_simp
      go_wp2_with fail
      go_meet
      exact HF.out
  case rest =>
    obtain ⟨A, c, h1, h2, hrow, hB⟩ := hcut
    obtain ⟨⟨e0, e1, e2, e3⟩, ⟨d0, f0⟩, ⟨d1, f1⟩, ⟨d2, f2⟩, ⟨d3, f3⟩, HZ, HBf⟩ := ref_end h1 h2 hB
    have HRow := Lib.hid hrow
    clear h1 h2 hB hrow HS1 M1 M2 BS c1 c2
    go_wp2_with fail
    have z0 : _ = some (Value.int .i64 n) := HZ.out.cell 0
    have z1 : _ = some (Value.int .i64 now) := HZ.out.cell 1
    have z2 : _ = some (Value.slice A (its.length + 1) c) := HZ.out.cell 2
    have z3 : _ = some (Value.slice As ns cs) := HZ.out.cell 3
    refine bodyPost_ret (v := .tuple #[.agg #[.int .i64 n, .int .i64 now, .slice A (its.length + 1) c, .slice As ns cs], .int .i64 0]) (by simp [results, Try.results35, go_sem, z0, z1, z2, z3]) rfl ⟨_, rfl, ?_, HBf.out⟩
    unfold RRow
    rw [List.length_append, List.length_singleton]
    refine owns_mono (row_turn HRow.out (((((Keeps.refl (fun b => b = w.heap.size + 1) _).setCell (p := ⟨w.heap.size + 1, 0, none⟩) (.inl rfl) _).setCell (p := ⟨w.heap.size + 1, 1, none⟩) (.inl rfl) _).setCell (p := ⟨w.heap.size + 1, 2, none⟩) (.inl rfl) _).setCell (p := ⟨w.heap.size + 1, 3, none⟩) (.inl rfl) _) (fun b e hb => ?_)) (by omega : w.heap.size ≤ w.heap.size + 2)
    have := (HRow.out.lt b e).1
    have hb : b = w.heap.size + 1 := hb
    omega
end Go.Proofs.Ytdeedmfofjdbjaa
