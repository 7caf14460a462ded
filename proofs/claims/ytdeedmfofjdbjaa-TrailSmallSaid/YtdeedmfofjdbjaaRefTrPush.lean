/- The reference's Push. -/
import Derived.Test.YtdeedmfofjdbjaaRefTrNo
import Derived.Deep.AppendLies
import Derived.Deep.RegionLaw
namespace Go.Proofs.Ytdeedmfofjdbjaa
open Go.RowKit Go.ChangeAt Go.ChangeShapes Go.WideShapes Go.Sort
/-- append of a row to another one, at a step of a region that draws. -/
theorem step_append3 {P : Program} {w : World} {ops : Array Oper} {o : Oper} {a : Act} {K : Act → World → Prop} {Q : Exit → Act → World → Prop} {E : Prop} (hgd : o.guard = none) (s x : Operand) (t : TypeId)
    (ho : o.op = .call { callee := .builtin .append, args := #[s, x], argTypes := #[t, t] }) (e : TypeId) (i : TypeInfo) (z : Value) (size bytes : Nat) (ht : P.underlying t = some (.slice e)) (hi : P.info? e = some i) (hz : i.zero = some z)
    (hsize : i.size = size) (hby : i.bytes = bytes) (hzs : z.cells.size = size) (hsz : 0 < size) (base : Nat) (v : Value) (n : Nat) (l : List Value) (hs : a.eval s = v) (hown : w.ownsRow base e size v n l)
    (base' : Nat) (xv : Value) (m : Nat) (xs : List Value) (hx : a.eval x = xv) (hsrc : w.ownsRow base' e size xv m xs) (h1 : ∀ u ∈ xs, u.oneCell' = true) (h63 : n + m ≤ maxLen) (hbytes : (n + m) * bytes ≤ 140737488355328) (hbase : base ≤ w.heap.size)
    (h : ∀ v' w', w'.ownsRow base e size v' (n + m) (l ++ xs) → w.grownBy w' v.ownBlock → (v'.ownBlock = v.ownBlock ∨ v'.ownBlock = some w.heap.size) → K (a.put o.dst v') w') :
    if Region.wanted o (yielded ops a.tmps) = true then Oper.wp P o a w K Q else E := by
  have hw : Region.wanted o (yielded ops a.tmps) = true := by simp [Region.wanted, hgd]
  rw [if_pos hw]
  obtain ⟨v', w', hr, h2, h3, h4⟩ := run_append3 (P := P) t o.type e i z size bytes ht hi hz hsize hby hzs hsz base v n l hown base' xv m xs hsrc h1 h63 hbytes hbase
  unfold Oper.wp execOp
  simp only [ho, resolve, invoke, builtin, Sem.run_bind, Sem.run_pure, Result.andThen_ok, List.map_toArray, List.map_cons, List.map_nil, hs, hx, hr]
  exact h v' w' h2 h3 h4
theorem heap_new1 (w : World) (o o' : Obj) : ((w.alloc o).alloc o').heap[w.heap.size + 1]? = some o' := by
  have := heap_alloc_new (w.alloc o) o'
  rwa [World.size_alloc] at this
theorem grown_to {a w w' : World} {row : Option Nat} (hg : w.grownBy w' row) (h : Below a.heap.size a w) (hr : ∀ k, row = some k → a.heap.size ≤ k) : Below a.heap.size a w' := h.grown hg h.size hr
theorem own_empty {W : World} {B g : Nat} {e : TypeId} {size : Nat} (hg : B ≤ g) (hW : Whole W g e #[]) : W.ownsRow B e size (.slice (some ⟨g, 0, none⟩) 0 0) 0 [] :=
  ⟨by simp, .inr ⟨g, 0, #[], rfl, hg, hW, Nat.le_refl _, by simp⟩⟩
set_option maxRecDepth 100000 in
set_option maxHeartbeats 4000000 in
theorem push_ref {B : Nat} {iv sv : Value} {its : List It} {ss : List Int} (nv now : Int) (w : World) (hi : RRow B w iv its) (hs : w.ownsRow B 3 1 sv ss.length (ss.map (Value.int .i64))) (hsl : ss.length ≤ 1048576) (hn0 : 0 ≤ now) (hn1 : now ≤ 1048576) :
    Calls Try.prog 36 #[refT nv now iv sv] w fun r w' => ∃ sv', r = .returned (refT nv (now + 1) iv sv') ∧ w'.ownsRow w.heap.size 3 1 sv' (ss.length + 1) ((ss ++ [(its.length : Int)]).map (Value.int .i64)) ∧ Below w.heap.size w w' := by
  unfold refT
  obtain ⟨Ai, ci, rfl, -, -⟩ := hi.at_
  obtain ⟨As, cs, rfl⟩ := own_shape1 hs
  obtain ⟨j0, hj, hy0, hy1, hy2⟩ := info_parts infoInt
  -- two blocks, and the first store
  have b1 := below1a w (.cells #[.int .i64 nv, .int .i64 now, .slice Ai its.length ci, .slice As ss.length cs] 69)
  have b2 := below1a (w.alloc (.cells #[.int .i64 nv, .int .i64 now, .slice Ai its.length ci, .slice As ss.length cs] 69)) (.cells #[.int .i64 0, .int .i64 0, .slice none 0 0, .slice none 0 0] 69)
  have m1 := (Whole.made w 69 #[.int .i64 nv, .int .i64 now, .slice Ai its.length ci, .slice As ss.length cs]).same (b2.block _ (by simp))
  have m2 := Whole.made (w.alloc (.cells #[.int .i64 nv, .int .i64 now, .slice Ai its.length ci, .slice As ss.length cs] 69)) 69 #[.int .i64 0, .int .i64 0, .slice none 0 0, .slice none 0 0]
  rw [World.size_alloc] at m2
  have bb := b1.trans (b2.mono b1.size)
  have m1s : Whole _ _ _ #[.int .i64 nv, .int .i64 (now + 1), .slice Ai its.length ci, .slice As ss.length cs] := m1.store 1 (.int .i64 (now + 1))
  have m2s := m2.at_other (c := w.heap.size) (by omega) 1 (.int .i64 (now + 1))
  have bs := bb.setCell (p := ⟨w.heap.size, 1, none⟩) (Nat.le_refl _) (.int .i64 (now + 1))
  obtain ⟨w1, hw1⟩ : ∃ y, ((w.alloc (.cells #[.int .i64 nv, .int .i64 now, .slice Ai its.length ci, .slice As ss.length cs] 69)).alloc (.cells #[.int .i64 0, .int .i64 0, .slice none 0 0, .slice none 0 0] 69)).setCell ⟨w.heap.size, 1, none⟩ (.int .i64 (now + 1)) = y := ⟨_, rfl⟩
  rw [hw1] at m1s m2s bs
  have hs1 := owns_on0 hs bs
  have c2 : w1.cell? ⟨w.heap.size, 2, none⟩ = some (.slice Ai its.length ci) := m1s.cell 2
  have c3 : w1.cell? ⟨w.heap.size, 3, none⟩ = some (.slice As ss.length cs) := m1s.cell 3
  have s1 : IntKind.i64.wrap (now + 1) = now + 1 := IntWalk.i64_in _ (by omega)
  have f1 := m1.frozen 1
  have l1 := m1s.lt
  have l2 := m2s.lt
  have g1 := m1.cell 1
  have one : ∀ u ∈ ss.map (Value.int .i64), u.oneCell' = true := fun u hu => by obtain ⟨y, -, rfl⟩ := List.mem_map.1 hu; rfl
  have k1 : 0 + ss.length ≤ maxLen := by unfold maxLen; omega
  have k2 : (0 + ss.length) * 8 ≤ 140737488355328 := by omega
  have HS1 := Lib.hid hs1; have M1 := Lib.hid m1s; have M2 := Lib.hid m2s; have BS := Lib.hid bs; have H1 := Lib.hid one
  clear b1 b2 m1 m2 bb hi hs hs1 m1s m2s bs one
  go_enter Try.func36, Try.ntmps36
  go_upto_region 2 with fail
  go_cut [] (fun wx => ∃ A c, Whole wx w.heap.size 69 #[.int .i64 nv, .int .i64 (now + 1), .slice Ai its.length ci, .slice A (ss.length + 1) c] ∧ Whole wx (w.heap.size + 1) 69 #[.int .i64 0, .int .i64 0, .slice none 0 0, .slice none 0 0] ∧ wx.ownsRow (w.heap.size + 2) 3 1 (.slice A (ss.length + 1) c) (ss.length + 1) ((ss ++ [(its.length : Int)]).map (Value.int .i64)) ∧ Below w.heap.size w wx)
  case first =>
    go_region_law (first
      | (refine step_append3 (by rfl) _ _ 27 (by rfl) 3 j0 _ 1 8 Try.underlying27 hj hy0 hy1 hy2 (by rfl) (by decide) w1.heap.size _ _ _ (by rfl) (own_empty (by first | exact Nat.le_refl _ | exact Nat.le_succ _ | (simp; try omega)) (by first | exact heap_alloc_new _ _ | exact heap_new1 _ _ _ | exact (Below.heap_alloc _ _ _ (by simp)).trans (heap_alloc_new _ _))) B (.slice As ss.length cs) ss.length (ss.map (Value.int .i64)) (by rfl) (owns_on0 HS1.out (by repeat (first | exact Below.refl _ _ | apply Below.drew | refine Below.alloc ?_ (by simp) _))) H1.out k1 k2 (by simp; try omega) ?_; intro v4 w4 hown4 hg4 hwh; have hb4 : Below w1.heap.size w1 w4 := grown_to hg4 (by repeat (first | exact Below.refl _ _ | apply Below.drew | refine Below.alloc ?_ (by simp) _)) (by intro k e; simp [Value.ownBlock] at e; omega); have hc42 : w4.cell? ⟨w.heap.size, 2, none⟩ = some (.slice Ai its.length ci) := (hb4.cell (p := ⟨w.heap.size, 2, none⟩) l1).trans c2; have hl41 := Nat.lt_of_lt_of_le l1 hb4.size; have hl4 := hb4.size; rw [Nat.zero_add, List.nil_append] at hown4; obtain ⟨A4, c4, rfl⟩ := own_shape0 hown4; have HR4 := Lib.hid hown4; have HG4 := Lib.hid hg4; have HB4 := Lib.hid hb4; clear hown4 hg4 hwh hb4)
      | (refine step_append_lies _ (by rfl) _ _ 27 (by rfl) w1.heap.size 3 j0 _ 1 8 Try.underlying27 hj hy0 hy1 hy2 (by rfl) (by decide) _ ss.length (ss.map (Value.int .i64)) (by rfl) (by repeat (first | exact HR4.out | apply World.ownsRow.drew | apply World.ownsRow.alloc)) _ 1 1 [.int .i64 (its.length : Int)] (by rfl) (by rfl) (World.news_of_block (cs := #[.int .i64 (its.length : Int)]) (t := 3) (fr := (0, 0)) (by first | exact heap_alloc_new _ _ | exact (HG4.out.block _ (by simp; try omega) (by simp [Value.ownBlock]; try omega)).trans (heap_alloc_new _ _) | exact (HG4.out.block _ (by simp; try omega) (by simp [Value.ownBlock]; try omega)).trans (heap_new1 _ _ _) | exact (HG4.out.block _ (by simp; try omega) (by simp [Value.ownBlock]; try omega)).trans ((Below.heap_alloc _ _ _ (by simp)).trans (heap_alloc_new _ _)) | exact (HG4.out.block _ (by simp; try omega) (by simp [Value.ownBlock]; try omega)).trans ((Below.heap_alloc _ _ _ (by simp; try omega)).trans (heap_alloc_new _ _)))) (by simp [Value.oneCell']) (by decide) (by unfold maxLen; omega) (by omega) (by first | exact hl4 | (simp; omega)) _ rfl ?_; intro gg cap w5 hown5 hgrow hat hlt; have hb5 : Below w1.heap.size w1 w5 := grown_to hgrow (by repeat (first | exact HB4.out | apply Below.drew | refine Below.alloc ?_ (by first | exact hl4 | (simp; try omega)) _)) (fun k e => (HR4.out.lt k e).1); have hm5 := M1.out.same (hb5.block _ l1); have hc53 : w5.cell? ⟨w.heap.size, 3, none⟩ = some (.slice As ss.length cs) := hm5.cell 3; have hf53 := hm5.frozen 3; have HO5 := Lib.hid hown5; have HB5 := Lib.hid hb5; clear hown5 hgrow hat hb5 hm5))
    all_goals
      have hm6 := HB5.out
      have x1 := (M1.out.same (hm6.block _ l1)).store 3 (.slice (some ⟨gg, 0, none⟩) (ss.length + 1) cap)
      have x2 := (M2.out.same (hm6.block _ l2)).at_other (c := w.heap.size) (by omega) 3 (.slice (some ⟨gg, 0, none⟩) (ss.length + 1) cap)
      have x3 := owns_mono (row_turn HO5.out ((Keeps.refl (fun b => b = w.heap.size) w5).setCell (p := ⟨w.heap.size, 3, none⟩) (.inl rfl) (.slice (some ⟨gg, 0, none⟩) (ss.length + 1) cap)) (fun b e hb => by
        have := (HO5.out.lt b e).1
        have : b = w.heap.size := hb
        omega)) (by omega : w.heap.size + 2 ≤ w1.heap.size)
      have x4 := (BS.out.trans (hm6.mono BS.out.size)).setCell (p := ⟨w.heap.size, 3, none⟩) (Nat.le_refl _) (.slice (some ⟨gg, 0, none⟩) (ss.length + 1) cap)
      have hfin : ∃ A c, Whole (w5.setCell ⟨w.heap.size, 3, none⟩ (.slice (some ⟨gg, 0, none⟩) (ss.length + 1) cap)) w.heap.size 69 #[.int .i64 nv, .int .i64 (now + 1), .slice Ai its.length ci, .slice A (ss.length + 1) c] ∧ Whole (w5.setCell ⟨w.heap.size, 3, none⟩ (.slice (some ⟨gg, 0, none⟩) (ss.length + 1) cap)) (w.heap.size + 1) 69 #[.int .i64 0, .int .i64 0, .slice none 0 0, .slice none 0 0] ∧ (w5.setCell ⟨w.heap.size, 3, none⟩ (.slice (some ⟨gg, 0, none⟩) (ss.length + 1) cap)).ownsRow (w.heap.size + 2) 3 1 (.slice A (ss.length + 1) c) (ss.length + 1) ((ss ++ [(its.length : Int)]).map (Value.int .i64)) ∧ Below w.heap.size w (w5.setCell ⟨w.heap.size, 3, none⟩ (.slice (some ⟨gg, 0, none⟩) (ss.length + 1) cap)) :=
        ⟨_, _, x1, x2, (by rw [List.map_append]; exact x3), x4⟩
      have HF := Lib.hid hfin
      clear hm6 x1 x2 x3 x4 hfin
      go_simp
      go_wp2_with fail
      go_meet
      exact HF.out
  case rest =>
    obtain ⟨A, c, h1, h2, hrow, hB⟩ := hcut
    obtain ⟨⟨e0, e1, e2, e3⟩, ⟨d0, f0⟩, ⟨d1, f1⟩, ⟨d2, f2⟩, ⟨d3, f3⟩, HZ, HBf⟩ := ref_end h1 h2 hB
    have HRow := Lib.hid hrow
    clear h1 h2 hB hrow HS1 M1 M2 BS c2 c3
    go_wp2_with fail
    have z0 : _ = some (Value.int .i64 nv) := HZ.out.cell 0
    have z1 : _ = some (Value.int .i64 (now + 1)) := HZ.out.cell 1
    have z2 : _ = some (Value.slice Ai its.length ci) := HZ.out.cell 2
    have z3 : _ = some (Value.slice A (ss.length + 1) c) := HZ.out.cell 3
    refine bodyPost_ret (v := .agg #[.int .i64 nv, .int .i64 (now + 1), .slice Ai its.length ci, .slice A (ss.length + 1) c]) (by simp [results, Try.results36, go_sem, z0, z1, z2, z3]) rfl ⟨_, rfl, ?_, HBf.out⟩
    refine owns_mono (row_turn HRow.out (((((Keeps.refl (fun b => b = w.heap.size + 1) _).setCell (p := ⟨w.heap.size + 1, 0, none⟩) (.inl rfl) _).setCell (p := ⟨w.heap.size + 1, 1, none⟩) (.inl rfl) _).setCell (p := ⟨w.heap.size + 1, 2, none⟩) (.inl rfl) _).setCell (p := ⟨w.heap.size + 1, 3, none⟩) (.inl rfl) _) (fun b e hb => ?_)) (by omega : w.heap.size ≤ w.heap.size + 2)
    have := (HRow.out.lt b e).1
    have hb : b = w.heap.size + 1 := hb
    omega
end Go.Proofs.Ytdeedmfofjdbjaa
