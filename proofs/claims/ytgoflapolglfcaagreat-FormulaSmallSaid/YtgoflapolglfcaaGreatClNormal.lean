/- The iterator of clauses.normal: it may sort into a block of its own, which no loop body touches. -/
import Derived.Test.YtgoflapolglfcaaGreatClSorted
namespace Go.Proofs.YtgoflapolglfcaaGreat
open Go.ChangeShapes Go.WideShapes Go.ChangeAt Go.RowKit Go.Shelf Go.Sort

attribute [local go_sem] Oper.semAt_some

/-- The box Bx holds a slice whose block is k, or one before it. -/
def RowOf (Bx : Nat) (W : World) (k : Nat) : Prop := ∃ v b, W.cell? ⟨Bx, 0, none⟩ = some v ∧ v.ownBlock = some b ∧ b ≤ k
/-- What a round keeps: all below B; and of the blocks from H on those that stand ahead of the row in the box Bx, which stay ahead of it. -/
def KpR (Bx B H : Nat) (W W' : World) : Prop := RowKit.Below B W W' ∧ ∀ k o, H ≤ k → W.heap[k]? = some o → o.isCells = true → ¬ RowOf Bx W k → W'.heap[k]? = some o ∧ ¬ RowOf Bx W' k
theorem kpR_t {Bx B H : Nat} {X Y Z : World} (h : KpR Bx B H X Y) (k : KpR Bx B H Y Z) : KpR Bx B H X Z :=
  ⟨h.1.trans k.1, fun j o hj ho hc hr => by
    obtain ⟨h1, h2⟩ := h.2 j o hj ho hc hr
    exact k.2 j o hj h1 hc h2⟩
theorem kpR_b {Bx B H : Nat} (hB : B ≤ H) (hx : Bx < H) (W : World) (l : Nat) (o o' : Obj) (hl : H ≤ l) (hW : W.heap[l]? = some o) (hc : o.isCells = false) (_ : o.isWalk = false) : KpR Bx B H W (W.putObj l o') := by
  have hlw := (Array.getElem?_eq_some_iff.1 hW).1
  have hb : RowKit.Below B W (W.putObj l o') := (RowKit.Below.refl B W).grown (grownBy_putObj' W l o') (by omega) (fun k e => by cases e; omega)
  refine ⟨hb, fun k ok hk hok hcok hr => ⟨?_, ?_⟩⟩
  · have hne : k ≠ l := fun e => by subst e; rw [hW] at hok; cases hok; rw [hc] at hcok; cases hcok
    rw [← hok]
    exact (grownBy_putObj' W l o').block k (Array.getElem?_eq_some_iff.1 hok).1 (fun e => hne (by cases e; rfl))
  · rintro ⟨v, b, h1, h2, h3⟩
    have hxb : (W.putObj l o').heap[Bx]? = W.heap[Bx]? := by
      by_cases hs : Bx < W.heap.size
      · exact (grownBy_putObj' W l o').block Bx hs (fun e => by cases e; omega)
      · have hl' := (Array.getElem?_eq_some_iff.1 hW).1
        omega
    exact hr ⟨v, b, by rw [← h1]; exact (World.cell?_of_block (w := W) (a := ⟨Bx, 0, none⟩) hxb).symm, h2, h3⟩
theorem below_grownBy {W W' : World} (h : RowKit.Below W.heap.size W W') : W.grownBy W' none := ⟨h.os, h.tape, h.output, h.size, fun k hk _ => h.block k hk⟩

set_option maxHeartbeats 1000000 in
theorem normal_in (n : Nat) (B : Nat) (sv : Value) (zs : List Int) (w : World) (h : Ints B w sv zs) :
    CallsIn .wide n Tryz.prog 67 #[sv] w fun e w' => e = .returned (.func (.func 81) #[] #[.pointer (some ⟨w.heap.size, 0, none⟩)]) ∧ w' = w.alloc (.cells #[sv] 36) := by
  obtain ⟨A, c, rfl, -⟩ := ints_shape h
  refine callsIn_of_wp Tryz.func67 rfl trivial ?_ rfl
  simp only [Tryz.ntmps67, List.size_toArray, List.length_cons, List.length_nil, Nat.reduceAdd, Nat.reduceSub, Array.replicate_succ, Array.replicate_zero, List.push_toArray, List.append_toArray, List.nil_append, List.cons_append]
  gi_wp2
  go_ret
  exact ⟨rfl, rfl⟩

/-- What the rounds of the loop keep readable. -/
def KeepsC (Bx B H : Nat) (A : Option Addr) (zs : List Int) (Keep : World → Prop) : Prop :=
  (∀ W, Keep W → ∀ j, j < zs.length → ∃ b off, A = some ⟨b, off, none⟩ ∧ W.cell? ⟨b, off + j, none⟩ = some (.int .i64 (zs[j]?.getD 0))) ∧ ∀ W W', Keep W → KpR Bx B H W W' → Keep W'
theorem cells_of_cell {W : World} {b o : Nat} {v : Value} (h : W.cell? ⟨b, o, none⟩ = some v) : ∃ ob : Obj, W.heap[b]? = some ob ∧ ob.isCells = true := by
  unfold World.cell? at h
  cases hb : W.heap[b]? with
  | none => simp [hb] at h
  | some ob =>
    refine ⟨ob, rfl, ?_⟩
    cases ob <;> first | rfl | (simp [hb] at h)
theorem keeps_of {Bx B H : Nat} {w W : World} {sv v : Value} {zs : List Int} (hH : H ≤ w.heap.size) (hf : FreshOr w sv zs v W) (hI : Lits B W sv zs) (hr : ∀ k, w.heap.size ≤ k → ¬ RowOf Bx W k) :
    ∃ A c Keep, v = .slice A (normL zs).length c ∧ KeepsC Bx B H A (normL zs) Keep ∧ Keep W := by
  rcases hf with ⟨rfl, hn⟩ | ⟨b, cap, rfl, h1, h2, h3⟩
  · obtain ⟨A, c, rfl, hc⟩ := ints_shape hI.ints
    refine ⟨A, c, fun W' => RowKit.Below B W W', by rw [hn], ⟨fun W' hW' j hj => ?_, fun X Y hX hXY => hX.trans hXY.1⟩, RowKit.Below.refl _ _⟩
    rw [hn] at hj ⊢
    obtain ⟨b, off, e, hb, hcj⟩ := hc j hj
    exact ⟨b, off, e, (hW'.cell (p := ⟨b, off + j, none⟩) hb).trans hcj⟩
  · by_cases h0 : (normL zs).length = 0
    · exact ⟨_, cap, fun _ => True, rfl, ⟨fun _ _ j hj => by omega, fun _ _ _ _ => trivial⟩, trivial⟩
    · have hc0 := (h3 0 (by simp; omega)).1
      obtain ⟨ob, hob, hoc⟩ := cells_of_cell hc0
      refine ⟨_, cap, fun W' => W'.heap[b]? = some ob ∧ ¬ RowOf Bx W' b, rfl, ⟨fun W' hW' j hj => ⟨b, 0, rfl, ?_⟩, fun X Y hX hXY => hXY.2 b ob (Nat.le_trans hH h1) hX.1 hoc hX.2⟩, ⟨hob, hr b h1⟩⟩
      rw [World.cell?_of_block (w := W) (a := ⟨b, 0 + j, none⟩) (hW'.1.trans hob.symm), (h3 j (by simpa using hj)).1, bang_get]

set_option maxRecDepth 100000 in
set_option maxHeartbeats 2000000 in
theorem normal1_in (n : Nat) (hn : 1 ≤ n) (l Bs Bx B H : Nat) (sv : Value) (zs : List Int) (hreach : zs.length ≤ 1000000) (J Jx : List Int → World → Prop)
    (hY : ∀ pre x W, J pre W → pre.length < zs.length → YieldAt .wide (n - 1) Tryz.prog l #[.int .i64 x] W fun e W' =>
      (e = .returned (.bool true) ∧ J (pre ++ [x]) W' ∧ KpR Bx B H W W') ∨ (e = .returned (.bool false) ∧ Jx (pre ++ [x]) W'))
    (W : World) (hBW : B ≤ W.heap.size) (hH : H ≤ W.heap.size) (hJ : ∀ W', RowKit.Below W.heap.size W W' → J [] W → J [] W') (hr : ∀ W', RowKit.Below W.heap.size W W' → ∀ k, W.heap.size ≤ k → ¬ RowOf Bx W' k)
    (hBs : W.cell? ⟨Bs, 0, none⟩ = some sv) (hI : Lits B W sv zs) (h0 : J [] W) :
    CallsIn .wide n Tryz.prog 81 #[.func (.yield l) #[] #[], .pointer (some ⟨Bs, 0, none⟩)] W fun e W' => (∃ v, e = .returned v) ∧
      ((∃ ys, ys = normL zs ∧ J ys W') ∨ (∃ pre, pre <+: normL zs ∧ Jx pre W')) := by
  have hS := clsorted_fine sv zs hreach W (hI.more hBW)
  have hnl := norm_length zs
  have hKW : Hid (∀ v W1, FreshOr W sv zs v W1 → RowKit.Below W.heap.size W W1 → ∃ A c Keep, v = .slice A (normL zs).length c ∧ KeepsC Bx B H A (normL zs) Keep ∧ Keep W1) := fun v W1 hf hb => keeps_of hH hf (hI.below (hb.mono hBW)) (hr W1 hb)
  obtain ⟨A0, c0, rfl, -⟩ := ints_shape hI.ints
  have HS := Lib.hid hS; have HJ := Lib.hid hJ; have HY := Lib.hid hY; have HJ0 := Lib.hid h0
  clear hS hI hJ hr hY h0
  obtain ⟨ns, hns⟩ : ∃ ns, normL zs = ns := ⟨_, rfl⟩
  rw [hns] at hKW hnl ⊢
  clear hns
  refine callsIn_of_wp Tryz.func81 rfl trivial ?_ rfl
  simp only [Tryz.ntmps81, List.size_toArray, List.length_cons, List.length_nil, Nat.reduceAdd, Nat.reduceSub, Array.replicate_succ, Array.replicate_zero, List.push_toArray, List.append_toArray, List.nil_append, List.cons_append]
  gi_wp2_with (refine ⟨trivial, ?_⟩; gi_at_call 71; refine (callsIn_wide.2 HS.out).mono ?_; rintro e W1 ⟨v, rfl, hf1, hb1⟩; obtain ⟨A, c, Keep, rfl, hks, hk1⟩ := hKW.out v W1 hf1 hb1; clear hf1)
  have hJ1 := HJ.out W1 hb1 HJ0.out
  obtain ⟨hkc, hkp⟩ := hks
  have HKc := Lib.hid hkc; have HKp := Lib.hid hkp
  clear hkc hkp hb1 hKW
  gi_loopw [8] (fun i wr => ∃ (k : Nat) (pre : List Int), k ≤ ns.length ∧ i = .int .i64 k ∧ pre = ns.take k ∧ J pre wr ∧ Keep wr)
    (fun i _ => ns.length - (intOf i).toNat)
  case atStart => exact ⟨0, [], Nat.zero_le _, rfl, rfl, hJ1, hk1⟩
  case round =>
    obtain ⟨k, pre, hk, rfl, hp, hJs, hkw⟩ := hrel
    have hpl : pre.length ≤ k := by rw [hp, List.length_take]; omega
    have Hp := Lib.hid hp; clear hp
    by_cases hlt : k < ns.length
    · obtain ⟨b, off, rfl, hcx'⟩ := HKc.out wr hkw k hlt
      have ht := Lib.hid (take_one ns hlt)
      obtain ⟨x, hx⟩ : ∃ x, ns[k]?.getD 0 = x := ⟨_, rfl⟩
      rw [hx] at hcx' ht
      clear hx
      obtain ⟨fn, tmps, assign, body, hy, hR⟩ := HY.out pre x wr hJs (by omega)
      gi_wp2_with fail
      refine hR.mono ?_
      rintro e W3 (⟨rfl, hJ3, hk3⟩ | ⟨rfl, hJx3⟩)
      · gi_wp2
        go_roundw
        case rel => exact ⟨k + 1, pre ++ [x], by omega, by go_num, by rw [ht.out, Hp.out], hJ3, HKp.out _ _ hkw hk3⟩
        case measure => simp [intOf]; omega
      · gi_wp2
        refine bodyPost_ret (results_none rfl _ _ _) rfl ?_
        exact ⟨⟨_, rfl⟩, .inr ⟨pre ++ [x], by rw [Hp.out, ← ht.out]; exact List.take_prefix _ _, hJx3⟩⟩
    · obtain rfl : k = ns.length := by omega
      gi_wp2
      go_end0
      exact ⟨⟨_, rfl⟩, .inl ⟨pre, by rw [Hp.out, List.take_length], hJs⟩⟩

/-- The iterator yields the normal form. -/
theorem normal_stops (n : Nat) (hn : 1 ≤ n) (Bs Bx B : Nat) (sv : Value) (zs : List Int) (hreach : zs.length ≤ 1000000) (w : World) (hBs : Bs < w.heap.size) (hBx : Bx < w.heap.size) (hB : B ≤ w.heap.size)
    (hc : w.cell? ⟨Bs, 0, none⟩ = some sv) (hI : Lits B w sv zs) (h0 : ∀ v, w.cell? ⟨Bx, 0, none⟩ = some v → v.ownBlock = none) :
    SeqStopsK .wide n Tryz.prog 81 #[.pointer (some ⟨Bs, 0, none⟩)] (fun x : Int => #[Value.int .i64 x]) (KpR Bx B w.heap.size) (fun ys => ys = normL zs) (fun pre => pre <+: normL zs) zs.length w := fun l J Jx W hW hJ _ hY hj0 => by
  refine normal1_in n hn l Bs Bx B w.heap.size sv zs hreach J Jx hY W (Nat.le_trans hB hW.size) hW.size (fun W' hb h => hJ [] W W' none h (below_grownBy hb) (fun r e => by cases e)) ?_ ((hW.cell (p := ⟨Bs, 0, none⟩) hBs).trans hc) (hI.below (hW.mono hB)) hj0
  rintro W' hb k - ⟨v, b, h1, h2, -⟩
  have h3 : W'.cell? ⟨Bx, 0, none⟩ = w.cell? ⟨Bx, 0, none⟩ := (hb.cell (p := ⟨Bx, 0, none⟩) (Nat.lt_of_lt_of_le hBx hW.size)).trans (hW.cell (p := ⟨Bx, 0, none⟩) hBx)
  rw [h3] at h1
  rw [h0 v h1] at h2
  cases h2
end Go.Proofs.YtgoflapolglfcaaGreat
