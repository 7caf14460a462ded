/- strings.SplitSeq at one byte: what it yields, and a loop over it. -/
import Derived.Test.YticcgmegimiegaaGreatDoorSegs
import Derived.Test.YticcgmegimiegaaGreatDoorSteady
import Derived.Test.YticcgmegimiegaaGreatDoorIter
import Derived.Test.YticcgmegimiegaaGreatDoorShelf
import Derived.RangeFuncBox
import Derived.RangeFuncNested
import Derived.RangeFuncLeaves
import Derived.Shelf.Abstract
import Derived.Shelf.AbstractIn
import Derived.Shelf.RegionOpen
import Derived.OwnWalkIn
import Derived.TacticsInMore
import Derived.LoopNIn
import Derived.LoopIn
import Derived.Stop.RegionWithIn
namespace Go.Proofs.YticcgmegimiegaaGreatDoor
open Go.RowKit Go.ChangeAt Go.ChangeShapes Go.WideShapes

attribute [local go_sem] Oper.semAt_some

/-- A text as a value. -/
abbrev str (l : List UInt8) : Value := .string ⟨l.toArray⟩
theorem str_size (l : List UInt8) : (⟨l.toArray⟩ : ByteArray).size = l.length := by simp [ByteArray.size]
theorem str_list (l : List UInt8) : (⟨l.toArray⟩ : ByteArray).data.toList = l := by simp
theorem str_ext {a b : ByteArray} (h : a.data.toList = b.data.toList) : a = b := by
  apply ByteArray.ext
  exact Array.toList_inj.1 h
theorem str_back (b : ByteArray) : (⟨b.data.toList.toArray⟩ : ByteArray) = b := str_ext (by simp)
theorem str_take (l : List UInt8) (i : Nat) : (⟨l.toArray⟩ : ByteArray).extract 0 i = ⟨(l.take i).toArray⟩ := str_ext (by simp [ByteArray.data_extract])
theorem str_drop (l : List UInt8) (i n : Nat) (h : l.length ≤ n) : (⟨l.toArray⟩ : ByteArray).extract i n = ⟨(l.drop i).toArray⟩ := str_ext (by
  simp [ByteArray.data_extract]
  rw [List.take_of_length_le (by simp; omega)])

/-- What SplitSeq's function holds on to: what is left of the text, the byte, and 0. -/
def SpAt (c : UInt8) (bs br bk : Nat) (r : List UInt8) (W : World) : Prop :=
  Whole W bs 9 #[str [c]] ∧ Whole W br 9 #[str r] ∧ Whole W bk 3 #[.int .i64 0]
theorem SpAt.on {c : UInt8} {bs br bk : Nat} {r : List UInt8} {W W' : World} (h : SpAt c bs br bk r W) (hb : Below W.heap.size W W') : SpAt c bs br bk r W' :=
  ⟨h.1.same (hb.block _ h.1.lt), h.2.1.same (hb.block _ h.2.1.lt), h.2.2.same (hb.block _ h.2.2.lt)⟩
theorem SpAt.cut {c : UInt8} {bs br bk : Nat} {r : List UInt8} {W : World} (h : SpAt c bs br bk r W) (hs : bs ≠ br) (hk : bk ≠ br) (r' : List UInt8) : SpAt c bs br bk r' (W.setCell ⟨br, 0, none⟩ (str r')) :=
  ⟨h.1.same (Below.heap_setCell _ _ _ _ hs), h.2.1.store 0 (str r'), h.2.2.same (Below.heap_setCell _ _ _ _ hk)⟩
/-- How much of the text is left. -/
def restLen (br : Nat) (W : World) : Nat := match W.cell? ⟨br, 0, none⟩ with
  | some (.string b) => b.size
  | _ => 0
def SplitRel (J : Nat → List UInt8 → World → Prop) (c : UInt8) (S : List UInt8) (W : World) : Prop := ∃ k r, J k r W ∧ r.length ≤ S.length ∧ ∃ pre, pre.length = k ∧ segs c S = pre ++ segs c r
set_option maxRecDepth 100000 in
set_option maxHeartbeats 4000000 in
theorem split1_in (m : Nat) (hm : 1 ≤ m) (c : UInt8) (bs br bk : Nat) (S : List UInt8) (hS : S.length ≤ 4000000000) (l : Nat) (J : Nat → List UInt8 → World → Prop) (Jx : World → Prop)
    (hA : ∀ k r W, J k r W → SpAt c bs br bk r W)
    (hcut : ∀ k r r' W, J k r W → J k r' (W.setCell ⟨br, 0, none⟩ (str r'))) (W : World) (h0 : J 0 S W)
    (hY : ∀ k r x W, J k r W → (segs c S)[k]? = some x → YieldAt .wide (m - 1) Tryz.prog l #[str x] W fun e W' => (e = .returned (.bool true) ∧ J (k + 1) r W') ∨ (e = .returned (.bool false) ∧ Jx W')) :
    CallsIn .wide m Tryz.prog 137 #[.func (.yield l) #[] #[], .pointer (some ⟨bs, 0, none⟩), .pointer (some ⟨br, 0, none⟩), .pointer (some ⟨bk, 0, none⟩)] W fun e W' => (∃ v, e = .returned v) ∧ ((∃ r, J (segs c S).length r W') ∨ Jx W') := by
  have HA := Lib.hid hA; have HY := Lib.hid hY; have HCut := Lib.hid hcut
  have hstart : SplitRel J c S W := ⟨0, S, h0, Nat.le_refl _, [], rfl, rfl⟩
  obtain ⟨⟨hb1, hb2, hb3⟩⟩ := (⟨hA 0 S W h0⟩ : Nonempty _)
  have cs := hb1.cell 0
  have H0 := Lib.hid hstart
  clear hA hY h0 hstart hcut hb1 hb2 hb3
  have cs : W.cell? ⟨bs, 0, none⟩ = some (str [c]) := cs
  refine callsIn_of_wp Tryz.func137 rfl trivial ?_ rfl
  simp only [Tryz.ntmps137, List.size_toArray, List.length_cons, List.length_nil, Nat.reduceAdd, Nat.reduceSub, Array.replicate_succ, Array.replicate_zero, List.push_toArray, List.append_toArray, List.nil_append, List.cons_append]
  gi_wp2_with fail
  gi_loopw [7] (fun _ wr => SplitRel J c S wr) (fun _ wr => restLen br wr)
  case atStart => exact H0.out
  case round =>
    clear H0
    obtain ⟨k, r, hJ, hrl, pre, hpl, hseg⟩ := hrel
    obtain ⟨a1, a2, a3⟩ := HA.out k r wr hJ
    have c1 : wr.cell? ⟨bs, 0, none⟩ = some (str [c]) := a1.cell 0
    have c2 : wr.cell? ⟨br, 0, none⟩ = some (str r) := a2.cell 0
    have c3 : wr.cell? ⟨bk, 0, none⟩ = some (.int .i64 0) := a3.cell 0
    have f2 := a2.frozen 0
    have hix := Tryz.strings_Index_one_f100 ⟨r.toArray⟩ c wr
    rw [str_list, ← Lib.index_one] at hix
    have HIx := Lib.hid hix
    clear hix a1 a2 a3
    rcases index_cases r c with hi | ⟨i, hi⟩
    · have hm := segs_miss (split_no hi)
      have hk : (segs c S)[k]? = some r := by
        rw [hseg, hm, List.getElem?_append_right (by omega), hpl, Nat.sub_self]; rfl
      have hfin : (segs c S).length = k + 1 := by rw [hseg, hm, List.length_append, hpl]; rfl
      obtain ⟨fn, tmps, assign, body, hy, hR⟩ := HY.out k r r wr hJ hk
      have HFin := Lib.hid hfin; have HI := Lib.hid hi
      clear hm hk hfin hseg hpl hi hJ
      gi_wp2_with (refine ⟨trivial, ?_⟩; gi_at_call 100; refine (callsIn_wide.2 HIx.out).mono ?_; rintro e w' ⟨rfl, rfl⟩; rw [HI.out])
      refine hR.mono ?_
      rintro e W3 (⟨rfl, hJ3⟩ | ⟨rfl, hJx3⟩)
      · gi_wp2
        go_end0
        exact ⟨⟨_, rfl⟩, .inl ⟨r, by rw [HFin.out]; exact hJ3⟩⟩
      · gi_wp2
        go_end0
        exact ⟨⟨_, rfl⟩, .inr hJx3⟩
    · obtain ⟨hil, hfree, hcat⟩ := split_at hi
      have hs2 : segs c r = r.take i :: segs c (r.drop (i + 1)) := by
        conv => lhs; rw [hcat]
        exact segs_hit _ hfree
      have hk : (segs c S)[k]? = some (r.take i) := by
        rw [hseg, hs2, List.getElem?_append_right (by omega), hpl, Nat.sub_self]; rfl
      have hnx : segs c S = (pre ++ [r.take i]) ++ segs c (r.drop (i + 1)) := by rw [hseg, hs2]; simp
      obtain ⟨fn, tmps, assign, body, hy, hR⟩ := HY.out k r (r.take i) wr hJ hk
      have e1 := str_take r i
      have e2 := str_drop r (i + 1)
      have hsz := str_size r
      have HNx := Lib.hid hnx; have HI := Lib.hid hi; have HPl := Lib.hid hpl; have HRl := Lib.hid hrl
      have hrS : (r.length : Int) ≤ 4000000000 := by omega
      have hil2 : (i : Int) < (r.length : Int) := by omega
      clear hk hseg hi hJ hnx hfree hcat hs2 hpl hrl
      gi_wp2_with (refine ⟨trivial, ?_⟩; gi_at_call 100; refine (callsIn_wide.2 HIx.out).mono ?_; rintro e w' ⟨rfl, rfl⟩; rw [HI.out])
      refine hR.mono ?_
      rintro e W3 (⟨rfl, hJ3⟩ | ⟨rfl, hJx3⟩)
      · obtain ⟨a1, a2, a3⟩ := HA.out (k + 1) r W3 hJ3
        have d1 : W3.cell? ⟨bs, 0, none⟩ = some (str [c]) := a1.cell 0
        have d2 : W3.cell? ⟨br, 0, none⟩ = some (str r) := a2.cell 0
        have g2 := a2.frozen 0
        have hre : SplitRel J c S (W3.setCell ⟨br, 0, none⟩ (str (r.drop (i + 1)))) := ⟨k + 1, r.drop (i + 1), HCut.out _ _ _ _ hJ3, by rw [List.length_drop]; have := HRl.out; omega, pre ++ [r.take i], by rw [List.length_append, HPl.out]; rfl, HNx.out⟩
        have hme : restLen br (W3.setCell ⟨br, 0, none⟩ (str (r.drop (i + 1)))) < restLen br w' := by
          unfold restLen
          rw [(a2.store 0 (str (r.drop (i + 1)))).cell 0, c2]
          simp [ByteArray.size]
          omega
        have HRe := Lib.hid hre; have HMe := Lib.hid hme
        clear a1 a2 a3 hJ3 hre hme
        gi_wp2
        go_roundw
        case rel => exact HRe.out
        case measure => exact HMe.out
      · gi_wp2
        try rw [Exit.noGoto_ret]
        refine bodyPost_ret (results_none rfl _ _ _) rfl ?_
        exact ⟨⟨_, rfl⟩, .inr hJx3⟩
/-- What SplitSeq gives back. -/
theorem splitSeq_any (s : List UInt8) (c : UInt8) (w : World) :
    Calls Tryz.prog 95 #[str s, str [c]] w fun e w' => e = .returned (.func (.func 137) #[] #[.pointer (some ⟨w.heap.size + 1, 0, none⟩), .pointer (some ⟨w.heap.size, 0, none⟩), .pointer (some ⟨w.heap.size + 1 + 1, 0, none⟩)]) ∧ SpAt c (w.heap.size + 1) w.heap.size (w.heap.size + 1 + 1) s w' ∧ Below w.heap.size w w' := by
  have hin : Calls Tryz.prog 115 #[str s, str [c], .int .i64 0] w fun e w' => e = .returned (.func (.func 137) #[] #[.pointer (some ⟨w.heap.size + 1, 0, none⟩), .pointer (some ⟨w.heap.size, 0, none⟩), .pointer (some ⟨w.heap.size + 1 + 1, 0, none⟩)]) ∧ w' = ((w.alloc (.cells #[str s] 9)).alloc (.cells #[str [c]] 9)).alloc (.cells #[.int .i64 0] 3) := by
    go_enter Tryz.func115, Tryz.ntmps115
    go_wp2_with fail
    go_ret
    exact ⟨rfl, rfl⟩
  go_enter Tryz.func95, Tryz.ntmps95
  go_wp2_with fail
  refine hin.mono ?_
  rintro e w' ⟨rfl, rfl⟩
  go_wp2_with fail
  go_ret
  have h1 := Whole.made w 9 #[str s]
  have h2 := Whole.made (w.alloc (.cells #[str s] 9)) 9 #[str [c]]
  have h3 := Whole.made ((w.alloc (.cells #[str s] 9)).alloc (.cells #[str [c]] 9)) 3 #[.int .i64 0]
  rw [World.size_alloc] at h2
  rw [World.size_alloc, World.size_alloc] at h3
  have b1 : ∀ (W : World) (o : Obj), Below W.heap.size W (W.alloc o) := fun W o => (Below.refl _ W).alloc (Nat.le_refl _) o
  refine ⟨rfl, ⟨h2.same ((b1 _ _).block _ h2.lt), (h1.same ((b1 _ _).block _ h1.lt)).same ((b1 _ _).block _ (h1.same ((b1 _ _).block _ h1.lt)).lt), h3⟩, ?_⟩
  exact (((Below.refl _ w).alloc (Nat.le_refl _) _).alloc (by simp) _).alloc (by simp; omega) _
/-- The iterator of SplitSeq. -/
theorem split_iter (c : UInt8) (bs br bk : Nat) (S : List UInt8) (hS : S.length ≤ 4000000000) (hne : bs ≠ br ∧ bk ≠ br) :
    IterIn Tryz.prog 137 #[.pointer (some ⟨bs, 0, none⟩), .pointer (some ⟨br, 0, none⟩), .pointer (some ⟨bk, 0, none⟩)] ((segs c S).map fun x => #[str x]) (fun b => b = bs ∨ b = br ∨ b = bk) (SpAt c bs br bk S) := by
  intro m l J Jx W hJ hJx h0 hc hY
  have h := split1_in (m + 1) (by omega) c bs br bk S hS l (fun k r W => J k (fun b => b = bs ∨ b = br ∨ b = bk) W ∧ SpAt c bs br bk r W) (Jx (fun b => b = bs ∨ b = br ∨ b = bk)) (fun k r W h => h.2)
    (fun k r r' W h => ⟨(hJ k).keep _ _ _ h.1 ((Keeps.refl _ W).setCell (.inl (.inr (.inl rfl))) _), h.2.cut hne.1 hne.2 r'⟩) W ⟨h0, hc⟩
    (fun k r x W h hx => yield_any (m := m) (by
      obtain ⟨fn, tmps, as', bd, hy, hR⟩ := hY k _ #[str x] W h.1 (by rw [List.getElem?_map, hx]; rfl)
      refine ⟨fn, tmps, as', bd, hy, hR.mono fun e W' h' => ?_⟩
      rcases h' with ⟨h1, h2, h3⟩ | h'
      · obtain ⟨s1, s2, s3⟩ := h.2
        exact .inl ⟨h1, h2, s1.same (h3.2 bs (.inl rfl)), s2.same (h3.2 br (.inr (.inl rfl))), s3.same (h3.2 bk (.inr (.inr rfl)))⟩
      · exact .inr ⟨h'.1, h'.2.1⟩))
  refine calls_any (m := m + 1) (h.mono ?_)
  rintro e W' ⟨h1, h2⟩
  refine ⟨h1, h2.imp (fun ⟨r, h⟩ => ⟨_, by rw [List.length_map]; exact h.1⟩) (fun h => ⟨_, h⟩)⟩
end Go.Proofs.YticcgmegimiegaaGreatDoor
