/- Loops over a trail: Lits and Down. -/
import Derived.Test.YtdeedmfofjdbjaaTrAssign
import Derived.Test.YtdeedmfofjdbjaaTrBack
import Derived.Test.YtdeedmfofjdbjaaScopeIn
import Derived.RangeFuncBox
import Derived.RangeFuncNested
import Derived.RangeFuncLeaves
import Derived.Shelf.Abstract
import Derived.Shelf.AbstractIn
import Derived.Shelf.RegionOpen
import Derived.OwnWalkIn
import Derived.TacticsInMore
import Derived.LoopNIn
import Derived.LoopIn
import Derived.Stop.RegionWithIn
namespace Go.Proofs.Ytdeedmfofjdbjaa
open Go.RowKit Go.ChangeAt Go.ChangeShapes Go.WideShapes

attribute [local go_sem] Oper.semAt_some

/-- Where a walk over a trail stands: how many rounds are done, and the trail's blocks. -/
abbrev TrS := Nat × (Nat → Prop)
def TrHas (g nv bt : Nat) (itf : Nat → List It) (stf : Nat → List Nat) (s : TrS) (W : World) : Prop :=
  Trl s.2 W g nv (itf s.1) (stf s.1) ∧ W.cell? ⟨bt, 0, none⟩ = some (.pointer (some ⟨g, 0, none⟩))
def LitsRel (J : TrS → World → Prop) (f : Nat) (i : Value) (W : World) : Prop := ∃ k K, i = .int .i64 ((f + k : Nat) : Int) ∧ J (k, K) W
set_option maxRecDepth 100000 in
set_option maxHeartbeats 4000000 in
theorem lits1_in (m : Nat) (hm : 1 ≤ m) (g nv bf bt : Nat) (from_ : Int) (f : Nat) (hf : max from_ 0 = (f : Int)) (hnv : nv ≤ 1048576) (itf : Nat → List It) (stf : Nat → List Nat) (l : Nat) (J : TrS → World → Prop) (Jx : World → Prop)
    (hA : ∀ s W, J s W → TrHas g nv bt itf stf s W) (W : World) (K0 : Nat → Prop) (hfr : W.cell? ⟨bf, 0, none⟩ = some (.int .i64 from_)) (h0 : J (0, K0) W)
    (hY : ∀ (s : TrS) x W, J s W → (itf s.1)[f + s.1]? = some x → YieldAt .wide (m - 1) Try.prog l #[.int .i64 ((f + s.1 : Nat) : Int), .int .i64 x.lit] W fun e W' => (e = .returned (.bool true) ∧ ∃ K', J (s.1 + 1, K') W') ∨ (e = .returned (.bool false) ∧ Jx W')) :
    CallsIn .wide m Try.prog 45 #[.func (.yield l) #[] #[], .pointer (some ⟨bf, 0, none⟩), .pointer (some ⟨bt, 0, none⟩)] W fun e W' => (∃ v, e = .returned v) ∧ ((∃ s : TrS, (itf s.1).length ≤ f + s.1 ∧ J s W') ∨ Jx W') := by
  have HA := Lib.hid hA; have HY := Lib.hid hY
  have hstart : LitsRel J f (.int .i64 (f : Nat)) W := ⟨0, K0, rfl, h0⟩
  have H0 := Lib.hid hstart
  clear hA hY h0 hstart
  refine callsIn_of_wp Try.func45 rfl trivial ?_ rfl
  simp only [Try.ntmps45, List.size_toArray, List.length_cons, List.length_nil, Nat.reduceAdd, Nat.reduceSub, Array.replicate_succ, Array.replicate_zero, List.push_toArray, List.append_toArray, List.nil_append, List.cons_append]
  have hcase : (from_ < 0 ∧ f = 0) ∨ (0 ≤ from_ ∧ from_ = (f : Int)) := by omega
  rcases hcase with ⟨hneg, hf0⟩ | ⟨hpos, rfl⟩
  all_goals
    gi_wp2_with fail
    clear hf hfr
    gi_loopw [4] (fun i wr => LitsRel J f i wr) (fun i _ => nv + 1 - (intOf i).toNat)
    case atStart =>
      have hs := H0.out
      first
        | exact hs
        | (rw [hf0] at hs ⊢; exact hs)
    case round =>
      clear H0
      obtain ⟨k, K, rfl, hJs⟩ := hrel
      obtain ⟨hT, hbt⟩ := HA.out _ _ hJs
      have hlen := hT.good.len
      dsimp only at hlen
      obtain ⟨q, hq⟩ : ∃ q, f + k = q := ⟨_, rfl⟩
      by_cases hlt : q < (itf k).length
      · obtain ⟨x, hx⟩ : ∃ x, (itf k)[q]? = some x := ⟨(itf k)[q]'hlt, List.getElem?_eq_getElem _⟩
        obtain ⟨b, Ap, As, cp, cs, hc0, hc1, hc2, -, hp, -, hgl⟩ := hT.cells
        obtain ⟨bp, rfl, hbl, hcx⟩ := hp _ x hx
        obtain ⟨fn, tmps, assign, body, hy, hR⟩ := HY.out (k, K) x wr hJs (by rw [hq]; exact hx)
        dsimp only at hy hR
        obtain ⟨n, hn⟩ : ∃ n, (itf k).length = n := ⟨_, rfl⟩
        have hln := len_tr wr hT
        dsimp only at hln hc1
        rw [hn] at hln hc1 hlen hlt
        have HLn := Lib.hid hln
        try rw [hq] at hy
        rw [hq]
        have HQ := Lib.hid hq
        obtain ⟨y, hyy⟩ : ∃ y, x.lit = y := ⟨_, rfl⟩
        rw [hyy] at hcx hy
        have hqn : (q : Int) < (n : Int) := by omega
        have hqs : (q : Int) < 1048576 := by omega
        clear hT hp hx hln hn hq hyy hJs hc0 hc2 hlt
        gi_wp2_with (refine ⟨trivial, ?_⟩; gi_at_call 18; refine (callsIn_wide.2 HLn.out).mono ?_; rintro e w' ⟨rfl, rfl⟩)
        refine hR.mono ?_
        rintro e W3 (⟨rfl, K3, hJ3⟩ | ⟨rfl, hJx3⟩)
        · gi_wp2
          go_roundw
          case rel => exact ⟨k + 1, K3, by rw [← Nat.add_assoc, HQ.out]; go_num, hJ3⟩
          case measure => simp [intOf]; omega
        · gi_wp2
          refine bodyPost_ret (results_none rfl _ _ _) rfl ?_
          exact ⟨⟨_, rfl⟩, .inr hJx3⟩
      · have hln := len_tr wr hT
        obtain ⟨n, hn⟩ : ∃ n, (itf k).length = n := ⟨_, rfl⟩
        dsimp only at hln
        rw [hn] at hln hlt
        have HLn := Lib.hid hln
        have hqn : ¬ ((q : Int) < (n : Int)) := by omega
        have HJs := Lib.hid hJs
        have hfin : (itf k).length ≤ f + k := by rw [hn]; exact Nat.le_of_not_lt (by rw [hq]; exact hlt)
        have HF := Lib.hid hfin
        rw [hq]
        clear hT hln hn hq hJs hlt hfin
        gi_wp2_with (refine ⟨trivial, ?_⟩; gi_at_call 18; refine (callsIn_wide.2 HLn.out).mono ?_; rintro e w' ⟨rfl, rfl⟩)
        go_end0
        exact ⟨⟨_, rfl⟩, .inl ⟨(k, K), HF.out, HJs.out⟩⟩

def DownRel (J : TrS → World → Prop) (n0 : Nat) (i : Value) (W : World) : Prop := ∃ k K, k ≤ n0 ∧ i = .int .i64 ((n0 : Int) - 1 - (k : Int)) ∧ J (k, K) W
set_option maxRecDepth 100000 in
set_option maxHeartbeats 4000000 in
theorem down1_in (m : Nat) (hm : 1 ≤ m) (g nv bt : Nat) (n0 : Nat) (hnv : nv ≤ 1048576) (itf : Nat → List It) (stf : Nat → List Nat) (hn0 : (itf 0).length = n0) (l : Nat) (J : TrS → World → Prop) (Jx : World → Prop)
    (hA : ∀ s W, J s W → TrHas g nv bt itf stf s W) (hSk : ∀ (s : TrS) W, J s W → s.1 < n0 → (itf s.1).length ≤ n0 - 1 - s.1 → J (s.1 + 1, s.2) W) (W : World) (K0 : Nat → Prop) (h0 : J (0, K0) W)
    (hY : ∀ (s : TrS) x W, J s W → s.1 < n0 → (itf s.1)[n0 - 1 - s.1]? = some x → YieldAt .wide (m - 1) Try.prog l #[.int .i64 ((n0 - 1 - s.1 : Nat) : Int), .int .i64 x.lit] W fun e W' => (e = .returned (.bool true) ∧ ∃ K', J (s.1 + 1, K') W') ∨ (e = .returned (.bool false) ∧ Jx W')) :
    CallsIn .wide m Try.prog 46 #[.func (.yield l) #[] #[], .pointer (some ⟨bt, 0, none⟩)] W fun e W' => (∃ v, e = .returned v) ∧ ((∃ s : TrS, s.1 = n0 ∧ J s W') ∨ Jx W') := by
  obtain ⟨hT0, hbt0⟩ := hA _ _ h0
  have hl0 := len_tr W hT0
  have hle := hT0.good.len
  dsimp only at hl0 hle
  rw [hn0] at hl0 hle
  have hn1 : (n0 : Int) ≤ 1048576 := by omega
  have HL0 := Lib.hid hl0
  have HA := Lib.hid hA; have HY := Lib.hid hY; have HSk := Lib.hid hSk
  have hstart : DownRel J n0 (.int .i64 ((n0 : Int) - 1)) W := ⟨0, K0, by omega, by simp, h0⟩
  have H0 := Lib.hid hstart
  clear hA hY h0 hstart hSk hT0 hl0 hle hn0
  refine callsIn_of_wp Try.func46 rfl trivial ?_ rfl
  simp only [Try.ntmps46, List.size_toArray, List.length_cons, List.length_nil, Nat.reduceAdd, Nat.reduceSub, Array.replicate_succ, Array.replicate_zero, List.push_toArray, List.append_toArray, List.nil_append, List.cons_append]
  gi_wp2_with fail
  refine wpIn_scope_straight (wpIn_seq (wpIn_label ?_))
  gi_wp2_with (refine ⟨trivial, ?_⟩; gi_at_call 18; refine (callsIn_wide.2 HL0.out).mono ?_; rintro e w' ⟨rfl, rfl⟩)
  clear hbt0
  gi_loopw [3] (fun i wr => DownRel J n0 i wr) (fun i _ => (intOf i + 1).toNat)
  case atStart => exact H0.out
  case round =>
    clear H0
    obtain ⟨k, K, hk, rfl, hJs⟩ := hrel
    by_cases hkn : k < n0
    · obtain ⟨q, hq⟩ : ∃ q, n0 - 1 - k = q := ⟨_, rfl⟩
      have hqi : (n0 : Int) - 1 - (k : Int) = (q : Int) := by omega
      have hqk : (n0 : Int) - 1 - ((k + 1 : Nat) : Int) = (q : Int) - 1 := by omega
      obtain ⟨hT, hbt⟩ := HA.out _ _ hJs
      have hlen := hT.good.len
      dsimp only at hlen
      rw [hqi]
      have HQk := Lib.hid hqk
      have s1 : IntKind.i64.wrap ((q : Int) - 1) = (q : Int) - 1 := IntWalk.i64_in _ (by omega)
      by_cases hlt : q < (itf k).length
      · obtain ⟨x, hx⟩ : ∃ x, (itf k)[q]? = some x := ⟨(itf k)[q]'hlt, List.getElem?_eq_getElem _⟩
        obtain ⟨b, Ap, As, cp, cs, hc0, hc1, hc2, -, hp, -, hgl⟩ := hT.cells
        obtain ⟨bp, rfl, hbl, hcx⟩ := hp _ x hx
        obtain ⟨fn, tmps, assign, body, hy, hR⟩ := HY.out (k, K) x wr hJs hkn (by rw [hq]; exact hx)
        dsimp only at hy hR
        obtain ⟨n, hn⟩ : ∃ n, (itf k).length = n := ⟨_, rfl⟩
        have hln := len_tr wr hT
        dsimp only at hln hc1
        rw [hn] at hln hc1 hlen hlt
        have HLn := Lib.hid hln
        try rw [hq] at hy
        obtain ⟨y, hyy⟩ : ∃ y, x.lit = y := ⟨_, rfl⟩
        rw [hyy] at hcx hy
        have hqn : (q : Int) < (n : Int) := by omega
        clear hT hp hx hln hn hq hyy hJs hc0 hc2 hlt hqi hqk
        gi_wp2_with (refine ⟨trivial, ?_⟩; gi_at_call 18; refine (callsIn_wide.2 HLn.out).mono ?_; rintro e w' ⟨rfl, rfl⟩)
        refine hR.mono ?_
        rintro e W3 (⟨rfl, K3, hJ3⟩ | ⟨rfl, hJx3⟩)
        · gi_wp2
          go_roundw
          case rel => exact ⟨k + 1, K3, hkn, by rw [HQk.out], hJ3⟩
          case measure => simp [intOf] <;> omega
        · gi_wp2
          try rw [Exit.noGoto_ret]
          refine bodyPost_ret (results_none rfl _ _ _) rfl ?_
          exact ⟨⟨_, rfl⟩, .inr hJx3⟩
      · have hln := len_tr wr hT
        obtain ⟨n, hn⟩ : ∃ n, (itf k).length = n := ⟨_, rfl⟩
        have hsk := HSk.out (k, K) wr hJs hkn (by show (itf k).length ≤ n0 - 1 - k; rw [hq]; omega)
        dsimp only at hln
        rw [hn] at hln hlt
        have HLn := Lib.hid hln; have HSk2 := Lib.hid hsk
        have hqn : ¬ ((q : Int) < (n : Int)) := by omega
        clear hT hln hn hq hJs hlt hqi hqk hsk
        gi_wp2_with (refine ⟨trivial, ?_⟩; gi_at_call 18; refine (callsIn_wide.2 HLn.out).mono ?_; rintro e w' ⟨rfl, rfl⟩)
        go_roundw
        case rel => exact ⟨k + 1, K, hkn, by rw [HQk.out], HSk2.out⟩
        case measure => simp [intOf] <;> omega
    · obtain rfl : k = n0 := by omega
      have hqi : (k : Int) - 1 - (k : Int) = -1 := by omega
      rw [hqi]
      have HJs := Lib.hid hJs
      clear hJs hqi
      gi_wp2_with fail
      try rw [Exit.noGoto_normal]
      go_end0
      exact ⟨⟨_, rfl⟩, .inl ⟨(k, K), rfl, HJs.out⟩⟩
end Go.Proofs.Ytdeedmfofjdbjaa
