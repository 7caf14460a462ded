/- The reference's ParseHeader: its walk. -/
/- The reference's Split and words: their walks. -/
import Derived.Test.YticcgmegimiegaaGreatDoorDmRdWalk
namespace Go.Proofs.YticcgmegimiegaaGreatDoor
open Go.RowKit Go.ChangeAt Go.ChangeShapes Go.WideShapes Go.Shelf Go.Sort

theorem ext_list (s : ByteArray) (a b : Nat) : (s.extract a b).data.toList = (s.data.toList.drop a).take (b - a) := by
  simp [ByteArray.data_extract, Array.toList_extract, List.extract]
theorem ext_size (s : ByteArray) {a b : Nat} (hb : b ≤ s.size) : (s.extract a b).size = b - a := by
  rw [ByteArray.size_extract]
  omega
/-- What the reference answers to a header. -/
def prsE (l : List UInt8) : Ending := .returned (if prsH l then .tuple #[.int .i64 (prsV l), .int .i64 (prsN l), .bool true] else .tuple #[.int .i64 0, .int .i64 0, .bool false])
theorem prsE_no {l : List UInt8} (h : prsH l = false) : prsE l = .returned (.tuple #[.int .i64 0, .int .i64 0, .bool false]) := by
  unfold prsE; rw [h]; rfl
theorem prsE_yes {l : List UInt8} (h : prsH l = true) {x y : Int} (hx : prsV l = x) (hy : prsN l = y) : prsE l = .returned (.tuple #[.int .i64 x, .int .i64 y, .bool true]) := by
  unfold prsE; rw [h, hx, hy]; rfl
/-- The place of the first space from the sixth byte on. -/
def PrRel (s : ByteArray) (i : Value) : Prop := ∃ k : Nat, 6 ≤ k ∧ k ≤ s.size ∧ i = .int .i64 k ∧ 32 ∉ (s.data.toList.drop 6).take (k - 6)
theorem take_snoc (s : ByteArray) {k : Nat} (h6 : 6 ≤ k) (hk : k < s.size) : (s.data.toList.drop 6).take (k + 1 - 6) = (s.data.toList.drop 6).take (k - 6) ++ [s[k]] := by
  have h : k + 1 - 6 = (k - 6) + 1 := by omega
  have hk' : k < s.data.toList.length := by simpa using hk
  rw [h, List.take_add_one, List.getElem?_drop, show 6 + (k - 6) = k from by omega, List.getElem?_eq_getElem hk']
  rfl
theorem cut_at (s : ByteArray) {k : Nat} (h6 : 6 ≤ k) (hk : k < s.size) (h32 : s[k] = 32) : s.data.toList.drop 6 = (s.extract 6 k).data.toList ++ 32 :: (s.extract (k + 1) s.size).data.toList := by
  rw [ext_list, ext_list, List.take_of_length_le (l := s.data.toList.drop (k + 1)) (by simp)]
  conv => lhs; rw [← List.take_append_drop (k - 6) (s.data.toList.drop 6)]
  have hk' : k < s.data.toList.length := by simpa using hk
  rw [List.drop_drop, show 6 + (k - 6) = k from by omega, List.drop_eq_getElem_cons hk']
  rw [← h32]
  rfl
set_option maxRecDepth 100000 in
set_option maxHeartbeats 1000000 in
theorem prs06_any (s : ByteArray) (w : World) (hs : s.size ≤ 4000000000) : Calls Tryz.prog 45 #[.string s] w fun e w' => e = prsE s.data.toList ∧ Below w.heap.size w w' := by
  have hl : s.data.toList.length = s.size := by simp
  by_cases h9 : s.size < 9
  · have h9i : (s.size : Int) < 9 := by omega
    have HE := Lib.hid (prsE_no (prs_short (l := s.data.toList) (by omega)))
    clear hl h9
    go_enter Tryz.func45, Tryz.ntmps45
    go_wp2_with fail
    go_ret3
    exact ⟨HE.out.symm, Below.refl _ _⟩
  have h9i : ¬ (s.size : Int) < 9 := by omega
  have h6i : (6 : Int) ≤ (s.size : Int) := by omega
  have h6l : (s.extract 0 6).data.toList = s.data.toList.take 6 := by rw [ext_list]; rfl
  by_cases h6 : s.data.toList.take 6 = hd6
  · have ht : (!(s.extract 0 6).toList == [112, 32, 99, 110, 102, 32]) = false := by rw [ByteArray.toList_eq, h6l, h6]; rfl
    have H6 := Lib.hid h6
    clear hl h9 h6l h6
    go_enter Tryz.func45, Tryz.ntmps45
    go_wp2_with fail
    go_loopw [5] (fun i wr => PrRel s i ∧ wr = w) (fun i _ => s.size - (intOf i).toNat)
    case atStart => exact ⟨⟨6, Nat.le_refl _, by omega, rfl, by simp⟩, rfl⟩
    case round =>
      obtain ⟨⟨k, hk6, hk, rfl, hall⟩, rfl⟩ := hrel
      by_cases hlt : k < s.size
      · have hki : (k : Int) < (s.size : Int) := by omega
        by_cases h32 : (s[k].toNat : Int) = 32
        · have h32t : ((s[k].toNat : Int) != 32) = false := by simpa using h32
          have hks : ((k : Int) == (s.size : Int)) = false := by simp; omega
          have hk6i : (6 : Int) ≤ (k : Int) := by omega
          have hk1i : (k : Int) + 1 ≤ (s.size : Int) := by omega
          have hw1 : IntKind.i64.wrap ((k : Int) + 1) = (k : Int) + 1 := IntWalk.i64_in _ (by omega)
          have h0k : (0 : Int) ≤ (k : Int) + 1 := by omega
          have hcut := cut_at s hk6 hlt (u8_32.2 h32)
          have h32a : 32 ∉ (s.extract 6 k).data.toList := by rw [ext_list]; exact hall
          have hA := fun W => number06_any (s.extract 6 k) W (by rw [ext_size s hk]; omega)
          have hB := fun W => number06_any (s.extract (k + 1) s.size) W (by rw [ext_size s (Nat.le_refl _)]; omega)
          obtain ⟨x, hx⟩ : ∃ x, numH (s.extract 6 k).data.toList = x := ⟨_, rfl⟩
          obtain ⟨y, hy⟩ : ∃ y, numH (s.extract (k + 1) s.size).data.toList = y := ⟨_, rfl⟩
          have hno : ¬ ((0 ≤ x ∧ x ≤ 1048576) ∧ (0 ≤ y ∧ y ≤ 262144)) → prsE s.data.toList = .returned (.tuple #[.int .i64 0, .int .i64 0, .bool false]) := fun h => prsE_no (prs_bad hcut h32a (by rw [hx, hy]; exact h))
          have hyes : (0 ≤ x ∧ x ≤ 1048576) → (0 ≤ y ∧ y ≤ 262144) → prsE s.data.toList = .returned (.tuple #[.int .i64 x, .int .i64 y, .bool true]) := fun h1 h2 => by
            obtain ⟨a, b, c⟩ := prs_yes H6.out hcut (by rw [hx]; exact h1) (by rw [hy]; exact h2)
            exact prsE_yes a (b.trans hx) (c.trans hy)
          rw [hx] at hA
          rw [hy] at hB
          have HA := Lib.hid hA; have HB := Lib.hid hB; have HNo := Lib.hid hno; have HYes := Lib.hid hyes
          have HLt := Lib.hid hlt
          clear hcut h32a hall hA hB hx hy hno hyes h32
          go_wp2_with fail
          go_region_held3 (fun _ => True) (trivial) (first
            | (go_at_call 84; (with_reducible refine (HA.out _).mono ?_); rintro r w5 ⟨rfl, rfl⟩)
            | (go_at_call 84; (with_reducible refine (HB.out _).mono ?_); rintro r w5 ⟨rfl, rfl⟩))
          go_wp2_with fail
          all_goals
            go_ret3
            first
              | exact ⟨(HNo.out (by omega)).symm, (Below.refl _ _).drew⟩
              | exact ⟨(HYes.out (by omega) (by omega)).symm, (Below.refl _ _).drew⟩
        · have h32t : ((s[k].toNat : Int) != 32) = true := by simpa using h32
          have hnext : PrRel s (.int .i64 ((k : Int) + 1)) := ⟨k + 1, by omega, by omega, by go_num, by
            rw [take_snoc s hk6 hlt, List.mem_append, List.mem_singleton]
            rintro (h | h)
            · exact hall h
            · exact h32 (u8_32.1 h.symm)⟩
          have HN := Lib.hid hnext; have HLt := Lib.hid hlt
          clear hall hnext h32
          go_wp2_with fail
          go_roundw
          case rel => exact ⟨HN.out, by trivial⟩
          case measure => simp [intOf]; have := HLt.out; omega
      · obtain rfl : k = s.size := by omega
        have hp : prsH s.data.toList = false := prs_none (by
          rw [List.take_of_length_le (by simp)] at hall
          exact hall)
        have HE := Lib.hid (prsE_no hp)
        clear hall hp hlt
        go_wp2_with fail
        go_ret3
        exact ⟨HE.out.symm, Below.refl _ _⟩
  · have ht : (!(s.extract 0 6).toList == [112, 32, 99, 110, 102, 32]) = true := by
      rw [ByteArray.toList_eq, h6l]
      simpa using h6
    have HE := Lib.hid (prsE_no (prs_other h6))
    clear hl h9 h6l h6
    go_enter Tryz.func45, Tryz.ntmps45
    go_wp2_with fail
    go_ret3
    exact ⟨HE.out.symm, Below.refl _ _⟩
end Go.Proofs.YticcgmegimiegaaGreatDoor
namespace Go.Proofs.YticcgmegimiegaaGreatDoor
open Go.RowKit Go.ChangeAt Go.ChangeShapes Go.WideShapes Go.Shelf Go.Sort

theorem infoSt : (Tryz.prog.info? 9).map (fun i => (i.zero, i.size, i.bytes)) = some (some (.string ⟨#[]⟩), 1, 16) := by kernel_rfl
theorem ext_str (s : ByteArray) (a b : Nat) : Value.string (s.extract a b) = str ((s.data.toList.drop a).take (b - a)) := by
  rw [← ext_list]
theorem seg_snoc (s : ByteArray) {a k : Nat} (ha : a ≤ k) (hk : k < s.size) : (s.data.toList.drop a).take (k + 1 - a) = (s.data.toList.drop a).take (k - a) ++ [s[k]] := by
  have h : k + 1 - a = (k - a) + 1 := by omega
  have hk' : k < s.data.toList.length := by simpa using hk
  rw [h, List.take_add_one, List.getElem?_drop, show a + (k - a) = k from by omega, List.getElem?_eq_getElem hk']
  rfl
theorem seg_cut (s : ByteArray) {a k : Nat} (ha : a ≤ k) (hk : k < s.size) {c : UInt8} (hc : s[k] = c) : s.data.toList.drop a = (s.data.toList.drop a).take (k - a) ++ c :: s.data.toList.drop (k + 1) := by
  have hk' : k < s.data.toList.length := by simpa using hk
  conv => lhs; rw [← List.take_append_drop (k - a) (s.data.toList.drop a)]
  rw [List.drop_drop, show a + (k - a) = k from by omega, List.drop_eq_getElem_cons hk']
  rw [← hc]
  rfl
theorem segs_next (s : ByteArray) {a k : Nat} (ha : a ≤ k) (hk : k < s.size) {c : UInt8} (hc : s[k] = c) (hno : c ∉ (s.data.toList.drop a).take (k - a)) : segs c (s.data.toList.drop a) = (s.data.toList.drop a).take (k - a) :: segs c (s.data.toList.drop (k + 1)) := by
  conv => lhs; rw [seg_cut s ha hk hc]
  exact segs_hit _ hno
theorem u8_10 {a : UInt8} : a = 10 ↔ (a.toNat : Int) = 10 := by
  constructor
  · rintro rfl; rfl
  · intro h
    apply UInt8.toNat.inj
    show a.toNat = 10
    omega
/-- What has been cut up to the byte k. -/
def SpRel (w : World) (s : ByteArray) (o f i : Value) (wr : World) : Prop := ∃ (a k : Nat) (O : List (List UInt8)), a ≤ k ∧ k ≤ s.size ∧ O.length ≤ k ∧ f = .int .i64 a ∧ i = .int .i64 k ∧ segs 10 s.data.toList = O ++ segs 10 (s.data.toList.drop a) ∧ 10 ∉ (s.data.toList.drop a).take (k - a) ∧ wr.ownsRow w.heap.size 9 1 o O.length (O.map str) ∧ Below w.heap.size w wr
set_option maxRecDepth 100000 in
set_option maxHeartbeats 1000000 in
theorem split06_any (s : ByteArray) (hs : s.size ≤ 4194304) (w : World) : Calls Tryz.prog 44 #[.string s] w fun e w' => ∃ v, e = .returned v ∧ w'.ownsRow w.heap.size 9 1 v (segs 10 s.data.toList).length ((segs 10 s.data.toList).map str) ∧ Below w.heap.size w w' := by
  obtain ⟨i0, hi, hz0, hz1, hz2⟩ := info_parts infoSt
  go_enter Tryz.func44, Tryz.ntmps44
  go_wp2_with fail
  go_loopw [3, 4, 5] (fun o f i wr => SpRel w s o f i wr) (fun _ _ i _ => s.size - (intOf i).toNat)
  case atStart => exact ⟨0, 0, [], Nat.le_refl _, Nat.zero_le _, Nat.le_refl _, rfl, rfl, rfl, by simp, World.ownsRow_nil _ _ _ _, Below.refl _ _⟩
  case round =>
    obtain ⟨a, k, O, hak, hk, hO, rfl, rfl, hseg, hno, hrow, hbw⟩ := hrel
    have hai : (0 : Int) ≤ (a : Int) := by omega
    have haki : (a : Int) ≤ (k : Int) := by omega
    have hki' : (k : Int) ≤ (s.size : Int) := by omega
    have hasi : (a : Int) ≤ (s.size : Int) := by omega
    have HO := Lib.hid hO
    have HR := Lib.hid hrow
    clear hrow
    by_cases hlt : k < s.size
    · have hki : (k : Int) < (s.size : Int) := by omega
      have HLt := Lib.hid hlt
      by_cases h10 : (s[k].toNat : Int) = 10
      · have ht : ((s[k].toNat : Int) == 10) = true := by simpa using h10
        have hnext : segs 10 s.data.toList = (O ++ [(s.data.toList.drop a).take (k - a)]) ++ segs 10 (s.data.toList.drop (k + 1)) := by
          rw [hseg, segs_next s hak hlt (u8_10.2 h10) hno, List.append_assoc, List.singleton_append]
        have HN := Lib.hid hnext
        clear hnext hseg hno h10
        go_wp2_with (at_builtin; refine wpList_append_own _ rfl _ _ 29 rfl w.heap.size 9 i0 (.string ⟨#[]⟩) 1 16 Tryz.underlying29 hi hz0 hz1 hz2 rfl (by decide) _ _ _ rfl (HR.out.alloc _) ⟨wr.heap.size, 0, none⟩ 1 1 [.string (s.extract a k)] rfl rfl (cell_one_new _ _ _) (by simp [Value.oneCell']) (by unfold maxLen; omega) (by omega) (by have := hbw.size; simp; omega) ?_; intro v' w2 hown' hgrow _)
        have hbn : Below w.heap.size w w2 := by
          refine (hbw.alloc hbw.size _).grown hgrow (by have := hbw.size; simp; omega) (fun k e => ?_)
          exact (HR.out.lt k e).1
        rw [show [Value.string (s.extract a k)] = [(s.data.toList.drop a).take (k - a)].map str from congrArg (fun x => [x]) (ext_str s a k), ← List.map_append] at hown'
        refine ⟨⟨k + 1, k + 1, O ++ [(s.data.toList.drop a).take (k - a)], Nat.le_refl _, by have := HLt.out; omega, by rw [List.length_append]; have := HO.out; simp; omega, by go_num, by go_num, HN.out, by simp, ?_, hbn⟩, ?_⟩
        · rw [List.length_append]; exact hown'
        · simp [intOf]; have := HLt.out; omega
      · have ht : ((s[k].toNat : Int) == 10) = false := by simpa using h10
        have hnext : 10 ∉ (s.data.toList.drop a).take (k + 1 - a) := by
          rw [seg_snoc s hak hlt, List.mem_append, List.mem_singleton]
          rintro (h | h)
          · exact hno h
          · exact h10 (u8_10.1 h.symm)
        have HN := Lib.hid hnext; have HSg := Lib.hid hseg
        clear hnext hseg hno h10
        go_wp2_with fail
        go_roundw
        case rel => exact ⟨a, k + 1, O, by omega, by have := HLt.out; omega, by have := HO.out; omega, rfl, by go_num, HSg.out, HN.out, HR.out, hbw⟩
        case measure => simp [intOf]; have := HLt.out; omega
    · obtain rfl : k = s.size := by omega
      rw [List.take_of_length_le (by simp)] at hno
      rw [segs_miss hno] at hseg
      have HSg := Lib.hid hseg
      clear hseg hno hlt
      go_wp2_with (at_builtin; refine wpList_append_own _ rfl _ _ 29 rfl w.heap.size 9 i0 (.string ⟨#[]⟩) 1 16 Tryz.underlying29 hi hz0 hz1 hz2 rfl (by decide) _ _ _ rfl (HR.out.alloc _) ⟨wr.heap.size, 0, none⟩ 1 1 [.string (s.extract a s.size)] rfl rfl (cell_one_new _ _ _) (by simp [Value.oneCell']) (by unfold maxLen; omega) (by omega) (by have := hbw.size; simp; omega) ?_; intro v' w2 hown' hgrow _)
      have hbn : Below w.heap.size w w2 := by
        refine (hbw.alloc hbw.size _).grown hgrow (by have := hbw.size; simp; omega) (fun k e => ?_)
        exact (HR.out.lt k e).1
      rw [show [Value.string (s.extract a s.size)] = [s.data.toList.drop a].map str from congrArg (fun x => [x]) (by rw [ext_str, List.take_of_length_le (by simp)]), ← List.map_append, ← HSg.out] at hown'
      have hlen : O.length + 1 = (segs 10 s.data.toList).length := by rw [HSg.out, List.length_append]; rfl
      rw [hlen] at hown'
      go_wp2_with fail
      go_ret
      exact ⟨v', rfl, hown', hbn⟩
/-! ### words -/
theorem wd_none {x : List UInt8} (h : 32 ∉ x) : wd x = if x = [] then [] else [x] := by
  unfold wd
  rw [segs_miss h]
  by_cases hx : x = []
  · simp [hx]
  · simp [hx]
theorem wd_hit {x r : List UInt8} (h : 32 ∉ x) : wd (x ++ 32 :: r) = (if x = [] then [] else [x]) ++ wd r := by
  unfold wd
  rw [segs_hit _ h, List.filter_cons]
  by_cases hx : x = []
  · simp [hx]
  · simp [hx]
theorem seg_nil (s : ByteArray) {a k : Nat} (hk : k ≤ s.size) : (s.data.toList.drop a).take (k - a) = [] ↔ k ≤ a := by
  rw [← List.length_eq_zero_iff, List.length_take, List.length_drop]
  have hl : s.data.toList.length = s.size := by simp
  omega
theorem wd_next (s : ByteArray) {a k : Nat} (ha : a ≤ k) (hk : k < s.size) (hc : s[k] = 32) (hno : 32 ∉ (s.data.toList.drop a).take (k - a)) : wd (s.data.toList.drop a) = (if a < k then [(s.data.toList.drop a).take (k - a)] else []) ++ wd (s.data.toList.drop (k + 1)) := by
  conv => lhs; rw [seg_cut s ha hk hc]
  rw [wd_hit hno]
  by_cases h : a < k
  · rw [if_neg (fun e => by have := (seg_nil s (Nat.le_of_lt hk)).1 e; omega), if_pos h]
  · rw [if_pos ((seg_nil s (Nat.le_of_lt hk)).2 (by omega)), if_neg h]
theorem wd_last (s : ByteArray) {a : Nat} (hno : 32 ∉ (s.data.toList.drop a).take (s.size - a)) : wd (s.data.toList.drop a) = (if a < s.size then [(s.data.toList.drop a).take (s.size - a)] else []) ++ wd (s.data.toList.drop (s.size + 1)) := by
  have hl : s.data.toList.length = s.size := by simp
  have e1 : (s.data.toList.drop a).take (s.size - a) = s.data.toList.drop a := List.take_of_length_le (by simp)
  have e2 : s.data.toList.drop (s.size + 1) = [] := List.drop_of_length_le (by omega)
  have e3 : wd [] = [] := by decide
  rw [e1] at hno ⊢
  rw [e2, e3, List.append_nil, wd_none hno]
  by_cases h : a < s.size
  · rw [if_neg (fun e => by have := List.drop_eq_nil_iff.1 e; omega), if_pos h]
  · rw [if_pos (List.drop_eq_nil_iff.2 (by omega)), if_neg h]
def WdRel (w : World) (s : ByteArray) (o f i : Value) (wr : World) : Prop := ∃ (a k : Nat) (O : List (List UInt8)), a ≤ k ∧ k ≤ s.size + 1 ∧ O.length ≤ k ∧ f = .int .i64 a ∧ i = .int .i64 k ∧ wd s.data.toList = O ++ wd (s.data.toList.drop a) ∧ (k = s.size + 1 → a = k) ∧ 32 ∉ (s.data.toList.drop a).take (k - a) ∧ wr.ownsRow w.heap.size 9 1 o O.length (O.map str) ∧ Below w.heap.size w wr
set_option maxRecDepth 100000 in
set_option maxHeartbeats 1000000 in
theorem words06_any (s : ByteArray) (hs : s.size ≤ 4194304) (w : World) : Calls Tryz.prog 82 #[.string s] w fun e w' => ∃ v, e = .returned v ∧ w'.ownsRow w.heap.size 9 1 v (wd s.data.toList).length ((wd s.data.toList).map str) ∧ Below w.heap.size w w' := by
  obtain ⟨i0, hi, hz0, hz1, hz2⟩ := info_parts infoSt
  go_enter Tryz.func82, Tryz.ntmps82
  go_wp2_with fail
  go_loopw [3, 4, 5] (fun o f i wr => WdRel w s o f i wr) (fun _ _ i _ => s.size + 1 - (intOf i).toNat)
  case atStart => exact ⟨0, 0, [], Nat.le_refl _, Nat.zero_le _, Nat.le_refl _, rfl, rfl, rfl, fun h => (by cases h), by simp, World.ownsRow_nil _ _ _ _, Below.refl _ _⟩
  case round =>
    obtain ⟨a, k, O, hak, hk, hO, rfl, rfl, hseg, hend, hno, hrow, hbw⟩ := hrel
    have hai : (0 : Int) ≤ (a : Int) := by omega
    have haki : (a : Int) ≤ (k : Int) := by omega
    have HO := Lib.hid hO
    have HR := Lib.hid hrow
    clear hrow
    by_cases hle : k ≤ s.size
    · have hkle : (k : Int) ≤ (s.size : Int) := by omega
      have HLe := Lib.hid hle
      have hstep : (k = s.size ∨ ∃ h : k < s.size, s[k] = 32) → wd (s.data.toList.drop a) = (if a < k then [(s.data.toList.drop a).take (k - a)] else []) ++ wd (s.data.toList.drop (k + 1)) := by
        rintro (rfl | ⟨hlt, h32⟩)
        · exact wd_last s hno
        · exact wd_next s hak hlt h32 hno
      have hcase : (((k : Int) == (s.size : Int)) = true ∧ k = s.size) ∨ (((k : Int) == (s.size : Int)) = false ∧ ∃ h : k < s.size, (((s[k].toNat : Int) == 32) = true ∧ s[k] = 32) ∨ (((s[k].toNat : Int) == 32) = false ∧ 32 ∉ (s.data.toList.drop a).take (k + 1 - a))) := by
        by_cases hlt : k < s.size
        · refine .inr ⟨by simp; omega, hlt, ?_⟩
          by_cases h32 : (s[k].toNat : Int) = 32
          · exact .inl ⟨by simpa using h32, u8_32.2 h32⟩
          · refine .inr ⟨by simpa using h32, ?_⟩
            rw [seg_snoc s hak hlt, List.mem_append, List.mem_singleton]
            rintro (h | h)
            · exact hno h
            · exact h32 (u8_32.1 h.symm)
        · exact .inl ⟨by simp; omega, by omega⟩
      rcases hcase with ⟨hks, rfl⟩ | ⟨hks, hlt, ⟨ht, h32⟩ | ⟨ht, hn⟩⟩
      · have hst := hstep (.inl rfl)
        by_cases hlak : a < s.size
        · have hl : (a : Int) < (s.size : Int) := by omega
          rw [if_pos hlak] at hst
          have hnext : wd s.data.toList = (O ++ [(s.data.toList.drop a).take (s.size - a)]) ++ wd (s.data.toList.drop (s.size + 1)) := by rw [hseg, hst, List.append_assoc]
          have HN := Lib.hid hnext
          clear hnext hseg hno hst hstep hend hlak
          go_wp2_with (at_builtin; refine wpList_append_own _ rfl _ _ 29 rfl w.heap.size 9 i0 (.string ⟨#[]⟩) 1 16 Tryz.underlying29 hi hz0 hz1 hz2 rfl (by decide) _ _ _ rfl (HR.out.alloc _) ⟨wr.heap.size, 0, none⟩ 1 1 [.string (s.extract a s.size)] rfl rfl (cell_one_new _ _ _) (by simp [Value.oneCell']) (by unfold maxLen; omega) (by omega) (by have := hbw.size; simp; omega) ?_; intro v' w2 hown' hgrow _)
          have hbn : Below w.heap.size w w2 := by
            refine (hbw.alloc hbw.size _).grown hgrow (by have := hbw.size; simp; omega) (fun k' e => ?_)
            exact (HR.out.lt k' e).1
          rw [show [Value.string (s.extract a s.size)] = [(s.data.toList.drop a).take (s.size - a)].map str from congrArg (fun x => [x]) (ext_str s a s.size), ← List.map_append] at hown'
          refine ⟨⟨s.size + 1, s.size + 1, O ++ [(s.data.toList.drop a).take (s.size - a)], Nat.le_refl _, by have := HLe.out; omega, by rw [List.length_append]; have := HO.out; simp; omega, by go_num, by go_num, HN.out, fun _ => rfl, by simp, ?_, hbn⟩, ?_⟩
          · rw [List.length_append]; exact hown'
          · simp [intOf]
        · have hl : ¬ (a : Int) < (s.size : Int) := by omega
          rw [if_neg hlak, List.nil_append] at hst
          have hnext : wd s.data.toList = O ++ wd (s.data.toList.drop (s.size + 1)) := by rw [hseg, hst]
          have HN := Lib.hid hnext
          clear hnext hseg hno hst hstep hend hlak
          go_wp2_with fail
          go_roundw
          case rel => exact ⟨s.size + 1, s.size + 1, O, Nat.le_refl _, by have := HLe.out; omega, by have := HO.out; omega, by go_num, by go_num, HN.out, fun _ => rfl, by simp, HR.out, hbw⟩
          case measure => simp [intOf]
      · have hki : (k : Int) < (s.size : Int) := by omega
        have hst := hstep (.inr ⟨hlt, h32⟩)
        clear h32
        by_cases hlak : a < k
        · have hl : (a : Int) < (k : Int) := by omega
          rw [if_pos hlak] at hst
          have hnext : wd s.data.toList = (O ++ [(s.data.toList.drop a).take (k - a)]) ++ wd (s.data.toList.drop (k + 1)) := by rw [hseg, hst, List.append_assoc]
          have HN := Lib.hid hnext
          clear hnext hseg hno hst hstep hend hlak
          go_wp2_with (at_builtin; refine wpList_append_own _ rfl _ _ 29 rfl w.heap.size 9 i0 (.string ⟨#[]⟩) 1 16 Tryz.underlying29 hi hz0 hz1 hz2 rfl (by decide) _ _ _ rfl (HR.out.alloc _) ⟨wr.heap.size, 0, none⟩ 1 1 [.string (s.extract a k)] rfl rfl (cell_one_new _ _ _) (by simp [Value.oneCell']) (by unfold maxLen; omega) (by omega) (by have := hbw.size; simp; omega) ?_; intro v' w2 hown' hgrow _)
          have hbn : Below w.heap.size w w2 := by
            refine (hbw.alloc hbw.size _).grown hgrow (by have := hbw.size; simp; omega) (fun k e => ?_)
            exact (HR.out.lt k e).1
          rw [show [Value.string (s.extract a k)] = [(s.data.toList.drop a).take (k - a)].map str from congrArg (fun x => [x]) (ext_str s a k), ← List.map_append] at hown'
          refine ⟨⟨k + 1, k + 1, O ++ [(s.data.toList.drop a).take (k - a)], Nat.le_refl _, by have := HLe.out; omega, by rw [List.length_append]; have := HO.out; simp; omega, by go_num, by go_num, HN.out, fun _ => rfl, by simp, ?_, hbn⟩, ?_⟩
          · rw [List.length_append]; exact hown'
          · simp [intOf]; have := HLe.out; omega
        · have hl : ¬ (a : Int) < (k : Int) := by omega
          rw [if_neg hlak, List.nil_append] at hst
          have hnext : wd s.data.toList = O ++ wd (s.data.toList.drop (k + 1)) := by rw [hseg, hst]
          have HN := Lib.hid hnext
          clear hnext hseg hno hst hstep hend hlak
          go_wp2_with fail
          go_roundw
          case rel => exact ⟨k + 1, k + 1, O, Nat.le_refl _, by have := HLe.out; omega, by have := HO.out; omega, by go_num, by go_num, HN.out, fun _ => rfl, by simp, HR.out, hbw⟩
          case measure => simp [intOf]; have := HLe.out; omega
      · have hki : (k : Int) < (s.size : Int) := by omega
        have HN := Lib.hid hn; have HSg := Lib.hid hseg; have HLt := Lib.hid hlt
        clear hn hseg hno hend hstep
        go_wp2_with fail
        go_roundw
        case rel => exact ⟨a, k + 1, O, by omega, by have := HLt.out; omega, by have := HO.out; omega, rfl, by go_num, HSg.out, fun h => by have := HLt.out; omega, HN.out, HR.out, hbw⟩
        case measure => simp [intOf]; have := HLt.out; omega
    · have hle' : ¬ (k : Int) ≤ (s.size : Int) := by omega
      have e2 : s.data.toList.drop a = [] := List.drop_of_length_le (by have hl : s.data.toList.length = s.size := (by simp); have := hend (by omega); omega)
      rw [e2, show wd [] = [] from by decide, List.append_nil] at hseg
      have HSg := Lib.hid hseg
      clear hseg hno hle hend e2
      go_wp2_with fail
      go_ret
      rw [HSg.out]
      exact ⟨_, rfl, HR.out, hbw⟩
end Go.Proofs.YticcgmegimiegaaGreatDoor
