/- The laws' put: literals that small numbers make are assigned, as far as they have no values, with levels between. -/
import Derived.Test.YtdeedmfofjdbjaaTrBeside
import Derived.Test.YtdeedmfofjdbjaaTrAwake
import Derived.Test.YtdeedmfofjdbjaaMade02
namespace Go.Proofs.Ytdeedmfofjdbjaa
open Go.RowKit Go.ChangeAt Go.ChangeShapes Go.WideShapes

def levsOf (its : List It) : List Int := its.map fun x => (x.level : Int)
theorem levsOf_len (its : List It) : (levsOf its).length = its.length := by simp [levsOf]
theorem levsOf_snoc (its : List It) (x : It) : levsOf (its ++ [x]) = levsOf its ++ [(x.level : Int)] := by simp [levsOf]
/-- A trail of the call's own, and two rows beside it. -/
structure PS (w : World) (g nv : Nat) (its : List It) (st : List Nat) (al lv : Value) (xs ls : List Int) (K : Nat → Prop) (W : World) : Prop where
  tr : Trl K W g nv its st
  base : ∀ i, K i → w.heap.size ≤ i
  below : Below w.heap.size w W
  all : W.ownsRow w.heap.size 36 1 al xs.length (xs.map (Value.int .i64))
  lev : W.ownsRow w.heap.size 3 1 lv ls.length (ls.map (Value.int .i64))
  offa : ∀ b, al.ownBlock = some b → ¬ K b
  offl : ∀ b, lv.ownBlock = some b → ¬ K b
section
variable {w W W' : World} {g nv : Nat} {its its' : List It} {st st' : List Nat} {al lv : Value} {xs ls : List Int} {K K' : Nat → Prop}
theorem PS.turn (h : PS w g nv its st al lv xs ls K W) (t : Turn K W K' W') (hA : Trl K' W' g nv its' st') : PS w g nv its' st' al lv xs ls K' W' :=
  ⟨hA, t.from_ h.below.size h.base, h.below.trans (t.below h.below.size h.base), row_turn h.all t.1 h.offa, row_turn h.lev t.1 h.offl, fun b e => t.off (h.all.lt b e).2 (h.offa b e), fun b e => t.off (h.lev.lt b e).2 (h.offl b e)⟩
theorem PS.on (h : PS w g nv its st al lv xs ls K W) (hb : Below W.heap.size W W') : PS w g nv its st al lv xs ls K W' := h.turn (Turn.of_below hb) (h.tr.on hb)
theorem PS.pushA (h : PS w g nv its st al lv xs ls K W) {W2 : World} {al' : Value} {x : Int} {T : TypeId} (hown : W2.ownsRow w.heap.size 36 1 al' (xs.length + 1) (xs.map (Value.int .i64) ++ [x].map (Value.int .i64))) (hg : (W.alloc (laidO [x] T)).grownBy W2 al.ownBlock)
    (hb : al'.ownBlock = al.ownBlock ∨ al'.ownBlock = some (W.alloc (laidO [x] T)).heap.size) : PS w g nv its st al' lv (xs ++ [x]) ls K W2 := by
  have hX := h.on (below1a W (laidO [x] T))
  refine ⟨hX.tr.grown hg hX.offa, h.base, hX.below.grown hg hX.below.size (fun k e => (hX.all.lt k e).1), by rw [List.length_append, List.map_append]; exact hown, hX.lev.kept hg (rows_ne hX.lev hX.all (by decide)), fun b e hk => ?_, h.offl⟩
  rcases hb with hb | hb
  · exact h.offa b (hb ▸ e) hk
  · obtain rfl : (W.alloc (laidO [x] T)).heap.size = b := by rw [hb] at e; cases e; rfl
    exact Nat.lt_irrefl _ (hX.tr.kok.lt hk)
theorem PS.pushL (h : PS w g nv its st al lv xs ls K W) {W2 : World} {lv' : Value} {x : Int} {T : TypeId} (hown : W2.ownsRow w.heap.size 3 1 lv' (ls.length + 1) (ls.map (Value.int .i64) ++ [x].map (Value.int .i64))) (hg : (W.alloc (laidO [x] T)).grownBy W2 lv.ownBlock)
    (hb : lv'.ownBlock = lv.ownBlock ∨ lv'.ownBlock = some (W.alloc (laidO [x] T)).heap.size) : PS w g nv its st al lv' xs (ls ++ [x]) K W2 := by
  have hX := h.on (below1a W (laidO [x] T))
  refine ⟨hX.tr.grown hg hX.offl, h.base, hX.below.grown hg hX.below.size (fun k e => (hX.lev.lt k e).1), hX.all.kept hg (rows_ne hX.all hX.lev (by decide)), by rw [List.length_append, List.map_append]; exact hown, h.offa, fun b e hk => ?_⟩
  rcases hb with hb | hb
  · exact h.offl b (hb ▸ e) hk
  · obtain rfl : (W.alloc (laidO [x] T)).heap.size = b := by rw [hb] at e; cases e; rfl
    exact Nat.lt_irrefl _ (hX.tr.kok.lt hk)
end
theorem own_one' {W : World} {B : Nat} {e : TypeId} {v : Value} {x : Int} (h : W.ownsRow B e 1 v 1 [.int .i64 x]) : ∃ g cap, v = .slice (some ⟨g, 0, none⟩) 1 cap ∧ g < W.heap.size ∧ W.cell? ⟨g, 0, none⟩ = some (.int .i64 x) := by
  rcases h.2 with ⟨-, h0⟩ | ⟨g, cap, cur, rfl, hg, hh, -⟩
  · cases h0
  · exact ⟨g, cap, rfl, (Array.getElem?_eq_some_iff.1 hh).1, by have := h.cellAt 0 (by omega); simpa using this⟩
theorem made_one {x : Int} (hx : (Lit.int .u8 x).wf = true) (W : World) (g : Nat) (hg : W.cell? ⟨g, 0, none⟩ = some (.int .u8 x)) : Calls Try.prog 47 #[.slice (some ⟨g, 0, none⟩) 1 1] W fun r w' => ∃ b cap, r = .returned (.slice (some ⟨b, 0, none⟩) 1 cap) ∧ b < w'.heap.size ∧ w'.cell? ⟨b, 0, none⟩ = some (.int .i64 (madeU x)) ∧ Below W.heap.size W w' := by
  have hI : IntsK .u8 W.heap.size W (.slice (some ⟨g, 0, none⟩) 1 1) [x] := by
    refine .inr ⟨g, 0, 1, rfl, World.block_lt_of_cell? W _ hg, fun j hj => ?_⟩
    obtain rfl : j = 0 := by simp at hj; omega
    exact hg
  refine (made_any W.heap.size _ [x] (by simp) (fun y hy => by rw [List.mem_singleton] at hy; subst hy; exact hx) (fun A n c e => by injection e with h1 h2 h3; omega) W (Nat.le_refl _) hI).mono ?_
  rintro r w' ⟨v, rfl, hr, hb⟩
  obtain ⟨b, cap, rfl, h1, h2⟩ := own_one' hr
  exact ⟨b, cap, rfl, h1, h2, hb⟩

def PutRel (n : Nat) (w : World) (g : Nat) (al lv le i : Value) (wr : World) : Prop :=
  ∃ (k : Nat) (K : Nat → Prop) (its : List It) (st : List Nat), k ≤ n ∧ i = .int .i64 k ∧ le = .int .i64 (st.length : Nat) ∧ st.length ≤ k ∧ PS w g 8 its st al lv (litsOf its) (levsOf its) K wr
set_option maxRecDepth 100000 in
set_option maxHeartbeats 4000000 in
theorem put_any (v : Value) (zs : List Int) (w : World) (hI : IntsK .u8 w.heap.size w v zs) (hF : Fits v) (hm : zs.length ≤ maxLen) (hw : ∀ x ∈ zs, (Lit.int .u8 x).wf = true) :
    Calls Try.prog 28 #[v] w fun r w' => ∃ g K its st al lv, r = .returned (.tuple #[.pointer (some ⟨g, 0, none⟩), al, lv, .bool true]) ∧ st.length ≤ 40 ∧ PS w g 8 its st al lv (litsOf its) (levsOf its) K w' := by
  obtain ⟨A, cap, rfl, hc⟩ := intsK_shape hI
  have hcap := hF _ _ _ rfl
  unfold maxLen at hm
  have HC := Lib.hid hc; have HW := Lib.hid hw
  clear hI hc hw hF
  obtain ⟨i0, hi, hz0, hz1, hz2⟩ := info_parts infoLit
  obtain ⟨j0, hj, hy0, hy1, hy2⟩ := info_parts infoInt
  by_cases h40 : 40 < zs.length
  · have hn1 : 40 ≤ zs.length := by omega
    have hn2 : 40 ≤ 40 := by omega
    go_enter Try.func28, Try.ntmps28
    go_wp2_with (go_at_call 12; refine (new_tr 8 (by decide) _).mono ?_; rintro r w1 ⟨g, K1, rfl, hA1, hK1, hB1⟩; have HP1 : Hid (PS w g 8 [] [] (.slice none 0 0) (.slice none 0 0) [] [] K1 w1) := ⟨hA1, hK1, hB1, World.ownsRow_nil _ _ _ _, World.ownsRow_nil _ _ _ _, (fun b e => by cases e), (fun b e => by cases e)⟩; clear hA1 hK1 hB1)
    go_loopw [8, 9, 10, 33] (fun al lv le i wr => PutRel 40 w g al lv le i wr) (fun _ _ _ i _ => 40 - (intOf i).toNat)
    case atStart => exact ⟨0, K1, [], [], Nat.zero_le _, rfl, rfl, Nat.le_refl _, HP1.out⟩
    case round =>

      obtain ⟨k, K, its, st, hk, rfl, rfl, hsk, hP⟩ := hrel
      by_cases hlt : k < 40
      · obtain ⟨b, off, rfl, hb, hcx⟩ := HC.out k (by omega)
        have hcx := (hP.below.cell (p := ⟨b, off + k, none⟩) hb).trans hcx
        have hbl := Nat.lt_of_lt_of_le hb hP.below.size
        have hwx := HW.out (zs[k]?.getD 0) (by rw [List.getElem?_eq_getElem (by omega)]; exact List.getElem_mem _)
        obtain ⟨x, hx⟩ : ∃ x, zs[k]?.getD 0 = x := ⟨_, rfl⟩
        rw [hx] at hcx hwx
        clear hx
        obtain ⟨hx0, hx1⟩ := u8_wf hwx
        obtain ⟨u, hu1, hu8, huv⟩ := madeU_is x
        obtain ⟨l, hl⟩ : ∃ l, madeU x = l := ⟨_, rfl⟩
        rw [hl] at huv
        have hl1 : 1 ≤ l.natAbs := by omega
        have hl2 : l.natAbs ≤ 8 := by omega
        have hmo := fun (W : World) (gg : Nat) (hg : W.cell? ⟨gg, 0, none⟩ = some (.int .u8 x)) => made_one hwx W gg hg
        rw [hl] at hmo
        have HMo := Lib.hid hmo; have HL1 := Lib.hid hl1; have HL2 := Lib.hid hl2
        have HWx := Lib.hid hwx
        have hil := hP.tr.good.len
        obtain ⟨sl, hsl⟩ : ∃ sl : Int, (st.length : Int) = sl := ⟨_, rfl⟩
        rw [hsl]
        have hs0 : 0 ≤ sl := by omega
        have hs4 : sl ≤ 40 := by omega
        have HSl := Lib.hid hsl; have HSk := Lib.hid hsk
        have HP := Lib.hid hP
        clear hP hmo hl1 hl2 huv hu1 hu8 hl hwx HC HW hsl hsk
        by_cases h5 : x % 5 = 0
        · skip
          have h5q : (x % 5 == 0) = true := by rw [beq_iff_eq]; exact h5
          have hpu := push_tr wr HP.out.tr (by have := HSk.out; omega)
          have HPu := Lib.hid hpu
          clear hpu
          go_wp2_with (go_at_call 14; refine (HPu.out).mono ?_; rintro r w2 ⟨K2, rfl, hA2, hT2⟩; have HP2 := Lib.hid (HP.out.turn hT2 hA2); clear hA2 hT2)
          refine (HMo.out _ w2.heap.size (World.cell?_alloc_new _ _ _ _)).mono ?_
          rintro r w3 ⟨mb, mc, rfl, hmb, hmc, hB3⟩
          have hP3 := (HP2.out.on (below1a w2 _)).on hB3
          have hv3 := value_tr l w3 hP3.tr
          have HP3 := Lib.hid hP3
          have hsl1 : (sl + 1) = (((st ++ [its.length]).length : Nat) : Int) := by
            have := HSl.out
            try simp
            try omega
          have hsk1 : (st ++ [its.length]).length ≤ k + 1 := by
            have := HSk.out
            try simp
            try omega
          have HSl1 := Lib.hid hsl1; have HSk1 := Lib.hid hsk1
          clear hP3 hB3 hsl1 hsk1 hcx hbl hb
          by_cases hv : valI its l = 0
          · rw [hv] at hv3
            have HV3 := Lib.hid hv3; have Hv := Lib.hid hv
            clear hv3 hv
            go_wp2_with fail
            refine (HV3.out).mono ?_
            rintro r w4 ⟨rfl, hB4⟩
            have HP4 := Lib.hid (HP3.out.on hB4)
            clear hB4 hmc hmb
            go_wp2_with fail
            refine (assign_tr l x HL1.out HL2.out (valI_zero Hv.out) hx0 (by omega) w4 HP4.out.tr).mono ?_
            rintro r w5 ⟨K5, rfl, hA5, hT5⟩
            have HP5 := Lib.hid (HP4.out.turn hT5 hA5)
            clear hA5 hT5
            have hll : (litsOf its).length ≤ 8 := by rw [litsOf_len]; exact hil
            have hle : (levsOf its).length ≤ 8 := by rw [levsOf_len]; exact hil
            have hbs := HP5.out.below.size
            go_wp2_with (at_builtin; first
              | (refine wpList_append2 rfl _ _ 39 39 rfl 36 i0 (.int .i64 0) 8 Try.underlying39 Try.underlying39 hi hz0 hz1 hz2 rfl w.heap.size _ _ _ rfl (HP5.out.all.alloc _) .i64 _ _ [l] rfl (ints_laid w5 [l] 36) (by unfold maxLen; simp; omega) (by simp; omega) (by simp; omega) ?_; intro al' w6 hown hg hb; have HP6 := Lib.hid (HP5.out.pushA hown hg hb); have hbs6 := HP6.out.below.size; clear hown hg hb)
              | (refine wpList_append2 rfl _ _ 27 27 rfl 3 j0 (.int .i64 0) 8 Try.underlying27 Try.underlying27 hj hy0 hy1 hy2 rfl w.heap.size _ _ _ rfl (HP6.out.lev.alloc _) .i64 _ _ [(sl + 1)] rfl (ints_laid w6 [(sl + 1)] 3) (by unfold maxLen; simp; omega) (by simp; omega) (by simp; omega) ?_; intro lv' w7 hown hg hb; have HP7 := Lib.hid (HP6.out.pushL hown hg hb); clear hown hg hb))
            refine ⟨⟨k + 1, K5, its ++ [⟨l, (st ++ [its.length]).length, x⟩], (st ++ [its.length]), hlt, by go_num, by rw [HSl1.out], HSk1.out, ?_⟩, by simp [intOf]; omega⟩
            rw [litsOf_snoc, levsOf_snoc, ← HSl1.out]
            exact HP7.out
          · have hE : assE 8 its l x = 41 := by unfold assE; rw [if_pos ⟨HL1.out, HL2.out⟩, if_pos ⟨hx0, by omega⟩, if_neg hv]
            have HE := Lib.hid hE
            obtain ⟨y, hy⟩ : ∃ y, valI its l = y := ⟨_, rfl⟩
            rw [hy] at hv3 hv
            have HV3 := Lib.hid hv3
            clear hv3 hE hy
            go_wp2_with fail
            refine (HV3.out).mono ?_
            rintro r w4 ⟨rfl, hB4⟩
            have HP4 := Lib.hid (HP3.out.on hB4)
            clear hB4 hmc hmb
            go_wp2_with fail
            refine (assign_no l x (by rw [HE.out]; decide) w4 HP4.out.tr).mono ?_
            rintro r w5 ⟨rfl, hB5⟩
            rw [HE.out]
            have HP5 := Lib.hid (HP4.out.on hB5)
            clear hB5
            go_wp2_with fail
            refine ⟨⟨k + 1, K2, its, (st ++ [its.length]), hlt, by go_num, by rw [HSl1.out], HSk1.out, HP5.out⟩, by simp [intOf]; omega⟩
        · skip
          have h5q : (x % 5 == 0) = false := by rw [beq_eq_false_iff_ne]; exact h5
          go_wp2_with fail
          refine (HMo.out _ wr.heap.size (World.cell?_alloc_new _ _ _ _)).mono ?_
          rintro r w3 ⟨mb, mc, rfl, hmb, hmc, hB3⟩
          have hP3 := (HP.out.on (below1a wr _)).on hB3
          have hv3 := value_tr l w3 hP3.tr
          have HP3 := Lib.hid hP3
          have hsl1 : sl = ((st.length : Nat) : Int) := by
            have := HSl.out
            try simp
            try omega
          have hsk1 : st.length ≤ k + 1 := by
            have := HSk.out
            try simp
            try omega
          have HSl1 := Lib.hid hsl1; have HSk1 := Lib.hid hsk1
          clear hP3 hB3 hsl1 hsk1 hcx hbl hb
          by_cases hv : valI its l = 0
          · rw [hv] at hv3
            have HV3 := Lib.hid hv3; have Hv := Lib.hid hv
            clear hv3 hv
            go_wp2_with fail
            refine (HV3.out).mono ?_
            rintro r w4 ⟨rfl, hB4⟩
            have HP4 := Lib.hid (HP3.out.on hB4)
            clear hB4 hmc hmb
            go_wp2_with fail
            refine (assign_tr l x HL1.out HL2.out (valI_zero Hv.out) hx0 (by omega) w4 HP4.out.tr).mono ?_
            rintro r w5 ⟨K5, rfl, hA5, hT5⟩
            have HP5 := Lib.hid (HP4.out.turn hT5 hA5)
            clear hA5 hT5
            have hll : (litsOf its).length ≤ 8 := by rw [litsOf_len]; exact hil
            have hle : (levsOf its).length ≤ 8 := by rw [levsOf_len]; exact hil
            have hbs := HP5.out.below.size
            go_wp2_with (at_builtin; first
              | (refine wpList_append2 rfl _ _ 39 39 rfl 36 i0 (.int .i64 0) 8 Try.underlying39 Try.underlying39 hi hz0 hz1 hz2 rfl w.heap.size _ _ _ rfl (HP5.out.all.alloc _) .i64 _ _ [l] rfl (ints_laid w5 [l] 36) (by unfold maxLen; simp; omega) (by simp; omega) (by simp; omega) ?_; intro al' w6 hown hg hb; have HP6 := Lib.hid (HP5.out.pushA hown hg hb); have hbs6 := HP6.out.below.size; clear hown hg hb)
              | (refine wpList_append2 rfl _ _ 27 27 rfl 3 j0 (.int .i64 0) 8 Try.underlying27 Try.underlying27 hj hy0 hy1 hy2 rfl w.heap.size _ _ _ rfl (HP6.out.lev.alloc _) .i64 _ _ [sl] rfl (ints_laid w6 [sl] 3) (by unfold maxLen; simp; omega) (by simp; omega) (by simp; omega) ?_; intro lv' w7 hown hg hb; have HP7 := Lib.hid (HP6.out.pushL hown hg hb); clear hown hg hb))
            refine ⟨⟨k + 1, K5, its ++ [⟨l, st.length, x⟩], st, hlt, by go_num, by rw [HSl1.out], HSk1.out, ?_⟩, by simp [intOf]; omega⟩
            rw [litsOf_snoc, levsOf_snoc, ← HSl1.out]
            exact HP7.out
          · have hE : assE 8 its l x = 41 := by unfold assE; rw [if_pos ⟨HL1.out, HL2.out⟩, if_pos ⟨hx0, by omega⟩, if_neg hv]
            have HE := Lib.hid hE
            obtain ⟨y, hy⟩ : ∃ y, valI its l = y := ⟨_, rfl⟩
            rw [hy] at hv3 hv
            have HV3 := Lib.hid hv3
            clear hv3 hE hy
            go_wp2_with fail
            refine (HV3.out).mono ?_
            rintro r w4 ⟨rfl, hB4⟩
            have HP4 := Lib.hid (HP3.out.on hB4)
            clear hB4 hmc hmb
            go_wp2_with fail
            refine (assign_no l x (by rw [HE.out]; decide) w4 HP4.out.tr).mono ?_
            rintro r w5 ⟨rfl, hB5⟩
            rw [HE.out]
            have HP5 := Lib.hid (HP4.out.on hB5)
            clear hB5
            go_wp2_with fail
            refine ⟨⟨k + 1, K, its, st, hlt, by go_num, by rw [HSl1.out], HSk1.out, HP5.out⟩, by simp [intOf]; omega⟩
      · obtain rfl : k = 40 := by omega
        rw [show ((40 : Nat) : Int) = 40 from rfl]
        have HP := Lib.hid hP
        clear hP HC HW
        go_wp2_with (go_at_call 15; refine (now_tr _ HP.out.tr).mono ?_; rintro r w2 ⟨rfl, rfl⟩)
        exact bodyPost_ret (v := .tuple #[.pointer (some ⟨g, 0, none⟩), u8, u9, .bool true]) (by simp [results, Try.results28, go_sem]) rfl ⟨g, K, its, st, _, _, rfl, by omega, HP.out⟩
  · have hn1 : zs.length ≤ zs.length := by omega
    have hn2 : zs.length ≤ 40 := by omega
    go_enter Try.func28, Try.ntmps28
    go_wp2_with (go_at_call 12; refine (new_tr 8 (by decide) _).mono ?_; rintro r w1 ⟨g, K1, rfl, hA1, hK1, hB1⟩; have HP1 : Hid (PS w g 8 [] [] (.slice none 0 0) (.slice none 0 0) [] [] K1 w1) := ⟨hA1, hK1, hB1, World.ownsRow_nil _ _ _ _, World.ownsRow_nil _ _ _ _, (fun b e => by cases e), (fun b e => by cases e)⟩; clear hA1 hK1 hB1)
    go_loopw [8, 9, 10, 33] (fun al lv le i wr => PutRel zs.length w g al lv le i wr) (fun _ _ _ i _ => zs.length - (intOf i).toNat)
    case atStart => exact ⟨0, K1, [], [], Nat.zero_le _, rfl, rfl, Nat.le_refl _, HP1.out⟩
    case round =>

      obtain ⟨k, K, its, st, hk, rfl, rfl, hsk, hP⟩ := hrel
      by_cases hlt : k < zs.length
      · obtain ⟨b, off, rfl, hb, hcx⟩ := HC.out k (by omega)
        have hcx := (hP.below.cell (p := ⟨b, off + k, none⟩) hb).trans hcx
        have hbl := Nat.lt_of_lt_of_le hb hP.below.size
        have hwx := HW.out (zs[k]?.getD 0) (by rw [List.getElem?_eq_getElem (by omega)]; exact List.getElem_mem _)
        obtain ⟨x, hx⟩ : ∃ x, zs[k]?.getD 0 = x := ⟨_, rfl⟩
        rw [hx] at hcx hwx
        clear hx
        obtain ⟨hx0, hx1⟩ := u8_wf hwx
        obtain ⟨u, hu1, hu8, huv⟩ := madeU_is x
        obtain ⟨l, hl⟩ : ∃ l, madeU x = l := ⟨_, rfl⟩
        rw [hl] at huv
        have hl1 : 1 ≤ l.natAbs := by omega
        have hl2 : l.natAbs ≤ 8 := by omega
        have hmo := fun (W : World) (gg : Nat) (hg : W.cell? ⟨gg, 0, none⟩ = some (.int .u8 x)) => made_one hwx W gg hg
        rw [hl] at hmo
        have HMo := Lib.hid hmo; have HL1 := Lib.hid hl1; have HL2 := Lib.hid hl2
        have HWx := Lib.hid hwx
        have hil := hP.tr.good.len
        obtain ⟨sl, hsl⟩ : ∃ sl : Int, (st.length : Int) = sl := ⟨_, rfl⟩
        rw [hsl]
        have hs0 : 0 ≤ sl := by omega
        have hs4 : sl ≤ 40 := by omega
        have HSl := Lib.hid hsl; have HSk := Lib.hid hsk
        have HP := Lib.hid hP
        clear hP hmo hl1 hl2 huv hu1 hu8 hl hwx HC HW hsl hsk
        by_cases h5 : x % 5 = 0
        · skip
          have h5q : (x % 5 == 0) = true := by rw [beq_iff_eq]; exact h5
          have hpu := push_tr wr HP.out.tr (by have := HSk.out; omega)
          have HPu := Lib.hid hpu
          clear hpu
          go_wp2_with (go_at_call 14; refine (HPu.out).mono ?_; rintro r w2 ⟨K2, rfl, hA2, hT2⟩; have HP2 := Lib.hid (HP.out.turn hT2 hA2); clear hA2 hT2)
          refine (HMo.out _ w2.heap.size (World.cell?_alloc_new _ _ _ _)).mono ?_
          rintro r w3 ⟨mb, mc, rfl, hmb, hmc, hB3⟩
          have hP3 := (HP2.out.on (below1a w2 _)).on hB3
          have hv3 := value_tr l w3 hP3.tr
          have HP3 := Lib.hid hP3
          have hsl1 : (sl + 1) = (((st ++ [its.length]).length : Nat) : Int) := by
            have := HSl.out
            try simp
            try omega
          have hsk1 : (st ++ [its.length]).length ≤ k + 1 := by
            have := HSk.out
            try simp
            try omega
          have HSl1 := Lib.hid hsl1; have HSk1 := Lib.hid hsk1
          clear hP3 hB3 hsl1 hsk1 hcx hbl hb
          by_cases hv : valI its l = 0
          · rw [hv] at hv3
            have HV3 := Lib.hid hv3; have Hv := Lib.hid hv
            clear hv3 hv
            go_wp2_with fail
            refine (HV3.out).mono ?_
            rintro r w4 ⟨rfl, hB4⟩
            have HP4 := Lib.hid (HP3.out.on hB4)
            clear hB4 hmc hmb
            go_wp2_with fail
            refine (assign_tr l x HL1.out HL2.out (valI_zero Hv.out) hx0 (by omega) w4 HP4.out.tr).mono ?_
            rintro r w5 ⟨K5, rfl, hA5, hT5⟩
            have HP5 := Lib.hid (HP4.out.turn hT5 hA5)
            clear hA5 hT5
            have hll : (litsOf its).length ≤ 8 := by rw [litsOf_len]; exact hil
            have hle : (levsOf its).length ≤ 8 := by rw [levsOf_len]; exact hil
            have hbs := HP5.out.below.size
            go_wp2_with (at_builtin; first
              | (refine wpList_append2 rfl _ _ 39 39 rfl 36 i0 (.int .i64 0) 8 Try.underlying39 Try.underlying39 hi hz0 hz1 hz2 rfl w.heap.size _ _ _ rfl (HP5.out.all.alloc _) .i64 _ _ [l] rfl (ints_laid w5 [l] 36) (by unfold maxLen; simp; omega) (by simp; omega) (by simp; omega) ?_; intro al' w6 hown hg hb; have HP6 := Lib.hid (HP5.out.pushA hown hg hb); have hbs6 := HP6.out.below.size; clear hown hg hb)
              | (refine wpList_append2 rfl _ _ 27 27 rfl 3 j0 (.int .i64 0) 8 Try.underlying27 Try.underlying27 hj hy0 hy1 hy2 rfl w.heap.size _ _ _ rfl (HP6.out.lev.alloc _) .i64 _ _ [(sl + 1)] rfl (ints_laid w6 [(sl + 1)] 3) (by unfold maxLen; simp; omega) (by simp; omega) (by simp; omega) ?_; intro lv' w7 hown hg hb; have HP7 := Lib.hid (HP6.out.pushL hown hg hb); clear hown hg hb))
            refine ⟨⟨k + 1, K5, its ++ [⟨l, (st ++ [its.length]).length, x⟩], (st ++ [its.length]), hlt, by go_num, by rw [HSl1.out], HSk1.out, ?_⟩, by simp [intOf]; omega⟩
            rw [litsOf_snoc, levsOf_snoc, ← HSl1.out]
            exact HP7.out
          · have hE : assE 8 its l x = 41 := by unfold assE; rw [if_pos ⟨HL1.out, HL2.out⟩, if_pos ⟨hx0, by omega⟩, if_neg hv]
            have HE := Lib.hid hE
            obtain ⟨y, hy⟩ : ∃ y, valI its l = y := ⟨_, rfl⟩
            rw [hy] at hv3 hv
            have HV3 := Lib.hid hv3
            clear hv3 hE hy
            go_wp2_with fail
            refine (HV3.out).mono ?_
            rintro r w4 ⟨rfl, hB4⟩
            have HP4 := Lib.hid (HP3.out.on hB4)
            clear hB4 hmc hmb
            go_wp2_with fail
            refine (assign_no l x (by rw [HE.out]; decide) w4 HP4.out.tr).mono ?_
            rintro r w5 ⟨rfl, hB5⟩
            rw [HE.out]
            have HP5 := Lib.hid (HP4.out.on hB5)
            clear hB5
            go_wp2_with fail
            refine ⟨⟨k + 1, K2, its, (st ++ [its.length]), hlt, by go_num, by rw [HSl1.out], HSk1.out, HP5.out⟩, by simp [intOf]; omega⟩
        · skip
          have h5q : (x % 5 == 0) = false := by rw [beq_eq_false_iff_ne]; exact h5
          go_wp2_with fail
          refine (HMo.out _ wr.heap.size (World.cell?_alloc_new _ _ _ _)).mono ?_
          rintro r w3 ⟨mb, mc, rfl, hmb, hmc, hB3⟩
          have hP3 := (HP.out.on (below1a wr _)).on hB3
          have hv3 := value_tr l w3 hP3.tr
          have HP3 := Lib.hid hP3
          have hsl1 : sl = ((st.length : Nat) : Int) := by
            have := HSl.out
            try simp
            try omega
          have hsk1 : st.length ≤ k + 1 := by
            have := HSk.out
            try simp
            try omega
          have HSl1 := Lib.hid hsl1; have HSk1 := Lib.hid hsk1
          clear hP3 hB3 hsl1 hsk1 hcx hbl hb
          by_cases hv : valI its l = 0
          · rw [hv] at hv3
            have HV3 := Lib.hid hv3; have Hv := Lib.hid hv
            clear hv3 hv
            go_wp2_with fail
            refine (HV3.out).mono ?_
            rintro r w4 ⟨rfl, hB4⟩
            have HP4 := Lib.hid (HP3.out.on hB4)
            clear hB4 hmc hmb
            go_wp2_with fail
            refine (assign_tr l x HL1.out HL2.out (valI_zero Hv.out) hx0 (by omega) w4 HP4.out.tr).mono ?_
            rintro r w5 ⟨K5, rfl, hA5, hT5⟩
            have HP5 := Lib.hid (HP4.out.turn hT5 hA5)
            clear hA5 hT5
            have hll : (litsOf its).length ≤ 8 := by rw [litsOf_len]; exact hil
            have hle : (levsOf its).length ≤ 8 := by rw [levsOf_len]; exact hil
            have hbs := HP5.out.below.size
            go_wp2_with (at_builtin; first
              | (refine wpList_append2 rfl _ _ 39 39 rfl 36 i0 (.int .i64 0) 8 Try.underlying39 Try.underlying39 hi hz0 hz1 hz2 rfl w.heap.size _ _ _ rfl (HP5.out.all.alloc _) .i64 _ _ [l] rfl (ints_laid w5 [l] 36) (by unfold maxLen; simp; omega) (by simp; omega) (by simp; omega) ?_; intro al' w6 hown hg hb; have HP6 := Lib.hid (HP5.out.pushA hown hg hb); have hbs6 := HP6.out.below.size; clear hown hg hb)
              | (refine wpList_append2 rfl _ _ 27 27 rfl 3 j0 (.int .i64 0) 8 Try.underlying27 Try.underlying27 hj hy0 hy1 hy2 rfl w.heap.size _ _ _ rfl (HP6.out.lev.alloc _) .i64 _ _ [sl] rfl (ints_laid w6 [sl] 3) (by unfold maxLen; simp; omega) (by simp; omega) (by simp; omega) ?_; intro lv' w7 hown hg hb; have HP7 := Lib.hid (HP6.out.pushL hown hg hb); clear hown hg hb))
            refine ⟨⟨k + 1, K5, its ++ [⟨l, st.length, x⟩], st, hlt, by go_num, by rw [HSl1.out], HSk1.out, ?_⟩, by simp [intOf]; omega⟩
            rw [litsOf_snoc, levsOf_snoc, ← HSl1.out]
            exact HP7.out
          · have hE : assE 8 its l x = 41 := by unfold assE; rw [if_pos ⟨HL1.out, HL2.out⟩, if_pos ⟨hx0, by omega⟩, if_neg hv]
            have HE := Lib.hid hE
            obtain ⟨y, hy⟩ : ∃ y, valI its l = y := ⟨_, rfl⟩
            rw [hy] at hv3 hv
            have HV3 := Lib.hid hv3
            clear hv3 hE hy
            go_wp2_with fail
            refine (HV3.out).mono ?_
            rintro r w4 ⟨rfl, hB4⟩
            have HP4 := Lib.hid (HP3.out.on hB4)
            clear hB4 hmc hmb
            go_wp2_with fail
            refine (assign_no l x (by rw [HE.out]; decide) w4 HP4.out.tr).mono ?_
            rintro r w5 ⟨rfl, hB5⟩
            rw [HE.out]
            have HP5 := Lib.hid (HP4.out.on hB5)
            clear hB5
            go_wp2_with fail
            refine ⟨⟨k + 1, K, its, st, hlt, by go_num, by rw [HSl1.out], HSk1.out, HP5.out⟩, by simp [intOf]; omega⟩
      · obtain rfl : k = zs.length := by omega
        have HP := Lib.hid hP
        clear hP HC HW
        go_wp2_with (go_at_call 15; refine (now_tr _ HP.out.tr).mono ?_; rintro r w2 ⟨rfl, rfl⟩)
        exact bodyPost_ret (v := .tuple #[.pointer (some ⟨g, 0, none⟩), u8, u9, .bool true]) (by simp [results, Try.results28, go_sem]) rfl ⟨g, K, its, st, _, _, rfl, by omega, HP.out⟩
end Go.Proofs.Ytdeedmfofjdbjaa
