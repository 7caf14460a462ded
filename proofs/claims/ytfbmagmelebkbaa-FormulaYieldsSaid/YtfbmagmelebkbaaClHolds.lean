/- clauses.Holds. -/
import Derived.Test.YtfbmagmelebkbaaClUnion
import Derived.Deep.LoopGhost
import Derived.WalkMore
namespace Go.Proofs.Ytfbmagmelebkbaa
open Go.RowKit Go.ChangeAt Go.ChangeShapes Go.WideShapes

theorem inc_get {ns : List Int} (h : Inc ns) {i j : Nat} (hij : i < j) (hj : j < ns.length) : ltI (ns[i]?.getD 0) (ns[j]?.getD 0) = true := by
  rw [List.getElem?_eq_getElem hj, List.getElem?_eq_getElem (by omega)]
  exact List.pairwise_iff_getElem.1 h i j (by omega) hj hij
/-- What a search has found out. -/
def Srch (ns : List Int) (m : Int) (lo hi : Nat) : Prop := lo ≤ hi ∧ hi ≤ ns.length ∧ (∀ j, j < lo → ltI (ns[j]?.getD 0) m = true) ∧ (∀ j, hi ≤ j → j < ns.length → ltI m (ns[j]?.getD 0) = true)
theorem Srch.start (ns : List Int) (m : Int) : Srch ns m 0 ns.length := ⟨Nat.zero_le _, Nat.le_refl _, fun j hj => by omega, fun j h1 h2 => by omega⟩
theorem Srch.none {ns : List Int} {m : Int} {lo : Nat} (h : Srch ns m lo lo) : hasB ns m = false := by
  refine hasB_no fun hm => ?_
  obtain ⟨j, hj, e⟩ := List.getElem_of_mem hm
  have hg : ns[j]?.getD 0 = m := by rw [List.getElem?_eq_getElem hj]; exact e
  by_cases hlt : j < lo
  · have := h.2.2.1 j hlt
    rw [hg, ltI_irrefl] at this
    cases this
  · have := h.2.2.2 j (by omega) hj
    rw [hg, ltI_irrefl] at this
    cases this
theorem Srch.low {ns : List Int} {m : Int} {lo hi k : Nat} (hi' : Inc ns) (h : Srch ns m lo hi) (h2 : k < hi) (hc : ltI (ns[k]?.getD 0) m = true) : Srch ns m (k + 1) hi :=
  ⟨by omega, h.2.1, fun j hj => by
    by_cases e : j = k
    · rw [e]; exact hc
    · exact ltI_trans (inc_get hi' (show j < k by omega) (by have := h.2.1; omega)) hc, h.2.2.2⟩
theorem Srch.high {ns : List Int} {m : Int} {lo hi k : Nat} (hi' : Inc ns) (h : Srch ns m lo hi) (h1 : lo ≤ k) (h2 : k < hi) (hc : ltI m (ns[k]?.getD 0) = true) : Srch ns m lo k :=
  ⟨h1, by have := h.2.1; omega, h.2.2.1, fun j h3 h4 => by
    by_cases e : j = k
    · rw [e]; exact hc
    · exact ltI_trans hc (inc_get hi' (show k < j by omega) h4)⟩

def HoRel (ns ls : List Int) (w : World) (g : Nat) (h i : Value) (wr : World) : Prop := ∃ k : Nat, k + g = ls.length ∧ i = .int .i64 k ∧ h = .bool false ∧ (∀ m ∈ ls.take k, hasB ns m = false) ∧ wr = w
def HiRel (ns : List Int) (m : Int) (w : World) (g : Nat) (h lo hi : Value) (wr : World) : Prop := ∃ a b : Nat, a + g = b ∧ lo = .int .i64 a ∧ hi = .int .i64 b ∧ h = .bool false ∧ Srch ns m a b ∧ wr = w
theorem holdsB_norm (zs ls : List Int) : holdsB (normL zs) ls = holdsB zs ls := by
  unfold holdsB
  congr 1
  funext x
  exact hasB_norm zs x

set_option maxRecDepth 100000 in
set_option maxHeartbeats 4000000 in
theorem holds_any (B : Nat) (sv lv : Value) (zs ls : List Int) (hz : zs.length ≤ 1000000) (hl : ls.length ≤ 9223372036854775807) (w : World) (hB : B ≤ w.heap.size) (hI : Lits B w sv zs) (hJ : Ints B w lv ls) :
    Calls Try.prog 28 #[sv, lv] w fun e w' => e = .returned (.bool (rightB zs && holdsB zs ls)) ∧ Below w.heap.size w w' := by
  have h1 := clright_any B sv zs (by omega) w hI.ints
  have h2 := clsorted_any B sv zs hz w hB hI
  obtain ⟨A1, c1, rfl, -⟩ := ints_shape hI.ints
  obtain ⟨A2, c2, rfl, hcl⟩ := ints_shape (hJ.more hB)
  rw [← holdsB_norm]
  have hnl := norm_length zs
  have hinc := norm_inc zs
  obtain ⟨ns, hns⟩ : ∃ ns, normL zs = ns := ⟨_, rfl⟩
  rw [hns] at h2 hnl hinc ⊢
  clear hI hJ hns
  cases r1 : rightB zs
  · rw [r1] at h1
    rw [Bool.false_and]
    have H1 := Lib.hid h1
    clear r1 h1 h2 hcl hinc
    go_enter Try.func28, Try.ntmps28
    go_wp2_with fail
    go_step3
    go_wp2_with fail
    refine H1.out.mono ?_
    rintro e w' ⟨rfl, rfl⟩
    go_wp2_with fail
    rw [Exit.noGoto_ret]
    go_ret
    exact ⟨rfl, Below.refl _ _⟩
  · rw [r1] at h1
    rw [Bool.true_and]
    have H1 := Lib.hid h1; have H2 := Lib.hid h2; have HCL := Lib.hid hcl; have HIn := Lib.hid hinc
    clear r1 h1 h2 hcl hinc
    go_enter Try.func28, Try.ntmps28
    go_wp2_with fail
    go_step3
    go_wp2_with fail
    refine H1.out.mono ?_
    rintro e w' ⟨rfl, rfl⟩
    go_wp2_with fail
    refine H2.out.mono ?_
    rintro e w1 ⟨v, rfl, hlv, hb1⟩
    obtain ⟨A3, c3, rfl, hc3⟩ := ints_shape hlv.ints
    have HC3 := Lib.hid hc3; clear hc3 hlv
    go_wp2_with fail
    go_step3
    go_wp2_with fail
    go_loopg [5, 19] ls.length (fun g h i wr => HoRel ns ls w1 g h i wr)
    case atStart => exact ⟨0, by omega, rfl, rfl, (fun m hm => by simp at hm), rfl⟩
    case round =>
      obtain ⟨k, hkg, rfl, rfl, hall, rfl⟩ := hrel
      have HA := Lib.hid hall; clear hall
      cases gk with
      | zero =>
        obtain rfl : k = ls.length := by omega
        have ha := HA.out
        rw [List.take_length] at ha
        have hn : holdsB ns ls = false := holdsB_no ha
        have HN := Lib.hid hn; clear hn ha
        go_wp2_with fail
        rw [Exit.noGoto_ret]
        go_ret
        exact ⟨ret_bool HN.out.symm, hb1⟩
      | succ g =>
        have hlt : k < ls.length := by omega
        obtain ⟨b, off, rfl, hb, hck⟩ := HCL.out k hlt
        have hck : wr.cell? ⟨b, off + k, none⟩ = some (.int .i64 (ls[k]?.getD 0)) := (hb1.cell (p := ⟨b, off + k, none⟩) hb).trans hck
        have htk := take_one ls hlt
        have hmem := get_mem hlt
        obtain ⟨m, hm⟩ : ∃ m, ls[k]?.getD 0 = m := ⟨_, rfl⟩
        rw [hm] at hck htk hmem
        clear hm
        have HT := Lib.hid htk; have HM := Lib.hid hmem; clear htk hmem
        go_wp2_with fail
        obtain ⟨W, hW⟩ : ∃ W : World, W = wr := ⟨_, rfl⟩
        subst hW
        go_loopg [5, 9, 10] ns.length (fun g h lo hi wr => HiRel ns m W g h lo hi wr)
        case atStart => exact ⟨0, ns.length, by omega, rfl, rfl, rfl, Srch.start ns m, rfl⟩
        case round =>
          obtain ⟨lo, hi, hgk, rfl, rfl, rfl, hs, rfl⟩ := hrel
          have HS := Lib.hid hs
          have hs2 := hs.2.1
          clear hs
          cases gk with
          | zero =>
            obtain rfl : lo = hi := by omega
            have hno := HS.out.none
            have HNo := Lib.hid hno; clear hno
            go_wp2_with fail
            go_roundg g
            case measure => omega
            case rel => exact ⟨k + 1, by omega, by go_num, rfl, all_more HT.out HA.out HNo.out, rfl⟩
          | succ g2 =>
            have hlh : lo < hi := by omega
            obtain ⟨mid, hmid⟩ : ∃ mid, (lo + hi) / 2 = mid := ⟨_, rfl⟩
            have hm1 : lo ≤ mid := by omega
            have hm2 : mid < hi := by omega
            obtain ⟨b3, off3, rfl, -, hck3⟩ := HC3.out mid (by omega)
            obtain ⟨y, hy⟩ : ∃ y, ns[mid]?.getD 0 = y := ⟨_, rfl⟩
            rw [hy] at hck3
            have hym : y ∈ ns := by rw [← hy]; exact get_mem (by omega)
            have HY := Lib.hid hy; have HYm := Lib.hid hym; clear hy hym
            have hmi : ((lo : Int) + (hi : Int)) / 2 = (mid : Int) := by omega
            have hmn : ((lo : Int) + (hi : Int)).tdiv 2 = (mid : Int) := by rw [Int.tdiv_eq_ediv_of_nonneg (by omega)]; exact hmi
            have HMd := Lib.hid hmid; clear hmid
            have hcmp := fun W => compare_any y m W
            obtain ⟨c, ec⟩ : ∃ c, compareI y m = c := ⟨_, rfl⟩
            rw [ec] at hcmp
            have hcv : c = 0 ∨ c = 1 ∨ c = -1 := by have := compareI_vals y m; omega
            have HEc := Lib.hid ec; have HCm := Lib.hid hcmp; clear ec hcmp
            rcases hcv with rfl | rfl | rfl
            · go_wp2_with (go_at_call 54; refine (HCm.out _).mono ?_; rintro e w' ⟨rfl, rfl⟩)
              rw [Exit.noGoto_ret]
              go_ret
              exact ⟨ret_bool (holdsB_iff.2 ⟨m, HM.out, by rw [← compareI_zero.1 HEc.out]; exact HYm.out⟩).symm, hb1⟩
            · have hnx := HS.out.high HIn.out hm1 hm2 (by rw [HY.out]; have := HEc.out; rw [compareI_flip] at this; exact compareI_neg.1 (by omega))
              have HNx := Lib.hid hnx; clear hnx
              go_wp2_with (go_at_call 54; refine (HCm.out _).mono ?_; rintro e w' ⟨rfl, rfl⟩)
              go_roundg (mid - lo)
              case measure => omega
              case rel => exact ⟨lo, mid, by omega, rfl, rfl, rfl, HNx.out, rfl⟩
            · have hnx := HS.out.low HIn.out hm2 (by rw [HY.out]; exact compareI_neg.1 HEc.out)
              have HNx := Lib.hid hnx; clear hnx
              go_wp2_with (go_at_call 54; refine (HCm.out _).mono ?_; rintro e w' ⟨rfl, rfl⟩)
              go_roundg (hi - (mid + 1))
              case measure => omega
              case rel => exact ⟨mid + 1, hi, by omega, by go_num, rfl, rfl, HNx.out, rfl⟩
end Go.Proofs.Ytfbmagmelebkbaa
