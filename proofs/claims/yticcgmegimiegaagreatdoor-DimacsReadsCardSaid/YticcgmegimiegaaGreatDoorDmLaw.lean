/- What every law's card ends with, over a row that lists the library's tables and errors. -/
import Derived.Test.YticcgmegimiegaaGreatDoorMade02
import Derived.Test.YticcgmegimiegaaGreatDoorCards
import Derived.Test.YticcgmegimiegaaGreatDoorTie
import Derived.Test.YticcgmegimiegaaGreatDoorDmParse
import Derived.Deep.DeepHandedRow
import Derived.Lib.LaidTab
import Derived.SevenTiedAt
import Derived.LaidMore
import Derived.Stop.LaidErr
namespace Go.Proofs.YticcgmegimiegaaGreatDoor
open Go.ChangeShapes Go.WideShapes Go.ChangeAt Go.RowKit

theorem gTabType : (Tryz.prog.globals[7]?).map (·.type) = some 197 := by kernel_rfl
theorem gSynType : (Tryz.prog.globals[5]?).map (·.type) = some 93 := by kernel_rfl
theorem gRngType : (Tryz.prog.globals[6]?).map (·.type) = some 93 := by kernel_rfl
theorem star : "*" ++ "errors.errorString" = "*errors.errorString" := by decide
theorem rowErr (u : TypeId) (h : Tryz.prog.typeName? 3 u = some "*errors.errorString") : u = 208 :=
  typeName_ptr_named (nm := "errors.errorString") (by rw [star]; kernel_rfl) (by kernel_rfl) (by decide) u (by rw [star]; exact h)
theorem cellsErr : Tryz.prog.cellsOf 210 = 1 := by kernel_rfl
theorem cellsStr : Tryz.prog.cellsOf 9 = 1 := by kernel_rfl
theorem env_laid {W : World} {a b c : String × DataW Unit} {r : List (String × DataW Unit)} (h : laidMet Tryz.prog (a :: b :: ("internal/strconv.uint64pow10", Rows.laid_internal_strconv_uint64pow10) :: c :: ("strconv.ErrRange", Rows.laid_strconv_ErrRange) :: ("strconv.ErrSyntax", Rows.laid_strconv_ErrSyntax) :: r) W) : Env W := by
  obtain ⟨a0, s0, hv0, -, -, -⟩ := laid_sentinel h.tail.tail.tail.tail gRng gRngType Tryz.underlying93 rowErr Tryz.underlying208 Tryz.underlying210 rfl rfl Tryz.underlying9 cellsErr cellsStr
  obtain ⟨a1, s1, hv1, -, -, -⟩ := laid_sentinel h.tail.tail.tail.tail.tail gSyn gSynType Tryz.underlying93 rowErr Tryz.underlying208 Tryz.underlying210 rfl rfl Tryz.underlying9 cellsErr cellsStr
  exact ⟨Lib.tabIs_of_head gTab gTabType Tryz.underlying197 Tryz.underlying127 (by kernel_rfl) (by kernel_rfl) h.tail.tail, ⟨_, _, hv1⟩, ⟨_, _, hv0⟩⟩
theorem env_of {W : World} (h : laidMetH Tryz.prog Rows.dimacsBackRow.laid W) : Env W := by
  rw [MakeChecks.laidMetH_plain _ _ _ (by kernel_rfl)] at h
  exact env_laid h
theorem no_standIn {P : Program} {a : Array TypeId} (h : (a.toList.all fun t => !P.wantsStandIn t) = true) {j : Nat} {t : TypeId} (ht : a[j]? = some t) : P.wantsStandIn t = false := by
  have := List.all_eq_true.1 h t (by simpa using Array.mem_of_getElem? ht)
  simpa using this
end Go.Proofs.YticcgmegimiegaaGreatDoor
