/- What the references of chapter 1 answer, for all numbers; each leaves the world as it was. No conditions but those that each theorem bears. -/
import Derived.Test.YtndhjfpjhpnbaaaNum
namespace Go.Proofs.Ytndhjfpjhpnbaaa.Num
set_option maxRecDepth 100000
open Go.ChangeShapes Go.WideShapes Go.RowKit

theorem ceil73 : ceilV 7 3 = 3 := by decide
theorem div73 : divB 7 3 = true := by decide
theorem div70 : divB 7 0 = false := by decide
theorem isLast : isB 1099511627776 = true := isB_yes (by omega) (by omega)
theorem isMinus : isB (-1) = false := isB_no (by omega)
theorem areB_comm (a b : Int) : areB b a = areB a b := by simp [areB, Bool.and_comm]
theorem addB_comm (a b : Int) : addB b a = addB a b := by rw [addB, addB, areB_comm, Int.add_comm]
theorem addV_comm (a b : Int) : addV b a = addV a b := by rw [addV, addV, addB_comm, Int.add_comm]
theorem mulB_comm (a b : Int) : mulB b a = mulB a b := by rw [mulB, mulB, areB_comm, Int.mul_comm]
theorem mulV_comm (a b : Int) : mulV b a = mulV a b := by rw [mulV, mulV, mulB_comm, Int.mul_comm]
theorem mulB_one (a : Int) : mulB a 1 = isB a := by
  have h : isB 1 = true := by decide
  rw [Bool.eq_iff_iff]; simp [mulB, areB, h, isB_iff]
theorem addB_zero (a : Int) : addB a 0 = isB a := by
  have h : isB 0 = true := by decide
  rw [Bool.eq_iff_iff]; simp [addB, areB, h, isB_iff]
theorem divB_iff (a b : Int) : divB a b = true ↔ (0 ≤ a ∧ a ≤ 1099511627776) ∧ 1 ≤ b ∧ b ≤ 1099511627776 := by
  simp [divB, areB_iff]; omega
end Go.Proofs.Ytndhjfpjhpnbaaa.Num
