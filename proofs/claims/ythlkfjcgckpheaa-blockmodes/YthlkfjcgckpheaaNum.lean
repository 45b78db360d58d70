/- What the functions of package num, and their references, answer, for all numbers; each leaves the world as it was. No conditions but those that each theorem bears. -/
import Derived.Test.YthlkfjcgckpheaaChecked
import Derived.WalkKit
namespace Go.Proofs.Ythlkfjcgckpheaa.Num
open Go.ChangeShapes Go.WideShapes Go.RowKit

def isB (a : Int) : Bool := decide (0 ≤ a) && decide (a ≤ 1099511627776)
def areB (a b : Int) : Bool := isB a && isB b
def addB (a b : Int) : Bool := areB a b && decide (a + b ≤ 1099511627776)
def mulB (a b : Int) : Bool := areB a b && decide (a * b ≤ 1099511627776)
def divB (a b : Int) : Bool := areB a b && decide (1 ≤ b)
def addV (a b : Int) : Int := if addB a b then a + b else 0
def mulV (a b : Int) : Int := if mulB a b then a * b else 0
def floorV (a b : Int) : Int := if divB a b then a / b else 0
def ceilV (a b : Int) : Int := if divB a b then (if a % b = 0 then a / b else a / b + 1) else 0

theorem isB_iff (a : Int) : isB a = true ↔ 0 ≤ a ∧ a ≤ 1099511627776 := by simp [isB]
theorem isB_yes {a : Int} (h0 : 0 ≤ a) (h1 : a ≤ 1099511627776) : isB a = true := by simp [isB, h0, h1]
theorem isB_no {a : Int} (h : a < 0 ∨ 1099511627776 < a) : isB a = false := by simp [isB]; omega
theorem areB_iff (a b : Int) : areB a b = true ↔ (0 ≤ a ∧ a ≤ 1099511627776) ∧ 0 ≤ b ∧ b ≤ 1099511627776 := by simp [areB, isB_iff]
theorem areB_mk {a b : Int} {p q : Bool} (ha : isB a = p) (hb : isB b = q) : areB a b = (p && q) := by simp [areB, ha, hb]
theorem ret_bool {a b : Bool} (h : a = b) : Ending.returned (.bool a) = .returned (.bool b) := by rw [h]
theorem ret_two {a c : Int} {b d : Bool} (h : a = c) (g : b = d) : Ending.returned (.tuple #[.int .i64 a, .bool b]) = .returned (.tuple #[.int .i64 c, .bool d]) := by rw [h, g]

theorem mul_le_iff (a b : Int) (hb : 1 ≤ b) : a * b ≤ 1099511627776 ↔ a ≤ 1099511627776 / b := by
  constructor
  · intro h; exact (Int.le_ediv_iff_mul_le (by omega)).2 h
  · intro h; exact (Int.le_ediv_iff_mul_le (by omega)).1 h

end Go.Proofs.Ythlkfjcgckpheaa.Num
