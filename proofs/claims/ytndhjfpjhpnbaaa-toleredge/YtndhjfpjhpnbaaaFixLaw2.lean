/- The laws of chapter 10, over what package fix answers: no lesser time. -/
import Derived.Test.YtndhjfpjhpnbaaaFixLaw
namespace Go.Proofs.Ytndhjfpjhpnbaaa.Fix
set_option maxRecDepth 100000
open Go.ChangeShapes Go.WideShapes Go.RowKit

theorem sum_yes {base : Int} {l : List LoadV} {u : Int} (hm : mayB base l = true) (h : 0 ≤ u ∧ u ≤ 1000000) : sumO base l u = true := by rw [sumO, hm, decide_eq_true h.1, decide_eq_true h.2]; rfl
theorem least_may {base : Int} {l : List LoadV} {n : Int} (h : if mayB base l then IsLeast (sumZ base l) (some n) else some n = none) : mayB base l = true ∧ IsLeast (sumZ base l) (some n) := by
  cases hm : mayB base l with
  | false => rw [hm] at h; cases h
  | true => rw [hm] at h; exact ⟨rfl, h⟩
end Go.Proofs.Ytndhjfpjhpnbaaa.Fix
