/- The reference of chapter 9: what Of and Most answer. -/
import Derived.Test.YtndhjfpjhpnbaaaBlockLaw
namespace Go.Proofs.Ytndhjfpjhpnbaaa.Lex
set_option maxRecDepth 100000
open Go.ChangeShapes Go.WideShapes Go.RowKit

theorem of_out {s : SetV} {low high : Int} (h : ¬ (0 ≤ high ∧ high < low ∧ low < s.ts.length)) : ofZ s low high = 0 := by rw [ofZ, if_neg h]
def longTo (l : List Int) (j : Nat) : Int := longZ (l.take j)
theorem long_next {l : List Int} {j : Nat} (h : j < l.length) : longTo l (j + 1) = max (longTo l j) (l.getD j 0) := by
  rw [longTo, longTo, longZ, longZ, List.take_succ_eq_append_getElem h, List.foldl_append]
  simp [List.getD, h]
theorem regs_cell {w : World} {ao : Option Addr} {l : List Int} (h : RegsIn w ao l) : ∀ j, j < l.length → ∃ b off, ao = some ⟨b, off, none⟩ ∧ w.cell? ⟨b, off + j, none⟩ = some (.int .i64 (l.getD j 0)) := fun j hj => by
  obtain ⟨b, off, e, hc⟩ := h (fun e => by rw [e] at hj; simp at hj)
  exact ⟨b, off, e, hc j hj⟩
end Go.Proofs.Ytndhjfpjhpnbaaa.Lex
