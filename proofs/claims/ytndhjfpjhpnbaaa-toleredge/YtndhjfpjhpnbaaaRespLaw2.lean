/- The laws of chapter 12, over what package resp answers: less blocking. -/
import Derived.Test.YtndhjfpjhpnbaaaRespLaw
namespace Go.Proofs.Ytndhjfpjhpnbaaa.Lex
set_option maxRecDepth 100000
open Go.ChangeShapes Go.WideShapes Go.RowKit

theorem with_three {s : SetV} {i b : Int} : withH s i b = 3 ↔ busyO s i b = none := by
  rw [withH]
  cases busyO s i b with
  | none => simp
  | some L => simp only [reduceCtorEq, iff_false]; split <;> decide
theorem with_less {s : SetV} (ha : allB s = true) (hu : ∀ t ∈ s.ts, U64 t.ecb ∧ U64 t.ucb) {i b less : Int} (h0 : 0 ≤ less ∧ less ≤ b) (h : withH s i b ≠ 3) : withH s i (b - less) ≠ 3 ∧ withR s i (b - less) ≤ withR s i b := by
  cases hB : busyO s i b with
  | none => exact absurd (with_three.2 hB) h
  | some L =>
    have hin := busy_in hB
    simp only [inI, Bool.and_eq_true, decide_eq_true_eq] at hin
    obtain ⟨k, rfl⟩ : ∃ k : Nat, i = k := ⟨i.toNat, by omega⟩
    obtain ⟨L', hB', hle⟩ := resp_less ha hu (by omega) h0 hB
    refine ⟨fun e => ?_, hle⟩
    rw [with_three.1 e] at hB'
    cases hB'
end Go.Proofs.Ytndhjfpjhpnbaaa.Lex
