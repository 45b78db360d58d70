/- Chapter 12: what package resp must be shown to answer; the law's own functions. -/
import Derived.Test.YtndhjfpjhpnbaaaRespRef
import Derived.Test.YtndhjfpjhpnbaaaBlockSpec
namespace Go.Proofs.Ytndhjfpjhpnbaaa.Lex
set_option maxRecDepth 100000
open Go.ChangeShapes Go.WideShapes Go.RowKit

def CWith : Prop := ∀ (s : SetV) (i b : Int) (w : World), SetIn w s → allB s = true → I64 i → I64 b → Calls Try.prog 27 #[s.val, .int .i64 i, .int .i64 b] w fun e w' => e = .returned (.tuple #[.int .i64 (withR s i b), .int .i64 (withH s i b)]) ∧ Below w.heap.size w w'
theorem aS_busy (g : Nat) : busyO (aS g) 0 0 = some 2 := by
  unfold busyO
  have hin : inI (aS g) 0 = true := by show inI (aS 0) 0 = true; decide
  have e : allL (aS g) (Int.toNat 0) = [⟨5, 2⟩] := aS_all0 g
  rw [hin, e]
  rw [if_pos (by decide)]
  exact leastO_some aS_least
theorem aS_resp (g : Nat) : withR (aS g) 0 (mostZ (aS g) 0) = 2 ∧ withH (aS g) 0 (mostZ (aS g) 0) = 1 := by
  have hm : mostZ (aS g) 0 = 0 := by show mostZ (aS 0) 0 = 0; decide +kernel
  have hR : withR (aS g) 0 0 = 2 := by
    rw [withR, aS_busy]
    show respTo (aS g) 0 0 1 = 2
    rw [resp_next]
    have h0 : respTo (aS g) 0 0 0 = 0 := rfl
    have hd : doneZ (aS g) 0 0 0 = 2 := by
      have : Fix.IsLeast (Fix.sumZ 2 []) (some 2) := ⟨by decide, rfl, fun w _ h => h⟩
      show Fix.valO (leastO (Fix.sumZ 2 [])) = 2
      rw [leastO_some this]
      rfl
    rw [h0, hd]
    show max (0 : Int) (2 - 0 * 5) = 2
    decide
  rw [hm]
  refine ⟨hR, ?_⟩
  rw [withH, aS_busy]
  simp only
  rw [hR]
  show (if (2 : Int) ≤ 5 then (1 : Int) else 2) = 1
  rfl
end Go.Proofs.Ytndhjfpjhpnbaaa.Lex
