/- The law RespTells. -/
import Derived.Test.YtndhjfpjhpnbaaaRespLaw
import Derived.Test.YtndhjfpjhpnbaaaBlockRef
namespace Go.Proofs.Ytndhjfpjhpnbaaa.Lex
set_option maxRecDepth 100000
open Go.ChangeShapes Go.WideShapes Go.RowKit

theorem with_out {s : SetV} {i b : Int} (h : inI s i = false) : withR s i b = 0 ∧ withH s i b = 3 := by
  have hb : busyO s i b = none := by unfold busyO; rw [h]; rfl
  rw [withR, withH, hb]
  exact ⟨rfl, rfl⟩
end Go.Proofs.Ytndhjfpjhpnbaaa.Lex
