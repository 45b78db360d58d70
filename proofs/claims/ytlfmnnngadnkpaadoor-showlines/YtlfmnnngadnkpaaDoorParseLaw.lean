/- The laws of chapter 6, over what Parse of package parse answers. -/
import Derived.Test.YtlfmnnngadnkpaaDoorParseRef3
import Derived.Test.YtlfmnnngadnkpaaDoorTaskRef3
namespace Go.Proofs.YtlfmnnngadnkpaaDoor.Lex
open Go.ChangeShapes Go.WideShapes Go.RowKit

/- what Parse must be shown to answer -/
def knownL : List UInt8 := [114, 101, 108, 111, 97, 100, 32, 48, 59, 32, 116, 97, 115, 107, 32, 97, 32, 112, 101, 114, 105, 111, 100, 32, 53, 32, 100, 101, 97, 100, 108, 105, 110, 101, 32, 53, 32, 102, 105, 120, 101, 100, 32, 114, 101, 103, 105, 111, 110, 115, 32, 50, 32, 49, 59]
theorem known_is : (parseS knownL).err = 0 ∧ (parseS knownL).set.ts.length = 1 ∧ ((parseS knownL).set.ts.getD 0 task0).regs.length = 2 ∧ ((parseS knownL).set.ts.getD 0 task0).T = 5 := by decide +kernel
theorem sbox_at (w : World) (X : SetV) (ty : TypeId) {n : Nat} (hn : w.heap.size = n) : SBox (w.alloc (.cells #[.int .i64 X.reload, .slice X.ao X.ts.length X.cap] ty)) n X := by subst hn; exact sbox_new w X ty
theorem same_bare {X s : SetV} (hr : X.reload = s.reload) (h : X.ts.map bareT = s.ts.map bareT) : sameB X s = true := by
  have hl : X.ts.length = s.ts.length := by have := congrArg List.length h; simpa using this
  rw [sameB, hr, hl]
  simp only [beq_self_eq_true, Bool.true_and]
  rw [List.all_eq_true]
  intro j _
  have hj : bareT (X.ts.getD j task0) = bareT (s.ts.getD j task0) := by rw [← bare_getD, ← bare_getD, h]
  have key : ∀ a b : TaskV, bareT a = bareT b → sameT a b = true := fun a b e => by
    obtain ⟨⟩ := a
    obtain ⟨⟩ := b
    simp only [bareT, TaskV.mk.injEq] at e
    obtain ⟨rfl, rfl, rfl, rfl, rfl, rfl, -, -, rfl, rfl, rfl⟩ := e
    simp [sameT]
  exact key _ _ hj
end Go.Proofs.YtlfmnnngadnkpaaDoor.Lex
