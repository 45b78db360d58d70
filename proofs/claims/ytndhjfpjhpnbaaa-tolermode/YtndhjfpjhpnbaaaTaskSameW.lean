/- The law of chapter 5 of two sets, over what package task answers. -/
import Derived.Test.YtndhjfpjhpnbaaaTaskPut
import Derived.Test.YtndhjfpjhpnbaaaTaskRef3
namespace Go.Proofs.Ytndhjfpjhpnbaaa.Lex
set_option maxRecDepth 100000
open Go.ChangeShapes Go.WideShapes Go.RowKit

structure SBoxes (w : World) (g : Nat) (a b : SetV) : Prop where
  left : SBox w g a
  right : SBox w (g + 1) b
theorem SBoxes.bel {w w' : World} {g : Nat} {a b : SetV} (h : SBoxes w g a b) (hb : Below w.heap.size w w') : SBoxes w' g a b := ⟨h.left.bel hb, h.right.bel hb⟩
theorem SBoxes.drew {w : World} {g : Nat} {a b : SetV} (h : SBoxes w g a b) : SBoxes w.drew g a b := ⟨h.left.drew, h.right.drew⟩
theorem sboxes_new (w : World) (a b : SetV) (ty : TypeId) : SBoxes ((w.alloc (.cells #[.int .i64 a.reload, .slice a.ao a.ts.length a.cap] ty)).alloc (.cells #[.int .i64 b.reload, .slice b.ao b.ts.length b.cap] ty)) w.heap.size a b :=
  ⟨(sbox_new w a ty).bel ((Below.refl _ _).alloc (Nat.le_refl _) _), by constructor <;> simp⟩
end Go.Proofs.Ytndhjfpjhpnbaaa.Lex
