/- The law of chapter 8 of more sets that are needed again, over what package again answers. -/
import Derived.Test.YtndhjfpjhpnbaaaAgainMoreP
import Derived.Test.YtndhjfpjhpnbaaaTaskNamesP
namespace Go.Proofs.Ytndhjfpjhpnbaaa.Lex
set_option maxRecDepth 100000
open Go.ChangeShapes Go.WideShapes Go.RowKit

structure TwoBox (w : World) (g h : Nat) (a b a' b' : Value) : Prop where
  c0 : w.cell? ⟨g, 0, none⟩ = some a
  c1 : w.cell? ⟨g, 1, none⟩ = some b
  d0 : w.cell? ⟨h, 0, none⟩ = some a'
  d1 : w.cell? ⟨h, 1, none⟩ = some b'
theorem TwoBox.bel {w w' : World} {g h : Nat} {a b a' b' : Value} (x : TwoBox w g h a b a' b') (hb : Below w.heap.size w w') : TwoBox w' g h a b a' b' := ⟨cell_bel' x.c0 hb, cell_bel' x.c1 hb, cell_bel' x.d0 hb, cell_bel' x.d1 hb⟩
theorem TwoBox.drew {w : World} {g h : Nat} {a b a' b' : Value} (x : TwoBox w g h a b a' b') : TwoBox w.drew g h a b a' b' := ⟨x.c0, x.c1, x.d0, x.d1⟩
end Go.Proofs.Ytndhjfpjhpnbaaa.Lex
