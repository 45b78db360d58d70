/- The laws of chapter 4, over what Tokens and Words of package lex answer. -/
import Derived.Test.YtndhjfpjhpnbaaaLexSame
import Derived.Test.YtndhjfpjhpnbaaaLexPure
namespace Go.Proofs.Ytndhjfpjhpnbaaa.Lex
set_option maxRecDepth 100000
open Go.ChangeShapes Go.WideShapes Go.RowKit

theorem toList_mkS (d : List UInt8) : (mkS d).toList = d := by rw [toList_bl, bl_mkS]
theorem bel_drewN {B : Nat} {a w : World} (h : Below B a w) (n : Nat) : Below B a (w.drewN n) := h.trans ⟨rfl, rfl, rfl, Nat.le_refl _, fun _ _ => rfl⟩
theorem tokens_len (l : List UInt8) : (tokens l).toks.length ≤ l.length + 1 := by
  unfold tokens
  split
  · simp
  · cases h : toksA false 0 l with
    | error i => simp
    | ok L =>
      have := toks_len l.length l (Nat.le_refl _) _ _ _ h
      simp; exact this
def LexT : Prop := ∀ (s : ByteArray) (w : World), Calls Try.prog 43 #[.string s] w fun e w' =>
  ∃ v, e = .returned (.tuple #[v, .int .i64 (tokens (bl s)).pos, .int .i64 (tokens (bl s)).err]) ∧ w'.ownsRow w.heap.size 63 4 v (tokens (bl s)).toks.length ((tokens (bl s)).toks.flatMap tokC) ∧ Below w.heap.size w w'
def LexW : Prop := ∀ w : World, Calls Try.prog 52 #[] w fun e w' =>
  ∃ b off cap, e = .returned (.slice (some ⟨b, off, none⟩) 10 cap) ∧ (∀ j, j < 10 → w'.cell? ⟨b, off + j, none⟩ = some (.string (mkS (words.getD j [])))) ∧ Below w.heap.size w w'

theorem cell_bel {w w' : World} {a : Addr} {u : Value} (h : w.cell? a = some u) (hb : Below w.heap.size w w') : w'.cell? a = some u := by
  rw [hb.cell (World.block_lt_of_cell? w _ h)]; exact h
theorem bel_trans {B : Nat} {a b c : World} (h : Below B a b) (hB : B ≤ b.heap.size) (k : Below b.heap.size b c) : Below B a c := h.trans (k.mono hB)
theorem bel2 {a b c : World} (h : Below a.heap.size a b) (k : Below b.heap.size b c) : Below a.heap.size a c := bel_trans h h.size k

/- any text -/
end Go.Proofs.Ytndhjfpjhpnbaaa.Lex
