/- What package block answers. -/
import Derived.Test.YtndhjfpjhpnbaaaAgainCode
import Derived.Test.YtndhjfpjhpnbaaaAgainRel
import Derived.Test.YtndhjfpjhpnbaaaBlockSpec
namespace Go.Proofs.Ytndhjfpjhpnbaaa.Lex
set_option maxRecDepth 100000
open Go.ChangeShapes Go.WideShapes Go.RowKit

theorem of_out9 {s : SetV} {low high : Int} (h : ¬ (0 ≤ high ∧ high < low ∧ low < s.ts.length)) : ofZ s low high = 0 := by rw [ofZ, if_neg h]
def longTo9 (l : List Int) (j : Nat) : Int := longZ (l.take j)
theorem long_next9 {l : List Int} {j : Nat} (h : j < l.length) : longTo9 l (j + 1) = max (longTo9 l j) (l.getD j 0) := by
  rw [longTo9, longTo9, longZ, longZ, List.take_succ_eq_append_getElem h, List.foldl_append]
  simp [List.getD, h]
/- the longest region -/
/- a task is laid into a block of its own -/
def cells9 (t : TaskV) : Array Value := #[.string t.name, .int .i64 t.T, .int .i64 t.D, .int .i64 t.mode, .int .i64 t.Q, .int .i64 t.theta, .slice t.ao t.regs.length t.cap, .int .u64 t.ecb, .int .u64 t.ucb]
def zero9 : Array Value := #[.string ⟨#[]⟩, .int .i64 0, .int .i64 0, .int .i64 0, .int .i64 0, .int .i64 0, .slice none 0 0, .int .u64 0, .int .u64 0]
theorem XBox.far {w : World} {g b o x j : Nat} {u v : Value} {t : TaskV} (h : XBox w g u v b o t) (h1 : g ≠ x) (h2 : b ≠ x) (z : Value) : XBox (w.setCell ⟨x, j, none⟩ z) g u v b o t := by
  have f : ∀ (p : Addr) (q : Value), p.block ≠ x → w.cell? p = some q → (w.setCell ⟨x, j, none⟩ z).cell? p = some q := fun p q hp hq => by
    rw [World.cell?_setCell_far _ _ _ _ (fun e => hp e.symm)]; exact hq
  exact ⟨f _ _ h1 h.c0, f _ _ h1 h.c1, ⟨f _ _ h2 h.row.c0, f _ _ h2 h.row.c1, f _ _ h2 h.row.c2, f _ _ h2 h.row.c3, f _ _ h2 h.row.c4, f _ _ h2 h.row.c5, f _ _ h2 h.row.c6, f _ _ h2 h.row.c7, f _ _ h2 h.row.c8⟩⟩
def put9 (w : World) (x : Nat) (t : TaskV) : World := ((((((((w.setCell ⟨x, 0, none⟩ (.string t.name)).setCell ⟨x, 1, none⟩ (.int .i64 t.T)).setCell ⟨x, 2, none⟩ (.int .i64 t.D)).setCell ⟨x, 3, none⟩ (.int .i64 t.mode)).setCell ⟨x, 4, none⟩ (.int .i64 t.Q)).setCell ⟨x, 5, none⟩ (.int .i64 t.theta)).setCell ⟨x, 6, none⟩ (.slice t.ao t.regs.length t.cap)).setCell ⟨x, 7, none⟩ (.int .u64 t.ecb)).setCell ⟨x, 8, none⟩ (.int .u64 t.ucb)
theorem put9_block {w : World} {x : Nat} {t : TaskV} {ty : TypeId} (h : w.heap[x]? = some (.cells zero9 ty (0, 0))) : (put9 w x t).heap[x]? = some (.cells (cells9 t) ty (0, 0)) := by
  have := block_set (j := 8) (u := .int .u64 t.ucb) (block_set (j := 7) (u := .int .u64 t.ecb) (block_set (j := 6) (u := .slice t.ao t.regs.length t.cap) (block_set (j := 5) (u := .int .i64 t.theta) (block_set (j := 4) (u := .int .i64 t.Q) (block_set (j := 3) (u := .int .i64 t.mode) (block_set (j := 2) (u := .int .i64 t.D) (block_set (j := 1) (u := .int .i64 t.T) (block_set (j := 0) (u := .string t.name) h))))))))
  exact this.trans (by simp [zero9, cells9])
theorem put9_bel {w0 w : World} {B x : Nat} {t : TaskV} (h : Below B w0 w) (hx : B ≤ x) : Below B w0 (put9 w x t) := by
  unfold put9
  exact ((((((((h.setCell (p := ⟨x, 0, none⟩) hx _).setCell (p := ⟨x, 1, none⟩) hx _).setCell (p := ⟨x, 2, none⟩) hx _).setCell (p := ⟨x, 3, none⟩) hx _).setCell (p := ⟨x, 4, none⟩) hx _).setCell (p := ⟨x, 5, none⟩) hx _).setCell (p := ⟨x, 6, none⟩) hx _).setCell (p := ⟨x, 7, none⟩) hx _).setCell (p := ⟨x, 8, none⟩) hx _
theorem XBox.put9 {w : World} {g b o x : Nat} {u v : Value} {t : TaskV} (h : XBox w g u v b o t) (h1 : g ≠ x) (h2 : b ≠ x) : XBox (put9 w x t) g u v b o t := by
  unfold Lex.put9
  exact ((((((((h.far h1 h2 _).far h1 h2 _).far h1 h2 _).far h1 h2 _).far h1 h2 _).far h1 h2 _).far h1 h2 _).far h1 h2 _).far h1 h2 _
end Go.Proofs.Ytndhjfpjhpnbaaa.Lex
