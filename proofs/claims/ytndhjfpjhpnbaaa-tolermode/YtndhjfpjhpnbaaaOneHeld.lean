/- A set of one's own beside the one that was handed in, with the cell that holds it; one field of a task of it, changed. -/
import Derived.Test.YtndhjfpjhpnbaaaBlockHeld
import Derived.Test.YtndhjfpjhpnbaaaLessHeld
namespace Go.Proofs.Ytndhjfpjhpnbaaa.Lex
set_option maxRecDepth 100000
open Go.ChangeShapes Go.WideShapes Go.RowKit

structure OM (w W : World) (s : SetV) (xb gx : Nat) (xr : Int) (xc : Nat) (X : List TaskV) : Prop where
  box : SBox W w.heap.size s
  bx : W.heap[xb]? = some (.cells #[.int .i64 xr, .slice (some ⟨gx, 0, none⟩) X.length xc] 24 (0, 0))
  hx : HeldS W (w.heap.size + 1) ⟨xr, some ⟨gx, 0, none⟩, xc, X⟩
  bel : Below w.heap.size w W
theorem OM.setX {w W : World} {s : SetV} {xb gx xc k f : Nat} {xr : Int} {X : List TaskV} {t t' : TaskV} {u : Value} (h : OM w W s xb gx xr xc X) (hk : k < X.length) (ht : X.getD k task0 = t) (hc : Chg t t' f u) : OM w (W.setCell ⟨gx, k * 9 + f, none⟩ u) s xb gx xr xc (X.set k t') := by
  obtain ⟨hB, cs, hg, -⟩ := h.hx.blk
  refine ⟨h.box.far (by omega) u, ?_, h.hx.put hk ht hc, h.bel.setCell (p := ⟨gx, k * 9 + f, none⟩) (by show w.heap.size ≤ gx; omega) u⟩
  rw [List.length_set]
  exact far_set u h.bx (blk_ne hg h.bx)
theorem OM.up {w W V : World} {s : SetV} {xb gx xc : Nat} {xr : Int} {X : List TaskV} (h : OM w W s xb gx xr xc X) (hb : Below W.heap.size W V) : OM w V s xb gx xr xc X :=
  ⟨h.box.bel hb, blk_bel h.bx hb, h.hx.bel hb, below_on h.bel hb⟩
theorem OM.rowX {w W : World} {s : SetV} {xb gx xc : Nat} {xr : Int} {X : List TaskV} (h : OM w W s xb gx xr xc X) : RowBox W xb gx X.length xc := by
  obtain ⟨-, cs, hg, hs⟩ := h.hx.blk
  exact ⟨cell_block h.bx, blk_ne hg h.bx, cs, hg, hs⟩
/- other modes alone -/
def modedT (t : TaskV) (m q th : Int) : TaskV := { t with mode := m, Q := q, theta := th }
theorem mode_alike {s X : SetV} {k : Nat} {m q th : Int} (hr : X.reload = s.reload) (hl : X.ts.length = s.ts.length) (hc : ∀ j, j < s.ts.length → Copied (s.ts.getD j task0) (X.ts.getD j task0)) :
    Alike ⟨X.reload, X.ao, X.cap, X.ts.set k (modedT (X.ts.getD k task0) m q th)⟩ s ∧ ∀ j, j < s.ts.length → workZ ((X.ts.set k (modedT (X.ts.getD k task0) m q th)).getD j task0).regs = workZ (s.ts.getD j task0).regs := by
  have hj : ∀ j, j < s.ts.length → ∃ m' q' th' a c, (X.ts.set k (modedT (X.ts.getD k task0) m q th)).getD j task0 = { s.ts.getD j task0 with mode := m', Q := q', theta := th', ao := a, cap := c } := fun j hj => by
    obtain ⟨a, c, e⟩ := hc j hj
    by_cases ej : j = k
    · subst ej
      rw [set_at _ (by rw [hl]; exact hj), modedT, e]
      exact ⟨m, q, th, a, c, rfl⟩
    · rw [set_off _ ej, e]
      exact ⟨_, _, _, a, c, rfl⟩
  refine ⟨⟨hr, by simp only [List.length_set]; exact hl, fun j h => ?_⟩, fun j h => ?_⟩
  · obtain ⟨m', q', th', a, c, e⟩ := hj j h
    simp only
    rw [e]
    exact ⟨rfl, rfl, rfl, rfl⟩
  · obtain ⟨m', q', th', a, c, e⟩ := hj j h
    rw [e]
theorem is_mode3 {t : TaskV} {p m q th : Int} (h : isB t p = true) (hm : modeB m q th p = true) : isB (modedT t m q th) p = true := by
  simp only [isB, modedT, Bool.and_eq_true] at h ⊢
  exact ⟨h.1, h.2.1, h.2.2.1, h.2.2.2.1, h.2.2.2.2.1, h.2.2.2.2.2.1, h.2.2.2.2.2.2.1, h.2.2.2.2.2.2.2.1, hm⟩
end Go.Proofs.Ytndhjfpjhpnbaaa.Lex
