/- A set in rows of its own, one of whose tasks is changed in place. -/
import Derived.Test.YtndhjfpjhpnbaaaAgainRel
import Derived.Test.YtndhjfpjhpnbaaaBlockLaw
namespace Go.Proofs.Ytndhjfpjhpnbaaa.Lex
set_option maxRecDepth 100000
open Go.ChangeShapes Go.WideShapes Go.RowKit

structure HeldS (w : World) (B : Nat) (X : SetV) : Prop where
  row : w.ownsRow B 38 9 (.slice X.ao X.ts.length X.cap) X.ts.length (X.ts.flatMap TaskV.cells)
  own : ∀ j, j < X.ts.length → OwnTask w B (X.ts.getD j task0)
  each : ∀ j, j < X.ts.length → TaskIn w (X.ts.getD j task0)
theorem getD_in {L : List TaskV} {j : Nat} (h : j < L.length) : L.getD j task0 ∈ L := by rw [List.getD_eq_getElem?_getD, List.getElem?_eq_getElem h]; exact List.getElem_mem _
theorem held_of {w w' : World} {B : Nat} {s X : SetV} (hs : SetIn w s) (h : PIn w' B s X) : HeldS w' B X := by
  have ho : ∀ j, j < X.ts.length → OwnTask w' B (X.ts.getD j task0) := fun j hj => h.each _ (getD_in hj)
  exact ⟨h.row, ho, fun j hj => copied_in (hs.each _ (getD_in (by rw [← h.len]; exact hj))) (h.copy j (by rw [← h.len]; exact hj)) (ho j hj)⟩
theorem HeldS.setIn {w : World} {B : Nat} {X : SetV} (h : HeldS w B X) (hr : I64 X.reload) (hl : X.ts.length ≤ 9223372036854775807) : SetIn w X :=
  rows_in hr hl h.row (fun t ht => by
    obtain ⟨j, hj, rfl⟩ := List.getElem_of_mem ht
    have e : X.ts.getD j task0 = X.ts[j] := by simp [List.getD, hj]
    rw [← e]; exact h.each j hj)
theorem HeldS.bel {w w' : World} {B : Nat} {X : SetV} (h : HeldS w B X) (hb : Below w.heap.size w w') : HeldS w' B X :=
  ⟨own_belG h.row hb, fun j hj => own_belG (h.own j hj) hb, fun j hj => task_bel (h.each j hj) hb⟩
theorem HeldS.far {w : World} {B g : Nat} {X : SetV} {cs : Array Value} {ty : TypeId} {fr : Nat × Nat} (h : HeldS w B X) (hg : w.heap[g]? = some (.cells cs ty fr)) (hne : 2 ≠ ty) (hx : (Value.slice X.ao X.ts.length X.cap).ownBlock ≠ some g) (j : Nat) (u : Value) : HeldS (w.setCell ⟨g, j, none⟩ u) B X := by
  have ho : ∀ i, i < X.ts.length → OwnTask (w.setCell ⟨g, j, none⟩ u) B (X.ts.getD i task0) := fun i hi => own_set' (h.own i hi) hg hne j u
  exact ⟨ownsRow_setCell_other h.row hx u, ho, fun i hi => { h.each i hi with regs := regs_own (ho i hi) }⟩
theorem flat_set {f : Nat} (hf : f < 9) {t : TaskV} {u : Value} : ∀ (M : List TaskV) (i : Nat), i < M.length → t.cells = (M.getD i task0).cells.set f u → (M.set i t).flatMap TaskV.cells = (M.flatMap TaskV.cells).set (i * 9 + f) u := by
  intro M
  induction M with
  | nil => intro i h; simp at h
  | cons a r ih =>
    intro i h hc
    have hl : a.cells.length = 9 := rfl
    cases i with
    | zero =>
      rw [List.set_cons_zero, List.flatMap_cons, List.flatMap_cons, Nat.zero_mul, Nat.zero_add, List.set_append_left _ _ (by rw [hl]; exact hf), hc]
      rfl
    | succ i =>
      have := ih i (by simpa using h) hc
      rw [List.set_cons_succ, List.flatMap_cons, List.flatMap_cons, List.set_append_right _ _ (by rw [hl]; omega), hl, show (i + 1) * 9 + f - 9 = i * 9 + f by omega, ← this]
theorem set_at {L : List TaskV} {k : Nat} (t : TaskV) (h : k < L.length) : (L.set k t).getD k task0 = t := by simp [List.getD, h]
theorem set_off {L : List TaskV} {k j : Nat} (t : TaskV) (h : j ≠ k) : (L.set k t).getD j task0 = L.getD j task0 := by simp [List.getD, h.symm]
/- one field of a task, changed -/
structure Chg (t t' : TaskV) (f : Nat) (u : Value) : Prop where
  lt : f < 9
  cells : t'.cells = t.cells.set f u
  ao : t'.ao = t.ao
  cap : t'.cap = t.cap
  regs : t'.regs = t.regs
  stays : ∀ W, TaskIn W t → TaskIn W t'
theorem chg_mode (t : TaskV) {m : Int} (h : I64 m) : Chg t { t with mode := m } 3 (.int .i64 m) := ⟨by decide, rfl, rfl, rfl, rfl, fun _ k => { k with mode := h }⟩
theorem chg_Q (t : TaskV) {m : Int} (h : I64 m) : Chg t { t with Q := m } 4 (.int .i64 m) := ⟨by decide, rfl, rfl, rfl, rfl, fun _ k => { k with Q := h }⟩
theorem chg_theta (t : TaskV) {m : Int} (h : I64 m) : Chg t { t with theta := m } 5 (.int .i64 m) := ⟨by decide, rfl, rfl, rfl, rfl, fun _ k => { k with theta := h }⟩
theorem HeldS.put {w : World} {B g c k f : Nat} {r : Int} {L : List TaskV} {t t' : TaskV} {u : Value} (h : HeldS w B ⟨r, some ⟨g, 0, none⟩, c, L⟩) (hk : k < L.length) (ht : L.getD k task0 = t) (hc : Chg t t' f u) : HeldS (w.setCell ⟨g, k * 9 + f, none⟩ u) B ⟨r, some ⟨g, 0, none⟩, c, L.set k t'⟩ := by
  have row := h.row
  simp only at row
  have own : ∀ j, j < L.length → OwnTask (w.setCell ⟨g, k * 9 + f, none⟩ u) B (L.getD j task0) := fun j hj => by
    have o := h.own j hj
    refine ownsRow_setCell_other o ?_ _
    rcases own_apart (by decide) o row with q | q
    · rw [q]; simp
    · exact q
  have each : ∀ j, j < L.length → TaskIn (w.setCell ⟨g, k * 9 + f, none⟩ u) (L.getD j task0) := fun j hj => { h.each j hj with regs := regs_own (own j hj) }
  refine ⟨?_, fun j hj => ?_, fun j hj => ?_⟩
  · simp only [List.length_set]
    rw [flat_set hc.lt L k hk (by rw [ht]; exact hc.cells)]
    exact (row.stored (k * 9 + f) u).1
  · simp only [List.length_set] at hj ⊢
    by_cases e : j = k
    · subst e
      rw [set_at _ hj]
      have := own j hj
      rw [ht] at this
      unfold OwnTask at this ⊢
      rw [hc.ao, hc.cap, hc.regs]; exact this
    · rw [set_off _ e]; exact own j hj
  · simp only [List.length_set] at hj ⊢
    by_cases e : j = k
    · subst e
      rw [set_at _ hj]
      have := each j hj
      rw [ht] at this
      exact hc.stays _ this
    · rw [set_off _ e]; exact each j hj
theorem HeldS.blk {w : World} {B g c : Nat} {r : Int} {L : List TaskV} (h : HeldS w B ⟨r, some ⟨g, 0, none⟩, c, L⟩) : B ≤ g ∧ ∃ cs, w.heap[g]? = some (.cells cs 38 (0, 0)) ∧ L.length * 9 ≤ cs.size := by
  rcases h.row.2 with ⟨e, -⟩ | ⟨g', cap, cur, e, hb, hg, hn, -, hs, -⟩
  · cases e
  · simp only [Value.slice.injEq, Option.some.injEq, Addr.mk.injEq] at e
    obtain ⟨⟨rfl, -, -⟩, -, -⟩ := e
    exact ⟨hb, cur, hg, by rw [hs]; exact Nat.mul_le_mul_right 9 hn⟩
/- two sets of one's own beside the one that was handed in, with the cells that hold them -/
structure BM (w W : World) (s : SetV) (xb yb gx gy : Nat) (xr yr : Int) (xc yc : Nat) (X Y : List TaskV) : Prop where
  box : SBox W w.heap.size s
  bx : W.heap[xb]? = some (.cells #[.int .i64 xr, .slice (some ⟨gx, 0, none⟩) X.length xc] 24 (0, 0))
  yx : W.heap[yb]? = some (.cells #[.int .i64 yr, .slice (some ⟨gy, 0, none⟩) Y.length yc] 24 (0, 0))
  hx : HeldS W (w.heap.size + 1) ⟨xr, some ⟨gx, 0, none⟩, xc, X⟩
  hy : HeldS W (w.heap.size + 1) ⟨yr, some ⟨gy, 0, none⟩, yc, Y⟩
  ne : gx ≠ gy
  bel : Below w.heap.size w W
theorem blk_ne {W : World} {a b : Nat} {cs ds : Array Value} {fr : Nat × Nat} (h : W.heap[a]? = some (.cells cs 38 fr)) (k : W.heap[b]? = some (.cells ds 24 fr)) : a ≠ b := by
  rintro rfl
  rw [h] at k
  simp only [Option.some.injEq, Obj.cells.injEq] at k
  exact absurd k.2.1 (by decide)
theorem BM.setX {w W : World} {s : SetV} {xb yb gx gy xc yc k f : Nat} {xr yr : Int} {X Y : List TaskV} {t t' : TaskV} {u : Value} (h : BM w W s xb yb gx gy xr yr xc yc X Y) (hk : k < X.length) (ht : X.getD k task0 = t) (hc : Chg t t' f u) : BM w (W.setCell ⟨gx, k * 9 + f, none⟩ u) s xb yb gx gy xr yr xc yc (X.set k t') Y := by
  obtain ⟨hB, cs, hg, -⟩ := h.hx.blk
  refine ⟨h.box.far (by omega) u, ?_, far_set u h.yx (blk_ne hg h.yx), h.hx.put hk ht hc, h.hy.far hg (by decide) (by simp only [Value.ownBlock]; intro e; exact h.ne (Option.some.inj e).symm) _ _, h.ne, h.bel.setCell (p := ⟨gx, k * 9 + f, none⟩) (by show w.heap.size ≤ gx; omega) u⟩
  rw [List.length_set]
  exact far_set u h.bx (blk_ne hg h.bx)
theorem BM.setY {w W : World} {s : SetV} {xb yb gx gy xc yc k f : Nat} {xr yr : Int} {X Y : List TaskV} {t t' : TaskV} {u : Value} (h : BM w W s xb yb gx gy xr yr xc yc X Y) (hk : k < Y.length) (ht : Y.getD k task0 = t) (hc : Chg t t' f u) : BM w (W.setCell ⟨gy, k * 9 + f, none⟩ u) s xb yb gx gy xr yr xc yc X (Y.set k t') := by
  obtain ⟨hB, cs, hg, -⟩ := h.hy.blk
  refine ⟨h.box.far (by omega) u, far_set u h.bx (blk_ne hg h.bx), ?_, h.hx.far hg (by decide) (by simp only [Value.ownBlock]; intro e; exact h.ne (Option.some.inj e)) _ _, h.hy.put hk ht hc, h.ne, h.bel.setCell (p := ⟨gy, k * 9 + f, none⟩) (by show w.heap.size ≤ gy; omega) u⟩
  rw [List.length_set]
  exact far_set u h.yx (blk_ne hg h.yx)
theorem BM.up {w W V : World} {s : SetV} {xb yb gx gy xc yc : Nat} {xr yr : Int} {X Y : List TaskV} (h : BM w W s xb yb gx gy xr yr xc yc X Y) (hb : Below W.heap.size W V) : BM w V s xb yb gx gy xr yr xc yc X Y :=
  ⟨h.box.bel hb, blk_bel h.bx hb, blk_bel h.yx hb, h.hx.bel hb, h.hy.bel hb, h.ne, below_on h.bel hb⟩
/- a row, and the cell that holds it -/
structure RowBox (W : World) (xb gx n xc : Nat) : Prop where
  c1 : W.cell? ⟨xb, 1, none⟩ = some (.slice (some ⟨gx, 0, none⟩) n xc)
  ne : gx ≠ xb
  blk : ∃ cs, W.heap[gx]? = some (.cells cs 38 (0, 0)) ∧ n * 9 ≤ cs.size
theorem RowBox.cell {W : World} {xb gx n xc j : Nat} (h : RowBox W xb gx n xc) (hj : j < n * 9) : ∃ u, W.cell? ⟨gx, j, none⟩ = some u := by
  obtain ⟨cs, hg, hs⟩ := h.blk
  exact ⟨cs[j]'(by omega), by rw [cell_block hg]; simp⟩
theorem RowBox.frozen {W : World} {xb gx n xc : Nat} (h : RowBox W xb gx n xc) (j : Nat) : W.frozen? ⟨gx, j, none⟩ = false := by
  obtain ⟨cs, hg, -⟩ := h.blk
  exact frozen_block hg
theorem RowBox.set {W : World} {xb gx n xc : Nat} (h : RowBox W xb gx n xc) (j : Nat) (u : Value) : RowBox (W.setCell ⟨gx, j, none⟩ u) xb gx n xc := by
  obtain ⟨cs, hg, hs⟩ := h.blk
  exact ⟨by rw [World.cell?_setCell_far _ _ _ _ (fun e => h.ne e)]; exact h.c1, h.ne, _, block_set hg, by simpa using hs⟩
theorem BM.rowX {w W : World} {s : SetV} {xb yb gx gy xc yc : Nat} {xr yr : Int} {X Y : List TaskV} (h : BM w W s xb yb gx gy xr yr xc yc X Y) : RowBox W xb gx X.length xc := by
  obtain ⟨-, cs, hg, hs⟩ := h.hx.blk
  exact ⟨cell_block h.bx, blk_ne hg h.bx, cs, hg, hs⟩
theorem BM.rowY {w W : World} {s : SetV} {xb yb gx gy xc yc : Nat} {xr yr : Int} {X Y : List TaskV} (h : BM w W s xb yb gx gy xr yr xc yc X Y) : RowBox W yb gy Y.length yc := by
  obtain ⟨-, cs, hg, hs⟩ := h.hy.blk
  exact ⟨cell_block h.yx, blk_ne hg h.yx, cs, hg, hs⟩
/- what the document says of such a set -/
theorem chg_all {r : Int} {ao : Option Addr} {c k : Nat} {L : List TaskV} {t : TaskV} (ha : allB ⟨r, ao, c, L⟩ = true) (hk : k < L.length) (hn : t.name = (L.getD k task0).name) (ht : isB (L.getD k task0) k = true → isB t k = true) : allB ⟨r, ao, c, L.set k t⟩ = true := by
  have name : ∀ j, ((L.set k t).getD j task0).name = (L.getD j task0).name := fun j => by
    by_cases e : j = k
    · subst e; rw [set_at _ hk, hn]
    · rw [set_off _ e]
  simp only [allB, Bool.and_eq_true, List.length_set] at ha ⊢
  refine ⟨ha.1, ha.2.1, ha.2.2.1, ?_⟩
  rw [List.all_eq_true]
  intro j hj
  have := List.all_eq_true.1 ha.2.2.2 j hj
  simp only [okAt, Bool.and_eq_true] at this ⊢
  refine ⟨?_, by simp only [name]; exact this.2⟩
  by_cases e : j = k
  · subst e; rw [set_at _ hk]; exact ht this.1
  · rw [set_off _ e]; exact this.1
end Go.Proofs.Ytndhjfpjhpnbaaa.Lex
