/- The law of chapter 8 of how long one set takes, over what package again answers. -/
import Derived.Test.YtndhjfpjhpnbaaaAgainMore2
import Derived.Test.YtndhjfpjhpnbaaaLexFlow
namespace Go.Proofs.Ytndhjfpjhpnbaaa.Lex
set_option maxRecDepth 100000
open Go.ChangeShapes Go.WideShapes Go.RowKit

/- a set whose tasks are copies of another's, in rows of their own -/
structure PIn (w : World) (B : Nat) (s X : SetV) : Prop where
  reload : X.reload = s.reload
  len : X.ts.length = s.ts.length
  copy : ∀ j, j < s.ts.length → Copied (s.ts.getD j task0) (X.ts.getD j task0)
  row : w.ownsRow B 38 9 (.slice X.ao X.ts.length X.cap) X.ts.length (X.ts.flatMap TaskV.cells)
  each : ∀ t ∈ X.ts, OwnTask w B t
theorem PIn.of {w w' : World} {s X : SetV} {B : Nat} (h : PutOf w w' s X) (hB : B ≤ w.heap.size) : PIn w' B s X :=
  ⟨h.reload, h.len, h.copy, ⟨h.row.1, h.row.2.imp id fun ⟨g, c, cur, e, hg, r⟩ => ⟨g, c, cur, e, by omega, r⟩⟩, fun t ht => ⟨(h.each t ht).1, (h.each t ht).2.imp id fun ⟨g, c, cur, e, hg, r⟩ => ⟨g, c, cur, e, by omega, r⟩⟩⟩
theorem PIn.bel {w w' : World} {s X : SetV} {B : Nat} (h : PIn w B s X) (hb : Below w.heap.size w w') : PIn w' B s X :=
  ⟨h.reload, h.len, h.copy, own_belG h.row hb, fun t ht => own_belG (h.each t ht) hb⟩
theorem own_set' {w : World} {B g : Nat} {e e' : TypeId} {s : Nat} {v : Value} {n : Nat} {xs : List Value} {cs : Array Value} {fr : Nat × Nat} (h : w.ownsRow B e s v n xs) (hg : w.heap[g]? = some (.cells cs e' fr)) (hne : e ≠ e') (j : Nat) (u : Value) : (w.setCell ⟨g, j, none⟩ u).ownsRow B e s v n xs :=
  h.kept (grown_set w ⟨g, j, none⟩ u) (own_not hne h hg)
theorem PIn.set {w : World} {s X : SetV} {B g : Nat} {cs : Array Value} (h : PIn w B s X) (hg : w.heap[g]? = some (.cells cs 24 (0, 0))) (j : Nat) (u : Value) : PIn (w.setCell ⟨g, j, none⟩ u) B s X :=
  ⟨h.reload, h.len, h.copy, own_set' h.row hg (by decide) j u, fun t ht => own_set' (h.each t ht) hg (by decide) j u⟩
theorem PIn.setIn {w w' : World} {s X : SetV} {B : Nat} (hs : SetIn w s) (h : PIn w' B s X) {n : Int} (hn : I64 n) : SetIn w' ⟨n, X.ao, X.cap, X.ts⟩ := by
  refine rows_in (s' := ⟨n, X.ao, X.cap, X.ts⟩) hn (by simp only; rw [h.len]; exact hs.len) h.row (fun t ht => ?_)
  simp only at ht
  obtain ⟨j, hj, rfl⟩ := List.getElem_of_mem ht
  have hj' : j < s.ts.length := by rw [← h.len]; exact hj
  have e1 : X.ts.getD j task0 = X.ts[j] := by simp [List.getD, hj]
  have e2 : s.ts.getD j task0 ∈ s.ts := by rw [List.getD_eq_getElem?_getD, List.getElem?_eq_getElem hj']; exact List.getElem_mem _
  rw [← e1]
  exact copied_in (hs.each _ e2) (h.copy j hj') (h.each _ (by rw [e1]; exact ht))
theorem pin_all {w : World} {s X : SetV} {B : Nat} {n : Int} (h : PIn w B s X) (ha : allB s = true) (hn : 0 ≤ n ∧ n ≤ 10000) : allB ⟨n, X.ao, X.cap, X.ts⟩ = true := by
  have hk : ∀ j, j < s.ts.length → okAt X.ts j = okAt s.ts j := fun j hj => by
    simp only [okAt]
    obtain ⟨h1, h2⟩ := copied_is (h.copy j hj) (j : Int)
    rw [h1, h2]
    congr 1
    refine range_congr fun q hq => ?_
    rw [(copied_is (h.copy q (by omega)) 0).2]
  simp only [allB, Bool.and_eq_true] at ha ⊢
  rw [h.len]
  refine ⟨by simp [inB]; omega, ha.2.1, ha.2.2.1, ?_⟩
  rw [range_congr (fun j hj => hk j hj)]
  exact ha.2.2.2
theorem copied_sets {t t' : TaskV} (h : Copied t t') : t'.ucb = t.ucb ∧ t'.ecb = t.ecb := by
  obtain ⟨a, c, rfl⟩ := h
  exact ⟨rfl, rfl⟩
theorem reload_times {w : World} {s X Y : SetV} {B : Nat} {n : Int} (hX : PIn w B s X) (hY : PIn w B s Y) (i : Int) :
    ownZ ⟨n, Y.ao, Y.cap, Y.ts⟩ i = n * ownZ ⟨1, X.ao, X.cap, X.ts⟩ i ∧ madeZ ⟨n, Y.ao, Y.cap, Y.ts⟩ i = n * madeZ ⟨1, X.ao, X.cap, X.ts⟩ i := by
  have hl : Y.ts.length = X.ts.length := by rw [hX.len, hY.len]
  have hin : inI ⟨n, Y.ao, Y.cap, Y.ts⟩ i = inI ⟨1, X.ao, X.cap, X.ts⟩ i := by simp [inI, hl]
  have hu : ∀ j, j < X.ts.length → (Y.ts.getD j task0).ucb = (X.ts.getD j task0).ucb ∧ (Y.ts.getD j task0).ecb = (X.ts.getD j task0).ecb := fun j hj => by
    have hj' : j < s.ts.length := by rw [← hX.len]; exact hj
    obtain ⟨a, b⟩ := copied_sets (hX.copy j hj')
    obtain ⟨c, d⟩ := copied_sets (hY.copy j hj')
    exact ⟨c.trans a.symm, d.trans b.symm⟩
  have hbel : ∀ j m, belN Y.ts j m = belN X.ts j m := fun j m => by
    obtain ⟨z, hz⟩ := bel_more (ts := X.ts) (ts' := Y.ts) hl.symm (fun q hq => ⟨0, by rw [(hu q hq).1]; simp⟩) j m
    obtain ⟨y, hy⟩ := bel_more (ts := Y.ts) (ts' := X.ts) hl (fun q hq => ⟨0, by rw [(hu q (by omega)).1]; simp⟩) j m
    have h1 : belN Y.ts j m ≤ belN Y.ts j m ||| y := Nat.left_le_or
    have h2 : belN X.ts j m ≤ belN X.ts j m ||| z := Nat.left_le_or
    rw [← hy] at h1
    rw [← hz] at h2
    exact Nat.le_antisymm h1 h2
  rw [ownZ, ownZ, madeZ, madeZ, hin]
  cases h : inI ⟨1, X.ao, X.cap, X.ts⟩ i
  · simp
  · have hi : i.toNat < X.ts.length := by simp [inI] at h; omega
    simp only [if_true]
    rw [hbel, hl, (hu _ hi).1, (hu _ hi).2]
    simp
theorem blk_bel {w w' : World} {g : Nat} {o : Obj} (h : w.heap[g]? = some o) (hb : Below w.heap.size w w') : w'.heap[g]? = some o := by
  have hl : g < w.heap.size := by
    rcases Nat.lt_or_ge g w.heap.size with l | l
    · exact l
    · rw [Array.getElem?_eq_none l] at h; cases h
  rw [hb.block g hl]; exact h
theorem blk_lt {w : World} {g : Nat} {o : Obj} (h : w.heap[g]? = some o) : g < w.heap.size := by
  rcases Nat.lt_or_ge g w.heap.size with l | l
  · exact l
  · rw [Array.getElem?_eq_none l] at h; cases h
theorem two_set {w : World} {g : Nat} {a b : Value} {ty : TypeId} (u v : Value) (h : w.heap[g]? = some (.cells #[a, b] ty (0, 0))) : ((w.setCell ⟨g, 0, none⟩ u).setCell ⟨g, 1, none⟩ v).heap[g]? = some (.cells #[u, v] ty (0, 0)) := by
  have := block_set (j := 1) (u := v) (block_set (j := 0) (u := u) h)
  simpa using this
theorem far_set {w : World} {g x : Nat} {o : Obj} {j : Nat} (u : Value) (h : w.heap[g]? = some o) (hne : x ≠ g) : (w.setCell ⟨x, j, none⟩ u).heap[g]? = some o := by
  rw [heap_setCell_other w ⟨x, j, none⟩ g u (fun e => hne e.symm)]; exact h
theorem SBox.far {w : World} {g x j : Nat} {s : SetV} (h : SBox w g s) (hne : g ≠ x) (u : Value) : SBox (w.setCell ⟨x, j, none⟩ u) g s :=
  ⟨by rw [World.cell?_setCell_far _ _ _ _ (fun e => hne e.symm)]; exact h.c0, by rw [World.cell?_setCell_far _ _ _ _ (fun e => hne e.symm)]; exact h.c1⟩
theorem al_bel (w : World) (o : Obj) : Below w.heap.size w (w.alloc o) := (Below.refl _ _).alloc (Nat.le_refl _) o
end Go.Proofs.Ytndhjfpjhpnbaaa.Lex
