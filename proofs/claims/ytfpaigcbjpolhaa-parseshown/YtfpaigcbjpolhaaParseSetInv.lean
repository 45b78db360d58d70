/- What holds round by round while the reader reads a set. -/
import Derived.Test.YtfpaigcbjpolhaaParseTasks
namespace Go.Proofs.Ytfpaigcbjpolhaa.Lex
open Go.ChangeShapes Go.WideShapes Go.RowKit

theorem Try.info_int : (Try.prog.info? 3).map (fun i => (i.zero, i.size, i.bytes)) = some (some (.int .i64 0), 1, 8) := by kernel_rfl
theorem Mv.dr {R : Nat} (w : World) : Mv R w.heap.size w w.drew := (Mv.refl _ _ _).drew
theorem Mv.al {R : Nat} (w : World) (o : Obj) : Mv R w.heap.size w (w.alloc o) := (Mv.refl _ _ _).alloc (Nat.le_refl _) o
theorem RAt.drew {w : World} {R : Nat} {x : Left} (h : RAt w R x) : RAt w.drew R x := h.keep ((Below.refl _ _).drew)
theorem FitT.mvd {R B : Nat} {w w' : World} {t : TaskV} (h : FitT w B t) (m : Mv R w.heap.size w w') (hR : R < B) : FitT w' B t := { h with own := m.own h.own hR }
theorem FitT.base {A B : Nat} {w : World} {t : TaskV} (h : FitT w B t) (hA : A ≤ B) : FitT w A t := { h with own := own_base h.own hA }
structure SetInv (w wr : World) (R : Nat) (rl : Int) (vt vs : Value) (T : List TaskV) (P : List Int) : Prop where
  starts : wr.ownsRow (w.heap.size + 1) 3 1 vs P.length (P.map intV)
  row : wr.ownsRow (w.heap.size + 1) 41 9 vt T.length (T.flatMap TaskV.cells)
  each : ∀ t ∈ T, FitT wr (w.heap.size + 1) t
  box : wr.heap[w.heap.size]? = some (.cells #[.int .i64 rl, vt] 24 (0, 0))
  mv : Mv R w.heap.size w wr
section
variable {w wr w' : World} {R : Nat} {rl : Int} {vt vs : Value} {T : List TaskV} {P : List Int}
theorem SetInv.size (h : SetInv w wr R rl vt vs T P) : w.heap.size + 1 ≤ wr.heap.size := block_lt h.box
theorem SetInv.mvd (h : SetInv w wr R rl vt vs T P) (m : Mv R wr.heap.size wr w') (hR : R < w.heap.size) : SetInv w w' R rl vt vs T P :=
  ⟨m.own h.starts (by omega), m.own h.row (by omega), fun t ht => (h.each t ht).mvd m (by omega), m.at h.box (by omega), h.mv.trans (m.mono h.mv.size)⟩
/- its places grow -/
theorem SetInv.start (h : SetInv w wr R rl vt vs T P) {n : Int} {v : Value} (hg : (wr.alloc (.cells #[.int .i64 n] 3)).grownBy w' vs.ownBlock) (hown : w'.ownsRow (w.heap.size + 1) 3 1 v (P.length + 1) (P.map intV ++ [intV n])) (hR : R < w.heap.size) : SetInv w w' R rl vt v T (P ++ [n]) := by
  have k := h.mvd (Mv.al wr (.cells #[.int .i64 n] 3)) hR
  have lt : ∀ q, vs.ownBlock = some q → w.heap.size + 1 ≤ q := fun q e => (k.starts.lt q e).1
  refine ⟨?_, k.row.kept hg (own_apart (by decide) k.row k.starts), fun t ht => { k.each t ht with own := World.ownsRow.kept (k.each t ht).own hg (own_apart (by decide) (k.each t ht).own k.starts) }, block_own k.box hg (fun q e => by have := lt q e; omega), k.mv.grown hg (by have := k.size; omega) (fun q e => by have := lt q e; omega)⟩
  rw [List.length_append, List.map_append]; exact hown
/- its tasks grow -/
theorem SetInv.task (h : SetInv w wr R rl vt vs T P) {o : Obj} {t : TaskV} {v : Value} (hg : (wr.alloc o).grownBy w' vt.ownBlock) (hown : w'.ownsRow (w.heap.size + 1) 41 9 v (T.length + 1) (T.flatMap TaskV.cells ++ t.cells)) (ht : FitT wr (w.heap.size + 1) t) (hR : R < w.heap.size) : SetInv w (w'.setCell ⟨w.heap.size, 1, none⟩ v) R rl v vs (T ++ [t]) P := by
  have k := h.mvd (Mv.al wr o) hR
  have ht' := ht.mvd (Mv.al wr o) (R := R) (by omega)
  have lt : ∀ q, vt.ownBlock = some q → w.heap.size + 1 ≤ q := fun q e => (k.row.lt q e).1
  have hbox := block_own k.box hg (fun q e => by have := lt q e; omega)
  have off : ∀ {e : TypeId} {s : Nat} {u : Value} {n : Nat} {xs : List Value}, w'.ownsRow (w.heap.size + 1) e s u n xs → (w'.setCell ⟨w.heap.size, 1, none⟩ v).ownsRow (w.heap.size + 1) e s u n xs := fun q => own_off q (grown_set w' ⟨w.heap.size, 1, none⟩ v) (.inl (Nat.lt_succ_self _))
  refine ⟨off (k.starts.kept hg (own_apart (by decide) k.starts k.row)), ?_, fun u hu => ?_, by simpa using block_set (j := 1) (u := v) hbox, (k.mv.grown hg (by have := k.size; omega) (fun q e => by have := lt q e; omega)).setCell (.inl (Nat.le_refl _)) v⟩
  · rw [List.length_append, flat_snoc]; exact off hown
  · rcases List.mem_append.1 hu with q | q
    · exact { k.each u q with own := off (World.ownsRow.kept (k.each u q).own hg (own_apart (by decide) (k.each u q).own k.row)) }
    · rw [List.mem_singleton.1 q]; exact { ht' with own := off (World.ownsRow.kept ht'.own hg (own_apart (by decide) ht'.own k.row)) }
end
/- where a world grew by one row, the reader is as it was -/
theorem RAt.grown {w w' : World} {R : Nat} {x : Left} (h : RAt w R x) {row : Option Nat} (hg : w.grownBy w' row) (hr : ∀ k, row = some k → R < k) : RAt w' R x := h.keep ((Below.refl _ _).grown hg h.size hr)
/- 'append' of a row of one's own, as one step of a region that draws its order -/
theorem step_append_own {P : Program} {ops : Array Oper} {o : Oper} {a : Act} {w : World} {K : Act → World → Prop} {Q : Exit → Act → World → Prop} {E : Prop}
    (hg : o.guard = none) (s x : Operand) (t : TypeId) (hop : o.op = Op.call { callee := Callee.builtin Builtin.append, args := #[s, x], argTypes := #[t, t] })
    (base : Nat) (e : TypeId) (i : TypeInfo) (z : Value) (size bytes : Nat) (h1 : P.underlying t = some (.slice e)) (h2 : P.info? e = some i) (h3 : i.zero = some z) (h4 : i.size = size) (h5 : i.bytes = bytes) (h6 : z.cells.size = size) (h7 : 0 < size)
    (v : Value) (n : Nat) (olds : List Value) (hs : a.eval s = v) (hown : w.ownsRow base e size v n olds)
    (ad : Addr) (m c : Nat) (news : List Value) (hx : a.eval x = .slice (some ad) m c) (hn : news.length = m * size) (hc : ∀ j u, news[j]? = some u → w.cell? (ad.add j) = some u) (h1c : ∀ u ∈ news, u.oneCell' = true)
    (b1 : n + m ≤ maxLen) (b2 : (n + m) * bytes ≤ 140737488355328) (hb : base ≤ w.heap.size)
    (hK : ∀ v' w', w'.ownsRow base e size v' (n + m) (olds ++ news) → w.grownBy w' v.ownBlock → K (a.put o.dst v') w') :
    if Region.wanted o (yielded ops a.tmps) = true then Oper.wp P o a w K Q else E := by
  have hw : Region.wanted o (yielded ops a.tmps) = true := by simp [Region.wanted, hg]
  rw [if_pos hw]
  obtain ⟨v', w', hrun, r1, r2, _⟩ := run_append_own (P := P) w base t o.type e i z size bytes h1 h2 h3 h4 h5 h6 h7 v n olds hown ad m c news hn hc h1c b1 b2 hb
  unfold Oper.wp
  simp [execOp, hop, resolve, invoke, builtin, hs, hx, hrun, Result.andThen]
  exact hK v' w' r1 r2
theorem zip_snoc {A B : Type} {a : List A} {b : List B} (h : a.length = b.length) (x : A) (y : B) : (a ++ [x]).zip (b ++ [y]) = a.zip b ++ [(x, y)] := by
  rw [List.zip_append h]; rfl
/- what the reader has read of a whole text -/
def SetRead (w : World) (R : Nat) (rl : Int) (T : List TaskV) (P : List Int) (q : Except (Int × Int) (Int × Placed)) : Prop := match q with
  | .error p => RAt w R (.error p)
  | .ok r => w.cell? ⟨R, 1, none⟩ = some (.int .i64 0) ∧ r = (rl, (T.map bareT).zip P)
theorem set_read {w : World} {R : Nat} {rl : Int} {T : List TaskV} {P : List Int} {y : Left} (h : Ended w R y) : SetRead w R rl T P (thenE y (fun _ => .ok (rl, (T.map bareT).zip P))) := by
  cases y with
  | error p => exact h
  | ok L => exact ⟨h, rfl⟩
end Go.Proofs.Ytfpaigcbjpolhaa.Lex
