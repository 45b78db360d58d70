/- The reader of package parse: where it lies, and what its small steps answer. -/
import Derived.Test.YtfpaigcbjpolhaaParsePure2
import Derived.Test.YtfpaigcbjpolhaaTaskPut
import Derived.Test.YtfpaigcbjpolhaaLexCode
namespace Go.Proofs.Ytfpaigcbjpolhaa.Lex
open Go.ChangeShapes Go.WideShapes Go.RowKit

/- below B all blocks but one are as they were -/
structure Mv (R B : Nat) (w w' : World) : Prop where
  os : w'.os = w.os
  tape : w'.tape = w.tape
  output : w'.output = w.output
  size : w.heap.size ≤ w'.heap.size
  block : ∀ k, k < B → k ≠ R → w'.heap[k]? = w.heap[k]?
theorem Mv.refl (R B : Nat) (w : World) : Mv R B w w := ⟨rfl, rfl, rfl, Nat.le_refl _, fun _ _ _ => rfl⟩
theorem Mv.of {R B : Nat} {w w' : World} (h : Below B w w') : Mv R B w w' := ⟨h.os, h.tape, h.output, h.size, fun k hk _ => h.block k hk⟩
theorem Mv.trans {R B : Nat} {a b c : World} (h : Mv R B a b) (k : Mv R B b c) : Mv R B a c :=
  ⟨k.os.trans h.os, k.tape.trans h.tape, k.output.trans h.output, Nat.le_trans h.size k.size, fun i hi hr => (k.block i hi hr).trans (h.block i hi hr)⟩
theorem Mv.mono {R B B' : Nat} {w w' : World} (h : Mv R B w w') (hB : B' ≤ B) : Mv R B' w w' := ⟨h.os, h.tape, h.output, h.size, fun k hk => h.block k (Nat.lt_of_lt_of_le hk hB)⟩
theorem Mv.on {R : Nat} {a b c : World} (h : Mv R a.heap.size a b) (k : Mv R b.heap.size b c) : Mv R a.heap.size a c := h.trans (k.mono h.size)
theorem Mv.drew {R B : Nat} {a w : World} (h : Mv R B a w) : Mv R B a w.drew := ⟨h.os, h.tape, h.output, h.size, h.block⟩
theorem Mv.alloc {R B : Nat} {a w : World} (h : Mv R B a w) (hB : B ≤ w.heap.size) (o : Obj) : Mv R B a (w.alloc o) := h.trans (Mv.of ((Below.refl _ _).alloc hB o))
theorem Mv.setCell {R B : Nat} {a w : World} (h : Mv R B a w) {p : Addr} (hp : B ≤ p.block ∨ p.block = R) (u : Value) : Mv R B a (w.setCell p u) :=
  h.trans ⟨rfl, rfl, rfl, by simp [World.setCell], fun k hk hr => Below.heap_setCell _ _ _ _ (by omega)⟩
theorem Mv.grown {R B : Nat} {a w w' : World} {row : Option Nat} (h : Mv R B a w) (hg : w.grownBy w' row) (hB : B ≤ w.heap.size) (hr : ∀ k, row = some k → B ≤ k) : Mv R B a w' :=
  h.trans (Mv.of ((Below.refl _ _).grown hg hB hr))
theorem Mv.below {R B : Nat} {w w' : World} (h : Mv R B w w') (hR : B ≤ R) : Below B w w' := ⟨h.os, h.tape, h.output, h.size, fun k hk => h.block k hk (by omega)⟩
theorem block_lt {w : World} {g : Nat} {o : Obj} (h : w.heap[g]? = some o) : g < w.heap.size := by
  rcases Nat.lt_or_ge g w.heap.size with l | l
  · exact l
  · rw [Array.getElem?_eq_none l] at h; cases h
theorem Mv.at {R : Nat} {w w' : World} (h : Mv R w.heap.size w w') {g : Nat} {o : Obj} (hg : w.heap[g]? = some o) (hne : g ≠ R) : w'.heap[g]? = some o := by
  rw [h.block g (block_lt hg) hne]; exact hg
theorem Mv.cell {R : Nat} {w w' : World} (h : Mv R w.heap.size w w') {a : Addr} {u : Value} (hc : w.cell? a = some u) (hne : a.block ≠ R) : w'.cell? a = some u := by
  rw [World.cell?_of_block (w := w) (h.block a.block (World.block_lt_of_cell? w _ hc) hne)]; exact hc
theorem Mv.own {R : Nat} {w w' : World} (h : Mv R w.heap.size w w') {base : Nat} {e : TypeId} {s : Nat} {v : Value} {n : Nat} {xs : List Value} (ho : w.ownsRow base e s v n xs) (hR : R < base) : w'.ownsRow base e s v n xs :=
  ⟨ho.1, ho.2.imp id fun ⟨g, cap, cur, e, hg, hc, r⟩ => ⟨g, cap, cur, e, hg, h.at hc (by omega), r⟩⟩

/- tokens as they may stand in a row that has an end -/
structure GoodT (t : Tok) : Prop where
  kind : I64 t.kind
  n : 0 ≤ t.n ∧ t.n < 1000000000
  pos : I64 t.pos
  text : t.text.length ≤ 4000
structure Okay (L : List Tok) : Prop where
  len : L.length ≤ 4001
  ends : ∃ M t, L = M ++ [t] ∧ t.kind = 4
  each : ∀ t ∈ L, GoodT t
theorem Okay.ne {L : List Tok} (h : Okay L) : L ≠ [] := by obtain ⟨M, t, e, -⟩ := h.ends; rw [e]; simp
theorem Okay.tail {t : Tok} {r : List Tok} (h : Okay (t :: r)) (hk : t.kind ≠ 4) : Okay r := by
  refine ⟨by have := h.len; simp at this; omega, ?_, fun u hu => h.each u (List.mem_cons_of_mem _ hu)⟩
  obtain ⟨M, u, e, hu⟩ := h.ends
  cases M with
  | nil => simp at e; exact absurd (e.1 ▸ hu) hk
  | cons m M => simp at e; exact ⟨M, u, e.2, hu⟩
structure TokAt (w : World) (b o : Nat) (t : Tok) : Prop where
  c0 : w.cell? ⟨b, o, none⟩ = some (.int .i64 t.kind)
  c1 : w.cell? ⟨b, o + 1, none⟩ = some (.string (mkS t.text))
  c2 : w.cell? ⟨b, o + 2, none⟩ = some (.int .i64 t.n)
  c3 : w.cell? ⟨b, o + 3, none⟩ = some (.int .i64 t.pos)
abbrev Left := Except (Int × Int) (List Tok)
def Stood (x : Left) (L : List Tok) (e : Int) : Prop := match x with
  | .ok M => e = 0 ∧ L = M
  | .error p => e = p.1 ∧ p.1 ≠ 0 ∧ posOf L = p.2
/- the reader at block R: what is left, or its error -/
structure Lies (w : World) (R g off cap : Nat) (L : List Tok) (e : Int) : Prop where
  lt : g < R
  rd : w.heap[R]? = some (.cells #[.slice (some ⟨g, off, none⟩) L.length cap, .int .i64 e] 49)
  row : ∀ j, j < L.length → TokAt w g (off + j * 4) (L.getD j noTok)
  fits : L.length ≤ cap
  ok : Okay L
def RAt (w : World) (R : Nat) (x : Left) : Prop := ∃ g off cap L e, Lies w R g off cap L e ∧ Stood x L e
theorem Lies.size {w : World} {R g off cap : Nat} {L : List Tok} {e : Int} (h : Lies w R g off cap L e) : R < w.heap.size := block_lt h.rd
theorem TokAt.keep {w w' : World} {b o : Nat} {t : Tok} (h : TokAt w b o t) (k : w'.heap[b]? = w.heap[b]?) : TokAt w' b o t :=
  ⟨(World.cell?_of_block (w := w) k).trans h.c0, (World.cell?_of_block (w := w) k).trans h.c1, (World.cell?_of_block (w := w) k).trans h.c2, (World.cell?_of_block (w := w) k).trans h.c3⟩
theorem Lies.keep {w w' : World} {R g off cap : Nat} {L : List Tok} {e : Int} (h : Lies w R g off cap L e) (k : Below (R + 1) w w') : Lies w' R g off cap L e :=
  ⟨h.lt, by rw [k.block R (by omega)]; exact h.rd, fun j hj => (h.row j hj).keep (k.block g (by have := h.lt; omega)), h.fits, h.ok⟩
theorem RAt.keep {w w' : World} {R : Nat} {x : Left} (h : RAt w R x) (k : Below (R + 1) w w') : RAt w' R x := by
  obtain ⟨g, off, cap, L, e, hl, hs⟩ := h
  exact ⟨g, off, cap, L, e, hl.keep k, hs⟩
theorem RAt.size {w : World} {R : Nat} {x : Left} (h : RAt w R x) : R < w.heap.size := by
  obtain ⟨g, off, cap, L, e, hl, hs⟩ := h
  exact hl.size
theorem RAt.alloc {w : World} {R : Nat} {x : Left} (h : RAt w R x) (o : Obj) : RAt (w.alloc o) R x := h.keep ((Below.refl _ _).alloc h.size o)
theorem RAt.setCell {w : World} {R : Nat} {x : Left} (h : RAt w R x) {p : Addr} (hp : R < p.block) (u : Value) : RAt (w.setCell p u) R x := h.keep ((Below.refl _ _).setCell hp u)
theorem RAt.okay {w : World} {R : Nat} {L : List Tok} (h : RAt w R (.ok L)) : Okay L := by
  obtain ⟨g, off, cap, M, e, hl, hs⟩ := h
  obtain ⟨-, rfl⟩ := hs
  exact hl.ok

/- the next token's kind; a word -/
def headIs (k : Int) : Left → Bool
  | .ok (t :: _) => t.kind == k
  | _ => false
def seesB (nm : List UInt8) : Left → Bool
  | .ok L => isWord nm L
  | _ => false
theorem stands_any (R : Nat) (k : Int) (x : Left) (w : World) (h : RAt w R x) : Calls Try.prog 45 #[.pointer (some ⟨R, 0, none⟩), .int .i64 k] w fun e w' => e = .returned (.bool (headIs k x)) ∧ w' = w := by
  obtain ⟨g, off, cap, L, e, hl, hs⟩ := h
  have r0 : w.cell? ⟨R, 0, none⟩ = some (.slice (some ⟨g, off, none⟩) L.length cap) := cell_block hl.rd
  have r1 : w.cell? ⟨R, 1, none⟩ = some (.int .i64 e) := cell_block hl.rd
  cases x with
  | error p =>
    obtain ⟨rfl, hne, -⟩ := hs
    have he : (p.1 == 0) = false := beq_eq_false_iff_ne.2 hne
    clear hl hne
    go_enter Try.func45, Try.ntmps45
    go_wp2
    go_ret
    exact ⟨rfl, rfl⟩
  | ok M =>
    obtain ⟨rfl, rfl⟩ := hs
    cases L with
    | nil => exact absurd rfl hl.ok.ne
    | cons t r =>
      have d0 : w.cell? ⟨g, off, none⟩ = some (.int .i64 t.kind) := by simpa using (hl.row 0 (by simp)).c0
      clear hl
      rw [List.length_cons] at r0
      generalize r.length = n at r0
      go_enter Try.func45, Try.ntmps45
      go_wp2
      go_ret
      exact ⟨rfl, rfl⟩
end Go.Proofs.Ytfpaigcbjpolhaa.Lex
