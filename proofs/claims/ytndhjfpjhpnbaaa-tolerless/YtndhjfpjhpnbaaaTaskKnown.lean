/- What the laws of chapter 5 stand on: package task's answers, the law's own known answer. -/
import Derived.Test.YtndhjfpjhpnbaaaTaskRef2
namespace Go.Proofs.Ytndhjfpjhpnbaaa.Lex
set_option maxRecDepth 100000
open Go.ChangeShapes Go.WideShapes Go.RowKit

/- what Is, Work, All, Same of package task must be shown to answer -/
def CIs : Prop := ∀ (t : TaskV) (p : Int) (w : World), TaskIn w t → I64 p → Calls Try.prog 25 #[t.val, .int .i64 p] w fun e w' => e = .returned (.bool (isB t p)) ∧ Below w.heap.size w w'
def CWork : Prop := ∀ (t : TaskV) (w : World), TaskIn w t → regsB t.regs = true → Calls Try.prog 44 #[t.val] w fun e w' => e = .returned (.int .i64 (workZ t.regs)) ∧ Below w.heap.size w w'
def CAll : Prop := ∀ (s : SetV) (w : World), SetIn w s → s.ts.length ≤ 30 → Calls Try.prog 17 #[s.val] w fun e w' => e = .returned (.bool (allB s)) ∧ Below w.heap.size w w'
theorem below_on {a b c : World} (h : Below a.heap.size a b) (k : Below b.heap.size b c) : Below a.heap.size a c := h.trans (k.mono h.size)
theorem below_on_drew {a b c : World} (h : Below a.heap.size a b) (k : Below b.drew.heap.size b.drew c) : Below a.heap.size a c := h.drew.trans (k.mono h.size)
theorem set_bel {w w' : World} {s : SetV} (h : SetIn w s) (hb : Below w.heap.size w w') : SetIn w' s :=
  { h with
    row := fun hne => by
      obtain ⟨b, off, e, hc⟩ := h.row hne
      refine ⟨b, off, e, fun j hj i hi => ?_⟩
      have hs : (s.ts.getD j task0).cells[i]? = some ((s.ts.getD j task0).cells[i]'hi) := List.getElem?_eq_getElem hi
      rw [hs]
      exact cell_bel' ((hc j hj i hi).trans hs) hb
    each := fun t ht => task_bel (h.each t ht) hb }

/- a task in a cell of its own, a set in one -/
structure Box (w : World) (g : Nat) (t : TaskV) : Prop where
  c0 : w.cell? ⟨g, 0, none⟩ = some (.string t.name)
  c1 : w.cell? ⟨g, 1, none⟩ = some (.int .i64 t.T)
  c2 : w.cell? ⟨g, 2, none⟩ = some (.int .i64 t.D)
  c3 : w.cell? ⟨g, 3, none⟩ = some (.int .i64 t.mode)
  c4 : w.cell? ⟨g, 4, none⟩ = some (.int .i64 t.Q)
  c5 : w.cell? ⟨g, 5, none⟩ = some (.int .i64 t.theta)
  c6 : w.cell? ⟨g, 6, none⟩ = some (.slice t.ao t.regs.length t.cap)
  c7 : w.cell? ⟨g, 7, none⟩ = some (.int .u64 t.ecb)
  c8 : w.cell? ⟨g, 8, none⟩ = some (.int .u64 t.ucb)
theorem Box.bel {w w' : World} {g : Nat} {t : TaskV} (h : Box w g t) (hb : Below w.heap.size w w') : Box w' g t :=
  ⟨cell_bel' h.c0 hb, cell_bel' h.c1 hb, cell_bel' h.c2 hb, cell_bel' h.c3 hb, cell_bel' h.c4 hb, cell_bel' h.c5 hb, cell_bel' h.c6 hb, cell_bel' h.c7 hb, cell_bel' h.c8 hb⟩
theorem Box.drew {w : World} {g : Nat} {t : TaskV} (h : Box w g t) : Box w.drew g t := ⟨h.c0, h.c1, h.c2, h.c3, h.c4, h.c5, h.c6, h.c7, h.c8⟩
theorem box_new (w : World) (t : TaskV) (ty : TypeId) : Box (w.alloc (.cells #[.string t.name, .int .i64 t.T, .int .i64 t.D, .int .i64 t.mode, .int .i64 t.Q, .int .i64 t.theta, .slice t.ao t.regs.length t.cap, .int .u64 t.ecb, .int .u64 t.ucb] ty)) w.heap.size t := by
  constructor <;> simp
structure SBox (w : World) (g : Nat) (s : SetV) : Prop where
  c0 : w.cell? ⟨g, 0, none⟩ = some (.int .i64 s.reload)
  c1 : w.cell? ⟨g, 1, none⟩ = some (.slice s.ao s.ts.length s.cap)
theorem SBox.bel {w w' : World} {g : Nat} {s : SetV} (h : SBox w g s) (hb : Below w.heap.size w w') : SBox w' g s := ⟨cell_bel' h.c0 hb, cell_bel' h.c1 hb⟩
theorem SBox.drew {w : World} {g : Nat} {s : SetV} (h : SBox w g s) : SBox w.drew g s := ⟨h.c0, h.c1⟩
theorem sbox_new (w : World) (s : SetV) (ty : TypeId) : SBox (w.alloc (.cells #[.int .i64 s.reload, .slice s.ao s.ts.length s.cap] ty)) w.heap.size s := by
  constructor <;> simp

theorem results_cell1 {fn : Func} {p : Tmp} {ty : TypeId} (h : fn.results = #[.cell p ty]) (tmps : Array Value) (P : Program) (w : World) :
    (results fn tmps).run P w = ((asAddr (tmps.getD p undef)).run P w).andThen fun a w₁ => (loadVar ty a).run P w₁ := by
  simp only [results, h]
  simp only [List.mapM_toArray, List.mapM_cons, List.mapM_nil, Sem.run_bind]
  simp [Sem.run_bind, Result.andThen]
  cases (asAddr (tmps[p]?.getD undef)).run P w with
  | ok a w₁ => simp; cases (loadVar ty a).run P w₁ <;> simp
  | halt h w₁ => simp

/- the verifier's own plain task -/
def plainT (s : ByteArray) (g : Nat) (D : Int) : TaskV := ⟨s, 5, D, 0, 0, 0, some ⟨g, 0, none⟩, 2, 0, 0, [2, 1]⟩
theorem plain_in {w : World} {s : ByteArray} {g : Nat} {D : Int} (h0 : w.cell? ⟨g, 0, none⟩ = some (.int .i64 2)) (h1 : w.cell? ⟨g, 1, none⟩ = some (.int .i64 1)) (hs : s.size ≤ 9223372036854775807) (hD : I64 D) : TaskIn w (plainT s g D) :=
  ⟨fun _ => ⟨g, 0, rfl, fun j hj => by
      have : j = 0 ∨ j = 1 := by simp [plainT] at hj; omega
      rcases this with rfl | rfl
      · exact h0
      · exact h1⟩, (fun e => by cases e), by simp [plainT], hs, by simp [I64, plainT], hD, by simp [I64, plainT], by simp [I64, plainT], by simp [I64, plainT], by simp [U64, plainT], by simp [U64, plainT], fun n hn => by
      have : n = 2 ∨ n = 1 := by simpa [plainT] using hn
      rcases this with rfl | rfl <;> simp [I64]⟩
theorem plain_is (g : Nat) : isB (plainT ⟨#[97]⟩ g 5) 0 = true := by
  have key : ∀ ao, isB ⟨⟨#[97]⟩, 5, 5, 0, 0, 0, ao, 2, 0, 0, [2, 1]⟩ 0 = isB ⟨⟨#[97]⟩, 5, 5, 0, 0, 0, none, 2, 0, 0, [2, 1]⟩ 0 := fun _ => rfl
  rw [plainT, key]; decide +kernel
theorem plain_not (g : Nat) : isB (plainT ⟨#[97]⟩ g 2) 0 = false := by
  have key : ∀ ao, isB ⟨⟨#[97]⟩, 5, 2, 0, 0, 0, ao, 2, 0, 0, [2, 1]⟩ 0 = isB ⟨⟨#[97]⟩, 5, 2, 0, 0, 0, none, 2, 0, 0, [2, 1]⟩ 0 := fun _ => rfl
  rw [plainT, key]; decide +kernel
theorem boxed_frozen {w w1 : World} {cs : Array Value} {ty : TypeId} (h : Below (w.alloc (.cells cs ty)).heap.size (w.alloc (.cells cs ty)) w1) (j : Nat) : w1.frozen? ⟨w.heap.size, j, none⟩ = false := by
  have hat := h.block w.heap.size (by simp)
  rw [heap_alloc_new] at hat
  simp [World.frozen?, hat]
theorem plain_cells {w : World} {s : ByteArray} {g : Nat} {D : Int} (h : TaskIn w (plainT s g D)) : w.cell? ⟨g, 0, none⟩ = some (.int .i64 2) ∧ w.cell? ⟨g, 1, none⟩ = some (.int .i64 1) := by
  obtain ⟨b, off, e, hc⟩ := h.regs (by simp [plainT])
  cases e
  exact ⟨by simpa [plainT] using hc 0 (by simp [plainT]), by simpa [plainT] using hc 1 (by simp [plainT])⟩
end Go.Proofs.Ytndhjfpjhpnbaaa.Lex
