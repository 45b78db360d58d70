/- Rows of tokens: what Same of the reference of chapter 4 answers of two rows that are one. -/
import Derived.Test.YtndhjfpjhpnbaaaLexToks
namespace Go.Proofs.Ytndhjfpjhpnbaaa.Lex
set_option maxRecDepth 100000
open Go.ChangeShapes Go.WideShapes Go.RowKit

/- a row of tokens in a world -/
def tok0 : Tok := ⟨0, [], 0, 0⟩
def TRow (w : World) (v : Value) (L : List Tok) : Prop := ∃ ao cap, v = .slice ao L.length cap ∧ (L ≠ [] → ∃ b off, ao = some ⟨b, off, none⟩ ∧ ∀ j, j < L.length →
  w.cell? ⟨b, off + j * 4, none⟩ = some (.int .i64 (L.getD j tok0).kind) ∧ w.cell? ⟨b, off + j * 4 + 1, none⟩ = some (.string (mkS (L.getD j tok0).text)) ∧ w.cell? ⟨b, off + j * 4 + 2, none⟩ = some (.int .i64 (L.getD j tok0).n) ∧ w.cell? ⟨b, off + j * 4 + 3, none⟩ = some (.int .i64 (L.getD j tok0).pos))
theorem flat_at (L : List Tok) : ∀ j, j < L.length → ∀ i, i < 4 → (L.flatMap tokC)[j * 4 + i]? = (tokC (L.getD j tok0))[i]? := by
  induction L with
  | nil => intro j hj; simp at hj
  | cons t r ih =>
    intro j hj i hi
    have hl : (tokC t).length = 4 := rfl
    cases j with
    | zero =>
      rw [List.flatMap_cons, List.getElem?_append_left (by omega)]
      simp
    | succ j =>
      rw [List.flatMap_cons, List.getElem?_append_right (by omega), hl, show (j + 1) * 4 + i - 4 = j * 4 + i by omega, ih j (by simpa using hj) i hi]
      simp
theorem trow_of_own {w : World} {base : Nat} {v : Value} {L : List Tok} (h : w.ownsRow base 63 4 v L.length (L.flatMap tokC)) : TRow w v L := by
  have h' := h
  rcases h.2 with ⟨rfl, h0⟩ | ⟨g, cap, cur, rfl, _⟩
  · have : L = [] := List.eq_nil_of_length_eq_zero h0
    subst this
    exact ⟨_, _, rfl, fun h => absurd rfl h⟩
  · refine ⟨_, _, rfl, fun _ => ⟨g, 0, rfl, fun j hj => ?_⟩⟩
    have c : ∀ i, i < 4 → w.cell? ⟨g, 0 + j * 4 + i, none⟩ = (tokC (L.getD j tok0))[i]? := fun i hi => by
      rw [Nat.zero_add, h'.cellAt (j * 4 + i) (by omega), flat_at L j hj i hi]
    exact ⟨c 0 (by omega), c 1 (by omega), c 2 (by omega), c 3 (by omega)⟩
theorem TRow.below {w w' : World} {v : Value} {L : List Tok} (h : TRow w v L) (hb : Below w.heap.size w w') : TRow w' v L := by
  obtain ⟨ao, cap, rfl, hc⟩ := h
  refine ⟨ao, cap, rfl, fun e => ?_⟩
  obtain ⟨b, off, rfl, hcc⟩ := hc e
  refine ⟨b, off, rfl, fun j hj => ?_⟩
  obtain ⟨h0, h1, h2, h3⟩ := hcc j hj
  have k : ∀ o u, w.cell? ⟨b, o, none⟩ = some u → w'.cell? ⟨b, o, none⟩ = some u := fun o u hu => by rw [hb.cell (World.block_lt_of_cell? w _ hu)]; exact hu
  exact ⟨k _ _ h0, k _ _ h1, k _ _ h2, k _ _ h3⟩

/- two tokens -/
def eqT (a b : Tok) : Bool := a.kind == b.kind && a.text == b.text && a.n == b.n && a.pos == b.pos
set_option maxHeartbeats 400000 in
theorem Try.eqTok (a c d a' c' d' : Int) (s s' : ByteArray) (w : World) : (Op.equalIn 10000 63 (.agg #[.int .i64 a, .string s, .int .i64 c, .int .i64 d]) (.agg #[.int .i64 a', .string s', .int .i64 c', .int .i64 d'])).run Try.prog w = .ok (a == a' && s.toList == s'.toList && c == c' && d == d') w := by
  have u3 := Try.underlying3
  have u9 := Try.underlying9
  have u2 := Try.underlying2
  have hS : Try.prog.underlying 63 = some (.struct (Try.prog.fieldsOf 63)) := by kernel_rfl
  have hp : Try.prog.stoodInHeld 63 = false := by kernel_rfl
  rw [show (10000 : Nat) = 9999 + 1 from rfl, run_equalIn_agg w 9999 63 _ _ hS hp]
  simp only [Program.fieldsOf, Try.underlying63]
  go_simp
  by_cases h1 : a = a' <;> by_cases h2 : s.toList = s'.toList <;> by_cases h3 : c = c' <;> by_cases h4 : d = d' <;> simp [h1, h2, h3, h4]
theorem Try.guardTok : Try.prog.eqGuardType Try.prog.depth 63 = false := by kernel_rfl
theorem Try.neqTok (a c d : Int) (s : ByteArray) (w : World) : (binOp .neq 63 (.agg #[.int .i64 a, .string s, .int .i64 c, .int .i64 d]) (.agg #[.int .i64 a, .string s, .int .i64 c, .int .i64 d])).run Try.prog w = .ok (.bool false) w := by
  have h := Try.eqTok a c d a c d s s w
  go_simp

end Go.Proofs.Ytndhjfpjhpnbaaa.Lex
