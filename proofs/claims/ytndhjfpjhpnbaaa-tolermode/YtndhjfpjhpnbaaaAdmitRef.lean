/- The reference of chapter 13: what Judge and Same answer. -/
import Derived.Test.YtndhjfpjhpnbaaaAdmitSpec
import Derived.Test.YtndhjfpjhpnbaaaRespTell
namespace Go.Proofs.Ytndhjfpjhpnbaaa.Lex
set_option maxRecDepth 100000
open Go.ChangeShapes Go.WideShapes Go.RowKit

theorem with_range {s : SetV} (ha : allB s = true) (hu : ∀ t ∈ s.ts, U64 t.ecb ∧ U64 t.ucb) {k : Nat} (hk : k < s.ts.length) (b : Int) : I64 (withR s k b) ∧ I64 (withH s k b) := by
  have hH : withH s k b = 3 ∨ withH s k b = 1 ∨ withH s k b = 2 := by
    unfold withH
    split
    · exact .inl rfl
    · split
      · exact .inr (.inl rfl)
      · exact .inr (.inr rfl)
  refine ⟨?_, by unfold I64; omega⟩
  cases hB : busyO s k b with
  | none => rw [withR, hB]; simp [I64]
  | some L =>
    rw [withR, hB]
    obtain ⟨hm, hl⟩ := busy_parts ha hu hk hB
    have hL := hl.1
    have h0 := (resp_ge s k b (Fix.ceilZ L (s.ts.getD k task0).T).toNat).1
    obtain ⟨-, -, -, hfit⟩ := all_fits ha hu
    have htt := task_time (hfit k hk).is
    have h1 := resp_le (s := s) (k := k) (b := b) (x := L) (by omega) (Fix.ceilZ L (s.ts.getD k task0).T).toNat (fun q hq => by
      have hq' : (q : Int) * (s.ts.getD k task0).T < L := (ceil_iff htt.1.1).1 (by omega)
      have hd := done_is ha hu hk hB hq'
      have h2 : 0 ≤ (q : Int) * (s.ts.getD k task0).T := Int.mul_nonneg (by omega) (by have := htt.1.1; omega)
      have h3 := hd.2
      omega)
    simp only [Int.toNat_natCast]
    unfold I64
    omega
theorem fresh_one (w : World) (x : Value) (ty : TypeId) : ∀ j u, [x][j]? = some u → (w.alloc (.cells #[x] ty)).cell? ((⟨w.heap.size, 0, none⟩ : Addr).add j) = some u := by
  intro j u hj
  have : j = 0 := by
    rcases Nat.eq_zero_or_pos j with h | h
    · exact h
    · rw [List.getElem?_eq_none (by simp; omega)] at hj; cases hj
  subst this
  simp at hj
  subst hj
  simp [Addr.add]
theorem verd_own {w : World} {B n : Nat} {v : Value} {l : List Int} (h : w.ownsRow B 2 1 v n (l.map intV)) : ∃ ao cap, v = .slice ao l.length cap ∧ RegsIn w ao l ∧ (ao = none → l = [] ∧ cap = 0) := by
  have hn : n = l.length := by have := h.1; simp at this; omega
  subst hn
  rcases h.2 with ⟨e, h0⟩ | ⟨g, cap, cur, e, hb, hg, r⟩
  · have eL : l = [] := List.length_eq_zero_iff.1 h0
    subst eL
    exact ⟨none, 0, e, fun k => absurd rfl k, fun _ => ⟨rfl, rfl⟩⟩
  · subst e
    exact ⟨some ⟨g, 0, none⟩, cap, rfl, regs_own (t := ⟨⟨#[]⟩, 0, 0, 0, 0, 0, some ⟨g, 0, none⟩, cap, 0, 0, l⟩) h, fun k => by cases k⟩
/- one verdict's box -/
structure VBox (w : World) (g : Nat) (v : VerdV) : Prop where
  c0 : w.cell? ⟨g, 0, none⟩ = some (.int .i64 v.how)
  c1 : w.cell? ⟨g, 1, none⟩ = some (.int .i64 v.task)
  c2 : w.cell? ⟨g, 2, none⟩ = some (.slice v.ao v.r.length v.cap)
theorem VBox.bel {w w' : World} {g : Nat} {v : VerdV} (h : VBox w g v) (hb : Below w.heap.size w w') : VBox w' g v := ⟨cell_bel' h.c0 hb, cell_bel' h.c1 hb, cell_bel' h.c2 hb⟩
theorem VBox.drew {w : World} {g : Nat} {v : VerdV} (h : VBox w g v) : VBox w.drew g v := ⟨h.c0, h.c1, h.c2⟩
theorem vbox_new (w : World) (v : VerdV) (ty : TypeId) : VBox (w.alloc (.cells #[.int .i64 v.how, .int .i64 v.task, .slice v.ao v.r.length v.cap] ty)) w.heap.size v := by
  constructor <;> simp
end Go.Proofs.Ytndhjfpjhpnbaaa.Lex
