/- Rows of loads that a call makes. -/
import Derived.Test.YtndhjfpjhpnbaaaFixRef
import Derived.Laws.AppendOwn
import Derived.Laws.AppendOwnNone
namespace Go.Proofs.Ytndhjfpjhpnbaaa.Fix
set_option maxRecDepth 100000
open Go.ChangeShapes Go.WideShapes Go.RowKit

def lcells (l : List LoadV) : List Value := l.flatMap fun x => [.int .i64 x.T, .int .i64 x.C]
theorem lcells_len : ∀ l : List LoadV, (lcells l).length = l.length * 2
  | [] => rfl
  | x :: l => by rw [lcells, List.flatMap_cons, List.length_append, ← lcells, lcells_len l]; simp; omega
theorem lcells_app (a b : List LoadV) : lcells (a ++ b) = lcells a ++ lcells b := by simp [lcells]
theorem lcells_at : ∀ (l : List LoadV) (j : Nat), j < l.length → (lcells l)[j * 2]? = some (.int .i64 (l.getD j load0).T) ∧ (lcells l)[j * 2 + 1]? = some (.int .i64 (l.getD j load0).C)
  | [], j, h => by simp at h
  | x :: l, 0, _ => ⟨rfl, rfl⟩
  | x :: l, j + 1, h => by
    have := lcells_at l j (by simpa using h)
    rw [show (j + 1) * 2 = j * 2 + 1 + 1 by omega]
    exact this
theorem lcells_one {l : List LoadV} : ∀ u ∈ lcells l, u.oneCell' = true := fun u hu => by
  simp only [lcells, List.mem_flatMap] at hu
  obtain ⟨x, -, hx⟩ := hu
  simp only [List.mem_cons, List.not_mem_nil, or_false] at hx
  rcases hx with rfl | rfl <;> rfl
/- the cells of a part of a row -/
theorem part_cells {w : World} {b off k m : Nat} {l : List LoadV} (hc : ∀ j, j < l.length → w.cell? ⟨b, off + j * 2, none⟩ = some (.int .i64 (l.getD j load0).T) ∧ w.cell? ⟨b, off + j * 2 + 1, none⟩ = some (.int .i64 (l.getD j load0).C)) (hk : k + m ≤ l.length) :
    ∀ j u, (lcells ((l.drop k).take m))[j]? = some u → w.cell? ((⟨b, off + k * 2, none⟩ : Addr).add j) = some u := by
  intro j u hj
  have hl : j < (lcells ((l.drop k).take m)).length := by
    rcases Nat.lt_or_ge j (lcells ((l.drop k).take m)).length with h | h
    · exact h
    · rw [List.getElem?_eq_none h] at hj; cases hj
  have hlen : ((l.drop k).take m).length = m := by rw [List.length_take, List.length_drop]; omega
  rw [lcells_len, hlen] at hl
  have e : ((l.drop k).take m).getD (j / 2) load0 = l.getD (k + j / 2) load0 := by
    rw [List.getD_eq_getElem?_getD, List.getD_eq_getElem?_getD, List.getElem?_take_of_lt (by omega), List.getElem?_drop]
  have ha := lcells_at ((l.drop k).take m) (j / 2) (by rw [hlen]; omega)
  rw [e] at ha
  have hcc := hc (k + j / 2) (by omega)
  have hadd : (⟨b, off + k * 2, none⟩ : Addr).add j = ⟨b, off + k * 2 + j, none⟩ := by cases j <;> simp [Addr.add]
  rw [hadd]
  rcases Nat.mod_two_eq_zero_or_one j with q | q
  · have ej : j = j / 2 * 2 := by omega
    rw [ej] at hj
    rw [ha.1] at hj
    rw [← hj, show off + k * 2 + j = off + (k + j / 2) * 2 by omega]
    exact hcc.1
  · have ej : j = j / 2 * 2 + 1 := by omega
    rw [ej] at hj
    rw [ha.2] at hj
    rw [← hj, show off + k * 2 + j = off + (k + j / 2) * 2 + 1 by omega]
    exact hcc.2
theorem loads_own {w : World} {B n : Nat} {v : Value} {L : List LoadV} (h : w.ownsRow B 52 2 v n (lcells L)) (he : ∀ x ∈ L, I64 x.T ∧ I64 x.C) (hl : L.length ≤ 9223372036854775807) : ∃ ao cap, v = .slice ao L.length cap ∧ LoadsIn w ao L := by
  have hn : n = L.length := by have := h.1; rw [lcells_len] at this; omega
  subst hn
  rcases h.2 with ⟨e, h0⟩ | ⟨g, cap, cur, e, -, hg, -, -, -, ht⟩
  · have eL : L = [] := List.length_eq_zero_iff.1 h0
    subst eL
    exact ⟨none, 0, e, fun k => absurd rfl k, hl, he⟩
  · refine ⟨some ⟨g, 0, none⟩, cap, e, fun _ => ⟨g, 0, rfl, fun j hj => ?_⟩, hl, he⟩
    have hcell := World.ownsRow.cells h (g := g) (by rw [e]; rfl)
    have ha := lcells_at L j hj
    have c0 := hcell _ _ ha.1
    have c1 := hcell _ _ ha.2
    rw [Nat.zero_add]
    constructor
    · cases j with
      | zero => simpa [Addr.add] using c0
      | succ j => simpa [Addr.add] using c0
    · simpa [Addr.add] using c1
theorem Try.info_load : (Try.prog.info? 52).map (fun i => (i.zero, i.size, i.bytes)) = some (some (.agg #[.int .i64 0, .int .i64 0]), 2, 16) := by kernel_rfl
theorem step_append_load {ops : Array Oper} {o : Oper} {a : Act} {w : World} {K : Act → World → Prop} {Q : Exit → Act → World → Prop} {E : Prop}
    (hg : o.guard = none) (s x : Operand) (hop : o.op = Op.call { callee := Callee.builtin Builtin.append, args := #[s, x], argTypes := #[44, 44] })
    (B : Nat) (v : Value) (n : Nat) (olds : List Value) (hs : a.eval s = v) (hown : w.ownsRow B 52 2 v n olds)
    (ad : Addr) (m c : Nat) (news : List LoadV) (hx : a.eval x = .slice (some ad) m c) (hn : news.length = m) (hc : ∀ j u, (lcells news)[j]? = some u → w.cell? (ad.add j) = some u)
    (b1 : n + m ≤ 1000000) (hb : B ≤ w.heap.size)
    (hK : ∀ v' w', w'.ownsRow B 52 2 v' (n + m) (olds ++ lcells news) → Below B w w' → K (a.put o.dst v') w') :
    if Region.wanted o (yielded ops a.tmps) = true then Oper.wp Try.prog o a w K Q else E := by
  obtain ⟨i0, hi, hz0, hz1, hz2⟩ := info_parts Try.info_load
  have hw : Region.wanted o (yielded ops a.tmps) = true := by simp [Region.wanted, hg]
  rw [if_pos hw]
  obtain ⟨v', w', hrun, r1, r2, _⟩ := run_append_own (P := Try.prog) w B 44 o.type 52 i0 (.agg #[.int .i64 0, .int .i64 0]) 2 16 (by kernel_rfl) hi hz0 hz1 hz2 rfl (by decide) v n olds hown ad m c (lcells news) (by rw [lcells_len, hn]) hc lcells_one (by unfold maxLen; omega) (by omega) hb
  unfold Oper.wp
  simp [execOp, hop, resolve, invoke, builtin, hs, hx, hrun, Result.andThen]
  exact hK v' w' r1 ((Below.refl _ _).grown r2 hb (fun j hj => (World.ownsRow.lt hown j hj).1))
theorem step_append_at {ops : Array Oper} {o : Oper} {a : Act} {w : World} {K : Act → World → Prop} {Q : Exit → Act → World → Prop} {E : Prop} (d : Tmp) (hd : o.dst = some d)
    (hg : o.guard = none) (s x : Operand) (hop : o.op = Op.call { callee := Callee.builtin Builtin.append, args := #[s, x], argTypes := #[44, 44] })
    (B : Nat) (v : Value) (n : Nat) (olds : List Value) (hs : a.eval s = v) (hown : w.ownsRow B 52 2 v n olds)
    (ad : Addr) (m c : Nat) (news : List LoadV) (hx : a.eval x = .slice (some ad) m c) (hn : news.length = m) (hc : ∀ j u, (lcells news)[j]? = some u → w.cell? (ad.add j) = some u)
    (b1 : n + m ≤ 1000000) (hb : B ≤ w.heap.size)
    (hK : ∀ v' w', w'.ownsRow B 52 2 v' (n + m) (olds ++ lcells news) → Below B w w' → K { a with tmps := a.tmps.setIfInBounds d v' } w') :
    if Region.wanted o (yielded ops a.tmps) = true then Oper.wp Try.prog o a w K Q else E :=
  step_append_load hg s x hop B v n olds hs hown ad m c news hx hn hc b1 hb (fun v' w' h1 h2 => by rw [put_some a v' hd]; exact hK v' w' h1 h2)
end Go.Proofs.Ytndhjfpjhpnbaaa.Fix
