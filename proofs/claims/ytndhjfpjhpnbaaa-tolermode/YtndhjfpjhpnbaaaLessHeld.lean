/- A set whose tasks were copied, and one region of one of them made shorter by one: how it lies, and what the document says of it. -/
import Derived.Test.YtndhjfpjhpnbaaaEasySpec
import Derived.Test.YtndhjfpjhpnbaaaBlockHeld
import Derived.Test.YtndhjfpjhpnbaaaTaskNamesP
namespace Go.Proofs.Ytndhjfpjhpnbaaa.Lex
set_option maxRecDepth 100000
open Go.ChangeShapes Go.WideShapes Go.RowKit

/- two sets that differ in what their regions and modes are alone -/
structure Alike (x s : SetV) : Prop where
  reload : x.reload = s.reload
  len : x.ts.length = s.ts.length
  each : ∀ j, j < s.ts.length → (x.ts.getD j task0).T = (s.ts.getD j task0).T ∧ (x.ts.getD j task0).D = (s.ts.getD j task0).D ∧ (x.ts.getD j task0).ecb = (s.ts.getD j task0).ecb ∧ (x.ts.getD j task0).ucb = (s.ts.getD j task0).ucb
theorem Alike.symm {x s : SetV} (h : Alike x s) : Alike s x := ⟨h.reload.symm, h.len.symm, fun j hj => by
  obtain ⟨a, b, c, d⟩ := h.each j (by rw [← h.len]; exact hj)
  exact ⟨a.symm, b.symm, c.symm, d.symm⟩⟩
theorem alike_le {x s : SetV} (h : Alike x s) (h0 : 0 ≤ s.reload) (i : Int) : madeZ s i ≤ madeZ x i ∧ ownZ s i ≤ ownZ x i := by
  refine made_more h.reload h0 h.len.symm (fun j => ?_) (fun j hj => ⟨0, by rw [(h.each j hj).2.2.2]; simp⟩) i
  rcases Nat.lt_or_ge j s.ts.length with c | c
  · exact (h.each j c).2.2.1
  · simp [List.getD, List.getElem?_eq_none (show x.ts.length ≤ j by rw [h.len]; exact c), List.getElem?_eq_none c]
theorem alike_same {x s : SetV} (h : Alike x s) (h0 : 0 ≤ s.reload) (i : Int) : madeZ x i = madeZ s i ∧ ownZ x i = ownZ s i := by
  have h1 := alike_le h h0 i
  have h2 := alike_le h.symm (by rw [h.reload]; exact h0) i
  omega
theorem alike_easy {x s : SetV} (h : Alike x s) (h0 : 0 ≤ s.reload) (hw : ∀ k, k < s.ts.length → workZ (x.ts.getD k task0).regs ≤ workZ (s.ts.getD k task0).regs) : Easier x s :=
  ⟨h.len, fun k hk => (h.each k hk).1, fun k hk => (h.each k hk).2.1, hw, fun k _ => by rw [(alike_same h h0 k).1]; exact Int.le_refl _⟩
theorem most_le {x s : SetV} (hl : x.ts.length = s.ts.length) (i : Int) (h : ∀ l : Nat, l < s.ts.length → ofZ x l i ≤ ofZ s l i) : 0 ≤ mostZ x i ∧ mostZ x i ≤ mostZ s i := by
  refine ⟨(most_ge x i _).1, ?_⟩
  unfold mostZ
  rw [hl]
  have : ∀ n, n ≤ s.ts.length → mostTo x i n ≤ mostTo s i n := by
    intro n
    induction n with
    | zero => intro _; exact Int.le_refl _
    | succ n ih =>
      intro hn
      have h1 := ih (by omega)
      have h2 := h n (by omega)
      rw [most_next, most_next]
      omega
  exact this _ (Nat.le_refl _)
/- copied, but for a region of one that is shorter by one -/
structure Less1 (x s : SetV) (i p : Nat) : Prop where
  reload : x.reload = s.reload
  len : x.ts.length = s.ts.length
  hi : i < s.ts.length
  hp : p < (s.ts.getD i task0).regs.length
  off : ∀ j, j < s.ts.length → j ≠ i → Copied (s.ts.getD j task0) (x.ts.getD j task0)
  at_i : Copied (lessT (s.ts.getD i task0) p) (x.ts.getD i task0)
theorem Less1.alike {x s : SetV} {i p : Nat} (h : Less1 x s i p) : Alike x s := ⟨h.reload, h.len, fun j hj => by
  by_cases e : j = i
  · subst e
    obtain ⟨a, c, e⟩ := h.at_i
    rw [e]; exact ⟨rfl, rfl, rfl, rfl⟩
  · obtain ⟨a, c, e⟩ := h.off j hj e
    rw [e]; exact ⟨rfl, rfl, rfl, rfl⟩⟩
theorem Less1.work {x s : SetV} {i p : Nat} (h : Less1 x s i p) : ∀ k, k < s.ts.length → workZ (x.ts.getD k task0).regs ≤ workZ (s.ts.getD k task0).regs := fun j hj => by
  by_cases e : j = i
  · subst e
    obtain ⟨a, c, e⟩ := h.at_i
    rw [e]
    show workZ (lessT _ p).regs ≤ _
    rw [work_less h.hp]; omega
  · obtain ⟨a, c, e⟩ := h.off j hj e
    rw [e]; exact Int.le_refl _
theorem Less1.easy {x s : SetV} {i p : Nat} (h : Less1 x s i p) (h0 : 0 ≤ s.reload) : Easier x s := alike_easy h.alike h0 h.work
theorem way_less {t : TaskV} {p : Nat} (hp : p < t.regs.length) (own high : Int) : wayZ (lessT t p) own high ≤ wayZ t own high := by
  have h1 := work_less hp
  have h2 := long_less t p
  have e1 : (lessT t p).mode = t.mode := rfl
  have e2 : (lessT t p).Q = t.Q := rfl
  have e3 : (lessT t p).theta = t.theta := rfl
  unfold wayZ
  rw [h1, e1, e2, e3]
  generalize longZ (lessT t p).regs = a at *
  generalize longZ t.regs = b at *
  generalize workZ t.regs = c at *
  repeat' split
  all_goals omega
theorem Less1.most {x s : SetV} {i p : Nat} (h : Less1 x s i p) (h0 : 0 ≤ s.reload) (k : Int) : 0 ≤ mostZ x k ∧ mostZ x k ≤ mostZ s k := by
  refine most_le h.len k (fun l hl => ?_)
  unfold ofZ
  rw [h.len]
  by_cases c : 0 ≤ k ∧ k < (l : Int) ∧ (l : Int) < s.ts.length
  · rw [if_pos c, if_pos c, (alike_same h.alike h0 l).2]
    simp only [Int.toNat_natCast]
    by_cases e : l = i
    · subst e
      obtain ⟨a, cp, e⟩ := h.at_i
      rw [e]
      exact way_less h.hp _ _
    · obtain ⟨a, cp, e⟩ := h.off l hl e
      rw [e]; exact Int.le_refl _
  · rw [if_neg c, if_neg c]; exact Int.le_refl _

/- how it lies -/
theorem flat_keep {t : TaskV} : ∀ (M : List TaskV) (i : Nat), i < M.length → t.cells = (M.getD i task0).cells → (M.set i t).flatMap TaskV.cells = M.flatMap TaskV.cells
  | [], i, h, _ => by simp at h
  | a :: r, 0, _, hc => by
    rw [List.set_cons_zero, List.flatMap_cons, List.flatMap_cons, hc]; rfl
  | a :: r, i + 1, h, hc => by
    rw [List.set_cons_succ, List.flatMap_cons, List.flatMap_cons, flat_keep r i (by simpa using h) (by simpa [List.getD] using hc)]
def putR (t : TaskV) (p : Nat) (v : Int) : TaskV := { t with regs := t.regs.set p v }
theorem putR_cells (t : TaskV) (p : Nat) (v : Int) : (putR t p v).cells = t.cells := by simp [putR, TaskV.cells]
theorem HeldS.reg {w : World} {B g c i p : Nat} {r : Int} {ga : Nat} {L : List TaskV} {v : Int} (h : HeldS w B ⟨r, some ⟨ga, 0, none⟩, c, L⟩) (hap : ∀ j, j < L.length → j ≠ i → Apart (L.getD i task0) (L.getD j task0)) (hi : i < L.length) (hao : (L.getD i task0).ao = some ⟨g, 0, none⟩) (hv : I64 v) :
    HeldS (w.setCell ⟨g, p, none⟩ (.int .i64 v)) B ⟨r, some ⟨ga, 0, none⟩, c, L.set i (putR (L.getD i task0) p v)⟩ := by
  have row := h.row
  simp only at row
  have hrb : rowB (L.getD i task0) = some g := by rw [rowB, hao]; rfl
  have oi : OwnTask w B (L.getD i task0) := h.own i hi
  have own : ∀ j, j < L.length → j ≠ i → OwnTask (w.setCell ⟨g, p, none⟩ (.int .i64 v)) B (L.getD j task0) := fun j hj hne => by
    refine ownsRow_setCell_other (h.own j hj) ?_ _
    have := hap j hj hne g hrb
    exact fun e => this e
  have hrow : (w.setCell ⟨g, p, none⟩ (.int .i64 v)).ownsRow B 38 9 (.slice (some ⟨ga, 0, none⟩) L.length c) L.length (L.flatMap TaskV.cells) := by
    refine ownsRow_setCell_other row ?_ _
    rcases own_apart (e := 38) (e' := 2) (by decide) row oi with q | q
    · rw [q]; simp
    · intro e
      apply q
      rw [e]
      exact hrb.symm
  have own_i : OwnTask (w.setCell ⟨g, p, none⟩ (.int .i64 v)) B (putR (L.getD i task0) p v) := by
    unfold OwnTask at oi ⊢
    rw [show (putR (L.getD i task0) p v).ao = some ⟨g, 0, none⟩ from hao, show (putR (L.getD i task0) p v).cap = (L.getD i task0).cap from rfl, show (putR (L.getD i task0) p v).regs = (L.getD i task0).regs.set p v from rfl, List.length_set]
    rw [hao] at oi
    have := (oi.stored p (.int .i64 v)).1
    rw [List.map_set]
    exact this
  refine ⟨?_, fun j hj => ?_, fun j hj => ?_⟩
  · simp only [List.length_set]
    rw [flat_keep L i hi (putR_cells _ _ _)]
    exact hrow
  · simp only [List.length_set] at hj ⊢
    by_cases e : j = i
    · subst e
      rw [set_at _ hi]; exact own_i
    · rw [set_off _ e]; exact own j hj e
  · simp only [List.length_set] at hj ⊢
    by_cases e : j = i
    · subst e
      rw [set_at _ hi]
      have t := h.each j hi
      refine { t with regs := regs_own own_i, nil := fun e => ?_, len := ?_, each := fun n hn => ?_ }
      · rw [show (putR (L.getD j task0) p v).ao = some ⟨g, 0, none⟩ from hao] at e; cases e
      · show ((L.getD j task0).regs.set p v).length ≤ _
        rw [List.length_set]; exact t.len
      · rcases List.mem_or_eq_of_mem_set hn with h | h
        · exact t.each n h
        · rw [h]; exact hv
    · rw [set_off _ e]
      exact { h.each j hj with regs := regs_own (own j hj e) }
theorem put_len {t t' : TaskV} (h : Copied t t') : t'.regs = t.regs := by
  obtain ⟨a, c, rfl⟩ := h; rfl
/- the row of a copied task lies in a block of its own -/
theorem own_at {w : World} {B : Nat} {t : TaskV} (h : OwnTask w B t) (h1 : 0 < t.regs.length) : ∃ g, t.ao = some ⟨g, 0, none⟩ ∧ B ≤ g ∧ ∃ cs, w.heap[g]? = some (.cells cs 2 (0, 0)) ∧ t.regs.length ≤ cs.size := by
  rcases h.2 with ⟨e, h0⟩ | ⟨g, cap, cur, e, hb, hg, hn, -, hs, -⟩
  · omega
  · exact ⟨g, (Value.slice.inj e).1, hb, cur, hg, by rw [hs]; omega⟩
theorem and_low (q : Int) : ∃ m : Nat, bits .and .i64 q 65535 = (m : Int) := by
  have h2 : (BitVec.ofInt 64 (65535 : Int)).toNat = 65535 := by decide
  have h3 : (BitVec.ofInt 64 q).toNat &&& 65535 = (BitVec.ofInt 64 q).toNat % 65536 := Nat.and_two_pow_sub_one_eq_mod _ 16
  refine ⟨(BitVec.ofInt 64 q).toNat % 65536, ?_⟩
  show IntKind.i64.wrap ((BitVec.ofInt 64 q &&& BitVec.ofInt 64 (65535 : Int)).toNat : Int) = _
  rw [BitVec.toNat_and, h2, h3]
  exact i64_is _ (by omega)
theorem reg_range {t : TaskV} {p : Int} (h : isB t p = true) : 0 < t.regs.length ∧ t.regs.length ≤ 8 ∧ ∀ n ∈ t.regs, 1 ≤ n ∧ n ≤ 10000 := by
  obtain ⟨-, h1, h8, he, -⟩ := fits_parts h
  exact ⟨h1, h8, he⟩
theorem reg_in {l : List Int} {p : Nat} (h : p < l.length) : l.getD p 0 ∈ l := by rw [List.getD_eq_getElem?_getD, List.getElem?_eq_getElem h]; exact List.getElem_mem _
theorem reg_cell {l : List Int} {p : Nat} (h : p < l.length) : (l.map intV)[p]? = some (.int .i64 (l.getD p 0)) := by simp [intV, List.getD, h]
/- all of it at once: a set that was put, and one region of it made shorter by one -/
theorem less_put {w W V : World} {s : SetV} {r : Int} {ga c i p g : Nat} {L : List TaskV} (hs : SetIn w s) (hput : PutOf w W s ⟨r, some ⟨ga, 0, none⟩, c, L⟩) (hb : Below W.heap.size W V) (hi : i < s.ts.length) (hp : p < (s.ts.getD i task0).regs.length) (hao : (L.getD i task0).ao = some ⟨g, 0, none⟩) (hv : I64 ((s.ts.getD i task0).regs.getD p 0 - 1)) :
    SetIn (V.setCell ⟨g, p, none⟩ (.int .i64 ((s.ts.getD i task0).regs.getD p 0 - 1))) ⟨r, some ⟨ga, 0, none⟩, c, L.set i (putR (L.getD i task0) p ((s.ts.getD i task0).regs.getD p 0 - 1))⟩ ∧ Less1 ⟨r, some ⟨ga, 0, none⟩, c, L.set i (putR (L.getD i task0) p ((s.ts.getD i task0).regs.getD p 0 - 1))⟩ s i p := by
  have hL : L.length = s.ts.length := hput.len
  have hH : HeldS V w.heap.size ⟨r, some ⟨ga, 0, none⟩, c, L⟩ := (held_of hs (PIn.of hput (Nat.le_refl _))).bel hb
  have hiL : i < L.length := by omega
  have hap : ∀ j, j < L.length → j ≠ i → Apart (L.getD i task0) (L.getD j task0) := fun j hj hne => by
    rcases Nat.lt_or_ge i j with l | l
    · exact hput.apart i j l (by omega)
    · exact apart_symm (hput.apart j i (by omega) (by omega))
  have hR := hH.reg (p := p) hap hiL hao hv
  refine ⟨hR.setIn (by have := hput.reload; simp only at this; rw [this]; exact hs.reload) (by simp only [List.length_set]; have := hs.len; omega), ⟨hput.reload, by simp only [List.length_set]; exact hL, hi, hp, fun j hj hne => ?_, ?_⟩⟩
  · simp only
    rw [set_off _ hne]; exact hput.copy j hj
  · simp only
    rw [set_at _ hiL]
    obtain ⟨a, c', e⟩ := hput.copy i hi
    simp only at e
    rw [e]
    exact ⟨a, c', rfl⟩
end Go.Proofs.Ytndhjfpjhpnbaaa.Lex
