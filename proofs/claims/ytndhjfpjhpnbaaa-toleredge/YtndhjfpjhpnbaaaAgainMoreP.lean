/- The law of chapter 8 of more sets that are needed again: plain facts. -/
import Derived.Test.YtndhjfpjhpnbaaaAgainLaw2
import Derived.Laws.BitsAllLaws
import Derived.OneCell
namespace Go.Proofs.Ytndhjfpjhpnbaaa.Lex
set_option maxRecDepth 100000
open Go.ChangeShapes Go.WideShapes Go.RowKit

def moreT (L : List TaskV) (i : Nat) (v : Int) : List TaskV := L.set i { L.getD i task0 with ucb := v }
theorem more_len (L : List TaskV) (i : Nat) (v : Int) : (moreT L i v).length = L.length := by simp [moreT]
theorem more_at (L : List TaskV) {i : Nat} (v : Int) (hi : i < L.length) : (moreT L i v).getD i task0 = { L.getD i task0 with ucb := v } := by
  simp [moreT, List.getD, hi]
theorem more_off (L : List TaskV) {i j : Nat} (v : Int) (h : j ≠ i) : (moreT L i v).getD j task0 = L.getD j task0 := by
  simp [moreT, List.getD, List.getElem?_set_ne (Ne.symm h)]
theorem more_flat (v : Int) : ∀ (M : List TaskV) (i : Nat), i < M.length → (moreT M i v).flatMap TaskV.cells = (M.flatMap TaskV.cells).set (i * 9 + 8) (.int .u64 v) := by
  intro M
  induction M with
  | nil => intro i h; simp at h
  | cons t r ih =>
    intro i h
    cases i with
    | zero => simp [moreT, TaskV.cells]
    | succ i =>
      have hl : t.cells.length = 9 := rfl
      have := ih i (by simpa using h)
      simp only [moreT] at this ⊢
      rw [List.set_cons_succ, List.flatMap_cons, List.flatMap_cons, List.set_append_right _ _ (by rw [hl]; omega), hl, show (i + 1) * 9 + 8 - 9 = i * 9 + 8 by omega, ← this]
      simp
theorem more_in {w w2 w3 : World} {s : SetV} {rl' : Int} {g cap' : Nat} {L : List TaskV} {i : Nat} {v : Int} (hs : SetIn w s) (hput : PutOf w w2 s ⟨rl', some ⟨g, 0, none⟩, cap', L⟩) (hb : Below w2.heap.size w2 w3) (hi : i < L.length) (hv : U64 v) :
    SetIn (w3.setCell ⟨g, i * 9 + 8, none⟩ (.int .u64 v)) ⟨rl', some ⟨g, 0, none⟩, cap', moreT L i v⟩ := by
  have hin := put_in hs hput
  have mem : ∀ j, j < L.length → L.getD j task0 ∈ L := fun j hj => by rw [List.getD_eq_getElem?_getD, List.getElem?_eq_getElem hj]; exact List.getElem_mem _
  have tin : ∀ j, j < L.length → TaskIn w2 (L.getD j task0) := fun j hj => hin.each _ (mem j hj)
  have row := own_belG hput.row hb
  simp only at row
  have own : ∀ j, j < L.length → OwnTask (w3.setCell ⟨g, i * 9 + 8, none⟩ (.int .u64 v)) (w.heap.size + 3) (L.getD j task0) := fun j hj => by
    have o : OwnTask w3 (w.heap.size + 3) (L.getD j task0) := own_belG (hput.each _ (mem j hj)) hb
    refine ownsRow_setCell_other o ?_ _
    rcases own_apart (by decide) o row with h | h
    · rw [h]; simp
    · exact h
  have tin' : ∀ j, j < L.length → TaskIn (w3.setCell ⟨g, i * 9 + 8, none⟩ (.int .u64 v)) (L.getD j task0) := fun j hj => { tin j hj with regs := regs_own (own j hj) }
  refine rows_in (B := w.heap.size + 3) hin.reload ?_ ?_ (fun t ht => ?_)
  · simp only [more_len]; exact hin.len
  · simp only [more_len, more_flat v L i hi]
    exact (row.stored (i * 9 + 8) _).1
  · obtain ⟨j, hj, rfl⟩ := List.getElem_of_mem ht
    have hl : j < L.length := by have h := hj; simp only [more_len] at h; exact h
    have e1 : (moreT L i v)[j]'(by rw [more_len]; exact hl) = (moreT L i v).getD j task0 := by simp [List.getD, more_len, hl]
    simp only
    rw [e1]
    by_cases e : j = i
    · subst e
      rw [more_at L v hl]
      exact { tin' j hl with ucb := hv }
    · rw [more_off L v e]
      exact tin' j hl
theorem and_off (e : Nat) (he : e < 18446744073709551616) : e &&& (18446744073709551615 - e) = 0 := by
  refine Nat.eq_of_testBit_eq fun i => ?_
  rw [Nat.testBit_and, show 18446744073709551615 - e = 2 ^ 64 - (e + 1) by omega, Nat.testBit_two_pow_sub_succ (by simpa using he)]
  cases e.testBit i <;> simp
theorem mask_more {u e m : Nat} (hu : u < 18446744073709551616) (he : e < 18446744073709551616) (hm : m < 18446744073709551616) (h : maskB u e = true) : maskB ((u ||| (m &&& e) : Nat) : Int) e = true := by
  have hme : m &&& e < 18446744073709551616 := Nat.lt_of_le_of_lt Nat.and_le_left hm
  simp only [maskB, beq_iff_eq] at h ⊢
  rw [u64_andNot_nat u e hu he] at h
  rw [u64_andNot_nat _ e (Nat.or_lt_two_pow (n := 64) hu hme) he]
  have h' : u &&& (18446744073709551615 - e) = 0 := by omega
  rw [Nat.and_or_distrib_right, h', Nat.and_assoc, and_off e he]
  simp
theorem more_all {s : SetV} {k : Nat} {v : Int} (ha : allB s = true) (hk : k < s.ts.length) (hv : maskB v (s.ts.getD k task0).ecb = true) : allB ⟨s.reload, s.ao, s.cap, moreT s.ts k v⟩ = true := by
  have name : ∀ j, ((moreT s.ts k v).getD j task0).name = (s.ts.getD j task0).name := fun j => by
    by_cases e : j = k
    · subst e; rw [more_at _ _ hk]
    · rw [more_off _ _ e]
  have is : ∀ j p, isB (s.ts.getD j task0) p = true → isB ((moreT s.ts k v).getD j task0) p = true := fun j p h => by
    by_cases e : j = k
    · subst e
      rw [more_at _ _ hk]
      simp only [isB, Bool.and_eq_true] at h ⊢
      exact ⟨h.1, h.2.1, h.2.2.1, hv, h.2.2.2.2⟩
    · rw [more_off _ _ e]; exact h
  simp only [allB, Bool.and_eq_true, more_len] at ha ⊢
  refine ⟨ha.1, ha.2.1, ha.2.2.1, ?_⟩
  rw [List.all_eq_true]
  intro j hj
  have := List.all_eq_true.1 ha.2.2.2 j hj
  simp only [okAt, Bool.and_eq_true] at this ⊢
  refine ⟨is j _ this.1, ?_⟩
  simp only [name]
  exact this.2
/- a set's number grows with one of its sets -/
theorem fold_more (L M : List TaskV) (h : L.length = M.length) (hu : ∀ j, j < L.length → ∃ z, (M.getD j task0).ucb.toNat = (L.getD j task0).ucb.toNat ||| z) : ∀ a z, ∃ y, M.foldl (fun a t => a ||| t.ucb.toNat) (a ||| z) = L.foldl (fun a t => a ||| t.ucb.toNat) a ||| y := by
  induction L generalizing M with
  | nil =>
    intro a z
    have : M = [] := List.eq_nil_of_length_eq_zero (by simpa using h.symm)
    subst this; exact ⟨z, rfl⟩
  | cons t r ih =>
    intro a z
    cases M with
    | nil => simp at h
    | cons u q =>
      obtain ⟨y, hy⟩ := hu 0 (by simp)
      have hy' : u.ucb.toNat = t.ucb.toNat ||| y := by simpa using hy
      simp only [List.foldl_cons]
      rw [hy', show a ||| z ||| (t.ucb.toNat ||| y) = (a ||| t.ucb.toNat) ||| (z ||| y) by rw [Nat.or_assoc, Nat.or_assoc, ← Nat.or_assoc z, Nat.or_comm z t.ucb.toNat, Nat.or_assoc]]
      exact ih q (by simpa using h) (fun j hj => by have := hu (j + 1) (by simpa using hj); simpa using this) _ _
theorem bel_more {ts ts' : List TaskV} (h : ts.length = ts'.length) (hu : ∀ j, j < ts.length → ∃ z, (ts'.getD j task0).ucb.toNat = (ts.getD j task0).ucb.toNat ||| z) (j n : Nat) : ∃ z, belN ts' j n = belN ts j n ||| z := by
  have := fold_more ((ts.take n).drop (j + 1)) ((ts'.take n).drop (j + 1)) (by simp [h]) (fun i hi => by
    simp only [List.length_drop, List.length_take] at hi
    have e : ∀ l : List TaskV, l.length = ts.length → ((l.take n).drop (j + 1)).getD i task0 = l.getD (j + 1 + i) task0 := fun l hl => by
      simp only [List.getD_eq_getElem?_getD, List.getElem?_drop]
      rw [List.getElem?_take_of_lt (by omega)]
    rw [e ts rfl, e ts' h.symm]
    exact hu _ (by omega)) 0 0
  simpa [belN] using this
theorem pop_more (x z e : Nat) : popN (x &&& e) ≤ popN ((x ||| z) &&& e) := by
  rw [Nat.and_or_distrib_right]; exact pop_or _ _
theorem made_more {s x : SetV} (hr : x.reload = s.reload) (h0 : 0 ≤ s.reload) (hl : s.ts.length = x.ts.length) (he : ∀ j, (x.ts.getD j task0).ecb = (s.ts.getD j task0).ecb) (hu : ∀ j, j < s.ts.length → ∃ z, (x.ts.getD j task0).ucb.toNat = (s.ts.getD j task0).ucb.toNat ||| z) (i : Int) : madeZ s i ≤ madeZ x i ∧ ownZ s i ≤ ownZ x i := by
  have hin : inI x i = inI s i := by simp [inI, hl]
  rw [madeZ, madeZ, ownZ, ownZ, hin, hr]
  cases h : inI s i
  · simp
  · simp only [if_true]
    have hi : i.toNat < s.ts.length := by simp [inI] at h; omega
    obtain ⟨z, hz⟩ := bel_more hl hu i.toNat s.ts.length
    obtain ⟨y, hy⟩ := hu i.toNat hi
    rw [← hl, hz, he, hy]
    exact ⟨Int.mul_le_mul_of_nonneg_left (by have := pop_more (belN s.ts i.toNat s.ts.length) z (s.ts.getD i.toNat task0).ecb.toNat; omega) h0, Int.mul_le_mul_of_nonneg_left (by have := pop_or (s.ts.getD i.toNat task0).ucb.toNat y; omega) h0⟩
end Go.Proofs.Ytndhjfpjhpnbaaa.Lex
