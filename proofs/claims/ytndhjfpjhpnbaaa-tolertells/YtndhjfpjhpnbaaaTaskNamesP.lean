/- Names of a set that was put, one of them another's: plain facts, and how the row lies behind the store. -/
import Derived.Test.YtndhjfpjhpnbaaaTaskPut
namespace Go.Proofs.Ytndhjfpjhpnbaaa.Lex
set_option maxRecDepth 100000
open Go.ChangeShapes Go.WideShapes Go.RowKit

def named (L : List TaskV) (i k : Nat) : List TaskV := L.set i { L.getD i task0 with name := (L.getD k task0).name }
theorem named_len (L : List TaskV) (i k : Nat) : (named L i k).length = L.length := by simp [named]
theorem named_at (L : List TaskV) {i k : Nat} (hi : i < L.length) : (named L i k).getD i task0 = { L.getD i task0 with name := (L.getD k task0).name } := by
  simp [named, List.getD, hi]
theorem named_off (L : List TaskV) {i k j : Nat} (h : j ≠ i) : (named L i k).getD j task0 = L.getD j task0 := by
  simp [named, List.getD, List.getElem?_set_ne (Ne.symm h)]
theorem named_self (L : List TaskV) {i : Nat} (hi : i < L.length) : named L i i = L := by
  have : L.getD i task0 = L[i] := by simp [List.getD, hi]
  rw [named, this]
  exact List.set_getElem_self hi
theorem copied_is {t t' : TaskV} (h : Copied t t') (p : Int) : isB t' p = isB t p ∧ t'.name = t.name := by
  obtain ⟨ao, cap, rfl⟩ := h
  exact ⟨rfl, rfl⟩
theorem range_congr {p q : Nat → Bool} {n : Nat} (h : ∀ j, j < n → p j = q j) : (List.range n).all p = (List.range n).all q := by
  rw [Bool.eq_iff_iff]
  simp only [List.all_eq_true, List.mem_range]
  exact ⟨fun hp j hj => by rw [← h j hj]; exact hp j hj, fun hq j hj => by rw [h j hj]; exact hq j hj⟩
theorem put_all {w w' : World} {s s' : SetV} (h : PutOf w w' s s') : allB s' = allB s := by
  rw [allB, allB, h.reload, h.len]
  congr 3
  refine range_congr fun j hj => ?_
  have e := copied_is (h.copy j hj) j
  rw [okAt, okAt, e.1]
  congr 1
  refine range_congr fun q hq => ?_
  rw [e.2, (copied_is (h.copy q (by omega)) 0).2]
theorem all_apart {s : SetV} (h : allB s = true) {i k : Nat} (hik : i < k) (hk : k < s.ts.length) : ((s.ts.getD i task0).name.data.toList == (s.ts.getD k task0).name.data.toList) = false := by
  simp only [allB, Bool.and_eq_true] at h
  have h1 := List.all_eq_true.1 h.2.2.2 k (List.mem_range.2 hk)
  simp only [okAt, Bool.and_eq_true] at h1
  have h2 := List.all_eq_true.1 h1.2 i (List.mem_range.2 hik)
  simpa using h2
theorem all_apart' {s : SetV} (h : allB s = true) {i k : Nat} (hik : i ≠ k) (hi : i < s.ts.length) (hk : k < s.ts.length) : (s.ts.getD i task0).name.data.toList ≠ (s.ts.getD k task0).name.data.toList := by
  rcases Nat.lt_or_gt_of_ne hik with l | l
  · simpa using all_apart h l hk
  · have := all_apart h l hi
    intro e
    rw [e] at this
    simp at this
theorem names_all {w w' : World} {s s' : SetV} (h : PutOf w w' s s') (ha : allB s = true) {i k : Nat} (hi : i < s.ts.length) (hk : k < s.ts.length) : allB ⟨s'.reload, s'.ao, s'.cap, named s'.ts i k⟩ = (i == k) := by
  by_cases e : i = k
  · subst e
    have hi' : i < s'.ts.length := by rw [h.len]; exact hi
    rw [named_self _ hi']
    have : allB ⟨s'.reload, s'.ao, s'.cap, s'.ts⟩ = allB s' := rfl
    rw [this, put_all h, ha]; simp
  · have hq : (i == k) = false := by simpa using e
    have hi' : i < s'.ts.length := by rw [h.len]; exact hi
    have hnm : ((named s'.ts i k).getD i task0).name = ((named s'.ts i k).getD k task0).name := by
      rw [named_at _ hi', named_off _ (Ne.symm e)]
    rw [hq, allB]
    simp only [named_len]
    have hno : (List.range s'.ts.length).all (okAt (named s'.ts i k)) = false := by
      rcases Nat.lt_or_gt_of_ne e with l | l
      · exact range_not (k := k) (by rw [h.len]; exact hk) (by rw [okAt, range_not (k := i) l (by rw [hnm]; simp), Bool.and_false])
      · exact range_not (k := i) hi' (by rw [okAt, range_not (k := k) l (by rw [hnm]; simp), Bool.and_false])
    rw [hno]; simp
theorem names_same {w w' : World} {s s' : SetV} (h : PutOf w w' s s') (ha : allB s = true) {i k : Nat} (hi : i < s.ts.length) (hk : k < s.ts.length) : sameB ⟨s'.reload, s'.ao, s'.cap, named s'.ts i k⟩ s = (i == k) := by
  have hi' : i < s'.ts.length := by rw [h.len]; exact hi
  rw [sameB]
  simp only [named_len, h.reload, h.len, beq_self_eq_true, Bool.true_and]
  by_cases e : i = k
  · subst e
    rw [named_self _ hi']
    simp only [beq_self_eq_true]
    rw [List.all_eq_true]
    intro j hj
    obtain ⟨ao, cap, e⟩ := h.copy j (List.mem_range.1 hj)
    rw [e]; simp [sameT]
  · have hq : (i == k) = false := by simpa using e
    rw [hq]
    refine range_not (k := i) hi ?_
    rw [named_at _ hi']
    have hn := (copied_is (h.copy k hk) 0).2
    have hne := all_apart' ha e hi hk
    have : ((s'.ts.getD k task0).name.data.toList == (s.ts.getD i task0).name.data.toList) = false := by
      rw [hn, beq_eq_false_iff_ne]; exact fun e => hne e.symm
    simp only [sameT, this, Bool.false_and]
theorem named_flat (L : List TaskV) : ∀ {i k : Nat}, i < L.length → (named L i k).flatMap TaskV.cells = (L.flatMap TaskV.cells).set (i * 9) (.string (L.getD k task0).name) := by
  intro i k hi
  have key : ∀ (M : List TaskV) (i : Nat) (nm : ByteArray), i < M.length → (M.set i { M.getD i task0 with name := nm }).flatMap TaskV.cells = (M.flatMap TaskV.cells).set (i * 9) (.string nm) := by
    intro M
    induction M with
    | nil => intro i nm h; simp at h
    | cons t r ih =>
      intro i nm h
      cases i with
      | zero => simp [TaskV.cells]
      | succ i =>
        have hl : t.cells.length = 9 := rfl
        have := ih i nm (by simpa using h)
        rw [List.set_cons_succ, List.flatMap_cons, List.flatMap_cons, List.set_append_right _ _ (by rw [hl]; omega), hl, show (i + 1) * 9 - 9 = i * 9 by omega, ← this]
        simp
  exact key L i _ hi
end Go.Proofs.Ytndhjfpjhpnbaaa.Lex
