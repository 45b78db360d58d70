/- The laws of chapter 13: the law's own set, which sets are looked at, AdmitJudges. -/
import Derived.Test.YtndhjfpjhpnbaaaAdmitRef
import Derived.Test.YtndhjfpjhpnbaaaRespThree
namespace Go.Proofs.Ytndhjfpjhpnbaaa.Lex
set_option maxRecDepth 100000
open Go.ChangeShapes Go.WideShapes Go.RowKit

theorem lstN (N : Nat) (b n : Int) (l : List Fix.LoadV) (h0 : 1 ≤ n ∧ n ≤ N) (hN : N ≤ 1000) (h1 : Fix.sumZ b l n = n) (h2 : ∀ k : Fin N, 1 ≤ (k.val : Int) → (k.val : Int) < n → (k.val : Int) < Fix.sumZ b l k.val) : Fix.IsLeast (Fix.sumZ b l) (some n) :=
  ⟨⟨h0.1, by omega⟩, h1, fun w g1 g2 => by
    have := h2 ⟨w.toNat, by omega⟩ (by show (1 : Int) ≤ ((w.toNat : Nat) : Int); omega) (by show ((w.toNat : Nat) : Int) < n; omega)
    simpa [Int.toNat_of_nonneg (show 0 ≤ w by omega)] using this⟩
def jS (g : Nat) : SetV := ⟨0, some ⟨g + 2, 0, none⟩, 2, [rT g 97 4 [2], rT (g + 1) 98 6 [3]]⟩
theorem jS_all (g : Nat) : allB (jS g) = true := by show allB (jS 0) = true; decide +kernel
theorem jS_in {w : World} {g : Nat} {ty : TypeId} {fr : Nat × Nat} (h0 : w.cell? ⟨g, 0, none⟩ = some (.int .i64 2)) (h1 : w.cell? ⟨g + 1, 0, none⟩ = some (.int .i64 3)) (hb : w.heap[g + 2]? = some (.cells ((jS g).ts.flatMap TaskV.cells).toArray ty fr)) : SetIn w (jS g) := by
  refine ⟨by simp [I64, jS], (fun e => by cases e), by simp [jS], by simp [jS], fun _ => ⟨g + 2, 0, rfl, fun j hj i hi => ?_⟩, fun t ht => ?_⟩
  · rw [Nat.zero_add, cell_block hb, List.getElem?_toArray]
    exact task_flat _ j hj i hi
  · simp only [jS, List.mem_cons, List.not_mem_nil, or_false] at ht
    rcases ht with rfl | rfl
    · refine rT_in (by omega) (by simp) (by simp) (fun j hj => ?_)
      have : j = 0 := by simp at hj; omega
      subst this; exact h0
    · refine rT_in (by omega) (by simp) (by simp) (fun j hj => ?_)
      have : j = 0 := by simp at hj; omega
      subst this; exact h1
theorem jS_most (g : Nat) : mostZ (jS g) 0 = 2 ∧ mostZ (jS g) 1 = 0 := by show mostZ (jS 0) 0 = 2 ∧ mostZ (jS 0) 1 = 0; decide +kernel
theorem jS_loads (g : Nat) : loadsTo (jS g) 0 = [] ∧ loadsTo (jS g) 1 = [⟨4, 2⟩] ∧ allL (jS g) 0 = [⟨4, 2⟩] ∧ allL (jS g) 1 = [⟨4, 2⟩, ⟨6, 3⟩] := by
  show loadsTo (jS 0) 0 = [] ∧ loadsTo (jS 0) 1 = [⟨4, 2⟩] ∧ allL (jS 0) 0 = [⟨4, 2⟩] ∧ allL (jS 0) 1 = [⟨4, 2⟩, ⟨6, 3⟩]
  exact ⟨rfl, rfl, rfl, rfl⟩
theorem jS_judge (g : Nat) : judgeH (jS g) = 2 ∧ judgeT (jS g) = 1 := by
  obtain ⟨m0, m1⟩ := jS_most g
  obtain ⟨l0, l1, a0, a1⟩ := jS_loads g
  have h0 : hAt (jS g) 0 = 1 := by
    rw [hAt, show ((0 : Nat) : Int) = 0 from rfl, m0]
    exact (resp_first (s := jS g) (k := 0) (b := 2) (L := 4) (d := 4) (by simp [jS]) (by rw [a0]; decide) (by rw [a0]; exact lstN 10 _ _ _ (by decide) (by decide) (by decide) (by decide)) (by show (Fix.ceilZ 4 4).toNat = 1; decide) (by rw [l0]; show Fix.IsLeast (Fix.sumZ (2 + workZ [2]) []) (some 4); exact lstN 10 _ _ _ (by decide) (by decide) (by decide) (by decide)) (by show (4 : Int) ≤ 4; decide)).2
  have hb : busyO (jS g) ((1 : Nat) : Int) 0 = some 12 := by
    unfold busyO
    rw [in_nat (by simp [jS]), Int.toNat_natCast, a1, show Fix.mayB 0 [⟨4, 2⟩, ⟨6, 3⟩] = true by decide]
    exact leastO_some (lstN 20 _ _ _ (by decide) (by decide) (by decide) (by decide))
  have hd : doneZ (jS g) 1 0 0 = 7 := by
    unfold doneZ
    rw [l1]
    show Fix.valO (leastO (Fix.sumZ 3 [⟨4, 2⟩])) = 7
    rw [leastO_some (lstN 10 3 7 [⟨4, 2⟩] (by decide) (by decide) (by decide) (by decide))]
    rfl
  have hR : 7 ≤ withR (jS g) ((1 : Nat) : Int) 0 := by
    rw [withR, hb]
    simp only [Int.toNat_natCast]
    have hc : (Fix.ceilZ 12 ((jS g).ts.getD 1 task0).T).toNat = 2 := by show (Fix.ceilZ 12 6).toNat = 2; decide
    rw [hc]
    have := (resp_ge (jS g) 1 0 2).2 0 (by omega)
    rw [hd] at this
    have e : ((0 : Nat) : Int) * ((jS g).ts.getD 1 task0).T = 0 := by simp
    omega
  have h1 : hAt (jS g) 1 = 2 := by
    rw [hAt, show ((1 : Nat) : Int) = 1 from rfl, m1]
    show withH (jS g) ((1 : Nat) : Int) 0 = 2
    rw [withH, hb]
    simp only [Int.toNat_natCast]
    rw [if_neg]
    show ¬ (withR (jS g) ((1 : Nat) : Int) 0 ≤ 6)
    omega
  have hf : badTo (jS g) (jS g).ts.length = some 1 := bad_first (bad_none.2 (fun k hk => by
    have : k = 0 := by omega
    subst this; exact h0)) (by rw [h1]; decide) (by simp [jS])
  obtain ⟨e1, e2, -⟩ := judge_bad hf
  exact ⟨by rw [e1, h1], by rw [e2]; rfl⟩
theorem same_yes {a b : VerdV} {x y : Int} {l : List Int} (h : a.how = x ∧ a.task = y ∧ a.r = l) (h' : b.how = x ∧ b.task = y ∧ b.r = l) : sameV a b = true := by
  obtain ⟨h1, h2, h3⟩ := h
  obtain ⟨g1, g2, g3⟩ := h'
  simp [sameV, h1, h2, h3, g1, g2, g3]
end Go.Proofs.Ytndhjfpjhpnbaaa.Lex
