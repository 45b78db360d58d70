/- The law RespKnown: three tasks by hand. -/
import Derived.Test.YtndhjfpjhpnbaaaRespLaw
namespace Go.Proofs.Ytndhjfpjhpnbaaa.Lex
set_option maxRecDepth 100000
open Go.ChangeShapes Go.WideShapes Go.RowKit

theorem resp_first {s : SetV} {k : Nat} {b L d : Int} (hk : k < s.ts.length) (hm : Fix.mayB b (allL s k) = true) (hl : Fix.IsLeast (Fix.sumZ b (allL s k)) (some L)) (hc : (Fix.ceilZ L (s.ts.getD k task0).T).toNat = 1) (hd : Fix.IsLeast (Fix.sumZ (b + workZ (s.ts.getD k task0).regs) (loadsTo s k)) (some d)) (hD : d ≤ (s.ts.getD k task0).D) : withR s k b = d ∧ withH s k b = 1 := by
  have hb : busyO s k b = some L := by
    unfold busyO
    rw [in_nat hk, Int.toNat_natCast, hm]
    exact leastO_some hl
  have hz : doneZ s k b 0 = d := by
    unfold doneZ
    rw [show b + (((0 : Nat) : Int) + 1) * workZ (s.ts.getD k task0).regs = b + workZ (s.ts.getD k task0).regs by simp, leastO_some hd]
    rfl
  have hR : withR s k b = d := by
    rw [withR, hb]
    simp only [Int.toNat_natCast]
    rw [hc, resp_next, hz]
    have h0 : respTo s k b 0 = 0 := rfl
    have h1 := hd.1
    rw [h0]
    have : ((0 : Nat) : Int) * (s.ts.getD k task0).T = 0 := by simp
    omega
  refine ⟨hR, ?_⟩
  rw [withH, hb]
  simp only [Int.toNat_natCast]
  rw [hR, if_pos hD]
def rT (g : Nat) (nm : UInt8) (T : Int) (l : List Int) : TaskV := ⟨⟨#[nm]⟩, T, T, 0, 0, 0, some ⟨g, 0, none⟩, l.length, 0, 0, l⟩
def rS (g : Nat) : SetV := ⟨0, some ⟨g + 3, 0, none⟩, 3, [rT g 97 4 [1], rT (g + 1) 98 6 [2], rT (g + 2) 99 13 [2, 1]]⟩
theorem rS_all (g : Nat) : allB (rS g) = true := by show allB (rS 0) = true; decide +kernel
theorem rT_in {w : World} {g : Nat} {nm : UInt8} {T : Int} {l : List Int} (hT : 0 ≤ T ∧ T ≤ 100) (hl : l.length ≤ 2) (hn : ∀ n ∈ l, 0 ≤ n ∧ n ≤ 100) (h : ∀ j, j < l.length → w.cell? ⟨g, j, none⟩ = some (.int .i64 (l.getD j 0))) : TaskIn w (rT g nm T l) :=
  ⟨fun _ => ⟨g, 0, rfl, fun j hj => by rw [Nat.zero_add]; exact h j hj⟩, (fun e => by cases e), by simp only [rT]; omega, by simp [rT, ByteArray.size], by simp only [I64, rT]; omega, by simp only [I64, rT]; omega, by simp [I64, rT], by simp [I64, rT], by simp [I64, rT], by simp [U64, rT], by simp [U64, rT], fun n h9 => by have := hn n h9; unfold I64; omega⟩
theorem rS_in {w : World} {g : Nat} {ty : TypeId} {fr : Nat × Nat} (h0 : w.cell? ⟨g, 0, none⟩ = some (.int .i64 1)) (h1 : w.cell? ⟨g + 1, 0, none⟩ = some (.int .i64 2)) (h2 : w.cell? ⟨g + 2, 0, none⟩ = some (.int .i64 2)) (h3 : w.cell? ⟨g + 2, 1, none⟩ = some (.int .i64 1)) (hb : w.heap[g + 3]? = some (.cells ((rS g).ts.flatMap TaskV.cells).toArray ty fr)) : SetIn w (rS g) := by
  refine ⟨by simp [I64, rS], (fun e => by cases e), by simp [rS], by simp [rS], fun _ => ⟨g + 3, 0, rfl, fun j hj i hi => ?_⟩, fun t ht => ?_⟩
  · rw [Nat.zero_add, cell_block hb, List.getElem?_toArray]
    exact task_flat _ j hj i hi
  · simp only [rS, List.mem_cons, List.not_mem_nil, or_false] at ht
    rcases ht with rfl | rfl | rfl
    · refine rT_in (by omega) (by simp) (by simp) (fun j hj => ?_)
      have : j = 0 := by simp at hj; omega
      subst this; exact h0
    · refine rT_in (by omega) (by simp) (by simp) (fun j hj => ?_)
      have : j = 0 := by simp at hj; omega
      subst this; exact h1
    · refine rT_in (by omega) (by simp) (by simp) (fun j hj => ?_)
      have : j = 0 ∨ j = 1 := by simp at hj; omega
      rcases this with rfl | rfl
      · exact h2
      · exact h3
theorem rS_most (g : Nat) : mostZ (rS g) 0 = 1 ∧ mostZ (rS g) 1 = 1 ∧ mostZ (rS g) 2 = 0 := by show mostZ (rS 0) 0 = 1 ∧ mostZ (rS 0) 1 = 1 ∧ mostZ (rS 0) 2 = 0; decide +kernel
theorem rS_loads (g : Nat) : loadsTo (rS g) 0 = [] ∧ loadsTo (rS g) 1 = [⟨4, 1⟩] ∧ loadsTo (rS g) 2 = [⟨4, 1⟩, ⟨6, 2⟩] := by
  show loadsTo (rS 0) 0 = [] ∧ loadsTo (rS 0) 1 = [⟨4, 1⟩] ∧ loadsTo (rS 0) 2 = [⟨4, 1⟩, ⟨6, 2⟩]
  exact ⟨rfl, rfl, rfl⟩
theorem rS_own (g : Nat) : allL (rS g) 0 = [⟨4, 1⟩] ∧ allL (rS g) 1 = [⟨4, 1⟩, ⟨6, 2⟩] ∧ allL (rS g) 2 = [⟨4, 1⟩, ⟨6, 2⟩, ⟨13, 3⟩] := by
  show allL (rS 0) 0 = [⟨4, 1⟩] ∧ allL (rS 0) 1 = [⟨4, 1⟩, ⟨6, 2⟩] ∧ allL (rS 0) 2 = [⟨4, 1⟩, ⟨6, 2⟩, ⟨13, 3⟩]
  exact ⟨rfl, rfl, rfl⟩
theorem below10 {n : Int} {P : Int → Prop} (hn : n ≤ 10) (h : ∀ k : Fin 10, 1 ≤ (k.val : Int) → (k.val : Int) < n → P k.val) : ∀ w : Int, 1 ≤ w → w < n → P w := fun w h1 h2 => by
  have := h ⟨w.toNat, by omega⟩ (by show (1 : Int) ≤ ((w.toNat : Nat) : Int); omega) (by show ((w.toNat : Nat) : Int) < n; omega)
  simpa [Int.toNat_of_nonneg (show 0 ≤ w by omega)] using this
theorem lst (b n : Int) (l : List Fix.LoadV) (h0 : 1 ≤ n ∧ n ≤ 10) (h1 : Fix.sumZ b l n = n) (h2 : ∀ k : Fin 10, 1 ≤ (k.val : Int) → (k.val : Int) < n → (k.val : Int) < Fix.sumZ b l k.val) : Fix.IsLeast (Fix.sumZ b l) (some n) :=
  ⟨⟨h0.1, by omega⟩, h1, below10 (P := fun w => w < Fix.sumZ b l w) h0.2 h2⟩
theorem rS_resp (g : Nat) (k : Nat) (hk : k < 3) : withR (rS g) k (mostZ (rS g) k) = [2, 4, 10].getD k 0 ∧ withH (rS g) k (mostZ (rS g) k) = 1 := by
  obtain ⟨m0, m1, m2⟩ := rS_most g
  obtain ⟨l0, l1, l2⟩ := rS_loads g
  obtain ⟨a0, a1, a2⟩ := rS_own g
  have hk' : k = 0 ∨ k = 1 ∨ k = 2 := by omega
  rcases hk' with rfl | rfl | rfl
  · rw [show ((0 : Nat) : Int) = 0 from rfl, m0]
    refine resp_first (k := 0) (L := 2) (d := 2) (by simp [rS]) (by rw [a0]; decide) (by rw [a0]; exact lst _ _ _ (by decide) (by decide) (by decide)) (by show (Fix.ceilZ 2 4).toNat = 1; decide) (by rw [l0]; show Fix.IsLeast (Fix.sumZ (1 + workZ [1]) []) (some 2); exact lst _ _ _ (by decide) (by decide) (by decide)) (by show (2 : Int) ≤ 4; decide)
  · rw [show ((1 : Nat) : Int) = 1 from rfl, m1]
    refine resp_first (k := 1) (L := 4) (d := 4) (by simp [rS]) (by rw [a1]; decide) (by rw [a1]; exact lst _ _ _ (by decide) (by decide) (by decide)) (by show (Fix.ceilZ 4 6).toNat = 1; decide) (by rw [l1]; show Fix.IsLeast (Fix.sumZ (1 + workZ [2]) [⟨4, 1⟩]) (some 4); exact lst _ _ _ (by decide) (by decide) (by decide)) (by show (4 : Int) ≤ 6; decide)
  · rw [show ((2 : Nat) : Int) = 2 from rfl, m2]
    refine resp_first (k := 2) (L := 10) (d := 10) (by simp [rS]) (by rw [a2]; decide) (by rw [a2]; exact lst _ _ _ (by decide) (by decide) (by decide)) (by show (Fix.ceilZ 10 13).toNat = 1; decide) (by rw [l2]; show Fix.IsLeast (Fix.sumZ (0 + workZ [2, 1]) [⟨4, 1⟩, ⟨6, 2⟩]) (some 10); exact lst _ _ _ (by decide) (by decide) (by decide)) (by show (10 : Int) ≤ 13; decide)
end Go.Proofs.Ytndhjfpjhpnbaaa.Lex
