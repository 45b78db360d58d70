/- The law RespKnown: three tasks by hand. -/
import Derived.Test.YtmnbnldldilniaaRespLaw
namespace Go.Proofs.Ytmnbnldldilniaa.Lex
open Go.ChangeShapes Go.WideShapes Go.RowKit

theorem resp_first {s : SetV} {k : Nat} {b L d : Int} (hk : k < s.ts.length) (hm : Fix.mayB b (allL s k) = true) (hl : Fix.IsLeast (Fix.sumZ b (allL s k)) (some L)) (hc : (Fix.ceilZ L (s.ts.getD k task0).T).toNat = 1) (hd : Fix.IsLeast (Fix.sumZ (b + workZ (s.ts.getD k task0).regs) (loadsTo s k)) (some d)) (hD : d ≤ (s.ts.getD k task0).D) : withR s k b = d ∧ withH s k b = 1 := by
  have hb : busyO s k b = some L := by
    unfold busyO
    rw [in_nat hk, Int.toNat_natCast, hm]
    exact leastO_some hl
  have hz : doneZ s k b 0 = d := by
    unfold doneZ
    rw [show b + (((0 : Nat) : Int) + 1) * workZ (s.ts.getD k task0).regs = b + workZ (s.ts.getD k task0).regs by simp, leastO_some hd]
    rfl
  have hR : withR s k b = d := by
    rw [withR, hb]
    simp only [Int.toNat_natCast]
    rw [hc, resp_next, hz]
    have h0 : respTo s k b 0 = 0 := rfl
    have h1 := hd.1
    rw [h0]
    have : ((0 : Nat) : Int) * (s.ts.getD k task0).T = 0 := by simp
    omega
  refine ⟨hR, ?_⟩
  rw [withH, hb]
  simp only [Int.toNat_natCast]
  rw [hR, if_pos hD]
def rT (g : Nat) (nm : UInt8) (T : Int) (l : List Int) : TaskV := ⟨⟨#[nm]⟩, T, T, 0, 0, 0, some ⟨g, 0, none⟩, l.length, 0, 0, l⟩
def rS (g : Nat) : SetV := ⟨0, some ⟨g + 3, 0, none⟩, 3, [rT g 97 4 [1], rT (g + 1) 98 6 [2], rT (g + 2) 99 13 [2, 1]]⟩
theorem rS_all (g : Nat) : allB (rS g) = true := by show allB (rS 0) = true; decide +kernel
theorem rT_in {w : World} {g : Nat} {nm : UInt8} {T : Int} {l : List Int} (hT : 0 ≤ T ∧ T ≤ 100) (hl : l.length ≤ 2) (hn : ∀ n ∈ l, 0 ≤ n ∧ n ≤ 100) (h : ∀ j, j < l.length → w.cell? ⟨g, j, none⟩ = some (.int .i64 (l.getD j 0))) : TaskIn w (rT g nm T l) :=
  ⟨fun _ => ⟨g, 0, rfl, fun j hj => by rw [Nat.zero_add]; exact h j hj⟩, (fun e => by cases e), by simp only [rT]; omega, by simp [rT, ByteArray.size], by simp only [I64, rT]; omega, by simp only [I64, rT]; omega, by simp [I64, rT], by simp [I64, rT], by simp [I64, rT], by simp [U64, rT], by simp [U64, rT], fun n h9 => by have := hn n h9; unfold I64; omega⟩
theorem rS_in {w : World} {g : Nat} {ty : TypeId} {fr : Nat × Nat} (h0 : w.cell? ⟨g, 0, none⟩ = some (.int .i64 1)) (h1 : w.cell? ⟨g + 1, 0, none⟩ = some (.int .i64 2)) (h2 : w.cell? ⟨g + 2, 0, none⟩ = some (.int .i64 2)) (h3 : w.cell? ⟨g + 2, 1, none⟩ = some (.int .i64 1)) (hb : w.heap[g + 3]? = some (.cells ((rS g).ts.flatMap TaskV.cells).toArray ty fr)) : SetIn w (rS g) := by
  refine ⟨by simp [I64, rS], (fun e => by cases e), by simp [rS], by simp [rS], fun _ => ⟨g + 3, 0, rfl, fun j hj i hi => ?_⟩, fun t ht => ?_⟩
  · rw [Nat.zero_add, cell_block hb, List.getElem?_toArray]
    exact task_flat _ j hj i hi
  · simp only [rS, List.mem_cons, List.not_mem_nil, or_false] at ht
    rcases ht with rfl | rfl | rfl
    · refine rT_in (by omega) (by simp) (by simp) (fun j hj => ?_)
      have : j = 0 := by simp at hj; omega
      subst this; exact h0
    · refine rT_in (by omega) (by simp) (by simp) (fun j hj => ?_)
      have : j = 0 := by simp at hj; omega
      subst this; exact h1
    · refine rT_in (by omega) (by simp) (by simp) (fun j hj => ?_)
      have : j = 0 ∨ j = 1 := by simp at hj; omega
      rcases this with rfl | rfl
      · exact h2
      · exact h3
theorem rS_most (g : Nat) : mostZ (rS g) 0 = 1 ∧ mostZ (rS g) 1 = 1 ∧ mostZ (rS g) 2 = 0 := by show mostZ (rS 0) 0 = 1 ∧ mostZ (rS 0) 1 = 1 ∧ mostZ (rS 0) 2 = 0; decide +kernel
theorem rS_loads (g : Nat) : loadsTo (rS g) 0 = [] ∧ loadsTo (rS g) 1 = [⟨4, 1⟩] ∧ loadsTo (rS g) 2 = [⟨4, 1⟩, ⟨6, 2⟩] := by
  show loadsTo (rS 0) 0 = [] ∧ loadsTo (rS 0) 1 = [⟨4, 1⟩] ∧ loadsTo (rS 0) 2 = [⟨4, 1⟩, ⟨6, 2⟩]
  exact ⟨rfl, rfl, rfl⟩
theorem rS_own (g : Nat) : allL (rS g) 0 = [⟨4, 1⟩] ∧ allL (rS g) 1 = [⟨4, 1⟩, ⟨6, 2⟩] ∧ allL (rS g) 2 = [⟨4, 1⟩, ⟨6, 2⟩, ⟨13, 3⟩] := by
  show allL (rS 0) 0 = [⟨4, 1⟩] ∧ allL (rS 0) 1 = [⟨4, 1⟩, ⟨6, 2⟩] ∧ allL (rS 0) 2 = [⟨4, 1⟩, ⟨6, 2⟩, ⟨13, 3⟩]
  exact ⟨rfl, rfl, rfl⟩
theorem below10 {n : Int} {P : Int → Prop} (hn : n ≤ 10) (h : ∀ k : Fin 10, 1 ≤ (k.val : Int) → (k.val : Int) < n → P k.val) : ∀ w : Int, 1 ≤ w → w < n → P w := fun w h1 h2 => by
  have := h ⟨w.toNat, by omega⟩ (by show (1 : Int) ≤ ((w.toNat : Nat) : Int); omega) (by show ((w.toNat : Nat) : Int) < n; omega)
  simpa [Int.toNat_of_nonneg (show 0 ≤ w by omega)] using this
theorem lst (b n : Int) (l : List Fix.LoadV) (h0 : 1 ≤ n ∧ n ≤ 10) (h1 : Fix.sumZ b l n = n) (h2 : ∀ k : Fin 10, 1 ≤ (k.val : Int) → (k.val : Int) < n → (k.val : Int) < Fix.sumZ b l k.val) : Fix.IsLeast (Fix.sumZ b l) (some n) :=
  ⟨⟨h0.1, by omega⟩, h1, below10 (P := fun w => w < Fix.sumZ b l w) h0.2 h2⟩
theorem rS_resp (g : Nat) (k : Nat) (hk : k < 3) : withR (rS g) k (mostZ (rS g) k) = [2, 4, 10].getD k 0 ∧ withH (rS g) k (mostZ (rS g) k) = 1 := by
  obtain ⟨m0, m1, m2⟩ := rS_most g
  obtain ⟨l0, l1, l2⟩ := rS_loads g
  obtain ⟨a0, a1, a2⟩ := rS_own g
  have hk' : k = 0 ∨ k = 1 ∨ k = 2 := by omega
  rcases hk' with rfl | rfl | rfl
  · rw [show ((0 : Nat) : Int) = 0 from rfl, m0]
    refine resp_first (k := 0) (L := 2) (d := 2) (by simp [rS]) (by rw [a0]; decide) (by rw [a0]; exact lst _ _ _ (by decide) (by decide) (by decide)) (by show (Fix.ceilZ 2 4).toNat = 1; decide) (by rw [l0]; show Fix.IsLeast (Fix.sumZ (1 + workZ [1]) []) (some 2); exact lst _ _ _ (by decide) (by decide) (by decide)) (by show (2 : Int) ≤ 4; decide)
  · rw [show ((1 : Nat) : Int) = 1 from rfl, m1]
    refine resp_first (k := 1) (L := 4) (d := 4) (by simp [rS]) (by rw [a1]; decide) (by rw [a1]; exact lst _ _ _ (by decide) (by decide) (by decide)) (by show (Fix.ceilZ 4 6).toNat = 1; decide) (by rw [l1]; show Fix.IsLeast (Fix.sumZ (1 + workZ [2]) [⟨4, 1⟩]) (some 4); exact lst _ _ _ (by decide) (by decide) (by decide)) (by show (4 : Int) ≤ 6; decide)
  · rw [show ((2 : Nat) : Int) = 2 from rfl, m2]
    refine resp_first (k := 2) (L := 10) (d := 10) (by simp [rS]) (by rw [a2]; decide) (by rw [a2]; exact lst _ _ _ (by decide) (by decide) (by decide)) (by show (Fix.ceilZ 10 13).toNat = 1; decide) (by rw [l2]; show Fix.IsLeast (Fix.sumZ (0 + workZ [2, 1]) [⟨4, 1⟩, ⟨6, 2⟩]) (some 10); exact lst _ _ _ (by decide) (by decide) (by decide)) (by show (10 : Int) ≤ 13; decide)
set_option maxHeartbeats 1600000 in
theorem rknown_law (hO : CROf) (i : Int) (w : World) : Calls Try.prog 7 #[.int .i64 i] w fun e w' => e = .returned (.bool true) ∧ Below w.heap.size w w' := by
  have CK := hide (fun w => zknown_any hO w)
  have C0 := hide (fun (k : Nat) (hk : k < 3) W h => hO (rS w.heap.size) k W h (rS_all _) (by unfold I64; omega))
  clear hO
  have HW : Hid (∀ W0 W1 W2 W3 W4 W5 : World, W0 = w.alloc (.cells #[.int .i64 1] 2) → W1 = W0.alloc (.cells #[.int .i64 2] 2) → W2 = W1.alloc (.cells #[.int .i64 2, .int .i64 1] 2) → W3 = W2.alloc (.cells ((rS w.heap.size).ts.flatMap TaskV.cells).toArray 36) → W4 = W3.alloc (.cells #[.int .i64 0, .slice (some ⟨w.heap.size + 1 + 1 + 1, 0, none⟩) 3 3] 24) → W5 = W4.alloc (.cells #[.int .i64 2, .int .i64 4, .int .i64 10] 2) → Below w.heap.size w W5 ∧ SetIn W5 (rS w.heap.size) ∧ W5.cell? ⟨w.heap.size + 1 + 1 + 1 + 1 + 1, 0, none⟩ = some (.int .i64 2) ∧ W5.cell? ⟨w.heap.size + 1 + 1 + 1 + 1 + 1, 1, none⟩ = some (.int .i64 4) ∧ W5.cell? ⟨w.heap.size + 1 + 1 + 1 + 1 + 1, 2, none⟩ = some (.int .i64 10)) := by
    intro W0 W1 W2 W3 W4 W5 e0 e1 e2 e3 e4 e5
    have z0 : W0.heap.size = w.heap.size + 1 := by rw [e0]; simp
    have z1 : W1.heap.size = w.heap.size + 2 := by rw [e1]; simp [z0]
    have z2 : W2.heap.size = w.heap.size + 3 := by rw [e2]; simp [z1]
    have b0 : Below w.heap.size w W0 := by rw [e0]; exact (Below.refl _ _).alloc (Nat.le_refl _) _
    have b1 : Below W0.heap.size W0 W1 := by rw [e1]; exact (Below.refl _ _).alloc (Nat.le_refl _) _
    have b2 : Below W1.heap.size W1 W2 := by rw [e2]; exact (Below.refl _ _).alloc (Nat.le_refl _) _
    have b3 : Below W2.heap.size W2 W3 := by rw [e3]; exact (Below.refl _ _).alloc (Nat.le_refl _) _
    have b4 : Below W3.heap.size W3 W4 := by rw [e4]; exact (Below.refl _ _).alloc (Nat.le_refl _) _
    have b5 : Below W4.heap.size W4 W5 := by rw [e5]; exact (Below.refl _ _).alloc (Nat.le_refl _) _
    have z3 : W3.heap.size = w.heap.size + 4 := by rw [e3]; simp [z2]
    have z4 : W4.heap.size = w.heap.size + 1 + 1 + 1 + 1 + 1 := by rw [e4]; simp [z3]
    refine ⟨below_on (below_on (below_on (below_on (below_on b0 b1) b2) b3) b4) b5, set_bel (set_bel ?_ b4) b5, by rw [e5, ← z4]; simp, by rw [e5, ← z4]; simp, by rw [e5, ← z4]; simp⟩
    have c0 : W0.cell? ⟨w.heap.size, 0, none⟩ = some (.int .i64 1) := by rw [e0]; simp
    have c1 : W1.cell? ⟨w.heap.size + 1, 0, none⟩ = some (.int .i64 2) := by rw [e1, ← z0]; simp
    have c2 : W2.cell? ⟨w.heap.size + 2, 0, none⟩ = some (.int .i64 2) := by rw [e2, ← z1]; simp
    have c3 : W2.cell? ⟨w.heap.size + 2, 1, none⟩ = some (.int .i64 1) := by rw [e2, ← z1]; simp
    refine rS_in (ty := 36) (fr := (0, 0)) (cell_bel' (cell_bel' (cell_bel' c0 b1) b2) b3) (cell_bel' (cell_bel' c1 b2) b3) (cell_bel' c2 b3) (cell_bel' c3 b3) ?_
    have := heap_alloc_new W2 (.cells ((rS w.heap.size).ts.flatMap TaskV.cells).toArray 36)
    rw [← e3, z2] at this
    exact this
  obtain ⟨b0, hin, q0, q1, q2⟩ := unhide HW _ _ _ _ _ _ rfl rfl rfl rfl rfl rfl
  have Q0 := hide q0
  have Q1 := hide q1
  have Q2 := hide q2
  have B0 := hide b0
  have HIN := hide hin
  clear b0 hin HW q0 q1 q2
  by_cases h0 : i < 0
  · go_enter Try.func7, Try.ntmps7
    go_wp2
    go_ret
    exact ⟨rfl, unhide B0⟩
  by_cases h2 : 2 < i
  · go_enter Try.func7, Try.ntmps7
    go_wp2
    go_ret
    exact ⟨rfl, unhide B0⟩
  obtain ⟨k, rfl⟩ : ∃ k : Nat, i = k := ⟨i.toNat, by omega⟩
  have hk : k < 3 := by omega
  have C1 := hide (unhide C0 k hk)
  have hr := rS_resp w.heap.size k hk
  rw [hr.1, hr.2] at C1
  clear hr C0
  have hk' : k = 0 ∨ k = 1 ∨ k = 2 := by omega
  rcases hk' with rfl | rfl | rfl
  all_goals
    simp only [List.getD_cons_zero, List.getD_cons_succ] at C1
    go_enter Try.func7, Try.ntmps7
    go_wp2_with fail
    refine (unhide C1 _ (unhide HIN)).mono ?_
    rintro e w1 ⟨rfl, bel⟩
    have B1 := hide (below_on (unhide B0) bel)
    have q0 := cell_bel' (unhide Q0) bel
    have q1 := cell_bel' (unhide Q1) bel
    have q2 := cell_bel' (unhide Q2) bel
    clear bel HIN B0 Q0 Q1 Q2
    go_wp2_with fail
    refine (unhide CK _).mono ?_
    rintro e w2 ⟨rfl, bel⟩
    have B2 := hide (below_on (unhide B1) bel)
    clear bel
    go_wp2
    go_ret
    exact ⟨rfl, unhide B2⟩
end Go.Proofs.Ytmnbnldldilniaa.Lex
