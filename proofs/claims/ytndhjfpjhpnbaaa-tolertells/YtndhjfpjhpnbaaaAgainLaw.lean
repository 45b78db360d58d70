/- The laws of chapter 8, over what package again answers. -/
import Derived.Test.YtndhjfpjhpnbaaaAgainRef
import Derived.Test.YtndhjfpjhpnbaaaParsePure3
namespace Go.Proofs.Ytndhjfpjhpnbaaa.Lex
set_option maxRecDepth 100000
open Go.ChangeShapes Go.WideShapes Go.RowKit

/- what package again must be shown to answer -/
def CMade : Prop := ∀ (s : SetV) (i : Int) (w : World), SetIn w s → allB s = true → I64 i → Calls Try.prog 77 #[s.val, .int .i64 i] w fun e w' => e = .returned (.int .i64 (madeZ s i)) ∧ Below w.heap.size w w'
def costRe (s : SetV) (i : Int) : Nat := if inI s i then Cost.ofRe (workZ (s.ts.getD i.toNat task0).regs) (madeZ s i) else 0
def costIm (s : SetV) (i : Int) : Nat := if inI s i then Cost.ofIm (workZ (s.ts.getD i.toNat task0).regs) (madeZ s i) else 0
def CCost : Prop := ∀ (s : SetV) (i : Int) (w : World), SetIn w s → allB s = true → I64 i → Calls Try.prog 70 #[s.val, .int .i64 i] w fun e w' => e = .returned (.tuple #[.complex .f64 (costRe s i) (costIm s i), .bool (inI s i)]) ∧ Below w.heap.size w w'
/- the law's own set -/
def kT (g : Nat) (nm : UInt8) (e u : Int) : TaskV := ⟨⟨#[nm]⟩, 9, 9, 0, 0, 0, some ⟨g, 0, none⟩, 1, e, u, [1]⟩
def kS (g : Nat) : SetV := ⟨2, some ⟨g + 1, 0, none⟩, 3, [kT g 97 14 0, kT g 98 4 4, kT g 99 24 24]⟩
theorem kS_all (g : Nat) : allB (kS g) = true := by show allB (kS 0) = true; decide +kernel
theorem kS_is (g : Nat) : madeZ (kS g) 0 = 4 ∧ ownZ (kS g) 2 = 4 ∧ madeZ (kS g) 2 = 0 := by show madeZ (kS 0) 0 = 4 ∧ ownZ (kS 0) 2 = 4 ∧ madeZ (kS 0) 2 = 0; decide +kernel
theorem kT_in {w : World} {g : Nat} (h : w.cell? ⟨g, 0, none⟩ = some (.int .i64 1)) (nm : UInt8) {e u : Int} (he : U64 e) (hu : U64 u) : TaskIn w (kT g nm e u) :=
  ⟨fun _ => ⟨g, 0, rfl, fun j hj => by
      have : j = 0 := by simp [kT] at hj; omega
      subst this; exact h⟩, (fun e => by cases e), by simp [kT], by simp [kT, ByteArray.size], by simp [I64, kT], by simp [I64, kT], by simp [I64, kT], by simp [I64, kT], by simp [I64, kT], he, hu, fun n hn => by
      have : n = 1 := by simpa [kT] using hn
      subst this; simp [I64]⟩
theorem kS_in {w : World} {g : Nat} {ty : TypeId} {fr : Nat × Nat} (h : w.cell? ⟨g, 0, none⟩ = some (.int .i64 1)) (hb : w.heap[g + 1]? = some (.cells ((kS g).ts.flatMap TaskV.cells).toArray ty fr)) : SetIn w (kS g) := by
  refine ⟨by simp [I64, kS], (fun e => by cases e), by simp [kS], by simp [kS], fun _ => ⟨g + 1, 0, rfl, fun j hj i hi => ?_⟩, fun t ht => ?_⟩
  · rw [Nat.zero_add, cell_block hb, List.getElem?_toArray]
    exact task_flat _ j hj i hi
  · simp only [kS, List.mem_cons, List.not_mem_nil, or_false] at ht
    rcases ht with rfl | rfl | rfl
    · exact kT_in h 97 (by simp [U64]) (by simp [U64])
    · exact kT_in h 98 (by simp [U64]) (by simp [U64])
    · exact kT_in h 99 (by simp [U64]) (by simp [U64])
theorem rwork8_any (s : SetV) (k : Nat) (w : World) (hs : SetIn w s) (hk : k < s.ts.length) (hr : regsB (s.ts.getD k task0).regs = true) : Calls Try.prog 22 #[s.val, .int .i64 k] w fun e w' => e = .returned (.int .i64 (workZ (s.ts.getD k task0).regs)) ∧ Below w.heap.size w w' := by
  have hlen := hs.len
  obtain ⟨b, off, hao, ht⟩ := set_task hs (fun e => by rw [e] at hk; simp at hk)
  obtain ⟨hrow, hin⟩ := ht k hk
  have B0 := hide ((Below.refl w.heap.size w).alloc (Nat.le_refl _) (.cells #[.int .i64 s.reload, .slice s.ao s.ts.length s.cap] 24))
  have CW := hide (fun w h => rwork_any (s.ts.getD k task0) w h hr)
  have HR := hide hin.regs
  obtain ⟨t0, t1, t2, t3, t4, t5, t6, t7, t8⟩ := hrow.bel (unhide B0)
  obtain ⟨rl, ao, cap, ts⟩ := s
  simp only at hao hk hlen hr CW HR t0 t1 t2 t3 t4 t5 t6 t7 t8 B0
  subst hao
  clear hs ht hrow hin
  generalize ts.getD k task0 = t at *
  obtain ⟨name, T, D, mode, Q, theta, ao, tcap, ecb, ucb, l⟩ := t
  simp only at t0 t1 t2 t3 t4 t5 t6 t7 t8
  go_enter Try.func22, Try.ntmps22
  rw [SetV.val]
  simp only
  go_wp2_with fail
  refine (unhide CW _ (regs_bel (unhide HR) (unhide B0))).mono ?_
  rintro e w1 ⟨rfl, bel⟩
  have B1 := hide (below_on (unhide B0) bel)
  clear bel
  go_wp2
  go_ret
  exact ⟨rfl, unhide B1⟩
theorem is_regs8 {t : TaskV} {p : Int} (h : isB t p = true) : regsB t.regs = true := by
  simp only [isB, Bool.and_eq_true] at h
  simp only [regsB, Bool.and_eq_true]
  exact ⟨h.2.2.1, h.2.2.2.2.1⟩
theorem refl_zero : (FloatKind.f64.format.order 0 0 == some .eq) = true := Cost.order_refl Cost.rep_zero
theorem made_range {s : SetV} (hr : 0 ≤ s.reload ∧ s.reload ≤ 10000) (i : Int) : 0 ≤ madeZ s i ∧ madeZ s i ≤ 640000 := by
  rw [madeZ]
  split
  · have hc := pc_le64 (belN s.ts i.toNat s.ts.length &&& (s.ts.getD i.toNat task0).ecb.toNat)
    generalize popN (belN s.ts i.toNat s.ts.length &&& (s.ts.getD i.toNat task0).ecb.toNat) = c at *
    have h1 := Int.mul_nonneg hr.1 (show (0 : Int) ≤ (c : Nat) by omega)
    have h2 := Int.mul_le_mul hr.2 (show ((c : Nat) : Int) ≤ 64 by omega) (by omega) (by decide)
    omega
  · omega
theorem own_range {s : SetV} (hr : 0 ≤ s.reload ∧ s.reload ≤ 10000) (i : Int) : 0 ≤ ownZ s i ∧ ownZ s i ≤ 640000 := by
  rw [ownZ]
  split
  · have hc := pc_le64 (s.ts.getD i.toNat task0).ucb.toNat
    generalize popN (s.ts.getD i.toNat task0).ucb.toNat = c at *
    have h1 := Int.mul_nonneg hr.1 (show (0 : Int) ≤ (c : Nat) by omega)
    have h2 := Int.mul_le_mul hr.2 (show ((c : Nat) : Int) ≤ 64 by omega) (by omega) (by decide)
    omega
  · omega
theorem work_range {l : List Int} (h : regsB l = true) : 0 ≤ workZ l ∧ workZ l ≤ 80000 := by
  obtain ⟨h8, he⟩ := regs_each h
  have := work_bound l he
  omega
end Go.Proofs.Ytndhjfpjhpnbaaa.Lex
