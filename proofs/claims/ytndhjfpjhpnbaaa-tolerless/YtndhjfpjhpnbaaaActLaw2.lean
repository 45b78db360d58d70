/- The laws of chapter 11, over what package active answers. -/
import Derived.Test.YtndhjfpjhpnbaaaActLaw
namespace Go.Proofs.Ytndhjfpjhpnbaaa.Lex
set_option maxRecDepth 100000
open Go.ChangeShapes Go.WideShapes Go.RowKit

theorem all_sum (s : SetV) (k : Nat) (b w : Int) : Fix.sumZ b (allL s k) w = Fix.sumZ b (loadsTo s k) w + Fix.addZ w (ownL s k) := Fix.sum_snoc _ _ _ _
theorem add_low {w : Int} {x : Fix.LoadV} (hT : 1 ≤ x.T) (hC : 0 ≤ x.C) (hw : 1 ≤ w) : x.C ≤ Fix.addZ w x := by
  have h1 := Fix.ceil_mono (v := 1) hT hw
  rw [Fix.ceil_one hT] at h1
  have := Int.mul_le_mul_of_nonneg_right h1 hC
  rw [Int.one_mul] at this
  exact this
theorem act_low {s : SetV} {k : Nat} (ok : Fix.OkL (allL s k)) (b : Int) {w : Int} (hw : 1 ≤ w) : b + workZ (s.ts.getD k task0).regs ≤ Fix.sumZ b (allL s k) w := by
  have ho := ok (ownL s k) (by rw [allL]; simp)
  have h1 := add_low ho.1.1 ho.2.1 hw
  have h2 := Fix.sum_low (loadsTo s k) b w (fun x hx => ok x (List.mem_append_left _ hx)) (by omega)
  rw [all_sum]
  have : (ownL s k).C = workZ (s.ts.getD k task0).regs := rfl
  omega
theorem act_less {s : SetV} (ha : allB s = true) (hu : ∀ t ∈ s.ts, U64 t.ecb ∧ U64 t.ucb) {i b less n : Int} {r : Option Int} (h0 : 0 ≤ less ∧ less ≤ b) (hn : inI s i = true ∧ Fix.mayB b (allL s i.toNat) = true ∧ Fix.IsLeast (Fix.sumZ b (allL s i.toNat)) (some n)) (h : OfP s i (b - less) (.returned (.tuple #[.int .i64 (Fix.valO r), .bool r.isSome]))) : ∃ m, r = some m ∧ m ≤ n := by
  obtain ⟨hin, hm, hl⟩ := hn
  have hin' := hin
  simp only [inI, Bool.and_eq_true, decide_eq_true_eq] at hin'
  have hk : i.toNat < s.ts.length := by omega
  have ok := loads_ok ha hu hk
  obtain ⟨hr, h8, -, hfit⟩ := all_fits ha hu
  have hw := (task_time (hfit _ hk).is).2
  obtain ⟨hb, h64, -⟩ := Fix.may_parts hm
  have hm' : Fix.mayB (b - less) (allL s i.toNat) = true := Fix.may_of ⟨by omega, by omega⟩ h64 ok
  have hg : ∀ w, 1 ≤ w → Fix.sumZ (b - less) (allL s i.toNat) w ≤ Fix.sumZ b (allL s i.toNat) w := fun w _ => Fix.sum_mono _ _ _ w w ok (by omega) (Int.le_refl _)
  obtain ⟨m, hm2⟩ := Fix.least_some hl (fun v w hv => Fix.sum_mono _ _ _ v w ok (Int.le_refl _) hv) (by have := act_low ok (b - less) (w := 1) (by decide); omega) hg
  unfold OfP at h
  rw [if_pos hin] at h
  have e := Fix.leastP_is h (r := some m) (by rw [if_pos hm']; exact hm2)
  simp only [Ending.returned.injEq, Value.tuple.injEq, Array.mk.injEq, List.cons.injEq, Value.int.injEq, Value.bool.injEq, true_and, and_true] at e
  refine ⟨m, ?_, Fix.least_le hl hm2 hg⟩
  cases r with
  | none => simp at e
  | some q => have e1 : q = m := e.1; rw [e1]
theorem act_down {s : SetV} (ha : allB s = true) (hu : ∀ t ∈ s.ts, U64 t.ecb ∧ U64 t.ucb) {k : Nat} {n : Int} {r : Option Int} (hk : k + 1 < s.ts.length) (hn : Fix.mayB 0 (allL s (k + 1)) = true ∧ Fix.IsLeast (Fix.sumZ 0 (allL s (k + 1))) (some n)) (h : OfP s k 0 (.returned (.tuple #[.int .i64 (Fix.valO r), .bool r.isSome]))) : ∃ m, r = some m ∧ m ≤ n := by
  obtain ⟨hm, hl⟩ := hn
  have ok := loads_ok ha hu hk
  have ok0 := loads_ok ha hu (show k < s.ts.length by omega)
  obtain ⟨hr, h8, -, hfit⟩ := all_fits ha hu
  have hw := (task_time (hfit k (by omega)).is)
  have hmd := made_range hr (k : Int)
  have hm' : Fix.mayB 0 (allL s k) = true := Fix.may_of ⟨by decide, by decide⟩ (by rw [all_len]; omega) ok0
  have hg : ∀ w, 1 ≤ w → Fix.sumZ 0 (allL s k) w ≤ Fix.sumZ 0 (allL s (k + 1)) w := fun w hw1 => by
    rw [all_sum, all_sum, loads_next, Fix.sum_snoc]
    have ho := ok (ownL s (k + 1)) (by rw [allL]; simp)
    have a1 := add_low ho.1.1 ho.2.1 hw1
    have a2 : Fix.addZ w (ownL s k) ≤ Fix.addZ w (loadZ s k) := Int.mul_le_mul_of_nonneg_left (by show workZ _ ≤ workZ _ + madeZ _ _; omega) (Fix.ceil_range hw.1.1 (by omega)).1
    omega
  obtain ⟨m, hm2⟩ := Fix.least_some hl (fun v w hv => Fix.sum_mono _ _ _ v w ok0 (Int.le_refl _) hv) (by have := act_low ok0 0 (w := 1) (by decide); omega) hg
  unfold OfP at h
  rw [if_pos (in_nat (by omega))] at h
  have e := Fix.leastP_is h (r := some m) (by simp only [Int.toNat_natCast]; rw [if_pos hm']; exact hm2)
  simp only [Ending.returned.injEq, Value.tuple.injEq, Array.mk.injEq, List.cons.injEq, Value.int.injEq, Value.bool.injEq, true_and, and_true] at e
  refine ⟨m, ?_, Fix.least_le hl hm2 hg⟩
  cases r with
  | none => simp at e
  | some q => have e1 : q = m := e.1; rw [e1]
end Go.Proofs.Ytndhjfpjhpnbaaa.Lex
