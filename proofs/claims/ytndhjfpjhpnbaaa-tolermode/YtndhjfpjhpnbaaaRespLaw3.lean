/- The laws of chapter 12, over what package resp answers: no less than its work and the blocking. -/
import Derived.Test.YtndhjfpjhpnbaaaRespLaw2
namespace Go.Proofs.Ytndhjfpjhpnbaaa.Lex
set_option maxRecDepth 100000
open Go.ChangeShapes Go.WideShapes Go.RowKit

theorem with_work {s : SetV} (ha : allB s = true) (hu : ∀ t ∈ s.ts, U64 t.ecb ∧ U64 t.ucb) {k : Nat} (hk : k < s.ts.length) {b L : Int} (h : busyO s k b = some L) : (0 ≤ b ∧ b ≤ 1000000) ∧ b + workZ (s.ts.getD k task0).regs ≤ withR s k b ∧ withR s k b ≤ L ∧ withH s k b = if withR s k b ≤ (s.ts.getD k task0).D then 1 else 2 := by
  obtain ⟨hm, hl⟩ := busy_parts ha hu hk h
  obtain ⟨hb, -, -⟩ := Fix.may_parts hm
  obtain ⟨hr, h8, -, hfit⟩ := all_fits ha hu
  have htt := task_time (hfit k hk).is
  have hL := hl.1
  have eR : withR s k b = respTo s k b (Fix.ceilZ L (s.ts.getD k task0).T).toNat := by rw [withR, h]; rfl
  have eH : withH s k b = if withR s k b ≤ (s.ts.getD k task0).D then 1 else 2 := by rw [withH, h]; rfl
  refine ⟨hb, ?_, ?_, eH⟩
  · have h0 : ((0 : Nat) : Int) * (s.ts.getD k task0).T < L := by simp; omega
    have hc := (ceil_iff (q := 0) (M := L) htt.1.1).2 h0
    have d := (done_is ha hu hk h (q := 0) h0).2.2.2
    have g := (resp_ge s k b (Fix.ceilZ L (s.ts.getD k task0).T).toNat).2 0 (by omega)
    rw [eR]
    simp only [Int.natCast_zero, Int.zero_mul, Int.zero_add, Int.one_mul, Int.sub_zero] at d g
    omega
  · rw [eR]
    refine resp_le (by omega) _ (fun q hq => ?_)
    have hq' : (q : Int) * (s.ts.getD k task0).T < L := (ceil_iff htt.1.1).1 (by omega)
    have d := (done_is ha hu hk h hq').2.2.1
    have : 0 ≤ (q : Int) * (s.ts.getD k task0).T := Int.mul_nonneg (by omega) (by omega)
    omega
end Go.Proofs.Ytndhjfpjhpnbaaa.Lex
