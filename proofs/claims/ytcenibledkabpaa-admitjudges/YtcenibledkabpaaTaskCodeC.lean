/- What Same of package task answers. -/
import Derived.Test.YtcenibledkabpaaTaskRef3
import Derived.Test.YtcenibledkabpaaTaskKnown
namespace Go.Proofs.Ytcenibledkabpaa.Lex
set_option maxRecDepth 100000
open Go.ChangeShapes Go.WideShapes Go.RowKit

set_option maxHeartbeats 800000 in
theorem equal_any (ao ao' : Option Addr) (cap cap' : Nat) (l l' : List Int) (w : World) (h : RegsIn w ao l) (h' : RegsIn w ao' l') (hl : l.length ≤ 9223372036854775807) :
    Calls Try.prog 21 #[.slice ao l.length cap, .slice ao' l'.length cap'] w fun e w' => e = .returned (.bool (l == l')) ∧ Below w.heap.size w w' := by
  by_cases hne : l.length = l'.length
  · have hb : ((l.length : Int) != l'.length) = false := by rw [hne]; simp
    generalize hans : (l == l') = ans
    have HQ := hide hans
    clear hans
    have H := hide h
    have H' := hide h'
    clear h h'
    generalize hn : l.length = n at *
    generalize hn' : l'.length = n' at *
    subst hne
    go_enter Try.func21, Try.ntmps21
    go_wp2
    go_loopw [13] (fun i wr => ∃ k : Nat, k ≤ n ∧ i = .int .i64 k ∧ l.take k = l'.take k ∧ ∃ m, wr = w.drewN m) (fun i _ => n - (intOf i).toNat)
    case atStart => exact ⟨0, Nat.zero_le _, rfl, rfl, 0, rfl⟩
    case round =>
      obtain ⟨k, hk, rfl, hpre, m, rfl⟩ := hrel
      by_cases hlt : k < n
      · obtain ⟨b, off, rfl, hc⟩ := unhide H (fun e => by rw [e] at hn; simp at hn; omega)
        obtain ⟨b', off', rfl, hc'⟩ := unhide H' (fun e => by rw [e] at hn'; simp at hn'; omega)
        have c := hc k (by omega)
        have c' := hc' k (by omega)
        clear hc hc'
        by_cases he : l.getD k 0 = l'.getD k 0
        · have HP := hide (take_same (by omega) (by omega) hpre he)
          have hx : (l.getD k 0 != l'.getD k 0) = false := by rw [he]; simp
          clear hpre he hn hn'
          generalize l.getD k 0 = x at c hx
          generalize l'.getD k 0 = y at c' hx
          go_wp2
          go_quiet (fail)
          go_wp2
          go_roundw
          case rel => exact ⟨k + 1, by omega, by go_num, unhide HP, _, rfl⟩
          case measure => simp [intOf]; omega
        · have HF : Hid (ans = false) := by show ans = false; rw [← unhide HQ]; exact beq_not (fun e => he (by rw [e]))
          have hx : (l.getD k 0 != l'.getD k 0) = true := by simpa using he
          clear hpre he hn hn'
          generalize l.getD k 0 = x at c hx
          generalize l'.getD k 0 = y at c' hx
          go_wp2
          go_quiet (fail)
          go_wp2
          go_ret
          exact ⟨ret_bool (unhide HF).symm, below_drewN (below_drewN (Below.refl _ _) _) _⟩
      · have HF : Hid (ans = true) := by
          show ans = true
          rw [← unhide HQ]
          rw [List.take_of_length_le (by omega), List.take_of_length_le (by omega)] at hpre
          rw [hpre]; simp
        clear hpre hn hn'
        go_wp2
        go_ret
        exact ⟨ret_bool (unhide HF).symm, below_drewN (Below.refl _ _) _⟩
  · have hf : (l == l') = false := beq_not (fun e => hne (by rw [e]))
    have hb : ((l.length : Int) != l'.length) = true := by simp; omega
    rw [hf]
    clear hf h h'
    go_enter Try.func21, Try.ntmps21
    go_wp2
    go_ret
    exact ⟨rfl, Below.refl _ _⟩

/- two tasks -/
theorem same_order (t t' : TaskV) : sameT t t' = ((t.name.toList == t'.name.toList) && ((t.T == t'.T) && ((t.D == t'.D) && ((t.mode == t'.mode) && ((t.Q == t'.Q) && ((t.theta == t'.theta) && ((t.regs == t'.regs) && ((t.ecb == t'.ecb) && (t.ucb == t'.ucb))))))))) := by
  rw [sameT, ByteArray.toList_eq, ByteArray.toList_eq]
  cases (t.regs == t'.regs) <;> cases (t.ecb == t'.ecb) <;> cases (t.ucb == t'.ucb) <;> rfl
/- two rows of tasks -/
end Go.Proofs.Ytcenibledkabpaa.Lex
