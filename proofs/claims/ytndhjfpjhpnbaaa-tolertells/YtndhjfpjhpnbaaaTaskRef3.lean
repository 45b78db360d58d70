/- What the references of chapter 5 answer: two rows of numbers, two sets. -/
import Derived.Test.YtndhjfpjhpnbaaaTaskRef2
namespace Go.Proofs.Ytndhjfpjhpnbaaa.Lex
set_option maxRecDepth 100000
open Go.ChangeShapes Go.WideShapes Go.RowKit

theorem take_same {l l' : List Int} {k : Nat} (h : k < l.length) (h' : k < l'.length) (ht : l.take k = l'.take k) (he : l.getD k 0 = l'.getD k 0) : l.take (k + 1) = l'.take (k + 1) := by
  rw [List.take_add_one, List.take_add_one, ht, List.getElem?_eq_getElem h, List.getElem?_eq_getElem h']
  rw [List.getD_eq_getElem?_getD, List.getD_eq_getElem?_getD, List.getElem?_eq_getElem h, List.getElem?_eq_getElem h'] at he
  have e : l[k] = l'[k] := by simpa using he
  rw [e]
theorem beq_not {l l' : List Int} (h : l ≠ l') : (l == l') = false := beq_eq_false_iff_ne.2 h
set_option maxHeartbeats 800000 in
theorem rnums_any (ao ao' : Option Addr) (cap cap' : Nat) (l l' : List Int) (w : World) (h : RegsIn w ao l) (h' : RegsIn w ao' l') (hl : l.length ≤ 9223372036854775807) :
    Calls Try.prog 10 #[.slice ao l.length cap, .slice ao' l'.length cap'] w fun e w' => e = .returned (.bool (l == l')) ∧ Below w.heap.size w w' := by
  by_cases hne : l.length = l'.length
  · have hb : ((l.length : Int) != l'.length) = false := by rw [hne]; simp
    generalize hans : (l == l') = ans
    have HQ := hide hans
    clear hans
    have H := hide h
    have H' := hide h'
    clear h h'
    generalize hn : l.length = n at *
    generalize hn' : l'.length = n' at *
    subst hne
    go_enter Try.func10, Try.ntmps10
    go_wp2
    go_loopw [5] (fun i wr => ∃ k : Nat, k ≤ n ∧ i = .int .i64 k ∧ l.take k = l'.take k ∧ ∃ m, wr = w.drewN m) (fun i _ => n - (intOf i).toNat)
    case atStart => exact ⟨0, Nat.zero_le _, rfl, rfl, 0, rfl⟩
    case round =>
      obtain ⟨k, hk, rfl, hpre, m, rfl⟩ := hrel
      by_cases hlt : k < n
      · obtain ⟨b, off, rfl, hc⟩ := unhide H (fun e => by rw [e] at hn; simp at hn; omega)
        obtain ⟨b', off', rfl, hc'⟩ := unhide H' (fun e => by rw [e] at hn'; simp at hn'; omega)
        have c := hc k (by omega)
        have c' := hc' k (by omega)
        clear hc hc'
        by_cases he : l.getD k 0 = l'.getD k 0
        · have HP := hide (take_same (by omega) (by omega) hpre he)
          have hx : (l.getD k 0 != l'.getD k 0) = false := by rw [he]; simp
          clear hpre he hn hn'
          generalize l.getD k 0 = x at c hx
          generalize l'.getD k 0 = y at c' hx
          go_wp2
          go_quiet (fail)
          go_wp2
          go_roundw
          case rel => exact ⟨k + 1, by omega, by go_num, unhide HP, _, rfl⟩
          case measure => simp [intOf]; omega
        · have HF : Hid (ans = false) := by show ans = false; rw [← unhide HQ]; exact beq_not (fun e => he (by rw [e]))
          have hx : (l.getD k 0 != l'.getD k 0) = true := by simpa using he
          clear hpre he hn hn'
          generalize l.getD k 0 = x at c hx
          generalize l'.getD k 0 = y at c' hx
          go_wp2
          go_quiet (fail)
          go_wp2
          go_ret
          exact ⟨ret_bool (unhide HF).symm, below_drewN (below_drewN (Below.refl _ _) _) _⟩
      · have HF : Hid (ans = true) := by
          show ans = true
          rw [← unhide HQ]
          rw [List.take_of_length_le (by omega), List.take_of_length_le (by omega)] at hpre
          rw [hpre]; simp
        clear hpre hn hn'
        go_wp2
        go_ret
        exact ⟨ret_bool (unhide HF).symm, below_drewN (Below.refl _ _) _⟩
  · have hf : (l == l') = false := beq_not (fun e => hne (by rw [e]))
    have hb : ((l.length : Int) != l'.length) = true := by simp; omega
    rw [hf]
    clear hf h h'
    go_enter Try.func10, Try.ntmps10
    go_wp2
    go_ret
    exact ⟨rfl, Below.refl _ _⟩

/- two sets -/
theorem same_not {p : Nat → Bool} {n : Nat} {a b : Bool} (h : a = false ∨ b = false ∨ ∃ k, k < n ∧ p k = false) : (a && (b && (List.range n).all p)) = false := by
  rcases h with h | h | ⟨k, hk, h⟩
  · rw [h]; rfl
  · rw [h]; simp
  · rw [range_not hk h]; simp
theorem same_all {name name' : ByteArray} {T D mode Q theta T' D' mode' Q' theta' : Int} {ao ao' : Option Addr} {cap cap' : Nat} {ecb ucb ecb' ucb' : Int} {l l' : List Int} (h0 : name.toList = name'.toList) (h1 : T = T') (h2 : D = D') (h3 : mode = mode') (h4 : Q = Q') (h5 : theta = theta') (h6 : ecb = ecb') (h7 : ucb = ucb') (h8 : (!l == l') = false) :
    sameT ⟨name, T, D, mode, Q, theta, ao, cap, ecb, ucb, l⟩ ⟨name', T', D', mode', Q', theta', ao', cap', ecb', ucb', l'⟩ = true := by
  rw [ByteArray.toList_eq, ByteArray.toList_eq] at h0
  have h8' : (l == l') = true := by simpa using h8
  simp only [sameT, h0, h1, h2, h3, h4, h5, h6, h7, h8', beq_self_eq_true, Bool.and_self]
theorem same_part {name name' : ByteArray} {T D mode Q theta T' D' mode' Q' theta' : Int} {ao ao' : Option Addr} {cap cap' : Nat} {ecb ucb ecb' ucb' : Int} {l l' : List Int} (h : ¬ name.toList = name'.toList ∨ ¬ T = T' ∨ ¬ D = D' ∨ ¬ mode = mode' ∨ ¬ Q = Q' ∨ ¬ theta = theta' ∨ ¬ ecb = ecb' ∨ ¬ ucb = ucb' ∨ (!l == l') = true) :
    sameT ⟨name, T, D, mode, Q, theta, ao, cap, ecb, ucb, l⟩ ⟨name', T', D', mode', Q', theta', ao', cap', ecb', ucb', l'⟩ = false := by
  rw [ByteArray.toList_eq, ByteArray.toList_eq] at h
  rw [Bool.eq_false_iff]
  intro e
  simp only [sameT, Bool.and_eq_true, beq_iff_eq] at e
  obtain ⟨h0, h1, h2, h3, h4, h5, h6, h7, h8⟩ := e
  rcases h with h | h | h | h | h | h | h | h | h
  · exact h h0
  · exact h h1
  · exact h h2
  · exact h h3
  · exact h h4
  · exact h h5
  · exact h h6
  · exact h h7
  · simp [h8] at h
end Go.Proofs.Ytndhjfpjhpnbaaa.Lex
