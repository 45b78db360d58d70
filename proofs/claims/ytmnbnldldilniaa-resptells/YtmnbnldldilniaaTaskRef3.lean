/- What the references of chapter 5 answer: two rows of numbers, two sets. -/
import Derived.Test.YtmnbnldldilniaaTaskRef2
namespace Go.Proofs.Ytmnbnldldilniaa.Lex
open Go.ChangeShapes Go.WideShapes Go.RowKit

theorem take_same {l l' : List Int} {k : Nat} (h : k < l.length) (h' : k < l'.length) (ht : l.take k = l'.take k) (he : l.getD k 0 = l'.getD k 0) : l.take (k + 1) = l'.take (k + 1) := by
  rw [List.take_add_one, List.take_add_one, ht, List.getElem?_eq_getElem h, List.getElem?_eq_getElem h']
  rw [List.getD_eq_getElem?_getD, List.getD_eq_getElem?_getD, List.getElem?_eq_getElem h, List.getElem?_eq_getElem h'] at he
  have e : l[k] = l'[k] := by simpa using he
  rw [e]
theorem beq_not {l l' : List Int} (h : l ≠ l') : (l == l') = false := beq_eq_false_iff_ne.2 h
/- two sets -/
theorem same_not {p : Nat → Bool} {n : Nat} {a b : Bool} (h : a = false ∨ b = false ∨ ∃ k, k < n ∧ p k = false) : (a && (b && (List.range n).all p)) = false := by
  rcases h with h | h | ⟨k, hk, h⟩
  · rw [h]; rfl
  · rw [h]; simp
  · rw [range_not hk h]; simp
theorem same_all {name name' : ByteArray} {T D mode Q theta T' D' mode' Q' theta' : Int} {ao ao' : Option Addr} {cap cap' : Nat} {ecb ucb ecb' ucb' : Int} {l l' : List Int} (h0 : name.toList = name'.toList) (h1 : T = T') (h2 : D = D') (h3 : mode = mode') (h4 : Q = Q') (h5 : theta = theta') (h6 : ecb = ecb') (h7 : ucb = ucb') (h8 : (!l == l') = false) :
    sameT ⟨name, T, D, mode, Q, theta, ao, cap, ecb, ucb, l⟩ ⟨name', T', D', mode', Q', theta', ao', cap', ecb', ucb', l'⟩ = true := by
  rw [ByteArray.toList_eq, ByteArray.toList_eq] at h0
  have h8' : (l == l') = true := by simpa using h8
  simp only [sameT, h0, h1, h2, h3, h4, h5, h6, h7, h8', beq_self_eq_true, Bool.and_self]
theorem same_part {name name' : ByteArray} {T D mode Q theta T' D' mode' Q' theta' : Int} {ao ao' : Option Addr} {cap cap' : Nat} {ecb ucb ecb' ucb' : Int} {l l' : List Int} (h : ¬ name.toList = name'.toList ∨ ¬ T = T' ∨ ¬ D = D' ∨ ¬ mode = mode' ∨ ¬ Q = Q' ∨ ¬ theta = theta' ∨ ¬ ecb = ecb' ∨ ¬ ucb = ucb' ∨ (!l == l') = true) :
    sameT ⟨name, T, D, mode, Q, theta, ao, cap, ecb, ucb, l⟩ ⟨name', T', D', mode', Q', theta', ao', cap', ecb', ucb', l'⟩ = false := by
  rw [ByteArray.toList_eq, ByteArray.toList_eq] at h
  rw [Bool.eq_false_iff]
  intro e
  simp only [sameT, Bool.and_eq_true, beq_iff_eq] at e
  obtain ⟨h0, h1, h2, h3, h4, h5, h6, h7, h8⟩ := e
  rcases h with h | h | h | h | h | h | h | h | h
  · exact h h0
  · exact h h1
  · exact h h2
  · exact h h3
  · exact h h4
  · exact h h5
  · exact h h6
  · exact h h7
  · simp [h8] at h
end Go.Proofs.Ytmnbnldldilniaa.Lex
