/- Chapter 13: the document's answers, and what package admit must be shown to answer. -/
import Derived.Test.YtndhjfpjhpnbaaaRespRef
import Derived.Test.YtndhjfpjhpnbaaaBlockSpec
namespace Go.Proofs.Ytndhjfpjhpnbaaa.Lex
set_option maxRecDepth 100000
open Go.ChangeShapes Go.WideShapes Go.RowKit

structure VerdV where
  how : Int
  task : Int
  ao : Option Addr
  cap : Nat
  r : List Int
def VerdV.val (v : VerdV) : Value := .agg #[.int .i64 v.how, .int .i64 v.task, .slice v.ao v.r.length v.cap]
structure VerdIn (w : World) (v : VerdV) : Prop where
  regs : RegsIn w v.ao v.r
  nil : v.ao = none → v.r = [] ∧ v.cap = 0
  len : v.r.length ≤ 17592186043904
  how : I64 v.how
  task : I64 v.task
  each : ∀ n ∈ v.r, I64 n
theorem verd_bel {w w' : World} {v : VerdV} (h : VerdIn w v) (hb : Below w.heap.size w w') : VerdIn w' v := { h with regs := regs_bel h.regs hb }
/- task by task -/
noncomputable def rAt (s : SetV) (k : Nat) : Int := withR s k (mostZ s k)
noncomputable def hAt (s : SetV) (k : Nat) : Int := withH s k (mostZ s k)
noncomputable def badTo (s : SetV) : Nat → Option Nat
  | 0 => none
  | n + 1 => match badTo s n with
    | some j => some j
    | none => if hAt s n = 1 then none else some n
noncomputable def judgeH (s : SetV) : Int := match badTo s s.ts.length with
  | none => 1
  | some j => hAt s j
noncomputable def judgeT (s : SetV) : Int := match badTo s s.ts.length with
  | none => 0
  | some j => (j : Int)
noncomputable def judgeR (s : SetV) : List Int := match badTo s s.ts.length with
  | none => (List.range s.ts.length).map (rAt s)
  | some _ => []
theorem bad_none {s : SetV} : ∀ {n : Nat}, badTo s n = none ↔ ∀ k, k < n → hAt s k = 1
  | 0 => ⟨fun _ k h => absurd h (by omega), fun _ => rfl⟩
  | n + 1 => by
    rw [badTo]
    constructor
    · intro h k hk
      cases hb : badTo s n with
      | some j => rw [hb] at h; cases h
      | none =>
        rw [hb] at h
        have h1 : hAt s n = 1 := by
          by_cases c : hAt s n = 1
          · exact c
          · simp only [if_neg c] at h; cases h
        rcases Nat.lt_or_ge k n with l | l
        · exact bad_none.1 hb k l
        · have : k = n := by omega
          subst this; exact h1
    · intro h
      rw [bad_none.2 (fun k hk => h k (by omega))]
      simp only [if_pos (h n (by omega))]
theorem bad_stays {s : SetV} {j : Nat} : ∀ {n m : Nat}, badTo s n = some j → n ≤ m → badTo s m = some j
  | n, 0, h, hm => by
    have : n = 0 := by omega
    subst this; exact h
  | n, m + 1, h, hm => by
    rcases Nat.lt_or_ge m n with l | l
    · have : n = m + 1 := by omega
      subst this; exact h
    · rw [badTo, bad_stays h l]
theorem bad_some {s : SetV} {j : Nat} : ∀ {n : Nat}, badTo s n = some j → j < n ∧ hAt s j ≠ 1
  | 0, h => by cases h
  | n + 1, h => by
    rw [badTo] at h
    cases hb : badTo s n with
    | some i =>
      rw [hb] at h
      have : i = j := by simpa using h
      subst this
      have := bad_some hb
      exact ⟨by omega, this.2⟩
    | none =>
      rw [hb] at h
      simp only at h
      by_cases c : hAt s n = 1
      · rw [if_pos c] at h; cases h
      · rw [if_neg c] at h
        have : n = j := by simpa using h
        subst this
        exact ⟨by omega, c⟩
theorem bad_first {s : SetV} {n : Nat} (h : badTo s n = none) (hn : hAt s n ≠ 1) (hl : n < s.ts.length) : badTo s s.ts.length = some n := by
  refine bad_stays (n := n + 1) ?_ (by omega)
  rw [badTo, h]
  simp only [if_neg hn]
theorem judge_bad {s : SetV} {j : Nat} (h : badTo s s.ts.length = some j) : judgeH s = hAt s j ∧ judgeT s = j ∧ judgeR s = [] := by
  unfold judgeH judgeT judgeR
  rw [h]
  exact ⟨rfl, rfl, rfl⟩
theorem judge_ok {s : SetV} (h : badTo s s.ts.length = none) : judgeH s = 1 ∧ judgeT s = 0 ∧ judgeR s = (List.range s.ts.length).map (rAt s) := by
  unfold judgeH judgeT judgeR
  rw [h]
  exact ⟨rfl, rfl, rfl⟩
def sameV (a b : VerdV) : Bool := (a.how == b.how) && ((a.task == b.task) && (a.r == b.r))
end Go.Proofs.Ytndhjfpjhpnbaaa.Lex
