/- Chapter 9: the document's answers, and what package block must be shown to answer. -/
import Derived.Test.YtndhjfpjhpnbaaaAgainLaw
namespace Go.Proofs.Ytndhjfpjhpnbaaa.Lex
set_option maxRecDepth 100000
open Go.ChangeShapes Go.WideShapes Go.RowKit

def wholeZ (s : SetV) (l : Int) : Int := workZ (s.ts.getD l.toNat task0).regs + ownZ s l - 1
def longZ (l : List Int) : Int := l.foldl max 0
/- how long a task of such a mode stands in the way: the document's three ways -/
def wayZ (t : TaskV) (own high : Int) : Int :=
  if t.mode = 0 then longZ t.regs + own - 1 else if t.mode = 1 then min t.Q (workZ t.regs + own - 1) else if t.theta ≤ high then workZ t.regs + own - 1 else 0
def ofZ (s : SetV) (low high : Int) : Int := if 0 ≤ high ∧ high < low ∧ low < s.ts.length then wayZ (s.ts.getD low.toNat task0) (ownZ s low) high else 0
def mostTo (s : SetV) (i : Int) (k : Nat) : Int := (List.range k).foldl (fun a (l : Nat) => max a (ofZ s l i)) 0
def mostZ (s : SetV) (i : Int) : Int := mostTo s i s.ts.length
theorem long_from : ∀ (l : List Int) (a : Int), a ≤ l.foldl max a ∧ (∀ n ∈ l, n ≤ l.foldl max a)
  | [], a => ⟨by simp, fun n hn => by cases hn⟩
  | x :: l, a => by
    obtain ⟨h1, h2⟩ := long_from l (max a x)
    refine ⟨by simp only [List.foldl_cons]; omega, fun n hn => ?_⟩
    simp only [List.foldl_cons]
    rcases List.mem_cons.1 hn with rfl | hn
    · omega
    · exact h2 n hn
theorem long_work : ∀ (l : List Int) (a : Int), 0 ≤ a → (∀ n ∈ l, 1 ≤ n) → l.foldl max a ≤ l.foldl (· + ·) a
  | [], a, _, _ => by simp
  | x :: l, a, ha, h => by
    have hx := h x (List.mem_cons_self ..)
    have h1 := long_work l (a + x) (by omega) (fun n hn => h n (List.mem_cons_of_mem _ hn))
    have h2 : ∀ (l : List Int) (a b : Int), a ≤ b → l.foldl max a ≤ l.foldl max b := by
      intro l
      induction l with
      | nil => intro a b h; simpa using h
      | cons y l ih => intro a b h; simp only [List.foldl_cons]; exact ih _ _ (by omega)
    have h3 := h2 l (max a x) (a + x) (by omega)
    simp only [List.foldl_cons]
    omega
theorem range_snoc {α : Type} (f : α → Nat → α) (a : α) (k : Nat) : (List.range (k + 1)).foldl f a = f ((List.range k).foldl f a) k := by
  rw [List.range_succ, List.foldl_append]; rfl
theorem most_next (s : SetV) (i : Int) (k : Nat) : mostTo s i (k + 1) = max (mostTo s i k) (ofZ s k i) := range_snoc _ _ _
theorem most_low (s : SetV) (i : Int) : ∀ k : Nat, (k : Int) ≤ i + 1 → mostTo s i k = 0
  | 0, _ => rfl
  | k + 1, h => by
    rw [most_next, most_low s i k (by omega), ofZ, if_neg (by omega)]
    rfl
theorem most_ge (s : SetV) (i : Int) : ∀ k : Nat, 0 ≤ mostTo s i k ∧ ∀ l : Nat, l < k → ofZ s l i ≤ mostTo s i k
  | 0 => ⟨by simp [mostTo], fun l h => by omega⟩
  | k + 1 => by
    obtain ⟨h1, h2⟩ := most_ge s i k
    rw [most_next]
    refine ⟨by omega, fun l hl => ?_⟩
    rcases Nat.lt_or_ge l k with h | h
    · have := h2 l h; omega
    · have : l = k := by omega
      subst this; omega
end Go.Proofs.Ytndhjfpjhpnbaaa.Lex
