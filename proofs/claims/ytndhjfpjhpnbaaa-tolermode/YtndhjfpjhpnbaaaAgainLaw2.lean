/- The law of chapter 8 of how much is loaded at most, over what package again answers. -/
import Derived.Test.YtndhjfpjhpnbaaaAgainLaw
namespace Go.Proofs.Ytndhjfpjhpnbaaa.Lex
set_option maxRecDepth 100000
open Go.ChangeShapes Go.WideShapes Go.RowKit

theorem pc_and : ∀ k x y, Bits.pc k (x &&& y) ≤ Bits.pc k y
  | 0, _, _ => Nat.le_refl _
  | k + 1, x, y => by
    have ih := pc_and k (x / 2) (y / 2)
    have h1 : (x &&& y) % 2 ≤ y % 2 := by
      have := Nat.and_mod_two_pow (a := x) (b := y) (n := 1)
      simp only [Nat.pow_one] at this
      rw [this]; exact Nat.and_le_right
    have h2 : (x &&& y) / 2 = x / 2 &&& y / 2 := by
      have := Nat.shiftRight_and_distrib (a := x) (b := y) (i := 1)
      simpa [Nat.shiftRight_eq_div_pow] using this
    simp only [Bits.pc]
    rw [h2]
    omega
theorem pop_and (x y : Nat) : popN (x &&& y) ≤ popN y := by rw [popN, popN, Bits.len_bl, Bits.len_bl]; exact pc_and 64 x y
theorem pop_or (x y : Nat) : popN x ≤ popN (x ||| y) := by
  rw [popN, popN, Bits.len_bl, Bits.len_bl]
  have h1 := Bits.pc_parts 64 x y
  have h2 := pc_and 64 x y
  omega
theorem pop_zero : popN 0 = 0 := by rw [popN, Bits.len_bl]; exact Bits.pc_zero 64
theorem made_last {s : SetV} (h : s.ts ≠ []) : madeZ s ((s.ts.length : Int) - 1) = 0 := by
  have hp := List.length_pos_iff.2 h
  rw [madeZ]
  split
  · have e : ((s.ts.length : Int) - 1).toNat + 1 = s.ts.length := by omega
    rw [belN, e, List.drop_eq_nil_of_le (by simp)]
    simp [pop_zero]
  · rfl
theorem made_le {s : SetV} {k : Nat} (hr : 0 ≤ s.reload) (hk : k < s.ts.length) : madeZ s k ≤ s.reload * (popN (s.ts.getD k task0).ecb.toNat : Nat) := by
  rw [madeZ, in_nat hk]
  simp only [if_true, Int.toNat_natCast]
  refine Int.mul_le_mul_of_nonneg_left ?_ hr
  have := pop_and (belN s.ts k s.ts.length) (s.ts.getD k task0).ecb.toNat
  omega
end Go.Proofs.Ytndhjfpjhpnbaaa.Lex
