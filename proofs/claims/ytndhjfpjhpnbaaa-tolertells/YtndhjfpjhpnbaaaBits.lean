/- What the functions of package bits that make no memory answer, and those of its reference: for all numbers; each leaves the world as it was. Of Least: where the library's table lies as its initialiser lays it. -/
import Derived.Test.YtndhjfpjhpnbaaaChecked
import Derived.Test.YtndhjfpjhpnbaaaBitsMath
import Derived.WalkKit
import Derived.Laws.Bits64b
namespace Go.Proofs.Ytndhjfpjhpnbaaa.Bits
set_option maxRecDepth 100000
open Go.ChangeShapes Go.WideShapes Go.RowKit

theorem hide {p : Prop} (h : p) : Hid p := h
theorem unhide {p : Prop} (h : Hid p) : p := h.out
theorem ret_bool {a b : Bool} (h : a = b) : Ending.returned (.bool a) = .returned (.bool b) := by rw [h]
theorem ret_int {k : IntKind} {a b : Int} (h : a = b) : Ending.returned (.int k a) = .returned (.int k b) := by rw [h]
theorem ret_ib {a c : Int} {b d : Bool} (h : a = c) (g : b = d) : Ending.returned (.tuple #[.int .i64 a, .bool b]) = .returned (.tuple #[.int .i64 c, .bool d]) := by rw [h, g]

theorem and_bit (n : Nat) : (n &&& 1 == 1) = n.testBit 0 := by
  rw [Nat.testBit_zero, Nat.and_one_is_mod]
  rcases Nat.mod_two_eq_zero_or_one n with h | h <;> simp [h]
theorem has_bit (x : Int) (x0 : 0 ≤ x) (hx : x < 18446744073709551616) (i : Int) (h0 : 0 ≤ i) (h1 : i < 64) : (bits BinOp.and IntKind.u64 (x / 2 ^ i.toNat) 1 == 1) = hasB x.toNat i := by
  obtain ⟨x, rfl⟩ := Int.eq_ofNat_of_zero_le x0
  rw [Int.toNat_natCast]
  have e : (x : Int) / 2 ^ i.toNat = ((x / 2 ^ i.toNat : Nat) : Int) := by simp
  have hl : x / 2 ^ i.toNat < 18446744073709551616 := Nat.lt_of_le_of_lt (Nat.div_le_self _ _) (by omega)
  have e2 := bits_and_u64_nat (x / 2 ^ i.toNat) 1 hl (by decide)
  rw [e, show (1 : Int) = ((1 : Nat) : Int) from rfl, e2, hasB, isB_yes h0 h1, Bool.true_and]
  have e3 : x.testBit i.toNat = (x / 2 ^ i.toNat).testBit 0 := by rw [Nat.testBit_div_two_pow, Nat.zero_add]
  rw [e3, ← and_bit, Bool.eq_iff_iff]
  simp
  omega
theorem has_no (n : Nat) {i : Int} (h : isB i = false) : hasB n i = false := by simp [hasB, h]

theorem rhas_any (x i : Int) (w : World) (x0 : 0 ≤ x) (hx : x < 18446744073709551616) : Calls Try.prog 64 #[.int .u64 x, .int .i64 i] w fun e w' => e = .returned (.bool (hasB x.toNat i)) ∧ w' = w := by
  by_cases h0 : 0 ≤ i
  · by_cases h1 : i < 64
    · have H := has_bit x x0 hx i h0 h1
      have HH : Hid ((bits BinOp.and IntKind.u64 (x / 2 ^ i.toNat) 1 == 1) = hasB x.toNat i) := H
      clear H
      go_enter Try.func64, Try.ntmps64
      go_wp2
      go_ret
      exact ⟨ret_bool HH.out, rfl⟩
    · go_enter Try.func64, Try.ntmps64
      go_wp2
      go_ret
      exact ⟨ret_bool (has_no _ (isB_no (by omega))).symm, rfl⟩
  · go_enter Try.func64, Try.ntmps64
    go_wp2
    go_ret
    exact ⟨ret_bool (has_no _ (isB_no (by omega))).symm, rfl⟩

set_option linter.unusedVariables false in
set_option maxHeartbeats 400000 in
theorem ones_core (x a b c d g y : Int) (hx0 : 0 ≤ x) (hx : x ≤ 18446744073709551615)
    (k1 : bits .and .u64 (x / 2) 6148914691236517205 = a) (k2 : bits .and .u64 x 6148914691236517205 = b) (a0 : 0 ≤ a) (b0 : 0 ≤ b) (ab : a + b ≤ 18446744073709551615)
    (k3 : bits .and .u64 ((a + b) / 4) 3689348814741910323 = c) (k4 : bits .and .u64 (a + b) 3689348814741910323 = d) (c0 : 0 ≤ c) (d0 : 0 ≤ d) (cd : c + d ≤ 9223372036854775807)
    (k5 : bits .and .u64 ((c + d) / 16 + (c + d)) 1085102592571150095 = g) (g0 : 0 ≤ g) (g1 : g + g / 256 ≤ 18446744073709551615)
    (g2 : g + g / 256 + (g + g / 256) / 65536 ≤ 18446744073709551615) (g3 : g + g / 256 + (g + g / 256) / 65536 + (g + g / 256 + (g + g / 256) / 65536) / 4294967296 ≤ 9223372036854775807)
    (k6 : bits .and .i64 (g + g / 256 + (g + g / 256) / 65536 + (g + g / 256 + (g + g / 256) / 65536) / 4294967296) 127 = y) (w : World) :
    Calls Try.prog 88 #[.int .u64 x] w fun e w' => e = .returned (.int .i64 y) ∧ w' = w := by
  go_enter Try.func88, Try.ntmps88
  go_wp2
  go_ret
  exact ⟨rfl, rfl⟩
theorem and127 (n : Nat) (h : n < 9223372036854775808) : bits .and .i64 (n : Int) 127 = ((n % 128 : Nat) : Int) := by
  have h1 : (BitVec.ofInt 64 (n : Int)).toNat = n := by
    rw [BitVec.ofInt_natCast, BitVec.toNat_ofNat]; exact Nat.mod_eq_of_lt (by omega)
  have h2 : (BitVec.ofInt 64 (127 : Int)).toNat = 127 := by decide
  have h3 : n &&& 127 = n % 128 := Nat.and_two_pow_sub_one_eq_mod n 7
  show IntKind.i64.wrap ((BitVec.ofInt 64 (n : Int) &&& BitVec.ofInt 64 (127 : Int)).toNat : Int) = _
  rw [BitVec.toNat_and, h1, h2, h3]
  simp only [IntKind.wrap, IntKind.signed, IntKind.bits]
  simp
  omega
theorem ones_any (x : Int) (w : World) (x0 : 0 ≤ x) (hx : x < 18446744073709551616) : Calls Try.prog 88 #[.int .u64 x] w fun e w' => e = .returned (.int .i64 (pc 64 x.toNat : Nat)) ∧ w' = w := by
  obtain ⟨x, rfl⟩ := Int.eq_ofNat_of_zero_le x0
  have hx' : x < 18446744073709551616 := by omega
  rw [Int.toNat_natCast]
  obtain ⟨l1, l2, _⟩ := o_all x hx'
  obtain ⟨z1, z2, z3, hr⟩ := ones x _ _ _ hx' rfl rfl rfl
  have q1 := bits_and_u64_nat (x / 2) 6148914691236517205 (by omega) (by decide)
  have q2 := bits_and_u64_nat x 6148914691236517205 hx' (by decide)
  have q3 := bits_and_u64_nat (o1 x / 4) 3689348814741910323 (by omega) (by decide)
  have q4 := bits_and_u64_nat (o1 x) 3689348814741910323 l1 (by decide)
  have q5 := bits_and_u64_nat (o2 (o1 x) / 16 + o2 (o1 x)) 1085102592571150095 (by omega) (by decide)
  have e1 : ((x / 2 &&& 6148914691236517205 : Nat) : Int) + ((x &&& 6148914691236517205 : Nat) : Int) = ((o1 x : Nat) : Int) := by rw [o1]; omega
  have e2 : ((o1 x / 4 &&& 3689348814741910323 : Nat) : Int) + ((o1 x &&& 3689348814741910323 : Nat) : Int) = ((o2 (o1 x) : Nat) : Int) := by rw [o2]; omega
  have hg : o3 (o2 (o1 x)) = (o2 (o1 x) / 16 + o2 (o1 x)) &&& 1085102592571150095 := rfl
  have hp : pc 64 x ≤ 64 := pc_le 64 x
  generalize o3 (o2 (o1 x)) = g at *
  generalize o2 (o1 x) = y2 at *
  generalize o1 x = y1 at *
  generalize x / 2 &&& 6148914691236517205 = a at *
  generalize x &&& 6148914691236517205 = b at *
  generalize y1 / 4 &&& 3689348814741910323 = c at *
  generalize y1 &&& 3689348814741910323 = d at *
  subst hg
  generalize (y2 / 16 + y2) &&& 1085102592571150095 = g at *
  refine ones_core x a b c d g (pc 64 x : Nat) (by omega) (by omega) (by simpa using q1) (by simpa using q2) (by omega) (by omega) (by omega) (by rw [e1]; simpa using q3) (by rw [e1]; simpa using q4)
    (by omega) (by omega) (by omega) (by rw [e2]; simpa using q5) (by omega) (by omega) (by omega) (by omega) ?_ w
  have := and127 _ z3
  rw [hr] at this
  simpa using this

theorem cnt_any (x : Int) (w : World) (x0 : 0 ≤ x) (hx : x < 18446744073709551616) : Calls Try.prog 87 #[.int .u64 x] w fun e w' => e = .returned (.int .i64 (pc 64 x.toNat : Nat)) ∧ w' = w := by
  go_enter Try.func87, Try.ntmps87
  go_wp2_with (go_at_call 88; refine (ones_any _ _ x0 hx).mono ?_; rintro e w' ⟨rfl, rfl⟩)
  go_ret
  exact ⟨rfl, rfl⟩

/-- The library's table lies where its initialiser lays it. -/
theorem tz_key (x a : Nat) (hx : x < 18446744073709551616) (hx0 : x ≠ 0) (hlow : x &&& (18446744073709551616 - x) = a) :
    IntKind.u64.wrap (bits BinOp.and IntKind.u64 (x : Int) (IntKind.u64.wrap (-(x : Int))) * 285870213051353865) / 288230376151711744 = ((a * 285870213051353865 % 18446744073709551616 / 288230376151711744 : Nat) : Int) := by
  have e1 : IntKind.u64.wrap (-(x : Int)) = ((18446744073709551616 - x : Nat) : Int) := by rw [IntKind.wrap_u64]; omega
  rw [e1, bits_and_u64_nat x _ hx (by omega), hlow, IntKind.wrap_u64]
  omega
def leastV (x : Int) : Int := if x = 0 then 0 else (Lib.ctz 64 x.toNat : Nat)
/- rows of numbers -/
def Row (w : World) (v : Value) (zs : List Int) : Prop := ∃ ao cap, v = .slice ao zs.length cap ∧ (zs ≠ [] → ∃ b off, ao = some ⟨b, off, none⟩ ∧ ∀ j, j < zs.length → w.cell? ⟨b, off + j, none⟩ = some (.int .i64 (zs.getD j 0)))
theorem take_snoc (zs : List Int) (k : Nat) (hk : k < zs.length) : zs.take (k + 1) = zs.take k ++ [zs[k]?.getD 0] := by
  rw [List.take_add_one, List.getElem?_eq_getElem hk]; rfl

theorem of_bit (n : Nat) (hn : n < 18446744073709551616) (i : Int) (h1 : i < 64) : bits .or .u64 (n : Int) (IntKind.u64.wrap (2 ^ i.toNat)) = ((n ||| 2 ^ i.toNat : Nat) : Int) := by
  have h2 : 2 ^ i.toNat < 2 ^ 64 := Nat.pow_lt_pow_right (by decide) (by omega)
  have e0 : ((2 : Int) ^ i.toNat) = ((2 ^ i.toNat : Nat) : Int) := by simp
  rw [e0]
  generalize 2 ^ i.toNat = m at *
  have e : IntKind.u64.wrap (m : Int) = (m : Int) := by
    rw [IntKind.wrap_u64]
    omega
  rw [e, bits_or_u64_nat n _ hn (by omega)]

end Go.Proofs.Ytndhjfpjhpnbaaa.Bits
