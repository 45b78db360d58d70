/- What the functions of package bits that make no memory answer, and those of its reference: for all numbers; each leaves the world as it was. Of Least: where the library's table lies as its initialiser lays it. -/
import Derived.Test.YtfpaigcbjpolhaaChecked
import Derived.Test.YtfpaigcbjpolhaaBitsMath
import Derived.WalkKit
import Derived.Laws.Bits64b
namespace Go.Proofs.Ytfpaigcbjpolhaa.Bits
open Go.ChangeShapes Go.WideShapes Go.RowKit

theorem hide {p : Prop} (h : p) : Hid p := h
theorem unhide {p : Prop} (h : Hid p) : p := h.out
theorem ret_bool {a b : Bool} (h : a = b) : Ending.returned (.bool a) = .returned (.bool b) := by rw [h]
theorem ret_int {k : IntKind} {a b : Int} (h : a = b) : Ending.returned (.int k a) = .returned (.int k b) := by rw [h]
theorem ret_ib {a c : Int} {b d : Bool} (h : a = c) (g : b = d) : Ending.returned (.tuple #[.int .i64 a, .bool b]) = .returned (.tuple #[.int .i64 c, .bool d]) := by rw [h, g]

theorem is_any (i : Int) (w : World) : Calls Try.prog 63 #[.int .i64 i] w fun e w' => e = .returned (.bool (isB i)) ∧ w' = w := by
  by_cases h0 : 0 ≤ i
  · by_cases h1 : i < 64
    · go_enter Try.func63, Try.ntmps63
      go_wp2
      go_ret
      exact ⟨ret_bool (isB_yes h0 h1).symm, rfl⟩
    · go_enter Try.func63, Try.ntmps63
      go_wp2
      go_ret
      exact ⟨ret_bool (isB_no (by omega)).symm, rfl⟩
  · go_enter Try.func63, Try.ntmps63
    go_wp2
    go_ret
    exact ⟨ret_bool (isB_no (by omega)).symm, rfl⟩

theorem and_bit (n : Nat) : (n &&& 1 == 1) = n.testBit 0 := by
  rw [Nat.testBit_zero, Nat.and_one_is_mod]
  rcases Nat.mod_two_eq_zero_or_one n with h | h <;> simp [h]
theorem has_bit (x : Int) (x0 : 0 ≤ x) (hx : x < 18446744073709551616) (i : Int) (h0 : 0 ≤ i) (h1 : i < 64) : (bits BinOp.and IntKind.u64 (x / 2 ^ i.toNat) 1 == 1) = hasB x.toNat i := by
  obtain ⟨x, rfl⟩ := Int.eq_ofNat_of_zero_le x0
  rw [Int.toNat_natCast]
  have e : (x : Int) / 2 ^ i.toNat = ((x / 2 ^ i.toNat : Nat) : Int) := by simp
  have hl : x / 2 ^ i.toNat < 18446744073709551616 := Nat.lt_of_le_of_lt (Nat.div_le_self _ _) (by omega)
  have e2 := bits_and_u64_nat (x / 2 ^ i.toNat) 1 hl (by decide)
  rw [e, show (1 : Int) = ((1 : Nat) : Int) from rfl, e2, hasB, isB_yes h0 h1, Bool.true_and]
  have e3 : x.testBit i.toNat = (x / 2 ^ i.toNat).testBit 0 := by rw [Nat.testBit_div_two_pow, Nat.zero_add]
  rw [e3, ← and_bit, Bool.eq_iff_iff]
  simp
  omega
theorem has_no (n : Nat) {i : Int} (h : isB i = false) : hasB n i = false := by simp [hasB, h]

theorem rhas_any (x i : Int) (w : World) (x0 : 0 ≤ x) (hx : x < 18446744073709551616) : Calls Try.prog 56 #[.int .u64 x, .int .i64 i] w fun e w' => e = .returned (.bool (hasB x.toNat i)) ∧ w' = w := by
  by_cases h0 : 0 ≤ i
  · by_cases h1 : i < 64
    · have H := has_bit x x0 hx i h0 h1
      have HH : Hid ((bits BinOp.and IntKind.u64 (x / 2 ^ i.toNat) 1 == 1) = hasB x.toNat i) := H
      clear H
      go_enter Try.func56, Try.ntmps56
      go_wp2
      go_ret
      exact ⟨ret_bool HH.out, rfl⟩
    · go_enter Try.func56, Try.ntmps56
      go_wp2
      go_ret
      exact ⟨ret_bool (has_no _ (isB_no (by omega))).symm, rfl⟩
  · go_enter Try.func56, Try.ntmps56
    go_wp2
    go_ret
    exact ⟨ret_bool (has_no _ (isB_no (by omega))).symm, rfl⟩

theorem and127 (n : Nat) (h : n < 9223372036854775808) : bits .and .i64 (n : Int) 127 = ((n % 128 : Nat) : Int) := by
  have h1 : (BitVec.ofInt 64 (n : Int)).toNat = n := by
    rw [BitVec.ofInt_natCast, BitVec.toNat_ofNat]; exact Nat.mod_eq_of_lt (by omega)
  have h2 : (BitVec.ofInt 64 (127 : Int)).toNat = 127 := by decide
  have h3 : n &&& 127 = n % 128 := Nat.and_two_pow_sub_one_eq_mod n 7
  show IntKind.i64.wrap ((BitVec.ofInt 64 (n : Int) &&& BitVec.ofInt 64 (127 : Int)).toNat : Int) = _
  rw [BitVec.toNat_and, h1, h2, h3]
  simp only [IntKind.wrap, IntKind.signed, IntKind.bits]
  simp
  omega
/-- The library's table lies where its initialiser lays it. -/
theorem tz_key (x a : Nat) (hx : x < 18446744073709551616) (hx0 : x ≠ 0) (hlow : x &&& (18446744073709551616 - x) = a) :
    IntKind.u64.wrap (bits BinOp.and IntKind.u64 (x : Int) (IntKind.u64.wrap (-(x : Int))) * 285870213051353865) / 288230376151711744 = ((a * 285870213051353865 % 18446744073709551616 / 288230376151711744 : Nat) : Int) := by
  have e1 : IntKind.u64.wrap (-(x : Int)) = ((18446744073709551616 - x : Nat) : Int) := by rw [IntKind.wrap_u64]; omega
  rw [e1, bits_and_u64_nat x _ hx (by omega), hlow, IntKind.wrap_u64]
  omega
def leastV (x : Int) : Int := if x = 0 then 0 else (Lib.ctz 64 x.toNat : Nat)
/- rows of numbers -/
def Row (w : World) (v : Value) (zs : List Int) : Prop := ∃ ao cap, v = .slice ao zs.length cap ∧ (zs ≠ [] → ∃ b off, ao = some ⟨b, off, none⟩ ∧ ∀ j, j < zs.length → w.cell? ⟨b, off + j, none⟩ = some (.int .i64 (zs.getD j 0)))
theorem take_snoc (zs : List Int) (k : Nat) (hk : k < zs.length) : zs.take (k + 1) = zs.take k ++ [zs[k]?.getD 0] := by
  rw [List.take_add_one, List.getElem?_eq_getElem hk]; rfl

theorem of_bit (n : Nat) (hn : n < 18446744073709551616) (i : Int) (h1 : i < 64) : bits .or .u64 (n : Int) (IntKind.u64.wrap (2 ^ i.toNat)) = ((n ||| 2 ^ i.toNat : Nat) : Int) := by
  have h2 : 2 ^ i.toNat < 2 ^ 64 := Nat.pow_lt_pow_right (by decide) (by omega)
  have e0 : ((2 : Int) ^ i.toNat) = ((2 ^ i.toNat : Nat) : Int) := by simp
  rw [e0]
  generalize 2 ^ i.toNat = m at *
  have e : IntKind.u64.wrap (m : Int) = (m : Int) := by
    rw [IntKind.wrap_u64]
    omega
  rw [e, bits_or_u64_nat n _ hn (by omega)]

set_option maxHeartbeats 400000 in
theorem of_some (zs : List Int) (b off cap : Nat) (w : World) (hl : zs.length ≤ maxLen) (hc : ∀ j, j < zs.length → w.cell? ⟨b, off + j, none⟩ = some (.int .i64 (zs.getD j 0))) :
    Calls Try.prog 60 #[.slice (some ⟨b, off, none⟩) zs.length cap] w fun e w' => e = .returned (.int .u64 (ofN zs : Nat)) ∧ w' = w := by
  unfold maxLen at hl
  have HC := hide hc
  clear hc
  go_enter Try.func60, Try.ntmps60
  go_wp2
  go_loop [3, 8] (fun x i => ∃ k : Nat, k ≤ zs.length ∧ i = .int .i64 k ∧ x = .int .u64 (ofN (zs.take k) : Nat)) (fun _ i => zs.length - (intOf i).toNat)
  case atStart => exact ⟨0, Nat.zero_le _, rfl, rfl⟩
  case round =>
    obtain ⟨k, hk, rfl, rfl⟩ := hrel
    by_cases hlt : k < zs.length
    · have hcx := unhide HC k hlt
      have hs := take_snoc zs k hlt
      have hn := ofN_lt (zs.take k)
      have ho := ofN_snoc (zs.take k) (zs.getD k 0)
      rw [show zs[k]?.getD 0 = zs.getD k 0 from rfl] at hs
      rw [← hs] at ho
      clear hs
      generalize zs.getD k 0 = z at *
      have HO := hide ho
      clear ho
      by_cases hi : isB z = true
      · obtain ⟨i0, i1⟩ := (isB_iff _).1 hi
        have hb := of_bit _ hn z i1
        go_wp2_with (go_at_call 63; refine (is_any _ _).mono ?_; rintro e w' ⟨rfl, rfl⟩)
        go_round
        case rel => exact ⟨k + 1, by omega, by go_num, by rw [unhide HO, if_pos ⟨i0, i1⟩]⟩
        case measure => simp [intOf]; omega
      · have hi' : isB z = false := by simpa using hi
        have hi2 : ¬ (0 ≤ z ∧ z < 64) := by rw [← isB_iff]; exact hi
        have HI := hide hi2
        clear hi hi2
        go_wp2_with (go_at_call 63; refine (is_any _ _).mono ?_; rintro e w' ⟨rfl, rfl⟩)
        go_round
        case rel => exact ⟨k + 1, by omega, by go_num, by rw [unhide HO, if_neg (unhide HI)]⟩
        case measure => simp [intOf]; omega
    · go_wp2
      go_ret
      exact ⟨ret_int (by rw [List.take_of_length_le (by omega)]), rfl⟩
theorem of_none (ao : Option Addr) (cap : Nat) (w : World) :
    Calls Try.prog 60 #[.slice ao 0 cap] w fun e w' => e = .returned (.int .u64 0) ∧ w' = w := by
  go_enter Try.func60, Try.ntmps60
  go_wp2
  refine wp_loop_rounds 1 ?_
  rw [rounds_succ]
  go_wp2
  go_ret
  exact ⟨rfl, rfl⟩
theorem of_any (v : Value) (zs : List Int) (w : World) (hl : zs.length ≤ maxLen) (h : Row w v zs) : Calls Try.prog 60 #[v] w fun e w' => e = .returned (.int .u64 (ofN zs : Nat)) ∧ w' = w := by
  obtain ⟨ao, cap, rfl, hc⟩ := h
  by_cases e : zs = []
  · subst e
    exact of_none ao cap w
  · obtain ⟨b, off, rfl, hcc⟩ := hc e
    exact of_some zs b off cap w hl hcc

end Go.Proofs.Ytfpaigcbjpolhaa.Bits
