/- What the functions of package num, and their references, answer, for all numbers; each leaves the world as it was. No conditions but those that each theorem bears. -/
import Derived.Test.YtndhjfpjhpnbaaaChecked
import Derived.WalkKit
namespace Go.Proofs.Ytndhjfpjhpnbaaa.Num
set_option maxRecDepth 100000
open Go.ChangeShapes Go.WideShapes Go.RowKit

def isB (a : Int) : Bool := decide (0 ≤ a) && decide (a ≤ 1099511627776)
def areB (a b : Int) : Bool := isB a && isB b
def addB (a b : Int) : Bool := areB a b && decide (a + b ≤ 1099511627776)
def mulB (a b : Int) : Bool := areB a b && decide (a * b ≤ 1099511627776)
def divB (a b : Int) : Bool := areB a b && decide (1 ≤ b)
def addV (a b : Int) : Int := if addB a b then a + b else 0
def mulV (a b : Int) : Int := if mulB a b then a * b else 0
def floorV (a b : Int) : Int := if divB a b then a / b else 0
def ceilV (a b : Int) : Int := if divB a b then (if a % b = 0 then a / b else a / b + 1) else 0

theorem isB_iff (a : Int) : isB a = true ↔ 0 ≤ a ∧ a ≤ 1099511627776 := by simp [isB]
theorem isB_yes {a : Int} (h0 : 0 ≤ a) (h1 : a ≤ 1099511627776) : isB a = true := by simp [isB, h0, h1]
theorem isB_no {a : Int} (h : a < 0 ∨ 1099511627776 < a) : isB a = false := by simp [isB]; omega
theorem areB_iff (a b : Int) : areB a b = true ↔ (0 ≤ a ∧ a ≤ 1099511627776) ∧ 0 ≤ b ∧ b ≤ 1099511627776 := by simp [areB, isB_iff]
theorem areB_mk {a b : Int} {p q : Bool} (ha : isB a = p) (hb : isB b = q) : areB a b = (p && q) := by simp [areB, ha, hb]
theorem ret_bool {a b : Bool} (h : a = b) : Ending.returned (.bool a) = .returned (.bool b) := by rw [h]
theorem ret_two {a c : Int} {b d : Bool} (h : a = c) (g : b = d) : Ending.returned (.tuple #[.int .i64 a, .bool b]) = .returned (.tuple #[.int .i64 c, .bool d]) := by rw [h, g]

theorem is_any (a : Int) (w : World) : Calls Try.prog 83 #[.int .i64 a] w fun e w' => e = .returned (.bool (isB a)) ∧ w' = w := by
  by_cases h0 : 0 ≤ a
  · by_cases h1 : a ≤ 1099511627776
    · go_enter Try.func83, Try.ntmps83
      go_wp2
      go_ret
      exact ⟨ret_bool (isB_yes h0 h1).symm, rfl⟩
    · go_enter Try.func83, Try.ntmps83
      go_wp2
      go_ret
      exact ⟨ret_bool (isB_no (by omega)).symm, rfl⟩
  · go_enter Try.func83, Try.ntmps83
    go_wp2
    go_ret
    exact ⟨ret_bool (isB_no (by omega)).symm, rfl⟩

theorem are_any (a b : Int) (w : World) : Calls Try.prog 82 #[.int .i64 a, .int .i64 b] w fun e w' => e = .returned (.bool (areB a b)) ∧ w' = w := by
  have H : Hid (areB a b = (isB a && isB b)) := rfl
  cases ha : isB a
  · go_enter Try.func82, Try.ntmps82
    go_wp2_with (go_at_call 83; refine (is_any _ _).mono ?_; rintro e w' ⟨rfl, rfl⟩)
    go_ret
    exact ⟨ret_bool (by rw [H.out, ha]; rfl), rfl⟩
  · go_enter Try.func82, Try.ntmps82
    go_wp2_with (go_at_call 83; refine (is_any _ _).mono ?_; rintro e w' ⟨rfl, rfl⟩)
    go_ret
    exact ⟨ret_bool (by rw [H.out, ha]; rfl), rfl⟩

theorem add_any (a b : Int) (w : World) : Calls Try.prog 79 #[.int .i64 a, .int .i64 b] w fun e w' => e = .returned (.tuple #[.int .i64 (addV a b), .bool (addB a b)]) ∧ w' = w := by
  cases h : areB a b
  · have hB : Hid (addB a b = false) := by show addB a b = false; simp [addB, h]
    have hV : Hid (addV a b = 0) := by show addV a b = 0; simp [addV, hB.out]
    go_enter Try.func79, Try.ntmps79
    go_wp2_with (go_at_call 82; refine (are_any _ _ _).mono ?_; rintro e w' ⟨rfl, rfl⟩)
    go_ret2
    exact ⟨ret_two hV.out.symm hB.out.symm, rfl⟩
  · have hr := (areB_iff a b).1 h
    obtain ⟨⟨h1, h2⟩, h3, h4⟩ := hr
    by_cases hs : a + b ≤ 1099511627776
    · have hB : Hid (addB a b = true) := by show addB a b = true; simp [addB, h, hs]
      have hV : Hid (addV a b = a + b) := by show addV a b = a + b; simp [addV, hB.out]
      go_enter Try.func79, Try.ntmps79
      go_wp2_with (go_at_call 82; refine (are_any _ _ _).mono ?_; rintro e w' ⟨rfl, rfl⟩)
      go_ret2
      exact ⟨ret_two hV.out.symm hB.out.symm, rfl⟩
    · have hB : Hid (addB a b = false) := by show addB a b = false; simp [addB, h]; omega
      have hV : Hid (addV a b = 0) := by show addV a b = 0; simp [addV, hB.out]
      go_enter Try.func79, Try.ntmps79
      go_wp2_with (go_at_call 82; refine (are_any _ _ _).mono ?_; rintro e w' ⟨rfl, rfl⟩)
      go_ret2
      exact ⟨ret_two hV.out.symm hB.out.symm, rfl⟩

theorem mul_le_iff (a b : Int) (hb : 1 ≤ b) : a * b ≤ 1099511627776 ↔ a ≤ 1099511627776 / b := by
  constructor
  · intro h; exact (Int.le_ediv_iff_mul_le (by omega)).2 h
  · intro h; exact (Int.le_ediv_iff_mul_le (by omega)).1 h

theorem floor_any (a b : Int) (w : World) : Calls Try.prog 74 #[.int .i64 a, .int .i64 b] w fun e w' => e = .returned (.tuple #[.int .i64 (floorV a b), .bool (divB a b)]) ∧ w' = w := by
  cases h : areB a b
  · have hB : Hid (divB a b = false) := by show divB a b = false; simp [divB, h]
    have hV : Hid (floorV a b = 0) := by show floorV a b = 0; simp [floorV, hB.out]
    go_enter Try.func74, Try.ntmps74
    go_wp2_with (go_at_call 82; refine (are_any _ _ _).mono ?_; rintro e w' ⟨rfl, rfl⟩)
    go_ret2
    exact ⟨ret_two hV.out.symm hB.out.symm, rfl⟩
  · have hr := (areB_iff a b).1 h
    obtain ⟨⟨h1, h2⟩, h3, h4⟩ := hr
    by_cases hz : b = 0
    · subst hz
      have hB : Hid (divB a 0 = false) := by show divB a 0 = false; simp [divB]
      have hV : Hid (floorV a 0 = 0) := by show floorV a 0 = 0; simp [floorV, hB.out]
      go_enter Try.func74, Try.ntmps74
      go_wp2_with (go_at_call 82; refine (are_any _ _ _).mono ?_; rintro e w' ⟨rfl, rfl⟩)
      go_ret2
      exact ⟨ret_two hV.out.symm hB.out.symm, rfl⟩
    · have hb1 : 1 ≤ b := by omega
      have hne : (b == 0) = false := by simp [hz]
      have hB : Hid (divB a b = true) := by show divB a b = true; simp [divB, h, hb1]
      have hV : Hid (floorV a b = a / b) := by show floorV a b = a / b; simp [floorV, hB.out]
      go_enter Try.func74, Try.ntmps74
      go_wp2_with (go_at_call 82; refine (are_any _ _ _).mono ?_; rintro e w' ⟨rfl, rfl⟩)
      go_ret2
      exact ⟨ret_two hV.out.symm hB.out.symm, rfl⟩

theorem ceil_any (a b : Int) (w : World) : Calls Try.prog 69 #[.int .i64 a, .int .i64 b] w fun e w' => e = .returned (.tuple #[.int .i64 (ceilV a b), .bool (divB a b)]) ∧ w' = w := by
  cases h : divB a b
  · have hV : Hid (ceilV a b = 0) := by show ceilV a b = 0; simp [ceilV, h]
    have hF : floorV a b = 0 := by simp [floorV, h]
    go_enter Try.func69, Try.ntmps69
    go_wp2_with (go_at_call 74; refine (floor_any _ _ _).mono ?_; rintro e w' ⟨rfl, rfl⟩)
    go_ret2
    exact ⟨ret_two (by rw [hV.out]) rfl, rfl⟩
  · have hF : floorV a b = a / b := by simp [floorV, h]
    have h' := h
    simp only [divB, Bool.and_eq_true, decide_eq_true_eq, areB_iff] at h'
    obtain ⟨⟨⟨h1, h2⟩, h3, h4⟩, h5⟩ := h'
    have hq0 : 0 ≤ a / b := Int.ediv_nonneg h1 h3
    have hq1 : a / b ≤ 1099511627776 := Int.le_trans (Int.ediv_le_self b h1) h2
    by_cases hm : a % b = 0
    · have hV : Hid (ceilV a b = a / b) := by show ceilV a b = a / b; simp [ceilV, h, hm]
      have hm' : (a % b == 0) = true := by simp [hm]
      clear hm
      go_enter Try.func69, Try.ntmps69
      go_wp2_with (go_at_call 74; refine (floor_any _ _ _).mono ?_; rintro e w' ⟨rfl, rfl⟩)
      go_ret2
      exact ⟨ret_two (by rw [hV.out]) rfl, rfl⟩
    · have hV : Hid (ceilV a b = a / b + 1) := by show ceilV a b = a / b + 1; simp [ceilV, h, hm]
      have hm' : (a % b == 0) = false := by simp [hm]
      clear hm
      go_enter Try.func69, Try.ntmps69
      go_wp2_with (go_at_call 74; refine (floor_any _ _ _).mono ?_; rintro e w' ⟨rfl, rfl⟩)
      go_ret2
      exact ⟨ret_two (by rw [hV.out]) rfl, rfl⟩
end Go.Proofs.Ytndhjfpjhpnbaaa.Num
