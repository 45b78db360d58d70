/- What the references of chapter 1 answer, for all numbers; each leaves the world as it was. No conditions but those that each theorem bears. -/
import Derived.Test.YtnldlflldhcphaaNum
namespace Go.Proofs.Ytnldlflldhcphaa.Num
open Go.ChangeShapes Go.WideShapes Go.RowKit

theorem ris_any (a : Int) (w : World) : Calls Try.prog 16 #[.int .i64 a] w fun e w' => e = .returned (.bool (isB a)) ∧ w' = w := by
  by_cases h0 : 0 ≤ a
  · by_cases h1 : a ≤ 1099511627776
    · go_enter Try.func16, Try.ntmps16
      go_wp2
      go_ret
      exact ⟨ret_bool (isB_yes h0 h1).symm, rfl⟩
    · go_enter Try.func16, Try.ntmps16
      go_wp2
      go_ret
      exact ⟨ret_bool (isB_no (by omega)).symm, rfl⟩
  · go_enter Try.func16, Try.ntmps16
    go_wp2
    go_ret
    exact ⟨ret_bool (isB_no (by omega)).symm, rfl⟩

theorem radd_any (a b : Int) (w : World) : Calls Try.prog 11 #[.int .i64 a, .int .i64 b] w fun e w' => e = .returned (.tuple #[.int .i64 (addV a b), .bool (addB a b)]) ∧ w' = w := by
  cases ha : isB a
  · have hB : Hid (addB a b = false) := by show addB a b = false; simp [addB, areB, ha]
    have hV : Hid (addV a b = 0) := by show addV a b = 0; simp [addV, hB.out]
    go_enter Try.func11, Try.ntmps11
    go_wp2_with (go_at_call 16; refine (ris_any _ _).mono ?_; rintro e w' ⟨rfl, rfl⟩)
    go_ret2
    exact ⟨ret_two hV.out.symm hB.out.symm, rfl⟩
  · cases hb : isB b
    · have hB : Hid (addB a b = false) := by show addB a b = false; simp [addB, areB, ha, hb]
      have hV : Hid (addV a b = 0) := by show addV a b = 0; simp [addV, hB.out]
      go_enter Try.func11, Try.ntmps11
      go_wp2_with (go_at_call 16; refine (ris_any _ _).mono ?_; rintro e w' ⟨rfl, rfl⟩)
      go_ret2
      exact ⟨ret_two hV.out.symm hB.out.symm, rfl⟩
    · obtain ⟨h1, h2⟩ := (isB_iff a).1 ha
      obtain ⟨h3, h4⟩ := (isB_iff b).1 hb
      by_cases hs : a + b ≤ 1099511627776
      · have hc : isB (a + b) = true := isB_yes (by omega) hs
        have hB : Hid (addB a b = true) := by show addB a b = true; simp [addB, areB, ha, hb, hs]
        have hV : Hid (addV a b = a + b) := by show addV a b = a + b; simp [addV, hB.out]
        go_enter Try.func11, Try.ntmps11
        go_wp2_with (go_at_call 16; refine (ris_any _ _).mono ?_; rintro e w' ⟨rfl, rfl⟩)
        go_ret2
        exact ⟨ret_two hV.out.symm hB.out.symm, rfl⟩
      · have hc : isB (a + b) = false := isB_no (by omega)
        have hB : Hid (addB a b = false) := by show addB a b = false; simp [addB, areB, ha, hb]; omega
        have hV : Hid (addV a b = 0) := by show addV a b = 0; simp [addV, hB.out]
        go_enter Try.func11, Try.ntmps11
        go_wp2_with (go_at_call 16; refine (ris_any _ _).mono ?_; rintro e w' ⟨rfl, rfl⟩)
        go_ret2
        exact ⟨ret_two hV.out.symm hB.out.symm, rfl⟩

theorem rmul_any (a b : Int) (w : World) : Calls Try.prog 12 #[.int .i64 a, .int .i64 b] w fun e w' => e = .returned (.tuple #[.int .i64 (mulV a b), .bool (mulB a b)]) ∧ w' = w := by
  cases ha : isB a
  · have hB : Hid (mulB a b = false) := by show mulB a b = false; simp [mulB, areB, ha]
    have hV : Hid (mulV a b = 0) := by show mulV a b = 0; simp [mulV, hB.out]
    go_enter Try.func12, Try.ntmps12
    go_wp2_with (go_at_call 16; refine (ris_any _ _).mono ?_; rintro e w' ⟨rfl, rfl⟩)
    go_ret2
    exact ⟨ret_two hV.out.symm hB.out.symm, rfl⟩
  · cases hb : isB b
    · have hB : Hid (mulB a b = false) := by show mulB a b = false; simp [mulB, areB, ha, hb]
      have hV : Hid (mulV a b = 0) := by show mulV a b = 0; simp [mulV, hB.out]
      go_enter Try.func12, Try.ntmps12
      go_wp2_with (go_at_call 16; refine (ris_any _ _).mono ?_; rintro e w' ⟨rfl, rfl⟩)
      go_ret2
      exact ⟨ret_two hV.out.symm hB.out.symm, rfl⟩
    · obtain ⟨h1, h2⟩ := (isB_iff a).1 ha
      obtain ⟨h3, h4⟩ := (isB_iff b).1 hb
      by_cases hz : a = 0
      · subst hz
        have hB : Hid (mulB 0 b = true) := by show mulB 0 b = true; simp [mulB, areB, ha, hb]
        have hV : Hid (mulV 0 b = 0) := by show mulV 0 b = 0; simp [mulV, hB.out]
        go_enter Try.func12, Try.ntmps12
        go_wp2_with (go_at_call 16; refine (ris_any _ _).mono ?_; rintro e w' ⟨rfl, rfl⟩)
        go_ret2
        exact ⟨ret_two hV.out.symm hB.out.symm, rfl⟩
      · have ha1 : 1 ≤ a := by omega
        have hm := mul_le_iff b a ha1
        rw [Int.mul_comm] at hm
        have hnn : 0 ≤ a * b := Int.mul_nonneg h1 h3
        by_cases hs : a * b ≤ 1099511627776
        · have hB : Hid (mulB a b = true) := by show mulB a b = true; simp [mulB, areB, ha, hb, hs]
          have hV : Hid (mulV a b = a * b) := by show mulV a b = a * b; simp [mulV, hB.out]
          have hd := hm.1 hs
          clear hm hz
          go_enter Try.func12, Try.ntmps12
          go_wp2_with (go_at_call 16; refine (ris_any _ _).mono ?_; rintro e w' ⟨rfl, rfl⟩)
          go_ret2
          exact ⟨ret_two hV.out.symm hB.out.symm, rfl⟩
        · have hB : Hid (mulB a b = false) := by show mulB a b = false; simp [mulB, areB, ha, hb]; omega
          have hV : Hid (mulV a b = 0) := by show mulV a b = 0; simp [mulV, hB.out]
          have hd : 1099511627776 / a < b := by omega
          clear hm hz
          go_enter Try.func12, Try.ntmps12
          go_wp2_with (go_at_call 16; refine (ris_any _ _).mono ?_; rintro e w' ⟨rfl, rfl⟩)
          go_ret2
          exact ⟨ret_two hV.out.symm hB.out.symm, rfl⟩

theorem rfloor_any (a b : Int) (w : World) : Calls Try.prog 14 #[.int .i64 a, .int .i64 b] w fun e w' => e = .returned (.tuple #[.int .i64 (floorV a b), .bool (divB a b)]) ∧ w' = w := by
  cases ha : isB a
  · have hB : Hid (divB a b = false) := by show divB a b = false; simp [divB, areB, ha]
    have hV : Hid (floorV a b = 0) := by show floorV a b = 0; simp [floorV, hB.out]
    go_enter Try.func14, Try.ntmps14
    go_wp2_with (go_at_call 16; refine (ris_any _ _).mono ?_; rintro e w' ⟨rfl, rfl⟩)
    go_ret2
    exact ⟨ret_two hV.out.symm hB.out.symm, rfl⟩
  · cases hb : isB b
    · have hB : Hid (divB a b = false) := by show divB a b = false; simp [divB, areB, ha, hb]
      have hV : Hid (floorV a b = 0) := by show floorV a b = 0; simp [floorV, hB.out]
      go_enter Try.func14, Try.ntmps14
      go_wp2_with (go_at_call 16; refine (ris_any _ _).mono ?_; rintro e w' ⟨rfl, rfl⟩)
      go_ret2
      exact ⟨ret_two hV.out.symm hB.out.symm, rfl⟩
    · obtain ⟨h1, h2⟩ := (isB_iff a).1 ha
      obtain ⟨h3, h4⟩ := (isB_iff b).1 hb
      by_cases hz : b = 0
      · subst hz
        have hB : Hid (divB a 0 = false) := by show divB a 0 = false; simp [divB]
        have hV : Hid (floorV a 0 = 0) := by show floorV a 0 = 0; simp [floorV, hB.out]
        go_enter Try.func14, Try.ntmps14
        go_wp2_with (go_at_call 16; refine (ris_any _ _).mono ?_; rintro e w' ⟨rfl, rfl⟩)
        go_ret2
        exact ⟨ret_two hV.out.symm hB.out.symm, rfl⟩
      · have hb1 : 1 ≤ b := by omega
        have hne : (b == 0) = false := by simp [hz]
        have hB : Hid (divB a b = true) := by show divB a b = true; simp [divB, areB, ha, hb, hb1]
        have hV : Hid (floorV a b = a / b) := by show floorV a b = a / b; simp [floorV, hB.out]
        clear hz
        go_enter Try.func14, Try.ntmps14
        go_wp2_with (go_at_call 16; refine (ris_any _ _).mono ?_; rintro e w' ⟨rfl, rfl⟩)
        go_ret2
        exact ⟨ret_two hV.out.symm hB.out.symm, rfl⟩

theorem rceil_any (a b : Int) (w : World) : Calls Try.prog 13 #[.int .i64 a, .int .i64 b] w fun e w' => e = .returned (.tuple #[.int .i64 (ceilV a b), .bool (divB a b)]) ∧ w' = w := by
  cases h : divB a b
  · have hV : Hid (ceilV a b = 0) := by show ceilV a b = 0; simp [ceilV, h]
    have hF : floorV a b = 0 := by simp [floorV, h]
    go_enter Try.func13, Try.ntmps13
    go_wp2_with (go_at_call 14; refine (rfloor_any _ _ _).mono ?_; rintro e w' ⟨rfl, rfl⟩)
    go_ret2
    exact ⟨ret_two (by rw [hV.out]) rfl, rfl⟩
  · have hF : floorV a b = a / b := by simp [floorV, h]
    have h' := h
    simp only [divB, Bool.and_eq_true, decide_eq_true_eq, areB_iff] at h'
    obtain ⟨⟨⟨h1, h2⟩, h3, h4⟩, h5⟩ := h'
    have hq0 : 0 ≤ a / b := Int.ediv_nonneg h1 h3
    have hq1 : a / b ≤ 1099511627776 := Int.le_trans (Int.ediv_le_self b h1) h2
    have hdm := Int.mul_ediv_add_emod a b
    have hr := Int.emod_nonneg a (show b ≠ 0 by omega)
    have hp0 : 0 ≤ a / b * b := Int.mul_nonneg hq0 h3
    rw [Int.mul_comm] at hdm
    have hp1 : a / b * b ≤ 1099511627776 := by omega
    by_cases hm : a % b = 0
    · have hV : Hid (ceilV a b = a / b) := by show ceilV a b = a / b; simp [ceilV, h, hm]
      have hm' : ¬ a / b * b < a := by omega
      clear hm hdm hr
      go_enter Try.func13, Try.ntmps13
      go_wp2_with (go_at_call 14; refine (rfloor_any _ _ _).mono ?_; rintro e w' ⟨rfl, rfl⟩)
      go_ret2
      exact ⟨ret_two (by rw [hV.out]) rfl, rfl⟩
    · have hV : Hid (ceilV a b = a / b + 1) := by show ceilV a b = a / b + 1; simp [ceilV, h, hm]
      have hm' : a / b * b < a := by omega
      clear hm hdm hr
      go_enter Try.func13, Try.ntmps13
      go_wp2_with (go_at_call 14; refine (rfloor_any _ _ _).mono ?_; rintro e w' ⟨rfl, rfl⟩)
      go_ret2
      exact ⟨ret_two (by rw [hV.out]) rfl, rfl⟩

theorem ceil73 : ceilV 7 3 = 3 := by decide
theorem div73 : divB 7 3 = true := by decide
theorem div70 : divB 7 0 = false := by decide
theorem isLast : isB 1099511627776 = true := isB_yes (by omega) (by omega)
theorem isMinus : isB (-1) = false := isB_no (by omega)
theorem known_any (w : World) : Calls Try.prog 17 #[] w fun e w' => e = .returned (.bool true) ∧ w' = w := by
  have k1 := ceil73
  have k2 := div73
  have k3 := div70
  have k4 := isLast
  have k5 := isMinus
  go_enter Try.func17, Try.ntmps17
  go_wp2_with (first | (go_at_call 9; refine (ceil_any _ _ _).mono ?_; rintro e w' ⟨rfl, rfl⟩) | (go_at_call 10; refine (floor_any _ _ _).mono ?_; rintro e w' ⟨rfl, rfl⟩) | (go_at_call 15; refine (is_any _ _).mono ?_; rintro e w' ⟨rfl, rfl⟩))
  go_ret
  exact ⟨rfl, rfl⟩

theorem areB_comm (a b : Int) : areB b a = areB a b := by simp [areB, Bool.and_comm]
theorem addB_comm (a b : Int) : addB b a = addB a b := by rw [addB, addB, areB_comm, Int.add_comm]
theorem addV_comm (a b : Int) : addV b a = addV a b := by rw [addV, addV, addB_comm, Int.add_comm]
theorem mulB_comm (a b : Int) : mulB b a = mulB a b := by rw [mulB, mulB, areB_comm, Int.mul_comm]
theorem mulV_comm (a b : Int) : mulV b a = mulV a b := by rw [mulV, mulV, mulB_comm, Int.mul_comm]
theorem mulB_one (a : Int) : mulB a 1 = isB a := by
  have h : isB 1 = true := by decide
  rw [Bool.eq_iff_iff]; simp [mulB, areB, h, isB_iff]
theorem addB_zero (a : Int) : addB a 0 = isB a := by
  have h : isB 0 = true := by decide
  rw [Bool.eq_iff_iff]; simp [addB, areB, h, isB_iff]
theorem divB_iff (a b : Int) : divB a b = true ↔ (0 ≤ a ∧ a ≤ 1099511627776) ∧ 1 ≤ b ∧ b ≤ 1099511627776 := by
  simp [divB, areB_iff]; omega
end Go.Proofs.Ytnldlflldhcphaa.Num
