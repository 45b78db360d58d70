/- What Sum and Times of package cost answer, and those of its reference: for all rows of complex numbers, all numbers of times; what was there stays as it was. -/
import Derived.Test.YtmllmmgpbbobmaaCost
namespace Go.Proofs.Ytmllmmgpbbobmaa.Cost
open Go.ChangeShapes Go.WideShapes Go.RowKit Go.Proofs.Ytmllmmgpbbobmaa.Num Ieee

abbrev CL : Type := List (Nat × Nat)
def stepO (o : Option (Int × Int)) (p : Nat × Nat) : Option (Int × Int) :=
  o.bind fun s => if costB p.1 p.2 && isB (s.1 + tr p.1) && isB (s.2 + tr p.2) then some (s.1 + tr p.1, s.2 + tr p.2) else none
def sumO (L : CL) : Option (Int × Int) := L.foldl stepO (some (0, 0))
def sumB (L : CL) : Bool := (sumO L).isSome
def sumRe (L : CL) : Nat := match sumO L with | none => 0 | some s => F s.1
def sumIm (L : CL) : Nat := match sumO L with | none => 0 | some s => F s.2
theorem sumO_snoc (L : CL) (p : Nat × Nat) : sumO (L ++ [p]) = stepO (sumO L) p := by simp [sumO]
theorem fold_none (L : CL) : L.foldl stepO none = none := by
  induction L with
  | nil => rfl
  | cons p r ih => exact ih
theorem sumO_none {L : CL} {k : Nat} (h : sumO (L.take k) = none) : sumO L = none := by
  have e : sumO L = (L.drop k).foldl stepO (sumO (L.take k)) := by
    rw [sumO, sumO, ← List.foldl_append, List.take_append_drop]
  rw [e, h, fold_none]
theorem take_sn (L : CL) (k : Nat) (hk : k < L.length) : L.take (k + 1) = L.take k ++ [L.getD k (0, 0)] := by
  rw [List.take_add_one, List.getElem?_eq_getElem hk, List.getD_eq_getElem?_getD, List.getElem?_eq_getElem hk]; rfl
theorem sum_none {L : CL} (h : sumO L = none) : sumRe L = 0 ∧ sumIm L = 0 ∧ sumB L = false := by simp [sumRe, sumIm, sumB, h]
theorem sum_some {L : CL} {s : Int × Int} (h : sumO L = some s) : sumRe L = F s.1 ∧ sumIm L = F s.2 ∧ sumB L = true := by simp [sumRe, sumIm, sumB, h]

/- one step of the code's sum -/
theorem add_cost {A B : Int} {x y : Nat} (hA : isB A = true) (hB : isB B = true) (h : costB x y = true) :
    cSumBits .add .f64 (F A) (F B) x y = some (F (A + tr x), F (B + tr y)) ∧ costB (F (A + tr x)) (F (B + tr y)) = (isB (A + tr x) && isB (B + tr y)) := by
  obtain ⟨A0, A1⟩ := (isB_iff A).1 hA
  obtain ⟨B0, B1⟩ := (isB_iff B).1 hB
  obtain ⟨⟨a0, a1⟩, b0, b1⟩ := cost_tr h
  obtain ⟨r, h1, _, h2⟩ := add_word (read_F A (by omega)) (whole_yes (cost_yes h).1).1 (by omega)
  obtain ⟨q, h3, _, h4⟩ := add_word (read_F B (by omega)) (whole_yes (cost_yes h).2).1 (by omega)
  rw [h2 (neg_F A (by omega) A0)] at h1
  rw [h4 (neg_F B (by omega) B0)] at h3
  refine ⟨?_, ?_⟩
  · show ((double.add (F A) x).bind fun re => (double.add (F B) y).bind fun im => some (re, im)) = _
    rw [h1, h3]; rfl
  · rw [costB, whole_rep (read_F (A + tr x) (by omega)) (by omega), whole_rep (read_F (B + tr y) (by omega)) (by omega)]; rfl

/- rows of costs -/
def CRow (w : World) (v : Value) (L : CL) : Prop := ∃ ao cap, v = .slice ao L.length cap ∧ (L ≠ [] → ∃ b off, ao = some ⟨b, off, none⟩ ∧ ∀ j, j < L.length → w.cell? ⟨b, off + j, none⟩ = some (.complex .f64 (L.getD j (0, 0)).1 (L.getD j (0, 0)).2))

set_option maxHeartbeats 800000 in
theorem sum_rows (L : CL) (b off cap : Nat) (w : World) (hl : L.length ≤ maxLen) (hc : ∀ j, j < L.length → w.cell? ⟨b, off + j, none⟩ = some (.complex .f64 (L.getD j (0, 0)).1 (L.getD j (0, 0)).2)) :
    Calls Try.prog 19 #[.slice (some ⟨b, off, none⟩) L.length cap] w fun e w' => e = .returned (.tuple #[.complex .f64 (sumRe L) (sumIm L), .bool (sumB L)]) ∧ w' = w := by
  unfold maxLen at hl
  have HC := hide hc
  clear hc
  go_enter Try.func19, Try.ntmps19
  go_wp2
  go_loop [4, 9] (fun al i => ∃ k : Nat, k ≤ L.length ∧ i = .int .i64 k ∧ ∃ A B, sumO (L.take k) = some (A, B) ∧ isB A = true ∧ isB B = true ∧ al = .complex .f64 (F A) (F B)) (fun _ i => L.length - (intOf i).toNat)
  case atStart => exact ⟨0, Nat.zero_le _, rfl, 0, 0, rfl, by decide, by decide, rfl⟩
  case round =>
    obtain ⟨k, hk, rfl, A, B, hs, hA, hB, rfl⟩ := hrel
    by_cases hlt : k < L.length
    · have hcx := unhide HC k hlt
      have hn : sumO (L.take (k + 1)) = stepO (some (A, B)) (L.getD k (0, 0)) := by rw [take_sn L k hlt, sumO_snoc, hs]
      have hno : stepO (some (A, B)) (L.getD k (0, 0)) = none → sumO L = none := fun h => sumO_none (k := k + 1) (by rw [hn, h])
      clear hs
      generalize L.getD k (0, 0) = z at *
      obtain ⟨x, y⟩ := z
      cases hxy : costB x y
      · have hz : Hid (sumO L = none) := hno (by simp [stepO, hxy])
        clear hn hno
        go_wp2_with (go_at_call 25; refine (cis_any _ _ _).mono ?_; rintro e w' ⟨rfl, rfl⟩)
        go_ret2
        exact ⟨ret_cb (sum_none (unhide hz)).1.symm (sum_none (unhide hz)).2.1.symm (sum_none (unhide hz)).2.2.symm, rfl⟩
      · obtain ⟨g1, g2⟩ := add_cost hA hB hxy
        have hop := fun t w => run_complex_sum (P := Try.prog) w .add (Or.inl rfl) t .f64 (F A) (F B) x y _ _ g1
        cases hq : (isB (A + tr x) && isB (B + tr y))
        · have hz : Hid (sumO L = none) := hno (by
            rcases Bool.and_eq_false_iff.1 hq with e | e <;> simp [stepO, e])
          rw [hq] at g2
          clear hn hno g1 hq
          generalize F (A + tr x) = u at *
          generalize F (B + tr y) = v at *
          generalize F A = p at *
          generalize F B = q at *
          go_wp2_with (go_at_call 25; refine (cis_any _ _ _).mono ?_; rintro e w' ⟨rfl, rfl⟩)
          go_ret2
          exact ⟨ret_cb (sum_none (unhide hz)).1.symm (sum_none (unhide hz)).2.1.symm (sum_none (unhide hz)).2.2.symm, rfl⟩
        · have hq' := hq
          rw [Bool.and_eq_true] at hq'
          have hz : Hid (sumO (L.take (k + 1)) = some (A + tr x, B + tr y)) := by show sumO _ = _; rw [hn]; simp [stepO, hxy, hq'.1, hq'.2]
          have hA' : Hid (isB (A + tr x) = true) := hq'.1
          have hB' : Hid (isB (B + tr y) = true) := hq'.2
          rw [hq] at g2
          clear hn hno g1 hq hq'
          generalize hu : F (A + tr x) = u at *
          generalize hv : F (B + tr y) = v at *
          have HU := hide hu
          have HV := hide hv
          clear hu hv
          generalize F A = p at *
          generalize F B = q at *
          go_wp2_with (go_at_call 25; refine (cis_any _ _ _).mono ?_; rintro e w' ⟨rfl, rfl⟩)
          go_round
          case rel => exact ⟨k + 1, by omega, by go_num, _, _, unhide hz, unhide hA', unhide hB', by rw [unhide HU, unhide HV]⟩
          case measure => simp [intOf]; omega
    · have hz : sumO L = some (A, B) := by rw [List.take_of_length_le (by omega)] at hs; exact hs
      have HZ := hide hz
      clear hz hs
      go_wp2
      go_ret2
      exact ⟨ret_cb (sum_some (unhide HZ)).1.symm (sum_some (unhide HZ)).2.1.symm (sum_some (unhide HZ)).2.2.symm, rfl⟩
theorem sum_nil (ao : Option Addr) (cap : Nat) (w : World) :
    Calls Try.prog 19 #[.slice ao 0 cap] w fun e w' => e = .returned (.tuple #[.complex .f64 0 0, .bool true]) ∧ w' = w := by
  go_enter Try.func19, Try.ntmps19
  go_wp2
  refine wp_loop_rounds 1 ?_
  rw [rounds_succ]
  go_wp2
  go_ret2
  exact ⟨rfl, rfl⟩
theorem sum_any (v : Value) (L : CL) (w : World) (hl : L.length ≤ maxLen) (h : CRow w v L) : Calls Try.prog 19 #[v] w fun e w' => e = .returned (.tuple #[.complex .f64 (sumRe L) (sumIm L), .bool (sumB L)]) ∧ w' = w := by
  obtain ⟨ao, cap, rfl, hc⟩ := h
  by_cases e : L = []
  · subst e
    exact sum_nil ao cap w
  · obtain ⟨b, off, rfl, hcc⟩ := hc e
    exact sum_rows L b off cap w hl hcc

set_option maxHeartbeats 800000 in
theorem rsum_rows (L : CL) (b off cap : Nat) (w : World) (hl : L.length ≤ maxLen) (hc : ∀ j, j < L.length → w.cell? ⟨b, off + j, none⟩ = some (.complex .f64 (L.getD j (0, 0)).1 (L.getD j (0, 0)).2)) :
    Calls Try.prog 20 #[.slice (some ⟨b, off, none⟩) L.length cap] w fun e w' => e = .returned (.tuple #[.complex .f64 (sumRe L) (sumIm L), .bool (sumB L)]) ∧ w' = w := by
  unfold maxLen at hl
  have HC := hide hc
  clear hc
  go_enter Try.func20, Try.ntmps20
  go_wp2
  go_loop [4, 5, 6] (fun a b i => ∃ k : Nat, k ≤ L.length ∧ i = .int .i64 k ∧ ∃ A B, sumO (L.take k) = some (A, B) ∧ isB A = true ∧ isB B = true ∧ a = .int .i64 A ∧ b = .int .i64 B) (fun _ _ i => L.length - (intOf i).toNat)
  case atStart => exact ⟨0, Nat.zero_le _, rfl, 0, 0, rfl, by decide, by decide, rfl, rfl⟩
  case round =>
    obtain ⟨k, hk, rfl, A, B, hs, hA, hB, rfl, rfl⟩ := hrel
    obtain ⟨A0, A1⟩ := (isB_iff A).1 hA
    obtain ⟨B0, B1⟩ := (isB_iff B).1 hB
    by_cases hlt : k < L.length
    · have hcx := unhide HC k hlt
      have hn : sumO (L.take (k + 1)) = stepO (some (A, B)) (L.getD k (0, 0)) := by rw [take_sn L k hlt, sumO_snoc, hs]
      have hno : stepO (some (A, B)) (L.getD k (0, 0)) = none → sumO L = none := fun h => sumO_none (k := k + 1) (by rw [hn, h])
      clear hs
      generalize L.getD k (0, 0) = z at *
      obtain ⟨x, y⟩ := z
      cases hxy : costB x y
      · have hz : Hid (sumO L = none) := hno (by simp [stepO, hxy])
        have k1 := workV_no hxy
        have k2 := againV_no hxy
        clear hn hno
        go_wp2_with (go_at_call 14; refine (rparts_any _ _ _).mono ?_; rintro e w' ⟨rfl, rfl⟩)
        go_ret2
        exact ⟨ret_cb (sum_none (unhide hz)).1.symm (sum_none (unhide hz)).2.1.symm (sum_none (unhide hz)).2.2.symm, rfl⟩
      · have k1 := workV_yes hxy
        have k2 := againV_yes hxy
        obtain ⟨⟨a0, a1⟩, b0, b1⟩ := cost_tr hxy
        cases hq : isB (A + tr x)
        · have hz : Hid (sumO L = none) := hno (by simp [stepO, hq])
          clear hn hno
          generalize tr x = u at *
          generalize tr y = v at *
          go_wp2_with (first
            | (go_at_call 14; refine (rparts_any _ _ _).mono ?_; rintro e w' ⟨rfl, rfl⟩)
            | (go_at_call 24; refine (ris_any _ _).mono ?_; rintro e w' ⟨rfl, rfl⟩))
          go_ret2
          exact ⟨ret_cb (sum_none (unhide hz)).1.symm (sum_none (unhide hz)).2.1.symm (sum_none (unhide hz)).2.2.symm, rfl⟩
        · cases hr : isB (B + tr y)
          · have hz : Hid (sumO L = none) := hno (by simp [stepO, hr])
            clear hn hno
            generalize tr x = u at *
            generalize tr y = v at *
            go_wp2_with (first
              | (go_at_call 14; refine (rparts_any _ _ _).mono ?_; rintro e w' ⟨rfl, rfl⟩)
              | (go_at_call 24; refine (ris_any _ _).mono ?_; rintro e w' ⟨rfl, rfl⟩))
            go_ret2
            exact ⟨ret_cb (sum_none (unhide hz)).1.symm (sum_none (unhide hz)).2.1.symm (sum_none (unhide hz)).2.2.symm, rfl⟩
          · have hz : Hid (sumO (L.take (k + 1)) = some (A + tr x, B + tr y)) := by show sumO _ = _; rw [hn]; simp [stepO, hxy, hq, hr]
            have HQ := hide hq
            have HR := hide hr
            clear hn hno
            generalize tr x = u at *
            generalize tr y = v at *
            go_wp2_with (first
              | (go_at_call 14; refine (rparts_any _ _ _).mono ?_; rintro e w' ⟨rfl, rfl⟩)
              | (go_at_call 24; refine (ris_any _ _).mono ?_; rintro e w' ⟨rfl, rfl⟩))
            go_round
            case rel => exact ⟨k + 1, by omega, by go_num, _, _, unhide hz, unhide HQ, unhide HR, by go_num, by go_num⟩
            case measure => simp [intOf]; omega
    · have hz : sumO L = some (A, B) := by rw [List.take_of_length_le (by omega)] at hs; exact hs
      have HZ := hide hz
      have hab : areB A B = true := by simp [areB, hA, hB]
      have h1 := ofRe_yes hab
      have h2 := ofIm_yes hab
      clear hz hs
      generalize hu : F A = u at *
      generalize hv : F B = v at *
      have HU := hide hu
      have HV := hide hv
      clear hu hv
      go_wp2_with (go_at_call 10; refine (rof_any _ _ _).mono ?_; rintro e w' ⟨rfl, rfl⟩)
      go_ret2
      exact ⟨ret_cb (by rw [(sum_some (unhide HZ)).1, unhide HU]) (by rw [(sum_some (unhide HZ)).2.1, unhide HV]) (sum_some (unhide HZ)).2.2.symm, rfl⟩
theorem are00 : areB 0 0 = true := by decide
theorem rsum_nil (ao : Option Addr) (cap : Nat) (w : World) :
    Calls Try.prog 20 #[.slice ao 0 cap] w fun e w' => e = .returned (.tuple #[.complex .f64 0 0, .bool true]) ∧ w' = w := by
  have h0 := are00
  have h1 : ofRe 0 0 = 0 := rfl
  have h2 : ofIm 0 0 = 0 := rfl
  go_enter Try.func20, Try.ntmps20
  go_wp2
  refine wp_loop_rounds 1 ?_
  rw [rounds_succ]
  go_wp2_with (go_at_call 10; refine (rof_any _ _ _).mono ?_; rintro e w' ⟨rfl, rfl⟩)
  go_ret2
  exact ⟨rfl, rfl⟩
theorem rsum_any (v : Value) (L : CL) (w : World) (hl : L.length ≤ maxLen) (h : CRow w v L) : Calls Try.prog 20 #[v] w fun e w' => e = .returned (.tuple #[.complex .f64 (sumRe L) (sumIm L), .bool (sumB L)]) ∧ w' = w := by
  obtain ⟨ao, cap, rfl, hc⟩ := h
  by_cases e : L = []
  · subst e
    exact rsum_nil ao cap w
  · obtain ⟨b, off, rfl, hcc⟩ := hc e
    exact rsum_rows L b off cap w hl hcc

/- so many times -/
def timesB (x y : Nat) (n : Int) : Bool := costB x y && decide (0 ≤ n) && decide (tr x * n ≤ 1099511627776) && decide (tr y * n ≤ 1099511627776)
def timesRe (x y : Nat) (n : Int) : Nat := if timesB x y n then F (tr x * n) else 0
def timesIm (x y : Nat) (n : Int) : Nat := if timesB x y n then F (tr y * n) else 0
theorem times_sum {x y re im : Nat} {n : Int} (h : costB x y = true) (n0 : 0 ≤ n) (p1 : PartOf re (tr x * n)) (p2 : PartOf im (tr y * n)) :
    sumRe [(re, im)] = timesRe x y n ∧ sumIm [(re, im)] = timesIm x y n ∧ sumB [(re, im)] = timesB x y n := by
  obtain ⟨⟨a0, a1⟩, b0, b1⟩ := cost_tr h
  have q1 := Int.mul_nonneg a0 n0
  have q2 := Int.mul_nonneg b0 n0
  have w1 := part_whole p1 q1
  have w2 := part_whole p2 q2
  by_cases h1 : tr x * n ≤ 1099511627776
  · by_cases h2 : tr y * n ≤ 1099511627776
    · have hB : timesB x y n = true := by simp [timesB, h, n0, h1, h2]
      have hS : sumO [(re, im)] = some (tr x * n, tr y * n) := by
        simp [sumO, stepO, costB, w1, w2, h1, h2, part_tr p1 h1, part_tr p2 h2, isB_yes q1 h1, isB_yes q2 h2]
      rw [(sum_some hS).1, (sum_some hS).2.1, (sum_some hS).2.2, timesRe, timesIm, hB]
      exact ⟨rfl, rfl, rfl⟩
    · have hB : timesB x y n = false := by simp [timesB, h2]
      have hS : sumO [(re, im)] = none := by simp [sumO, stepO, costB, w2, h2]
      rw [(sum_none hS).1, (sum_none hS).2.1, (sum_none hS).2.2, timesRe, timesIm, hB]
      exact ⟨rfl, rfl, rfl⟩
  · have hB : timesB x y n = false := by simp [timesB, h1]
    have hS : sumO [(re, im)] = none := by simp [sumO, stepO, costB, w1, h1]
    rw [(sum_none hS).1, (sum_none hS).2.1, (sum_none hS).2.2, timesRe, timesIm, hB]
    exact ⟨rfl, rfl, rfl⟩
theorem times_no {x y : Nat} {n : Int} (h : timesB x y n = false) : timesRe x y n = 0 ∧ timesIm x y n = 0 := by simp [timesRe, timesIm, h]

set_option maxHeartbeats 400000 in
theorem times_any (x y : Nat) (n : Int) (w : World) (n1 : n < 9223372036854775808) : Calls Try.prog 17 #[.complex .f64 x y, .int .i64 n] w fun e w' =>
    e = .returned (.tuple #[.complex .f64 (timesRe x y n) (timesIm x y n), .bool (timesB x y n)]) ∧ Below w.heap.size w w' := by
  cases h : costB x y
  · have hB : Hid (timesB x y n = false) := by show timesB x y n = false; simp [timesB, h]
    have h1 : Hid (timesRe x y n = 0) := (times_no hB.out).1
    have h2 : Hid (timesIm x y n = 0) := (times_no hB.out).2
    go_enter Try.func17, Try.ntmps17
    go_wp2_with (go_at_call 25; refine (cis_any _ _ _).mono ?_; rintro e w' ⟨rfl, rfl⟩)
    go_ret2
    exact ⟨ret_cb (unhide h1).symm (unhide h2).symm (unhide hB).symm, Below.refl _ _⟩
  · by_cases n0 : 0 ≤ n
    · obtain ⟨⟨a0, a1⟩, b0, b1⟩ := cost_tr h
      obtain ⟨re, im, hm, p1, p2⟩ := times_words (whole_yes (cost_yes h).1).1 (whole_yes (cost_yes h).2).1 a0 a1 b0 b1 n0 n1
      obtain ⟨s1, s2, s3⟩ := times_sum h n0 p1 p2
      have hop := fun t w => run_complex_mul (P := Try.prog) w t x y (floatOfInt .f64 n) 0 re im hm
      have S1 := hide s1
      have S2 := hide s2
      have S3 := hide s3
      clear hm p1 p2 s1 s2 s3 a0 a1 b0 b1
      go_enter Try.func17, Try.ntmps17
      go_wp2_with (go_at_call 25; refine (cis_any _ _ _).mono ?_; rintro e w' ⟨rfl, hw⟩; rw [hw]; clear hw w')
      refine (sum_any _ [(re, im)] _ (by show 1 ≤ maxLen; decide) ⟨_, _, rfl, fun _ => ⟨w.heap.size, 0, rfl, fun j hj => ?_⟩⟩).mono ?_
      · match j, hj with
        | 0, _ => simp
      rintro e w' ⟨rfl, hw⟩
      rw [hw, unhide S1, unhide S2, unhide S3]
      clear hw w'
      go_wp2
      go_ret2
      exact ⟨rfl, (Below.refl _ _).alloc (Nat.le_refl _) _⟩
    · have hB : Hid (timesB x y n = false) := by show timesB x y n = false; simp [timesB, n0]
      have h1 : Hid (timesRe x y n = 0) := (times_no hB.out).1
      have h2 : Hid (timesIm x y n = 0) := (times_no hB.out).2
      go_enter Try.func17, Try.ntmps17
      go_wp2_with (go_at_call 25; refine (cis_any _ _ _).mono ?_; rintro e w' ⟨rfl, rfl⟩)
      go_ret2
      exact ⟨ret_cb (unhide h1).symm (unhide h2).symm (unhide hB).symm, Below.refl _ _⟩

theorem quo_le {a n : Int} (a0 : 0 < a) : a * n ≤ 1099511627776 ↔ n ≤ 1099511627776 / a := by
  rw [Int.le_ediv_iff_mul_le a0, Int.mul_comm]
set_option maxHeartbeats 800000 in
theorem rtimes_any (x y : Nat) (n : Int) (w : World) : Calls Try.prog 18 #[.complex .f64 x y, .int .i64 n] w fun e w' =>
    e = .returned (.tuple #[.complex .f64 (timesRe x y n) (timesIm x y n), .bool (timesB x y n)]) ∧ w' = w := by
  cases h : costB x y
  · have hB : Hid (timesB x y n = false) := by show timesB x y n = false; simp [timesB, h]
    have h1 : Hid (timesRe x y n = 0) := (times_no hB.out).1
    have h2 : Hid (timesIm x y n = 0) := (times_no hB.out).2
    go_enter Try.func18, Try.ntmps18
    go_wp2_with (go_at_call 14; refine (rparts_any _ _ _).mono ?_; rintro e w' ⟨rfl, rfl⟩)
    go_ret2
    exact ⟨ret_cb (unhide h1).symm (unhide h2).symm (unhide hB).symm, rfl⟩
  · have k1 := workV_yes h
    have k2 := againV_yes h
    obtain ⟨⟨a0, a1⟩, b0, b1⟩ := cost_tr h
    by_cases n0 : 0 ≤ n
    · have q1 := Int.mul_nonneg a0 n0
      have q2 := Int.mul_nonneg b0 n0
      cases hB : timesB x y n
      · have h1 : Hid (timesRe x y n = 0) := (times_no hB).1
        have h2 : Hid (timesIm x y n = 0) := (times_no hB).2
        have hno : ¬ (tr x * n ≤ 1099511627776 ∧ tr y * n ≤ 1099511627776) := by
          intro ⟨e1, e2⟩; simp [timesB, h, n0, e1, e2] at hB
        clear hB
        generalize tr x = a at *
        generalize tr y = b at *
        by_cases hx : a * n ≤ 1099511627776
        · have hy : ¬ b * n ≤ 1099511627776 := fun e => hno ⟨hx, e⟩
          have hb : 0 < b := by
            rcases Int.lt_or_le 0 b with l | l
            · exact l
            · have : b = 0 := by omega
              rw [this, Int.zero_mul] at hy; omega
          have hq := mt (quo_le hb).2 hy
          have hbz : (b == 0) = false := by simp; omega
          by_cases ha : 0 < a
          · have hp := (quo_le ha).1 hx
            have haz : (a == 0) = false := by simp; omega
            clear hno hx hy q1 q2
            go_enter Try.func18, Try.ntmps18
            go_wp2_with (go_at_call 14; refine (rparts_any _ _ _).mono ?_; rintro e w' ⟨rfl, rfl⟩)
            go_ret2
            exact ⟨ret_cb (unhide h1).symm (unhide h2).symm rfl, rfl⟩
          · clear hno hx hy q1 q2
            go_enter Try.func18, Try.ntmps18
            go_wp2_with (go_at_call 14; refine (rparts_any _ _ _).mono ?_; rintro e w' ⟨rfl, rfl⟩)
            go_ret2
            exact ⟨ret_cb (unhide h1).symm (unhide h2).symm rfl, rfl⟩
        · have ha : 0 < a := by
            rcases Int.lt_or_le 0 a with l | l
            · exact l
            · have : a = 0 := by omega
              rw [this, Int.zero_mul] at hx; omega
          have hq := mt (quo_le ha).2 hx
          have haz : (a == 0) = false := by simp; omega
          clear hno hx q1 q2
          go_enter Try.func18, Try.ntmps18
          go_wp2_with (go_at_call 14; refine (rparts_any _ _ _).mono ?_; rintro e w' ⟨rfl, rfl⟩)
          go_ret2
          exact ⟨ret_cb (unhide h1).symm (unhide h2).symm rfl, rfl⟩
      · have hyes : tr x * n ≤ 1099511627776 ∧ tr y * n ≤ 1099511627776 := by
          simp [timesB] at hB; exact ⟨hB.1.2, hB.2⟩
        obtain ⟨hx, hy⟩ := hyes
        have hab : areB (tr x * n) (tr y * n) = true := (areB_iff _ _).2 ⟨⟨q1, hx⟩, q2, hy⟩
        have h1 : Hid (timesRe x y n = ofRe (tr x * n) (tr y * n)) := by show timesRe x y n = _; rw [ofRe_yes hab, timesRe, hB]; rfl
        have h2 : Hid (timesIm x y n = ofIm (tr x * n) (tr y * n)) := by show timesIm x y n = _; rw [ofIm_yes hab, timesIm, hB]; rfl
        clear hB
        generalize tr x = a at *
        generalize tr y = b at *
        by_cases ha : 0 < a
        · have hp := (quo_le ha).1 hx
          have haz : (a == 0) = false := by simp; omega
          by_cases hb : 0 < b
          · have hq := (quo_le hb).1 hy
            have hbz : (b == 0) = false := by simp; omega
            go_enter Try.func18, Try.ntmps18
            go_wp2_with (first
              | (go_at_call 14; refine (rparts_any _ _ _).mono ?_; rintro e w' ⟨rfl, rfl⟩)
              | (go_at_call 10; refine (rof_any _ _ _).mono ?_; rintro e w' ⟨rfl, rfl⟩))
            go_ret2
            exact ⟨ret_cb (unhide h1).symm (unhide h2).symm rfl, rfl⟩
          · go_enter Try.func18, Try.ntmps18
            go_wp2_with (first
              | (go_at_call 14; refine (rparts_any _ _ _).mono ?_; rintro e w' ⟨rfl, rfl⟩)
              | (go_at_call 10; refine (rof_any _ _ _).mono ?_; rintro e w' ⟨rfl, rfl⟩))
            go_ret2
            exact ⟨ret_cb (unhide h1).symm (unhide h2).symm rfl, rfl⟩
        · by_cases hb : 0 < b
          · have hq := (quo_le hb).1 hy
            have hbz : (b == 0) = false := by simp; omega
            go_enter Try.func18, Try.ntmps18
            go_wp2_with (first
              | (go_at_call 14; refine (rparts_any _ _ _).mono ?_; rintro e w' ⟨rfl, rfl⟩)
              | (go_at_call 10; refine (rof_any _ _ _).mono ?_; rintro e w' ⟨rfl, rfl⟩))
            go_ret2
            exact ⟨ret_cb (unhide h1).symm (unhide h2).symm rfl, rfl⟩
          · go_enter Try.func18, Try.ntmps18
            go_wp2_with (first
              | (go_at_call 14; refine (rparts_any _ _ _).mono ?_; rintro e w' ⟨rfl, rfl⟩)
              | (go_at_call 10; refine (rof_any _ _ _).mono ?_; rintro e w' ⟨rfl, rfl⟩))
            go_ret2
            exact ⟨ret_cb (unhide h1).symm (unhide h2).symm rfl, rfl⟩
    · have hB : Hid (timesB x y n = false) := by show timesB x y n = false; simp [timesB, n0]
      have h1 : Hid (timesRe x y n = 0) := (times_no hB.out).1
      have h2 : Hid (timesIm x y n = 0) := (times_no hB.out).2
      go_enter Try.func18, Try.ntmps18
      go_wp2_with (go_at_call 14; refine (rparts_any _ _ _).mono ?_; rintro e w' ⟨rfl, rfl⟩)
      go_ret2
      exact ⟨ret_cb (unhide h1).symm (unhide h2).symm (unhide hB).symm, rfl⟩

theorem times_refl (x y : Nat) (n : Int) : (FloatKind.f64.format.order (timesRe x y n) (timesRe x y n) == some .eq) = true ∧ (FloatKind.f64.format.order (timesIm x y n) (timesIm x y n) == some .eq) = true := by
  cases hB : timesB x y n
  · rw [(times_no hB).1, (times_no hB).2]
    exact ⟨order_refl rep_zero, order_refl rep_zero⟩
  · have h := hB
    simp only [timesB, Bool.and_eq_true, decide_eq_true_eq] at h
    obtain ⟨⟨a0, a1⟩, b0, b1⟩ := cost_tr h.1.1.1
    have q1 := Int.mul_nonneg a0 h.1.1.2
    have q2 := Int.mul_nonneg b0 h.1.1.2
    rw [timesRe, timesIm, hB]
    exact ⟨order_refl (read_F _ (by omega)), order_refl (read_F _ (by omega))⟩
theorem times_zero {a b : Int} (h : areB a b = true) : timesRe (F a) (F b) 0 = 0 ∧ timesIm (F a) (F b) 0 = 0 ∧ timesB (F a) (F b) 0 = true := by
  have hB : timesB (F a) (F b) 0 = true := by simp [timesB, (cost_F h).1]
  rw [timesRe, timesIm, hB, Int.mul_zero, Int.mul_zero]
  exact ⟨rfl, rfl, rfl⟩
theorem sum_twice {a b : Int} (h : areB a b = true) : sumRe [(F a, F b), (F a, F b)] = timesRe (F a) (F b) 2 ∧ sumIm [(F a, F b), (F a, F b)] = timesIm (F a) (F b) 2 ∧ sumB [(F a, F b), (F a, F b)] = timesB (F a) (F b) 2 := by
  obtain ⟨hc, ha, hb⟩ := cost_F h
  obtain ⟨⟨a0, a1⟩, b0, b1⟩ := (areB_iff a b).1 h
  have i1 : isB a = true := isB_yes a0 a1
  have i2 : isB b = true := isB_yes b0 b1
  have hS : sumO [(F a, F b), (F a, F b)] = if isB (a + a) && isB (b + b) then some (a + a, b + b) else none := by
    simp [sumO, stepO, hc, ha, hb, i1, i2]
  have hT : timesB (F a) (F b) 2 = (isB (a + a) && isB (b + b)) := by
    rw [Bool.eq_iff_iff]; simp [timesB, hc, ha, hb, isB_iff]; omega
  cases hq : (isB (a + a) && isB (b + b))
  · rw [hq] at hS hT
    have hS' : sumO [(F a, F b), (F a, F b)] = none := hS
    rw [(sum_none hS').1, (sum_none hS').2.1, (sum_none hS').2.2, timesRe, timesIm, hT]
    exact ⟨rfl, rfl, rfl⟩
  · rw [hq] at hS hT
    have hS' : sumO [(F a, F b), (F a, F b)] = some (a + a, b + b) := hS
    rw [(sum_some hS').1, (sum_some hS').2.1, (sum_some hS').2.2, timesRe, timesIm, hT, ha, hb, show a * 2 = a + a by omega, show b * 2 = b + b by omega]
    exact ⟨rfl, rfl, rfl⟩
end Go.Proofs.Ytmllmmgpbbobmaa.Cost
