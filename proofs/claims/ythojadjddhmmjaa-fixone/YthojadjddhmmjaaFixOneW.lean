/- The laws of chapter 10, over what package fix answers: one load. -/
import Derived.Test.YthojadjddhmmjaaFixLaw2
namespace Go.Proofs.Ythojadjddhmmjaa.Fix
open Go.ChangeShapes Go.WideShapes Go.RowKit

theorem one_sum (b t c w : Int) : sumZ b [⟨t, c⟩] w = b + ceilZ w t * c := rfl
theorem one_ok {t c : Int} (ht : 1 ≤ t ∧ t ≤ 300) (hc : 0 ≤ c ∧ c ≤ 300) : OkL [⟨t, c⟩] := fun x hx => by
  have : x = ⟨t, c⟩ := by simpa using hx
  subst this
  exact ⟨⟨ht.1, by show t ≤ 1000000; omega⟩, hc.1, by show c ≤ 1000000; omega⟩
theorem one_may {b t c : Int} (hb : 0 ≤ b ∧ b ≤ 300) (ht : 1 ≤ t ∧ t ≤ 300) (hc : 0 ≤ c ∧ c ≤ 300) : mayB b [⟨t, c⟩] = true := may_of ⟨hb.1, by omega⟩ (by simp) (one_ok ht hc)
theorem ceil_low {w t : Int} (ht : 1 ≤ t) : ceilZ w t * t ≤ w + t - 1 := Int.ediv_mul_le _ (by omega)
theorem ceil_up {w t : Int} (ht : 1 ≤ t) : w ≤ ceilZ w t * t := by
  have := Int.lt_ediv_add_one_mul_self (w + t - 1) (show 0 < t by omega)
  rw [Int.add_mul, Int.one_mul] at this
  unfold ceilZ
  omega
theorem one_first {b t c : Int} (ht : 1 ≤ t) : sumZ b [⟨t, c⟩] 1 = b + c := by rw [one_sum, ceil_one ht, Int.one_mul]
theorem prod_range {x y : Int} (hx : 0 ≤ x ∧ x ≤ 300) (hy : 0 ≤ y ∧ y ≤ 300) : 0 ≤ x * y ∧ x * y ≤ 90000 := by
  have h1 := Int.mul_nonneg hx.1 hy.1
  have h2 := Int.mul_le_mul hx.2 hy.2 hy.1 (by decide)
  omega
theorem one_some {b t c : Int} (hb : 0 ≤ b ∧ b ≤ 300) (ht : 1 ≤ t ∧ t ≤ 300) (hc : 0 ≤ c ∧ c < t) (h : 0 < b + c) : ∃ n, IsLeast (sumZ b [⟨t, c⟩]) (some n) ∧ n ≤ (b * t + t * c) / (t - c) + t := by
  have ok := one_ok ht ⟨hc.1, by omega⟩
  have r1 := prod_range hb ⟨by omega, ht.2⟩
  have r2 := prod_range (x := t) (y := c) ⟨by omega, ht.2⟩ ⟨hc.1, by omega⟩
  have e1 := Int.lt_ediv_add_one_mul_self (b * t + t * c) (show 0 < t - c by omega)
  have e2 : 0 ≤ (b * t + t * c) / (t - c) := Int.ediv_nonneg (by omega) (by omega)
  have e3 : (b * t + t * c) / (t - c) ≤ b * t + t * c := Int.ediv_le_self _ (by omega)
  generalize hE : (b * t + t * c) / (t - c) = E at *
  clear hE
  have hw : sumZ b [⟨t, c⟩] (E + t) ≤ E + t := by
    rw [one_sum]
    have q1 := ceil_low (w := E + t) (t := t) ht.1
    generalize ceilZ (E + t) t = q at *
    have q2 := Int.mul_le_mul_of_nonneg_right q1 hc.1
    refine Int.le_of_mul_le_mul_left ?_ (show 0 < t by omega)
    have a1 : t * (b + q * c) = b * t + q * t * c := by rw [Int.mul_add, Int.mul_comm t b, ← Int.mul_assoc, Int.mul_comm t q]
    have a2 : (E + t + t - 1) * c = E * c + t * c + t * c - c := by rw [Int.sub_mul, Int.add_mul, Int.add_mul, Int.one_mul]
    have a3 : (E + 1) * (t - c) = E * t - E * c + t - c := by rw [Int.add_mul, Int.one_mul, Int.mul_sub]; omega
    have a4 : t * (E + t) = E * t + t * t := by rw [Int.mul_add, Int.mul_comm t E]
    have a5 : t * c ≤ t * t - t := by
      have := Int.mul_le_mul_of_nonneg_left (show c ≤ t - 1 by omega) (show 0 ≤ t by omega)
      rw [Int.mul_sub, Int.mul_one] at this
      exact this
    rw [a1, a4]
    rw [a2] at q2
    rw [a3] at e1
    generalize q * t * c = z1 at *
    generalize E * c = z2 at *
    generalize E * t = z3 at *
    generalize t * c = z4 at *
    generalize t * t = z5 at *
    generalize b * t = z6 at *
    omega
  obtain ⟨k, hk⟩ : ∃ k : Nat, E + t = k := ⟨(E + t).toNat, by omega⟩
  obtain ⟨m, hm, hl⟩ := least_to (f := sumZ b [⟨t, c⟩]) (fun v w hv => sum_mono _ b b v w ok (Int.le_refl _) hv) (by rw [one_first ht.1]; omega) k (by omega) (by omega) (by rw [← hk]; exact hw)
  exact ⟨m, hl, by omega⟩
theorem one_none {b t c : Int} (hb : 0 ≤ b) (ht : 1 ≤ t) (h : t < c ∨ (c = t ∧ 0 < b)) : IsLeast (sumZ b [⟨t, c⟩]) none := by
  intro w h1 _
  rw [one_sum]
  have q1 := ceil_up (w := w) ht
  have q0 : 1 ≤ ceilZ w t := by have := ceil_mono ht h1; rw [ceil_one ht] at this; exact this
  generalize ceilZ w t = q at *
  rcases h with h | ⟨h, h2⟩
  · have := Int.mul_le_mul_of_nonneg_left (show t + 1 ≤ c by omega) (show 0 ≤ q by omega)
    rw [Int.mul_add, Int.mul_one] at this
    omega
  · subst h; omega
theorem one_even {t : Int} (ht : 1 ≤ t ∧ t ≤ 300) : ∃ n, IsLeast (sumZ 0 [⟨t, t⟩]) (some n) := by
  obtain ⟨k, rfl⟩ : ∃ k : Nat, t = k := ⟨t.toNat, by omega⟩
  have ok := one_ok ht (c := k) ⟨by omega, ht.2⟩
  have e : ceilZ (k : Int) k = 1 := by
    have h1 := ceil_low (w := (k : Int)) ht.1
    have h2 := ceil_up (w := (k : Int)) ht.1
    have h3 : ceilZ (k : Int) k < 2 := Int.ediv_lt_of_lt_mul (by omega) (by omega)
    have h4 : 1 ≤ ceilZ (k : Int) k := by have := ceil_mono ht.1 ht.1; rw [ceil_one ht.1] at this; exact this
    omega
  obtain ⟨m, -, hl⟩ := least_to (f := sumZ 0 [⟨(k : Int), k⟩]) (fun v w hv => sum_mono _ 0 0 v w ok (Int.le_refl _) hv) (by rw [one_first ht.1]; omega) k (by omega) (by omega) (by rw [one_sum, e]; omega)
  exact ⟨m, hl⟩
theorem one_zero (t : Int) : IsLeast (sumZ 0 [⟨t, 0⟩]) none := by
  intro w h1 _
  rw [one_sum, Int.mul_zero]
  omega
set_option maxHeartbeats 1600000 in
theorem fone_law (hS : CFSum) (hL : CFLeast) (b t c : Int) (w : World) (ib : I64 b) (it : I64 t) (ic : I64 c) : Calls Try.prog 7 #[.int .i64 b, .int .i64 t, .int .i64 c] w fun e w' => e = .returned (.bool true) ∧ Below w.heap.size w w' := by
  have CK := hide (fun W => fknown_any hL W)
  by_cases b0 : b < 0
  · go_enter Try.func7, Try.ntmps7
    go_wp2
    go_ret
    exact ⟨rfl, Below.refl _ _⟩
  by_cases b1 : 300 < b
  · go_enter Try.func7, Try.ntmps7
    go_wp2
    go_ret
    exact ⟨rfl, Below.refl _ _⟩
  by_cases t0 : t < 1
  · go_enter Try.func7, Try.ntmps7
    go_wp2
    go_ret
    exact ⟨rfl, Below.refl _ _⟩
  by_cases t1 : 300 < t
  · go_enter Try.func7, Try.ntmps7
    go_wp2
    go_ret
    exact ⟨rfl, Below.refl _ _⟩
  by_cases c0 : c < 0
  · go_enter Try.func7, Try.ntmps7
    go_wp2
    go_ret
    exact ⟨rfl, Below.refl _ _⟩
  by_cases c1 : 300 < c
  · go_enter Try.func7, Try.ntmps7
    go_wp2
    go_ret
    exact ⟨rfl, Below.refl _ _⟩
  have hm : mayB b [⟨t, c⟩] = true := one_may ⟨by omega, by omega⟩ ⟨by omega, by omega⟩ ⟨by omega, by omega⟩
  have CL := hide (fun W h => hL b (some ⟨w.heap.size, 0, none⟩) 1 [⟨t, c⟩] W h ib)
  have CS := hide (fun g u W h hu => hS b (some ⟨g, 0, none⟩) 1 [⟨t, c⟩] u W h ib hu)
  have HB := hide ((Below.refl w.heap.size w).alloc (Nat.le_refl _) (.cells #[.int .i64 t, .int .i64 c] 31))
  have HM := hide hm
  have HT := hide it
  have HC := hide ic
  clear hS hL hm ib it ic
  have e0 : IntKind.i64.wrap (b + c) = b + c := i64_is _ (by omega)
  by_cases ct : c < t
  · by_cases bc : 0 < b + c
    · obtain ⟨n, hn, hle⟩ := one_some (b := b) (t := t) (c := c) ⟨by omega, by omega⟩ ⟨by omega, by omega⟩ ⟨by omega, ct⟩ bc
      have r1 := prod_range (x := b) (y := t) ⟨by omega, by omega⟩ ⟨by omega, by omega⟩
      have r2 := prod_range (x := t) (y := c) ⟨by omega, by omega⟩ ⟨by omega, by omega⟩
      have d1 : (b * t + t * c).tdiv (t - c) = (b * t + t * c) / (t - c) := Int.tdiv_eq_ediv_of_nonneg (by omega)
      have d2 : 0 ≤ (b * t + t * c) / (t - c) := Int.ediv_nonneg (by omega) (by omega)
      have d3 : (b * t + t * c) / (t - c) ≤ b * t + t * c := Int.ediv_le_self _ (by omega)
      have w1 : IntKind.i64.wrap (b * t) = b * t := i64_is _ (by omega)
      have w2 : IntKind.i64.wrap (t * c) = t * c := i64_is _ (by omega)
      have w3 : IntKind.i64.wrap (b * t + t * c) = b * t + t * c := i64_is _ (by omega)
      have w4 : IntKind.i64.wrap (t - c) = t - c := i64_is _ (by omega)
      have w5 : t - c ≠ 0 := by omega
      generalize hE : (b * t + t * c) / (t - c) = E at *
      clear hE
      have w6 : IntKind.i64.wrap E = E := i64_is _ (by omega)
      have w7 : IntKind.i64.wrap (E + t) = E + t := i64_is _ (by omega)
      have HN := hide hn
      have HS := hide (sum_yes (unhide HM) (u := n) ⟨by have := hn.1.1; omega, hn.1.2⟩)
      have HF := hide hn.2.1
      have n1 := hn.1
      clear hn
      go_enter Try.func7, Try.ntmps7
      go_wp2_with fail
      refine (unhide CL _ (one_in (unhide HT) (unhide HC) (by simp) (by simp))).mono ?_
      rintro e v1 ⟨hp, bel⟩
      obtain rfl := leastP_is hp (r := some n) (by rw [if_pos (unhide HM)]; exact unhide HN)
      have B1 := hide ((unhide HB).trans (bel.mono (by simp)))
      clear bel hp
      simp only [valO, Option.getD_some, Option.isSome_some]
      have CN := hide (fun W h => unhide CS v1.heap.size n W h (by unfold I64; omega))
      rw [unhide HS, if_pos rfl, unhide HF] at CN
      go_wp2_with fail
      refine (unhide CN _ (one_in (unhide HT) (unhide HC) (by simp) (by simp))).mono ?_
      rintro e v2 ⟨rfl, bel⟩
      have B2 := hide (((unhide B1).alloc (unhide B1).size _).trans (bel.mono (by have := (unhide B1).size; simp; omega)))
      clear bel
      go_wp2_with fail
      refine (unhide CK _).mono ?_
      rintro e v3 ⟨rfl, bel⟩
      have B3 := hide (below_on (unhide B2) bel)
      clear bel
      go_wp2
      go_ret
      exact ⟨rfl, unhide B3⟩
    · obtain rfl : b = 0 := by omega
      obtain rfl : c = 0 := by omega
      have t2 : (0 : Int) ≠ t := by omega
      have t3 : ((0 : Int) == t) = false := beq_eq_false_iff_ne.2 t2
      go_enter Try.func7, Try.ntmps7
      go_wp2_with fail
      refine (unhide CL _ (one_in (unhide HT) (unhide HC) (by simp) (by simp))).mono ?_
      rintro e v1 ⟨hp, bel⟩
      obtain rfl := leastP_is hp (r := none) (by rw [if_pos (unhide HM)]; exact one_zero t)
      have B1 := hide ((unhide HB).trans (bel.mono (by simp)))
      clear bel hp
      simp only [valO, Option.getD_none, Option.isSome_none]
      go_wp2_with fail
      refine (unhide CK _).mono ?_
      rintro e v3 ⟨rfl, bel⟩
      have B3 := hide (below_on (unhide B1) bel)
      clear bel
      go_wp2
      go_ret
      exact ⟨rfl, unhide B3⟩
  by_cases tc : t < c
  · have HO := hide (one_none (b := b) (t := t) (c := c) (by omega) (by omega) (.inl tc))
    go_enter Try.func7, Try.ntmps7
    go_wp2_with fail
    refine (unhide CL _ (one_in (unhide HT) (unhide HC) (by simp) (by simp))).mono ?_
    rintro e v1 ⟨hp, bel⟩
    obtain rfl := leastP_is hp (r := none) (by rw [if_pos (unhide HM)]; exact unhide HO)
    have B1 := hide ((unhide HB).trans (bel.mono (by simp)))
    clear bel hp
    simp only [valO, Option.getD_none, Option.isSome_none]
    go_wp2_with fail
    refine (unhide CK _).mono ?_
    rintro e v3 ⟨rfl, bel⟩
    have B3 := hide (below_on (unhide B1) bel)
    clear bel
    go_wp2
    go_ret
    exact ⟨rfl, unhide B3⟩
  obtain rfl : c = t := by omega
  by_cases bp : 0 < b
  · have HO := hide (one_none (b := b) (t := c) (c := c) (by omega) (by omega) (.inr ⟨rfl, bp⟩))
    go_enter Try.func7, Try.ntmps7
    go_wp2_with fail
    refine (unhide CL _ (one_in (unhide HT) (unhide HC) (by simp) (by simp))).mono ?_
    rintro e v1 ⟨hp, bel⟩
    obtain rfl := leastP_is hp (r := none) (by rw [if_pos (unhide HM)]; exact unhide HO)
    have B1 := hide ((unhide HB).trans (bel.mono (by simp)))
    clear bel hp
    simp only [valO, Option.getD_none, Option.isSome_none]
    go_wp2_with fail
    refine (unhide CK _).mono ?_
    rintro e v3 ⟨rfl, bel⟩
    have B3 := hide (below_on (unhide B1) bel)
    clear bel
    go_wp2
    go_ret
    exact ⟨rfl, unhide B3⟩
  · obtain rfl : b = 0 := by omega
    obtain ⟨n, hn⟩ := one_even (t := c) ⟨by omega, by omega⟩
    have HN := hide hn
    clear hn
    go_enter Try.func7, Try.ntmps7
    go_wp2_with fail
    refine (unhide CL _ (one_in (unhide HT) (unhide HC) (by simp) (by simp))).mono ?_
    rintro e v1 ⟨hp, bel⟩
    obtain rfl := leastP_is hp (r := some n) (by rw [if_pos (unhide HM)]; exact unhide HN)
    have B1 := hide ((unhide HB).trans (bel.mono (by simp)))
    clear bel hp
    simp only [valO, Option.getD_some, Option.isSome_some]
    go_wp2_with fail
    refine (unhide CK _).mono ?_
    rintro e v3 ⟨rfl, bel⟩
    have B3 := hide (below_on (unhide B1) bel)
    clear bel
    go_wp2
    go_ret
    exact ⟨rfl, unhide B3⟩
end Go.Proofs.Ythojadjddhmmjaa.Fix
