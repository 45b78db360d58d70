/- Which binary64 words the code and its reference take for parts of a cost; what sums and products of such words are. No conditions but those that each theorem bears. -/
import Derived.Test.YtndhjfpjhpnbaaaCostMath
namespace Go.Proofs.Ytndhjfpjhpnbaaa.Cost
set_option maxRecDepth 100000
open Ieee

theorem last_F : F 1099511627776 = 4787326403894837248 := by decide
theorem zero_F : F 0 = 0 := rfl
theorem rep_zero : Rep (double.read 0) 0 := read_F 0 (by decide)
theorem rep_last : Rep (double.read 4787326403894837248) 1099511627776 := by rw [← last_F]; exact read_F _ (by decide)

theorem order_swap (d e : Datum) : e.order d = (d.order e).map Ordering.swap := by
  cases d <;> cases e <;> simp only [Datum.order, Option.map]
  case number.number => rw [Int.min_comm]; exact congrArg some (Int.compare_swap _ _).symm
  case number.infinity s m i t => cases t <;> rfl
  case infinity.number t s m i => cases t <;> rfl
  case infinity.infinity s t => cases s <;> cases t <;> rfl
theorem word_swap (x y : Nat) : double.order y x = (double.order x y).map Ordering.swap := order_swap _ _

/- towards zero -/
theorem tcut_le (s : Bool) (n d : Nat) : Toward.zero.cut s n d * 2 ^ d ≤ n := by
  simp only [Toward.cut, Nat.one_shiftLeft, Bool.toNat_false, Nat.add_zero]
  by_cases h : d ≤ n.log2 + 2
  · rw [show min d (n.log2 + 2) = d by omega]
    exact Nat.div_mul_le_self _ _
  · rw [show min d (n.log2 + 2) = n.log2 + 2 by omega]
    have : n / 2 ^ (n.log2 + 2) = 0 := by
      rcases Nat.eq_zero_or_pos n with e | e
      · subst e; simp
      · exact Nat.div_eq_of_lt (Nat.lt_trans (log_hi n e) (Nat.pow_lt_pow_right (by decide) (by omega)))
    rw [this, Nat.zero_mul]; exact Nat.zero_le _
theorem tcut_exact (s : Bool) (k d : Nat) : Toward.zero.cut s (k * 2 ^ d) d = k := by
  simp only [Toward.cut, Nat.one_shiftLeft, Bool.toNat_false, Nat.add_zero]
  rcases Nat.eq_zero_or_pos k with e | e
  · subst e; simp
  · have hl := log_mul k d e
    rw [show min d ((k * 2 ^ d).log2 + 2) = d by omega]
    exact Nat.mul_div_cancel _ (Nat.two_pow_pos d)
theorem toInt_rep {d : Datum} {n : Int} (h : Rep d n) : d.toInt .zero = some n := by
  obtain ⟨s, m, i, rfl, p, q, hi, hA⟩ := h
  have hv := sg_natAbs hA
  have hc : Toward.zero.cut s (m <<< i.toNat) (-i).toNat = n.natAbs := by
    rw [Nat.shiftLeft_eq]
    rcases Int.lt_or_le i 0 with l | l
    · have e : m = n.natAbs * 2 ^ (-i).toNat := by
        apply pow_cancel (c := p)
        rw [hv, Nat.mul_assoc, ← Nat.pow_add, show (-i).toNat + p = q by omega]
      rw [show i.toNat = 0 by omega, Nat.pow_zero, Nat.mul_one]
      have := tcut_exact s n.natAbs (-i).toNat
      rw [← e] at this
      exact this
    · have e : m * 2 ^ i.toNat = n.natAbs := by
        apply pow_cancel (c := q)
        rw [Nat.mul_assoc, ← Nat.pow_add, show i.toNat + q = p by omega, hv]
      rw [e, show (-i).toNat = 0 by omega]
      have := tcut_exact s n.natAbs 0
      simpa using this
  simp only [Datum.toInt, Datum.integral, hc, signed_eq, Int.pow_zero, Int.mul_one]
  have hp := ipow_pos p
  have hq := ipow_pos q
  unfold sg at hA ⊢
  cases s
  · have : (0 : Int) ≤ n * 2 ^ q := by rw [← hA]; exact Int.mul_nonneg (by simp) (by omega)
    have : ¬ n < 0 := fun h => by have := Int.mul_neg_of_neg_of_pos h hq; omega
    simp; omega
  · have : n * 2 ^ q ≤ 0 := by
      rw [← hA]
      have := Int.mul_nonneg (show (0 : Int) ≤ m by omega) (show (0 : Int) ≤ 2 ^ p by omega)
      simp only [if_true, Int.neg_mul]; omega
    have : ¬ 0 < n := fun h => by have := Int.mul_pos h hq; omega
    simp; omega
theorem rep_of_order {d e : Datum} {b : Int} (he : Rep e b) (h : d.order e = some .eq) : Rep d b := by
  obtain ⟨t, m', j, rfl, p', q', hj, hB⟩ := he
  cases d with
  | nan s f => simp [Datum.order] at h
  | infinity s => cases s <;> simp [Datum.order] at h
  | number s m i =>
    simp only [Datum.order, signed_eq, Option.some.injEq, Int.compare_eq_eq] at h
    refine ⟨_, _, _, rfl, (i - min i j).toNat + p', q' + (j - min i j).toNat, by omega, ?_⟩
    rw [Int.pow_add, ← Int.mul_assoc, h, Int.mul_assoc, Int.mul_comm (2 ^ (j - min i j).toNat), ← Int.mul_assoc, hB, Int.mul_assoc, ← Int.pow_add]

/- the tests -/
def loB (x : Nat) : Bool := double.order 0 x == some .lt || double.order 0 x == some .eq
def hiB (x : Nat) : Bool := double.order x 4787326403894837248 == some .lt || double.order x 4787326403894837248 == some .eq
def tr (x : Nat) : Int := ((double.read x).toInt .zero).getD 0
def wholeB (x : Nat) : Bool := loB x && hiB x && (double.order x (floatOfInt .f64 (tr x)) == some .eq)

theorem loB_ge (x : Nat) : loB x = (double.order x 0 == some .gt || double.order x 0 == some .eq) := by
  rw [loB, word_swap x 0]
  cases double.order x 0 with
  | none => rfl
  | some o => cases o <;> rfl
theorem neq_eq (x y : Nat) : (double.order y x != some .eq) = !(double.order x y == some .eq) := by
  rw [word_swap x y]
  cases double.order x y with
  | none => rfl
  | some o => cases o <;> rfl

theorem compare_le {a b : Int} : ((some (compare a b) == some Ordering.lt) || (some (compare a b) == some Ordering.eq)) = decide (a ≤ b) := by
  rcases Int.lt_trichotomy a b with l | e | l
  · rw [Int.compare_eq_lt.2 l]; simp; omega
  · subst e; simp
  · rw [Int.compare_eq_gt.2 l]; simp; omega
theorem compare_gt {a b : Int} : (some (compare a b) == some Ordering.gt) = decide (b < a) := by
  rcases Int.lt_trichotomy a b with l | e | l
  · rw [Int.compare_eq_lt.2 l]; simp; omega
  · subst e; simp
  · rw [Int.compare_eq_gt.2 l]; simp; omega
theorem compare_eq {a b : Int} : (some (compare a b) == some Ordering.eq) = decide (a = b) := by
  rcases Int.lt_trichotomy a b with l | e | l
  · rw [Int.compare_eq_lt.2 l]; simp; omega
  · subst e; simp
  · rw [Int.compare_eq_gt.2 l]; simp; omega

theorem loB_rep {x : Nat} {n : Int} (h : Rep (double.read x) n) : loB x = decide (0 ≤ n) := by
  rw [loB, Format.order, order_rep rep_zero h, compare_le]
theorem hiB_rep {x : Nat} {n : Int} (h : Rep (double.read x) n) : hiB x = decide (n ≤ 1099511627776) := by
  rw [hiB, Format.order, order_rep h rep_last, compare_le]
theorem tr_rep {x : Nat} {n : Int} (h : Rep (double.read x) n) : tr x = n := by rw [tr, toInt_rep h]; rfl
theorem whole_rep {x : Nat} {n : Int} (h : Rep (double.read x) n) (hn : n.natAbs < 9007199254740992) : wholeB x = (decide (0 ≤ n) && decide (n ≤ 1099511627776)) := by
  rw [wholeB, loB_rep h, hiB_rep h, tr_rep h, floatOfInt_F n hn, Format.order, order_rep h (read_F n hn), compare_eq]
  simp

/- in range: the cut number is a whole number in range -/
theorem range_cut {x : Nat} (hl : loB x = true) (hh : hiB x = true) : (double.read x).toInt .zero = some (tr x) ∧ 0 ≤ tr x ∧ tr x ≤ 1099511627776 := by
  have hT : ∀ n, (double.read x).toInt .zero = some n → tr x = n := fun n h => by rw [tr, h]; rfl
  have h1 : (double.order 0 x == some .lt || double.order 0 x == some .eq) = true := hl
  have h2 : (double.order x 4787326403894837248 == some .lt || double.order x 4787326403894837248 == some .eq) = true := hh
  have hz : double.read 0 = .number false 0 (-1074) := read_zero false
  have hL : double.read 4787326403894837248 = .number false 4503599627370496 (-12) := by decide
  simp only [Format.order, hz, hL] at h1 h2
  cases hd : double.read x with
  | nan s f => simp [hd, Datum.order] at h1
  | infinity s => cases s <;> simp [hd, Datum.order] at h1 h2
  | number s m i =>
    simp only [hd, Datum.order, signed_eq, compare_le, decide_eq_true_eq] at h1 h2
    have hs : 0 ≤ sg s m := by
      rcases Int.lt_or_le (sg s m) 0 with l | l
      · have := Int.mul_neg_of_neg_of_pos l (ipow_pos (i - min (-1074) i).toNat)
        have e0 : sg false 0 = 0 := rfl
        rw [e0, Int.zero_mul] at h1
        omega
      · exact l
    have hm : sg s m = m := by
      unfold sg at hs ⊢
      cases s
      · rfl
      · simp only [if_true] at hs ⊢; omega
    rw [hm, show sg false 4503599627370496 = 4503599627370496 from rfl] at h2
    have hb : (m : Int) * 2 ^ i.toNat ≤ 1099511627776 * 2 ^ (-i).toNat := by
      rcases Int.lt_or_le i (-12) with l | l
      · rw [show min i (-12) = i by omega, Int.sub_self, show (0 : Int).toNat = 0 from rfl, Int.pow_zero, Int.mul_one] at h2
        rw [show i.toNat = 0 by omega, Int.pow_zero, Int.mul_one]
        refine Int.le_trans h2 (Int.le_of_eq ?_)
        rw [show (4503599627370496 : Int) = 1099511627776 * 2 ^ 12 by decide, Int.mul_assoc, ← Int.pow_add]
        congr 2; omega
      · rw [show min i (-12) = -12 by omega, show ((-12 : Int) - -12).toNat = 0 from rfl, Int.pow_zero, Int.mul_one] at h2
        have e : (m : Int) * 2 ^ i.toNat * 2 ^ 12 = (m : Int) * 2 ^ (i - -12).toNat * 2 ^ (-i).toNat := by
          rw [Int.mul_assoc, Int.mul_assoc, ← Int.pow_add, ← Int.pow_add]
          congr 2; omega
        have h3 := Int.mul_le_mul_of_nonneg_right h2 (show (0 : Int) ≤ 2 ^ (-i).toNat by have := ipow_pos (-i).toNat; omega)
        rw [← e] at h3
        have e3 : (4503599627370496 : Int) * 2 ^ (-i).toNat = 1099511627776 * 2 ^ (-i).toNat * 2 ^ 12 := by
          rw [Int.mul_assoc, Int.mul_comm (2 ^ (-i).toNat), ← Int.mul_assoc, show (1099511627776 : Int) * 2 ^ 12 = 4503599627370496 by decide]
        rw [e3] at h3
        exact Int.le_of_mul_le_mul_right h3 (by decide)
    have hc := tcut_le s (m <<< i.toNat) (-i).toNat
    have hc' : (Toward.zero.cut s (m <<< i.toNat) (-i).toNat : Int) * 2 ^ (-i).toNat ≤ (m : Int) * 2 ^ i.toNat := by
      have := Int.ofNat_le.2 hc
      rw [Nat.shiftLeft_eq] at this ⊢
      simpa using this
    have hk : (Toward.zero.cut s (m <<< i.toNat) (-i).toNat : Int) ≤ 1099511627776 := Int.le_of_mul_le_mul_right (Int.le_trans hc' hb) (ipow_pos _)
    have hi : Datum.toInt .zero (.number s m i) = some (sg s (Toward.zero.cut s (m <<< i.toNat) (-i).toNat)) := by
      simp only [Datum.toInt, Datum.integral, signed_eq, Int.pow_zero, Int.mul_one]
    have hnn : sg s (Toward.zero.cut s (m <<< i.toNat) (-i).toNat) = (Toward.zero.cut s (m <<< i.toNat) (-i).toNat : Int) := by
      unfold sg at hm ⊢
      cases s
      · rfl
      · simp only [if_true] at hm ⊢
        have m0 : m = 0 := by omega
        subst m0
        have : Toward.zero.cut true (0 <<< i.toNat) (-i).toNat = 0 := by
          have := tcut_exact true 0 (-i).toNat
          simpa using this
        rw [this]; rfl
    rw [hnn] at hi
    have := hT _ (by rw [hd]; exact hi)
    rw [this]
    exact ⟨hi, by omega, hk⟩
theorem range_val {x : Nat} (hl : loB x = true) (hh : hiB x = true) : floatToIntVal .f64 x .i64 = some (tr x) := by
  obtain ⟨h1, h2, h3⟩ := range_cut hl hh
  have : (FloatKind.f64.decode x).toInt .zero = some (tr x) := h1
  simp only [floatToIntVal, this]
  rw [if_pos]
  exact ⟨by show (-9223372036854775808 : Int) ≤ _; omega, by show _ ≤ (9223372036854775807 : Int); omega⟩
theorem whole_yes {x : Nat} (h : wholeB x = true) : Rep (double.read x) (tr x) ∧ 0 ≤ tr x ∧ tr x ≤ 1099511627776 := by
  simp only [wholeB, Bool.and_eq_true, beq_iff_eq] at h
  obtain ⟨_, h2, h3⟩ := range_cut h.1.1 h.1.2
  refine ⟨?_, h2, h3⟩
  have hr := read_F (tr x) (by omega)
  refine rep_of_order hr ?_
  rw [← floatOfInt_F _ (by omega)]
  exact h.2
theorem whole_lo {x : Nat} (h : wholeB x = true) : loB x = true ∧ hiB x = true := by
  simp only [wholeB, Bool.and_eq_true] at h
  exact h.1
theorem whole_val {x : Nat} (h : wholeB x = true) : floatToIntVal .f64 x .i64 = some (tr x) := range_val (whole_lo h).1 (whole_lo h).2

/- sums -/
theorem add_word {x y : Nat} {a b : Int} (hx : Rep (double.read x) a) (hy : Rep (double.read y) b) (hn : (a + b).natAbs < 9007199254740992) :
    ∃ r, double.add x y = some r ∧ Rep (double.read r) (a + b) ∧ ((double.read x).neg = false → r = F (a + b)) := by
  obtain ⟨d, h1, h2, h3⟩ := sum_rep hx hy
  refine ⟨double.write d, by rw [Format.add, h1]; rfl, ?_⟩
  by_cases h0 : a + b = 0
  · rw [h0] at h2 ⊢
    rw [write_rep0 h2]
    refine ⟨⟨_, _, _, read_zero _, 0, 1074, rfl, by rw [Int.zero_mul]; cases d.neg <;> rfl⟩, fun hn => ?_⟩
    rw [h3 h0, hn]; rfl
  · rw [write_rep h2 h0 hn]
    exact ⟨read_F _ hn, fun _ => rfl⟩
theorem sub_word {x y : Nat} {a b : Int} (hx : Rep (double.read x) a) (hy : Rep (double.read y) b) (hn : (a - b).natAbs < 9007199254740992) :
    ∃ r, double.sub x y = some r ∧ Rep (double.read r) (a - b) := by
  obtain ⟨d, h1, h2, h3⟩ := sum_rep hx (opposite_rep hy)
  rw [← Int.sub_eq_add_neg] at h2
  refine ⟨double.write d, by rw [Format.sub, h1]; rfl, ?_⟩
  by_cases h0 : a - b = 0
  · rw [h0] at h2 ⊢
    rw [write_rep0 h2]
    exact ⟨_, _, _, read_zero _, 0, 1074, rfl, by rw [Int.zero_mul]; cases d.neg <;> rfl⟩
  · rw [write_rep h2 h0 hn]
    exact read_F _ hn
theorem mul_word {x y : Nat} {a b : Int} (hx : Rep (double.read x) a) (hy : Rep (double.read y) b) (hn : (a * b).natAbs < 9007199254740992) :
    ∃ r, double.mul x y = some r ∧ Rep (double.read r) (a * b) := by
  obtain ⟨d, h1, h2, h3⟩ := product_rep hx hy
  refine ⟨double.write d, by rw [Format.mul, h1]; rfl, ?_⟩
  by_cases h0 : a * b = 0
  · rw [h0] at h2 ⊢
    rw [write_rep0 h2]
    exact ⟨_, _, _, read_zero _, 0, 1074, rfl, by rw [Int.zero_mul]; cases d.neg <;> rfl⟩
  · rw [write_rep h2 h0 hn]
    exact read_F _ hn
/- words beyond the last one -/
def BigW (x : Nat) : Prop := 4787326403894841344 ≤ x ∧ x ≤ 9218868437227405312
def GeD (d : Datum) : Prop := ∃ m i, d = .number false m i ∧ ∃ p q : Nat, i = (p : Int) - q ∧ 1099511627777 * 2 ^ q ≤ m * 2 ^ p
theorem geD_pos {m p q : Nat} (h : 1099511627777 * 2 ^ q ≤ m * 2 ^ p) : 0 < m := by
  rcases Nat.eq_zero_or_pos m with e | e
  · rw [e, Nat.zero_mul] at h
    have := Nat.two_pow_pos q
    omega
  · exact e
theorem ecut_ge (n d : Nat) : n / 2 ^ min d (n.log2 + 2) ≤ Toward.even.cut false n d := by
  simp only [Toward.cut, Nat.one_shiftLeft]
  exact Nat.le_add_right _ _
theorem pow_le_cancel {a b c : Nat} (h : a * 2 ^ c ≤ b * 2 ^ c) : a ≤ b := Nat.le_of_mul_le_mul_right h (Nat.two_pow_pos c)
theorem log40 : Nat.log2 1099511627777 = 40 := (Nat.log2_eq_iff (by decide)).2 (by decide)
theorem log_mono {a b : Nat} (ha : 0 < a) (h : a ≤ b) : a.log2 ≤ b.log2 := by
  have := log_lo a ha
  have hb := log_hi b (by omega)
  have : 2 ^ a.log2 < 2 ^ (b.log2 + 1) := by omega
  have := (Nat.pow_lt_pow_iff_right (a := 2) (by decide)).1 this
  omega
theorem low_big {m p q : Nat} (h : 1099511627777 * 2 ^ q ≤ m * 2 ^ p) (hc : m.log2 ≤ 52) (he : m.log2 + p = 40 + q) : 4503599627374592 ≤ m * 2 ^ (52 - m.log2) := by
  apply pow_le_cancel (c := m.log2 + p)
  have e1 : m * 2 ^ (52 - m.log2) * 2 ^ (m.log2 + p) = m * 2 ^ p * 2 ^ 52 := by
    rw [Nat.mul_assoc, ← Nat.pow_add, show 52 - m.log2 + (m.log2 + p) = p + 52 by omega, Nat.pow_add, ← Nat.mul_assoc]
  have e2 : 4503599627374592 * 2 ^ (m.log2 + p) = 1099511627777 * 2 ^ q * 2 ^ 52 := by
    rw [he, Nat.mul_assoc, ← Nat.pow_add, show (4503599627374592 : Nat) = 1099511627777 * 2 ^ 12 by decide, Nat.mul_assoc, ← Nat.pow_add, show 12 + (40 + q) = q + 52 by omega]
  rw [e1, e2]
  exact Nat.mul_le_mul_right _ h
theorem high_big {m p q : Nat} (h : 1099511627777 * 2 ^ q ≤ m * 2 ^ p) (hc : ¬ m.log2 ≤ 52) (he : m.log2 + p = 40 + q) : 4503599627374592 ≤ m / 2 ^ (m.log2 - 52) := by
  rw [Nat.le_div_iff_mul_le (Nat.two_pow_pos _)]
  apply pow_le_cancel (c := p)
  rw [Nat.mul_assoc, ← Nat.pow_add]
  refine Nat.le_trans (Nat.le_of_eq ?_) h
  rw [show (4503599627374592 : Nat) = 1099511627777 * 2 ^ 12 by decide, Nat.mul_assoc, ← Nat.pow_add, show 12 + (m.log2 - 52 + p) = q by omega]
theorem kept_big {m p q : Nat} (h : 1099511627777 * 2 ^ q ≤ m * 2 ^ p) (hm : 0 < m) : ∃ kept, Toward.even.cut false (m <<< (52 - m.log2)) (m.log2 - 52) = kept ∧ 4503599627370496 ≤ kept ∧ (m.log2 + p = 40 + q → 4503599627374592 ≤ kept) := by
  refine ⟨_, rfl, ?_⟩
  have lo := log_lo m hm
  by_cases hc : m.log2 ≤ 52
  · rw [show m.log2 - 52 = 0 by omega, cut_zero, Nat.shiftLeft_eq]
    refine ⟨?_, low_big h hc⟩
    have := Nat.mul_le_mul_right (2 ^ (52 - m.log2)) lo
    rw [← Nat.pow_add, show m.log2 + (52 - m.log2) = 52 by omega] at this
    exact this
  · rw [show 52 - m.log2 = 0 by omega, Nat.shiftLeft_zero]
    have hg := ecut_ge m (m.log2 - 52)
    rw [show min (m.log2 - 52) (m.log2 + 2) = m.log2 - 52 by omega] at hg
    refine ⟨Nat.le_trans ?_ hg, fun he => Nat.le_trans (high_big h hc he) hg⟩
    rw [Nat.le_div_iff_mul_le (Nat.two_pow_pos _), show (4503599627370496 : Nat) = 2 ^ 52 by decide, ← Nat.pow_add, show 52 + (m.log2 - 52) = m.log2 by omega]
    exact lo
theorem write_big {d : Datum} (h : GeD d) : BigW (double.write d) := by
  obtain ⟨m, i, rfl, p, q, hi, hv⟩ := h
  have hm := geD_pos hv
  have hl : 40 + q ≤ m.log2 + p := by
    have := log_mono (Nat.mul_pos (by decide) (Nat.two_pow_pos q)) hv
    rw [log_mul _ _ (by decide), log_mul _ _ hm, log40] at this
    exact this
  obtain ⟨kept, hk, k0, k1⟩ := kept_big hv hm
  have := nearest_of false m i (i + m.log2 - 52) kept (m.log2 + p - q + 1022) hm (by clear hv; omega) (by clear hv; omega) (by
    rw [show (i - (i + (m.log2 : Int) - 52)).toNat = 52 - m.log2 by clear hv; omega, show ((i + (m.log2 : Int) - 52) - i).toNat = m.log2 - 52 by clear hv; omega]; exact hk)
  show BigW (double.nearest false m i)
  rw [this, f_word]
  simp only [Bool.false_eq_true, if_false]
  unfold BigW
  clear hv this hk
  omega
theorem big_gt {d : Datum} (h : GeD d) : d.order (double.read 4787326403894837248) = some .gt := by
  obtain ⟨m, i, rfl, p, q, hi, hv⟩ := h
  have hL : double.read 4787326403894837248 = .number false 4503599627370496 (-12) := by decide
  rw [hL]
  simp only [Datum.order, signed_eq]
  rw [Int.compare_eq_gt.2]
  have e1 : sg false 4503599627370496 * 2 ^ (-12 - min i (-12)).toNat * 2 ^ p = 1099511627776 * 2 ^ (q + (i - min i (-12)).toNat) := by
    rw [show sg false 4503599627370496 = 1099511627776 * 2 ^ 12 by decide, Int.mul_assoc, Int.mul_assoc, ← Int.pow_add, ← Int.pow_add]
    congr 2; clear hv; omega
  have e2 : (1099511627777 : Int) * 2 ^ (q + (i - min i (-12)).toNat) ≤ sg false m * 2 ^ (i - min i (-12)).toNat * 2 ^ p := by
    have h1 : (1099511627777 : Int) * 2 ^ q ≤ m * 2 ^ p := by
      have := Int.ofNat_le.2 hv
      simpa using this
    have h2 := Int.mul_le_mul_of_nonneg_right h1 (show (0 : Int) ≤ 2 ^ (i - min i (-12)).toNat by have := ipow_pos (i - min i (-12)).toNat; omega)
    rw [Int.pow_add, ← Int.mul_assoc]
    refine Int.le_trans h2 (Int.le_of_eq ?_)
    rw [show sg false m = (m : Int) from rfl]; ac_rfl
  have hp := ipow_pos (q + (i - min i (-12)).toNat)
  refine Int.lt_of_mul_lt_mul_right (a := 2 ^ p) ?_ (by have := ipow_pos p; omega)
  rw [e1]
  refine Int.lt_of_lt_of_le ?_ e2
  exact Int.mul_lt_mul_of_pos_right (by decide) hp
theorem big_read {x : Nat} (h : BigW x) : (x = 9218868437227405312 ∧ double.read x = .infinity false) ∨ GeD (double.read x) := by
  obtain ⟨h1, h2⟩ := h
  have e := read_word false x (by omega)
  rw [f_word] at e
  simp only [Bool.false_eq_true, if_false] at e
  rw [if_neg (by omega)] at e
  by_cases hi : x < 9218868437227405312
  · rw [if_pos hi] at e
    right
    refine ⟨_, _, e, x / 4503599627370496 - 1063, 12, by omega, ?_⟩
    by_cases hc : x / 4503599627370496 = 1063
    · rw [hc]; omega
    · have := Nat.mul_le_mul (show 4503599627370496 ≤ 4503599627370496 + x % 4503599627370496 by omega) (Nat.pow_le_pow_right (n := 2) (by decide) (show 1 ≤ x / 4503599627370496 - 1063 by omega))
      omega
  · left
    rw [if_neg hi, if_pos (by omega)] at e
    exact ⟨by omega, e⟩
theorem big_hi {x : Nat} (h : BigW x) : hiB x = false := by
  have : double.order x 4787326403894837248 = some .gt := by
    rcases big_read h with ⟨_, e⟩ | e
    · rw [Format.order, e]; decide
    · exact big_gt e
  rw [hiB, this]; rfl
theorem big_whole {x : Nat} (h : BigW x) : wholeB x = false := by rw [wholeB, big_hi h]; simp
theorem big_sum {d e : Datum} (hd : GeD d) (he : Rep e 0) : ∃ r, d.sum e = some r ∧ GeD r := by
  obtain ⟨m, i, rfl, p, q, hi, hv⟩ := hd
  obtain ⟨t, m', j, rfl, p', q', hj, hB⟩ := he
  have h0 := sg_natAbs hB
  have hm0 : m' = 0 := by
    rcases Nat.eq_zero_or_pos m' with e | e
    · exact e
    · have := Nat.mul_pos e (Nat.two_pow_pos p')
      simp at h0; omega
  subst hm0
  have hm := geD_pos hv
  refine ⟨_, rfl, ?_⟩
  have e0 : sg t 0 = 0 := by cases t <;> rfl
  have ht : signed false m (i - min i j).toNat + signed t 0 (j - min i j).toNat = ((m * 2 ^ (i - min i j).toNat : Nat) : Int) := by
    rw [signed_eq, signed_eq, e0, Int.zero_mul, Int.add_zero, show sg false m = (m : Int) from rfl]; simp
  have hpos := Nat.mul_pos hm (Nat.two_pow_pos (i - min i j).toNat)
  rw [ht]
  refine ⟨m * 2 ^ (i - min i j).toNat, min i j, ?_, p, q + (i - min i j).toNat, ?_, ?_⟩
  · rw [if_neg (by omega), Int.natAbs_natCast]
    congr 1
  · clear hv ht hpos; omega
  · rw [Nat.pow_add, ← Nat.mul_assoc, show m * 2 ^ (i - min i j).toNat * 2 ^ p = m * 2 ^ p * 2 ^ (i - min i j).toNat by ac_rfl]
    exact Nat.mul_le_mul_right _ hv
theorem sum_comm (d e : Datum) : d.sum e = e.sum d := by
  cases d <;> cases e <;> simp only [Datum.sum]
  case number.number s m i t n j => rw [Int.min_comm j i, Int.add_comm, Bool.and_comm]
  case infinity.infinity s t => cases s <;> cases t <;> rfl
theorem bigW_inf : BigW 9218868437227405312 := by unfold BigW; omega
theorem big_sumW {x : Nat} {e : Datum} (hx : BigW x) (he : Rep e 0) : ∃ r, ((double.read x).sum e).map double.write = some r ∧ BigW r := by
  rcases big_read hx with ⟨_, h⟩ | h
  · obtain ⟨t, m', j, rfl, _⟩ := he
    rw [h]
    exact ⟨_, rfl, bigW_inf⟩
  · obtain ⟨r, h1, h2⟩ := big_sum h he
    rw [h1]
    exact ⟨_, rfl, write_big h2⟩
theorem big_add {x y : Nat} (hx : BigW x) (hy : Rep (double.read y) 0) : ∃ r, double.add y x = some r ∧ BigW r := by
  rw [Format.add, sum_comm]; exact big_sumW hx hy
theorem big_sub {x y : Nat} (hx : BigW x) (hy : Rep (double.read y) 0) : ∃ r, double.sub x y = some r ∧ BigW r := by
  have := opposite_rep hy
  rw [Int.neg_zero] at this
  exact big_sumW hx this
theorem rep_pos {d : Datum} {n : Int} (h : Rep d n) (h0 : 0 < n) : ∃ m i, d = .number false m i ∧ ∃ p q : Nat, i = (p : Int) - q ∧ m * 2 ^ p = n.natAbs * 2 ^ q := by
  obtain ⟨s, m, i, rfl, p, q, hi, hA⟩ := h
  have hv := sg_natAbs hA
  have hs : s = false := by
    cases s with
    | false => rfl
    | true =>
      have h1 := Int.mul_pos h0 (ipow_pos q)
      have h2 := Int.mul_nonneg (show (0 : Int) ≤ m by omega) (show (0 : Int) ≤ 2 ^ p by have := ipow_pos p; omega)
      rw [← hA, show sg true m = -(m : Int) from rfl, Int.neg_mul] at h1
      omega
  subst hs
  exact ⟨m, i, rfl, p, q, hi, hv⟩
theorem rep_geD {d : Datum} {n : Int} (h : Rep d n) (h0 : 1099511627777 ≤ n) : GeD d := by
  obtain ⟨m, i, rfl, p, q, hi, hv⟩ := rep_pos h (by omega)
  exact ⟨m, i, rfl, p, q, hi, by rw [hv]; exact Nat.mul_le_mul_right _ (by omega)⟩
theorem product_big {d e : Datum} {a : Int} (hd : Rep d a) (h0 : 0 < a) (he : GeD e) : ∃ r, d.product e = some r ∧ GeD r := by
  obtain ⟨m, i, rfl, p, q, hi, hv⟩ := rep_pos hd h0
  obtain ⟨m', j, rfl, p', q', hj, hw⟩ := he
  refine ⟨_, rfl, _, _, rfl, p + p', q + q', by omega, ?_⟩
  have h1 : 2 ^ q ≤ m * 2 ^ p := by rw [hv]; exact Nat.le_mul_of_pos_left _ (by omega)
  have := Nat.mul_le_mul h1 hw
  rw [Nat.pow_add, Nat.pow_add, show m * m' * (2 ^ p * 2 ^ p') = m * 2 ^ p * (m' * 2 ^ p') by ac_rfl]
  refine Nat.le_trans (Nat.le_of_eq ?_) this
  ac_rfl
/- a great number as a word: beyond the last one, not infinite -/
theorem ecut_le (k d : Nat) : Toward.even.cut false k d ≤ k / 2 ^ min d (k.log2 + 2) + 1 := by
  simp only [Toward.cut, Nat.one_shiftLeft]
  exact Nat.add_le_add_left (Bool.toNat_le _) _
theorem kept_small (m : Nat) (hm : 0 < m) : Toward.even.cut false (m <<< (52 - m.log2)) (m.log2 - 52) ≤ 9007199254740992 := by
  have hi := log_hi m hm
  by_cases hc : m.log2 ≤ 52
  · rw [show m.log2 - 52 = 0 by omega, cut_zero, Nat.shiftLeft_eq]
    have := Nat.mul_le_mul_right (2 ^ (52 - m.log2)) (Nat.le_of_lt hi)
    rw [← Nat.pow_add, show m.log2 + 1 + (52 - m.log2) = 53 by omega] at this
    exact this
  · rw [show 52 - m.log2 = 0 by omega, Nat.shiftLeft_zero]
    have hg := ecut_le m (m.log2 - 52)
    rw [show min (m.log2 - 52) (m.log2 + 2) = m.log2 - 52 by omega] at hg
    have : m / 2 ^ (m.log2 - 52) < 9007199254740992 := by
      rw [Nat.div_lt_iff_lt_mul (Nat.two_pow_pos _), show (9007199254740992 : Nat) = 2 ^ 53 by decide, ← Nat.pow_add, show 53 + (m.log2 - 52) = m.log2 + 1 by omega]
      exact hi
    omega
theorem floatOfInt_lt (n : Int) (h0 : 0 < n) (h1 : n < 9223372036854775808) : floatOfInt .f64 n < 9218868437227405312 := by
  have hm : 0 < n.natAbs := by omega
  have hl := log_le n.natAbs hm 62 (by omega)
  have e : floatOfInt .f64 n = double.nearest false n.natAbs 0 := by
    show double.write (.number (decide (n < 0)) n.natAbs 0) = _
    rw [show decide (n < 0) = false by simp; omega]; rfl
  have hk := kept_small n.natAbs hm
  rw [e, nearest_of false n.natAbs 0 (n.natAbs.log2 - 52) _ (n.natAbs.log2 + 1022) hm (by omega) (by omega) rfl, f_word,
    show ((0 : Int) - ((n.natAbs.log2 : Int) - 52)).toNat = 52 - n.natAbs.log2 by omega, show (((n.natAbs.log2 : Int) - 52) - 0).toNat = n.natAbs.log2 - 52 by omega]
  simp only [Bool.false_eq_true, if_false]
  omega
theorem floatOfInt_big (n : Int) (h0 : 1099511627777 ≤ n) (h1 : n < 9223372036854775808) : GeD (double.read (floatOfInt .f64 n)) := by
  rcases big_read (show BigW (floatOfInt .f64 n) from write_big (rep_geD (int_rep n) h0)) with ⟨h, _⟩ | h
  · have := floatOfInt_lt n (by omega) h1
    omega
  · exact h

/- a part so many times -/
def PartOf (r : Nat) (v : Int) : Prop := if v ≤ 1099511627776 then Rep (double.read r) v else BigW r
theorem rep_number {d : Datum} {n : Int} (h : Rep d n) : ∃ s m i, d = .number s m i := by
  obtain ⟨s, m, i, h, _⟩ := h
  exact ⟨s, m, i, h⟩
theorem mul_times {x : Nat} {a n : Int} (hx : Rep (double.read x) a) (a0 : 0 ≤ a) (a1 : a ≤ 1099511627776) (n0 : 0 ≤ n) (n1 : n < 9223372036854775808) :
    ∃ r, double.mul x (floatOfInt .f64 n) = some r ∧ PartOf r (a * n) := by
  by_cases hs : n < 9007199254740992
  · have hn : n.natAbs < 9007199254740992 := by omega
    rw [floatOfInt_F n hn]
    by_cases hv : a * n ≤ 1099511627776
    · have h0 := Int.mul_nonneg a0 n0
      obtain ⟨r, h1, h2⟩ := mul_word hx (read_F n hn) (by omega)
      exact ⟨r, h1, by rw [PartOf, if_pos hv]; exact h2⟩
    · obtain ⟨d, h1, h2, _⟩ := product_rep hx (read_F n hn)
      exact ⟨_, by rw [Format.mul, h1]; rfl, by rw [PartOf, if_neg hv]; exact write_big (rep_geD h2 (by omega))⟩
  · have hb := floatOfInt_big n (by omega) n1
    by_cases ha : a = 0
    · subst ha
      obtain ⟨s, m, i, hd, p, q, hi, hA⟩ := hx
      have h0 := sg_natAbs hA
      have hm0 : m = 0 := by
        rcases Nat.eq_zero_or_pos m with e | e
        · exact e
        · have := Nat.mul_pos e (Nat.two_pow_pos p)
          simp at h0; omega
      subst hm0
      obtain ⟨m', j, he, _⟩ := hb
      refine ⟨double.write (.number (s ^^ false) (0 * m') (i + j)), by rw [Format.mul, hd, he]; rfl, ?_⟩
      rw [PartOf, Int.zero_mul, if_pos (by decide), Nat.zero_mul]
      have : double.write (.number (s ^^ false) 0 (i + j)) = double.word (s ^^ false) 0 := by simp [Format.write, Format.nearest]
      rw [this]
      exact ⟨_, _, _, read_zero _, 0, 1074, rfl, by rw [Int.zero_mul]; cases (s ^^ false) <;> rfl⟩
    · obtain ⟨d, h1, h2⟩ := product_big hx (by omega) hb
      have hv : ¬ a * n ≤ 1099511627776 := by
        have := Int.mul_le_mul_of_nonneg_right (show (1 : Int) ≤ a by omega) n0
        omega
      exact ⟨_, by rw [Format.mul, h1]; rfl, by rw [PartOf, if_neg hv]; exact write_big h2⟩
theorem sub_part {x y : Nat} {v : Int} (hx : PartOf x v) (v0 : 0 ≤ v) (hy : Rep (double.read y) 0) : ∃ r, double.sub x y = some r ∧ PartOf r v := by
  unfold PartOf at hx ⊢
  by_cases h : v ≤ 1099511627776
  · rw [if_pos h] at hx
    obtain ⟨r, h1, h2⟩ := sub_word hx hy (by omega)
    rw [Int.sub_zero] at h2
    exact ⟨r, h1, by rw [if_pos h]; exact h2⟩
  · rw [if_neg h] at hx
    obtain ⟨r, h1, h2⟩ := big_sub hx hy
    exact ⟨r, h1, by rw [if_neg h]; exact h2⟩
theorem add_part {x y : Nat} {v : Int} (hx : PartOf x v) (v0 : 0 ≤ v) (hy : Rep (double.read y) 0) : ∃ r, double.add y x = some r ∧ PartOf r v := by
  unfold PartOf at hx ⊢
  by_cases h : v ≤ 1099511627776
  · rw [if_pos h] at hx
    obtain ⟨r, h1, h2, _⟩ := add_word hy hx (by omega)
    rw [Int.zero_add] at h2
    exact ⟨r, h1, by rw [if_pos h]; exact h2⟩
  · rw [if_neg h] at hx
    obtain ⟨r, h1, h2⟩ := big_add hx hy
    exact ⟨r, h1, by rw [if_neg h]; exact h2⟩
theorem times_words {x y : Nat} {a b n : Int} (hx : Rep (double.read x) a) (hy : Rep (double.read y) b) (a0 : 0 ≤ a) (a1 : a ≤ 1099511627776) (b0 : 0 ≤ b) (b1 : b ≤ 1099511627776)
    (n0 : 0 ≤ n) (n1 : n < 9223372036854775808) : ∃ re im, cMulBits x y (floatOfInt .f64 n) 0 = some (re, im) ∧ PartOf re (a * n) ∧ PartOf im (b * n) := by
  obtain ⟨ac, h1, p1⟩ := mul_times hx a0 a1 n0 n1
  obtain ⟨bc, h2, p2⟩ := mul_times hy b0 b1 n0 n1
  obtain ⟨ad, h3, p3⟩ := mul_word hx rep_zero (by rw [Int.mul_zero]; decide)
  obtain ⟨bd, h4, p4⟩ := mul_word hy rep_zero (by rw [Int.mul_zero]; decide)
  rw [Int.mul_zero] at p3 p4
  obtain ⟨re, h5, p5⟩ := sub_part p1 (Int.mul_nonneg a0 n0) p4
  obtain ⟨im, h6, p6⟩ := add_part p2 (Int.mul_nonneg b0 n0) p3
  refine ⟨re, im, ?_, p5, p6⟩
  simp only [cMulBits, floatBits, FloatKind.format, h1, h2, h3, h4, h5, h6, Option.bind_some]
theorem part_whole {r : Nat} {v : Int} (h : PartOf r v) (v0 : 0 ≤ v) : wholeB r = decide (v ≤ 1099511627776) := by
  unfold PartOf at h
  by_cases hv : v ≤ 1099511627776
  · rw [if_pos hv] at h
    rw [whole_rep h (by omega)]; simp [hv, v0]
  · rw [if_neg hv] at h
    rw [big_whole h]; simp [hv]
theorem part_tr {r : Nat} {v : Int} (h : PartOf r v) (hv : v ≤ 1099511627776) : tr r = v := by
  rw [PartOf, if_pos hv] at h
  exact tr_rep h
end Go.Proofs.Ytndhjfpjhpnbaaa.Cost
