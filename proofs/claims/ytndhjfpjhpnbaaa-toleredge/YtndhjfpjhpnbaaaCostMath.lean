/- Plain facts on binary64 numbers that stand for whole numbers: which word a whole number below 2^53 has, what such words' sums, products and order are. No conditions but those that each theorem bears. -/
import Derived.WalkLawsBesides
namespace Go.Proofs.Ytndhjfpjhpnbaaa.Cost
set_option maxRecDepth 100000
open Ieee

theorem log_mul (m p : Nat) (h : 0 < m) : (m * 2 ^ p).log2 = m.log2 + p := by
  have hp : 0 < 2 ^ p := Nat.two_pow_pos p
  have h1 := (Nat.log2_eq_iff (n := m) (k := m.log2) (by omega)).1 rfl
  refine (Nat.log2_eq_iff (by have := Nat.mul_pos h hp; omega)).2 ⟨?_, ?_⟩
  · rw [Nat.pow_add]; exact Nat.mul_le_mul_right _ h1.1
  · rw [show m.log2 + p + 1 = (m.log2 + 1) + p by omega, Nat.pow_add]; exact Nat.mul_lt_mul_of_pos_right h1.2 hp
theorem log_lo (m : Nat) (h : 0 < m) : 2 ^ m.log2 ≤ m := ((Nat.log2_eq_iff (n := m) (k := m.log2) (by omega)).1 rfl).1
theorem log_hi (m : Nat) (h : 0 < m) : m < 2 ^ (m.log2 + 1) := ((Nat.log2_eq_iff (n := m) (k := m.log2) (by omega)).1 rfl).2
theorem log_le (m : Nat) (h : 0 < m) (k : Nat) (hk : m < 2 ^ (k + 1)) : m.log2 ≤ k := by
  have := (Nat.log2_lt (n := m) (k := k + 1) (by omega)).2 hk
  omega

/- the rung of a whole number -/
def scaled (n : Nat) : Nat := n * 2 ^ (52 - n.log2)
def rung (n : Nat) : Nat := if n = 0 then 0 else (n.log2 + 1022) * 4503599627370496 + scaled n

theorem scaled_lo (n : Nat) (h0 : 0 < n) (h1 : n < 9007199254740992) : 4503599627370496 ≤ scaled n := by
  have hk := log_le n h0 52 h1
  have := Nat.mul_le_mul_right (2 ^ (52 - n.log2)) (log_lo n h0)
  rw [← Nat.pow_add, show n.log2 + (52 - n.log2) = 52 by omega] at this
  exact this
theorem scaled_hi (n : Nat) (h0 : 0 < n) (h1 : n < 9007199254740992) : scaled n < 9007199254740992 := by
  have hk := log_le n h0 52 h1
  have := Nat.mul_lt_mul_of_pos_right (log_hi n h0) (Nat.two_pow_pos (52 - n.log2))
  rw [← Nat.pow_add, show n.log2 + 1 + (52 - n.log2) = 53 by omega] at this
  exact this

theorem f_word (neg : Bool) (r : Nat) : double.word neg r = if neg then 9223372036854775808 + r else r := rfl
theorem f_least : double.leastPlace = -1074 := rfl
theorem f_binade : double.binade = 4503599627370496 := rfl
theorem f_inf : double.infRung = 9218868437227405312 := rfl
theorem f_sign : double.signWeight = 9223372036854775808 := rfl
theorem f_bits : double.fractionBits = 52 := rfl

theorem cut_zero (neg : Bool) (n : Nat) : Toward.even.cut neg n 0 = n := by
  simp [Toward.cut, Nat.mod_one]
theorem cut_exact (neg : Bool) (k d : Nat) (hk : 0 < k) : Toward.even.cut neg (k * 2 ^ d) d = k := by
  have hl : (k * 2 ^ d).log2 = k.log2 + d := log_mul k d hk
  have hp : 0 < 2 ^ d := Nat.two_pow_pos d
  have hm : min d ((k * 2 ^ d).log2 + 2) = d := by omega
  simp only [Toward.cut, hm, Nat.one_shiftLeft, Nat.mul_div_cancel _ hp, Nat.mul_mod_left, Nat.mul_zero]
  have e1 : (decide (2 ^ d < 0)) = false := by simp
  have e2 : (2 ^ d == 0) = false := by simp
  rw [e1, e2]
  rfl

theorem pow_cancel {a b c : Nat} (h : a * 2 ^ c = b * 2 ^ c) : a = b := Nat.eq_of_mul_eq_mul_right (Nat.two_pow_pos c) h

theorem mag_pos {mag n p q : Nat} (hv : mag * 2 ^ p = n * 2 ^ q) (h0 : 0 < n) : 0 < mag := by
  rcases Nat.eq_zero_or_pos mag with e | e
  · rw [e, Nat.zero_mul] at hv
    have := Nat.mul_pos h0 (Nat.two_pow_pos q)
    omega
  · exact e
theorem kept_low {mag n p q : Nat} (hv : mag * 2 ^ p = n * 2 ^ q) (hl : mag.log2 + p = n.log2 + q) (hk : n.log2 ≤ 52) (hc : mag.log2 ≤ 52) : mag * 2 ^ (52 - mag.log2) = scaled n := by
  apply pow_cancel (c := mag.log2 + p)
  rw [Nat.mul_assoc, ← Nat.pow_add, show 52 - mag.log2 + (mag.log2 + p) = p + 52 by omega, Nat.pow_add, ← Nat.mul_assoc, hv, scaled, hl, Nat.mul_assoc, Nat.mul_assoc, ← Nat.pow_add, ← Nat.pow_add,
    show 52 - n.log2 + (n.log2 + q) = q + 52 by omega]
theorem kept_high {mag n p q : Nat} (hv : mag * 2 ^ p = n * 2 ^ q) (hl : mag.log2 + p = n.log2 + q) (hk : n.log2 ≤ 52) (hc : ¬ mag.log2 ≤ 52) : mag = scaled n * 2 ^ (mag.log2 - 52) := by
  apply pow_cancel (c := p)
  rw [hv, scaled, Nat.mul_assoc, Nat.mul_assoc, ← Nat.pow_add, ← Nat.pow_add, show 52 - n.log2 + (mag.log2 - 52 + p) = q by omega]
theorem nearest_of (neg : Bool) (mag : Nat) (place last : Int) (kept up : Nat) (hm : 0 < mag) (hlast : max (place + (mag.log2 : Int) - 52) (-1074) = last) (hu : (last - -1074).toNat = up)
    (hcut : Toward.even.cut neg (mag <<< (place - last).toNat) (last - place).toNat = kept) : double.nearest neg mag place = double.word neg (min (up * 4503599627370496 + kept) 9218868437227405312) := by
  have hb : ((double.fractionBits : Nat) : Int) = 52 := rfl
  unfold Format.nearest
  rw [if_neg (Nat.ne_of_gt hm), f_least, f_binade, f_inf, hb, hlast]
  show double.word neg (min ((last - -1074).toNat * 4503599627370496 + Toward.even.cut neg (mag <<< (place - last).toNat) (last - place).toNat) 9218868437227405312) = _
  rw [hcut, hu]
theorem min_rung (n : Nat) (h0 : 0 < n) (hk : n.log2 ≤ 52) (s2 : scaled n < 9007199254740992) : min ((n.log2 + 1022) * 4503599627370496 + scaled n) 9218868437227405312 = rung n := by
  rw [rung, if_neg (Nat.ne_of_gt h0)]
  omega
theorem nearest_nat (neg : Bool) (mag n : Nat) (place : Int) (p q : Nat) (hp : place = (p : Int) - q) (hv : mag * 2 ^ p = n * 2 ^ q) (h0 : 0 < n) (h1 : n < 9007199254740992) :
    double.nearest neg mag place = double.word neg (rung n) := by
  have hm : 0 < mag := mag_pos hv h0
  have hl : mag.log2 + p = n.log2 + q := by rw [← log_mul mag p hm, ← log_mul n q h0, hv]
  have hk := log_le n h0 52 h1
  have s1 := scaled_lo n h0 h1
  have s2 := scaled_hi n h0 h1
  rw [← min_rung n h0 hk s2]
  refine nearest_of neg mag place ((n.log2 : Int) - 52) (scaled n) (n.log2 + 1022) hm ?_ ?_ ?_
  · clear hv s1 s2; omega
  · clear hv s1 s2; omega
  · by_cases hc : mag.log2 ≤ 52
    · have e1 : (((n.log2 : Int) - 52) - place).toNat = 0 := by clear hv s1 s2; omega
      have e2 : (place - ((n.log2 : Int) - 52)).toNat = 52 - mag.log2 := by clear hv s1 s2; omega
      rw [e1, e2, cut_zero, Nat.shiftLeft_eq, kept_low hv hl hk hc]
    · have e1 : (((n.log2 : Int) - 52) - place).toNat = mag.log2 - 52 := by clear hv s1 s2; omega
      have e2 : (place - ((n.log2 : Int) - 52)).toNat = 0 := by clear hv s1 s2; omega
      have h2 := cut_exact neg (scaled n) (mag.log2 - 52) (by omega)
      rw [← kept_high hv hl hk hc] at h2
      rw [e1, e2, Nat.shiftLeft_zero, h2]

theorem read_word (neg : Bool) (r : Nat) (h : r < 9223372036854775808) : double.read (double.word neg r) =
    if r < 4503599627370496 then .number neg r (-1074) else if r < 9218868437227405312 then .number neg (4503599627370496 + r % 4503599627370496) (-1074 + ((r / 4503599627370496 - 1 : Nat) : Int))
    else if r = 9218868437227405312 then .infinity neg else .nan neg (r - 9218868437227405312) := by
  unfold Format.read
  rw [f_least, f_binade, f_inf, f_sign, f_word]
  cases neg
  · have e1 : (r / 9223372036854775808 % 2 == 1) = false := by rw [beq_eq_false_iff_ne]; omega
    have e2 : r % 9223372036854775808 = r := by omega
    simp only [Bool.false_eq_true, if_false, e1, e2]
  · have e1 : ((9223372036854775808 + r) / 9223372036854775808 % 2 == 1) = true := by rw [beq_iff_eq]; omega
    have e2 : (9223372036854775808 + r) % 9223372036854775808 = r := by omega
    simp only [if_true, e1, e2]

theorem rung_lt (n : Nat) (h0 : 0 < n) (h1 : n < 9007199254740992) : rung n < 4900000000000000000 := by
  have hk := log_le n h0 52 h1
  have s2 := scaled_hi n h0 h1
  rw [rung, if_neg (by omega)]
  omega
theorem read_rung (neg : Bool) (n : Nat) (h0 : 0 < n) (h1 : n < 9007199254740992) : double.read (double.word neg (rung n)) = .number neg (scaled n) ((n.log2 : Int) - 52) := by
  have hk := log_le n h0 52 h1
  have s1 := scaled_lo n h0 h1
  have s2 := scaled_hi n h0 h1
  have hr := rung_lt n h0 h1
  have e : rung n = (n.log2 + 1022) * 4503599627370496 + scaled n := by rw [rung, if_neg (by omega)]
  rw [read_word neg _ (by omega), if_neg (by omega), if_pos (by omega)]
  congr 1
  · omega
  · omega
theorem read_zero (neg : Bool) : double.read (double.word neg 0) = .number neg 0 (-1074) := by
  rw [read_word neg 0 (by omega)]; rfl

/- a datum that stands for a whole number -/
def sg (s : Bool) (m : Nat) : Int := if s then -(m : Int) else m
theorem signed_eq (s : Bool) (m p : Nat) : signed s m p = sg s m * 2 ^ p := by
  cases s <;> simp [signed, sg, Nat.shiftLeft_eq, Int.neg_mul]
def Rep (d : Datum) (n : Int) : Prop := ∃ s m i, d = .number s m i ∧ ∃ p q : Nat, i = (p : Int) - q ∧ sg s m * 2 ^ p = n * 2 ^ q

theorem ipow_pos (k : Nat) : (0 : Int) < 2 ^ k := Int.pow_pos (by decide)
theorem icancel {a b : Int} {c : Nat} (h : a * 2 ^ c = b * 2 ^ c) : a = b := Int.eq_of_mul_eq_mul_right (by have := ipow_pos c; omega) h

theorem cmp_scale (a b c : Int) (h : 0 < c) : compare (a * c) (b * c) = compare a b := by
  rcases Int.lt_trichotomy a b with l | e | l
  · rw [Int.compare_eq_lt.2 l, Int.compare_eq_lt.2 (Int.mul_lt_mul_of_pos_right l h)]
  · rw [e]; simp
  · rw [Int.compare_eq_gt.2 l, Int.compare_eq_gt.2 (Int.mul_lt_mul_of_pos_right l h)]

theorem parts_eq {A a B b : Int} {p q p' q' I J : Nat} {i j : Int} (hi : i = (p : Int) - q) (hj : j = (p' : Int) - q') (hI : I = (i - min i j).toNat) (hJ : J = (j - min i j).toNat)
    (hA : A * 2 ^ p = a * 2 ^ q) (hB : B * 2 ^ p' = b * 2 ^ q') :
    ∃ E : Nat, A * 2 ^ I * 2 ^ (p + p') = a * 2 ^ E ∧ B * 2 ^ J * 2 ^ (p + p') = b * 2 ^ E ∧ min i j = ((p + p' : Nat) : Int) - E := by
  refine ⟨q + I + p', ?_, ?_, by omega⟩
  · rw [Int.mul_assoc, ← Int.pow_add, show I + (p + p') = p + (I + p') by omega, Int.pow_add, ← Int.mul_assoc, hA, Int.mul_assoc, ← Int.pow_add]
    congr 2; omega
  · rw [Int.mul_assoc, ← Int.pow_add, show J + (p + p') = p' + (J + p) by omega, Int.pow_add, ← Int.mul_assoc, hB, Int.mul_assoc, ← Int.pow_add]
    congr 2; omega

theorem order_rep {d e : Datum} {a b : Int} (hd : Rep d a) (he : Rep e b) : d.order e = some (compare a b) := by
  obtain ⟨s, m, i, rfl, p, q, hi, hA⟩ := hd
  obtain ⟨t, m', j, rfl, p', q', hj, hB⟩ := he
  obtain ⟨E, h1, h2, _⟩ := parts_eq hi hj rfl rfl hA hB
  simp only [Datum.order, signed_eq]
  rw [← cmp_scale _ _ _ (ipow_pos (p + p')), h1, h2, cmp_scale _ _ _ (ipow_pos E)]

theorem sg_sign (x : Int) (z : Bool) : sg (if x = 0 then z else decide (x < 0)) x.natAbs = x := by
  unfold sg
  by_cases h : x = 0
  · subst h; cases z <;> rfl
  · by_cases g : x < 0
    · simp [h, g]; omega
    · simp [h, g]; omega
theorem sum_rep {d e : Datum} {a b : Int} (hd : Rep d a) (he : Rep e b) :
    ∃ r, d.sum e = some r ∧ Rep r (a + b) ∧ (a + b = 0 → r.neg = (d.neg && e.neg)) := by
  obtain ⟨s, m, i, rfl, p, q, hi, hA⟩ := hd
  obtain ⟨t, m', j, rfl, p', q', hj, hB⟩ := he
  obtain ⟨E, h1, h2, h3⟩ := parts_eq hi hj rfl rfl hA hB
  refine ⟨_, rfl, ⟨_, _, _, rfl, p + p', E, h3, ?_⟩, ?_⟩
  · rw [sg_sign, signed_eq, signed_eq, Int.add_mul, h1, h2, ← Int.add_mul]
  · intro h
    have hz : (sg s m * 2 ^ (i - min i j).toNat + sg t m' * 2 ^ (j - min i j).toNat) * 2 ^ (p + p') = 0 * 2 ^ (p + p') := by
      rw [Int.add_mul, h1, h2, ← Int.add_mul, h, Int.zero_mul, Int.zero_mul]
    have hz2 := icancel hz
    simp only [Datum.neg, signed_eq, hz2, if_true]
theorem sg_mul (s t : Bool) (m n : Nat) : sg (s ^^ t) (m * n) = sg s m * sg t n := by
  cases s <;> cases t <;> simp [sg, Int.neg_mul, Int.mul_neg]
theorem product_rep {d e : Datum} {a b : Int} (hd : Rep d a) (he : Rep e b) :
    ∃ r, d.product e = some r ∧ Rep r (a * b) ∧ r.neg = (d.neg ^^ e.neg) := by
  obtain ⟨s, m, i, rfl, p, q, hi, hA⟩ := hd
  obtain ⟨t, m', j, rfl, p', q', hj, hB⟩ := he
  refine ⟨_, rfl, ⟨_, _, _, rfl, p + p', q + q', by omega, ?_⟩, rfl⟩
  rw [sg_mul, Int.pow_add, Int.pow_add, show sg s m * sg t m' * (2 ^ p * 2 ^ p') = (sg s m * 2 ^ p) * (sg t m' * 2 ^ p') by ac_rfl, hA, hB]
  ac_rfl
theorem opposite_rep {d : Datum} {a : Int} (h : Rep d a) : Rep d.opposite (-a) := by
  obtain ⟨s, m, i, rfl, p, q, hi, hA⟩ := h
  refine ⟨_, _, _, rfl, p, q, hi, ?_⟩
  rw [Int.neg_mul, ← hA]
  cases s <;> simp [sg, Int.neg_mul]

/- the word of a whole number -/
def F (n : Int) : Nat := double.word (decide (n < 0)) (rung n.natAbs)
theorem sg_natAbs {s : Bool} {m : Nat} {n : Int} {p q : Nat} (h : sg s m * 2 ^ p = n * 2 ^ q) : m * 2 ^ p = n.natAbs * 2 ^ q := by
  have := congrArg Int.natAbs h
  rw [Int.natAbs_mul, Int.natAbs_mul] at this
  have e1 : (sg s m).natAbs = m := by cases s <;> simp [sg]
  have e2 : ∀ k : Nat, ((2 : Int) ^ k).natAbs = 2 ^ k := fun k => by rw [Int.natAbs_pow]; rfl
  rw [e1, e2, e2] at this
  exact this
theorem write_rep {d : Datum} {n : Int} (h : Rep d n) (h0 : n ≠ 0) (h1 : n.natAbs < 9007199254740992) : double.write d = F n := by
  obtain ⟨s, m, i, rfl, p, q, hi, hA⟩ := h
  have hv := sg_natAbs hA
  have hs : s = decide (n < 0) := by
    have hp := ipow_pos p
    have hq := ipow_pos q
    cases s
    · have : (0 : Int) ≤ n * 2 ^ q := by rw [← hA]; exact Int.mul_nonneg (by simp [sg]) (by omega)
      have : ¬ n < 0 := fun h => by have := Int.mul_neg_of_neg_of_pos h hq; omega
      simp [this]
    · have hm : 0 < m := by
        rcases Nat.eq_zero_or_pos m with e | e
        · rw [e, Nat.zero_mul] at hv
          have := Nat.mul_pos (show 0 < n.natAbs by omega) (Nat.two_pow_pos q)
          omega
        · exact e
      have : n * 2 ^ q < 0 := by rw [← hA]; exact Int.mul_neg_of_neg_of_pos (by simp [sg]; omega) hp
      have : n < 0 := by
        rcases Int.lt_or_le n 0 with l | l
        · exact l
        · have := Int.mul_nonneg l (show (0 : Int) ≤ 2 ^ q by omega); omega
      simp [this]
  show double.nearest s m i = _
  rw [nearest_nat s m n.natAbs i p q hi hv (by omega) h1, F, hs]
theorem write_rep0 {d : Datum} (h : Rep d 0) : double.write d = double.word d.neg 0 := by
  obtain ⟨s, m, i, rfl, p, q, hi, hA⟩ := h
  have hv := sg_natAbs hA
  have : m = 0 := by
    rcases Nat.eq_zero_or_pos m with e | e
    · exact e
    · have := Nat.mul_pos e (Nat.two_pow_pos p)
      simp at hv; omega
  subst this
  show double.nearest s 0 i = _
  simp [Format.nearest, Datum.neg]
theorem int_rep (n : Int) : Rep (.number (decide (n < 0)) n.natAbs 0) n := by
  refine ⟨_, _, _, rfl, 0, 0, rfl, ?_⟩
  unfold sg
  by_cases h : n < 0
  · simp [h]; omega
  · simp [h]; omega
theorem floatOfInt_F (n : Int) (h : n.natAbs < 9007199254740992) : floatOfInt .f64 n = F n := by
  show double.write (.number (decide (n < 0)) n.natAbs 0) = F n
  by_cases h0 : n = 0
  · subst h0; rfl
  · exact write_rep (int_rep n) h0 h
theorem read_F (n : Int) (h : n.natAbs < 9007199254740992) : Rep (double.read (F n)) n := by
  by_cases h0 : n = 0
  · subst h0
    exact ⟨false, 0, -1074, read_zero false, 0, 1074, rfl, by rw [Int.zero_mul]; rfl⟩
  · have hk := log_le n.natAbs (by omega) 52 h
    refine ⟨_, _, _, read_rung _ _ (by omega) h, n.natAbs.log2, 52, rfl, ?_⟩
    have e : (scaled n.natAbs : Int) * 2 ^ n.natAbs.log2 = n.natAbs * 2 ^ 52 := by
      rw [scaled, Int.natCast_mul, Int.mul_assoc, Int.natCast_pow, show ((2 : Nat) : Int) = 2 from rfl, ← Int.pow_add, show 52 - n.natAbs.log2 + n.natAbs.log2 = 52 by omega]
    unfold sg
    by_cases hn : n < 0
    · simp only [hn, decide_true, if_true]
      rw [Int.neg_mul, e, ← Int.neg_mul]; congr 1; omega
    · simp only [hn, decide_false, Bool.false_eq_true, if_false]
      rw [e]; congr 1; omega
theorem neg_F (n : Int) (h : n.natAbs < 9007199254740992) (h0 : 0 ≤ n) : (double.read (F n)).neg = false := by
  have hd : decide (n < 0) = false := by simp; omega
  by_cases e : n = 0
  · subst e; show (double.read (double.word false 0)).neg = false; rw [read_zero]; rfl
  · rw [F, hd, read_rung _ _ (by omega) h]; rfl
end Go.Proofs.Ytndhjfpjhpnbaaa.Cost
