/- Sets of the numbers 0 to 63 as the digits of a number below 2^64: plain facts, of no program. -/
import Derived.Lib.TrailingZeros
namespace Go.Proofs.Ytndhjfpjhpnbaaa.Bits
set_option maxRecDepth 100000

def isB (i : Int) : Bool := decide (0 ≤ i) && decide (i < 64)
def hasB (n : Nat) (i : Int) : Bool := isB i && n.testBit i.toNat
def blTo (n k : Nat) : List Nat := (List.range k).filter n.testBit
def bl (n : Nat) : List Nat := blTo n 64
def pc : Nat → Nat → Nat
  | 0, _ => 0
  | f + 1, x => x % 2 + pc f (x / 2)
def ofN (l : List Int) : Nat := l.foldl (fun x i => if 0 ≤ i ∧ i < 64 then x ||| 2 ^ i.toNat else x) 0

theorem isB_yes {i : Int} (h0 : 0 ≤ i) (h1 : i < 64) : isB i = true := by simp [isB, h0, h1]
theorem isB_no {i : Int} (h : i < 0 ∨ 64 ≤ i) : isB i = false := by simp [isB]; omega
theorem isB_iff (i : Int) : isB i = true ↔ 0 ≤ i ∧ i < 64 := by simp [isB]

theorem len_blTo : ∀ k n, (blTo n k).length = pc k n
  | 0, _ => rfl
  | k + 1, n => by
    have e : (n.testBit ∘ Nat.succ) = (n / 2).testBit := by funext i; simp [Nat.testBit_succ]
    have ih := len_blTo k (n / 2)
    unfold blTo at ih ⊢
    rw [List.range_succ_eq_map, List.filter_cons, List.filter_map, e, Nat.testBit_zero]
    rcases Nat.mod_two_eq_zero_or_one n with h | h <;> simp [h, pc, ih]; omega
theorem len_bl (n : Nat) : (bl n).length = pc 64 n := len_blTo 64 n
theorem blTo_succ (n k : Nat) : blTo n (k + 1) = blTo n k ++ (if n.testBit k then [k] else []) := by
  unfold blTo
  rw [List.range_succ, List.filter_append]
  by_cases h : n.testBit k <;> simp [h]
theorem blTo_len (n k : Nat) : (blTo n k).length ≤ k := by
  unfold blTo
  exact Nat.le_trans (List.length_filter_le _ _) (by simp)
theorem mem_bl (n k : Nat) : k ∈ bl n ↔ k < 64 ∧ n.testBit k = true := by simp [bl, blTo]
theorem bl_sorted (n : Nat) : (bl n).Pairwise (· < ·) := (List.pairwise_lt_range (n := 64)).filter _
theorem pc_le : ∀ k n, pc k n ≤ k
  | 0, _ => Nat.le_refl _
  | k + 1, n => by have := pc_le k (n / 2); simp only [pc]; omega

/- the least -/
theorem bl_zero : bl 0 = [] := by simp [bl, blTo]
theorem blTo_head (n c : Nat) (h0 : ∀ i, i < c → n.testBit i = false) (h1 : n.testBit c = true) : ∀ k, (k ≤ c → blTo n k = []) ∧ (c < k → ∃ r, blTo n k = c :: r) := by
  intro k
  induction k with
  | zero => exact ⟨fun _ => rfl, fun h => by omega⟩
  | succ k ih =>
    refine ⟨fun h => ?_, fun h => ?_⟩
    · rw [blTo_succ, ih.1 (by omega), h0 k (by omega)]; rfl
    · by_cases e : k = c
      · subst e
        exact ⟨[], by rw [blTo_succ, ih.1 (Nat.le_refl _), h1]; rfl⟩
      · obtain ⟨r, hr⟩ := ih.2 (by omega)
        exact ⟨_, by rw [blTo_succ, hr, List.cons_append]⟩
theorem bl_ctz (n : Nat) (h0 : n ≠ 0) (h : n < 18446744073709551616) : ∃ r, bl n = Lib.ctz 64 n :: r := by
  have e : Lib.ctz 64 n = Lib.ctzFrom 64 n := by simp [Lib.ctz, h0]
  obtain ⟨m, hm, hk⟩ := Lib.ctzFrom_spec 64 n (by omega) (by omega)
  rw [e]
  refine (blTo_head n (Lib.ctzFrom 64 n) ?_ ?_ 64).2 hk
  · intro i hi
    have e2 : n = (2 * m + 1) * 2 ^ Lib.ctzFrom 64 n := by rw [Nat.mul_comm]; exact hm
    generalize Lib.ctzFrom 64 n = c at *
    rw [e2, Nat.testBit_mul_two_pow]
    simp; omega
  · have e2 : n = (2 * m + 1) * 2 ^ Lib.ctzFrom 64 n := by rw [Nat.mul_comm]; exact hm
    generalize Lib.ctzFrom 64 n = c at *
    rw [e2, Nat.testBit_mul_two_pow]
    simp
theorem ctz_lt (n : Nat) (h0 : n ≠ 0) (h : n < 18446744073709551616) : Lib.ctz 64 n < 64 := (Lib.lowest_bit 64 n h0 (by omega)).2

/- a set of numbers -/
theorem ofN_snoc (l : List Int) (i : Int) : ofN (l ++ [i]) = if 0 ≤ i ∧ i < 64 then ofN l ||| 2 ^ i.toNat else ofN l := by simp [ofN, List.foldl_append]
theorem ofN_lt (l : List Int) : ofN l < 18446744073709551616 := by
  rw [← List.reverse_reverse l]
  induction l.reverse with
  | nil => simp [ofN]
  | cons i r ih =>
    rw [List.reverse_cons, ofN_snoc]
    split
    · rename_i h
      have : 2 ^ i.toNat < 2 ^ 64 := Nat.pow_lt_pow_right (by decide) (by omega)
      exact Nat.or_lt_two_pow (n := 64) ih this
    · exact ih
theorem testBit_ofN (l : List Int) (k : Nat) : (ofN l).testBit k = decide (k < 64 ∧ (k : Int) ∈ l) := by
  rw [← List.reverse_reverse l]
  induction l.reverse with
  | nil => simp [ofN]
  | cons i r ih =>
    rw [List.reverse_cons, ofN_snoc]
    by_cases h : 0 ≤ i ∧ i < 64
    · rw [if_pos h, Nat.testBit_or, ih, Nat.testBit_two_pow, Bool.eq_iff_iff]
      by_cases hm : (k : Int) ∈ r.reverse
      · have hm' : (k : Int) ∈ r := by simpa using hm
        simp [hm']
        omega
      · have hm' : ¬ (k : Int) ∈ r := by simpa using hm
        simp [hm']
        omega
    · rw [if_neg h, ih, Bool.eq_iff_iff]
      by_cases hm : (k : Int) ∈ r.reverse
      · have hm' : (k : Int) ∈ r := by simpa using hm
        simp [hm']
      · have hm' : ¬ (k : Int) ∈ r := by simpa using hm
        simp [hm']
        omega
theorem ofN_map (l : List Nat) (n : Nat) (h : n < 18446744073709551616) (hl : ∀ k, k < 64 → (k ∈ l ↔ n.testBit k = true)) : ofN (l.map fun i : Nat => (i : Int)) = n := by
  apply Nat.eq_of_testBit_eq
  intro k
  rw [testBit_ofN, Bool.eq_iff_iff]
  have hm : (k : Int) ∈ (l.map fun i : Nat => (i : Int)) ↔ k ∈ l := by
    simp only [List.mem_map]
    exact ⟨fun ⟨a, ha, e⟩ => by rw [← Int.ofNat.inj e]; exact ha, fun ha => ⟨k, ha, rfl⟩⟩
  rw [decide_eq_true_iff, hm]
  by_cases hk : k < 64
  · simp [hk, hl k hk]
  · have : n.testBit k = false := Nat.testBit_lt_two_pow (Nat.lt_of_lt_of_le h (show 2 ^ 64 ≤ 2 ^ k from Nat.pow_le_pow_right (by decide) (by omega)))
    simp [hk, this]
theorem ofN_bl (n : Nat) (h : n < 18446744073709551616) : ofN ((bl n).map fun i : Nat => (i : Int)) = n :=
  ofN_map _ _ h fun k hk => by simp [mem_bl, hk]
theorem ofN_two (x y : Nat) (hx : x < 18446744073709551616) (hy : y < 18446744073709551616) : ofN ((bl x ++ bl y).map fun i : Nat => (i : Int)) = x ||| y :=
  ofN_map _ _ (Nat.or_lt_two_pow (n := 64) hx hy) fun k hk => by simp [mem_bl, hk]
theorem ofN_one (i : Int) : ofN [i] = if 0 ≤ i ∧ i < 64 then 2 ^ i.toNat else 0 := by simp [ofN]
theorem ofN_03 : ofN [0, 3] = 9 := by decide
theorem pc9 : pc 64 9 = 2 := by decide

/- in both, in one alone -/
theorem pc_parts : ∀ k x y, pc k (x &&& y) + pc k (x ||| y) = pc k x + pc k y
  | 0, _, _ => rfl
  | k + 1, x, y => by
    have ih := pc_parts k (x / 2) (y / 2)
    have a1 : (x &&& y) / 2 = x / 2 &&& y / 2 := Nat.and_div_two_pow (n := 1)
    have a2 : (x ||| y) / 2 = x / 2 ||| y / 2 := Nat.or_div_two_pow (n := 1)
    have a3 : (x &&& y) % 2 = x % 2 &&& y % 2 := Nat.and_mod_two_pow (n := 1)
    have a4 : (x ||| y) % 2 = x % 2 ||| y % 2 := Nat.or_mod_two_pow (n := 1)
    simp only [pc, a1, a2, a3, a4]
    rcases Nat.mod_two_eq_zero_or_one x with h | h <;> rcases Nat.mod_two_eq_zero_or_one y with g | g <;> rw [h, g] <;> simp <;> omega
theorem pc_zero : ∀ k, pc k 0 = 0
  | 0 => rfl
  | k + 1 => by simp [pc, pc_zero k]
theorem pc_two_pow : ∀ k i, i < k → pc k (2 ^ i) = 1
  | k + 1, 0, _ => by simp [pc, pc_zero]
  | k + 1, i + 1, h => by
    have e : 2 ^ (i + 1) / 2 = 2 ^ i := by rw [Nat.pow_succ]; omega
    have e2 : 2 ^ (i + 1) % 2 = 0 := by rw [Nat.pow_succ]; omega
    simp only [pc, e, e2]
    rw [pc_two_pow k i (by omega)]

/- how many there are, byte by byte -/
def num : List Nat → Nat
  | [] => 0
  | b :: r => b + 256 * num r
def mk (c : Nat) : Nat → Nat
  | 0 => 0
  | k + 1 => c + 256 * mk c k
theorem and_step (a b c d : Nat) (ha : a < 256) (hc : c < 256) : (a + 256 * b) &&& (c + 256 * d) = (a &&& c) + 256 * (b &&& d) := by
  have h1 : ((a + 256 * b) &&& (c + 256 * d)) % 2 ^ 8 = (a + 256 * b) % 2 ^ 8 &&& (c + 256 * d) % 2 ^ 8 := Nat.and_mod_two_pow
  have h2 : ((a + 256 * b) &&& (c + 256 * d)) / 2 ^ 8 = (a + 256 * b) / 2 ^ 8 &&& (c + 256 * d) / 2 ^ 8 := Nat.and_div_two_pow
  have e1 : (a + 256 * b) % 2 ^ 8 = a := by omega
  have e2 : (c + 256 * d) % 2 ^ 8 = c := by omega
  have e3 : (a + 256 * b) / 2 ^ 8 = b := by omega
  have e4 : (c + 256 * d) / 2 ^ 8 = d := by omega
  rw [e1, e2] at h1
  rw [e3, e4] at h2
  omega
def s1 (b : Nat) : Nat := (b / 2 &&& 85) + (b &&& 85)
def s2 (b : Nat) : Nat := (s1 b / 4 &&& 51) + (s1 b &&& 51)
theorem b1 : ∀ b, b < 256 → ∀ c, c < 2 → (b / 2 + 128 * c) &&& 85 = b / 2 &&& 85 := by decide +kernel
theorem b2 : ∀ b, b < 256 → ∀ c, c < 4 → (b / 4 + 64 * c) &&& 51 = b / 4 &&& 51 := by decide +kernel
theorem s1_lt : ∀ b, b < 256 → s1 b < 256 := by decide +kernel
theorem s2_lt : ∀ b, b < 256 → s2 b < 128 ∧ s2 b % 16 ≤ 4 := by decide +kernel
theorem b3 : ∀ b, b < 256 → ∀ c, c < 5 → (s2 b / 16 + s2 b + 16 * c) &&& 15 = pc 8 b := by decide +kernel
theorem b3_lt : ∀ b, b < 256 → s2 b / 16 + s2 b + 64 < 256 := by decide +kernel
theorem step1 : ∀ bs : List Nat, (∀ b ∈ bs, b < 256) → (num bs / 2 &&& mk 85 bs.length) + (num bs &&& mk 85 bs.length) = num (bs.map s1)
  | [], _ => rfl
  | b :: r, h => by
    have hb : b < 256 := h b (by simp)
    have ih := step1 r fun x hx => h x (by simp [hx])
    have e : (b + 256 * num r) / 2 = (b / 2 + 128 * (num r % 2)) + 256 * (num r / 2) := by omega
    simp only [num, List.length_cons, mk, List.map_cons]
    rw [e, and_step _ _ _ _ (by omega) (by decide), and_step _ _ _ _ hb (by decide), b1 b hb _ (Nat.mod_lt _ (by decide)), ← ih]
    unfold s1
    omega
theorem step2 : ∀ bs : List Nat, (∀ b ∈ bs, b < 256) → (num (bs.map s1) / 4 &&& mk 51 bs.length) + (num (bs.map s1) &&& mk 51 bs.length) = num (bs.map s2)
  | [], _ => rfl
  | b :: r, h => by
    have hb : b < 256 := h b (by simp)
    have hs := s1_lt b hb
    have ih := step2 r fun x hx => h x (by simp [hx])
    have e : (s1 b + 256 * num (r.map s1)) / 4 = (s1 b / 4 + 64 * (num (r.map s1) % 4)) + 256 * (num (r.map s1) / 4) := by omega
    simp only [num, List.length_cons, mk, List.map_cons]
    rw [e, and_step _ _ _ _ (by omega) (by decide), and_step _ _ _ _ hs (by decide), b2 _ hs _ (Nat.mod_lt _ (by decide)), ← ih]
    unfold s2
    omega
theorem step3 : ∀ bs : List Nat, (∀ b ∈ bs, b < 256) → (num (bs.map s2) / 16 + num (bs.map s2)) &&& mk 15 bs.length = num (bs.map (pc 8))
  | [], _ => rfl
  | b :: r, h => by
    have hb : b < 256 := h b (by simp)
    have ih := step3 r fun x hx => h x (by simp [hx])
    have h3 := b3_lt b hb
    have hc : num (r.map s2) % 16 < 5 := by
      cases r with
      | nil => simp [num]
      | cons c r =>
        have := s2_lt c (h c (by simp))
        simp only [List.map_cons, num]
        omega
    have e : (s2 b + 256 * num (r.map s2)) / 16 + (s2 b + 256 * num (r.map s2)) = (s2 b / 16 + s2 b + 16 * (num (r.map s2) % 16)) + 256 * (num (r.map s2) / 16 + num (r.map s2)) := by omega
    simp only [num, List.length_cons, mk, List.map_cons]
    rw [e, and_step _ _ _ _ (by omega) (by decide), b3 b hb _ hc, ih]
theorem pc_byte : ∀ f, pc f 0 = 0 := pc_zero
theorem pc_step (f b y : Nat) (hb : b < 256) : pc (8 + f) (b + 256 * y) = pc 8 b + pc f y := by
  rw [show 8 + f = f + 1 + 1 + 1 + 1 + 1 + 1 + 1 + 1 by omega]
  simp only [pc]
  have e : (b + 256 * y) / 2 / 2 / 2 / 2 / 2 / 2 / 2 / 2 = y := by omega
  rw [e]
  omega
def bytes (x : Nat) : List Nat := [x % 256, x / 256 % 256, x / 65536 % 256, x / 16777216 % 256, x / 4294967296 % 256, x / 1099511627776 % 256, x / 281474976710656 % 256, x / 72057594037927936 % 256]
theorem bytes_lt (x : Nat) : ∀ b ∈ bytes x, b < 256 := by
  intro b hb
  simp only [bytes, List.mem_cons, List.not_mem_nil, or_false] at hb
  omega
theorem num_bytes (x : Nat) (h : x < 18446744073709551616) : num (bytes x) = x := by
  simp only [num, bytes]
  omega
theorem pc_num : ∀ bs : List Nat, (∀ b ∈ bs, b < 256) → pc (8 * bs.length) (num bs) = (bs.map (pc 8)).sum
  | [], _ => rfl
  | b :: r, h => by
    simp only [num, List.length_cons, List.map_cons, List.sum_cons]
    rw [show 8 * (r.length + 1) = 8 + 8 * r.length by omega, pc_step _ _ _ (h b (by simp)), pc_num r fun x hx => h x (by simp [hx])]

/- the steps of the library's count -/
theorem mk85 : mk 85 8 = 6148914691236517205 := by decide
theorem mk51 : mk 51 8 = 3689348814741910323 := by decide
theorem mk15 : mk 15 8 = 1085102592571150095 := by decide
def o1 (x : Nat) : Nat := (x / 2 &&& 6148914691236517205) + (x &&& 6148914691236517205)
def o2 (x : Nat) : Nat := (x / 4 &&& 3689348814741910323) + (x &&& 3689348814741910323)
def o3 (x : Nat) : Nat := (x / 16 + x) &&& 1085102592571150095
theorem o_all (x : Nat) (h : x < 18446744073709551616) : o1 x < 18446744073709551616 ∧ o2 (o1 x) < 9223372036854775808 ∧ o3 (o2 (o1 x)) = num ((bytes x).map (pc 8)) := by
  have hb := bytes_lt x
  have hl : (bytes x).length = 8 := rfl
  have h1 : o1 x = num ((bytes x).map s1) := by have := step1 (bytes x) hb; rw [num_bytes x h, hl, mk85] at this; rw [o1]; exact this
  have h2 : o2 (o1 x) = num ((bytes x).map s2) := by have := step2 (bytes x) hb; rw [← h1, hl, mk51] at this; rw [o2]; exact this
  have h3 : o3 (o2 (o1 x)) = num ((bytes x).map (pc 8)) := by have := step3 (bytes x) hb; rw [← h2, hl, mk15] at this; rw [o3]; exact this
  have t1 : ∀ b ∈ (bytes x).map s1, b < 256 := by
    intro b hb'
    obtain ⟨c, hc, rfl⟩ := List.mem_map.1 hb'
    exact s1_lt c (hb c hc)
  have t2 : ∀ b ∈ (bytes x).map s2, b < 128 := by
    intro b hb'
    obtain ⟨c, hc, rfl⟩ := List.mem_map.1 hb'
    exact (s2_lt c (hb c hc)).1
  refine ⟨?_, ?_, h3⟩
  · rw [h1]
    simp only [bytes, List.map_cons, List.map_nil, List.forall_mem_cons, num] at t1 ⊢
    omega
  · rw [h2]
    simp only [bytes, List.map_cons, List.map_nil, List.forall_mem_cons, num] at t2 ⊢
    omega
theorem dv (a b c : Nat) (hc : 0 < c) (h : a < c) : (a + c * b) / c = b := by
  rw [Nat.add_mul_div_left _ _ hc, Nat.div_eq_of_lt h, Nat.zero_add]
theorem f1 (p0 p1 p2 p3 p4 p5 p6 p7 : Nat) : num [p0, p1, p2, p3, p4, p5, p6, p7] + num [p1, p2, p3, p4, p5, p6, p7] = num [p0 + p1, p1 + p2] + 65536 * num [p2 + p3, p3 + p4, p4 + p5, p5 + p6, p6 + p7, p7] := by
  simp only [num]; omega
theorem f2 (a0 a1 a2 a3 a4 a5 a6 a7 : Nat) : num [a0, a1] + 65536 * num [a2, a3, a4, a5, a6, a7] + num [a2, a3, a4, a5, a6, a7] = num [a0 + a2, a1 + a3, a2 + a4, a3 + a5] + 4294967296 * num [a4 + a6, a5 + a7, a6, a7] := by
  simp only [num]; omega
theorem f3 (a0 a1 a2 a3 a4 a5 a6 a7 : Nat) : num [a0, a1, a2, a3] + 4294967296 * num [a4, a5, a6, a7] + num [a4, a5, a6, a7] = (a0 + a4) + 128 * (2 * num [a1 + a5, a2 + a6, a3 + a7, a4, a5, a6, a7]) := by
  simp only [num]; omega
theorem n2 (a0 a1 : Nat) (h0 : a0 < 65) (h1 : a1 < 65) : num [a0, a1] < 65536 := by simp only [num]; omega
theorem n4 (a0 a1 a2 a3 : Nat) (h0 : a0 < 65) (h1 : a1 < 65) (h2 : a2 < 65) (h3 : a3 < 65) : num [a0, a1, a2, a3] < 4294967296 := by simp only [num]; omega
theorem n6 (a0 a1 a2 a3 a4 a5 : Nat) (h0 : a0 < 65) (h1 : a1 < 65) (h2 : a2 < 65) (h3 : a3 < 65) (h4 : a4 < 65) (h5 : a5 < 65) : num [a0, a1, a2, a3, a4, a5] < 281474976710656 := by simp only [num]; omega
theorem n7 (a0 a1 a2 a3 a4 a5 a6 : Nat) (h0 : a0 < 65) (h1 : a1 < 65) (h2 : a2 < 65) (h3 : a3 < 65) (h4 : a4 < 65) (h5 : a5 < 65) (h6 : a6 < 65) : num [a0, a1, a2, a3, a4, a5, a6] < 36028797018963968 := by simp only [num]; omega
theorem fold8 (p0 p1 p2 p3 p4 p5 p6 p7 z z1 z2 z3 : Nat) (h0 : p0 ≤ 8) (h1 : p1 ≤ 8) (h2 : p2 ≤ 8) (h3 : p3 ≤ 8) (h4 : p4 ≤ 8) (h5 : p5 ≤ 8) (h6 : p6 ≤ 8) (h7 : p7 ≤ 8)
    (hz : z = num [p0, p1, p2, p3, p4, p5, p6, p7]) (e1 : z1 = z + z / 256) (e2 : z2 = z1 + z1 / 65536) (e3 : z3 = z2 + z2 / 4294967296) :
    z1 < 18446744073709551616 ∧ z2 < 18446744073709551616 ∧ z3 < 9223372036854775808 ∧ z3 % 128 = p0 + p1 + p2 + p3 + p4 + p5 + p6 + p7 := by
  have d1 : z / 256 = num [p1, p2, p3, p4, p5, p6, p7] := by rw [hz]; exact dv p0 _ 256 (by decide) (by clear hz e1 e2 e3; omega)
  rw [d1, hz, f1] at e1
  clear hz d1
  have l1 := n2 (p0 + p1) (p1 + p2) (by clear e1 e2 e3; omega) (by clear e1 e2 e3; omega)
  have l2 := n6 (p2 + p3) (p3 + p4) (p4 + p5) (p5 + p6) (p6 + p7) p7 (by clear e1 e2 e3; omega) (by clear e1 e2 e3; omega) (by clear e1 e2 e3; omega) (by clear e1 e2 e3; omega) (by clear e1 e2 e3; omega) (by clear e1 e2 e3; omega)
  have d2 : z1 / 65536 = num [p2 + p3, p3 + p4, p4 + p5, p5 + p6, p6 + p7, p7] := by rw [e1]; exact dv _ _ 65536 (by decide) l1
  have g1 : z1 < 18446744073709551616 := by
    rw [e1]
    generalize num [p2 + p3, p3 + p4, p4 + p5, p5 + p6, p6 + p7, p7] = u at *
    generalize num [p0 + p1, p1 + p2] = v at *
    clear e1 e2 e3 d2
    omega
  rw [d2, e1, f2] at e2
  clear e1 d2 l1 l2
  have l1 := n4 (p0 + p1 + (p2 + p3)) (p1 + p2 + (p3 + p4)) (p2 + p3 + (p4 + p5)) (p3 + p4 + (p5 + p6)) (by clear e2 e3; omega) (by clear e2 e3; omega) (by clear e2 e3; omega) (by clear e2 e3; omega)
  have l2 := n4 (p4 + p5 + (p6 + p7)) (p5 + p6 + p7) (p6 + p7) p7 (by clear e2 e3; omega) (by clear e2 e3; omega) (by clear e2 e3; omega) (by clear e2 e3; omega)
  have d3 : z2 / 4294967296 = num [p4 + p5 + (p6 + p7), p5 + p6 + p7, p6 + p7, p7] := by rw [e2]; exact dv _ _ 4294967296 (by decide) l1
  have g2 : z2 < 18446744073709551616 := by
    rw [e2]
    generalize num [p4 + p5 + (p6 + p7), p5 + p6 + p7, p6 + p7, p7] = u at *
    generalize num [p0 + p1 + (p2 + p3), p1 + p2 + (p3 + p4), p2 + p3 + (p4 + p5), p3 + p4 + (p5 + p6)] = v at *
    clear e2 e3 d3
    omega
  rw [d3, e2, f3] at e3
  clear e2 d3 l1 l2
  have l3 := n7 (p1 + p2 + (p3 + p4) + (p5 + p6 + p7)) (p2 + p3 + (p4 + p5) + (p6 + p7)) (p3 + p4 + (p5 + p6) + p7) (p4 + p5 + (p6 + p7)) (p5 + p6 + p7) (p6 + p7) p7
    (by clear e3; omega) (by clear e3; omega) (by clear e3; omega) (by clear e3; omega) (by clear e3; omega) (by clear e3; omega) (by clear e3; omega)
  generalize num [p1 + p2 + (p3 + p4) + (p5 + p6 + p7), p2 + p3 + (p4 + p5) + (p6 + p7), p3 + p4 + (p5 + p6) + p7, p4 + p5 + (p6 + p7), p5 + p6 + p7, p6 + p7, p7] = u at *
  refine ⟨g1, g2, ?_, ?_⟩
  · rw [e3]; clear e3 g1 g2; omega
  · rw [e3, Nat.add_mul_mod_self_left, Nat.mod_eq_of_lt (by clear e3 g1 g2; omega)]; clear e3 g1 g2; omega
/-- The library's count of digits. -/
theorem ones (x z1 z2 z3 : Nat) (h : x < 18446744073709551616) (e1 : z1 = o3 (o2 (o1 x)) + o3 (o2 (o1 x)) / 256) (e2 : z2 = z1 + z1 / 65536) (e3 : z3 = z2 + z2 / 4294967296) :
    z1 < 18446744073709551616 ∧ z2 < 18446744073709551616 ∧ z3 < 9223372036854775808 ∧ z3 % 128 = pc 64 x := by
  obtain ⟨_, _, h3⟩ := o_all x h
  have hp := pc_num (bytes x) (bytes_lt x)
  rw [num_bytes x h] at hp
  rw [h3] at e1
  have f := fold8 _ _ _ _ _ _ _ _ _ z1 z2 z3 (pc_le 8 _) (pc_le 8 _) (pc_le 8 _) (pc_le 8 _) (pc_le 8 _) (pc_le 8 _) (pc_le 8 _) (pc_le 8 _) rfl e1 e2 e3
  refine ⟨f.1, f.2.1, f.2.2.1, f.2.2.2.trans ?_⟩
  rw [show (64 : Nat) = 8 * (bytes x).length from rfl, hp]
  simp only [bytes, List.map_cons, List.map_nil, List.sum_cons, List.sum_nil]
  omega
end Go.Proofs.Ytndhjfpjhpnbaaa.Bits
