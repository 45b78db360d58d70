/- From place to place of a text: what is ahead of a place, step by step, as plain functions of bytes. -/
import Derived.Test.YtndhjfpjhpnbaaaLexParts
namespace Go.Proofs.Ytndhjfpjhpnbaaa.Lex
set_option maxRecDepth 100000
open Go.ChangeShapes Go.WideShapes Go.RowKit

def Ahead (s : ByteArray) (k : Nat) (L : List Tok) : Prop := toksA false 0 (bl s) = (toksA false k ((bl s).drop k)).map (L ++ ·)
theorem ahead_nil (s : ByteArray) : Ahead s 0 [] := by
  rw [Ahead, List.drop_zero]; cases toksA false 0 (bl s) <;> rfl
theorem ahead_end {s : ByteArray} {L : List Tok} (h : Ahead s s.size L) : toksA false 0 (bl s) = .ok L := by
  rw [h, List.drop_of_length_le (by rw [bl_len]; exact Nat.le_refl _), toksA_nil]
  simp [Except.map]
theorem run_le (p : UInt8 → Bool) (s : ByteArray) {k : Nat} (hk : k ≤ s.size) : k + runN p s k ≤ s.size := by
  have := (List.takeWhile_sublist p (l := (bl s).drop k)).length_le
  rw [List.length_drop, bl_len] at this
  rw [runN]; omega
theorem run_pos {p : UInt8 → Bool} {s : ByteArray} {k : Nat} (hk : k < s.size) (h : p (s[k]'hk) = true) : 1 ≤ runN p s k := by rw [run_go hk h]; omega
theorem run_take (p : UInt8 → Bool) (s : ByteArray) (k : Nat) : bl (s.extract k (k + runN p s k)) = ((bl s).drop k).takeWhile p := by
  rw [bl_extract, show k + runN p s k - k = runN p s k by omega, runN]
  exact (List.prefix_iff_eq_take.1 (List.takeWhile_prefix p)).symm
theorem run_size (p : UInt8 → Bool) (s : ByteArray) (k : Nat) : (s.extract k (k + runN p s k)).size = runN p s k := by
  rw [← bl_len, run_take, runN]
theorem run_all (p : UInt8 → Bool) (s : ByteArray) (k : Nat) : ∀ c ∈ bl (s.extract k (k + runN p s k)), p c = true := by
  rw [run_take]; intro c hc
  have := List.all_takeWhile (p := p) (l := (bl s).drop k)
  rw [List.all_eq_true] at this
  exact this c hc

/- gaps -/
theorem gap_run (s : ByteArray) (n : Nat) : ∀ k, runN gapC s k = n → toksA false k ((bl s).drop k) = toksA false (k + n) ((bl s).drop (k + n)) := by
  induction n with
  | zero => intro k _; rfl
  | succ n ih =>
    intro k hn
    by_cases hk : k < s.size
    · cases hp : gapC (s[k]'hk)
      · rw [run_stop (fun _ => hp)] at hn; omega
      · rw [run_go hk hp] at hn
        have := ih (k + 1) (by omega)
        rw [show k + (n + 1) = k + 1 + n by omega, ← this, drop_at s k hk, toksA_cons]
        simp only [gapC] at hp
        have h35 : ((s[k]'hk).toNat == 35) = false := by
          simp only [Bool.or_eq_true, beq_iff_eq] at hp; simp; omega
        simp only [h35, hp, Bool.or_false, Bool.false_eq_true, if_false, if_true]
    · rw [run_stop (fun hj => absurd hj hk)] at hn; omega
theorem gap_to {s : ByteArray} {k : Nat} {L : List Tok} (h : Ahead s k L) : Ahead s (k + runN gapC s k) L := by
  rw [Ahead, h, gap_run s _ k rfl]

/- a note -/
theorem note_run (s : ByteArray) (n : Nat) : ∀ k, runN noteC s k = n → toksA true k ((bl s).drop k) = toksA false (k + n) ((bl s).drop (k + n)) := by
  induction n with
  | zero =>
    intro k hn
    by_cases hk : k < s.size
    · cases hp : noteC (s[k]'hk)
      · rw [Nat.add_zero, drop_at s k hk, toksA_cons, toksA_cons]
        have h10 : (s[k]'hk).toNat = 10 := by simpa [noteC] using hp
        simp [h10]
      · rw [run_go hk hp] at hn; omega
    · rw [Nat.add_zero, List.drop_of_length_le (by rw [bl_len]; omega)]; rfl
  | succ n ih =>
    intro k hn
    by_cases hk : k < s.size
    · cases hp : noteC (s[k]'hk)
      · rw [run_stop (fun _ => hp)] at hn; omega
      · rw [run_go hk hp] at hn
        have := ih (k + 1) (by omega)
        rw [show k + (n + 1) = k + 1 + n by omega, ← this, drop_at s k hk, toksA_cons]
        have h10 : ((s[k]'hk).toNat != 10) = true := hp
        simp only [Bool.true_or, if_true, h10]
    · rw [run_stop (fun hj => absurd hj hk)] at hn; omega
theorem note_to {s : ByteArray} {k : Nat} {L : List Tok} (hk : k < s.size) (h35 : (s[k]'hk).toNat = 35) (h : Ahead s k L) : Ahead s (k + runN noteC s k) L := by
  have hp : noteC (s[k]'hk) = true := by simp [noteC, h35]
  have hn := note_run s _ (k + 1) rfl
  rw [Ahead, h, run_go hk hp, show k + (runN noteC s (k + 1) + 1) = k + 1 + runN noteC s (k + 1) by omega, ← hn, drop_at s k hk, toksA_cons]
  simp [h35]

/- tokens -/
theorem tok_to {s : ByteArray} {k m : Nat} {L : List Tok} {t : Tok} (hk : k < s.size) (h35 : (s[k]'hk).toNat ≠ 35) (hg : gapC (s[k]'hk) = false) (ho : oneOf ((bl s).drop k) = some (t, m)) (h : Ahead s k L) :
    Ahead s (k + m) (L ++ [{ t with pos := k }]) := by
  rw [Ahead, h, drop_at s k hk, toksA_cons, ← drop_at s k hk, ho]
  have e1 : ((s[k]'hk).toNat == 35) = false := by simpa using h35
  simp only [gapC] at hg
  simp only [e1, hg, Bool.or_false, Bool.false_eq_true, if_false]
  rw [← map_app, List.drop_drop]
theorem tok_err {s : ByteArray} {k : Nat} {L : List Tok} (hk : k < s.size) (h35 : (s[k]'hk).toNat ≠ 35) (hg : gapC (s[k]'hk) = false) (ho : oneOf ((bl s).drop k) = none) (h : Ahead s k L) :
    toksA false 0 (bl s) = .error k := by
  rw [h, drop_at s k hk, toksA_cons, ← drop_at s k hk, ho]
  have e1 : ((s[k]'hk).toNat == 35) = false := by simpa using h35
  simp only [gapC] at hg
  simp only [e1, hg, Bool.or_false, Bool.false_eq_true, if_false]
  rfl
theorem no_gap {c : UInt8} (h : c.toNat ≠ 32 ∧ c.toNat ≠ 10) : gapC c = false := by simp [gapC, h.1, h.2]
theorem small_is {c : UInt8} (h : smallC c = true) : 97 ≤ c.toNat ∧ c.toNat ≤ 122 := by simpa [smallC] using h
theorem digit_is {c : UInt8} (h : digitC c = true) : 48 ≤ c.toNat ∧ c.toNat ≤ 57 := by simpa [digitC] using h
theorem word_short {d : List UInt8} (h : wordB d = true) : d.length ≤ 8 := by
  have hm : d ∈ words := by simpa [wordB] using h
  have hall : ∀ x ∈ words, x.length ≤ 8 := by decide
  exact hall d hm

theorem one_name (c : UInt8) (r : List UInt8) (h : smallC c = true) : oneOf (c :: r) =
    if 12 < ((c :: r).takeWhile nameC).length then none else some (⟨if wordB ((c :: r).takeWhile nameC) then 3 else 1, (c :: r).takeWhile nameC, 0, 0⟩, ((c :: r).takeWhile nameC).length) := by
  have hc := small_is h
  have h59 : c.toNat ≠ 59 := by omega
  have hd : digitC c = false := by simp [digitC]; omega
  simp only [oneOf, if_neg h59, hd, h, Bool.false_eq_true, if_false, if_true]
  cases hw : wordB ((c :: r).takeWhile nameC)
  · rfl
  · have := word_short hw
    rw [if_pos rfl, if_neg (by omega)]; rfl
theorem name_to {s : ByteArray} {k : Nat} {L : List Tok} (hk : k < s.size) (hc : smallC (s[k]'hk) = true) (h12 : ¬ 12 < runN nameC s k) (h : Ahead s k L) :
    Ahead s (k + runN nameC s k) (L ++ [⟨if wordB (bl (s.extract k (k + runN nameC s k))) then 3 else 1, bl (s.extract k (k + runN nameC s k)), 0, k⟩]) := by
  have hb := small_is hc
  have ho := one_name (s[k]'hk) ((bl s).drop (k + 1)) hc
  rw [← drop_at s k hk] at ho
  rw [runN] at h12
  rw [if_neg h12] at ho
  rw [run_take]
  exact tok_to hk (by omega) (no_gap (by omega)) ho h
theorem name_err {s : ByteArray} {k : Nat} {L : List Tok} (hk : k < s.size) (hc : smallC (s[k]'hk) = true) (h12 : 12 < runN nameC s k) (h : Ahead s k L) : toksA false 0 (bl s) = .error k := by
  have hb := small_is hc
  have ho := one_name (s[k]'hk) ((bl s).drop (k + 1)) hc
  rw [← drop_at s k hk] at ho
  rw [runN] at h12
  rw [if_pos h12] at ho
  exact tok_err hk (by omega) (no_gap (by omega)) ho h
theorem one_num (c : UInt8) (r : List UInt8) (h : digitC c = true) : oneOf (c :: r) =
    if 9 < ((c :: r).takeWhile digitC).length ∨ (1 < ((c :: r).takeWhile digitC).length ∧ c.toNat = 48) then none else some (⟨2, [], numV ((c :: r).takeWhile digitC), 0⟩, ((c :: r).takeWhile digitC).length) := by
  have hc := digit_is h
  have h59 : c.toNat ≠ 59 := by omega
  simp only [oneOf, if_neg h59, h, if_true]
theorem num_to {s : ByteArray} {k : Nat} {L : List Tok} (hk : k < s.size) (hc : digitC (s[k]'hk) = true) (h9 : ¬ (9 < runN digitC s k ∨ (1 < runN digitC s k ∧ (s[k]'hk).toNat = 48))) (h : Ahead s k L) :
    Ahead s (k + runN digitC s k) (L ++ [⟨2, [], numV (bl (s.extract k (k + runN digitC s k))), k⟩]) := by
  have hb := digit_is hc
  have ho := one_num (s[k]'hk) ((bl s).drop (k + 1)) hc
  rw [← drop_at s k hk] at ho
  rw [runN] at h9
  rw [if_neg h9] at ho
  rw [run_take]
  exact tok_to hk (by omega) (no_gap (by omega)) ho h
theorem num_err {s : ByteArray} {k : Nat} {L : List Tok} (hk : k < s.size) (hc : digitC (s[k]'hk) = true) (h9 : 9 < runN digitC s k ∨ (1 < runN digitC s k ∧ (s[k]'hk).toNat = 48)) (h : Ahead s k L) : toksA false 0 (bl s) = .error k := by
  have hb := digit_is hc
  have ho := one_num (s[k]'hk) ((bl s).drop (k + 1)) hc
  rw [← drop_at s k hk] at ho
  rw [runN] at h9
  rw [if_pos h9] at ho
  exact tok_err hk (by omega) (no_gap (by omega)) ho h
theorem semi_to {s : ByteArray} {k : Nat} {L : List Tok} (hk : k < s.size) (hc : (s[k]'hk).toNat = 59) (h : Ahead s k L) : Ahead s (k + 1) (L ++ [⟨3, [59], 0, k⟩]) := by
  have ho : oneOf ((bl s).drop k) = some (⟨3, [59], 0, 0⟩, 1) := by rw [drop_at s k hk]; simp [oneOf, hc]
  exact tok_to hk (by omega) (no_gap (by omega)) ho h
theorem odd_err {s : ByteArray} {k : Nat} {L : List Tok} (hk : k < s.size) (h35 : (s[k]'hk).toNat ≠ 35) (hg : gapC (s[k]'hk) = false) (hs : smallC (s[k]'hk) = false) (hd : digitC (s[k]'hk) = false) (h59 : (s[k]'hk).toNat ≠ 59) (h : Ahead s k L) : toksA false 0 (bl s) = .error k := by
  have ho : oneOf ((bl s).drop k) = none := by rw [drop_at s k hk]; simp [oneOf, h59, hd, hs]
  exact tok_err hk h35 hg ho h
end Go.Proofs.Ytndhjfpjhpnbaaa.Lex
