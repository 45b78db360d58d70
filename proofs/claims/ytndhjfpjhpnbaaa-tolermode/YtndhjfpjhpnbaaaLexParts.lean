/- What the small functions of package lex answer. -/
import Derived.Test.YtndhjfpjhpnbaaaLexSame
import Derived.Lib.UnsafeStr
import Derived.Lib.BufferWrite
import Derived.Lib.Buffer
import Derived.Laws.MakeOwn
namespace Go.Proofs.Ytndhjfpjhpnbaaa.Lex
set_option maxRecDepth 100000
open Go.ChangeShapes Go.WideShapes Go.RowKit

theorem gap_any (c : Int) (w : World) : Calls Try.prog 53 #[.int .u8 c] w fun e w' => e = .returned (.bool (c == 32 || c == 10)) ∧ w' = w := by
  cases h : c == 32
  · go_enter Try.func53, Try.ntmps53
    go_wp2
    go_ret
    exact ⟨ret_bool (by simp), rfl⟩
  · go_enter Try.func53, Try.ntmps53
    go_wp2
    go_ret
    exact ⟨ret_bool (by simp), rfl⟩
theorem note_any (c : Int) (w : World) : Calls Try.prog 57 #[.int .u8 c] w fun e w' => e = .returned (.bool (c != 10)) ∧ w' = w := by
  go_enter Try.func57, Try.ntmps57
  go_wp2
  go_ret
  exact ⟨rfl, rfl⟩
theorem letter_any (c : Int) (w : World) : Calls Try.prog 54 #[.int .u8 c] w fun e w' => e = .returned (.bool (smallB c)) ∧ w' = w := by
  by_cases h0 : 97 ≤ c
  · go_enter Try.func54, Try.ntmps54
    go_wp2
    go_ret
    exact ⟨ret_bool (by simp [smallB, h0]), rfl⟩
  · go_enter Try.func54, Try.ntmps54
    go_wp2
    go_ret
    exact ⟨ret_bool (by simp [smallB]; omega), rfl⟩
theorem digit_any (c : Int) (w : World) : Calls Try.prog 55 #[.int .u8 c] w fun e w' => e = .returned (.bool (digitB c)) ∧ w' = w := by
  by_cases h0 : 48 ≤ c
  · go_enter Try.func55, Try.ntmps55
    go_wp2
    go_ret
    exact ⟨ret_bool (by simp [digitB, h0]), rfl⟩
  · go_enter Try.func55, Try.ntmps55
    go_wp2
    go_ret
    exact ⟨ret_bool (by simp [digitB]; omega), rfl⟩
theorem name_any (c : Int) (w : World) : Calls Try.prog 58 #[.int .u8 c] w fun e w' => e = .returned (.bool (smallB c || digitB c || c == 95)) ∧ w' = w := by
  cases h1 : smallB c <;> cases h2 : digitB c <;> cases h3 : c == 95 <;>
  · go_enter Try.func58, Try.ntmps58
    go_wp2_with (first
      | (go_at_call 54; refine (letter_any _ _).mono ?_; rintro e w' ⟨rfl, hw⟩; rw [hw]; clear hw w')
      | (go_at_call 55; refine (digit_any _ _).mono ?_; rintro e w' ⟨rfl, hw⟩; rw [hw]; clear hw w'))
    go_ret
    exact ⟨ret_bool (by simp), rfl⟩

/- a run of bytes -/
def gapC (c : UInt8) : Bool := c.toNat == 32 || c.toNat == 10
def noteC (c : UInt8) : Bool := c.toNat != 10
theorem gap_byte (c : UInt8) (w : World) : Calls Try.prog 53 #[.int .u8 (c.toNat : Int)] w fun e w' => e = .returned (.bool (gapC c)) ∧ w' = w := by
  have h : (((c.toNat : Int) == 32) || ((c.toNat : Int) == 10)) = gapC c := by rw [Bool.eq_iff_iff]; simp [gapC]; omega
  rw [← h]; exact gap_any _ w
theorem note_byte (c : UInt8) (w : World) : Calls Try.prog 57 #[.int .u8 (c.toNat : Int)] w fun e w' => e = .returned (.bool (noteC c)) ∧ w' = w := by
  have h : ((c.toNat : Int) != 10) = noteC c := by rw [Bool.eq_iff_iff]; simp [noteC]; omega
  rw [← h]; exact note_any _ w
theorem letter_byte (c : UInt8) (w : World) : Calls Try.prog 54 #[.int .u8 (c.toNat : Int)] w fun e w' => e = .returned (.bool (smallC c)) ∧ w' = w := by
  rw [← small_nat]; exact letter_any _ w
theorem digit_byte (c : UInt8) (w : World) : Calls Try.prog 55 #[.int .u8 (c.toNat : Int)] w fun e w' => e = .returned (.bool (digitC c)) ∧ w' = w := by
  rw [← digit_nat]; exact digit_any _ w
theorem name_byte (c : UInt8) (w : World) : Calls Try.prog 58 #[.int .u8 (c.toNat : Int)] w fun e w' => e = .returned (.bool (nameC c)) ∧ w' = w := by
  have h : (smallB (c.toNat : Int) || digitB (c.toNat : Int) || ((c.toNat : Int) == 95)) = nameC c := by
    have : ((c.toNat : Int) == 95) = (c.toNat == 95) := by rw [Bool.eq_iff_iff]; simp; omega
    rw [small_nat, digit_nat, this]; rfl
  rw [← h]; exact name_any _ w
def runN (p : UInt8 → Bool) (s : ByteArray) (k : Nat) : Nat := (((bl s).drop k).takeWhile p).length
theorem run_stop {p : UInt8 → Bool} {s : ByteArray} {k : Nat} (h : ∀ hj : k < s.size, p (s[k]'hj) = false) : runN p s k = 0 := by
  by_cases hk : k < s.size
  · rw [runN, drop_at s k hk, List.takeWhile_cons, if_neg (by simp [h hk])]; rfl
  · rw [runN, List.drop_of_length_le (by rw [bl_len]; omega)]; rfl
theorem run_go {p : UInt8 → Bool} {s : ByteArray} {k : Nat} (hk : k < s.size) (h : p (s[k]'hk) = true) : runN p s k = runN p s (k + 1) + 1 := by
  rw [runN, drop_at s k hk, List.takeWhile_cons, if_pos h]; rfl
theorem ret_int {a b : Int} (h : a = b) : Ending.returned (.int .i64 a) = .returned (.int .i64 b) := by rw [h]
theorem run_any (g : Nat) (p : UInt8 → Bool) (eg : ∀ args w, (callFunc g args).run Try.prog w = .ok (.enter g args) w) (hg : ∀ (c : UInt8) (w : World), Calls Try.prog g #[.int .u8 (c.toNat : Int)] w fun e w' => e = .returned (.bool (p c)) ∧ w' = w)
    (s : ByteArray) (k0 : Nat) (hmax : s.size ≤ 4000) (h0 : k0 ≤ s.size) (w : World) : Calls Try.prog 56 #[.string s, .int .i64 k0, .func (.func g) #[] #[]] w fun e w' => e = .returned (.int .i64 (k0 + runN p s k0 : Nat)) ∧ w' = w := by
  have HG := hide hg
  clear hg
  go_enter Try.func56, Try.ntmps56
  go_wp2
  go_loop [1] (fun i => ∃ k : Nat, k ≤ s.size ∧ i = .int .i64 k ∧ k0 + runN p s k0 = k + runN p s k) (fun i => s.size - (intOf i).toNat)
  case atStart => exact ⟨k0, h0, rfl, rfl⟩
  case round =>
    obtain ⟨k, hk, rfl, hrun⟩ := hrel
    by_cases hlt : k < s.size
    · have hlt' : (k : Int) < s.size := by omega
      cases hp : p (s[k]'hlt)
      · have hz : k0 + runN p s k0 = k := by rw [hrun, run_stop (fun _ => hp)]; rfl
        have HZ := hide hz
        clear hz hrun
        go_wp2_with fail
        refine (unhide HG _ _).mono ?_
        rintro e w' ⟨rfl, hw⟩
        rw [hw]; clear hw w'
        go_wp2
        go_ret
        exact ⟨ret_int (by have := unhide HZ; omega), rfl⟩
      · have hz : k0 + runN p s k0 = (k + 1) + runN p s (k + 1) := by rw [hrun, run_go hlt hp]; omega
        have HZ := hide hz
        clear hz hrun
        go_wp2_with fail
        refine (unhide HG _ _).mono ?_
        rintro e w' ⟨rfl, hw⟩
        rw [hw]; clear hw w'
        go_wp2
        go_round
        case rel => exact ⟨k + 1, by omega, by go_num, unhide HZ⟩
        case measure => simp [intOf]; omega
    · have hlt' : ¬ (k : Int) < s.size := by omega
      have hz : k0 + runN p s k0 = k := by rw [hrun, run_stop (fun hj => absurd hj hlt)]; rfl
      have HZ := hide hz
      clear hz hrun
      go_wp2
      go_ret
      exact ⟨ret_int (by have := unhide HZ; omega), rfl⟩

/- the number that digits write -/
theorem value_any (s : ByteArray) (w : World) (h9 : s.size ≤ 9) (hd : ∀ c ∈ bl s, digitC c = true) : Calls Try.prog 60 #[.string s] w fun e w' => e = .returned (.int .i64 (numV (bl s))) ∧ w' = w := by
  go_enter Try.func60, Try.ntmps60
  go_wp2
  go_loop [3, 7] (fun v i => ∃ k : Nat, k ≤ s.size ∧ i = .int .i64 k ∧ v = .int .i64 (numV ((bl s).take k))) (fun _ i => s.size - (intOf i).toNat)
  case atStart => exact ⟨0, Nat.zero_le _, rfl, rfl⟩
  case round =>
    obtain ⟨k, hk, rfl, rfl⟩ := hrel
    by_cases hlt : k < s.size
    · have hlt' : (k : Int) < s.size := by omega
      have hn := numV_snoc ((bl s).take k) (s[k]'hlt)
      rw [← take_at s k hlt] at hn
      have hbd := numV_lt ((bl s).take k) (fun c hc => hd c (List.mem_of_mem_take hc)) (by rw [List.length_take]; omega)
      have hb : 48 ≤ (s[k]'hlt).toNat ∧ (s[k]'hlt).toNat ≤ 57 := by
        have := hd (s[k]'hlt) (List.mem_of_getElem? (bl_at s k hlt))
        simp only [digitC, Bool.and_eq_true, decide_eq_true_eq] at this; exact this
      have HN := hide hn
      clear hn hd
      generalize numV ((bl s).take k) = V at *
      obtain ⟨b0, b1⟩ := hb
      obtain ⟨v0, v1⟩ := hbd
      go_wp2
      go_round
      case rel => exact ⟨k + 1, by omega, by go_num, by rw [unhide HN]; go_num⟩
      case measure => simp [intOf]; omega
    · have hlt' : ¬ (k : Int) < s.size := by omega
      have hz : (bl s).take k = bl s := List.take_of_length_le (by rw [bl_len]; omega)
      rw [hz]
      clear hd hz
      go_wp2
      go_ret
      exact ⟨rfl, rfl⟩
end Go.Proofs.Ytndhjfpjhpnbaaa.Lex
