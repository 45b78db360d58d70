/- What the references of chapter 4 answer: for all texts. -/
import Derived.Test.YtndhjfpjhpnbaaaChecked
import Derived.Test.YtndhjfpjhpnbaaaLexSpec
import Derived.WalkKit
import Derived.Deep.QuietTactic
import Derived.BigQuiet
import Derived.OpenShut
namespace Go.Proofs.Ytndhjfpjhpnbaaa.Lex
set_option maxRecDepth 100000
open Go.ChangeShapes Go.WideShapes Go.RowKit

theorem hide {p : Prop} (h : p) : Hid p := h
theorem unhide {p : Prop} (h : Hid p) : p := h.out
theorem ret_bool {a b : Bool} (h : a = b) : Ending.returned (.bool a) = .returned (.bool b) := by rw [h]

/- a text's bytes -/
def bl (s : ByteArray) : List UInt8 := s.data.toList
theorem bl_len (s : ByteArray) : (bl s).length = s.size := Array.length_toList
theorem bl_at (s : ByteArray) (k : Nat) (h : k < s.size) : (bl s)[k]? = some (s[k]'h) := by
  have h' : k < s.data.size := h
  show s.data.toList[k]? = some (s.data[k]'h')
  simp
theorem u8_lt (c : UInt8) : c.toNat < 256 := c.toNat_lt
def mkS (l : List UInt8) : ByteArray := ⟨l.toArray⟩
theorem mkS_bl (s : ByteArray) : mkS (bl s) = s := by cases s; simp [mkS, bl]
theorem bl_mkS (l : List UInt8) : bl (mkS l) = l := by simp [mkS, bl]
theorem toList_bl (s : ByteArray) : s.toList = bl s := ByteArray.toList_eq s
theorem bl_extract (s : ByteArray) (a b : Nat) : bl (s.extract a b) = ((bl s).drop a).take (b - a) := by
  have := ByteArray.extract_mk (bl s) a b
  have e : ByteArray.mk (bl s).toArray = s := mkS_bl s
  rw [e] at this
  rw [this]; simp [bl]
theorem take_mkS (s : ByteArray) (n : Nat) : s.extract 0 n = mkS ((bl s).take n) := by
  rw [← mkS_bl (s.extract 0 n), bl_extract]; simp

def smallB (c : Int) : Bool := decide (97 ≤ c) && decide (c ≤ 122)
def digitB (c : Int) : Bool := decide (48 ≤ c) && decide (c ≤ 57)
theorem small_nat (c : UInt8) : smallB (c.toNat : Int) = smallC c := by
  rw [Bool.eq_iff_iff]; simp [smallB, smallC]; omega
theorem digit_nat (c : UInt8) : digitB (c.toNat : Int) = digitC c := by
  rw [Bool.eq_iff_iff]; simp [digitB, digitC]; omega

theorem rsmall_any (c : Int) (w : World) : Calls Try.prog 41 #[.int .u8 c] w fun e w' => e = .returned (.bool (smallB c)) ∧ w' = w := by
  by_cases h0 : 97 ≤ c
  · go_enter Try.func41, Try.ntmps41
    go_wp2
    go_ret
    exact ⟨ret_bool (by simp [smallB, h0]), rfl⟩
  · go_enter Try.func41, Try.ntmps41
    go_wp2
    go_ret
    exact ⟨ret_bool (by simp [smallB]; omega), rfl⟩
theorem rdigit_any (c : Int) (w : World) : Calls Try.prog 50 #[.int .u8 c] w fun e w' => e = .returned (.bool (digitB c)) ∧ w' = w := by
  by_cases h0 : 48 ≤ c
  · go_enter Try.func50, Try.ntmps50
    go_wp2
    go_ret
    exact ⟨ret_bool (by simp [digitB, h0]), rfl⟩
  · go_enter Try.func50, Try.ntmps50
    go_wp2
    go_ret
    exact ⟨ret_bool (by simp [digitB]; omega), rfl⟩

/- a token in a frame -/
def tokV (t : Tok) : Value := .agg #[.int .i64 t.kind, .string (mkS t.text), .int .i64 t.n, .int .i64 t.pos]
def noTok : Tok := ⟨0, [], 0, 0⟩
def oneT (l : List UInt8) : Tok := match oneOf l with | some p => p.1 | none => noTok
def oneN (l : List UInt8) : Nat := match oneOf l with | some p => p.2 | none => 0
theorem one_some {l : List UInt8} {t : Tok} {m : Nat} (h : oneOf l = some (t, m)) : oneT l = t ∧ oneN l = m := by simp [oneT, oneN, h]
theorem one_none {l : List UInt8} (h : oneOf l = none) : oneT l = noTok ∧ oneN l = 0 := by simp [oneT, oneN, h]
theorem ret_tok {t : Tok} {n : Nat} {l : List UInt8} (h1 : oneT l = t) (h2 : oneN l = n) : Ending.returned (.tuple #[tokV t, .int .i64 (n : Nat)]) = .returned (.tuple #[tokV (oneT l), .int .i64 (oneN l : Nat)]) := by rw [h1, h2]

theorem bl_cons (s : ByteArray) (hs : 0 < s.size) : ∃ r, bl s = (s[0]'hs) :: r := by
  have := bl_at s 0 hs
  cases hb : bl s with
  | nil => rw [hb] at this; cases this
  | cons c r => rw [hb] at this; cases this; exact ⟨r, rfl⟩
theorem ret_one {k n : Int} {b : ByteArray} {m : Nat} {l : List UInt8} (h1 : oneT l = ⟨k, bl b, n, 0⟩) (h2 : oneN l = m) :
    Ending.returned (.tuple #[.agg #[.int .i64 k, .string b, .int .i64 n, .int .i64 0], .int .i64 (m : Int)]) = .returned (.tuple #[tokV (oneT l), .int .i64 (oneN l : Nat)]) := by
  rw [h1, h2, tokV]; simp only [mkS_bl]

theorem rone_semi (s : ByteArray) (w : World) (hs : 0 < s.size) (h : (s[0]'hs).toNat = 59) : Calls Try.prog 42 #[.string s] w fun e w' =>
    e = .returned (.tuple #[tokV (oneT (bl s)), .int .i64 (oneN (bl s) : Nat)]) ∧ Below w.heap.size w w' := by
  have ho : oneOf (bl s) = some (⟨3, [59], 0, 0⟩, 1) := by
    obtain ⟨r, hr⟩ := bl_cons s hs
    simp [hr, oneOf, h]
  have HO := hide ho
  clear ho
  have hs' : (0 : Int) < s.size := by omega
  go_enter Try.func42, Try.ntmps42
  go_wp2
  (try simp only [Exit.inBlock, Exit.then])
  refine bodyPost_ret (v := .tuple #[.agg #[.int .i64 3, .string ⟨#[59]⟩, .int .i64 0, .int .i64 0], .int .i64 1]) ?_ rfl ⟨ret_one (m := 1) (one_some (unhide HO)).1 (one_some (unhide HO)).2, ?_⟩
  · rw [results_cell_tmp rfl]; go_simp
  · exact (Below.refl _ _).alloc (Nat.le_refl _) _

theorem rone_odd (s : ByteArray) (w : World) (hs : 0 < s.size) (h : (s[0]'hs).toNat ≠ 59) (hd : digitC (s[0]'hs) = false) (hm : smallC (s[0]'hs) = false) : Calls Try.prog 42 #[.string s] w fun e w' =>
    e = .returned (.tuple #[tokV (oneT (bl s)), .int .i64 (oneN (bl s) : Nat)]) ∧ Below w.heap.size w w' := by
  have ho : oneOf (bl s) = none := by
    obtain ⟨r, hr⟩ := bl_cons s hs
    simp [hr, oneOf, h, hd, hm]
  have HO := hide ho
  have hs' : (0 : Int) < s.size := by omega
  have h1 : (((s[0]'hs).toNat : Int) == 59) = false := by simp; omega
  have h2 := digit_nat (s[0]'hs)
  have h3 := small_nat (s[0]'hs)
  rw [hd] at h2
  rw [hm] at h3
  clear ho hd hm h
  go_enter Try.func42, Try.ntmps42
  go_wp2_with (first
    | (go_at_call 50; refine (rdigit_any _ _).mono ?_; rintro e w' ⟨rfl, hw⟩; rw [hw]; clear hw w')
    | (go_at_call 41; refine (rsmall_any _ _).mono ?_; rintro e w' ⟨rfl, hw⟩; rw [hw]; clear hw w'))
  (try simp only [Exit.inBlock, Exit.then])
  refine bodyPost_ret (v := .tuple #[.agg #[.int .i64 0, .string ⟨#[]⟩, .int .i64 0, .int .i64 0], .int .i64 0]) ?_ rfl ⟨ret_one (m := 0) (one_none (unhide HO)).1 (one_none (unhide HO)).2, ?_⟩
  · rw [results_cell_tmp rfl]; go_simp
  · exact (Below.refl _ _).alloc (Nat.le_refl _) _

/- a number -/
theorem byte_run {s : ByteArray} {n : Nat} {p : UInt8 → Bool} (hn : n ≤ s.size) (h : ∀ j, j < n → ∀ hl : j < s.size, p (s[j]'hl) = true) (he : ∀ hj : n < s.size, p (s[n]'hj) = false) : (bl s).takeWhile p = (bl s).take n := by
  refine run_len p (bl s) n (by rw [bl_len]; exact hn) (fun j hj c hc => ?_) (fun c hc => ?_)
  · rw [bl_at s j (by omega)] at hc
    cases hc
    exact h j hj (by omega)
  · by_cases hl : n < s.size
    · rw [bl_at s n hl] at hc
      cases hc
      exact he hl
    · rw [List.getElem?_eq_none (by rw [bl_len]; omega)] at hc
      cases hc
theorem numV_snoc (d : List UInt8) (c : UInt8) : numV (d ++ [c]) = 10 * numV d + ((c.toNat : Int) - 48) := by simp [numV]
theorem num_bound (d : List UInt8) (h : ∀ c ∈ d, digitC c = true) : ∀ v : Int, 0 ≤ v → v * 10 ^ d.length ≤ d.foldl (fun v c => 10 * v + ((c.toNat : Int) - 48)) v ∧ d.foldl (fun v c => 10 * v + ((c.toNat : Int) - 48)) v < (v + 1) * 10 ^ d.length := by
  induction d with
  | nil => intro v _; simp; omega
  | cons c r ih =>
    intro v hv
    have hc := h c (by simp)
    simp only [digitC, Bool.and_eq_true, decide_eq_true_eq] at hc
    obtain ⟨h1, h2⟩ := ih (fun x hx => h x (by simp [hx])) (10 * v + ((c.toNat : Int) - 48)) (by omega)
    have hp : (0 : Int) ≤ 10 ^ r.length := Int.le_of_lt (Int.pow_pos (by decide))
    have e1 := Int.mul_le_mul_of_nonneg_right (show 10 * v ≤ 10 * v + ((c.toNat : Int) - 48) by omega) hp
    have e2 := Int.mul_le_mul_of_nonneg_right (show 10 * v + ((c.toNat : Int) - 48) + 1 ≤ 10 * (v + 1) by omega) hp
    rw [List.foldl_cons, List.length_cons, Int.pow_succ, Int.mul_comm (10 ^ r.length), ← Int.mul_assoc, ← Int.mul_assoc, Int.mul_comm v, Int.mul_comm (v + 1)]
    exact ⟨Int.le_trans e1 h1, Int.lt_of_lt_of_le h2 e2⟩
theorem numV_lt (d : List UInt8) (h : ∀ c ∈ d, digitC c = true) (hl : d.length ≤ 9) : 0 ≤ numV d ∧ numV d < 1000000000 := by
  obtain ⟨h1, h2⟩ := num_bound d h 0 (by decide)
  rw [Int.zero_mul] at h1
  rw [Int.zero_add, Int.one_mul] at h2
  have h3 : (10 : Int) ^ d.length ≤ 10 ^ 9 := by
    have := Nat.pow_le_pow_right (n := 10) (by decide) hl
    have := Int.ofNat_le.2 this
    simpa using this
  exact ⟨h1, Int.lt_of_lt_of_le h2 h3⟩
theorem take_at (s : ByteArray) (k : Nat) (h : k < s.size) : (bl s).take (k + 1) = (bl s).take k ++ [s[k]'h] := by
  rw [List.take_add_one, bl_at s k h]; rfl
theorem all_take {s : ByteArray} {k : Nat} {p : UInt8 → Bool} (h : ∀ j, j < k → ∀ hl : j < s.size, p (s[j]'hl) = true) : ∀ c ∈ (bl s).take k, p c = true := by
  intro c hc
  obtain ⟨j, hj, rfl⟩ := List.getElem_of_mem hc
  have hj1 : j < k := by rw [List.length_take] at hj; omega
  have hj2 : j < s.size := by rw [List.length_take, bl_len] at hj; omega
  have := h j hj1 hj2
  have e : ((bl s).take k)[j]? = some (s[j]'hj2) := by rw [List.getElem?_take, if_pos hj1, bl_at s j hj2]
  rw [List.getElem?_eq_getElem hj] at e
  rw [Option.some.inj e]
  exact this
theorem num_end {s : ByteArray} {k : Nat} (hs : 0 < s.size) (hk : k ≤ s.size) (h : (s[0]'hs).toNat ≠ 59) (hd : digitC (s[0]'hs) = true) (hall : ∀ j, j < k → ∀ hl : j < s.size, digitC (s[j]'hl) = true) (he : ∀ hj : k < s.size, digitC (s[k]'hj) = false) :
    oneOf (bl s) = if 9 < k ∨ (1 < k ∧ (s[0]'hs).toNat = 48) then none else some (⟨2, [], numV ((bl s).take (min k 9)), 0⟩, k) := by
  have hr := byte_run hk hall he
  have hl : ((bl s).take k).length = k := by rw [List.length_take, bl_len]; omega
  obtain ⟨r, hb⟩ := bl_cons s hs
  rw [hb] at hr hl ⊢
  simp only [oneOf, if_neg h, hd, if_true, hr, hl]
  by_cases h9 : 9 < k ∨ (1 < k ∧ (s[0]'hs).toNat = 48)
  · rw [if_pos h9, if_pos h9]
  · rw [if_neg h9, if_neg h9, show min k 9 = k by omega]

set_option maxHeartbeats 800000 in
theorem rone_num (s : ByteArray) (w : World) (hs : 0 < s.size) (hmax : s.size ≤ 9223372036854775807) (h : (s[0]'hs).toNat ≠ 59) (hd : digitC (s[0]'hs) = true) : Calls Try.prog 42 #[.string s] w fun e w' =>
    e = .returned (.tuple #[tokV (oneT (bl s)), .int .i64 (oneN (bl s) : Nat)]) ∧ Below w.heap.size w w' := by
  have hs' : (0 : Int) < s.size := by omega
  have h1 : (((s[0]'hs).toNat : Int) == 59) = false := by simp; omega
  have h2 := digit_nat (s[0]'hs)
  rw [hd] at h2
  go_enter Try.func42, Try.ntmps42
  go_wp2_with (first
    | (go_at_call 50; refine (rdigit_any _ _).mono ?_; rintro e w' ⟨rfl, hw⟩; rw [hw]; clear hw w')
    | (go_at_call 41; refine (rsmall_any _ _).mono ?_; rintro e w' ⟨rfl, hw⟩; rw [hw]; clear hw w'))
  go_loop [4, 5] (fun n v => ∃ k : Nat, k ≤ s.size ∧ n = .int .i64 k ∧ v = .int .i64 (numV ((bl s).take (min k 9))) ∧ ∀ j, j < k → ∀ hl : j < s.size, digitC (s[j]'hl) = true) (fun n _ => s.size - (intOf n).toNat)
  case atStart => exact ⟨0, Nat.zero_le _, rfl, rfl, fun j hj => absurd hj (by omega)⟩
  case round =>
    obtain ⟨k, hk, rfl, rfl, hall⟩ := hrel
    by_cases hlt : k < s.size
    · have hlt' : (k : Int) < s.size := by omega
      have e2 := digit_nat (s[k]'hlt)
      cases hdk : digitC (s[k]'hlt)
      · rw [hdk] at e2
        have ho := num_end hs hk h hd hall (fun _ => hdk)
        clear hall
        generalize numV ((bl s).take (min k 9)) = V at *
        by_cases h9 : 9 < k
        · rw [if_pos (Or.inl h9)] at ho
          have HO := hide ho
          have h9' : (9 : Int) < k := by omega
          clear ho
          go_wp2_with (go_at_call 50; refine (rdigit_any _ _).mono ?_; rintro e w' ⟨rfl, hw⟩; rw [hw]; clear hw w')
          (try simp only [Exit.inBlock, Exit.then])
          refine bodyPost_ret (v := .tuple #[.agg #[.int .i64 0, .string ⟨#[]⟩, .int .i64 0, .int .i64 0], .int .i64 0]) ?_ rfl ⟨ret_one (m := 0) (one_none (unhide HO)).1 (one_none (unhide HO)).2, ?_⟩
          · rw [results_cell_tmp rfl]; go_simp
          · exact (Below.refl _ _).alloc (Nat.le_refl _) _
        · by_cases h01 : 1 < k
          · by_cases hz : (s[0]'hs).toNat = 48
            · rw [if_pos (Or.inr ⟨h01, hz⟩)] at ho
              have HO := hide ho
              have hz' : (((s[0]'hs).toNat : Int) == 48) = true := by simp; omega
              clear ho
              go_wp2_with (go_at_call 50; refine (rdigit_any _ _).mono ?_; rintro e w' ⟨rfl, hw⟩; rw [hw]; clear hw w')
              (try simp only [Exit.inBlock, Exit.then])
              refine bodyPost_ret (v := .tuple #[.agg #[.int .i64 0, .string ⟨#[]⟩, .int .i64 0, .int .i64 0], .int .i64 0]) ?_ rfl ⟨ret_one (m := 0) (one_none (unhide HO)).1 (one_none (unhide HO)).2, ?_⟩
              · rw [results_cell_tmp rfl]; go_simp
              · exact (Below.refl _ _).alloc (Nat.le_refl _) _
            · rw [if_neg (fun e => e.elim h9 (fun e => hz e.2))] at ho
              have HO := hide ho
              have hz' : (((s[0]'hs).toNat : Int) == 48) = false := by simp; omega
              clear ho hz
              go_wp2_with (go_at_call 50; refine (rdigit_any _ _).mono ?_; rintro e w' ⟨rfl, hw⟩; rw [hw]; clear hw w')
              (try simp only [Exit.inBlock, Exit.then])
              refine bodyPost_ret (v := .tuple #[.agg #[.int .i64 2, .string ⟨#[]⟩, .int .i64 V, .int .i64 0], .int .i64 k]) ?_ rfl ⟨ret_one (m := k) (one_some (unhide HO)).1 (one_some (unhide HO)).2, ?_⟩
              · rw [results_cell_tmp rfl]; go_simp
              · exact (Below.refl _ _).alloc (Nat.le_refl _) _
          · rw [if_neg (fun e => e.elim h9 (fun e => h01 e.1))] at ho
            have HO := hide ho
            clear ho
            go_wp2_with (go_at_call 50; refine (rdigit_any _ _).mono ?_; rintro e w' ⟨rfl, hw⟩; rw [hw]; clear hw w')
            (try simp only [Exit.inBlock, Exit.then])
            refine bodyPost_ret (v := .tuple #[.agg #[.int .i64 2, .string ⟨#[]⟩, .int .i64 V, .int .i64 0], .int .i64 k]) ?_ rfl ⟨ret_one (m := k) (one_some (unhide HO)).1 (one_some (unhide HO)).2, ?_⟩
            · rw [results_cell_tmp rfl]; go_simp
            · exact (Below.refl _ _).alloc (Nat.le_refl _) _
      · rw [hdk] at e2
        have hall' : ∀ j, j < k + 1 → ∀ hl : j < s.size, digitC (s[j]'hl) = true := fun j hj hl => by
          by_cases e : j = k
          · subst e; exact hdk
          · exact hall j (by omega) hl
        have HALL := hide hall'
        have hb : 48 ≤ (s[k]'hlt).toNat ∧ (s[k]'hlt).toNat ≤ 57 := by
          simp only [digitC, Bool.and_eq_true, decide_eq_true_eq] at hdk; exact hdk
        by_cases h9 : k < 9
        · have hn := numV_snoc ((bl s).take k) (s[k]'hlt)
          rw [← take_at s k hlt] at hn
          have hbd := numV_lt ((bl s).take k) (all_take hall) (by rw [List.length_take]; omega)
          rw [show min k 9 = k by omega]
          have HN := hide hn
          clear hn hall hall'
          generalize numV ((bl s).take k) = V at *
          obtain ⟨b0, b1⟩ := hb
          obtain ⟨v0, v1⟩ := hbd
          go_wp2_with (go_at_call 50; refine (rdigit_any _ _).mono ?_; rintro e w' ⟨rfl, hw⟩; rw [hw]; clear hw w')
          go_round
          case rel => exact ⟨k + 1, by omega, by go_num, by rw [show min (k + 1) 9 = k + 1 by omega, unhide HN], unhide HALL⟩
          case measure => simp [intOf]; omega
        · rw [show min k 9 = 9 by omega]
          clear hall hall'
          generalize hV : numV ((bl s).take 9) = V at *
          have HV := hide hV
          clear hV
          go_wp2_with (go_at_call 50; refine (rdigit_any _ _).mono ?_; rintro e w' ⟨rfl, hw⟩; rw [hw]; clear hw w')
          go_round
          case rel => exact ⟨k + 1, by omega, by go_num, by rw [show min (k + 1) 9 = 9 by omega, unhide HV], unhide HALL⟩
          case measure => simp [intOf]; omega
    · have ho := num_end hs hk h hd hall (fun hj => absurd hj hlt)
      have hlt' : ¬ (k : Int) < s.size := by omega
      clear hall
      generalize numV ((bl s).take (min k 9)) = V at *
      by_cases h9 : 9 < k
      · rw [if_pos (Or.inl h9)] at ho
        have HO := hide ho
        have h9' : (9 : Int) < k := by omega
        clear ho
        go_wp2_with (go_at_call 50; refine (rdigit_any _ _).mono ?_; rintro e w' ⟨rfl, hw⟩; rw [hw]; clear hw w')
        (try simp only [Exit.inBlock, Exit.then])
        refine bodyPost_ret (v := .tuple #[.agg #[.int .i64 0, .string ⟨#[]⟩, .int .i64 0, .int .i64 0], .int .i64 0]) ?_ rfl ⟨ret_one (m := 0) (one_none (unhide HO)).1 (one_none (unhide HO)).2, ?_⟩
        · rw [results_cell_tmp rfl]; go_simp
        · exact (Below.refl _ _).alloc (Nat.le_refl _) _
      · by_cases h01 : 1 < k
        · by_cases hz : (s[0]'hs).toNat = 48
          · rw [if_pos (Or.inr ⟨h01, hz⟩)] at ho
            have HO := hide ho
            have hz' : (((s[0]'hs).toNat : Int) == 48) = true := by simp; omega
            clear ho
            go_wp2_with (go_at_call 50; refine (rdigit_any _ _).mono ?_; rintro e w' ⟨rfl, hw⟩; rw [hw]; clear hw w')
            (try simp only [Exit.inBlock, Exit.then])
            refine bodyPost_ret (v := .tuple #[.agg #[.int .i64 0, .string ⟨#[]⟩, .int .i64 0, .int .i64 0], .int .i64 0]) ?_ rfl ⟨ret_one (m := 0) (one_none (unhide HO)).1 (one_none (unhide HO)).2, ?_⟩
            · rw [results_cell_tmp rfl]; go_simp
            · exact (Below.refl _ _).alloc (Nat.le_refl _) _
          · rw [if_neg (fun e => e.elim h9 (fun e => hz e.2))] at ho
            have HO := hide ho
            have hz' : (((s[0]'hs).toNat : Int) == 48) = false := by simp; omega
            clear ho hz
            go_wp2_with (go_at_call 50; refine (rdigit_any _ _).mono ?_; rintro e w' ⟨rfl, hw⟩; rw [hw]; clear hw w')
            (try simp only [Exit.inBlock, Exit.then])
            refine bodyPost_ret (v := .tuple #[.agg #[.int .i64 2, .string ⟨#[]⟩, .int .i64 V, .int .i64 0], .int .i64 k]) ?_ rfl ⟨ret_one (m := k) (one_some (unhide HO)).1 (one_some (unhide HO)).2, ?_⟩
            · rw [results_cell_tmp rfl]; go_simp
            · exact (Below.refl _ _).alloc (Nat.le_refl _) _
        · rw [if_neg (fun e => e.elim h9 (fun e => h01 e.1))] at ho
          have HO := hide ho
          clear ho
          go_wp2_with (go_at_call 50; refine (rdigit_any _ _).mono ?_; rintro e w' ⟨rfl, hw⟩; rw [hw]; clear hw w')
          (try simp only [Exit.inBlock, Exit.then])
          refine bodyPost_ret (v := .tuple #[.agg #[.int .i64 2, .string ⟨#[]⟩, .int .i64 V, .int .i64 0], .int .i64 k]) ?_ rfl ⟨ret_one (m := k) (one_some (unhide HO)).1 (one_some (unhide HO)).2, ?_⟩
          · rw [results_cell_tmp rfl]; go_simp
          · exact (Below.refl _ _).alloc (Nat.le_refl _) _
end Go.Proofs.Ytndhjfpjhpnbaaa.Lex
