/- The document's answer to chapter 4 as plain functions of a text's bytes. -/
import Derived.WalkKit
namespace Go.Proofs.Ytndhjfpjhpnbaaa.Lex
set_option maxRecDepth 100000

def smallC (c : UInt8) : Bool := decide (97 ≤ c.toNat) && decide (c.toNat ≤ 122)
def digitC (c : UInt8) : Bool := decide (48 ≤ c.toNat) && decide (c.toNat ≤ 57)
def nameC (c : UInt8) : Bool := smallC c || digitC c || c.toNat == 95
def words : List (List UInt8) := [[114, 101, 108, 111, 97, 100], [116, 97, 115, 107], [112, 101, 114, 105, 111, 100], [100, 101, 97, 100, 108, 105, 110, 101], [102, 105, 120, 101, 100], [102, 108, 111, 97, 116], [116, 104, 114, 101, 115, 104], [114, 101, 103, 105, 111, 110, 115], [101, 99, 98], [117, 99, 98]]
def wordB (d : List UInt8) : Bool := words.contains d
def numV (d : List UInt8) : Int := d.foldl (fun v c => 10 * v + ((c.toNat : Int) - 48)) 0
structure Tok where
  kind : Int
  text : List UInt8
  n : Int
  pos : Int

/- the token that stands first: its kind, text, number, and how many bytes -/
def oneOf (l : List UInt8) : Option (Tok × Nat) :=
  match l with
  | [] => none
  | c :: r =>
    if c.toNat = 59 then some (⟨3, [59], 0, 0⟩, 1)
    else if digitC c then
      (if 9 < ((c :: r).takeWhile digitC).length ∨ (1 < ((c :: r).takeWhile digitC).length ∧ c.toNat = 48) then none
        else some (⟨2, [], numV ((c :: r).takeWhile digitC), 0⟩, ((c :: r).takeWhile digitC).length))
    else if smallC c then
      (if wordB ((c :: r).takeWhile nameC) then some (⟨3, (c :: r).takeWhile nameC, 0, 0⟩, ((c :: r).takeWhile nameC).length)
        else if 12 < ((c :: r).takeWhile nameC).length then none
        else some (⟨1, (c :: r).takeWhile nameC, 0, 0⟩, ((c :: r).takeWhile nameC).length))
    else none

/- from one place on: the tokens, or the place of the first error -/
def toks : Nat → Bool → Nat → List UInt8 → Except Nat (List Tok)
  | 0, _, _, _ => .ok []
  | _ + 1, _, _, [] => .ok []
  | f + 1, note, i, c :: r =>
    if note || c.toNat == 35 then toks f (c.toNat != 10) (i + 1) r
    else if c.toNat == 32 || c.toNat == 10 then toks f false (i + 1) r
    else match oneOf (c :: r) with
      | none => .error i
      | some (t, m) => (toks f false (i + m) ((c :: r).drop m)).map ({ t with pos := i } :: ·)

/- a run of bytes -/
theorem run_len (p : UInt8 → Bool) (l : List UInt8) (n : Nat) (hn : n ≤ l.length) (h : ∀ j, j < n → ∀ c, l[j]? = some c → p c = true) (he : ∀ c, l[n]? = some c → p c = false) : l.takeWhile p = l.take n := by
  induction n generalizing l with
  | zero =>
    cases l with
    | nil => rfl
    | cons c r =>
      have := he c rfl
      simp [this]
  | succ n ih =>
    cases l with
    | nil => simp at hn
    | cons c r =>
      have hc := h 0 (by omega) c rfl
      simp only [List.takeWhile_cons, hc, if_true, List.take_succ_cons]
      congr 1
      exact ih r (by simpa using hn) (fun j hj c' hc' => h (j + 1) (by omega) c' (by simpa using hc')) (fun c' hc' => he c' (by simpa using hc'))
theorem oneOf_le {l : List UInt8} {t : Tok} {m : Nat} (h : oneOf l = some (t, m)) : 1 ≤ m ∧ m ≤ l.length := by
  cases l with
  | nil => simp [oneOf] at h
  | cons c r =>
    have hl : ∀ p : UInt8 → Bool, ((c :: r).takeWhile p).length ≤ (c :: r).length := fun p => (List.takeWhile_sublist p).length_le
    have hp : ∀ p : UInt8 → Bool, p c = true → 1 ≤ ((c :: r).takeWhile p).length := fun p hp => by simp [hp]
    simp only [oneOf] at h
    split at h
    · cases h; simp
    · split at h
      · rename_i hd
        split at h
        · cases h
        · cases h; exact ⟨hp _ hd, hl _⟩
      · split at h
        · rename_i hs
          have hn : nameC c = true := by simp [nameC, hs]
          split at h
          · cases h; exact ⟨hp _ hn, hl _⟩
          · split at h
            · cases h
            · cases h; exact ⟨hp _ hn, hl _⟩
        · cases h

/- the rest of a text: as much fuel as bytes is enough -/
theorem toks_fuel (n : Nat) : ∀ f note i (l : List UInt8), l.length ≤ n → l.length ≤ f → toks f note i l = toks l.length note i l := by
  induction n with
  | zero =>
    intro f note i l hn hf
    have : l = [] := List.eq_nil_of_length_eq_zero (by omega)
    subst this
    cases f <;> rfl
  | succ n ih =>
    intro f note i l hn hf
    cases l with
    | nil => cases f <;> rfl
    | cons c r =>
      cases f with
      | zero => simp at hf
      | succ f =>
        simp only [List.length_cons] at hn hf ⊢
        simp only [toks]
        rw [ih f _ (i + 1) r (by omega) (by omega)]
        rw [ih f false (i + 1) r (by omega) (by omega)]
        cases ho : oneOf (c :: r) with
        | none => rfl
        | some p =>
          obtain ⟨t, m⟩ := p
          have hm := oneOf_le ho
          have hd : ((c :: r).drop m).length ≤ r.length := by rw [List.length_drop, List.length_cons]; omega
          simp only
          rw [ih f false (i + m) ((c :: r).drop m) (by omega) (by omega), ih r.length false (i + m) ((c :: r).drop m) (by omega) hd]
def toksA (note : Bool) (i : Nat) (l : List UInt8) : Except Nat (List Tok) := toks l.length note i l
theorem toksA_nil (note : Bool) (i : Nat) : toksA note i [] = .ok [] := rfl
theorem toksA_cons (note : Bool) (i : Nat) (c : UInt8) (r : List UInt8) : toksA note i (c :: r) =
    if note || c.toNat == 35 then toksA (c.toNat != 10) (i + 1) r
    else if c.toNat == 32 || c.toNat == 10 then toksA false (i + 1) r
    else match oneOf (c :: r) with
      | none => .error i
      | some (t, m) => (toksA false (i + m) ((c :: r).drop m)).map ({ t with pos := i } :: ·) := by
  show toks (r.length + 1) note i (c :: r) = _
  simp only [toks, toksA]
  cases ho : oneOf (c :: r) with
  | none => rfl
  | some p =>
    obtain ⟨t, m⟩ := p
    have hm := oneOf_le ho
    have hd : ((c :: r).drop m).length ≤ r.length := by rw [List.length_drop, List.length_cons]; omega
    simp only
    rw [toks_fuel r.length r.length false (i + m) ((c :: r).drop m) hd hd]
/- a whole text: its tokens, the place, the error -/
structure Ans where
  toks : List Tok
  pos : Int
  err : Int
def tokens (l : List UInt8) : Ans :=
  if 4000 < l.length then ⟨[], 0, 3⟩
  else match toksA false 0 l with
    | .error i => ⟨[], i, 2⟩
    | .ok L => ⟨L ++ [⟨4, [], 0, l.length⟩], l.length, 0⟩
end Go.Proofs.Ytndhjfpjhpnbaaa.Lex
