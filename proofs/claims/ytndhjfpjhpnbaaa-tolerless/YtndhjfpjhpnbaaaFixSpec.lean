/- Chapter 10: the document's answers, in plain words. -/
import Derived.Test.YtndhjfpjhpnbaaaProg
import Derived.WalkKit
import Derived.Below
namespace Go.Proofs.Ytndhjfpjhpnbaaa.Fix
set_option maxRecDepth 100000
open Go.RowKit

structure LoadV where
  T : Int
  C : Int
def load0 : LoadV := ⟨0, 0⟩
def loadB (x : LoadV) : Bool := decide (1 ≤ x.T) && (decide (x.T ≤ 1000000) && (decide (0 ≤ x.C) && decide (x.C ≤ 1000000)))
def mayB (base : Int) (l : List LoadV) : Bool := decide (0 ≤ base) && (decide (base ≤ 1000000) && (decide (l.length ≤ 64) && l.all loadB))
def ceilZ (w t : Int) : Int := (w + t - 1) / t
def addZ (w : Int) (x : LoadV) : Int := ceilZ w x.T * x.C
def sumZ (base : Int) (l : List LoadV) (w : Int) : Int := l.foldl (fun n x => n + addZ w x) base
/- the least number that a function answers with itself, up to Top -/
def IsLeast (f : Int → Int) : Option Int → Prop
  | some n => (1 ≤ n ∧ n ≤ 1000000) ∧ f n = n ∧ ∀ w, 1 ≤ w → w < n → w < f w
  | none => ∀ w, 1 ≤ w → w ≤ 1000000 → f w ≠ w
def valO (r : Option Int) : Int := r.getD 0

theorem may_parts {base : Int} {l : List LoadV} (h : mayB base l = true) : (0 ≤ base ∧ base ≤ 1000000) ∧ l.length ≤ 64 ∧ ∀ x ∈ l, (1 ≤ x.T ∧ x.T ≤ 1000000) ∧ 0 ≤ x.C ∧ x.C ≤ 1000000 := by
  simp only [mayB, loadB, Bool.and_eq_true, decide_eq_true_eq, List.all_eq_true] at h
  exact ⟨⟨h.1, h.2.1⟩, h.2.2.1, fun x hx => ⟨⟨(h.2.2.2 x hx).1, (h.2.2.2 x hx).2.1⟩, (h.2.2.2 x hx).2.2⟩⟩
theorem may_of {base : Int} {l : List LoadV} (h0 : 0 ≤ base ∧ base ≤ 1000000) (h1 : l.length ≤ 64) (h2 : ∀ x ∈ l, (1 ≤ x.T ∧ x.T ≤ 1000000) ∧ 0 ≤ x.C ∧ x.C ≤ 1000000) : mayB base l = true := by
  simp only [mayB, loadB, Bool.and_eq_true, decide_eq_true_eq, List.all_eq_true]
  exact ⟨h0.1, h0.2, h1, fun x hx => ⟨(h2 x hx).1.1, (h2 x hx).1.2, (h2 x hx).2.1, (h2 x hx).2.2⟩⟩
theorem ceil_mono {v w t : Int} (ht : 1 ≤ t) (h : v ≤ w) : ceilZ v t ≤ ceilZ w t := Int.ediv_le_ediv (by omega) (by omega)
theorem ceil_range {w t : Int} (ht : 1 ≤ t) (h : 0 ≤ w) : 0 ≤ ceilZ w t ∧ ceilZ w t ≤ w := by
  refine ⟨Int.ediv_nonneg (by omega) (by omega), ?_⟩
  unfold ceilZ
  rcases Int.lt_or_le 0 w with h1 | h1
  · have h2 : w + t - 1 < (w + 1) * t := by
      have := Int.mul_le_mul_of_nonneg_left (show (1 : Int) ≤ t from ht) (show (0 : Int) ≤ w from h)
      rw [Int.add_mul]; omega
    have := Int.ediv_lt_of_lt_mul (by omega) h2
    omega
  · have : w = 0 := by omega
    subst this
    rw [Int.ediv_eq_zero_of_lt (by omega) (by omega)]
    exact Int.le_refl _
theorem add_range {w : Int} {x : LoadV} (hx : (1 ≤ x.T ∧ x.T ≤ 1000000) ∧ 0 ≤ x.C ∧ x.C ≤ 1000000) (hw : 0 ≤ w ∧ w ≤ 1000000) : 0 ≤ addZ w x ∧ addZ w x ≤ 1000000000000 := by
  have hc := ceil_range hx.1.1 hw.1
  have h1 := Int.mul_nonneg hc.1 hx.2.1
  have h2 := Int.mul_le_mul (show ceilZ w x.T ≤ 1000000 by omega) hx.2.2 hx.2.1 (by decide)
  unfold addZ
  omega
theorem sum_snoc (base : Int) (l : List LoadV) (x : LoadV) (w : Int) : sumZ base (l ++ [x]) w = sumZ base l w + addZ w x := by simp [sumZ]
theorem sum_cons (base : Int) (l : List LoadV) (x : LoadV) (w : Int) : sumZ base (x :: l) w = sumZ (base + addZ w x) l w := rfl
theorem sum_base : ∀ (l : List LoadV) (base w : Int), sumZ base l w = base + sumZ 0 l w
  | [], base, w => by simp [sumZ]
  | x :: l, base, w => by rw [sum_cons, sum_cons, sum_base l (base + addZ w x), sum_base l (0 + addZ w x)]; omega
theorem sum_app (base : Int) (a b : List LoadV) (w : Int) : sumZ base (a ++ b) w = sumZ (sumZ base a w) b w := by simp [sumZ]
abbrev OkL (l : List LoadV) : Prop := ∀ x ∈ l, (1 ≤ x.T ∧ x.T ≤ 1000000) ∧ 0 ≤ x.C ∧ x.C ≤ 1000000
theorem sum_range : ∀ (l : List LoadV) (base w : Int), OkL l → 0 ≤ w ∧ w ≤ 1000000 → base ≤ sumZ base l w ∧ sumZ base l w ≤ base + 1000000000000 * l.length
  | [], base, w, _, _ => by simp [sumZ]
  | x :: l, base, w, h, hw => by
    have h1 := add_range (h x (List.mem_cons_self ..)) hw
    have h2 := sum_range l (base + addZ w x) w (fun y hy => h y (List.mem_cons_of_mem _ hy)) hw
    rw [sum_cons]
    simp only [List.length_cons]
    omega
theorem sum_low : ∀ (l : List LoadV) (base w : Int), OkL l → 0 ≤ w → base ≤ sumZ base l w
  | [], base, w, _, _ => by simp [sumZ]
  | x :: l, base, w, h, hw => by
    have hx := h x (List.mem_cons_self ..)
    have h1 := Int.mul_nonneg (ceil_range hx.1.1 hw).1 hx.2.1
    have h2 := sum_low l (base + addZ w x) w (fun y hy => h y (List.mem_cons_of_mem _ hy)) hw
    rw [sum_cons]
    have h3 : addZ w x = ceilZ w x.T * x.C := rfl
    omega
theorem sum_mono : ∀ (l : List LoadV) (a b v w : Int), OkL l → a ≤ b → v ≤ w → sumZ a l v ≤ sumZ b l w
  | [], a, b, v, w, _, h, _ => by simpa [sumZ] using h
  | x :: l, a, b, v, w, h, hab, hv => by
    have hx := h x (List.mem_cons_self ..)
    have h1 : addZ v x ≤ addZ w x := Int.mul_le_mul_of_nonneg_right (ceil_mono hx.1.1 hv) hx.2.1
    rw [sum_cons, sum_cons]
    exact sum_mono l _ _ v w (fun y hy => h y (List.mem_cons_of_mem _ hy)) (by omega) hv
theorem ceil_one {t : Int} (ht : 1 ≤ t) : ceilZ 1 t = 1 := by
  unfold ceilZ
  rw [show 1 + t - 1 = t by omega, Int.ediv_self (by omega)]
/- if nothing comes at once, nothing comes -/
theorem sum_zero : ∀ (l : List LoadV) (base : Int), OkL l → 0 ≤ base → sumZ base l 1 ≤ 0 → ∀ w, sumZ base l w = 0
  | [], base, _, h0, h1, w => by
    have : sumZ base [] 1 = base := rfl
    show base = 0
    omega
  | x :: l, base, h, h0, h1, w => by
    have hx := h x (List.mem_cons_self ..)
    have hl : OkL l := fun y hy => h y (List.mem_cons_of_mem _ hy)
    rw [sum_cons] at h1 ⊢
    have e : addZ 1 x = x.C := by rw [addZ, ceil_one hx.1.1]; omega
    rw [e] at h1
    have h2 := sum_low l (base + x.C) 1 hl (by decide)
    have hc : x.C = 0 := by omega
    have e2 : addZ w x = 0 := by rw [addZ, hc, Int.mul_zero]
    rw [e2]
    rw [hc] at h1
    exact sum_zero l (base + 0) hl (by omega) h1 w
/- the rounds: what is known of a number that they have come to -/
structure Come (f : Int → Int) (w : Int) : Prop where
  low : 1 ≤ w
  up : w = 1 ∨ w ≤ f w
  past : ∀ v, 1 ≤ v → v < w → v < f v
theorem come_one (f : Int → Int) : Come f 1 := ⟨Int.le_refl _, .inl rfl, fun v h1 h2 => by omega⟩
theorem come_next {base : Int} {l : List LoadV} (hl : OkL l) {w : Int} (h : Come (sumZ base l) w) (hw : w < sumZ base l w) : Come (sumZ base l) (sumZ base l w) := by
  have hm : ∀ v, w ≤ v → sumZ base l w ≤ sumZ base l v := fun v hv => sum_mono l base base w v hl (Int.le_refl _) hv
  refine ⟨by have := h.low; omega, .inr (hm _ (by omega)), fun v h1 h2 => ?_⟩
  rcases Int.lt_or_le v w with h3 | h3
  · exact h.past v h1 h3
  · have := hm v h3; omega
theorem come_is {f : Int → Int} {w : Int} (h : Come f w) (hw : f w = w) (hT : w ≤ 1000000) : IsLeast f (some w) := ⟨⟨h.low, hT⟩, hw, h.past⟩
theorem come_none {f : Int → Int} {w : Int} (h : Come f w) (hT : 1000000 < w) : IsLeast f none := fun v h1 h2 => by have := h.past v h1 (by omega); omega
theorem come_down {base : Int} {l : List LoadV} (hl : OkL l) (hb : 0 ≤ base) {w : Int} (h : Come (sumZ base l) w) (hw : sumZ base l w < w) : IsLeast (sumZ base l) none := by
  rcases h.up with e | e
  · subst e
    intro v h1 _
    rw [sum_zero l base hl hb (by omega) v]
    omega
  · omega
theorem least_one {f : Int → Int} {r q : Option Int} (h : IsLeast f r) (k : IsLeast f q) : r = q := by
  cases r with
  | none =>
    cases q with
    | none => rfl
    | some m => exact absurd k.2.1 (h m k.1.1 k.1.2)
  | some n =>
    cases q with
    | none => exact absurd h.2.1 (k n h.1.1 h.1.2)
    | some m =>
      have h1 := h.2.2 m k.1.1
      have h2 := k.2.2 n h.1.1
      have h3 := h.2.1
      have h4 := k.2.1
      have : n = m := by omega
      rw [this]
/- where a rising function answers no more than it is asked, it has a least such number ahead -/
theorem least_to {f : Int → Int} (hm : ∀ v w, v ≤ w → f v ≤ f w) (h1 : 1 ≤ f 1) : ∀ n : Nat, 1 ≤ n → n ≤ 1000000 → f n ≤ n → ∃ m : Int, m ≤ n ∧ IsLeast f (some m) := by
  intro n
  induction n using Nat.strongRecOn with
  | _ n ih =>
    intro hn hT hf
    by_cases h : ∃ v : Nat, v < n ∧ 1 ≤ v ∧ f v ≤ v
    · obtain ⟨v, hv, hv1, hfv⟩ := h
      obtain ⟨m, hmv, hm'⟩ := ih v hv hv1 (by omega) hfv
      exact ⟨m, by omega, hm'⟩
    · have past : ∀ v : Int, 1 ≤ v → v < n → v < f v := fun v a b => by
        obtain ⟨m, rfl⟩ : ∃ m : Nat, v = m := ⟨v.toNat, by omega⟩
        by_cases c : (m : Int) < f m
        · exact c
        · exact absurd ⟨m, by omega, by omega, by omega⟩ h
      refine ⟨(n : Int), Int.le_refl _, ⟨by omega, by omega⟩, ?_, past⟩
      rcases Nat.lt_or_ge 1 n with c | c
      · have a := past ((n : Int) - 1) (by omega) (by omega)
        have b := hm ((n : Int) - 1) n (by omega)
        omega
      · have e : n = 1 := by omega
        subst e
        have : f ((1 : Nat) : Int) = f 1 := rfl
        omega
theorem least_le {f g : Int → Int} {n m : Int} (h : IsLeast f (some n)) (k : IsLeast g (some m)) (hg : ∀ w, 1 ≤ w → g w ≤ f w) : m ≤ n := by
  rcases Int.lt_or_le n m with c | c
  · have a := k.2.2 n h.1.1 c
    have b := hg n h.1.1
    have d := h.2.1
    omega
  · exact c
theorem least_some {f g : Int → Int} {n : Int} (h : IsLeast f (some n)) (hm : ∀ v w, v ≤ w → g v ≤ g w) (h1 : 1 ≤ g 1) (hg : ∀ w, 1 ≤ w → g w ≤ f w) : ∃ m, IsLeast g (some m) := by
  have hn := h.1
  obtain ⟨k, rfl⟩ : ∃ k : Nat, n = k := ⟨n.toNat, by omega⟩
  obtain ⟨m, -, hm'⟩ := least_to hm h1 k (by omega) (by omega) (by have a := hg k hn.1; have b := h.2.1; omega)
  exact ⟨m, hm'⟩
end Go.Proofs.Ytndhjfpjhpnbaaa.Fix
