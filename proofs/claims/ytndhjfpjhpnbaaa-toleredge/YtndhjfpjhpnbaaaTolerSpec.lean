/- Chapter 14: the document's answers, and what package toler must be shown to answer. -/
import Derived.Test.YtndhjfpjhpnbaaaEasySpec
import Derived.Test.YtndhjfpjhpnbaaaRespLaw3
namespace Go.Proofs.Ytndhjfpjhpnbaaa.Lex
set_option maxRecDepth 100000
open Go.ChangeShapes Go.WideShapes Go.RowKit

/- how many blockings, from 0 on, up to n, are accepted one behind the other -/
noncomputable def tolTo (s : SetV) (k : Nat) : Nat → Nat
  | 0 => 0
  | n + 1 => if tolTo s k n = n ∧ withH s k n = 1 then n + 1 else tolTo s k n
noncomputable def tolB (s : SetV) (k : Nat) : Nat := tolTo s k ((s.ts.getD k task0).D.toNat + 1)
noncomputable def tolO (s : SetV) (i : Int) : Bool := inI s i && decide (0 < tolB s i.toNat)
noncomputable def tolV (s : SetV) (i : Int) : Int := if tolO s i then (tolB s i.toNat : Int) - 1 else 0
noncomputable def tolA (s : SetV) : Bool := (List.range s.ts.length).all fun k => tolO s k
noncomputable def tolL (s : SetV) : List Int := if tolA s then (List.range s.ts.length).map (fun k => tolV s (k : Nat)) else []
def CTOf : Prop := ∀ (s : SetV) (i : Int) (w : World), SetIn w s → allB s = true → I64 i → Calls Try.prog 11 #[s.val, .int .i64 i] w fun e w' => e = .returned (.tuple #[.int .i64 (tolV s i), .bool (tolO s i)]) ∧ Below w.heap.size w w'
def CTAll : Prop := ∀ (s : SetV) (w : World), SetIn w s → allB s = true → Calls Try.prog 8 #[s.val] w fun e w' => ∃ ao cap, e = .returned (.tuple #[.slice ao (tolL s).length cap, .bool (tolA s)]) ∧ RegsIn w' ao (tolL s) ∧ Below w.heap.size w w'

theorem tol_le (s : SetV) (k : Nat) : ∀ n, tolTo s k n ≤ n
  | 0 => Nat.le_refl _
  | n + 1 => by
    rw [tolTo]
    split
    · exact Nat.le_refl _
    · have := tol_le s k n; omega
theorem tol_yes {s : SetV} {k : Nat} : ∀ {n b : Nat}, b < tolTo s k n → withH s k b = 1
  | 0, b, h => by have := tol_le s k 0; omega
  | n + 1, b, h => by
    rw [tolTo] at h
    split at h
    · rename_i c
      rcases Nat.lt_or_ge b n with l | l
      · exact tol_yes (n := n) (by rw [c.1]; exact l)
      · have : b = n := by omega
        subst this; exact c.2
    · exact tol_yes h
theorem tol_no {s : SetV} {k : Nat} : ∀ {n : Nat}, tolTo s k n < n → withH s k (tolTo s k n) ≠ 1
  | 0, h => by omega
  | n + 1, h => by
    rw [tolTo] at h ⊢
    split at h
    · omega
    · rename_i c
      rw [if_neg c]
      rcases Nat.lt_or_ge (tolTo s k n) n with l | l
      · exact tol_no l
      · have e : tolTo s k n = n := Nat.le_antisymm (tol_le s k n) l
        rw [e]
        exact fun h1 => c ⟨e, h1⟩
/- what is known of a number that has been counted up to -/
theorem tol_is {s : SetV} {k c n : Nat} (hc : c ≤ n) (h : ∀ b : Nat, b < c → withH s k b = 1) (hn : c < n → withH s k c ≠ 1) : tolTo s k n = c := by
  have h1 := tol_le s k n
  rcases Nat.lt_trichotomy (tolTo s k n) c with l | l | l
  · exact absurd (h _ l) (tol_no (by omega))
  · exact l
  · exact absurd (tol_yes l) (hn (by omega))
theorem tolB_le (s : SetV) (k : Nat) (hD : 0 ≤ (s.ts.getD k task0).D) : (tolB s k : Int) ≤ (s.ts.getD k task0).D + 1 := by
  have := tol_le s k ((s.ts.getD k task0).D.toNat + 1)
  unfold tolB
  omega
theorem tolO_at {s : SetV} {k : Nat} (hk : k < s.ts.length) : tolO s k = decide (0 < tolB s k) := by rw [tolO, in_nat hk, Int.toNat_natCast, Bool.true_and]
theorem tolO_out {s : SetV} {i : Int} (h : inI s i = false) : tolO s i = false ∧ tolV s i = 0 := by
  have e : tolO s i = false := by rw [tolO, h]; rfl
  exact ⟨e, by rw [tolV, e]; rfl⟩
/- what it bears is accepted, and each less; one more is not -/
theorem tol_edge {s : SetV} {k : Nat} (ha : allB s = true) (hu : ∀ t ∈ s.ts, U64 t.ecb ∧ U64 t.ucb) (hk : k < s.ts.length) (h : tolO s k = true) :
    (0 ≤ tolV s k ∧ tolV s k ≤ (s.ts.getD k task0).D) ∧ (∀ b, 0 ≤ b → b ≤ tolV s k → withH s k b = 1) ∧ withH s k (tolV s k + 1) ≠ 1 := by
  obtain ⟨-, -, -, hfit⟩ := all_fits ha hu
  have hw := task_time (hfit k hk).is
  obtain ⟨-, -, -, -, ⟨hD, hDT, hT⟩, -⟩ := fits_parts (hfit k hk).is
  have h0 := h
  rw [tolO_at hk, decide_eq_true_eq] at h0
  have hv : tolV s k = (tolB s k : Int) - 1 := by rw [tolV, h, Int.toNat_natCast]; rfl
  have hle := tolB_le s k (by omega)
  rw [hv]
  refine ⟨by omega, fun b h1 h2 => ?_, ?_⟩
  · obtain ⟨n, rfl⟩ : ∃ n : Nat, b = n := ⟨b.toNat, by omega⟩
    exact tol_yes (show n < tolB s k by omega)
  · rw [show (tolB s k : Int) - 1 + 1 = (tolB s k : Int) by omega]
    rcases Nat.lt_or_ge (tolB s k) ((s.ts.getD k task0).D.toNat + 1) with l | l
    · exact tol_no l
    · intro h1
      obtain ⟨L, hB, hR⟩ := with_busy h1
      have := (with_work ha hu hk hB).2.1
      omega
theorem tol_zero {s : SetV} {k : Nat} (hk : k < s.ts.length) (h : tolO s k = false) : tolV s k = 0 ∧ withH s k 0 ≠ 1 := by
  refine ⟨by rw [tolV, h]; rfl, ?_⟩
  rw [tolO_at hk, decide_eq_false_iff_not] at h
  have h0 : tolB s k = 0 := by omega
  have := tol_no (s := s) (k := k) (n := (s.ts.getD k task0).D.toNat + 1) (by show tolB s k < _; omega)
  rw [show tolTo s k ((s.ts.getD k task0).D.toNat + 1) = 0 from h0] at this
  exact this
/- where nothing is longer no less is borne -/
theorem tol_easy {x s : SetV} {k : Nat} (hx : Easier x s) (ha : allB s = true) (hu : ∀ t ∈ s.ts, U64 t.ecb ∧ U64 t.ucb) (hax : allB x = true) (hux : ∀ t ∈ x.ts, U64 t.ecb ∧ U64 t.ucb) (hk : k < s.ts.length) (h : tolO s k = true) : tolO x k = true ∧ tolV s k ≤ tolV x k := by
  have hkx : k < x.ts.length := by rw [hx.len]; exact hk
  obtain ⟨⟨h0, -⟩, h1, -⟩ := tol_edge ha hu hk h
  have hacc : ∀ b, 0 ≤ b → b ≤ tolV s k → withH x k b = 1 := fun b g0 g1 => easy_with hx ha hu hax hux hk ⟨g0, g1⟩ (h1 _ h0 (Int.le_refl _))
  have ho : tolO x k = true := by
    cases c : tolO x k with
    | true => rfl
    | false => exact absurd (hacc 0 (Int.le_refl _) h0) (tol_zero hkx c).2
  refine ⟨ho, ?_⟩
  obtain ⟨⟨g0, -⟩, -, g2⟩ := tol_edge hax hux hkx ho
  rcases Int.lt_or_le (tolV x k) (tolV s k) with c | c
  · exact absurd (hacc _ (by omega) (by omega)) g2
  · exact c
theorem tol_same {x s : SetV} {k : Nat} (hx : Easier x s) (hy : Easier s x) (ha : allB s = true) (hu : ∀ t ∈ s.ts, U64 t.ecb ∧ U64 t.ucb) (hax : allB x = true) (hux : ∀ t ∈ x.ts, U64 t.ecb ∧ U64 t.ucb) (hk : k < s.ts.length) : tolO x k = tolO s k ∧ tolV x k = tolV s k := by
  have hkx : k < x.ts.length := by rw [hx.len]; exact hk
  cases c : tolO s k with
  | true =>
    obtain ⟨h1, h2⟩ := tol_easy hx ha hu hax hux hk c
    obtain ⟨-, h3⟩ := tol_easy hy hax hux ha hu hkx h1
    exact ⟨h1, by omega⟩
  | false =>
    cases d : tolO x k with
    | true =>
      obtain ⟨h1, -⟩ := tol_easy hy hax hux ha hu hkx d
      rw [c] at h1; cases h1
    | false => exact ⟨rfl, by rw [(tol_zero hk c).1, (tol_zero hkx d).1]⟩
end Go.Proofs.Ytndhjfpjhpnbaaa.Lex
