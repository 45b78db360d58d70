/- A scope with several labels, each at the head of what follows it: what holds at each label, and a measure that every jump lowers. In my own words, over the library's laws of one step. -/
import Derived.Scope
import Derived.WalkKit
namespace Go.Proofs.Ytndhjfpjhpnbaaa.Lex
set_option maxRecDepth 100000
open Go

/- every way out but a jump as Q; a jump to l: J l -/
def Jumps (J : Nat → Act → World → Prop) (Q : Exit → Act → World → Prop) : Exit → Act → World → Prop
  | .goto l, a, w => J l a w
  | e, a, w => Q e a w
def Lands (P : Program) (b : Frame) (k : List Item) (cs : List Frame) (Q : Exit → Act → World → Prop) (m : Machine) : Prop := ∃ e a w, Q e a w ∧ Arrives P m b k cs e a w

section
variable {P : Program} {b : Frame} {k : List Item} {cs : List Frame} {Q : Exit → Act → World → Prop} {c : Code}

/- one piece of the scope, where each jump out of it lands -/
theorem lands_piece {d : Code} {J : Nat → Act → World → Prop} {a : Act} {w : World} (h : d.wp P (Jumps J Q) a w)
    (hJ : ∀ l a w, J l a w → ∃ r, findLabel c l = some r ∧ Lands P b k cs Q (lone (b.at a (.code r :: .inScope c :: k)) cs w)) :
    Lands P b k cs Q (lone (b.at a (.code d :: .inScope c :: k)) cs w) := by
  obtain ⟨e, a₁, w₁, q, arr⟩ := h b (.inScope c :: k) cs
  match e, q, arr with
  | .goto l, q, arr =>
    obtain ⟨r, hf, e₂, a₂, w₂, q₂, arr₂⟩ := hJ l a₁ w₁ q
    have hg : gotoIn l (.inScope c :: k) = some (.code r :: .inScope c :: k) := by rw [gotoIn, hf]
    exact ⟨e₂, a₂, w₂, q₂, Arrives.of_steps (arr _ hg) arr₂⟩
  | .normal, q, arr => exact ⟨.normal, a₁, w₁, q, Steps.trans arr (.one step_inScope)⟩
  | .exit id, q, arr => exact ⟨.exit id, a₁, w₁, q, fun k' hk => arr k' hk⟩
  | .ret, q, arr => exact ⟨.ret, a₁, w₁, q, arr⟩
  | .panic ch, q, arr => exact ⟨.panic ch, a₁, w₁, q, arr⟩
  | .outgrown, q, arr => exact ⟨.outgrown, a₁, w₁, q, arr⟩

/- from every label, by the measure -/
theorem lands_label {J : Nat → Act → World → Prop} {μ : Nat → Act → World → Nat}
    (pass : ∀ l a w, J l a w → ∃ r, findLabel c l = some (Code.seq .skip r) ∧ r.wp P (Jumps (fun l' a' w' => J l' a' w' ∧ μ l' a' w' < μ l a w) Q) a w) (n : Nat) :
    ∀ l a w, μ l a w < n → J l a w → ∃ r, findLabel c l = some r ∧ Lands P b k cs Q (lone (b.at a (.code r :: .inScope c :: k)) cs w) := by
  induction n with
  | zero => intro l a w h; exact absurd h (Nat.not_lt_zero _)
  | succ n ih =>
    intro l a w hn hJ
    obtain ⟨r, hf, hr⟩ := pass l a w hJ
    exact ⟨_, hf, lands_piece (wp_seq (wp_skip hr)) fun l' a' w' h => ih l' a' w' (by omega) h.1⟩

theorem jumps_weak {d : Code} {J K : Nat → Act → World → Prop} {a : Act} {w : World} (hk : ∀ l a w, J l a w → K l a w) (h : d.wp P (Jumps J Q) a w) : d.wp P (Jumps K Q) a w :=
  wp_mono h fun e a w q => by cases e <;> first | exact hk _ _ _ q | exact q

/- the scope: from its head, which may run into the label l0 without a jump -/
theorem wp_scope_labels {a : Act} {w : World} {r0 : Code} (l0 : Nat) (J : Nat → Act → World → Prop) (μ : Nat → Act → World → Nat) (h0 : findLabel c l0 = some (Code.seq .skip r0))
    (pass : ∀ l a w, J l a w → ∃ r, findLabel c l = some (Code.seq .skip r) ∧ r.wp P (Jumps (fun l' a' w' => J l' a' w' ∧ μ l' a' w' < μ l a w) Q) a w)
    (first : (∀ a w, J l0 a w → r0.wp P (Jumps J Q) a w) → c.wp P (Jumps J Q) a w) : (Code.scope c).wp P Q a w := by
  intro b k cs
  have hfirst := first fun a w hJ => by
    obtain ⟨r, hf, hr⟩ := pass l0 a w hJ
    rw [h0] at hf
    cases hf
    exact jumps_weak (fun _ _ _ h => h.1) hr
  obtain ⟨e, a₁, w₁, q, arr⟩ := lands_piece (b := b) (k := k) (cs := cs) (c := c) hfirst fun l a w h => lands_label pass (μ l a w + 1) l a w (Nat.lt_succ_self _) h
  exact ⟨e, a₁, w₁, q, Arrives.of_steps (.one step_scope) arr⟩
end
theorem frame_at {a : Act} {g : (Nat → Value) → Act} (h : a = g (fun i => a.tmps.getD i undef)) : ∃ f, a = g f := ⟨_, h⟩
end Go.Proofs.Ytndhjfpjhpnbaaa.Lex
