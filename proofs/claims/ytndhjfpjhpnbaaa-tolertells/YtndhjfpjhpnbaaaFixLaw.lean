/- The laws of chapter 10, over what package fix answers. -/
import Derived.Test.YtndhjfpjhpnbaaaFixRef
namespace Go.Proofs.Ytndhjfpjhpnbaaa.Fix
set_option maxRecDepth 100000
open Go.ChangeShapes Go.WideShapes Go.RowKit

/- what package fix must be shown to answer -/
def CFLeast : Prop := ∀ (base : Int) (ao : Option Addr) (cap : Nat) (l : List LoadV) (w : World), LoadsIn w ao l → I64 base → Calls Try.prog 47 #[.int .i64 base, .slice ao l.length cap] w fun e w' => LeastP base l e ∧ Below w.heap.size w w'
theorem leastP_is {base : Int} {l : List LoadV} {e : Ending} (h : LeastP base l e) {r : Option Int} (k : if mayB base l then IsLeast (sumZ base l) r else r = none) : e = .returned (.tuple #[.int .i64 (valO r), .bool r.isSome]) := by
  obtain ⟨q, hq, rfl⟩ := h
  cases hm : mayB base l with
  | false => rw [hm] at hq k; rw [show q = none from hq, show r = none from k]
  | true => rw [hm] at hq k; rw [least_one (show IsLeast _ q from hq) (show IsLeast _ r from k)]
theorem one_in {w : World} {g : Nat} {t c : Int} (ht : I64 t) (hc : I64 c) (h0 : w.cell? ⟨g, 0, none⟩ = some (.int .i64 t)) (h1 : w.cell? ⟨g, 1, none⟩ = some (.int .i64 c)) : LoadsIn w (some ⟨g, 0, none⟩) [⟨t, c⟩] :=
  ⟨fun _ => ⟨g, 0, rfl, fun j hj => by
    have : j = 0 := by simp at hj; omega
    subst this
    exact ⟨h0, h1⟩⟩, by simp, fun x hx => by
    have : x = ⟨t, c⟩ := by simpa using hx
    subst this; exact ⟨ht, hc⟩⟩
theorem known_least : IsLeast (sumZ 3 [⟨4, 1⟩]) (some 4) := by
  refine ⟨by decide, by decide, fun w h1 h2 => ?_⟩
  have hc : ceilZ w 4 = 1 := by unfold ceilZ; omega
  have e : sumZ 3 [⟨4, 1⟩] w = 3 + ceilZ w 4 * 1 := rfl
  rw [e, hc]; omega
end Go.Proofs.Ytndhjfpjhpnbaaa.Fix
