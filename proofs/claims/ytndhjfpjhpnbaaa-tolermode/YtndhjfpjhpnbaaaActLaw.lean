/- The laws of chapter 11, over what package active answers. -/
import Derived.Test.YtndhjfpjhpnbaaaActRef2
namespace Go.Proofs.Ytndhjfpjhpnbaaa.Lex
set_option maxRecDepth 100000
open Go.ChangeShapes Go.WideShapes Go.RowKit

/- two rows that hold the same are one -/
theorem ofp_one {s : SetV} {i b : Int} {e e' : Ending} (h : OfP s i b e) (k : OfP s i b e') : e = e' := by
  unfold OfP at h k
  split at h
  · rename_i hin
    rw [if_pos hin] at k
    obtain ⟨r, hr, rfl⟩ := h
    exact (Fix.leastP_is k hr).symm
  · rename_i hin
    rw [if_neg hin] at k
    rw [h, k]
theorem ofp_form {s : SetV} {i b : Int} {e : Ending} (h : OfP s i b e) : ∃ r, e = .returned (.tuple #[.int .i64 (Fix.valO r), .bool r.isSome]) ∧ OfP s i b (.returned (.tuple #[.int .i64 (Fix.valO r), .bool r.isSome])) ∧ ∀ n, r = some n → inI s i = true ∧ Fix.mayB b (allL s i.toNat) = true ∧ Fix.IsLeast (Fix.sumZ b (allL s i.toNat)) (some n) := by
  have h' := h
  unfold OfP at h
  split at h
  · rename_i hin
    obtain ⟨r, hr, rfl⟩ := h
    refine ⟨r, rfl, h', fun n hn => ?_⟩
    subst hn
    exact ⟨hin, Fix.least_may hr⟩
  · exact ⟨none, h, by rw [h] at h'; exact h', fun n hn => by cases hn⟩
/- the law's own set -/
def aT (g : Nat) : TaskV := ⟨⟨#[97]⟩, 5, 5, 0, 0, 0, some ⟨g, 0, none⟩, 1, 0, 0, [2]⟩
def aS (g : Nat) : SetV := ⟨0, some ⟨g + 1, 0, none⟩, 1, [aT g]⟩
theorem aS_all (g : Nat) : allB (aS g) = true := by show allB (aS 0) = true; decide +kernel
theorem aS_in {w : World} {g : Nat} {ty : TypeId} {fr : Nat × Nat} (h : w.cell? ⟨g, 0, none⟩ = some (.int .i64 2)) (hb : w.heap[g + 1]? = some (.cells ((aS g).ts.flatMap TaskV.cells).toArray ty fr)) : SetIn w (aS g) := by
  refine ⟨by simp [I64, aS], (fun e => by cases e), by simp [aS], by simp [aS], fun _ => ⟨g + 1, 0, rfl, fun j hj i hi => ?_⟩, fun t ht => ?_⟩
  · rw [Nat.zero_add, cell_block hb, List.getElem?_toArray]
    exact task_flat _ j hj i hi
  · have : t = aT g := by simpa [aS] using ht
    subst this
    exact ⟨fun _ => ⟨g, 0, rfl, fun j hj => by
      have : j = 0 := by simp [aT] at hj; omega
      subst this; exact h⟩, (fun e => by cases e), by simp [aT], by simp [aT, ByteArray.size], by simp [I64, aT], by simp [I64, aT], by simp [I64, aT], by simp [I64, aT], by simp [I64, aT], by simp [U64, aT], by simp [U64, aT], fun n hn => by
      have : n = 2 := by simpa [aT] using hn
      subst this; simp [I64]⟩
theorem aS_all0 (g : Nat) : allL (aS g) 0 = [⟨5, 2⟩] := by
  show allL (aS 0) 0 = [⟨5, 2⟩]
  rfl
theorem aS_least : Fix.IsLeast (Fix.sumZ 0 [⟨5, 2⟩]) (some 2) := by
  refine ⟨by decide, by decide, fun w h1 h2 => ?_⟩
  have : w = 1 := by omega
  subst this
  decide
theorem aS_of {g : Nat} {e : Ending} (h : OfP (aS g) 0 0 e) : e = .returned (.tuple #[.int .i64 2, .bool true]) := by
  have hin : inI (aS g) 0 = true := by show inI (aS 0) 0 = true; decide
  unfold OfP at h
  rw [if_pos hin] at h
  have e0 : allL (aS g) (Int.toNat 0) = [⟨5, 2⟩] := aS_all0 g
  rw [e0] at h
  exact Fix.leastP_is h (r := some 2) (by rw [if_pos (by decide)]; exact aS_least)
end Go.Proofs.Ytndhjfpjhpnbaaa.Lex
