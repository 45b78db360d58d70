/- From what is handed in to rows of loads as they lie in memory. -/
import Derived.Test.YthojadjddhmmjaaFixRef
import Derived.ChangeSlices
import Derived.Deep.Slices
import Derived.OpenShut
import Derived.SizedLaws
namespace Go.Proofs.Ythojadjddhmmjaa.Fix
open Go.ChangeShapes Go.WideShapes Go.RowKit

instance : Inhabited LoadV := ⟨load0⟩
section
variable {H : Type} {enc : TypeId × Value → H} {w : World} {base : Nat} {spare : Nat → Bool} {held : Bool}
theorem field_at {n off : Nat} {ty : TypeId} {cs : List Value} {r : Option (DataW H × List MemPlace)} (hc : Try.prog.cellsOf ty = 1) (h : DataW.trod enc Try.prog w base spare held n ty ((cs.drop off).take (Try.prog.cellsOf ty)) = r) : DataW.trod enc Try.prog w base spare held n ty ((cs.drop off).take 1) = r := by rw [hc] at h; exact h
theorem open_load {fuel : Nat} {cs : List Value} {x : DataW H × List MemPlace} (h : DataW.trod enc Try.prog w base spare held fuel 31 cs = some x) : ∃ t : LoadV, cs = [.int .i64 t.T, .int .i64 t.C] ∧ I64 t.T ∧ I64 t.C := by
  obtain ⟨xs, n, -, rfl, hl, hxl, hf⟩ := DataW.trod_struct Try.underlying31 h
  rw [show Try.prog.cellsOf 31 = 2 by kernel_rfl] at hl
  match cs, hl with
  | [a0, a1], _ =>
    match xs, hxl with
    | [x0, x1], _ =>
      have k2 : Try.prog.cellsOf 2 = 1 := by kernel_rfl
      have h0 : DataW.trod enc Try.prog w base spare held n 2 [a0] = some x0 := field_at k2 (hf 0 _ rfl)
      have h1 : DataW.trod enc Try.prog w base spare held n 2 [a1] = some x1 := field_at k2 (hf 1 _ rfl)
      obtain ⟨t, e0, -, w0⟩ := DataW.trod_int Try.underlying2 h0
      obtain ⟨c, e1, -, w1⟩ := DataW.trod_int Try.underlying2 h1
      cases e0
      cases e1
      exact ⟨⟨t, c⟩, rfl, bounds_i64 w0, bounds_i64 w1⟩
theorem cells_at {a : Addr} {n : Nat} {l : List Value} (h : w.cells? base a n = some l) (i : Nat) (hi : i < n) : w.cell? (a.add i) = l[i]? := by
  unfold World.cells? at h
  split at h
  · exact mapM_some_get h i i (by simp [hi])
  · cases h
theorem open_loads {fuel : Nat} {v : Value} {x : DataW H × List MemPlace} (h : DataW.trod enc Try.prog w base spare held fuel 22 [v] = some x) : ∃ (ao : Option Addr) (cap : Nat) (l : List LoadV), v = .slice ao l.length cap ∧ LoadsIn w ao l ∧ l.length ≤ cap := by
  have k2 : Try.prog.cellsOf 31 = 2 := by kernel_rfl
  rcases Deep.open_slice Try.underlying22 h with ⟨hcs, -⟩ | ⟨a, len, cap, m, n', D, Pl, hcs, -, hlc, hcm, hm, hx, hel⟩
  · cases hcs
    exact ⟨none, 0, [], rfl, ⟨fun h => absurd rfl h, by simp, fun t ht => by simp at ht⟩, by simp⟩
  · cases hcs
    rw [k2] at hel
    have hml : len ≤ m := by rw [hm]; split <;> omega
    have hone : ∀ i, i < len → ∃ t : LoadV, w.cells? base (a.add (i * 2)) 2 = some [.int .i64 t.T, .int .i64 t.C] ∧ I64 t.T ∧ I64 t.C := fun i hi => by
      obtain ⟨cs', hc, htr⟩ := hel i (by omega)
      obtain ⟨t, rfl, ht⟩ := open_load htr
      exact ⟨t, hc, ht⟩
    obtain ⟨f, hfi⟩ := Deep.choose_lt hone
    have hlen : ((List.range len).map f).length = len := by simp
    have hget : ∀ j, j < len → ((List.range len).map f).getD j load0 = f j := fun j hj => by simp [List.getD, hj]
    refine ⟨some a, cap, (List.range len).map f, by simp only [hlen], ⟨?_, ?_, ?_⟩, by rw [hlen]; exact hlc⟩
    · intro hne
      simp only [hlen]
      have hp : 0 < len := by
        rcases Nat.eq_zero_or_pos len with e | e
        · subst e; exact absurd rfl hne
        · exact e
      obtain ⟨b, off, spot⟩ := a
      have c00 := cells_at (hfi 0 hp).1 0 (by omega)
      have hspot : spot = none := by
        have : w.cell? ⟨b, off, spot⟩ = some (.int .i64 (f 0).T) := by simpa [Addr.add] using c00
        simpa using World.cell?_spot this
      subst hspot
      refine ⟨b, off, rfl, fun j hj => ?_⟩
      have c0 := cells_at (hfi j hj).1 0 (by omega)
      have c1 := cells_at (hfi j hj).1 1 (by omega)
      rw [Deep.add_add, Go.WideShapes.add_plain] at c0 c1
      rw [hget j hj]
      exact ⟨c0, by rw [Nat.add_assoc]; exact c1⟩
    · rw [hlen]; exact Nat.le_trans hlc hcm
    · intro t ht
      obtain ⟨i, hi, rfl⟩ := List.mem_map.1 ht
      exact (hfi i (List.mem_range.1 hi)).2
theorem arg_loads {sp : Nat → Bool} {v : Value} {d : DataW H} {ps : List MemPlace} {r : Reach} {b0 : Nat} (hv : Value.okWide Try.prog w r b0 22 v) (h : DataW.Trod enc Try.prog w base sp held 22 v d ps) : ∃ (ao : Option Addr) (cap : Nat) (l : List LoadV), v = .slice ao l.length cap ∧ LoadsIn w ao l ∧ l.length ≤ cap := by
  obtain ⟨a, len, cap, rfl⟩ := okWide_slice Try.underlying22 hv
  obtain ⟨fuel, hf⟩ := h
  exact open_loads hf
theorem arg_int {k : IntKind} {t : TypeId} {sp : Nat → Bool} {v : Value} {d : DataW H} {ps : List MemPlace} {r : Reach} {b0 : Nat} (hu : Try.prog.underlying t = some (.int k)) (hv : Value.okWide Try.prog w r b0 t v) (h : DataW.Trod enc Try.prog w base sp held t v d ps) : ∃ n, v = .int k n ∧ (Lit.int k n).wf = true := by
  obtain ⟨n, rfl⟩ := okWide_int hu hv
  obtain ⟨fuel, hf⟩ := h
  obtain ⟨n', e, -, hw⟩ := DataW.trod_int hu hf
  cases e
  exact ⟨n, rfl, hw⟩
theorem i64_of {n : Int} (h : (Lit.int .i64 n).wf = true) : I64 n := bounds_i64 h
end
end Go.Proofs.Ythojadjddhmmjaa.Fix
