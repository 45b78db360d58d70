/- From what is handed in to tasks and sets as they lie in memory. -/
import Derived.Test.YtndhjfpjhpnbaaaTaskRef2
import Derived.ChangeSlices
import Derived.Deep.Slices
import Derived.OpenShut
import Derived.SizedLaws
namespace Go.Proofs.Ytndhjfpjhpnbaaa.Lex
set_option maxRecDepth 100000
open Go.ChangeShapes Go.WideShapes Go.RowKit

section
variable {H : Type} {enc : TypeId × Value → H} {w : World} {base : Nat} {spare : Nat → Bool} {held : Bool}
theorem sized_each {P : Program} {ts : List TypeId} {ds : List (DataW H)} (h : (DataW.weightsEach P ts ds).all (· ≤ reachBytes) = true) {j : Nat} {t : TypeId} {d : DataW H} (ht : ts[j]? = some t) (hd : ds[j]? = some d) {n : Nat} (hn : n ∈ d.weights P t) : n ≤ reachBytes := by
  have := List.all_eq_true.1 h _ (DataW.weights_mem_each ht hd n hn)
  simpa using this
theorem sized_of {P : Program} {t : TypeId} {d : DataW H} (h : ∀ n ∈ d.weights P t, n ≤ reachBytes) {n : Nat} (hn : n ∈ d.weights P t) : n ≤ 140737488351232 := h n hn
theorem regs_of {a : Addr} {l : List Int} (h : ∀ i, i < l.length → w.cell? (a.add i) = some (.int .i64 (l.getD i 0))) (k : Nat) (hk : k ≤ l.length) : RegsIn w (some a) (l.take k) := fun hne => by
  have hk0 : 0 < k := by
    rcases Nat.eq_zero_or_pos k with e | e
    · rw [e] at hne; simp at hne
    · exact e
  obtain ⟨b, off, rfl, hc⟩ := ints_at h (by omega)
  refine ⟨b, off, rfl, fun j hj => ?_⟩
  rw [List.length_take] at hj
  rw [hc j (by omega)]
  simp [List.getD, show j < k by omega]
theorem field_at {n off : Nat} {ty : TypeId} {cs : List Value} {r : Option (DataW H × List MemPlace)} (hc : Try.prog.cellsOf ty = 1) (h : DataW.trod enc Try.prog w base spare held n ty ((cs.drop off).take (Try.prog.cellsOf ty)) = r) : DataW.trod enc Try.prog w base spare held n ty ((cs.drop off).take 1) = r := by rw [hc] at h; exact h
theorem open_task {fuel : Nat} {cs : List Value} {x : DataW H × List MemPlace} (h : DataW.trod enc Try.prog w base spare held fuel 38 cs = some x) (hz : ∀ n ∈ x.1.weights Try.prog 38, n ≤ reachBytes) :
    ∃ t : TaskV, cs = t.cells ∧ TaskIn w t := by
  obtain ⟨xs, n, -, rfl, hl, hxl, hf⟩ := DataW.trod_struct Try.underlying38 h
  rw [show Try.prog.cellsOf 38 = 9 by kernel_rfl] at hl
  match cs, hl with
  | [a0, a1, a2, a3, a4, a5, a6, a7, a8], _ =>
    match xs, hxl with
    | [x0, x1, x2, x3, x4, x5, x6, x7, x8], _ =>
      have k1 : Try.prog.cellsOf 9 = 1 := by kernel_rfl
      have k2 : Try.prog.cellsOf 2 = 1 := by kernel_rfl
      have k3 : Try.prog.cellsOf 3 = 1 := by kernel_rfl
      have k4 : Try.prog.cellsOf 26 = 1 := by kernel_rfl
      have k5 : Try.prog.cellsOf 36 = 1 := by kernel_rfl
      have h0 : DataW.trod enc Try.prog w base spare held n 9 [a0] = some x0 := field_at k1 (hf 0 _ rfl)
      have h1 : DataW.trod enc Try.prog w base spare held n 2 [a1] = some x1 := field_at k2 (hf 1 _ rfl)
      have h2 : DataW.trod enc Try.prog w base spare held n 2 [a2] = some x2 := field_at k2 (hf 2 _ rfl)
      have h3 : DataW.trod enc Try.prog w base spare held n 3 [a3] = some x3 := field_at k3 (hf 3 _ rfl)
      have h4 : DataW.trod enc Try.prog w base spare held n 2 [a4] = some x4 := field_at k2 (hf 4 _ rfl)
      have h5 : DataW.trod enc Try.prog w base spare held n 3 [a5] = some x5 := field_at k3 (hf 5 _ rfl)
      have h6 : DataW.trod enc Try.prog w base spare held n 26 [a6] = some x6 := field_at k4 (hf 6 _ rfl)
      have h7 : DataW.trod enc Try.prog w base spare held n 36 [a7] = some x7 := field_at k5 (hf 7 _ rfl)
      have h8 : DataW.trod enc Try.prog w base spare held n 36 [a8] = some x8 := field_at k5 (hf 8 _ rfl)
      clear hf h
      obtain ⟨name, e0, rfl, w0⟩ := DataW.trod_string Try.underlying9 h0
      obtain ⟨T, e1, rfl, w1⟩ := DataW.trod_int Try.underlying2 h1
      obtain ⟨D, e2, rfl, w2⟩ := DataW.trod_int Try.underlying2 h2
      obtain ⟨mode, e3, rfl, w3⟩ := DataW.trod_int Try.underlying3 h3
      obtain ⟨Q, e4, rfl, w4⟩ := DataW.trod_int Try.underlying2 h4
      obtain ⟨theta, e5, rfl, w5⟩ := DataW.trod_int Try.underlying3 h5
      obtain ⟨ecb, e7, rfl, w7⟩ := DataW.trod_int Try.underlying36 h7
      obtain ⟨ucb, e8, rfl, w8⟩ := DataW.trod_int Try.underlying36 h8
      cases e0; cases e1; cases e2; cases e3; cases e4; cases e5; cases e7; cases e8
      clear h0 h1 h2 h3 h4 h5 h7 h8
      rcases open_ints Try.underlying26 Try.underlying2 k2 h6 with ⟨hcs, -⟩ | ⟨a, len, cap, zs, hcs, -, hlc, hcm, hzl, hd, hcell, hwz⟩
      · cases hcs
        exact ⟨⟨name, T, D, mode, Q, theta, none, 0, ecb, ucb, []⟩, rfl, ⟨fun h => absurd rfl h, fun _ => ⟨rfl, rfl⟩, by simp, w0, bounds_i64 w1, bounds_i64 w2, bounds_i64 w3, bounds_i64 w4, bounds_i64 w5, bounds_u64 w7, bounds_u64 w8, fun n hn => by simp at hn⟩⟩
      · cases hcs
        have hle : len ≤ zs.length := by rw [hzl]; split <;> omega
        have hlt : (zs.take len).length = len := by rw [List.length_take]; omega
        have hb : Try.prog.bytesOf 2 = 8 := by kernel_rfl
        have hsz : zs.length * 8 ≤ 140737488351232 := by
          refine sized_of hz ?_
          rw [DataW.weights, Try.underlying38]
          simp [DataW.weightsEach, DataW.weights, Try.underlying26, hd, hb, lits]
          right; left
          rw [show min len zs.length + (zs.length - len) = zs.length by omega]
        refine ⟨⟨name, T, D, mode, Q, theta, some a, cap, ecb, ucb, zs.take len⟩, ?_, ⟨regs_of hcell len hle, (fun e => by cases e), ?_, w0, bounds_i64 w1, bounds_i64 w2, bounds_i64 w3, bounds_i64 w4, bounds_i64 w5, bounds_u64 w7, bounds_u64 w8, fun n hn => bounds_i64 (hwz n (List.mem_of_mem_take hn))⟩⟩
        · simp only [TaskV.cells, hlt]
        · simp only [hlt]; omega
theorem cells_at {a : Addr} {n : Nat} {l : List Value} (h : w.cells? base a n = some l) (i : Nat) (hi : i < n) : w.cell? (a.add i) = l[i]? := by
  unfold World.cells? at h
  split at h
  · exact mapM_some_get h i i (by simp [hi])
  · cases h
theorem weights_all {P : Program} {e : TypeId} {d : DataW H} {n : Nat} (hn : n ∈ d.weights P e) : ∀ ds : List (DataW H), d ∈ ds → n ∈ DataW.weightsAll P e ds := by
  intro ds
  induction ds with
  | nil => intro h; cases h
  | cons x r ih =>
    intro h
    rw [DataW.weightsAll, List.mem_append]
    rcases List.mem_cons.1 h with rfl | h
    · exact Or.inl hn
    · exact Or.inr (ih h)
instance : Inhabited TaskV := ⟨task0⟩
theorem open_set {fuel : Nat} {cs : List Value} {x : DataW H × List MemPlace} (h : DataW.trod enc Try.prog w base spare held fuel 24 cs = some x) (hz : ∀ n ∈ x.1.weights Try.prog 24, n ≤ reachBytes) :
    ∃ s : SetV, cs = [.int .i64 s.reload, .slice s.ao s.ts.length s.cap] ∧ SetIn w s := by
  obtain ⟨xs, n, -, rfl, hl, hxl, hf⟩ := DataW.trod_struct Try.underlying24 h
  rw [show Try.prog.cellsOf 24 = 2 by kernel_rfl] at hl
  match cs, hl with
  | [a0, a1], _ =>
    match xs, hxl with
    | [x0, x1], _ =>
      have k2 : Try.prog.cellsOf 2 = 1 := by kernel_rfl
      have k4 : Try.prog.cellsOf 22 = 1 := by kernel_rfl
      have k9 : Try.prog.cellsOf 38 = 9 := by kernel_rfl
      have h0 : DataW.trod enc Try.prog w base spare held n 2 [a0] = some x0 := field_at k2 (hf 0 _ rfl)
      have h1 : DataW.trod enc Try.prog w base spare held n 22 [a1] = some x1 := field_at k4 (hf 1 _ rfl)
      clear hf h
      obtain ⟨rl, e0, rfl, w0⟩ := DataW.trod_int Try.underlying2 h0
      cases e0
      rcases Deep.open_slice Try.underlying22 h1 with ⟨hcs, -⟩ | ⟨a, len, cap, m, n', D, Pl, hcs, -, hlc, hcm, hm, hx, hel⟩
      · cases hcs
        exact ⟨⟨rl, none, 0, []⟩, rfl, ⟨bounds_i64 w0, fun _ => ⟨rfl, rfl⟩, by simp, by simp, fun h => absurd rfl h, fun t ht => by simp at ht⟩⟩
      · cases hcs
        rw [k9] at hel
        have hml : len ≤ m := by rw [hm]; split <;> omega
        have hone : ∀ i, i < len → ∃ t : TaskV, w.cells? base (a.add (i * 9)) 9 = some t.cells ∧ TaskIn w t := fun i hi => by
          obtain ⟨cs', hc, htr⟩ := hel i (by omega)
          obtain ⟨t, rfl, ht⟩ := open_task htr (fun n hn => hz n (by
            rw [DataW.weights, Try.underlying24]
            simp only [List.map_cons, List.map_nil, DataW.weightsEach, hx, DataW.weights, Try.underlying22, List.mem_append, List.mem_cons]
            exact Or.inr (Or.inl (Or.inr (Or.inl (weights_all hn _ (List.mem_map.2 ⟨i, List.mem_range.2 hi, rfl⟩)))))))
          exact ⟨t, hc, ht⟩
        obtain ⟨f, hfi⟩ := Deep.choose_lt hone
        have hlen : ((List.range len).map f).length = len := by simp
        have hget : ∀ j, j < len → ((List.range len).map f).getD j task0 = f j := fun j hj => by simp [List.getD, hj]
        refine ⟨⟨rl, some a, cap, (List.range len).map f⟩, by simp only [hlen], ⟨bounds_i64 w0, (fun e => by cases e), ?_, ?_, ?_, ?_⟩⟩
        · simp only [hlen]; exact Nat.le_trans hlc hcm
        · simp only [hlen]; exact hlc
        · intro hne
          simp only [hlen]
          have hp : 0 < len := by
            rcases Nat.eq_zero_or_pos len with e | e
            · subst e; exact absurd rfl hne
            · exact e
          obtain ⟨b, off, spot⟩ := a
          have c00 := cells_at (hfi 0 hp).1 0 (by omega)
          have hspot : spot = none := by
            have : w.cell? ⟨b, off, spot⟩ = some (.string (f 0).name) := by simpa [Addr.add, TaskV.cells] using c00
            simpa using World.cell?_spot this
          subst hspot
          refine ⟨b, off, rfl, fun j hj i hi => ?_⟩
          have := cells_at (hfi j hj).1 i hi
          rw [Deep.add_add, Go.WideShapes.add_plain, ← Nat.add_assoc] at this
          rw [hget j hj]; exact this
        · intro t ht
          obtain ⟨i, hi, rfl⟩ := List.mem_map.1 ht
          exact (hfi i (List.mem_range.1 hi)).2
theorem arg_task {sp : Nat → Bool} {v : Value} {d : DataW H} {ps : List MemPlace} {r : Reach} {b0 : Nat} (hv : Value.okWide Try.prog w r b0 38 v) (h : DataW.Trod enc Try.prog w base sp held 38 v d ps) (hz : ∀ n ∈ d.weights Try.prog 38, n ≤ reachBytes) : ∃ t : TaskV, v = t.val ∧ TaskIn w t := by
  obtain ⟨cs, rfl, -⟩ := okWide_struct Try.underlying38 hv
  obtain ⟨fuel, hf⟩ := h
  obtain ⟨t, e, ht⟩ := open_task hf hz
  have e' : cs.toList = t.cells := e
  exact ⟨t, by rw [TaskV.val, ← e'], ht⟩
theorem arg_set {sp : Nat → Bool} {v : Value} {d : DataW H} {ps : List MemPlace} {r : Reach} {b0 : Nat} (hv : Value.okWide Try.prog w r b0 24 v) (h : DataW.Trod enc Try.prog w base sp held 24 v d ps) (hz : ∀ n ∈ d.weights Try.prog 24, n ≤ reachBytes) : ∃ s : SetV, v = s.val ∧ SetIn w s := by
  obtain ⟨cs, rfl, -⟩ := okWide_struct Try.underlying24 hv
  obtain ⟨fuel, hf⟩ := h
  obtain ⟨s, e, hs⟩ := open_set hf hz
  have e' : cs.toList = [.int .i64 s.reload, .slice s.ao s.ts.length s.cap] := e
  refine ⟨s, ?_, hs⟩
  rw [SetV.val, show cs = #[.int .i64 s.reload, .slice s.ao s.ts.length s.cap] from Array.toList_inj.1 e']
theorem arg_int {k : IntKind} {t : TypeId} {sp : Nat → Bool} {v : Value} {d : DataW H} {ps : List MemPlace} {r : Reach} {b0 : Nat} (hu : Try.prog.underlying t = some (.int k)) (hv : Value.okWide Try.prog w r b0 t v) (h : DataW.Trod enc Try.prog w base sp held t v d ps) : ∃ n, v = .int k n ∧ (Lit.int k n).wf = true := by
  obtain ⟨n, rfl⟩ := okWide_int hu hv
  obtain ⟨fuel, hf⟩ := h
  obtain ⟨n', e, -, hw⟩ := DataW.trod_int hu hf
  have : n = n' := by simpa [Value.cells] using e
  exact ⟨n, rfl, by rw [this]; exact hw⟩
end
end Go.Proofs.Ytndhjfpjhpnbaaa.Lex
