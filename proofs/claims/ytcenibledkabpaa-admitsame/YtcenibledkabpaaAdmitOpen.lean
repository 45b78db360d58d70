/- From what is handed in to verdicts as they lie in memory. -/
import Derived.Test.YtcenibledkabpaaTaskOpen
import Derived.Test.YtcenibledkabpaaAdmitSpec
namespace Go.Proofs.Ytcenibledkabpaa.Lex
set_option maxRecDepth 100000
open Go.ChangeShapes Go.WideShapes Go.RowKit

section
variable {H : Type} {enc : TypeId × Value → H} {w : World} {base : Nat} {spare : Nat → Bool} {held : Bool}
theorem open_verd {fuel : Nat} {cs : List Value} {x : DataW H × List MemPlace} (h : DataW.trod enc Try.prog w base spare held fuel 28 cs = some x) (hz : ∀ n ∈ x.1.weights Try.prog 28, n ≤ reachBytes) :
    ∃ v : VerdV, cs = [.int .i64 v.how, .int .i64 v.task, .slice v.ao v.r.length v.cap] ∧ VerdIn w v := by
  obtain ⟨xs, n, -, rfl, hl, hxl, hf⟩ := DataW.trod_struct Try.underlying28 h
  rw [show Try.prog.cellsOf 28 = 3 by kernel_rfl] at hl
  match cs, hl with
  | [a0, a1, a2], _ =>
    match xs, hxl with
    | [x0, x1, x2], _ =>
      have k2 : Try.prog.cellsOf 2 = 1 := by kernel_rfl
      have k3 : Try.prog.cellsOf 3 = 1 := by kernel_rfl
      have k4 : Try.prog.cellsOf 26 = 1 := by kernel_rfl
      have h0 : DataW.trod enc Try.prog w base spare held n 3 [a0] = some x0 := field_at k3 (hf 0 _ rfl)
      have h1 : DataW.trod enc Try.prog w base spare held n 3 [a1] = some x1 := field_at k3 (hf 1 _ rfl)
      have h2 : DataW.trod enc Try.prog w base spare held n 26 [a2] = some x2 := field_at k4 (hf 2 _ rfl)
      clear hf h
      obtain ⟨how, e0, rfl, w0⟩ := DataW.trod_int Try.underlying3 h0
      obtain ⟨task, e1, rfl, w1⟩ := DataW.trod_int Try.underlying3 h1
      cases e0; cases e1
      clear h0 h1
      rcases open_ints Try.underlying26 Try.underlying2 k2 h2 with ⟨hcs, -⟩ | ⟨a, len, cap, zs, hcs, -, hlc, hcm, hzl, hd, hcell, hwz⟩
      · cases hcs
        exact ⟨⟨how, task, none, 0, []⟩, rfl, ⟨fun h => absurd rfl h, fun _ => ⟨rfl, rfl⟩, by simp, bounds_i64 w0, bounds_i64 w1, fun n hn => by simp at hn⟩⟩
      · cases hcs
        have hle : len ≤ zs.length := by rw [hzl]; split <;> omega
        have hlt : (zs.take len).length = len := by rw [List.length_take]; omega
        have hb : Try.prog.bytesOf 2 = 8 := by kernel_rfl
        have hsz : zs.length * 8 ≤ 140737488351232 := by
          refine sized_of hz ?_
          rw [DataW.weights, Try.underlying28]
          simp [DataW.weightsEach, DataW.weights, Try.underlying26, hd, hb, lits]
          left
          rw [show min len zs.length + (zs.length - len) = zs.length by omega]
        refine ⟨⟨how, task, some a, cap, zs.take len⟩, ?_, ⟨regs_of hcell len hle, (fun e => by cases e), ?_, bounds_i64 w0, bounds_i64 w1, fun n hn => bounds_i64 (hwz n (List.mem_of_mem_take hn))⟩⟩
        · simp only [hlt]
        · simp only [hlt]; omega
theorem arg_verd {sp : Nat → Bool} {v : Value} {d : DataW H} {ps : List MemPlace} {r : Reach} {b0 : Nat} (hv : Value.okWide Try.prog w r b0 28 v) (h : DataW.Trod enc Try.prog w base sp held 28 v d ps) (hz : ∀ n ∈ d.weights Try.prog 28, n ≤ reachBytes) : ∃ t : VerdV, v = t.val ∧ VerdIn w t := by
  obtain ⟨cs, rfl, -⟩ := okWide_struct Try.underlying28 hv
  obtain ⟨fuel, hf⟩ := h
  obtain ⟨t, e, ht⟩ := open_verd hf hz
  have e' : cs.toList = [.int .i64 t.how, .int .i64 t.task, .slice t.ao t.r.length t.cap] := e
  exact ⟨t, by rw [VerdV.val, show cs = #[.int .i64 t.how, .int .i64 t.task, .slice t.ao t.r.length t.cap] from Array.toList_inj.1 e'], ht⟩
end
end Go.Proofs.Ytcenibledkabpaa.Lex
