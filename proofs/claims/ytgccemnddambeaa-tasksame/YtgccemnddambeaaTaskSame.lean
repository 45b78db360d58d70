/- For every two sets, the law of whether they are one answers true. -/
import Derived.Test.YtgccemnddambeaaRows
import Derived.Test.YtgccemnddambeaaLexSpec
import Derived.Test.YtgccemnddambeaaTaskSpec
import Derived.Test.YtgccemnddambeaaLexRef
import Derived.Test.YtgccemnddambeaaLexRef2
import Derived.Test.YtgccemnddambeaaTaskRef
import Derived.Test.YtgccemnddambeaaTaskRef2
import Derived.Test.YtgccemnddambeaaTaskOpen
import Derived.Test.YtgccemnddambeaaTaskKnown
import Derived.Test.YtgccemnddambeaaTaskRef3
import Derived.Test.YtgccemnddambeaaTaskPut
import Derived.Test.YtgccemnddambeaaTaskSameW
import Derived.Test.YtgccemnddambeaaLexToks
import Derived.Test.YtgccemnddambeaaLexSame
import Derived.Test.YtgccemnddambeaaLexPure
import Derived.Test.YtgccemnddambeaaLexLaws
import Derived.Test.YtgccemnddambeaaLexParts
import Derived.Test.YtgccemnddambeaaLexNames
import Derived.Test.YtgccemnddambeaaLexWay
import Derived.Test.YtgccemnddambeaaLexFlow
import Derived.Test.YtgccemnddambeaaLexCode
import Derived.Test.YtgccemnddambeaaTaskCodeA
import Derived.Test.YtgccemnddambeaaTaskCodeC
import Derived.WalkKit
import Derived.ProofKit
import Derived.OpenShut
import Derived.ShutString
import Derived.ChangeOld
import Derived.Below
import Derived.Carry
import Derived.SizedLaws
namespace Go.Proofs.Ytgccemnddambeaa.taskSame
open Go.ChangeShapes Go.WideShapes Go.ChangeAt Go.RowKit
set_option linter.unusedVariables false

theorem own : ownKnob Try.prog.godebug = none := by kernel_rfl
theorem laidOut : laidOutB Try.prog = true := by kernel_rfl

theorem walk (s0 : Lex.SetV) (s1 : Lex.SetV) (w : World) (h0 : Lex.SetIn w s0) (h1 : Lex.SetIn w s1) :
    Calls Try.prog 5 #[s0.val, s1.val] w fun e w' => e = .returned (.bool true) ∧ Below w.heap.size w w' := by
  exact Lex.tsame_law Lex.code_Is Lex.code_Work Lex.code_Same s0 s1 w h0 h1

set_option maxRecDepth 100000 in
theorem lifted (os : Os) (started : os.Started) (H : Type) (enc : TypeId × Value → H) :
    ReturnsInHanded {} Try.checked os 5 .any (Rows.taskSameSpec.pre6 enc Try.prog Try.f5 Rows.taskSameRow.domain false) (Rows.taskSameSpec.post enc Try.prog Try.f5 false true false false) := by
  refine returnsInHanded_of_change_sized (C := Try.checked) own started (by kernel_rfl) Try.func5
    (ChangeSpec.witness6 (enc := enc) (C := Try.checked) false ⟨#[], #[.agg #[.int .i64 0, .slice none 0 0], .agg #[.int .i64 0, .slice none 0 0]], []⟩ 5 (by kernel_rfl) (by kernel_rfl) (by kernel_rfl) (by kernel_rfl)) ?_
  intro W base args ds gs before hval0 hW hcnd hsz _
  have hval : ∀ (j : Nat) t v, Try.f5.params[j]? = some t → args[j]? = some v → Value.okWide Try.prog W .any base t v := hval0
  have hW' := hW
  obtain ⟨p, q, hA0, hV, rfl, hfz, hnd⟩ := hW
  have hA : DataW.TrodAll enc Try.prog W 0 (fun _ => true) true Try.f5.params.toList args.toList ds p := hA0
  rw [Try.params5] at hA hval
  obtain ⟨v0, vs0, d0, ds0, p0, q0, hargs, rfl, rfl, k0, r0⟩ := trodAll_cons hA
  obtain ⟨v1, vs1, d1, ds1, p1, q1, rfl, rfl, rfl, k1, r1⟩ := trodAll_cons r0
  obtain ⟨rfl, rfl, rfl⟩ := trodAll_nil r1
  obtain rfl : args = #[v0, v1] := by cases args; simp_all
  obtain ⟨rfl, rfl⟩ := trodVars_none hV
  obtain ⟨s0, rfl, g0⟩ := Lex.arg_set (hval 0 31 v0 rfl rfl) k0 (fun n hn => Lex.sized_each hsz (j := 0) rfl rfl hn)
  have lt0 : ∀ x ∈ p0, x.block < W.heap.size := by obtain ⟨m, hm⟩ := k0; exact DataW.trod_lt m _ _ _ hm
  obtain ⟨s1, rfl, g1⟩ := Lex.arg_set (hval 1 31 v1 rfl rfl) k1 (fun n hn => Lex.sized_each hsz (j := 1) rfl rfl hn)
  have lt1 : ∀ x ∈ p1, x.block < W.heap.size := by obtain ⟨m, hm⟩ := k1; exact DataW.trod_lt m _ _ _ hm
  clear hA0 hval0
  refine (walk s0 s1 W g0 g1).mono fun e W' ⟨he, bel⟩ => ?_
  subst he
  exact ⟨_, rfl, _, _, _, [], _, [], hW', trodAll_mk1 (shut_bool Try.underlying4 _), (trodAll_cons_mk (Below.trod laidOut (by kernel_rfl) (of_decide_eq_true (by kernel_rfl)) k0 bel lt0) (trodAll_cons_mk (Below.trod laidOut (by kernel_rfl) (of_decide_eq_true (by kernel_rfl)) k1 bel lt1) trodAll_mk0)), rfl, bel.frame _, fun h => by cases h⟩

theorem over : Rows.taskSameRow.holds Try.pinned (OpenSpec.ofChange Rows.taskSameSpec) :=
  OpenClaim.holds_of_wide 5 Try.f5 rfl rfl rfl rfl rfl rfl rfl ⟨rfl, rfl, rfl, rfl, rfl⟩ rfl rfl rfl rfl rfl (by kernel_rfl) Try.func5 (by kernel_rfl)
    (of_decide_eq_true (by kernel_rfl)) (by unfold Func.isWrapper; first | (rw [if_pos (by decide +kernel)]; kernel_rfl) | (rw [if_neg (by decide +kernel)]; exact ⟨rfl, rfl⟩))
    (fun os started H enc _ => lifted os started H enc)

theorem proved : Rows.TaskSameSaid := over
#print axioms proved
end Go.Proofs.Ytgccemnddambeaa.taskSame
