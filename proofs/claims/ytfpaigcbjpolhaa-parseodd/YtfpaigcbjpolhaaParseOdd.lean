/- For every number, the law of texts that are none, and where, answers true. -/
import Derived.Test.YtfpaigcbjpolhaaRows
import Derived.Test.YtfpaigcbjpolhaaLexSpec
import Derived.Test.YtfpaigcbjpolhaaTaskSpec
import Derived.Test.YtfpaigcbjpolhaaLexRef
import Derived.Test.YtfpaigcbjpolhaaLexRef2
import Derived.Test.YtfpaigcbjpolhaaTaskRef
import Derived.Test.YtfpaigcbjpolhaaTaskRef2
import Derived.Test.YtfpaigcbjpolhaaTaskOpen
import Derived.Test.YtfpaigcbjpolhaaTaskKnown
import Derived.Test.YtfpaigcbjpolhaaTaskRef3
import Derived.Test.YtfpaigcbjpolhaaBitsMath
import Derived.Test.YtfpaigcbjpolhaaBits
import Derived.Test.YtfpaigcbjpolhaaBitsList
import Derived.Test.YtfpaigcbjpolhaaParseSpec
import Derived.Test.YtfpaigcbjpolhaaParsePure
import Derived.Test.YtfpaigcbjpolhaaParsePure2
import Derived.Test.YtfpaigcbjpolhaaParsePure3
import Derived.Test.YtfpaigcbjpolhaaParseRef
import Derived.Test.YtfpaigcbjpolhaaParseRef2
import Derived.Test.YtfpaigcbjpolhaaParseRef3
import Derived.Test.YtfpaigcbjpolhaaParseLaw
import Derived.Test.YtfpaigcbjpolhaaParseOddW
import Derived.Test.YtfpaigcbjpolhaaLexToks
import Derived.Test.YtfpaigcbjpolhaaLexSame
import Derived.Test.YtfpaigcbjpolhaaLexPure
import Derived.Test.YtfpaigcbjpolhaaLexLaws
import Derived.Test.YtfpaigcbjpolhaaLexParts
import Derived.Test.YtfpaigcbjpolhaaLexNames
import Derived.Test.YtfpaigcbjpolhaaLexWay
import Derived.Test.YtfpaigcbjpolhaaLexFlow
import Derived.Test.YtfpaigcbjpolhaaLexCode
import Derived.Test.YtfpaigcbjpolhaaTaskCodeA
import Derived.Test.YtfpaigcbjpolhaaTaskCodeB
import Derived.Test.YtfpaigcbjpolhaaTaskPut
import Derived.Test.YtfpaigcbjpolhaaParseRd
import Derived.Test.YtfpaigcbjpolhaaParseRd2
import Derived.Test.YtfpaigcbjpolhaaParseRd3
import Derived.Test.YtfpaigcbjpolhaaParseRd4
import Derived.Test.YtfpaigcbjpolhaaParseTask
import Derived.Test.YtfpaigcbjpolhaaParseTasks
import Derived.Test.YtfpaigcbjpolhaaParseSetInv
import Derived.Test.YtfpaigcbjpolhaaParseSet
import Derived.Test.YtfpaigcbjpolhaaParseBad
import Derived.Test.YtfpaigcbjpolhaaParseOkay
import Derived.Test.YtfpaigcbjpolhaaParseCode
import Derived.WalkKit
import Derived.ProofKit
import Derived.OpenShut
import Derived.ShutString
import Derived.ChangeOld
import Derived.Below
import Derived.Carry
import Derived.SizedLaws
namespace Go.Proofs.Ytfpaigcbjpolhaa.parseOdd
open Go.ChangeShapes Go.WideShapes Go.ChangeAt Go.RowKit
set_option linter.unusedVariables false

theorem own : ownKnob Try.prog.godebug = none := by kernel_rfl
theorem laidOut : laidOutB Try.prog = true := by kernel_rfl

theorem walk (a0 : Int) (w : World) (h0 : (Lit.int .i64 a0).wf = true) :
    Calls Try.prog 4 #[.int .i64 a0] w fun e w' => e = .returned (.bool true) ∧ Below w.heap.size w w' := by
  exact Lex.podd_law Lex.code_Parse a0 w

set_option maxRecDepth 100000 in
theorem lifted (os : Os) (started : os.Started) (H : Type) (enc : TypeId × Value → H) :
    ReturnsInHanded {} Try.checked os 4 .any (Rows.parseOddSpec.pre6 enc Try.prog Try.f4 Rows.parseOddRow.domain false) (Rows.parseOddSpec.post enc Try.prog Try.f4 false true false false) := by
  refine returnsInHanded_of_change_sized (C := Try.checked) own started (by kernel_rfl) Try.func4
    (ChangeSpec.witness6 (enc := enc) (C := Try.checked) false ⟨#[], #[.int .i64 0], []⟩ 4 (by kernel_rfl) (by kernel_rfl) (by kernel_rfl) (by kernel_rfl)) ?_
  intro W base args ds gs before hval0 hW hcnd hsz _
  have hval : ∀ (j : Nat) t v, Try.f4.params[j]? = some t → args[j]? = some v → Value.okWide Try.prog W .any base t v := hval0
  have hW' := hW
  obtain ⟨p, q, hA0, hV, rfl, hfz, hnd⟩ := hW
  have hA : DataW.TrodAll enc Try.prog W 0 (fun _ => true) true Try.f4.params.toList args.toList ds p := hA0
  rw [Try.params4] at hA hval
  obtain ⟨v0, vs0, d0, ds0, p0, q0, hargs, rfl, rfl, k0, r0⟩ := trodAll_cons hA
  obtain ⟨rfl, rfl, rfl⟩ := trodAll_nil r0
  obtain rfl : args = #[v0] := by cases args; simp_all
  obtain ⟨rfl, rfl⟩ := trodVars_none hV
  obtain ⟨a0, rfl, g0⟩ := Lex.arg_int Try.underlying3 (hval 0 3 v0 rfl rfl) k0
  have lt0 : ∀ x ∈ p0, x.block < W.heap.size := by obtain ⟨m, hm⟩ := k0; exact DataW.trod_lt m _ _ _ hm
  clear hA0 hval0
  refine (walk a0 W g0).mono fun e W' ⟨he, bel⟩ => ?_
  subst he
  exact ⟨_, rfl, _, _, _, [], _, [], hW', trodAll_mk1 (shut_bool Try.underlying4 _), (trodAll_cons_mk (Below.trod laidOut (by kernel_rfl) (of_decide_eq_true (by kernel_rfl)) k0 bel lt0) trodAll_mk0), rfl, bel.frame _, fun h => by cases h⟩

theorem over : Rows.parseOddRow.holds Try.pinned (OpenSpec.ofChange Rows.parseOddSpec) :=
  OpenClaim.holds_of_wide 4 Try.f4 rfl rfl rfl rfl rfl rfl rfl ⟨rfl, rfl, rfl, rfl, rfl⟩ rfl rfl rfl rfl rfl (by kernel_rfl) Try.func4 (by kernel_rfl)
    (of_decide_eq_true (by kernel_rfl)) (by unfold Func.isWrapper; first | (rw [if_pos (by decide +kernel)]; kernel_rfl) | (rw [if_neg (by decide +kernel)]; exact ⟨rfl, rfl⟩))
    (fun os started H enc _ => lifted os started H enc)

theorem proved : Rows.ParseOddSaid := over
#print axioms proved
end Go.Proofs.Ytfpaigcbjpolhaa.parseOdd
