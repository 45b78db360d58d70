/- For every way, the law of three tasks by hand answers true. -/
import Derived.Test.YtmnbnldldilniaaRows
import Derived.WalkKit
import Derived.ProofKit
import Derived.OpenShut
import Derived.ShutString
import Derived.Test.YtmnbnldldilniaaLexSpec
import Derived.Test.YtmnbnldldilniaaTaskSpec
import Derived.Test.YtmnbnldldilniaaLexRef
import Derived.Test.YtmnbnldldilniaaLexRef2
import Derived.Test.YtmnbnldldilniaaTaskRef
import Derived.Test.YtmnbnldldilniaaTaskRef2
import Derived.Test.YtmnbnldldilniaaTaskKnown
import Derived.Test.YtmnbnldldilniaaTaskPut
import Derived.Test.YtmnbnldldilniaaTaskRef3
import Derived.Test.YtmnbnldldilniaaTaskSameW
import Derived.Test.YtmnbnldldilniaaBitsMath
import Derived.Test.YtmnbnldldilniaaBits
import Derived.Test.YtmnbnldldilniaaBitsList
import Derived.Test.YtmnbnldldilniaaNum
import Derived.Test.YtmnbnldldilniaaNumRef
import Derived.Test.YtmnbnldldilniaaCostMath
import Derived.Test.YtmnbnldldilniaaCostWord
import Derived.Test.YtmnbnldldilniaaCost
import Derived.Test.YtmnbnldldilniaaAgainRef
import Derived.Test.YtmnbnldldilniaaParseSpec
import Derived.Test.YtmnbnldldilniaaParsePure
import Derived.Test.YtmnbnldldilniaaParsePure2
import Derived.Test.YtmnbnldldilniaaParsePure3
import Derived.Test.YtmnbnldldilniaaAgainLaw
import Derived.Test.YtmnbnldldilniaaLexToks
import Derived.Test.YtmnbnldldilniaaLexSame
import Derived.Test.YtmnbnldldilniaaLexParts
import Derived.Test.YtmnbnldldilniaaLexPure
import Derived.Test.YtmnbnldldilniaaLexLaws
import Derived.Test.YtmnbnldldilniaaLexNames
import Derived.Test.YtmnbnldldilniaaLexWay
import Derived.Test.YtmnbnldldilniaaLexFlow
import Derived.Test.YtmnbnldldilniaaLexCode
import Derived.Test.YtmnbnldldilniaaTaskCodeA
import Derived.Test.YtmnbnldldilniaaTaskCodeB
import Derived.Test.YtmnbnldldilniaaAgainCode
import Derived.Test.YtmnbnldldilniaaFixSpec
import Derived.Test.YtmnbnldldilniaaFixRef
import Derived.Test.YtmnbnldldilniaaFixLaw
import Derived.Test.YtmnbnldldilniaaFixLaw2
import Derived.Test.YtmnbnldldilniaaFixRow
import Derived.Test.YtmnbnldldilniaaActSpec
import Derived.Test.YtmnbnldldilniaaActRef
import Derived.Test.YtmnbnldldilniaaActRef2
import Derived.Test.YtmnbnldldilniaaFixCode
import Derived.Test.YtmnbnldldilniaaActCodeA
import Derived.Test.YtmnbnldldilniaaActCode
import Derived.Test.YtmnbnldldilniaaAgainLaw2
import Derived.Test.YtmnbnldldilniaaAgainMoreP
import Derived.Test.YtmnbnldldilniaaTaskNamesP
import Derived.Test.YtmnbnldldilniaaAgainMore2
import Derived.Test.YtmnbnldldilniaaAgainRel
import Derived.Test.YtmnbnldldilniaaBlockSpec
import Derived.Test.YtmnbnldldilniaaBlockCode
import Derived.Test.YtmnbnldldilniaaBlockLaw
import Derived.Test.YtmnbnldldilniaaActLaw
import Derived.Test.YtmnbnldldilniaaActLaw2
import Derived.Test.YtmnbnldldilniaaRespSpec
import Derived.Test.YtmnbnldldilniaaRespRef
import Derived.Test.YtmnbnldldilniaaRespLaw
import Derived.Test.YtmnbnldldilniaaRespCode
import Derived.Test.YtmnbnldldilniaaRespThree
import Derived.Below
import Derived.ChangeOld
namespace Go.Proofs.Ytmnbnldldilniaa.respKnown
open Go.ChangeShapes Go.WideShapes Go.ChangeAt Go.RowKit
open Go.ChangeMaps (open_string shut_string)
set_option linter.unusedVariables false

theorem own : ownKnob Try.prog.godebug = none := by kernel_rfl

theorem walk (a0 : Int) (w0 : (Lit.int .i64 a0).wf = true) (w : World) :
    Calls Try.prog 7 #[.int .i64 a0] w fun e w' => e = .returned (.bool true) ∧ Below w.heap.size w w' := by
  exact Lex.rknown_law Lex.code_ROf a0 w

set_option maxRecDepth 100000 in
theorem lifted (os : Os) (started : os.Started) (H : Type) (enc : TypeId × Value → H) :
    ReturnsInHanded {} Try.checked os 7 .any (Rows.respKnownSpec.pre6 enc Try.prog Try.f7 Rows.respKnownRow.domain false) (Rows.respKnownSpec.post enc Try.prog Try.f7 false true false false) := by
  refine returnsInHanded_of_change (C := Try.checked) own started (by kernel_rfl) Try.func7
    (ChangeSpec.witness6 (enc := enc) (C := Try.checked) false ⟨#[], #[.int .i64 0], []⟩ 8 (by kernel_rfl) (by kernel_rfl) (by kernel_rfl) (by kernel_rfl)) ?_
  intro W base args ds gs before hval0 hW hcnd _
  have hval : ∀ (j : Nat) t v, Try.f7.params[j]? = some t → args[j]? = some v → Value.okWide Try.prog W .any base t v := hval0
  have hW' := hW
  obtain ⟨p, q, hA0, hV, rfl, hfz, hnd⟩ := hW
  have hA : DataW.TrodAll enc Try.prog W 0 (fun _ => true) true Try.f7.params.toList args.toList ds p := hA0
  rw [Try.params7] at hA hval
  obtain ⟨v0, vs0, d0, ds0, p0, q0, hargs, rfl, rfl, h0, r0⟩ := trodAll_cons hA
  obtain ⟨rfl, rfl, rfl⟩ := trodAll_nil r0
  obtain rfl : args = #[v0] := by cases args; simp_all
  obtain ⟨rfl, rfl⟩ := trodVars_none hV
  obtain ⟨a0, rfl, rfl, rfl, w0⟩ := open_int Try.underlying3 (hval 0 3 v0 rfl rfl) h0
  clear hA0 hval0
  simp only [List.append_nil] at hW'
  refine (walk a0 w0 W).mono fun e W' ⟨he, bel⟩ => ?_
  subst he
  exact ⟨_, rfl, _, _, _, [], [], [], hW', (trodAll_cons_mk (shut_bool Try.underlying4 _) trodAll_mk0), (trodAll_cons_mk (shut_int Try.underlying3 w0) trodAll_mk0), rfl, bel.frame _, fun h => by cases h⟩

theorem over : Rows.respKnownRow.holds Try.pinned (OpenSpec.ofChange Rows.respKnownSpec) :=
  OpenClaim.holds_of_wide 7 Try.f7 rfl rfl rfl rfl rfl rfl rfl ⟨rfl, rfl, rfl, rfl, rfl⟩ rfl rfl rfl rfl rfl (by kernel_rfl) Try.func7 (by kernel_rfl)
    (of_decide_eq_true (by kernel_rfl)) (by unfold Func.isWrapper; first | (rw [if_pos (by decide +kernel)]; kernel_rfl) | (rw [if_neg (by decide +kernel)]; exact ⟨rfl, rfl⟩))
    (fun os started H enc _ => lifted os started H enc)

theorem proved : Rows.RespKnownSaid :=
  over
#print axioms proved
end Go.Proofs.Ytmnbnldldilniaa.respKnown
