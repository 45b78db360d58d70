/- For every set, the law of a set that is shown and parsed answers true. -/
import Derived.Test.YtfpaigcbjpolhaaRows
import Derived.Test.YtfpaigcbjpolhaaLexSpec
import Derived.Test.YtfpaigcbjpolhaaTaskSpec
import Derived.Test.YtfpaigcbjpolhaaLexRef
import Derived.Test.YtfpaigcbjpolhaaLexRef2
import Derived.Test.YtfpaigcbjpolhaaTaskRef
import Derived.Test.YtfpaigcbjpolhaaTaskRef2
import Derived.Test.YtfpaigcbjpolhaaTaskOpen
import Derived.Test.YtfpaigcbjpolhaaTaskKnown
import Derived.Test.YtfpaigcbjpolhaaTaskRef3
import Derived.Test.YtfpaigcbjpolhaaBitsMath
import Derived.Test.YtfpaigcbjpolhaaBits
import Derived.Test.YtfpaigcbjpolhaaBitsList
import Derived.Test.YtfpaigcbjpolhaaParseSpec
import Derived.Test.YtfpaigcbjpolhaaParsePure
import Derived.Test.YtfpaigcbjpolhaaParsePure2
import Derived.Test.YtfpaigcbjpolhaaParsePure3
import Derived.Test.YtfpaigcbjpolhaaParseRef
import Derived.Test.YtfpaigcbjpolhaaParseRef2
import Derived.Test.YtfpaigcbjpolhaaParseRef3
import Derived.Test.YtfpaigcbjpolhaaParseLaw
import Derived.Test.YtfpaigcbjpolhaaLexToks
import Derived.Test.YtfpaigcbjpolhaaLexSame
import Derived.Test.YtfpaigcbjpolhaaLexPure
import Derived.Test.YtfpaigcbjpolhaaLexLaws
import Derived.Test.YtfpaigcbjpolhaaLexParts
import Derived.Test.YtfpaigcbjpolhaaLexNames
import Derived.Test.YtfpaigcbjpolhaaLexWay
import Derived.Test.YtfpaigcbjpolhaaLexFlow
import Derived.Test.YtfpaigcbjpolhaaLexCode
import Derived.Test.YtfpaigcbjpolhaaTaskCodeA
import Derived.Test.YtfpaigcbjpolhaaTaskCodeB
import Derived.Test.YtfpaigcbjpolhaaTaskPut
import Derived.Test.YtfpaigcbjpolhaaParseRd
import Derived.Test.YtfpaigcbjpolhaaParseRd2
import Derived.Test.YtfpaigcbjpolhaaParseRd3
import Derived.Test.YtfpaigcbjpolhaaParseRd4
import Derived.Test.YtfpaigcbjpolhaaParseTask
import Derived.Test.YtfpaigcbjpolhaaParseTasks
import Derived.Test.YtfpaigcbjpolhaaParseSetInv
import Derived.Test.YtfpaigcbjpolhaaParseSet
import Derived.Test.YtfpaigcbjpolhaaParseBad
import Derived.Test.YtfpaigcbjpolhaaParseOkay
import Derived.Test.YtfpaigcbjpolhaaParseCode
import Derived.WalkKit
import Derived.ProofKit
import Derived.OpenShut
import Derived.ShutString
import Derived.ChangeOld
import Derived.Below
import Derived.Carry
import Derived.SizedLaws
namespace Go.Proofs.Ytfpaigcbjpolhaa.parseShown
open Go.ChangeShapes Go.WideShapes Go.ChangeAt Go.RowKit
set_option linter.unusedVariables false

theorem own : ownKnob Try.prog.godebug = none := by kernel_rfl
theorem laidOut : laidOutB Try.prog = true := by kernel_rfl

theorem walk (s0 : Lex.SetV) (w : World) (h0 : Lex.SetIn w s0) :
    Calls Try.prog 3 #[s0.val] w fun e w' => e = .returned (.bool true) ∧ Below w.heap.size w w' := by
  exact Lex.pshown_law Lex.code_Parse s0 w h0

set_option maxRecDepth 100000 in
theorem lifted (os : Os) (started : os.Started) (H : Type) (enc : TypeId × Value → H) :
    ReturnsInHanded {} Try.checked os 3 .any (Rows.parseShownSpec.pre6 enc Try.prog Try.f3 Rows.parseShownRow.domain false) (Rows.parseShownSpec.post enc Try.prog Try.f3 false true false false) := by
  refine returnsInHanded_of_change_sized (C := Try.checked) own started (by kernel_rfl) Try.func3
    (ChangeSpec.witness6 (enc := enc) (C := Try.checked) false ⟨#[], #[.agg #[.int .i64 0, .slice none 0 0]], []⟩ 3 (by kernel_rfl) (by kernel_rfl) (by kernel_rfl) (by kernel_rfl)) ?_
  intro W base args ds gs before hval0 hW hcnd hsz _
  have hval : ∀ (j : Nat) t v, Try.f3.params[j]? = some t → args[j]? = some v → Value.okWide Try.prog W .any base t v := hval0
  have hW' := hW
  obtain ⟨p, q, hA0, hV, rfl, hfz, hnd⟩ := hW
  have hA : DataW.TrodAll enc Try.prog W 0 (fun _ => true) true Try.f3.params.toList args.toList ds p := hA0
  rw [Try.params3] at hA hval
  obtain ⟨v0, vs0, d0, ds0, p0, q0, hargs, rfl, rfl, k0, r0⟩ := trodAll_cons hA
  obtain ⟨rfl, rfl, rfl⟩ := trodAll_nil r0
  obtain rfl : args = #[v0] := by cases args; simp_all
  obtain ⟨rfl, rfl⟩ := trodVars_none hV
  obtain ⟨s0, rfl, g0⟩ := Lex.arg_set (hval 0 24 v0 rfl rfl) k0 (fun n hn => Lex.sized_each hsz (j := 0) rfl rfl hn)
  have lt0 : ∀ x ∈ p0, x.block < W.heap.size := by obtain ⟨m, hm⟩ := k0; exact DataW.trod_lt m _ _ _ hm
  clear hA0 hval0
  refine (walk s0 W g0).mono fun e W' ⟨he, bel⟩ => ?_
  subst he
  exact ⟨_, rfl, _, _, _, [], _, [], hW', trodAll_mk1 (shut_bool Try.underlying4 _), (trodAll_cons_mk (Below.trod laidOut (by kernel_rfl) (of_decide_eq_true (by kernel_rfl)) k0 bel lt0) trodAll_mk0), rfl, bel.frame _, fun h => by cases h⟩

theorem over : Rows.parseShownRow.holds Try.pinned (OpenSpec.ofChange Rows.parseShownSpec) :=
  OpenClaim.holds_of_wide 3 Try.f3 rfl rfl rfl rfl rfl rfl rfl ⟨rfl, rfl, rfl, rfl, rfl⟩ rfl rfl rfl rfl rfl (by kernel_rfl) Try.func3 (by kernel_rfl)
    (of_decide_eq_true (by kernel_rfl)) (by unfold Func.isWrapper; first | (rw [if_pos (by decide +kernel)]; kernel_rfl) | (rw [if_neg (by decide +kernel)]; exact ⟨rfl, rfl⟩))
    (fun os started H enc _ => lifted os started H enc)

theorem proved : Rows.ParseShownSaid := over
#print axioms proved
end Go.Proofs.Ytfpaigcbjpolhaa.parseShown
