/- For every set and every task of it, the law of what it may have to load again, what it makes others load and its cost answers true. -/
import Derived.Test.YtfcgpioegmajiaaRows
import Derived.Test.YtfcgpioegmajiaaLexSpec
import Derived.Test.YtfcgpioegmajiaaTaskSpec
import Derived.Test.YtfcgpioegmajiaaLexRef
import Derived.Test.YtfcgpioegmajiaaLexRef2
import Derived.Test.YtfcgpioegmajiaaTaskRef
import Derived.Test.YtfcgpioegmajiaaTaskRef2
import Derived.Test.YtfcgpioegmajiaaTaskOpen
import Derived.Test.YtfcgpioegmajiaaTaskKnown
import Derived.Test.YtfcgpioegmajiaaTaskPut
import Derived.Test.YtfcgpioegmajiaaTaskRef3
import Derived.Test.YtfcgpioegmajiaaTaskSameW
import Derived.Test.YtfcgpioegmajiaaBitsMath
import Derived.Test.YtfcgpioegmajiaaBits
import Derived.Test.YtfcgpioegmajiaaBitsList
import Derived.Test.YtfcgpioegmajiaaNum
import Derived.Test.YtfcgpioegmajiaaNumRef
import Derived.Test.YtfcgpioegmajiaaCostMath
import Derived.Test.YtfcgpioegmajiaaCostWord
import Derived.Test.YtfcgpioegmajiaaCost
import Derived.Test.YtfcgpioegmajiaaAgainRef
import Derived.Test.YtfcgpioegmajiaaParseSpec
import Derived.Test.YtfcgpioegmajiaaParsePure
import Derived.Test.YtfcgpioegmajiaaParsePure2
import Derived.Test.YtfcgpioegmajiaaParsePure3
import Derived.Test.YtfcgpioegmajiaaAgainLaw
import Derived.Test.YtfcgpioegmajiaaLexToks
import Derived.Test.YtfcgpioegmajiaaLexSame
import Derived.Test.YtfcgpioegmajiaaLexParts
import Derived.Test.YtfcgpioegmajiaaLexPure
import Derived.Test.YtfcgpioegmajiaaLexLaws
import Derived.Test.YtfcgpioegmajiaaLexNames
import Derived.Test.YtfcgpioegmajiaaLexWay
import Derived.Test.YtfcgpioegmajiaaLexFlow
import Derived.Test.YtfcgpioegmajiaaLexCode
import Derived.Test.YtfcgpioegmajiaaTaskCodeA
import Derived.Test.YtfcgpioegmajiaaTaskCodeB
import Derived.Test.YtfcgpioegmajiaaAgainCode
import Derived.WalkKit
import Derived.ProofKit
import Derived.OpenShut
import Derived.ShutString
import Derived.ChangeOld
import Derived.Below
import Derived.Carry
import Derived.SizedLaws
namespace Go.Proofs.Ytfcgpioegmajiaa.againTells
open Go.ChangeShapes Go.WideShapes Go.ChangeAt Go.RowKit
set_option linter.unusedVariables false

theorem own : ownKnob Try.prog.godebug = none := by kernel_rfl
theorem laidOut : laidOutB Try.prog = true := by kernel_rfl

theorem walk (s0 : Lex.SetV) (a1 : Int) (w : World) (h0 : Lex.SetIn w s0) (h1 : (Lit.int .i64 a1).wf = true) :
    Calls Try.prog 3 #[s0.val, .int .i64 a1] w fun e w' => e = .returned (.bool true) ∧ Below w.heap.size w w' := by
  exact Lex.atells_law Lex.code_Own Lex.code_Made Lex.code_Cost s0 a1 w h0 (bounds_i64 h1)

set_option maxRecDepth 100000 in
theorem lifted (os : Os) (started : os.Started) (H : Type) (enc : TypeId × Value → H) :
    ReturnsInHanded {} Try.checked os 3 .any (Rows.againTellsSpec.pre6 enc Try.prog Try.f3 Rows.againTellsRow.domain false) (Rows.againTellsSpec.post enc Try.prog Try.f3 false true false false) := by
  refine returnsInHanded_of_change_sized (C := Try.checked) own started (by kernel_rfl) Try.func3
    (ChangeSpec.witness6 (enc := enc) (C := Try.checked) false ⟨#[], #[.agg #[.int .i64 0, .slice none 0 0], .int .i64 0], []⟩ 3 (by kernel_rfl) (by kernel_rfl) (by kernel_rfl) (by kernel_rfl)) ?_
  intro W base args ds gs before hval0 hW hcnd hsz _
  have hval : ∀ (j : Nat) t v, Try.f3.params[j]? = some t → args[j]? = some v → Value.okWide Try.prog W .any base t v := hval0
  have hW' := hW
  obtain ⟨p, q, hA0, hV, rfl, hfz, hnd⟩ := hW
  have hA : DataW.TrodAll enc Try.prog W 0 (fun _ => true) true Try.f3.params.toList args.toList ds p := hA0
  rw [Try.params3] at hA hval
  obtain ⟨v0, vs0, d0, ds0, p0, q0, hargs, rfl, rfl, k0, r0⟩ := trodAll_cons hA
  obtain ⟨v1, vs1, d1, ds1, p1, q1, rfl, rfl, rfl, k1, r1⟩ := trodAll_cons r0
  obtain ⟨rfl, rfl, rfl⟩ := trodAll_nil r1
  obtain rfl : args = #[v0, v1] := by cases args; simp_all
  obtain ⟨rfl, rfl⟩ := trodVars_none hV
  obtain ⟨s0, rfl, g0⟩ := Lex.arg_set (hval 0 24 v0 rfl rfl) k0 (fun n hn => Lex.sized_each hsz (j := 0) rfl rfl hn)
  have lt0 : ∀ x ∈ p0, x.block < W.heap.size := by obtain ⟨m, hm⟩ := k0; exact DataW.trod_lt m _ _ _ hm
  obtain ⟨a1, rfl, g1⟩ := Lex.arg_int Try.underlying3 (hval 1 3 v1 rfl rfl) k1
  have lt1 : ∀ x ∈ p1, x.block < W.heap.size := by obtain ⟨m, hm⟩ := k1; exact DataW.trod_lt m _ _ _ hm
  clear hA0 hval0
  refine (walk s0 a1 W g0 g1).mono fun e W' ⟨he, bel⟩ => ?_
  subst he
  exact ⟨_, rfl, _, _, _, [], _, [], hW', trodAll_mk1 (shut_bool Try.underlying4 _), (trodAll_cons_mk (Below.trod laidOut (by kernel_rfl) (of_decide_eq_true (by kernel_rfl)) k0 bel lt0) (trodAll_cons_mk (Below.trod laidOut (by kernel_rfl) (of_decide_eq_true (by kernel_rfl)) k1 bel lt1) trodAll_mk0)), rfl, bel.frame _, fun h => by cases h⟩

theorem over : Rows.againTellsRow.holds Try.pinned (OpenSpec.ofChange Rows.againTellsSpec) :=
  OpenClaim.holds_of_wide 3 Try.f3 rfl rfl rfl rfl rfl rfl rfl ⟨rfl, rfl, rfl, rfl, rfl⟩ rfl rfl rfl rfl rfl (by kernel_rfl) Try.func3 (by kernel_rfl)
    (of_decide_eq_true (by kernel_rfl)) (by unfold Func.isWrapper; first | (rw [if_pos (by decide +kernel)]; kernel_rfl) | (rw [if_neg (by decide +kernel)]; exact ⟨rfl, rfl⟩))
    (fun os started H enc _ => lifted os started H enc)

theorem proved : Rows.AgainTellsSaid := over
#print axioms proved
end Go.Proofs.Ytfcgpioegmajiaa.againTells
