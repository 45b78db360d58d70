/- For every set, every task and every two blockings, the law that with less blocking it is no longer busy answers true. -/
import Derived.Test.YtmkcejkopmfnfaaRows
import Derived.Test.YtmkcejkopmfnfaaLexSpec
import Derived.Test.YtmkcejkopmfnfaaTaskSpec
import Derived.Test.YtmkcejkopmfnfaaLexRef
import Derived.Test.YtmkcejkopmfnfaaLexRef2
import Derived.Test.YtmkcejkopmfnfaaTaskRef
import Derived.Test.YtmkcejkopmfnfaaTaskRef2
import Derived.Test.YtmkcejkopmfnfaaTaskOpen
import Derived.Test.YtmkcejkopmfnfaaTaskKnown
import Derived.Test.YtmkcejkopmfnfaaTaskPut
import Derived.Test.YtmkcejkopmfnfaaTaskRef3
import Derived.Test.YtmkcejkopmfnfaaTaskSameW
import Derived.Test.YtmkcejkopmfnfaaBitsMath
import Derived.Test.YtmkcejkopmfnfaaBits
import Derived.Test.YtmkcejkopmfnfaaBitsList
import Derived.Test.YtmkcejkopmfnfaaNum
import Derived.Test.YtmkcejkopmfnfaaNumRef
import Derived.Test.YtmkcejkopmfnfaaCostMath
import Derived.Test.YtmkcejkopmfnfaaCostWord
import Derived.Test.YtmkcejkopmfnfaaCost
import Derived.Test.YtmkcejkopmfnfaaAgainRef
import Derived.Test.YtmkcejkopmfnfaaParseSpec
import Derived.Test.YtmkcejkopmfnfaaParsePure
import Derived.Test.YtmkcejkopmfnfaaParsePure2
import Derived.Test.YtmkcejkopmfnfaaParsePure3
import Derived.Test.YtmkcejkopmfnfaaAgainLaw
import Derived.Test.YtmkcejkopmfnfaaLexToks
import Derived.Test.YtmkcejkopmfnfaaLexSame
import Derived.Test.YtmkcejkopmfnfaaLexParts
import Derived.Test.YtmkcejkopmfnfaaLexPure
import Derived.Test.YtmkcejkopmfnfaaLexLaws
import Derived.Test.YtmkcejkopmfnfaaLexNames
import Derived.Test.YtmkcejkopmfnfaaLexWay
import Derived.Test.YtmkcejkopmfnfaaLexFlow
import Derived.Test.YtmkcejkopmfnfaaLexCode
import Derived.Test.YtmkcejkopmfnfaaTaskCodeA
import Derived.Test.YtmkcejkopmfnfaaTaskCodeB
import Derived.Test.YtmkcejkopmfnfaaAgainCode
import Derived.Test.YtmkcejkopmfnfaaFixSpec
import Derived.Test.YtmkcejkopmfnfaaFixRef
import Derived.Test.YtmkcejkopmfnfaaFixLaw
import Derived.Test.YtmkcejkopmfnfaaFixLaw2
import Derived.Test.YtmkcejkopmfnfaaFixRow
import Derived.Test.YtmkcejkopmfnfaaActSpec
import Derived.Test.YtmkcejkopmfnfaaActRef
import Derived.Test.YtmkcejkopmfnfaaActRef2
import Derived.Test.YtmkcejkopmfnfaaFixCode
import Derived.Test.YtmkcejkopmfnfaaActCodeA
import Derived.Test.YtmkcejkopmfnfaaActCode
import Derived.Test.YtmkcejkopmfnfaaActLaw
import Derived.Test.YtmkcejkopmfnfaaActLaw2
import Derived.WalkKit
import Derived.ProofKit
import Derived.OpenShut
import Derived.ShutString
import Derived.ChangeOld
import Derived.Below
import Derived.Carry
import Derived.SizedLaws
namespace Go.Proofs.Ytmkcejkopmfnfaa.activeLess
open Go.ChangeShapes Go.WideShapes Go.ChangeAt Go.RowKit
set_option linter.unusedVariables false

theorem own : ownKnob Try.prog.godebug = none := by kernel_rfl
theorem laidOut : laidOutB Try.prog = true := by kernel_rfl

theorem walk (s0 : Lex.SetV) (a1 : Int) (a2 : Int) (a3 : Int) (w : World) (h0 : Lex.SetIn w s0) (h1 : (Lit.int .i64 a1).wf = true) (h2 : (Lit.int .i64 a2).wf = true) (h3 : (Lit.int .i64 a3).wf = true) :
    Calls Try.prog 4 #[s0.val, .int .i64 a1, .int .i64 a2, .int .i64 a3] w fun e w' => e = .returned (.bool true) ∧ Below w.heap.size w w' := by
  exact Lex.actless_law Lex.code_ALoads Lex.code_AOf s0 a1 a2 a3 w h0 (bounds_i64 h1) (bounds_i64 h2) (bounds_i64 h3)

set_option maxRecDepth 100000 in
theorem lifted (os : Os) (started : os.Started) (H : Type) (enc : TypeId × Value → H) :
    ReturnsInHanded {} Try.checked os 4 .any (Rows.activeLessSpec.pre6 enc Try.prog Try.f4 Rows.activeLessRow.domain false) (Rows.activeLessSpec.post enc Try.prog Try.f4 false true false false) := by
  refine returnsInHanded_of_change_sized (C := Try.checked) own started (by kernel_rfl) Try.func4
    (ChangeSpec.witness6 (enc := enc) (C := Try.checked) false ⟨#[], #[.agg #[.int .i64 0, .slice none 0 0], .int .i64 0, .int .i64 0, .int .i64 0], []⟩ 4 (by kernel_rfl) (by kernel_rfl) (by kernel_rfl) (by kernel_rfl)) ?_
  intro W base args ds gs before hval0 hW hcnd hsz _
  have hval : ∀ (j : Nat) t v, Try.f4.params[j]? = some t → args[j]? = some v → Value.okWide Try.prog W .any base t v := hval0
  have hW' := hW
  obtain ⟨p, q, hA0, hV, rfl, hfz, hnd⟩ := hW
  have hA : DataW.TrodAll enc Try.prog W 0 (fun _ => true) true Try.f4.params.toList args.toList ds p := hA0
  rw [Try.params4] at hA hval
  obtain ⟨v0, vs0, d0, ds0, p0, q0, hargs, rfl, rfl, k0, r0⟩ := trodAll_cons hA
  obtain ⟨v1, vs1, d1, ds1, p1, q1, rfl, rfl, rfl, k1, r1⟩ := trodAll_cons r0
  obtain ⟨v2, vs2, d2, ds2, p2, q2, rfl, rfl, rfl, k2, r2⟩ := trodAll_cons r1
  obtain ⟨v3, vs3, d3, ds3, p3, q3, rfl, rfl, rfl, k3, r3⟩ := trodAll_cons r2
  obtain ⟨rfl, rfl, rfl⟩ := trodAll_nil r3
  obtain rfl : args = #[v0, v1, v2, v3] := by cases args; simp_all
  obtain ⟨rfl, rfl⟩ := trodVars_none hV
  obtain ⟨s0, rfl, g0⟩ := Lex.arg_set (hval 0 24 v0 rfl rfl) k0 (fun n hn => Lex.sized_each hsz (j := 0) rfl rfl hn)
  have lt0 : ∀ x ∈ p0, x.block < W.heap.size := by obtain ⟨m, hm⟩ := k0; exact DataW.trod_lt m _ _ _ hm
  obtain ⟨a1, rfl, g1⟩ := Lex.arg_int Try.underlying3 (hval 1 3 v1 rfl rfl) k1
  have lt1 : ∀ x ∈ p1, x.block < W.heap.size := by obtain ⟨m, hm⟩ := k1; exact DataW.trod_lt m _ _ _ hm
  obtain ⟨a2, rfl, g2⟩ := Lex.arg_int Try.underlying2 (hval 2 2 v2 rfl rfl) k2
  have lt2 : ∀ x ∈ p2, x.block < W.heap.size := by obtain ⟨m, hm⟩ := k2; exact DataW.trod_lt m _ _ _ hm
  obtain ⟨a3, rfl, g3⟩ := Lex.arg_int Try.underlying2 (hval 3 2 v3 rfl rfl) k3
  have lt3 : ∀ x ∈ p3, x.block < W.heap.size := by obtain ⟨m, hm⟩ := k3; exact DataW.trod_lt m _ _ _ hm
  clear hA0 hval0
  refine (walk s0 a1 a2 a3 W g0 g1 g2 g3).mono fun e W' ⟨he, bel⟩ => ?_
  subst he
  exact ⟨_, rfl, _, _, _, [], _, [], hW', trodAll_mk1 (shut_bool Try.underlying4 _), (trodAll_cons_mk (Below.trod laidOut (by kernel_rfl) (of_decide_eq_true (by kernel_rfl)) k0 bel lt0) (trodAll_cons_mk (Below.trod laidOut (by kernel_rfl) (of_decide_eq_true (by kernel_rfl)) k1 bel lt1) (trodAll_cons_mk (Below.trod laidOut (by kernel_rfl) (of_decide_eq_true (by kernel_rfl)) k2 bel lt2) (trodAll_cons_mk (Below.trod laidOut (by kernel_rfl) (of_decide_eq_true (by kernel_rfl)) k3 bel lt3) trodAll_mk0)))), rfl, bel.frame _, fun h => by cases h⟩

theorem over : Rows.activeLessRow.holds Try.pinned (OpenSpec.ofChange Rows.activeLessSpec) :=
  OpenClaim.holds_of_wide 4 Try.f4 rfl rfl rfl rfl rfl rfl rfl ⟨rfl, rfl, rfl, rfl, rfl⟩ rfl rfl rfl rfl rfl (by kernel_rfl) Try.func4 (by kernel_rfl)
    (of_decide_eq_true (by kernel_rfl)) (by unfold Func.isWrapper; first | (rw [if_pos (by decide +kernel)]; kernel_rfl) | (rw [if_neg (by decide +kernel)]; exact ⟨rfl, rfl⟩))
    (fun os started H enc _ => lifted os started H enc)

theorem proved : Rows.ActiveLessSaid := over
#print axioms proved
end Go.Proofs.Ytmkcejkopmfnfaa.activeLess
