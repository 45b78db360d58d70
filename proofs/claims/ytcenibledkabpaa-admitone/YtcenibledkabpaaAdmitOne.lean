/- For every task and every reload, the law that a set of one task is accepted answers true. -/
import Derived.Test.YtcenibledkabpaaRows
import Derived.Test.YtcenibledkabpaaLexSpec
import Derived.Test.YtcenibledkabpaaTaskSpec
import Derived.Test.YtcenibledkabpaaLexRef
import Derived.Test.YtcenibledkabpaaLexRef2
import Derived.Test.YtcenibledkabpaaTaskRef
import Derived.Test.YtcenibledkabpaaTaskRef2
import Derived.Test.YtcenibledkabpaaTaskOpen
import Derived.Test.YtcenibledkabpaaTaskKnown
import Derived.Test.YtcenibledkabpaaTaskPut
import Derived.Test.YtcenibledkabpaaTaskRef3
import Derived.Test.YtcenibledkabpaaTaskSameW
import Derived.Test.YtcenibledkabpaaBitsMath
import Derived.Test.YtcenibledkabpaaBits
import Derived.Test.YtcenibledkabpaaBitsList
import Derived.Test.YtcenibledkabpaaNum
import Derived.Test.YtcenibledkabpaaNumRef
import Derived.Test.YtcenibledkabpaaCostMath
import Derived.Test.YtcenibledkabpaaCostWord
import Derived.Test.YtcenibledkabpaaCost
import Derived.Test.YtcenibledkabpaaAgainRef
import Derived.Test.YtcenibledkabpaaParseSpec
import Derived.Test.YtcenibledkabpaaParsePure
import Derived.Test.YtcenibledkabpaaParsePure2
import Derived.Test.YtcenibledkabpaaParsePure3
import Derived.Test.YtcenibledkabpaaAgainLaw
import Derived.Test.YtcenibledkabpaaLexToks
import Derived.Test.YtcenibledkabpaaLexSame
import Derived.Test.YtcenibledkabpaaLexParts
import Derived.Test.YtcenibledkabpaaLexPure
import Derived.Test.YtcenibledkabpaaLexLaws
import Derived.Test.YtcenibledkabpaaLexNames
import Derived.Test.YtcenibledkabpaaLexWay
import Derived.Test.YtcenibledkabpaaLexFlow
import Derived.Test.YtcenibledkabpaaLexCode
import Derived.Test.YtcenibledkabpaaTaskCodeA
import Derived.Test.YtcenibledkabpaaTaskCodeB
import Derived.Test.YtcenibledkabpaaAgainCode
import Derived.Test.YtcenibledkabpaaFixSpec
import Derived.Test.YtcenibledkabpaaFixRef
import Derived.Test.YtcenibledkabpaaFixLaw
import Derived.Test.YtcenibledkabpaaFixLaw2
import Derived.Test.YtcenibledkabpaaFixRow
import Derived.Test.YtcenibledkabpaaActSpec
import Derived.Test.YtcenibledkabpaaActRef
import Derived.Test.YtcenibledkabpaaActRef2
import Derived.Test.YtcenibledkabpaaFixCode
import Derived.Test.YtcenibledkabpaaActCodeA
import Derived.Test.YtcenibledkabpaaActCode
import Derived.Test.YtcenibledkabpaaAgainLaw2
import Derived.Test.YtcenibledkabpaaAgainMoreP
import Derived.Test.YtcenibledkabpaaTaskNamesP
import Derived.Test.YtcenibledkabpaaAgainMore2
import Derived.Test.YtcenibledkabpaaAgainRel
import Derived.Test.YtcenibledkabpaaBlockSpec
import Derived.Test.YtcenibledkabpaaBlockCode
import Derived.Test.YtcenibledkabpaaBlockLaw
import Derived.Test.YtcenibledkabpaaActLaw
import Derived.Test.YtcenibledkabpaaActLaw2
import Derived.Test.YtcenibledkabpaaRespSpec
import Derived.Test.YtcenibledkabpaaRespRef
import Derived.Test.YtcenibledkabpaaRespLaw
import Derived.Test.YtcenibledkabpaaRespCode
import Derived.Test.YtcenibledkabpaaTaskCodeC
import Derived.Test.YtcenibledkabpaaAdmitSpec
import Derived.Test.YtcenibledkabpaaBlockRef
import Derived.Test.YtcenibledkabpaaRespTell
import Derived.Test.YtcenibledkabpaaAdmitRef
import Derived.Test.YtcenibledkabpaaAdmitCode
import Derived.Test.YtcenibledkabpaaRespThree
import Derived.Test.YtcenibledkabpaaAdmitLaw
import Derived.Test.YtcenibledkabpaaRespLaw2
import Derived.Test.YtcenibledkabpaaRespLaw3
import Derived.Test.YtcenibledkabpaaAdmitLaw2
import Derived.WalkKit
import Derived.ProofKit
import Derived.OpenShut
import Derived.ShutString
import Derived.ChangeOld
import Derived.Below
import Derived.Carry
import Derived.SizedLaws
namespace Go.Proofs.Ytcenibledkabpaa.admitOne
set_option maxRecDepth 100000
open Go.ChangeShapes Go.WideShapes Go.ChangeAt Go.RowKit
set_option linter.unusedVariables false

theorem own : ownKnob Try.prog.godebug = none := by kernel_rfl
theorem laidOut : laidOutB Try.prog = true := by kernel_rfl

theorem walk (t0 : Lex.TaskV) (a1 : Int) (w : World) (h0 : Lex.TaskIn w t0) (h1 : (Lit.int .i64 a1).wf = true) :
    Calls Try.prog 4 #[t0.val, .int .i64 a1] w fun e w' => e = .returned (.bool true) ∧ Below w.heap.size w w' := by
  exact Lex.aone_law Lex.code_Judge t0 a1 w h0 (bounds_i64 h1)

theorem lifted (os : Os) (started : os.Started) (H : Type) (enc : TypeId × Value → H) :
    ReturnsInHanded {} Try.checked os 4 .any (Rows.admitOneSpec.pre6 enc Try.prog Try.f4 Rows.admitOneRow.domain false) (Rows.admitOneSpec.post enc Try.prog Try.f4 false true false false) := by
  refine returnsInHanded_of_change_sized (C := Try.checked) own started (by kernel_rfl) Try.func4
    (ChangeSpec.witness6 (enc := enc) (C := Try.checked) false ⟨#[], #[.agg #[.string ⟨#[]⟩, .int .i64 0, .int .i64 0, .int .i64 0, .int .i64 0, .int .i64 0, .slice none 0 0, .int .u64 0, .int .u64 0], .int .i64 0], []⟩ 4 (by kernel_rfl) (by kernel_rfl) (by kernel_rfl) (by kernel_rfl)) ?_
  intro W base args ds gs before hval0 hW hcnd hsz _
  have hval : ∀ (j : Nat) t v, Try.f4.params[j]? = some t → args[j]? = some v → Value.okWide Try.prog W .any base t v := hval0
  have hW' := hW
  obtain ⟨p, q, hA0, hV, rfl, hfz, hnd⟩ := hW
  have hA : DataW.TrodAll enc Try.prog W 0 (fun _ => true) true Try.f4.params.toList args.toList ds p := hA0
  rw [Try.params4] at hA hval
  obtain ⟨v0, vs0, d0, ds0, p0, q0, hargs, rfl, rfl, k0, r0⟩ := trodAll_cons hA
  obtain ⟨v1, vs1, d1, ds1, p1, q1, rfl, rfl, rfl, k1, r1⟩ := trodAll_cons r0
  obtain ⟨rfl, rfl, rfl⟩ := trodAll_nil r1
  obtain rfl : args = #[v0, v1] := by cases args; simp_all
  obtain ⟨rfl, rfl⟩ := trodVars_none hV
  obtain ⟨t0, rfl, g0⟩ := Lex.arg_task (hval 0 37 v0 rfl rfl) k0 (fun n hn => Lex.sized_each hsz (j := 0) rfl rfl hn)
  have lt0 : ∀ x ∈ p0, x.block < W.heap.size := by obtain ⟨m, hm⟩ := k0; exact DataW.trod_lt m _ _ _ hm
  obtain ⟨a1, rfl, g1⟩ := Lex.arg_int Try.underlying2 (hval 1 2 v1 rfl rfl) k1
  have lt1 : ∀ x ∈ p1, x.block < W.heap.size := by obtain ⟨m, hm⟩ := k1; exact DataW.trod_lt m _ _ _ hm
  clear hA0 hval0
  refine (walk t0 a1 W g0 g1).mono fun e W' ⟨he, bel⟩ => ?_
  subst he
  exact ⟨_, rfl, _, _, _, [], _, [], hW', trodAll_mk1 (shut_bool Try.underlying4 _), (trodAll_cons_mk (Below.trod laidOut (by kernel_rfl) (of_decide_eq_true (by kernel_rfl)) k0 bel lt0) (trodAll_cons_mk (Below.trod laidOut (by kernel_rfl) (of_decide_eq_true (by kernel_rfl)) k1 bel lt1) trodAll_mk0)), rfl, bel.frame _, fun h => by cases h⟩

theorem over : Rows.admitOneRow.holds Try.pinned (OpenSpec.ofChange Rows.admitOneSpec) :=
  OpenClaim.holds_of_wide 4 Try.f4 rfl rfl rfl rfl rfl rfl rfl ⟨rfl, rfl, rfl, rfl, rfl⟩ rfl rfl rfl rfl rfl (by kernel_rfl) Try.func4 (by kernel_rfl)
    (of_decide_eq_true (by kernel_rfl)) (by unfold Func.isWrapper; first | (rw [if_pos (by decide +kernel)]; kernel_rfl) | (rw [if_neg (by decide +kernel)]; exact ⟨rfl, rfl⟩))
    (fun os started H enc _ => lifted os started H enc)

theorem proved : Rows.AdmitOneSaid := over
#print axioms proved
end Go.Proofs.Ytcenibledkabpaa.admitOne
