/- For every set, the law of a text's lines answers true. -/
import Derived.Test.YtlfmnnngadnkpaaDoorTie
import Derived.Test.YtlfmnnngadnkpaaDoorCards
import Derived.Test.YtlfmnnngadnkpaaDoorLexSpec
import Derived.Test.YtlfmnnngadnkpaaDoorTaskSpec
import Derived.Test.YtlfmnnngadnkpaaDoorLexRef
import Derived.Test.YtlfmnnngadnkpaaDoorLexRef2
import Derived.Test.YtlfmnnngadnkpaaDoorTaskRef
import Derived.Test.YtlfmnnngadnkpaaDoorTaskRef2
import Derived.Test.YtlfmnnngadnkpaaDoorTaskOpen
import Derived.Test.YtlfmnnngadnkpaaDoorBitsMath
import Derived.Test.YtlfmnnngadnkpaaDoorParseSpec
import Derived.Test.YtlfmnnngadnkpaaDoorParsePure
import Derived.Test.YtlfmnnngadnkpaaDoorParsePure2
import Derived.Test.YtlfmnnngadnkpaaDoorParsePure3
import Derived.Test.YtlfmnnngadnkpaaDoorTaskKnown
import Derived.Test.YtlfmnnngadnkpaaDoorBits
import Derived.Test.YtlfmnnngadnkpaaDoorBitsList
import Derived.Test.YtlfmnnngadnkpaaDoorParseRef
import Derived.Test.YtlfmnnngadnkpaaDoorParseRef2
import Derived.Test.YtlfmnnngadnkpaaDoorParseRef3
import Derived.Test.YtlfmnnngadnkpaaDoorTaskRef3
import Derived.Test.YtlfmnnngadnkpaaDoorParseLaw
import Derived.Test.YtlfmnnngadnkpaaDoorTaskPut
import Derived.Test.YtlfmnnngadnkpaaDoorTaskSameW
import Derived.Test.YtlfmnnngadnkpaaDoorShowLaw
import Derived.Test.YtlfmnnngadnkpaaDoorShowLaid
import Derived.Test.YtlfmnnngadnkpaaDoorShowShelf
import Derived.Test.YtlfmnnngadnkpaaDoorShowStr
import Derived.Test.YtlfmnnngadnkpaaDoorShowCodeA
import Derived.Test.YtlfmnnngadnkpaaDoorShowCode
import Derived.Test.YtlfmnnngadnkpaaDoorShowCodeB
import Derived.Test.YtlfmnnngadnkpaaDoorLexToks
import Derived.Test.YtlfmnnngadnkpaaDoorLexSame
import Derived.Test.YtlfmnnngadnkpaaDoorLexPure
import Derived.Test.YtlfmnnngadnkpaaDoorParseGen
import Derived.Test.YtlfmnnngadnkpaaDoorLexFlow
import Derived.Test.YtlfmnnngadnkpaaDoorParseP1
import Derived.Test.YtlfmnnngadnkpaaDoorParseP2
import Derived.Test.YtlfmnnngadnkpaaDoorParseP3
import Derived.Test.YtlfmnnngadnkpaaDoorParseP4
import Derived.Test.YtlfmnnngadnkpaaDoorParseP5
import Derived.Test.YtlfmnnngadnkpaaDoorParseP6
import Derived.Test.YtlfmnnngadnkpaaDoorShowLaw2
import Derived.WalkKit
import Derived.ProofKit
import Derived.OpenShut
import Derived.ShutString
import Derived.ChangeOld
import Derived.Below
import Derived.Carry
import Derived.SizedLaws
import Derived.LaidMore
import Derived.SevenTiedAt
import Derived.MakeChecks
import Derived.LaidHandle
import Derived.LaidLaws
namespace Go.Proofs.YtlfmnnngadnkpaaDoor.showLines
open Go.ChangeShapes Go.WideShapes Go.ChangeAt Go.RowKit
set_option linter.unusedVariables false

theorem own : ownKnob Tryd.prog.godebug = none := by kernel_rfl
theorem laidOut : laidOutB Tryd.prog = true := by kernel_rfl

theorem walk (s0 : Lex.SetV) (w : World) (h0 : Lex.SetIn w s0) (hP : Lex.Pw w) :
    Calls Tryd.prog 6 #[s0.val] w fun e w' => e = .returned (.bool true) ∧ Below w.heap.size w w' := by
  exact Lex.slines_law Lex.code_STask Lex.code_SText s0 w h0 hP

theorem door_met (os : Os) (args : Array Value) : laidMetH Tryd.prog Rows.showLinesRow.laid ((World.doorLaid Tryd.prog 24 os).forCall (fun _ _ => 0) ⟨#[], args, []⟩).memory :=
  laidMetH_of_parts3 (fuel := 8) (laidMet_of_run' 8 (by kernel_rfl) (by kernel_rfl)) (by kernel_rfl) (by kernel_rfl)
set_option maxRecDepth 100000 in
theorem lifted (os : Os) (started : os.Started) (H : Type) (enc : TypeId × Value → H) :
    ReturnsInHanded {} Tryd.checked os 6 .any (fun w args => (Rows.showLinesSpec.pre enc Tryd.prog Tryd.f6 [] false w args ∧ laidMetH Tryd.prog Rows.showLinesRow.laid w) ∧ sizedMet enc Tryd.prog Tryd.f6 (OpenSpec.ofChange Rows.showLinesSpec) false w args) (Rows.showLinesSpec.post enc Tryd.prog Tryd.f6 false true false false) := by
  refine returnsInHanded_of_change_and (C := Tryd.checked) (X := fun w _ => laidMetH Tryd.prog Rows.showLinesRow.laid w) (fun _ _ _ hh h => h.of_heap hh) own started (by kernel_rfl) Tryd.func6
    (ChangeSpec.witness_shaped (enc := enc) (C := Tryd.checked) (os := os) (X := fun w _ => laidMetH Tryd.prog Rows.showLinesRow.laid w) false (World.doorLaid Tryd.prog 24 os) #[.agg #[.int .i64 0, .slice none 0 0]] 8 rfl (World.shaped_of_RefB (by kernel_rfl) (by kernel_rfl)) (by kernel_rfl) (by kernel_rfl) (by kernel_rfl) (door_met os _)) ?_
  intro W base args ds gs before hval0 hW hcnd hsz hLH _
  have hL : laidMet Tryd.prog Rows.showLinesRow.laid W := by rw [← MakeChecks.laidMetH_plain _ _ _ (by kernel_rfl)]; exact hLH
  have hP : Lex.Pw W := Lex.pow_of_laid (by first | exact List.mem_cons_self .. | exact List.mem_cons_of_mem _ (List.mem_cons_self ..) | exact List.mem_cons_of_mem _ (List.mem_cons_of_mem _ (List.mem_cons_self ..))) hL
  have hval : ∀ (j : Nat) t v, Tryd.f6.params[j]? = some t → args[j]? = some v → Value.okWide Tryd.prog W .any base t v := hval0
  have hW' := hW
  obtain ⟨p, q, hA0, hV, rfl, hfz, hnd⟩ := hW
  have hA : DataW.TrodAll enc Tryd.prog W 0 (fun _ => true) true Tryd.f6.params.toList args.toList ds p := hA0
  rw [Tryd.params6] at hA hval
  obtain ⟨v0, vs0, d0, ds0, p0, q0, hargs, rfl, rfl, k0, r0⟩ := trodAll_cons hA
  obtain ⟨rfl, rfl, rfl⟩ := trodAll_nil r0
  obtain rfl : args = #[v0] := by cases args; simp_all
  obtain ⟨rfl, rfl⟩ := trodVars_none hV
  obtain ⟨s0, rfl, g0⟩ := Lex.arg_set (hval 0 24 v0 rfl rfl) k0 (fun n hn => Lex.sized_each hsz (j := 0) rfl rfl hn)
  have lt0 : ∀ x ∈ p0, x.block < W.heap.size := by obtain ⟨m, hm⟩ := k0; exact DataW.trod_lt m _ _ _ hm
  clear hA0 hval0
  refine (walk s0 W g0 hP).mono fun e W' ⟨he, bel⟩ => ?_
  subst he
  exact ⟨_, rfl, _, _, _, [], _, [], hW', trodAll_mk1 (shut_bool Tryd.underlying4 _), (trodAll_cons_mk (Below.trod laidOut (by kernel_rfl) (of_decide_eq_true (by kernel_rfl)) k0 bel lt0) trodAll_mk0), rfl, bel.frame _, fun h => by cases h⟩

theorem over : Rows.showLinesRow.holds Tryd.pinned (OpenSpec.ofChange Rows.showLinesSpec) :=
  OpenClaim.holds_of_wide 6 Tryd.f6 rfl rfl rfl rfl rfl rfl rfl ⟨rfl, rfl, rfl, rfl, rfl⟩ rfl rfl rfl rfl rfl (by kernel_rfl) Tryd.func6 (by kernel_rfl)
    (of_decide_eq_true (by kernel_rfl)) (by unfold Func.isWrapper; first | (rw [if_pos (by decide +kernel)]; kernel_rfl) | (rw [if_neg (by decide +kernel)]; exact ⟨rfl, rfl⟩))
    (fun os started H enc _ => lifted os started H enc)

theorem proved : Rows.ShowLinesCardSaid :=
  Claim7.holds_tied_plain_at .later [] [.data, .data, .data] true (true, "35f627fc2128f8f180aef0e31f3f7400ff52c88facebb7e5e3a85c97db9a4bcf") false
    over (fun _ h => by cases h) (by kernel_rfl) (fun _ h => by cases h) showLines_row_tie rfl ⟨rfl, rfl⟩ (by kernel_rfl) rfl
    (fun f fn hf hfn => by
      obtain rfl : f = 6 := Option.some.inj ((show Tryd.prog.funcNamed Rows.showLinesRow.func = some 6 by kernel_rfl).symm.trans hf) |>.symm
      obtain rfl : fn = Tryd.f6 := (Option.some.inj (Tryd.func6.symm.trans hfn)).symm
      exact ⟨by kernel_rfl, fun j t ht => by
        rw [Tryd.params6] at ht
        have hm : t ∈ [24] := by simpa using Array.mem_of_getElem? ht
        have hall : ([24].all fun u => !Tryd.prog.wantsStandIn u) = true := by kernel_rfl
        exact (show Tryd.prog.wantsStandIn t = false by simpa using List.all_eq_true.1 hall t hm)⟩)
    (by kernel_rfl)
#print axioms proved
end Go.Proofs.YtlfmnnngadnkpaaDoor.showLines
