/- For every complex number and every number of times, the law of its parts, their total and so many times answers true. -/
import Derived.Test.YtmllmmgpbbobmaaRows
import Derived.WalkKit
import Derived.ProofKit
import Derived.OpenShut
import Derived.ShutString
import Derived.Test.YtmllmmgpbbobmaaNum
import Derived.Test.YtmllmmgpbbobmaaNumRef
import Derived.Test.YtmllmmgpbbobmaaCostMath
import Derived.Test.YtmllmmgpbbobmaaCostWord
import Derived.Test.YtmllmmgpbbobmaaCost
import Derived.Test.YtmllmmgpbbobmaaCostSum
import Derived.Below
import Derived.ChangeOld
namespace Go.Proofs.Ytmllmmgpbbobmaa.costTells
open Go.ChangeShapes Go.WideShapes Go.ChangeAt Go.RowKit
open Go.ChangeMaps (open_string shut_string)
set_option linter.unusedVariables false

theorem own : ownKnob Try.prog.godebug = none := by kernel_rfl

set_option maxHeartbeats 800000 in
theorem walk (a0 : Nat) (a1 : Nat) (a2 : Int) (w0 : (Lit.float .f64 a0).wf = true) (w1 : (Lit.float .f64 a1).wf = true) (w2 : (Lit.int .i64 a2).wf = true) (w : World) :
    Calls Try.prog 4 #[.float .f64 a0, .float .f64 a1, .int .i64 a2] w fun e w' => e = .returned (.bool true) ∧ Below w.heap.size w w' := by
  have n1 : a2 < 9223372036854775808 := by
    have := bounds_i64 w2
    omega
  have ct := fun w => Cost.times_any a0 a1 a2 w n1
  have rt := fun w => Cost.rtimes_any a0 a1 a2 w
  obtain ⟨o1, o2⟩ := Cost.times_refl a0 a1 a2
  have hno : Cost.costB a0 a1 = false → Cost.totB a0 a1 = false ∧ Cost.timesB a0 a1 a2 = false := fun h => ⟨by simp [Cost.totB, h], by simp [Cost.timesB, h]⟩
  have cw := fun w => Cost.work_any a0 a1 w
  have ca := fun w => Cost.again_any a0 a1 w
  have c1 := fun w => Cost.tot_any a0 a1 w
  have c2 := fun w => Cost.rtot_any a0 a1 w
  have c3 := fun w => Cost.rparts_any a0 a1 w
  generalize Cost.timesRe a0 a1 a2 = tre at *
  generalize Cost.timesIm a0 a1 a2 = tim at *
  generalize Cost.timesB a0 a1 a2 = tb at *
  generalize Cost.totV a0 a1 = ov at *
  generalize Cost.totB a0 a1 = ob at *
  generalize Cost.workV a0 a1 = wv at *
  generalize Cost.againV a0 a1 = av at *
  generalize Cost.costB a0 a1 = cb at *
  have CT := Cost.hide ct
  have RT := Cost.hide rt
  have CW := Cost.hide cw
  have CA := Cost.hide ca
  have C1 := Cost.hide c1
  have C2 := Cost.hide c2
  have C3 := Cost.hide c3
  clear ct rt cw ca c1 c2 c3 n1 w0 w1 w2
  cases cb
  · obtain ⟨rfl, rfl⟩ := hno rfl
    clear hno
    go_enter Try.func4, Try.ntmps4
    go_wp2_with (first
      | (go_at_call 14; refine (Cost.unhide C3 _).mono ?_; rintro e w' ⟨rfl, hw⟩; rw [hw]; clear hw w')
      | (go_at_call 15; refine (Cost.unhide C1 _).mono ?_; rintro e w' ⟨rfl, hw⟩; rw [hw]; clear hw w')
      | (go_at_call 16; refine (Cost.unhide C2 _).mono ?_; rintro e w' ⟨rfl, hw⟩; rw [hw]; clear hw w'))
    refine (Cost.unhide CT _).mono ?_
    rintro e w1 ⟨rfl, bel1⟩
    have B1 := Cost.hide bel1
    clear bel1
    go_wp2_with (first
      | (go_at_call 18; refine (Cost.unhide RT _).mono ?_; rintro e w' ⟨rfl, hw⟩; rw [hw]; clear hw w')
      | (go_at_call 11; refine (Cost.unhide CW _).mono ?_; rintro e w' ⟨rfl, hw⟩; rw [hw]; clear hw w')
      | (go_at_call 12; refine (Cost.unhide CA _).mono ?_; rintro e w' ⟨rfl, hw⟩; rw [hw]; clear hw w')
      | (go_at_call 13; refine (Cost.known_any _).mono ?_; rintro e w' ⟨rfl, hw⟩; rw [hw]; clear hw w'))
    go_ret
    exact ⟨rfl, Cost.unhide B1⟩
  · clear hno
    go_enter Try.func4, Try.ntmps4
    go_wp2_with (first
      | (go_at_call 14; refine (Cost.unhide C3 _).mono ?_; rintro e w' ⟨rfl, hw⟩; rw [hw]; clear hw w')
      | (go_at_call 15; refine (Cost.unhide C1 _).mono ?_; rintro e w' ⟨rfl, hw⟩; rw [hw]; clear hw w')
      | (go_at_call 16; refine (Cost.unhide C2 _).mono ?_; rintro e w' ⟨rfl, hw⟩; rw [hw]; clear hw w'))
    refine (Cost.unhide CT _).mono ?_
    rintro e w1 ⟨rfl, bel1⟩
    have B1 := Cost.hide bel1
    clear bel1
    go_wp2_with (first
      | (go_at_call 18; refine (Cost.unhide RT _).mono ?_; rintro e w' ⟨rfl, hw⟩; rw [hw]; clear hw w')
      | (go_at_call 11; refine (Cost.unhide CW _).mono ?_; rintro e w' ⟨rfl, hw⟩; rw [hw]; clear hw w')
      | (go_at_call 12; refine (Cost.unhide CA _).mono ?_; rintro e w' ⟨rfl, hw⟩; rw [hw]; clear hw w')
      | (go_at_call 13; refine (Cost.known_any _).mono ?_; rintro e w' ⟨rfl, hw⟩; rw [hw]; clear hw w'))
    go_ret
    exact ⟨rfl, Cost.unhide B1⟩

set_option maxRecDepth 100000 in
theorem lifted (os : Os) (started : os.Started) (H : Type) (enc : TypeId × Value → H) :
    ReturnsInHanded {} Try.checked os 4 .any (Rows.costTellsSpec.pre6 enc Try.prog Try.f4 Rows.costTellsRow.domain false) (Rows.costTellsSpec.post enc Try.prog Try.f4 false true false false) := by
  refine returnsInHanded_of_change (C := Try.checked) own started (by kernel_rfl) Try.func4
    (ChangeSpec.witness6 (enc := enc) (C := Try.checked) false ⟨#[], #[.float .f64 0, .float .f64 0, .int .i64 0], []⟩ 8 (by kernel_rfl) (by kernel_rfl) (by kernel_rfl) (by kernel_rfl)) ?_
  intro W base args ds gs before hval0 hW hcnd _
  have hval : ∀ (j : Nat) t v, Try.f4.params[j]? = some t → args[j]? = some v → Value.okWide Try.prog W .any base t v := hval0
  have hW' := hW
  obtain ⟨p, q, hA0, hV, rfl, hfz, hnd⟩ := hW
  have hA : DataW.TrodAll enc Try.prog W 0 (fun _ => true) true Try.f4.params.toList args.toList ds p := hA0
  rw [Try.params4] at hA hval
  obtain ⟨v0, vs0, d0, ds0, p0, q0, hargs, rfl, rfl, h0, r0⟩ := trodAll_cons hA
  obtain ⟨v1, vs1, d1, ds1, p1, q1, rfl, rfl, rfl, h1, r1⟩ := trodAll_cons r0
  obtain ⟨v2, vs2, d2, ds2, p2, q2, rfl, rfl, rfl, h2, r2⟩ := trodAll_cons r1
  obtain ⟨rfl, rfl, rfl⟩ := trodAll_nil r2
  obtain rfl : args = #[v0, v1, v2] := by cases args; simp_all
  obtain ⟨rfl, rfl⟩ := trodVars_none hV
  obtain ⟨a0, rfl, rfl, rfl, w0⟩ := open_float Try.underlying28 (hval 0 28 v0 rfl rfl) h0
  obtain ⟨a1, rfl, rfl, rfl, w1⟩ := open_float Try.underlying28 (hval 1 28 v1 rfl rfl) h1
  obtain ⟨a2, rfl, rfl, rfl, w2⟩ := open_int Try.underlying2 (hval 2 2 v2 rfl rfl) h2
  clear hA0 hval0
  simp only [List.append_nil] at hW'
  refine (walk a0 a1 a2 w0 w1 w2 W).mono fun e W' ⟨he, bel⟩ => ?_
  subst he
  exact ⟨_, rfl, _, _, _, [], [], [], hW', (trodAll_cons_mk (shut_bool Try.underlying4 _) trodAll_mk0), (trodAll_cons_mk (shut_float Try.underlying28 w0) (trodAll_cons_mk (shut_float Try.underlying28 w1) (trodAll_cons_mk (shut_int Try.underlying2 w2) trodAll_mk0))), rfl, bel.frame _, fun h => by cases h⟩

theorem over : Rows.costTellsRow.holds Try.pinned (OpenSpec.ofChange Rows.costTellsSpec) :=
  OpenClaim.holds_of_wide 4 Try.f4 rfl rfl rfl rfl rfl rfl rfl ⟨rfl, rfl, rfl, rfl, rfl⟩ rfl rfl rfl rfl rfl (by kernel_rfl) Try.func4 (by kernel_rfl)
    (of_decide_eq_true (by kernel_rfl)) (by unfold Func.isWrapper; first | (rw [if_pos (by decide +kernel)]; kernel_rfl) | (rw [if_neg (by decide +kernel)]; exact ⟨rfl, rfl⟩))
    (fun os started H enc _ => lifted os started H enc)

theorem proved : Rows.CostTellsSaid :=
  over
#print axioms proved
end Go.Proofs.Ytmllmmgpbbobmaa.costTells
