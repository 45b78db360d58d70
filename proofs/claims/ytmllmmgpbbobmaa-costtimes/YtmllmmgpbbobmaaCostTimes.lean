/- For any two numbers, the law of twice their cost answers true. -/
import Derived.Test.YtmllmmgpbbobmaaRows
import Derived.WalkKit
import Derived.ProofKit
import Derived.OpenShut
import Derived.ShutString
import Derived.Test.YtmllmmgpbbobmaaNum
import Derived.Test.YtmllmmgpbbobmaaNumRef
import Derived.Test.YtmllmmgpbbobmaaCostMath
import Derived.Test.YtmllmmgpbbobmaaCostWord
import Derived.Test.YtmllmmgpbbobmaaCost
import Derived.Test.YtmllmmgpbbobmaaCostSum
import Derived.Below
import Derived.ChangeOld
namespace Go.Proofs.Ytmllmmgpbbobmaa.costTimes
open Go.ChangeShapes Go.WideShapes Go.ChangeAt Go.RowKit
open Go.ChangeMaps (open_string shut_string)
set_option linter.unusedVariables false

theorem own : ownKnob Try.prog.godebug = none := by kernel_rfl

set_option maxHeartbeats 800000 in
theorem walk (a0 : Int) (a1 : Int) (w0 : (Lit.int .i64 a0).wf = true) (w1 : (Lit.int .i64 a1).wf = true) (w : World) :
    Calls Try.prog 7 #[.int .i64 a0, .int .i64 a1] w fun e w' => e = .returned (.bool true) ∧ Below w.heap.size w w' := by
  cases h : Num.areB a0 a1
  · have k1 : Cost.ofRe a0 a1 = 0 := by simp [Cost.ofRe, h]
    have k2 : Cost.ofIm a0 a1 = 0 := by simp [Cost.ofIm, h]
    have hn : ¬ ((0 ≤ a0 ∧ a0 ≤ 1099511627776) ∧ 0 ≤ a1 ∧ a1 ≤ 1099511627776) := by rw [← Num.areB_iff, h]; simp
    by_cases h0 : a0 < 0
    · clear hn
      go_enter Try.func7, Try.ntmps7
      go_wp2_with (first
        | (go_at_call 9; refine (Cost.of_any _ _ _).mono ?_; rintro e w' ⟨rfl, hw⟩; rw [hw]; clear hw w')
        | (go_at_call 13; refine (Cost.known_any _).mono ?_; rintro e w' ⟨rfl, hw⟩; rw [hw]; clear hw w'))
      go_ret
      exact ⟨rfl, Below.refl _ _⟩
    · by_cases h1 : a1 < 0
      · clear hn
        go_enter Try.func7, Try.ntmps7
        go_wp2_with (first
          | (go_at_call 9; refine (Cost.of_any _ _ _).mono ?_; rintro e w' ⟨rfl, hw⟩; rw [hw]; clear hw w')
          | (go_at_call 13; refine (Cost.known_any _).mono ?_; rintro e w' ⟨rfl, hw⟩; rw [hw]; clear hw w'))
        go_ret
        exact ⟨rfl, Below.refl _ _⟩
      · by_cases h2 : 1099511627776 < a0
        · clear hn
          go_enter Try.func7, Try.ntmps7
          go_wp2_with (first
            | (go_at_call 9; refine (Cost.of_any _ _ _).mono ?_; rintro e w' ⟨rfl, hw⟩; rw [hw]; clear hw w')
            | (go_at_call 13; refine (Cost.known_any _).mono ?_; rintro e w' ⟨rfl, hw⟩; rw [hw]; clear hw w'))
          go_ret
          exact ⟨rfl, Below.refl _ _⟩
        · have h3 : 1099511627776 < a1 := by omega
          clear hn
          go_enter Try.func7, Try.ntmps7
          go_wp2_with (first
            | (go_at_call 9; refine (Cost.of_any _ _ _).mono ?_; rintro e w' ⟨rfl, hw⟩; rw [hw]; clear hw w')
            | (go_at_call 13; refine (Cost.known_any _).mono ?_; rintro e w' ⟨rfl, hw⟩; rw [hw]; clear hw w'))
          go_ret
          exact ⟨rfl, Below.refl _ _⟩
  · have co := fun w => Cost.of_any a0 a1 w
    rw [Cost.ofRe_yes h, Cost.ofIm_yes h, h] at co
    have ct := fun w => Cost.times_any (Cost.F a0) (Cost.F a1) 2 w (by decide)
    have cz := fun w => Cost.times_any (Cost.F a0) (Cost.F a1) 0 w (by decide)
    have cn := fun w => Cost.times_any (Cost.F a0) (Cost.F a1) (-1) w (by decide)
    obtain ⟨t1, t2, t3⟩ := Cost.sum_twice h
    obtain ⟨z1, z2, z3⟩ := Cost.times_zero h
    obtain ⟨o1, o2⟩ := Cost.times_refl (Cost.F a0) (Cost.F a1) 2
    have hneg : Cost.timesB (Cost.F a0) (Cost.F a1) (-1) = false := by simp [Cost.timesB]
    rw [z1, z2, z3] at cz
    rw [hneg] at cn
    have o3 : (FloatKind.f64.format.order 0 0 == some .eq) = true := Cost.order_refl Cost.rep_zero
    generalize Cost.timesRe (Cost.F a0) (Cost.F a1) 2 = tre at *
    generalize Cost.timesIm (Cost.F a0) (Cost.F a1) 2 = tim at *
    generalize Cost.timesB (Cost.F a0) (Cost.F a1) 2 = tb at *
    generalize Cost.timesRe (Cost.F a0) (Cost.F a1) (-1) = nre at *
    generalize Cost.timesIm (Cost.F a0) (Cost.F a1) (-1) = nim at *
    clear z1 z2 z3 hneg
    generalize Cost.F a0 = x at *
    generalize Cost.F a1 = y at *
    have CO := Cost.hide co
    have CT := Cost.hide ct
    have CZ := Cost.hide cz
    have CN := Cost.hide cn
    have T1 := Cost.hide t1
    have T2 := Cost.hide t2
    have T3 := Cost.hide t3
    clear co ct cz cn t1 t2 t3 h w0 w1
    go_enter Try.func7, Try.ntmps7
    go_wp2_with fail
    refine (Cost.unhide CO _).mono ?_
    rintro e w' ⟨rfl, hw⟩
    rw [hw]
    clear hw w'
    go_wp2_with fail
    refine (Cost.unhide CT _).mono ?_
    rintro e w1 ⟨rfl, bel1⟩
    have B1 := Cost.hide bel1
    clear bel1
    go_wp2_with fail
    refine (Cost.sum_any _ [(x, y), (x, y)] _ (by show 2 ≤ maxLen; decide) ⟨_, _, rfl, fun _ => ⟨w1.heap.size, 0, rfl, fun j hj => ?_⟩⟩).mono ?_
    · match j, hj with
      | 0, _ => simp
      | 1, _ => simp
    rintro e w' ⟨rfl, hw⟩
    rw [hw, Cost.unhide T1, Cost.unhide T2, Cost.unhide T3]
    clear hw w'
    go_wp2_with fail
    refine (Cost.unhide CZ _).mono ?_
    rintro e w2 ⟨rfl, bel2⟩
    have B2 := Cost.hide (((Cost.unhide B1).alloc (Cost.unhide B1).size _).trans (bel2.mono (((Cost.unhide B1).alloc (Cost.unhide B1).size _)).size))
    clear bel2
    go_wp2_with fail
    refine (Cost.unhide CN _).mono ?_
    rintro e w3 ⟨rfl, bel3⟩
    have B3 := Cost.hide ((Cost.unhide B2).trans (bel3.mono (Cost.unhide B2).size))
    clear bel3
    go_wp2_with (go_at_call 13; refine (Cost.known_any _).mono ?_; rintro e w' ⟨rfl, hw⟩; rw [hw]; clear hw w')
    go_ret
    exact ⟨rfl, Cost.unhide B3⟩

set_option maxRecDepth 100000 in
theorem lifted (os : Os) (started : os.Started) (H : Type) (enc : TypeId × Value → H) :
    ReturnsInHanded {} Try.checked os 7 .any (Rows.costTimesSpec.pre6 enc Try.prog Try.f7 Rows.costTimesRow.domain false) (Rows.costTimesSpec.post enc Try.prog Try.f7 false true false false) := by
  refine returnsInHanded_of_change (C := Try.checked) own started (by kernel_rfl) Try.func7
    (ChangeSpec.witness6 (enc := enc) (C := Try.checked) false ⟨#[], #[.int .i64 0, .int .i64 0], []⟩ 8 (by kernel_rfl) (by kernel_rfl) (by kernel_rfl) (by kernel_rfl)) ?_
  intro W base args ds gs before hval0 hW hcnd _
  have hval : ∀ (j : Nat) t v, Try.f7.params[j]? = some t → args[j]? = some v → Value.okWide Try.prog W .any base t v := hval0
  have hW' := hW
  obtain ⟨p, q, hA0, hV, rfl, hfz, hnd⟩ := hW
  have hA : DataW.TrodAll enc Try.prog W 0 (fun _ => true) true Try.f7.params.toList args.toList ds p := hA0
  rw [Try.params7] at hA hval
  obtain ⟨v0, vs0, d0, ds0, p0, q0, hargs, rfl, rfl, h0, r0⟩ := trodAll_cons hA
  obtain ⟨v1, vs1, d1, ds1, p1, q1, rfl, rfl, rfl, h1, r1⟩ := trodAll_cons r0
  obtain ⟨rfl, rfl, rfl⟩ := trodAll_nil r1
  obtain rfl : args = #[v0, v1] := by cases args; simp_all
  obtain ⟨rfl, rfl⟩ := trodVars_none hV
  obtain ⟨a0, rfl, rfl, rfl, w0⟩ := open_int Try.underlying2 (hval 0 2 v0 rfl rfl) h0
  obtain ⟨a1, rfl, rfl, rfl, w1⟩ := open_int Try.underlying2 (hval 1 2 v1 rfl rfl) h1
  clear hA0 hval0
  simp only [List.append_nil] at hW'
  refine (walk a0 a1 w0 w1 W).mono fun e W' ⟨he, bel⟩ => ?_
  subst he
  exact ⟨_, rfl, _, _, _, [], [], [], hW', (trodAll_cons_mk (shut_bool Try.underlying4 _) trodAll_mk0), (trodAll_cons_mk (shut_int Try.underlying2 w0) (trodAll_cons_mk (shut_int Try.underlying2 w1) trodAll_mk0)), rfl, bel.frame _, fun h => by cases h⟩

theorem over : Rows.costTimesRow.holds Try.pinned (OpenSpec.ofChange Rows.costTimesSpec) :=
  OpenClaim.holds_of_wide 7 Try.f7 rfl rfl rfl rfl rfl rfl rfl ⟨rfl, rfl, rfl, rfl, rfl⟩ rfl rfl rfl rfl rfl (by kernel_rfl) Try.func7 (by kernel_rfl)
    (of_decide_eq_true (by kernel_rfl)) (by unfold Func.isWrapper; first | (rw [if_pos (by decide +kernel)]; kernel_rfl) | (rw [if_neg (by decide +kernel)]; exact ⟨rfl, rfl⟩))
    (fun os started H enc _ => lifted os started H enc)

theorem proved : Rows.CostTimesSaid :=
  over
#print axioms proved
end Go.Proofs.Ytmllmmgpbbobmaa.costTimes
