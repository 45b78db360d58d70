/- For every two sets, the law of what is in both and in one alone answers true. -/
import Derived.Test.YtdnhcboeaionkaaDoorRows
import Derived.WalkKit
import Derived.ProofKit
import Derived.OpenShut
import Derived.ShutString
import Derived.Test.YtdnhcboeaionkaaDoorTie
import Derived.Test.YtdnhcboeaionkaaDoorCards
import Derived.Test.YtdnhcboeaionkaaDoorBitsMath
import Derived.Test.YtdnhcboeaionkaaDoorBits
import Derived.Test.YtdnhcboeaionkaaDoorBitsList
import Derived.Test.YtdnhcboeaionkaaDoorBitsLaid
import Derived.LaidMore
import Derived.SevenTiedAt
import Derived.MakeChecks
import Derived.LaidHandle
import Derived.LaidLaws
import Derived.Below
import Derived.ChangeOld
namespace Go.Proofs.YtdnhcboeaionkaaDoor.bitsParts
open Go.ChangeShapes Go.WideShapes Go.ChangeAt Go.RowKit
open Go.ChangeMaps (open_string shut_string)
set_option linter.unusedVariables false

theorem own : ownKnob Tryd.prog.godebug = none := by kernel_rfl

set_option maxHeartbeats 1000000 in
theorem walk (a0 : Int) (a1 : Int) (w0 : (Lit.int .u64 a0).wf = true) (w1 : (Lit.int .u64 a1).wf = true) (w : World) (hT : Bits.Tab w) :
    Calls Tryd.prog 5 #[.int .u64 a0, .int .u64 a1] w fun e w' => e = .returned (.bool true) ∧ Below w.heap.size w w' := by
  obtain ⟨x, rfl⟩ := Int.eq_ofNat_of_zero_le (Bits.u64_wf w0).1
  obtain ⟨y, rfl⟩ := Int.eq_ofNat_of_zero_le (Bits.u64_wf w1).1
  have hx : x < 18446744073709551616 := by have := (Bits.u64_wf w0).2; omega
  have hy : y < 18446744073709551616 := by have := (Bits.u64_wf w1).2; omega
  have ha : x &&& y < 18446744073709551616 := Nat.and_lt_two_pow (n := 64) x hy
  have ho : x ||| y < 18446744073709551616 := Nat.or_lt_two_pow (n := 64) hx hy
  have hA := bits_and_u64_nat x y hx hy
  have hO := bits_or_u64_nat x y hx hy
  have c1 := fun w => Bits.cnt_any ((x &&& y : Nat) : Int) w (by omega) (by omega)
  have c2 := fun w => Bits.cnt_any ((x ||| y : Nat) : Int) w (by omega) (by omega)
  have c3 := fun w => Bits.cnt_any (x : Int) w (by omega) (by omega)
  have c4 := fun w => Bits.cnt_any (y : Int) w (by omega) (by omega)
  have hpp := Bits.pc_parts 64 x y
  have l1 := Bits.pc_le 64 (x &&& y)
  have l2 := Bits.pc_le 64 (x ||| y)
  have l3 := Bits.pc_le 64 x
  have l4 := Bits.pc_le 64 y
  have g1 := fun w => Bits.list_any (x : Int) w (by omega) (by omega)
  have g2 := fun w => Bits.list_any (y : Int) w (by omega) (by omega)
  have n1 := Bits.il_len x
  have n2 := Bits.il_len y
  have hof := Bits.ofN_il2 x y hx hy
  simp only [Int.toNat_natCast] at c1 c2 c3 c4 g1 g2
  generalize x &&& y = xa at *
  generalize x ||| y = xo at *
  generalize Bits.il x = L1 at *
  generalize Bits.il y = L2 at *
  generalize Bits.pc 64 xa = p1 at *
  generalize Bits.pc 64 xo = p2 at *
  generalize Bits.pc 64 x = p3 at *
  generalize Bits.pc 64 y = p4 at *
  have heq : ((p1 : Int) + p2 == (p3 : Int) + p4) = true := by rw [beq_iff_eq]; omega
  have C1 := Bits.hide c1
  have C2 := Bits.hide c2
  have C3 := Bits.hide c3
  have C4 := Bits.hide c4
  have G1 := Bits.hide g1
  have G2 := Bits.hide g2
  have N1 := Bits.hide n1
  have N2 := Bits.hide n2
  have HOF := Bits.hide hof
  clear c1 c2 c3 c4 g1 g2 n1 n2 hof hT w0 w1 hx hy ha ho hpp
  obtain ⟨i0, hi, hz0, hz1, hz2⟩ := info_parts Bits.Tryd.info_int
  go_enter Tryd.func5, Tryd.ntmps5
  go_wp2_with fail
  refine (Bits.unhide C1 _).mono ?_
  rintro e w' ⟨rfl, hw⟩
  rw [hw]
  clear hw w'
  go_wp2_with fail
  refine (Bits.unhide C2 _).mono ?_
  rintro e w' ⟨rfl, hw⟩
  rw [hw]
  clear hw w'
  go_wp2_with fail
  refine (Bits.unhide C3 _).mono ?_
  rintro e w' ⟨rfl, hw⟩
  rw [hw]
  clear hw w'
  go_wp2_with fail
  refine (Bits.unhide C4 _).mono ?_
  rintro e w' ⟨rfl, hw⟩
  rw [hw]
  clear hw w'
  go_wp2_with fail
  refine (Bits.unhide G1 _).mono ?_
  rintro e w1 ⟨v1, rfl, hown1, bel1, hne1⟩
  have OWN1 := Bits.hide hown1
  have B1 := Bits.hide bel1
  have NE1 := Bits.hide hne1
  clear hown1 bel1 hne1
  go_wp2_with fail
  refine (Bits.unhide G2 _).mono ?_
  rintro e w2 ⟨v2, rfl, hown2, bel2, hne2⟩
  have OWN2 := Bits.hide hown2
  have B2 := Bits.hide bel2
  have NE2 := Bits.hide hne2
  clear hown2 bel2 hne2
  obtain ⟨ga, ca, rfl, hcells⟩ := Bits.own_shape (Bits.unhide OWN2) (Bits.unhide NE2)
  have hcc := Bits.hide hcells
  clear hcells
  go_wp2_with (at_builtin; refine Bits.wpList_append_when _ rfl _ _ 23 rfl w.heap.size 3 i0 (.int .i64 0) 1 8 (by kernel_rfl) hi hz0 hz1 hz2 rfl (by decide) _ _ _ rfl (Bits.own_below (Bits.unhide OWN1) (Bits.unhide B2)) ⟨ga, 0, none⟩ _ _ (L2.map (Value.int .i64)) rfl (by simp) (Bits.unhide hcc) (ints_oneCell _ _) ?c1 ?c2 ?c3 ?_)
  case c1 => rw [Bits.unhide N1, Bits.unhide N2]; unfold maxLen; omega
  case c2 => rw [Bits.unhide N1, Bits.unhide N2]; omega
  case c3 => have := (Bits.unhide B1).size; have := (Bits.unhide B2).size; omega
  intro v' w3 hown3 hgrow3
  have h12 := (Bits.unhide B1).trans ((Bits.unhide B2).mono (Bits.unhide B1).size)
  have h13 := h12.grown hgrow3 h12.size (fun j hj => ((Bits.unhide OWN1).lt j hj).1)
  rw [← List.map_append] at hown3
  have row3 := Bits.row_of_own (by rw [List.length_append]) hown3
  have B3 := Bits.hide h13
  have ROW3 := Bits.hide row3
  clear h12 h13 hown3 hgrow3 row3
  go_wp2_with fail
  refine (Bits.of_any _ _ _ (by rw [List.length_append, Bits.unhide N1, Bits.unhide N2]; unfold maxLen; omega) (Bits.unhide ROW3)).mono ?_
  rintro e w' ⟨rfl, hw⟩
  rw [hw, Bits.unhide HOF]
  clear hw w'
  go_wp2_with fail
  refine (Bits.known_any _).mono ?_
  rintro e w4 ⟨rfl, bel4⟩
  go_wp2
  go_ret
  exact ⟨rfl, (Bits.unhide B3).trans (bel4.mono (Bits.unhide B3).size)⟩

theorem door_met (os : Os) (args : Array Value) : laidMetH Tryd.prog Rows.bitsPartsRow.laid ((World.doorLaid Tryd.prog 14 os).forCall (fun _ _ => 0) ⟨#[], args, []⟩).memory :=
  laidMetH_of_parts3 (fuel := 8) (laidMet_of_run' 8 (by kernel_rfl) (by kernel_rfl)) (by kernel_rfl) (by kernel_rfl)
set_option maxRecDepth 100000 in
theorem lifted (os : Os) (started : os.Started) (H : Type) (enc : TypeId × Value → H) :
    ReturnsInHanded {} Tryd.checked os 5 .any (fun w args => (Rows.bitsPartsSpec.pre enc Tryd.prog Tryd.f5 [] false w args ∧ laidMetH Tryd.prog Rows.bitsPartsRow.laid w) ∧ sizedMet enc Tryd.prog Tryd.f5 (OpenSpec.ofChange Rows.bitsPartsSpec) false w args) (Rows.bitsPartsSpec.post enc Tryd.prog Tryd.f5 false true false false) := by
  refine returnsInHanded_of_change_and (C := Tryd.checked) (X := fun w _ => laidMetH Tryd.prog Rows.bitsPartsRow.laid w) (fun _ _ _ hh h => h.of_heap hh) own started (by kernel_rfl) Tryd.func5
    (ChangeSpec.witness_shaped (enc := enc) (C := Tryd.checked) (os := os) (X := fun w _ => laidMetH Tryd.prog Rows.bitsPartsRow.laid w) false (World.doorLaid Tryd.prog 14 os) #[.int .u64 0, .int .u64 0] 8 rfl (World.shaped_of_RefB (by kernel_rfl) (by kernel_rfl)) (by kernel_rfl) (by kernel_rfl) (by kernel_rfl) (door_met os _)) ?_
  intro W base args ds gs before hval0 hW _ _ hLH _
  have hval : ∀ (j : Nat) t v, Tryd.f5.params[j]? = some t → args[j]? = some v → Value.okWide Tryd.prog W .any base t v := hval0
  have hW' := hW
  obtain ⟨p, q, hA0, hV, rfl, hfz, hnd⟩ := hW
  have hA : DataW.TrodAll enc Tryd.prog W 0 (fun _ => true) true Tryd.f5.params.toList args.toList ds p := hA0
  rw [Tryd.params5] at hA hval
  obtain ⟨v0, vs0, d0, ds0, p0, q0, hargs, rfl, rfl, h0, r0⟩ := trodAll_cons hA
  obtain ⟨v1, vs1, d1, ds1, p1, q1, rfl, rfl, rfl, h1, r1⟩ := trodAll_cons r0
  obtain ⟨rfl, rfl, rfl⟩ := trodAll_nil r1
  obtain rfl : args = #[v0, v1] := by cases args; simp_all
  obtain ⟨rfl, rfl⟩ := trodVars_none hV
  obtain ⟨a0, rfl, rfl, rfl, w0⟩ := open_int Tryd.underlying22 (hval 0 22 v0 rfl rfl) h0
  obtain ⟨a1, rfl, rfl, rfl, w1⟩ := open_int Tryd.underlying22 (hval 1 22 v1 rfl rfl) h1
  clear hA0 hval0
  simp only [List.append_nil] at hW'
  have hL : laidMet Tryd.prog Rows.bitsPartsRow.laid W := by rw [← MakeChecks.laidMetH_plain _ _ _ (by kernel_rfl)]; exact hLH
  have hT : Bits.Tab W := Bits.tab_of_laid (List.mem_cons_self ..) hL
  refine (walk a0 a1 w0 w1 W hT).mono fun e W' ⟨he, bel⟩ => ?_
  subst he
  exact ⟨_, rfl, _, _, _, [], [], [], hW', (trodAll_cons_mk (shut_bool Tryd.underlying4 _) trodAll_mk0), (trodAll_cons_mk (shut_int Tryd.underlying22 w0) (trodAll_cons_mk (shut_int Tryd.underlying22 w1) trodAll_mk0)), rfl, bel.frame _, fun h => by cases h⟩

theorem over : Rows.bitsPartsRow.holds Tryd.pinned (OpenSpec.ofChange Rows.bitsPartsSpec) :=
  OpenClaim.holds_of_wide 5 Tryd.f5 rfl rfl rfl rfl rfl rfl rfl ⟨rfl, rfl, rfl, rfl, rfl⟩ rfl rfl rfl rfl rfl (by kernel_rfl) Tryd.func5 (by kernel_rfl)
    (of_decide_eq_true (by kernel_rfl)) (by unfold Func.isWrapper; first | (rw [if_pos (by decide +kernel)]; kernel_rfl) | (rw [if_neg (by decide +kernel)]; exact ⟨rfl, rfl⟩))
    (fun os started H enc _ => lifted os started H enc)

theorem proved : Rows.BitsPartsCardSaid :=
  Claim7.holds_tied_plain_at .later [] [.data] true (true, "6a5ac1daff1658e9d6f45e0b87137a6df66b62600f6875e9654fae25a697464b") false
    over (fun _ h => by cases h) (by kernel_rfl) (fun _ h => by cases h) bitsParts_row_tie rfl ⟨rfl, rfl⟩ (by kernel_rfl) rfl
    (fun f fn hf hfn => by
      obtain rfl : f = 5 := Option.some.inj ((show Tryd.prog.funcNamed Rows.bitsPartsRow.func = some 5 by kernel_rfl).symm.trans hf) |>.symm
      obtain rfl : fn = Tryd.f5 := (Option.some.inj (Tryd.func5.symm.trans hfn)).symm
      exact ⟨by kernel_rfl, fun j t ht => by
        rw [Tryd.params5] at ht
        have hm : t ∈ [22, 22] := by simpa using Array.mem_of_getElem? ht
        have hall : ([22, 22].all fun u => !Tryd.prog.wantsStandIn u) = true := by kernel_rfl
        exact (show Tryd.prog.wantsStandIn t = false by simpa using List.all_eq_true.1 hall t hm)⟩)
    (by kernel_rfl)
#print axioms proved
end Go.Proofs.YtdnhcboeaionkaaDoor.bitsParts
