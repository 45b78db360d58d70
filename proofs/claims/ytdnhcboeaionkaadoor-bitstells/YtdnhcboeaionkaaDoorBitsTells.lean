/- For every set and every number asked for, the law of the set's numbers answers true. -/
import Derived.Test.YtdnhcboeaionkaaDoorRows
import Derived.WalkKit
import Derived.ProofKit
import Derived.OpenShut
import Derived.ShutString
import Derived.Test.YtdnhcboeaionkaaDoorTie
import Derived.Test.YtdnhcboeaionkaaDoorCards
import Derived.Test.YtdnhcboeaionkaaDoorBitsMath
import Derived.Test.YtdnhcboeaionkaaDoorBits
import Derived.Test.YtdnhcboeaionkaaDoorBitsList
import Derived.Test.YtdnhcboeaionkaaDoorBitsLaid
import Derived.LaidMore
import Derived.SevenTiedAt
import Derived.MakeChecks
import Derived.LaidHandle
import Derived.LaidLaws
import Derived.Below
import Derived.ChangeOld
namespace Go.Proofs.YtdnhcboeaionkaaDoor.bitsTells
open Go.ChangeShapes Go.WideShapes Go.ChangeAt Go.RowKit
open Go.ChangeMaps (open_string shut_string)
set_option linter.unusedVariables false

theorem own : ownKnob Tryd.prog.godebug = none := by kernel_rfl

theorem walk (a0 : Int) (a1 : Int) (w0 : (Lit.int .u64 a0).wf = true) (w1 : (Lit.int .i64 a1).wf = true) (w : World) (hT : Bits.Tab w) :
    Calls Tryd.prog 3 #[.int .u64 a0, .int .i64 a1] w fun e w' => e = .returned (.bool true) ∧ Below w.heap.size w w' := by
  have x0 : 0 ≤ a0 := (Bits.u64_wf w0).1
  have hx : a0 < 18446744073709551616 := (Bits.u64_wf w0).2
  have cc := fun w => Bits.cnt_any a0 w x0 hx
  have hlen := Bits.il_len a0.toNat
  have hmax := Bits.il_max a0.toNat
  by_cases hz : a0 = 0
  · subst hz
    have ll := fun w => Bits.least_any 0 w (by decide) (by decide) (fun h => absurd rfl h)
    have hlv : Bits.leastV 0 = 0 := rfl
    have hnz : ((0 : Int) != 0) = false := rfl
    rw [hlv, hnz] at ll
    have hc0 : Bits.pc 64 (0 : Int).toNat = 0 := Bits.pc_zero 64
    have hl0 : Bits.il (0 : Int).toNat = [] := Bits.il_zero
    have rl := fun w => Bits.rlist_any 0 w x0 hx
    have gl := fun w => Bits.list_any 0 w x0 hx
    have rh := fun w => Bits.rhas_any 0 a1 w x0 hx
    have gh := fun w => Bits.has_any 0 a1 w x0 hx
    rw [hc0] at cc
    rw [hl0] at rl gl
    clear hlv hnz hc0 hl0 hlen hmax
    generalize Bits.hasB (0 : Int).toNat a1 = hb at *
    have CC := Bits.hide cc
    have LL := Bits.hide ll
    have RL := Bits.hide rl
    have GL := Bits.hide gl
    have RH := Bits.hide rh
    have GH := Bits.hide gh
    clear cc ll rl gl rh gh hT w0 w1 hx x0
    go_enter Tryd.func3, Tryd.ntmps3
    go_wp2_with fail
    refine (Bits.unhide RL _).mono ?_
    rintro e w1 ⟨v, rfl, hown1, bel1⟩
    have row1 := Bits.row_of_own rfl hown1
    obtain ⟨ao, cap, rfl, hc⟩ := row1
    have row1 : Bits.Row w1 (.slice ao 0 cap) [] := ⟨_, _, rfl, hc⟩
    have ROW1 := Bits.hide row1
    have B1 := Bits.hide bel1
    clear hown1 bel1 hc row1
    rw [List.length_nil]
    go_wp2_with fail
    refine (Bits.unhide LL _).mono ?_
    rintro e w' ⟨rfl, hw⟩
    rw [hw]
    clear hw w'
    go_wp2_with fail
    refine (Bits.unhide GL _).mono ?_
    rintro e w2 ⟨v2, rfl, hown2, bel2, _⟩
    have row2 := Bits.row_of_own rfl hown2
    have row12 := (Bits.unhide ROW1).below bel2
    have B2 := Bits.hide ((Bits.unhide B1).trans (bel2.mono (Bits.unhide B1).size))
    clear hown2 bel2
    go_wp2_with fail
    refine (Bits.ints_any _ _ [] _ (by decide) row2 row12).mono ?_
    rintro e w' ⟨rfl, n, hw⟩
    rw [hw]
    clear hw w' row2 row12
    go_wp2_with fail
    refine (Bits.unhide CC _).mono ?_
    rintro e w' ⟨rfl, hw⟩
    rw [hw]
    clear hw w'
    go_wp2_with fail
    refine (Bits.unhide GH _).mono ?_
    rintro e w' ⟨rfl, hw⟩
    rw [hw]
    clear hw w'
    go_wp2_with fail
    refine (Bits.unhide RH _).mono ?_
    rintro e w' ⟨rfl, hw⟩
    rw [hw]
    clear hw w'
    go_wp2_with fail
    refine (Bits.known_any _).mono ?_
    rintro e w3 ⟨rfl, bel3⟩
    go_wp2
    go_ret
    exact ⟨rfl, (Bits.bel_drewN (Bits.unhide B2) n).trans (bel3.mono (by simpa using (Bits.unhide B2).size))⟩
  · obtain ⟨r, hr⟩ := Bits.il_head a0.toNat (by omega) (by omega)
    have ll := fun w hT => Bits.least_any a0 w x0 hx (fun _ => hT)
    have hlv : Bits.leastV a0 = (Lib.ctz 64 a0.toNat : Nat) := by simp [Bits.leastV, hz]
    have hnz : (a0 != 0) = true := by simp [hz]
    rw [hlv, hnz] at ll
    have hpos : 1 ≤ Bits.pc 64 a0.toNat := by rw [← hlen, hr]; simp
    have hple := Bits.pc_le 64 a0.toNat
    have rl := fun w => Bits.rlist_any a0 w x0 hx
    have gl := fun w => Bits.list_any a0 w x0 hx
    have rh := fun w => Bits.rhas_any a0 a1 w x0 hx
    have gh := fun w => Bits.has_any a0 a1 w x0 hx
    clear hlv hnz
    generalize Lib.ctz 64 a0.toNat = m at *
    generalize Bits.hasB a0.toNat a1 = hb at *
    generalize Bits.il a0.toNat = L at *
    generalize Bits.pc 64 a0.toNat = c at *
    have CC := Bits.hide cc
    have LL := Bits.hide ll
    have RL := Bits.hide rl
    have GL := Bits.hide gl
    have RH := Bits.hide rh
    have GH := Bits.hide gh
    have HLEN := Bits.hide hlen
    have HR := Bits.hide hr
    have HT := Bits.hide hT
    clear cc ll rl gl rh gh hlen hr hT hz w0 w1 hx x0
    go_enter Tryd.func3, Tryd.ntmps3
    go_wp2_with fail
    refine (Bits.unhide RL _).mono ?_
    rintro e w1 ⟨v, rfl, hown1, bel1⟩
    have row1 := Bits.row_of_own rfl hown1
    have t1 := (Bits.unhide HT).below bel1
    obtain ⟨ao, cap, rfl, hc⟩ := row1
    obtain ⟨b, off, rfl, hcc⟩ := hc (by rw [Bits.unhide HR]; simp)
    have hc0 : w1.cell? ⟨b, off, none⟩ = some (.int .i64 m) := by
      have := hcc 0 (by rw [Bits.unhide HLEN]; omega)
      rw [Bits.unhide HR] at this
      exact this
    have row1 : Bits.Row w1 (.slice (some ⟨b, off, none⟩) c cap) L := ⟨_, _, by rw [Bits.unhide HLEN], fun _ => ⟨b, off, rfl, hcc⟩⟩
    have ROW1 := Bits.hide row1
    have T1 := Bits.hide t1
    have B1 := Bits.hide bel1
    clear hown1 bel1 hcc hc row1 t1
    rw [Bits.unhide HLEN]
    go_wp2_with fail
    refine (Bits.unhide LL _ (Bits.unhide T1)).mono ?_
    rintro e w' ⟨rfl, hw⟩
    rw [hw]
    clear hw w'
    go_wp2_with fail
    refine (Bits.unhide GL _).mono ?_
    rintro e w2 ⟨v2, rfl, hown2, bel2, _⟩
    have row2 := Bits.row_of_own rfl hown2
    have row12 := (Bits.unhide ROW1).below bel2
    have B2 := Bits.hide ((Bits.unhide B1).trans (bel2.mono (Bits.unhide B1).size))
    clear hown2 bel2
    go_wp2_with fail
    refine (Bits.ints_any _ _ L _ hmax row2 row12).mono ?_
    rintro e w' ⟨rfl, n, hw⟩
    rw [hw]
    clear hw w' row2 row12
    go_wp2_with fail
    refine (Bits.unhide CC _).mono ?_
    rintro e w' ⟨rfl, hw⟩
    rw [hw]
    clear hw w'
    go_wp2_with fail
    refine (Bits.unhide GH _).mono ?_
    rintro e w' ⟨rfl, hw⟩
    rw [hw]
    clear hw w'
    go_wp2_with fail
    refine (Bits.unhide RH _).mono ?_
    rintro e w' ⟨rfl, hw⟩
    rw [hw]
    clear hw w'
    go_wp2_with fail
    refine (Bits.known_any _).mono ?_
    rintro e w3 ⟨rfl, bel3⟩
    go_wp2
    go_ret
    exact ⟨rfl, (Bits.bel_drewN (Bits.unhide B2) n).trans (bel3.mono (by simpa using (Bits.unhide B2).size))⟩

theorem door_met (os : Os) (args : Array Value) : laidMetH Tryd.prog Rows.bitsTellsRow.laid ((World.doorLaid Tryd.prog 14 os).forCall (fun _ _ => 0) ⟨#[], args, []⟩).memory :=
  laidMetH_of_parts3 (fuel := 8) (laidMet_of_run' 8 (by kernel_rfl) (by kernel_rfl)) (by kernel_rfl) (by kernel_rfl)
set_option maxRecDepth 100000 in
theorem lifted (os : Os) (started : os.Started) (H : Type) (enc : TypeId × Value → H) :
    ReturnsInHanded {} Tryd.checked os 3 .any (fun w args => (Rows.bitsTellsSpec.pre enc Tryd.prog Tryd.f3 [] false w args ∧ laidMetH Tryd.prog Rows.bitsTellsRow.laid w) ∧ sizedMet enc Tryd.prog Tryd.f3 (OpenSpec.ofChange Rows.bitsTellsSpec) false w args) (Rows.bitsTellsSpec.post enc Tryd.prog Tryd.f3 false true false false) := by
  refine returnsInHanded_of_change_and (C := Tryd.checked) (X := fun w _ => laidMetH Tryd.prog Rows.bitsTellsRow.laid w) (fun _ _ _ hh h => h.of_heap hh) own started (by kernel_rfl) Tryd.func3
    (ChangeSpec.witness_shaped (enc := enc) (C := Tryd.checked) (os := os) (X := fun w _ => laidMetH Tryd.prog Rows.bitsTellsRow.laid w) false (World.doorLaid Tryd.prog 14 os) #[.int .u64 0, .int .i64 0] 8 rfl (World.shaped_of_RefB (by kernel_rfl) (by kernel_rfl)) (by kernel_rfl) (by kernel_rfl) (by kernel_rfl) (door_met os _)) ?_
  intro W base args ds gs before hval0 hW _ _ hLH _
  have hval : ∀ (j : Nat) t v, Tryd.f3.params[j]? = some t → args[j]? = some v → Value.okWide Tryd.prog W .any base t v := hval0
  have hW' := hW
  obtain ⟨p, q, hA0, hV, rfl, hfz, hnd⟩ := hW
  have hA : DataW.TrodAll enc Tryd.prog W 0 (fun _ => true) true Tryd.f3.params.toList args.toList ds p := hA0
  rw [Tryd.params3] at hA hval
  obtain ⟨v0, vs0, d0, ds0, p0, q0, hargs, rfl, rfl, h0, r0⟩ := trodAll_cons hA
  obtain ⟨v1, vs1, d1, ds1, p1, q1, rfl, rfl, rfl, h1, r1⟩ := trodAll_cons r0
  obtain ⟨rfl, rfl, rfl⟩ := trodAll_nil r1
  obtain rfl : args = #[v0, v1] := by cases args; simp_all
  obtain ⟨rfl, rfl⟩ := trodVars_none hV
  obtain ⟨a0, rfl, rfl, rfl, w0⟩ := open_int Tryd.underlying22 (hval 0 22 v0 rfl rfl) h0
  obtain ⟨a1, rfl, rfl, rfl, w1⟩ := open_int Tryd.underlying3 (hval 1 3 v1 rfl rfl) h1
  clear hA0 hval0
  simp only [List.append_nil] at hW'
  have hL : laidMet Tryd.prog Rows.bitsTellsRow.laid W := by rw [← MakeChecks.laidMetH_plain _ _ _ (by kernel_rfl)]; exact hLH
  have hT : Bits.Tab W := Bits.tab_of_laid (List.mem_cons_self ..) hL
  refine (walk a0 a1 w0 w1 W hT).mono fun e W' ⟨he, bel⟩ => ?_
  subst he
  exact ⟨_, rfl, _, _, _, [], [], [], hW', (trodAll_cons_mk (shut_bool Tryd.underlying4 _) trodAll_mk0), (trodAll_cons_mk (shut_int Tryd.underlying22 w0) (trodAll_cons_mk (shut_int Tryd.underlying3 w1) trodAll_mk0)), rfl, bel.frame _, fun h => by cases h⟩

theorem over : Rows.bitsTellsRow.holds Tryd.pinned (OpenSpec.ofChange Rows.bitsTellsSpec) :=
  OpenClaim.holds_of_wide 3 Tryd.f3 rfl rfl rfl rfl rfl rfl rfl ⟨rfl, rfl, rfl, rfl, rfl⟩ rfl rfl rfl rfl rfl (by kernel_rfl) Tryd.func3 (by kernel_rfl)
    (of_decide_eq_true (by kernel_rfl)) (by unfold Func.isWrapper; first | (rw [if_pos (by decide +kernel)]; kernel_rfl) | (rw [if_neg (by decide +kernel)]; exact ⟨rfl, rfl⟩))
    (fun os started H enc _ => lifted os started H enc)

theorem proved : Rows.BitsTellsCardSaid :=
  Claim7.holds_tied_plain_at .later [] [.data] true (true, "6a5ac1daff1658e9d6f45e0b87137a6df66b62600f6875e9654fae25a697464b") false
    over (fun _ h => by cases h) (by kernel_rfl) (fun _ h => by cases h) bitsTells_row_tie rfl ⟨rfl, rfl⟩ (by kernel_rfl) rfl
    (fun f fn hf hfn => by
      obtain rfl : f = 3 := Option.some.inj ((show Tryd.prog.funcNamed Rows.bitsTellsRow.func = some 3 by kernel_rfl).symm.trans hf) |>.symm
      obtain rfl : fn = Tryd.f3 := (Option.some.inj (Tryd.func3.symm.trans hfn)).symm
      exact ⟨by kernel_rfl, fun j t ht => by
        rw [Tryd.params3] at ht
        have hm : t ∈ [22, 3] := by simpa using Array.mem_of_getElem? ht
        have hall : ([22, 3].all fun u => !Tryd.prog.wantsStandIn u) = true := by kernel_rfl
        exact (show Tryd.prog.wantsStandIn t = false by simpa using List.all_eq_true.1 hall t hm)⟩)
    (by kernel_rfl)
#print axioms proved
end Go.Proofs.YtdnhcboeaionkaaDoor.bitsTells
