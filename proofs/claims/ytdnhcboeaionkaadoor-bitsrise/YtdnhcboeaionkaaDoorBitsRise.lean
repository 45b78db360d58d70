/- For every set, the law of its rising numbers answers true. -/
import Derived.Test.YtdnhcboeaionkaaDoorRows
import Derived.WalkKit
import Derived.ProofKit
import Derived.OpenShut
import Derived.ShutString
import Derived.Test.YtdnhcboeaionkaaDoorTie
import Derived.Test.YtdnhcboeaionkaaDoorCards
import Derived.Test.YtdnhcboeaionkaaDoorBitsMath
import Derived.Test.YtdnhcboeaionkaaDoorBits
import Derived.Test.YtdnhcboeaionkaaDoorBitsList
import Derived.Test.YtdnhcboeaionkaaDoorBitsLaid
import Derived.LaidMore
import Derived.SevenTiedAt
import Derived.MakeChecks
import Derived.LaidHandle
import Derived.LaidLaws
import Derived.Below
import Derived.ChangeOld
namespace Go.Proofs.YtdnhcboeaionkaaDoor.bitsRise
open Go.ChangeShapes Go.WideShapes Go.ChangeAt Go.RowKit
open Go.ChangeMaps (open_string shut_string)
set_option linter.unusedVariables false

theorem own : ownKnob Tryd.prog.godebug = none := by kernel_rfl

theorem walk (a0 : Int) (w0 : (Lit.int .u64 a0).wf = true) (w : World) (hT : Bits.Tab w) :
    Calls Tryd.prog 7 #[.int .u64 a0] w fun e w' => e = .returned (.bool true) ∧ Below w.heap.size w w' := by
  have x0 : 0 ≤ a0 := (Bits.u64_wf w0).1
  have hx : a0 < 18446744073709551616 := (Bits.u64_wf w0).2
  have cc := fun w => Bits.cnt_any a0 w x0 hx
  have hlen := Bits.il_len a0.toNat
  have hple := Bits.pc_le 64 a0.toNat
  have gl := fun w => Bits.list_any a0 w x0 hx
  have hrise := fun k h => Bits.il_rise a0.toNat k h
  have gh : ∀ k, k < (Bits.il a0.toNat).length → ∀ w, Calls Tryd.prog 13 #[.int .u64 a0, .int .i64 ((Bits.il a0.toNat).getD k 0)] w fun e w' => e = .returned (.bool true) ∧ w' = w := fun k h w => by
    have := Bits.has_any a0 ((Bits.il a0.toNat).getD k 0) w x0 hx
    rw [Bits.il_has a0.toNat k h] at this
    exact this
  generalize Bits.il a0.toNat = L at *
  generalize Bits.pc 64 a0.toNat = c at *
  rw [hlen] at gh hrise
  have CC := Bits.hide cc
  have GL := Bits.hide gl
  have RI := Bits.hide hrise
  have GH := Bits.hide gh
  have HLEN := Bits.hide hlen
  clear cc gl hrise gh hlen hT w0 hx x0
  go_enter Tryd.func7, Tryd.ntmps7
  go_wp2_with fail
  refine (Bits.unhide GL _).mono ?_
  rintro e w1 ⟨v, rfl, hown1, bel1, hne⟩
  have row1 := Bits.row_of_own rfl hown1
  obtain ⟨ao, cap, rfl, hc⟩ := row1
  rw [Bits.unhide HLEN]
  have hcc : ∀ k, k < c → ∃ b off, ao = some ⟨b, off, none⟩ ∧ w1.cell? ⟨b, off + k, none⟩ = some (.int .i64 (L.getD k 0)) := fun k hk => by
    have hlk : k < L.length := by rw [Bits.unhide HLEN]; exact hk
    obtain ⟨b, off, e, h⟩ := hc (fun h => by rw [h] at hlk; simp at hlk)
    exact ⟨b, off, e, h k hlk⟩
  have HCC := Bits.hide hcc
  have B1 := Bits.hide bel1
  clear hown1 hc hcc hne bel1
  go_wp2
  go_loop [4, 5] (fun last i => ∃ k : Nat, k ≤ c ∧ i = .int .i64 k ∧ last = .int .i64 (Bits.lastI L k)) (fun _ i => c - (intOf i).toNat)
  case atStart => exact ⟨0, Nat.zero_le _, rfl, rfl⟩
  case round =>
    obtain ⟨k, hk, rfl, rfl⟩ := hrel
    by_cases hlt : k < c
    · obtain ⟨b, off, rfl, hcell⟩ := Bits.unhide HCC k hlt
      have hr := Bits.unhide RI k hlt
      have gh := Bits.unhide GH k hlt
      have hs := Bits.lastI_succ L k
      generalize L.getD k 0 = z at *
      generalize Bits.lastI L k = q at *
      have GH2 := Bits.hide gh
      have HS := Bits.hide hs
      clear gh hs
      go_wp2_with fail
      refine (Bits.unhide GH2 _).mono ?_
      rintro e w' ⟨rfl, hw⟩
      rw [hw]
      clear hw w'
      go_wp2
      go_round
      case rel => exact ⟨k + 1, by omega, by go_num, by rw [Bits.unhide HS]⟩
      case measure => simp [intOf]; omega
    · have hkc : k = c := by omega
      subst hkc
      go_wp2_with fail
      refine (Bits.unhide CC _).mono ?_
      rintro e w' ⟨rfl, hw⟩
      rw [hw]
      clear hw w'
      go_wp2_with fail
      refine (Bits.known_any _).mono ?_
      rintro e w3 ⟨rfl, bel3⟩
      go_wp2
      go_ret
      exact ⟨rfl, (Bits.unhide B1).trans (bel3.mono (Bits.unhide B1).size)⟩

theorem door_met (os : Os) (args : Array Value) : laidMetH Tryd.prog Rows.bitsRiseRow.laid ((World.doorLaid Tryd.prog 14 os).forCall (fun _ _ => 0) ⟨#[], args, []⟩).memory :=
  laidMetH_of_parts3 (fuel := 8) (laidMet_of_run' 8 (by kernel_rfl) (by kernel_rfl)) (by kernel_rfl) (by kernel_rfl)
set_option maxRecDepth 100000 in
theorem lifted (os : Os) (started : os.Started) (H : Type) (enc : TypeId × Value → H) :
    ReturnsInHanded {} Tryd.checked os 7 .any (fun w args => (Rows.bitsRiseSpec.pre enc Tryd.prog Tryd.f7 [] false w args ∧ laidMetH Tryd.prog Rows.bitsRiseRow.laid w) ∧ sizedMet enc Tryd.prog Tryd.f7 (OpenSpec.ofChange Rows.bitsRiseSpec) false w args) (Rows.bitsRiseSpec.post enc Tryd.prog Tryd.f7 false true false false) := by
  refine returnsInHanded_of_change_and (C := Tryd.checked) (X := fun w _ => laidMetH Tryd.prog Rows.bitsRiseRow.laid w) (fun _ _ _ hh h => h.of_heap hh) own started (by kernel_rfl) Tryd.func7
    (ChangeSpec.witness_shaped (enc := enc) (C := Tryd.checked) (os := os) (X := fun w _ => laidMetH Tryd.prog Rows.bitsRiseRow.laid w) false (World.doorLaid Tryd.prog 14 os) #[.int .u64 0] 8 rfl (World.shaped_of_RefB (by kernel_rfl) (by kernel_rfl)) (by kernel_rfl) (by kernel_rfl) (by kernel_rfl) (door_met os _)) ?_
  intro W base args ds gs before hval0 hW _ _ hLH _
  have hval : ∀ (j : Nat) t v, Tryd.f7.params[j]? = some t → args[j]? = some v → Value.okWide Tryd.prog W .any base t v := hval0
  have hW' := hW
  obtain ⟨p, q, hA0, hV, rfl, hfz, hnd⟩ := hW
  have hA : DataW.TrodAll enc Tryd.prog W 0 (fun _ => true) true Tryd.f7.params.toList args.toList ds p := hA0
  rw [Tryd.params7] at hA hval
  obtain ⟨v0, vs0, d0, ds0, p0, q0, hargs, rfl, rfl, h0, r0⟩ := trodAll_cons hA
  obtain ⟨rfl, rfl, rfl⟩ := trodAll_nil r0
  obtain rfl : args = #[v0] := by cases args; simp_all
  obtain ⟨rfl, rfl⟩ := trodVars_none hV
  obtain ⟨a0, rfl, rfl, rfl, w0⟩ := open_int Tryd.underlying22 (hval 0 22 v0 rfl rfl) h0
  clear hA0 hval0
  simp only [List.append_nil] at hW'
  have hL : laidMet Tryd.prog Rows.bitsRiseRow.laid W := by rw [← MakeChecks.laidMetH_plain _ _ _ (by kernel_rfl)]; exact hLH
  have hT : Bits.Tab W := Bits.tab_of_laid (List.mem_cons_self ..) hL
  refine (walk a0 w0 W hT).mono fun e W' ⟨he, bel⟩ => ?_
  subst he
  exact ⟨_, rfl, _, _, _, [], [], [], hW', (trodAll_cons_mk (shut_bool Tryd.underlying4 _) trodAll_mk0), (trodAll_cons_mk (shut_int Tryd.underlying22 w0) trodAll_mk0), rfl, bel.frame _, fun h => by cases h⟩

theorem over : Rows.bitsRiseRow.holds Tryd.pinned (OpenSpec.ofChange Rows.bitsRiseSpec) :=
  OpenClaim.holds_of_wide 7 Tryd.f7 rfl rfl rfl rfl rfl rfl rfl ⟨rfl, rfl, rfl, rfl, rfl⟩ rfl rfl rfl rfl rfl (by kernel_rfl) Tryd.func7 (by kernel_rfl)
    (of_decide_eq_true (by kernel_rfl)) (by unfold Func.isWrapper; first | (rw [if_pos (by decide +kernel)]; kernel_rfl) | (rw [if_neg (by decide +kernel)]; exact ⟨rfl, rfl⟩))
    (fun os started H enc _ => lifted os started H enc)

theorem proved : Rows.BitsRiseCardSaid :=
  Claim7.holds_tied_plain_at .later [] [.data] true (true, "6a5ac1daff1658e9d6f45e0b87137a6df66b62600f6875e9654fae25a697464b") false
    over (fun _ h => by cases h) (by kernel_rfl) (fun _ h => by cases h) bitsRise_row_tie rfl ⟨rfl, rfl⟩ (by kernel_rfl) rfl
    (fun f fn hf hfn => by
      obtain rfl : f = 7 := Option.some.inj ((show Tryd.prog.funcNamed Rows.bitsRiseRow.func = some 7 by kernel_rfl).symm.trans hf) |>.symm
      obtain rfl : fn = Tryd.f7 := (Option.some.inj (Tryd.func7.symm.trans hfn)).symm
      exact ⟨by kernel_rfl, fun j t ht => by
        rw [Tryd.params7] at ht
        have hm : t ∈ [22] := by simpa using Array.mem_of_getElem? ht
        have hall : ([22].all fun u => !Tryd.prog.wantsStandIn u) = true := by kernel_rfl
        exact (show Tryd.prog.wantsStandIn t = false by simpa using List.all_eq_true.1 hall t hm)⟩)
    (by kernel_rfl)
#print axioms proved
end Go.Proofs.YtdnhcboeaionkaaDoor.bitsRise
