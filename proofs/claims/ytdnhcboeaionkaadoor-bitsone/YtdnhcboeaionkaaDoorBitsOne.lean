/- For every number, the law of the number alone answers true. -/
import Derived.Test.YtdnhcboeaionkaaDoorRows
import Derived.WalkKit
import Derived.ProofKit
import Derived.OpenShut
import Derived.ShutString
import Derived.Test.YtdnhcboeaionkaaDoorTie
import Derived.Test.YtdnhcboeaionkaaDoorCards
import Derived.Test.YtdnhcboeaionkaaDoorBitsMath
import Derived.Test.YtdnhcboeaionkaaDoorBits
import Derived.Test.YtdnhcboeaionkaaDoorBitsList
import Derived.Test.YtdnhcboeaionkaaDoorBitsLaid
import Derived.LaidMore
import Derived.SevenTiedAt
import Derived.MakeChecks
import Derived.LaidHandle
import Derived.LaidLaws
import Derived.Below
import Derived.ChangeOld
namespace Go.Proofs.YtdnhcboeaionkaaDoor.bitsOne
open Go.ChangeShapes Go.WideShapes Go.ChangeAt Go.RowKit
open Go.ChangeMaps (open_string shut_string)
set_option linter.unusedVariables false

theorem own : ownKnob Tryd.prog.godebug = none := by kernel_rfl

theorem walk (a0 : Int) (w0 : (Lit.int .i64 a0).wf = true) (w : World) (hT : Bits.Tab w) :
    Calls Tryd.prog 6 #[.int .i64 a0] w fun e w' => e = .returned (.bool true) ∧ Below w.heap.size w w' := by
  by_cases hin : 0 ≤ a0 ∧ a0 < 64
  · obtain ⟨k, rfl⟩ := Int.eq_ofNat_of_zero_le hin.1
    have hk : k < 64 := by omega
    have hlt : 2 ^ k < 2 ^ 64 := Nat.pow_lt_pow_right (by decide) hk
    have hpos : 0 < 2 ^ k := Nat.two_pow_pos k
    have ho : Bits.ofN [(k : Int)] = 2 ^ k := by rw [Bits.ofN_one, if_pos hin, Int.toNat_natCast]
    have hsh : IntKind.u64.wrap ((2 : Int) ^ k) = ((2 ^ k : Nat) : Int) := by
      rw [IntKind.wrap_u64, show ((2 : Int) ^ k) = ((2 ^ k : Nat) : Int) from by simp]
      omega
    have ll := fun w hT => Bits.least_any ((2 ^ k : Nat) : Int) w (by omega) (by omega) (fun _ => hT)
    have hlv : Bits.leastV ((2 ^ k : Nat) : Int) = (k : Int) := by
      rw [Bits.leastV, if_neg (by omega), Int.toNat_natCast, Bits.ctz_two_pow k hk]
    have hnz : (((2 ^ k : Nat) : Int) != 0) = true := by rw [bne_iff_ne]; omega
    rw [hlv, hnz] at ll
    have cc := fun w => Bits.cnt_any ((2 ^ k : Nat) : Int) w (by omega) (by omega)
    rw [Int.toNat_natCast, Bits.pc_two_pow 64 k hk] at cc
    have gh := fun w => Bits.has_any ((2 ^ k : Nat) : Int) (k : Int) w (by omega) (by omega)
    rw [Int.toNat_natCast, Bits.has_two_pow k hk] at gh
    clear hlv hnz
    generalize 2 ^ k = p at *
    have OO := Bits.hide ho
    have LL := Bits.hide ll
    have CC := Bits.hide cc
    have GH := Bits.hide gh
    have HT := Bits.hide hT
    clear ho ll cc gh hT w0
    obtain ⟨h0, h1⟩ := hin
    go_enter Tryd.func6, Tryd.ntmps6
    go_wp2_with fail
    refine (Bits.of_any _ [(k : Int)] _ (by simp [maxLen]) ⟨_, _, rfl, fun _ => ⟨w.heap.size, 0, rfl, fun j hj => ?_⟩⟩).mono ?_
    · match j, hj with
      | 0, _ => simp
    rintro e w' ⟨rfl, hw⟩
    rw [hw, Bits.unhide OO]
    clear hw w'
    have hb : Below w.heap.size w (w.alloc (.cells #[.int .i64 (k : Int)] 3)) := (Below.refl _ _).alloc (Nat.le_refl _) _
    have T1 := Bits.hide ((Bits.unhide HT).below hb)
    have HB := Bits.hide hb
    clear hb
    go_wp2_with fail
    refine (Bits.unhide LL _ (Bits.unhide T1)).mono ?_
    rintro e w' ⟨rfl, hw⟩
    rw [hw]
    clear hw w'
    go_wp2_with fail
    refine (Bits.unhide CC _).mono ?_
    rintro e w' ⟨rfl, hw⟩
    rw [hw]
    clear hw w'
    go_wp2_with fail
    refine (Bits.unhide GH _).mono ?_
    rintro e w' ⟨rfl, hw⟩
    rw [hw]
    clear hw w'
    go_wp2_with fail
    refine (Bits.known_any _).mono ?_
    rintro e w3 ⟨rfl, bel3⟩
    go_wp2
    go_ret
    exact ⟨rfl, (Bits.unhide HB).trans (bel3.mono (Bits.unhide HB).size)⟩
  · have ho : Bits.ofN [a0] = 0 := by rw [Bits.ofN_one, if_neg hin]
    have gh := fun w => Bits.has_any 9223372036854775809 a0 w (by decide) (by decide)
    rw [Bits.has_no _ (Bits.isB_no (i := a0) (by omega))] at gh
    have OO := Bits.hide ho
    have GH := Bits.hide gh
    clear ho gh hT w0
    by_cases h0 : 0 ≤ a0
    · have h1 : 63 < a0 := by omega
      clear hin
      go_enter Tryd.func6, Tryd.ntmps6
      go_wp2_with fail
      refine (Bits.of_any _ [a0] _ (by simp [maxLen]) ⟨_, _, rfl, fun _ => ⟨w.heap.size, 0, rfl, fun j hj => ?_⟩⟩).mono ?_
      · match j, hj with
        | 0, _ => simp
      rintro e w' ⟨rfl, hw⟩
      rw [hw, Bits.unhide OO]
      clear hw w'
      have hb : Below w.heap.size w (w.alloc (.cells #[.int .i64 a0] 3)) := (Below.refl _ _).alloc (Nat.le_refl _) _
      have HB := Bits.hide hb
      clear hb
      go_wp2_with fail
      refine (Bits.unhide GH _).mono ?_
      rintro e w' ⟨rfl, hw⟩
      rw [hw]
      clear hw w'
      go_wp2_with fail
      refine (Bits.known_any _).mono ?_
      rintro e w3 ⟨rfl, bel3⟩
      go_wp2
      go_ret
      exact ⟨rfl, (Bits.unhide HB).trans (bel3.mono (Bits.unhide HB).size)⟩
    · clear hin
      go_enter Tryd.func6, Tryd.ntmps6
      go_wp2_with fail
      refine (Bits.of_any _ [a0] _ (by simp [maxLen]) ⟨_, _, rfl, fun _ => ⟨w.heap.size, 0, rfl, fun j hj => ?_⟩⟩).mono ?_
      · match j, hj with
        | 0, _ => simp
      rintro e w' ⟨rfl, hw⟩
      rw [hw, Bits.unhide OO]
      clear hw w'
      have hb : Below w.heap.size w (w.alloc (.cells #[.int .i64 a0] 3)) := (Below.refl _ _).alloc (Nat.le_refl _) _
      have HB := Bits.hide hb
      clear hb
      go_wp2_with fail
      refine (Bits.unhide GH _).mono ?_
      rintro e w' ⟨rfl, hw⟩
      rw [hw]
      clear hw w'
      go_wp2_with fail
      refine (Bits.known_any _).mono ?_
      rintro e w3 ⟨rfl, bel3⟩
      go_wp2
      go_ret
      exact ⟨rfl, (Bits.unhide HB).trans (bel3.mono (Bits.unhide HB).size)⟩

theorem door_met (os : Os) (args : Array Value) : laidMetH Tryd.prog Rows.bitsOneRow.laid ((World.doorLaid Tryd.prog 14 os).forCall (fun _ _ => 0) ⟨#[], args, []⟩).memory :=
  laidMetH_of_parts3 (fuel := 8) (laidMet_of_run' 8 (by kernel_rfl) (by kernel_rfl)) (by kernel_rfl) (by kernel_rfl)
set_option maxRecDepth 100000 in
theorem lifted (os : Os) (started : os.Started) (H : Type) (enc : TypeId × Value → H) :
    ReturnsInHanded {} Tryd.checked os 6 .any (fun w args => (Rows.bitsOneSpec.pre enc Tryd.prog Tryd.f6 [] false w args ∧ laidMetH Tryd.prog Rows.bitsOneRow.laid w) ∧ sizedMet enc Tryd.prog Tryd.f6 (OpenSpec.ofChange Rows.bitsOneSpec) false w args) (Rows.bitsOneSpec.post enc Tryd.prog Tryd.f6 false true false false) := by
  refine returnsInHanded_of_change_and (C := Tryd.checked) (X := fun w _ => laidMetH Tryd.prog Rows.bitsOneRow.laid w) (fun _ _ _ hh h => h.of_heap hh) own started (by kernel_rfl) Tryd.func6
    (ChangeSpec.witness_shaped (enc := enc) (C := Tryd.checked) (os := os) (X := fun w _ => laidMetH Tryd.prog Rows.bitsOneRow.laid w) false (World.doorLaid Tryd.prog 14 os) #[.int .i64 0] 8 rfl (World.shaped_of_RefB (by kernel_rfl) (by kernel_rfl)) (by kernel_rfl) (by kernel_rfl) (by kernel_rfl) (door_met os _)) ?_
  intro W base args ds gs before hval0 hW _ _ hLH _
  have hval : ∀ (j : Nat) t v, Tryd.f6.params[j]? = some t → args[j]? = some v → Value.okWide Tryd.prog W .any base t v := hval0
  have hW' := hW
  obtain ⟨p, q, hA0, hV, rfl, hfz, hnd⟩ := hW
  have hA : DataW.TrodAll enc Tryd.prog W 0 (fun _ => true) true Tryd.f6.params.toList args.toList ds p := hA0
  rw [Tryd.params6] at hA hval
  obtain ⟨v0, vs0, d0, ds0, p0, q0, hargs, rfl, rfl, h0, r0⟩ := trodAll_cons hA
  obtain ⟨rfl, rfl, rfl⟩ := trodAll_nil r0
  obtain rfl : args = #[v0] := by cases args; simp_all
  obtain ⟨rfl, rfl⟩ := trodVars_none hV
  obtain ⟨a0, rfl, rfl, rfl, w0⟩ := open_int Tryd.underlying3 (hval 0 3 v0 rfl rfl) h0
  clear hA0 hval0
  simp only [List.append_nil] at hW'
  have hL : laidMet Tryd.prog Rows.bitsOneRow.laid W := by rw [← MakeChecks.laidMetH_plain _ _ _ (by kernel_rfl)]; exact hLH
  have hT : Bits.Tab W := Bits.tab_of_laid (List.mem_cons_self ..) hL
  refine (walk a0 w0 W hT).mono fun e W' ⟨he, bel⟩ => ?_
  subst he
  exact ⟨_, rfl, _, _, _, [], [], [], hW', (trodAll_cons_mk (shut_bool Tryd.underlying4 _) trodAll_mk0), (trodAll_cons_mk (shut_int Tryd.underlying3 w0) trodAll_mk0), rfl, bel.frame _, fun h => by cases h⟩

theorem over : Rows.bitsOneRow.holds Tryd.pinned (OpenSpec.ofChange Rows.bitsOneSpec) :=
  OpenClaim.holds_of_wide 6 Tryd.f6 rfl rfl rfl rfl rfl rfl rfl ⟨rfl, rfl, rfl, rfl, rfl⟩ rfl rfl rfl rfl rfl (by kernel_rfl) Tryd.func6 (by kernel_rfl)
    (of_decide_eq_true (by kernel_rfl)) (by unfold Func.isWrapper; first | (rw [if_pos (by decide +kernel)]; kernel_rfl) | (rw [if_neg (by decide +kernel)]; exact ⟨rfl, rfl⟩))
    (fun os started H enc _ => lifted os started H enc)

theorem proved : Rows.BitsOneCardSaid :=
  Claim7.holds_tied_plain_at .later [] [.data] true (true, "6a5ac1daff1658e9d6f45e0b87137a6df66b62600f6875e9654fae25a697464b") false
    over (fun _ h => by cases h) (by kernel_rfl) (fun _ h => by cases h) bitsOne_row_tie rfl ⟨rfl, rfl⟩ (by kernel_rfl) rfl
    (fun f fn hf hfn => by
      obtain rfl : f = 6 := Option.some.inj ((show Tryd.prog.funcNamed Rows.bitsOneRow.func = some 6 by kernel_rfl).symm.trans hf) |>.symm
      obtain rfl : fn = Tryd.f6 := (Option.some.inj (Tryd.func6.symm.trans hfn)).symm
      exact ⟨by kernel_rfl, fun j t ht => by
        rw [Tryd.params6] at ht
        have hm : t ∈ [3] := by simpa using Array.mem_of_getElem? ht
        have hall : ([3].all fun u => !Tryd.prog.wantsStandIn u) = true := by kernel_rfl
        exact (show Tryd.prog.wantsStandIn t = false by simpa using List.all_eq_true.1 hall t hm)⟩)
    (by kernel_rfl)
#print axioms proved
end Go.Proofs.YtdnhcboeaionkaaDoor.bitsOne
