/- The laws of chapter 11, over what package active answers: all that it tells; the sum. -/
import Derived.Test.YtmkcejkopmfnfaaActLaw2
namespace Go.Proofs.Ytmkcejkopmfnfaa.Lex
open Go.ChangeShapes Go.WideShapes Go.RowKit

theorem loadsI_ok {s : SetV} (ha : allB s = true) (hu : ∀ t ∈ s.ts, U64 t.ecb ∧ U64 t.ucb) (i : Int) : (∀ x ∈ loadsI s i, Fix.I64 x.T ∧ Fix.I64 x.C) ∧ (loadsI s i).length ≤ 10 := by
  rw [loadsI]
  split
  · rename_i hin
    simp only [inI, Bool.and_eq_true, decide_eq_true_eq] at hin
    have ok := loads_ok ha hu (show i.toNat < s.ts.length by omega)
    obtain ⟨-, h8, -, -⟩ := all_fits ha hu
    exact ⟨fun x hx => ok_i64 ok x (List.mem_append_left _ hx), by rw [loads_len]; omega⟩
  · exact ⟨fun x hx => (by cases hx), by simp⟩
set_option maxHeartbeats 3200000 in
theorem acttells_law (hL : CALoads) (hO : CAOf) (s : SetV) (i b : Int) (w : World) (hs : SetIn w s) (hi : I64 i) (hb0 : I64 b) : Calls Try.prog 3 #[s.val, .int .i64 i, .int .i64 b] w fun e w' => e = .returned (.bool true) ∧ Below w.heap.size w w' := by
  have hlen := hs.len
  have CK := hide (fun w => aknown_any hL hO w)
  by_cases h10 : (10 : Int) < s.ts.length
  · go_enter Try.func3, Try.ntmps3
    rw [SetV.val]
    go_wp2
    go_ret
    exact ⟨rfl, (Below.refl _ _).alloc (Nat.le_refl _) _⟩
  have CA := hide (fun w h => rall_any s w h)
  cases hb : allB s
  · rw [hb] at CA
    clear hb
    go_enter Try.func3, Try.ntmps3
    rw [SetV.val]
    go_wp2_with fail
    refine (unhide CA _ (set_bel hs ((Below.refl _ _).alloc (Nat.le_refl _) _))).mono ?_
    rintro e w1 ⟨rfl, bel⟩
    have B1 := hide (bel_box (Below.refl _ _) bel)
    obtain ⟨c0, c1⟩ := (sbox_new w s 24).bel bel
    clear bel
    go_wp2
    go_ret
    exact ⟨rfl, unhide B1⟩
  rw [hb] at CA
  have hu : ∀ t ∈ s.ts, U64 t.ecb ∧ U64 t.ucb := fun t ht => ⟨(hs.each t ht).ecb, (hs.each t ht).ucb⟩
  have C1 := hide (fun w h => hO s i b w h hb hi hb0)
  have C2 := hide (fun w h => rof_any s i b w h hb hi)
  have C3 := hide (fun w h => rloads_any s i w h hb hi)
  have C4 := hide (fun w h => hL s i w h hb hi)
  have HOK := hide (loadsI_ok hb hu i)
  have HNI : Hid ((i < 0 ∨ (s.ts.length : Int) ≤ i) → loadsI s i = []) := fun h => by
    rw [loadsI, if_neg (by simp only [inI, Bool.and_eq_true, decide_eq_true_eq]; omega)]
  have HIN := hide hs
  clear hO hL hb hu hs hb0 hi
  generalize loadsI s i = LI at *
  go_enter Try.func3, Try.ntmps3
  rw [SetV.val]
  go_wp2_with fail
  refine (unhide CA _ (set_bel (unhide HIN) ((Below.refl _ _).alloc (Nat.le_refl _) _))).mono ?_
  rintro e w1 ⟨rfl, bel⟩
  have B1 := hide (bel_box (Below.refl _ _) bel)
  have X1 := hide ((sbox_new w s 24).bel bel)
  obtain ⟨c0, c1⟩ := unhide X1
  clear bel
  go_wp2_with fail
  refine (unhide C1 _ (set_bel (unhide HIN) (unhide B1))).mono ?_
  rintro e w2 ⟨hp, bel⟩
  obtain ⟨r, rfl, hp', -⟩ := ofp_form hp
  have HP := hide hp'
  have B2 := hide (below_on (unhide B1) bel)
  have X2 := hide ((unhide X1).bel bel)
  clear bel c0 c1 hp hp'
  obtain ⟨c0, c1⟩ := unhide X2
  generalize Fix.valO r = vr at *
  generalize r.isSome = sr at *
  go_wp2_with fail
  refine (unhide C2 _ (set_bel (unhide HIN) (unhide B2))).mono ?_
  rintro e w3 ⟨hp, bel⟩
  obtain rfl := ofp_one hp (unhide HP)
  have B3 := hide (below_on (unhide B2) bel)
  have X3 := hide ((unhide X2).bel bel)
  clear bel c0 c1 hp HP
  obtain ⟨c0, c1⟩ := unhide X3
  by_cases hin : 0 ≤ i ∧ i < s.ts.length
  · obtain ⟨i0, i1⟩ := hin
    go_wp2_with fail
    refine (unhide C3 _ (set_bel (unhide HIN) (unhide B3))).mono ?_
    rintro e w4 ⟨v, rfl, ow, bel⟩
    obtain ⟨ao, cap, rfl, hla⟩ := Fix.loads_own ow (unhide HOK).1 (by have := (unhide HOK).2; omega)
    have HLA := hide hla
    have B4 := hide (below_on (unhide B3) bel)
    have X4 := hide ((unhide X3).bel bel)
    clear bel c0 c1 ow hla
    obtain ⟨c0, c1⟩ := unhide X4
    go_wp2_with fail
    refine (unhide C4 _ (set_bel (unhide HIN) (unhide B4))).mono ?_
    rintro e w5 ⟨ao', cap', rfl, hlb, bel⟩
    have HLB := hide hlb
    have HLC := hide ((unhide HLA).bel bel)
    have B5 := hide (below_on (unhide B4) bel)
    clear bel hlb c0 c1
    go_wp2_with fail
    refine (rloads_same ao' ao cap' cap LI w5 (unhide HLB) (unhide HLC)).mono ?_
    rintro e w6 ⟨rfl, bel⟩
    have B6 := hide (below_on (unhide B5) bel)
    clear bel
    go_wp2_with fail
    refine (unhide CK _).mono ?_
    rintro e w7 ⟨rfl, bel⟩
    have B7 := hide (below_on (unhide B6) bel)
    clear bel
    go_wp2
    go_ret
    exact ⟨rfl, unhide B7⟩
  · have hnil := unhide HNI (by omega)
    have HLA : Hid (Fix.LoadsIn w3 none LI) := by rw [hnil]; exact ⟨fun h => absurd rfl h, by simp, fun x hx => by cases hx⟩
    have B4 := hide (unhide B3)
    have X4 := hide (unhide X3)
    have hl0 : LI.length = 0 := by rw [hnil]; rfl
    have CS0 := hide (fun a1 c1 w h1 h2 => rloads_same a1 none c1 0 LI w h1 h2)
    rw [hl0] at CS0
    have C4' := C4
    rw [hl0] at C4'
    clear hnil hl0 C4
    by_cases i0 : 0 ≤ i
    · have i1 : ¬ i < s.ts.length := fun h => hin ⟨i0, h⟩
      clear hin
      go_wp2_with fail
      refine (unhide C4' _ (set_bel (unhide HIN) (unhide B4))).mono ?_
      rintro e w5 ⟨ao', cap', rfl, hlb, bel⟩
      have HLB := hide hlb
      have HLC := hide ((unhide HLA).bel bel)
      have B5 := hide (below_on (unhide B4) bel)
      clear bel hlb c0 c1
      go_wp2_with fail
      refine (unhide CS0 ao' cap' w5 (unhide HLB) (unhide HLC)).mono ?_
      rintro e w6 ⟨rfl, bel⟩
      have B6 := hide (below_on (unhide B5) bel)
      clear bel
      go_wp2_with fail
      refine (unhide CK _).mono ?_
      rintro e w7 ⟨rfl, bel⟩
      have B7 := hide (below_on (unhide B6) bel)
      clear bel
      go_wp2
      go_ret
      exact ⟨rfl, unhide B7⟩
    · clear hin
      go_wp2_with fail
      refine (unhide C4' _ (set_bel (unhide HIN) (unhide B4))).mono ?_
      rintro e w5 ⟨ao', cap', rfl, hlb, bel⟩
      have HLB := hide hlb
      have HLC := hide ((unhide HLA).bel bel)
      have B5 := hide (below_on (unhide B4) bel)
      clear bel hlb c0 c1
      go_wp2_with fail
      refine (unhide CS0 ao' cap' w5 (unhide HLB) (unhide HLC)).mono ?_
      rintro e w6 ⟨rfl, bel⟩
      have B6 := hide (below_on (unhide B5) bel)
      clear bel
      go_wp2_with fail
      refine (unhide CK _).mono ?_
      rintro e w7 ⟨rfl, bel⟩
      have B7 := hide (below_on (unhide B6) bel)
      clear bel
      go_wp2
      go_ret
      exact ⟨rfl, unhide B7⟩
end Go.Proofs.Ytmkcejkopmfnfaa.Lex
