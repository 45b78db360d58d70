/- The law RespTells. -/
import Derived.Test.YtmnbnldldilniaaRespLaw
import Derived.Test.YtmnbnldldilniaaBlockRef
namespace Go.Proofs.Ytmnbnldldilniaa.Lex
open Go.ChangeShapes Go.WideShapes Go.RowKit

set_option maxHeartbeats 1600000 in
theorem rof12_any (s : SetV) (k : Nat) (w : World) (hs : SetIn w s) (ha : allB s = true) (hk : k < s.ts.length) : Calls Try.prog 13 #[s.val, .int .i64 k] w fun e w' => e = .returned (.tuple #[.int .i64 (withR s k (mostZ s k)), .int .i64 (withH s k (mostZ s k))]) ∧ Below w.heap.size w w' := by
  have hlen := hs.len
  have CM := hide (fun w h => rmost_any s k w h ha hk)
  have CW := hide (fun w h => rwith_any s k (mostZ s k) w h ha (by unfold I64; omega))
  have HIN := hide hs
  have hbox := sbox_new w s 24
  clear hs ha
  generalize withR s k (mostZ s k) = R1 at *
  generalize withH s k (mostZ s k) = H1 at *
  generalize mostZ s k = mz at *
  obtain ⟨rl, ao, cap, ts⟩ := s
  simp only at hbox hk hlen
  have B1 : Hid (Below w.heap.size w (w.alloc (.cells #[.int .i64 rl, .slice ao ts.length cap] 24))) := (Below.refl _ _).alloc (Nat.le_refl _) _
  go_enter Try.func13, Try.ntmps13
  rw [SetV.val]
  simp only
  have D0 := hide (unhide B1).drew
  go_wp2_with fail
  refine wp_region_held_drew (S := (fun w9 => SBox w9 w.heap.size ⟨rl, ao, cap, ts⟩)) (by kernel_rfl) (hbox.drew) (fun hHeld => ?_)
  refine take_yes 0 6 (.agg #[.int .i64 rl, .slice ao ts.length cap]) rfl rfl (by kernel_rfl) (by kernel_rfl) (by kernel_rfl) (fun _ _ _ h => h) rfl (by assumption) (by intro w9 hS9; obtain ⟨s0, s1⟩ := hS9; go_simp) ?_
  simp only [List.setIfInBounds_toArray, List.set_cons_zero, List.set_cons_succ]
  refine take_yes 1 7 (.int .i64 k) rfl rfl (by kernel_rfl) (by kernel_rfl) (by kernel_rfl) (fun _ _ _ h => h) rfl (by assumption) (by intro w9 hS9; obtain ⟨s0, s1⟩ := hS9; go_simp) ?_
  simp only [List.setIfInBounds_toArray, List.set_cons_zero, List.set_cons_succ]
  refine take_yes 2 8 (.agg #[.int .i64 rl, .slice ao ts.length cap]) rfl rfl (by kernel_rfl) (by kernel_rfl) (by kernel_rfl) (fun _ _ _ h => h) rfl (by assumption) (by intro w9 hS9; obtain ⟨s0, s1⟩ := hS9; go_simp) ?_
  simp only [List.setIfInBounds_toArray, List.set_cons_zero, List.set_cons_succ]
  refine take_yes 3 9 (.int .i64 k) rfl rfl (by kernel_rfl) (by kernel_rfl) (by kernel_rfl) (fun _ _ _ h => h) rfl (by assumption) (by intro w9 hS9; obtain ⟨s0, s1⟩ := hS9; go_simp) ?_
  simp only [List.setIfInBounds_toArray, List.set_cons_zero, List.set_cons_succ]
  refine wpAnyH_ready (rs := [4]) (by kernel_rfl) (by decide) (AllReadyH.cons rfl (fun K hK => ?_) AllReadyH.nil)
  refine (if_pos rfl).mpr ?_
  go_wp2_with fail
  refine (unhide CM (w.alloc (.cells #[.int .i64 rl, .slice ao ts.length cap] 24)).drew (set_bel (unhide HIN) (unhide D0))).mono ?_
  rintro e x1 ⟨rfl, bel⟩
  have N1 := hide (below_on (unhide D0) bel)
  refine hK.out _ _ (hHeld.bel bel) (fun hHeld => ?_)
  clear hK K bel
  refine wpAnyH_ready (rs := [5]) (by kernel_rfl) (by decide) (AllReadyH.cons rfl (fun K hK => ?_) AllReadyH.nil)
  refine (if_pos rfl).mpr ?_
  go_wp2_with fail
  refine (unhide CW x1 (set_bel (unhide HIN) (unhide N1))).mono ?_
  rintro e x2 ⟨rfl, bel⟩
  have N2 := hide (below_on (unhide N1) bel)
  refine hK.out _ _ (hHeld.bel bel) (fun hHeld => ?_)
  clear hK K bel
  refine take_yes 6 12 (.int .i64 R1) rfl rfl (by kernel_rfl) (by kernel_rfl) (by kernel_rfl) (fun _ _ _ h => h) rfl (by assumption) (by intro w9 hS9; obtain ⟨s0, s1⟩ := hS9; go_simp) ?_
  simp only [List.setIfInBounds_toArray, List.set_cons_zero, List.set_cons_succ]
  refine take_yes 7 13 (.int .i64 H1) rfl rfl (by kernel_rfl) (by kernel_rfl) (by kernel_rfl) (fun _ _ _ h => h) rfl (by assumption) (by intro w9 hS9; obtain ⟨s0, s1⟩ := hS9; go_simp) ?_
  simp only [List.setIfInBounds_toArray, List.set_cons_zero, List.set_cons_succ]
  refine take_yes 8 4 (.int .i64 R1) rfl rfl (by kernel_rfl) (by kernel_rfl) (by kernel_rfl) (fun _ _ _ h => h) rfl (by assumption) (by intro w9 hS9; obtain ⟨s0, s1⟩ := hS9; go_simp) ?_
  simp only [List.setIfInBounds_toArray, List.set_cons_zero, List.set_cons_succ]
  refine take_yes 9 5 (.int .i64 H1) rfl rfl (by kernel_rfl) (by kernel_rfl) (by kernel_rfl) (fun _ _ _ h => h) rfl (by assumption) (by intro w9 hS9; obtain ⟨s0, s1⟩ := hS9; go_simp) ?_
  simp only [List.setIfInBounds_toArray, List.set_cons_zero, List.set_cons_succ]
  refine wpAnyH_done (by kernel_rfl) ?_ _
  go_wp2
  go_ret2
  exact ⟨rfl, unhide N2⟩
theorem with_out {s : SetV} {i b : Int} (h : inI s i = false) : withR s i b = 0 ∧ withH s i b = 3 := by
  have hb : busyO s i b = none := by unfold busyO; rw [h]; rfl
  rw [withR, withH, hb]
  exact ⟨rfl, rfl⟩
set_option maxHeartbeats 1600000 in
theorem rtells_law (hW : CWith) (hO : CROf) (s : SetV) (i b : Int) (w : World) (hs : SetIn w s) (hi : I64 i) (hb0 : I64 b) : Calls Try.prog 3 #[s.val, .int .i64 i, .int .i64 b] w fun e w' => e = .returned (.bool true) ∧ Below w.heap.size w w' := by
  have hlen := hs.len
  have CK := hide (fun w => zknown_any hO w)
  have CM := hide (fun w h => rmay12_any s w h)
  have C1 := hide (fun hb w h => hW s i b w h hb hi hb0)
  have C2 := hide (fun hb w h => rwith_any s i b w h hb hi)
  have C3 := hide (fun hb w h => hO s i w h hb hi)
  have C4 := hide (fun hb (k : Nat) (e : i = k) hk w h => rof12_any s k w h hb hk)
  have HIN := hide hs
  have HBX := hide (sbox_new w s 24)
  clear hO hW hs hi hb0
  cases hin : inI s i
  · obtain ⟨z1, z2⟩ := with_out (b := b) hin
    rw [z1, z2] at C1
    have hout : i < 0 ∨ (s.ts.length : Int) ≤ i := by
      simp only [inI, Bool.and_eq_false_iff, decide_eq_false_iff_not] at hin
      omega
    clear hin z1 z2 C2 C3 C4
    obtain ⟨rl, ao, cap, ts⟩ := s
    simp only at hlen hout
    rcases hout with h0 | h0
    · go_enter Try.func3, Try.ntmps3
      rw [SetV.val]
      simp only
      go_wp2_with fail
      refine (unhide CM _ (set_bel (unhide HIN) ((Below.refl _ _).alloc (Nat.le_refl _) _))).mono ?_
      rintro e w1 ⟨o, rfl, ho, bel⟩
      have B1 := hide (bel_box (Below.refl _ _) bel)
      obtain ⟨c0, c1⟩ := (unhide HBX).bel bel
      have HO := hide ho
      clear bel ho
      cases o with
      | false =>
        go_wp2
        go_ret
        exact ⟨rfl, unhide B1⟩
      | true =>
        obtain ⟨ha, -⟩ := unhide HO rfl
        have HA := hide ha
        clear ha
        go_wp2_with fail
        refine (unhide C1 (unhide HA) _ (set_bel (unhide HIN) (unhide B1))).mono ?_
        rintro e w2 ⟨rfl, bel⟩
        have B2 := hide (below_on (unhide B1) bel)
        clear bel
        go_wp2_with fail
        refine (unhide CK _).mono ?_
        rintro e w3 ⟨rfl, bel⟩
        have B3 := hide (below_on (unhide B2) bel)
        clear bel
        go_wp2
        go_ret
        exact ⟨rfl, unhide B3⟩
    · have h1 : ¬ i < 0 := by omega
      go_enter Try.func3, Try.ntmps3
      rw [SetV.val]
      simp only
      go_wp2_with fail
      refine (unhide CM _ (set_bel (unhide HIN) ((Below.refl _ _).alloc (Nat.le_refl _) _))).mono ?_
      rintro e w1 ⟨o, rfl, ho, bel⟩
      have B1 := hide (bel_box (Below.refl _ _) bel)
      obtain ⟨c0, c1⟩ := (unhide HBX).bel bel
      have HO := hide ho
      clear bel ho
      cases o with
      | false =>
        go_wp2
        go_ret
        exact ⟨rfl, unhide B1⟩
      | true =>
        obtain ⟨ha, -⟩ := unhide HO rfl
        have HA := hide ha
        clear ha
        go_wp2_with fail
        refine (unhide C1 (unhide HA) _ (set_bel (unhide HIN) (unhide B1))).mono ?_
        rintro e w2 ⟨rfl, bel⟩
        have B2 := hide (below_on (unhide B1) bel)
        clear bel
        go_wp2_with fail
        refine (unhide CK _).mono ?_
        rintro e w3 ⟨rfl, bel⟩
        have B3 := hide (below_on (unhide B2) bel)
        clear bel
        go_wp2
        go_ret
        exact ⟨rfl, unhide B3⟩
  · obtain ⟨k, hik, hk⟩ : ∃ k : Nat, i = k ∧ k < s.ts.length := by
      simp only [inI, Bool.and_eq_true, decide_eq_true_eq] at hin
      exact ⟨i.toNat, by omega, by omega⟩
    subst hik
    have C5 := hide (fun hb w h => unhide C4 hb k rfl hk w h)
    clear hin C4
    generalize withR s k (mostZ s k) = R2 at *
    generalize withH s k (mostZ s k) = H2 at *
    generalize withR s k b = R1 at *
    generalize withH s k b = H1 at *
    obtain ⟨rl, ao, cap, ts⟩ := s
    simp only at hlen hk
    have h1 : ¬ (k : Int) < 0 := by omega
    have h2 : ¬ (ts.length : Int) ≤ (k : Int) := by omega
    go_enter Try.func3, Try.ntmps3
    rw [SetV.val]
    simp only
    go_wp2_with fail
    refine (unhide CM _ (set_bel (unhide HIN) ((Below.refl _ _).alloc (Nat.le_refl _) _))).mono ?_
    rintro e w1 ⟨o, rfl, ho, bel⟩
    have B1 := hide (bel_box (Below.refl _ _) bel)
    have X1 := hide ((unhide HBX).bel bel)
    obtain ⟨c0, c1⟩ := unhide X1
    have HO := hide ho
    clear bel ho
    cases o with
    | false =>
      go_wp2
      go_ret
      exact ⟨rfl, unhide B1⟩
    | true =>
      obtain ⟨ha, -⟩ := unhide HO rfl
      have HA := hide ha
      clear ha
      go_wp2_with fail
      refine (unhide C1 (unhide HA) _ (set_bel (unhide HIN) (unhide B1))).mono ?_
      rintro e w2 ⟨rfl, bel⟩
      have B2 := hide (below_on (unhide B1) bel)
      have X2 := hide ((unhide X1).bel bel)
      clear c0 c1 bel
      obtain ⟨c0, c1⟩ := unhide X2
      go_wp2_with fail
      refine (unhide C2 (unhide HA) _ (set_bel (unhide HIN) (unhide B2))).mono ?_
      rintro e w3 ⟨rfl, bel⟩
      have B3 := hide (below_on (unhide B2) bel)
      have X3 := hide ((unhide X2).bel bel)
      clear c0 c1 bel
      obtain ⟨c0, c1⟩ := unhide X3
      go_wp2_with fail
      refine (unhide C3 (unhide HA) _ (set_bel (unhide HIN) (unhide B3))).mono ?_
      rintro e w4 ⟨rfl, bel⟩
      have B4 := hide (below_on (unhide B3) bel)
      have X4 := hide ((unhide X3).bel bel)
      clear c0 c1 bel
      obtain ⟨c0, c1⟩ := unhide X4
      go_wp2_with fail
      refine (unhide C5 (unhide HA) _ (set_bel (unhide HIN) (unhide B4))).mono ?_
      rintro e w5 ⟨rfl, bel⟩
      have B5 := hide (below_on (unhide B4) bel)
      have X5 := hide ((unhide X4).bel bel)
      clear c0 c1 bel
      obtain ⟨c0, c1⟩ := unhide X5
      go_wp2_with fail
      refine (unhide CK _).mono ?_
      rintro e w6 ⟨rfl, bel⟩
      have B6 := hide (below_on (unhide B5) bel)
      clear bel
      go_wp2
      go_ret
      exact ⟨rfl, unhide B6⟩
end Go.Proofs.Ytmnbnldldilniaa.Lex
