/- The laws of chapter 9, over what package block answers: a task's regions. -/
import Derived.Test.YthlkfjcgckpheaaBlockLaw
namespace Go.Proofs.Ythlkfjcgckpheaa.Lex
open Go.ChangeShapes Go.WideShapes Go.RowKit

theorem of_fixed {s : SetV} {k : Nat} (hk : k < s.ts.length) (hm : (s.ts.getD k task0).mode = 0) {high : Int} (h : 0 ≤ high ∧ high < k) : ofZ s k high = longZ (s.ts.getD k task0).regs + ownZ s k - 1 := by
  rw [ofZ, if_pos ⟨h.1, h.2, by omega⟩]
  show wayZ (s.ts.getD k task0) _ _ = _
  rw [wayZ, if_pos hm]
theorem and_small (q : Int) : ∃ m : Nat, bits .and .i64 q 65535 = (m : Int) := by
  have h2 : (BitVec.ofInt 64 (65535 : Int)).toNat = 65535 := by decide
  have h3 : (BitVec.ofInt 64 q).toNat &&& 65535 = (BitVec.ofInt 64 q).toNat % 65536 := Nat.and_two_pow_sub_one_eq_mod _ 16
  refine ⟨(BitVec.ofInt 64 q).toNat % 65536, ?_⟩
  show IntKind.i64.wrap ((BitVec.ofInt 64 q &&& BitVec.ofInt 64 (65535 : Int)).toNat : Int) = _
  rw [BitVec.toNat_and, h2, h3]
  exact i64_is _ (by omega)
theorem of_self (s : SetV) (k : Int) : ofZ s k k = 0 := by rw [ofZ, if_neg (by omega)]
set_option maxHeartbeats 3200000 in
theorem bregions_law (hO : CBOf) (hM : CBMost) (s : SetV) (low q : Int) (w : World) (hs : SetIn w s) (hl : I64 low) (_ : I64 q) : Calls Try.prog 5 #[s.val, .int .i64 low, .int .i64 q] w fun e w' => e = .returned (.bool true) ∧ Below w.heap.size w w' := by
  have hlen := hs.len
  have CK := hide (fun w => bknown_any hO hM w)
  by_cases h10 : (10 : Int) < s.ts.length
  · go_enter Try.func5, Try.ntmps5
    rw [SetV.val]
    go_wp2
    go_ret
    exact ⟨rfl, (Below.refl _ _).alloc (Nat.le_refl _) _⟩
  have CA := hide (fun w h => rall_any s w h)
  cases hb : allB s
  · rw [hb] at CA
    clear hb
    go_enter Try.func5, Try.ntmps5
    rw [SetV.val]
    go_wp2_with fail
    refine (unhide CA _ (set_bel hs ((Below.refl _ _).alloc (Nat.le_refl _) _))).mono ?_
    rintro e w1 ⟨rfl, bel⟩
    have B1 := hide (bel_box (Below.refl _ _) bel)
    obtain ⟨c0, c1⟩ := (sbox_new w s 24).bel bel
    clear bel
    go_wp2
    go_ret
    exact ⟨rfl, unhide B1⟩
  rw [hb] at CA
  by_cases q0 : low < 1
  · clear hb
    go_enter Try.func5, Try.ntmps5
    rw [SetV.val]
    go_wp2_with fail
    refine (unhide CA _ (set_bel hs ((Below.refl _ _).alloc (Nat.le_refl _) _))).mono ?_
    rintro e w1 ⟨rfl, bel⟩
    have B1 := hide (bel_box (Below.refl _ _) bel)
    obtain ⟨c0, c1⟩ := (sbox_new w s 24).bel bel
    clear bel
    go_wp2
    go_ret
    exact ⟨rfl, unhide B1⟩
  by_cases q1 : (s.ts.length : Int) ≤ low
  · clear hb
    go_enter Try.func5, Try.ntmps5
    rw [SetV.val]
    go_wp2_with fail
    refine (unhide CA _ (set_bel hs ((Below.refl _ _).alloc (Nat.le_refl _) _))).mono ?_
    rintro e w1 ⟨rfl, bel⟩
    have B1 := hide (bel_box (Below.refl _ _) bel)
    obtain ⟨c0, c1⟩ := (sbox_new w s 24).bel bel
    clear bel
    go_wp2
    go_ret
    exact ⟨rfl, unhide B1⟩
  have hu : ∀ t ∈ s.ts, U64 t.ecb ∧ U64 t.ucb := fun t ht => ⟨(hs.each t ht).ecb, (hs.each t ht).ucb⟩
  obtain ⟨hr, h8, -, hfit⟩ := all_fits hb hu
  obtain ⟨k, rfl⟩ : ∃ k : Nat, low = k := ⟨low.toNat, by omega⟩
  have hk : k < s.ts.length := by omega
  have hne : s.ts ≠ [] := fun e => by rw [e] at hk; simp at hk
  obtain ⟨b, off, hao, ht⟩ := set_task hs hne
  obtain ⟨hrow, hin⟩ := ht k hk
  have HIN := hide hs
  have CO0 := hide (fun w h => hO s k 0 w h hb hl (by simp [I64]))
  have CO1 := hide (fun w h => hO s k ((k : Int) - 1) w h hb hl (by unfold I64; omega))
  have CO2 := hide (fun w h => hO s k k w h hb hl hl)
  have CW := hide (fun w h => rown_any s k w h hr)
  have hor := own_range hr (k : Int)
  obtain ⟨-, hr1, hr8, hre, -, -⟩ := fits_parts (hfit k hk).is
  have HF := hide (fun hm high h => of_fixed (s := s) hk hm (high := high) h)
  have HLG := hide (long_from (s.ts.getD k task0).regs 0).2
  rw [of_self] at CO2
  have HROW := hide hrow
  have HREG := hide hin.regs
  have HRE := hide hre
  clear hb hu hO hM hfit hr ht hrow hin hre hs hne
  have hbox := hide (sbox_new w s 24)
  generalize ownZ s k = ow at *
  obtain ⟨rl, ao, cap, ts⟩ := s
  simp only at hao hk hlen hbox HROW HREG HRE HF HLG hr1 hr8 h10 q1 h8
  subst hao
  generalize ts.getD k task0 = t at *
  by_cases hm : t.mode = 0
  · have hv0 := unhide HF hm 0 ⟨by omega, by omega⟩
    have hv1 := unhide HF hm ((k : Int) - 1) ⟨by omega, by omega⟩
    rw [hv0] at CO0
    rw [hv1] at CO1
    clear hv0 hv1 HF
    obtain ⟨name, T, D, mode, Q, theta, ao, tcap, ecb, ucb, l⟩ := t
    simp only at hm HREG HRE HLG hr1 hr8 CO0 CO1
    subst hm
    have hne : l ≠ [] := fun e => by rw [e] at hr1; simp at hr1
    obtain ⟨rb, ro, hao, hcc⟩ := unhide HREG hne
    subst hao
    obtain ⟨m, hand⟩ := and_small q
    obtain ⟨j, hj⟩ : ∃ j : Nat, j = m % l.length := ⟨_, rfl⟩
    have hjl : j < l.length := by rw [hj]; exact Nat.mod_lt _ (by omega)
    have htm : (m : Int).tmod (l.length : Int) = (j : Int) := by rw [hj]; exact (Int.ofNat_tmod m l.length).symm
    have hc := hcc j hjl
    have hle := unhide HLG _ (getD_mem hjl)
    have hlj := unhide HRE _ (getD_mem hjl)
    have hlg : longZ l = l.foldl max 0 := rfl
    rw [← hlg] at hle
    have hwl := (work_pos hr1 (unhide HRE)).2
    have hwb := work_bound l (unhide HRE)
    clear hj hcc HLG HRE HREG hlg
    generalize longZ l = lg at *
    generalize workZ l = wl at *
    generalize l.getD j 0 = lj at *
    have e1 : IntKind.i64.wrap (lj + ow) = lj + ow := i64_is _ (by omega)
    have e2 : IntKind.i64.wrap (lj + ow - 1) = lj + ow - 1 := i64_is _ (by omega)
    have e3 : IntKind.i64.wrap ((k : Int) - 1) = (k : Int) - 1 := i64_is _ (by omega)
    have hge : lj + ow - 1 ≤ lg + ow - 1 := by omega
    go_enter Try.func5, Try.ntmps5
    rw [SetV.val]
    simp only
    go_wp2_with fail
    refine (unhide CA _ (set_bel (unhide HIN) ((Below.refl _ _).alloc (Nat.le_refl _) _))).mono ?_
    rintro e w1 ⟨rfl, bel⟩
    have B1 := hide (bel_box (Below.refl _ _) bel)
    have X1 := hide ((unhide hbox).bel bel)
    obtain ⟨c0, c1⟩ := unhide X1
    obtain ⟨t0, t1, t2, t3, t4, t5, t6, t7, t8⟩ := (unhide HROW).bel (unhide B1)
    simp only at t0 t1 t2 t3 t4 t5 t6 t7 t8 c0 c1
    have hc1 := cell_bel' hc (unhide B1)
    clear bel hc
    have D0 := hide (unhide B1).drew
    go_wp2_with fail
    refine wp_region_held_drew (S := (fun w9 => SBox w9 w.heap.size ⟨rl, some ⟨b, off, none⟩, cap, ts⟩ ∧ w9.cell? ⟨rb, ro + j, none⟩ = some (.int .i64 lj))) (by kernel_rfl) (⟨(unhide X1).drew, cell_bel' hc1 (Below.refl _ _).drew⟩) (fun hHeld => ?_)
    refine take_yes 0 49 (.agg #[.int .i64 rl, .slice (some ⟨b, off, none⟩) ts.length cap]) rfl rfl (by kernel_rfl) (by kernel_rfl) (by kernel_rfl) (fun _ _ _ h => h) rfl (by assumption) (by intro w9 hS9; obtain ⟨⟨s0, s1⟩, s2⟩ := hS9; go_simp) ?_
    simp only [List.setIfInBounds_toArray, List.set_cons_zero, List.set_cons_succ]
    refine take_yes 1 50 (.int .i64 k) rfl rfl (by kernel_rfl) (by kernel_rfl) (by kernel_rfl) (fun _ _ _ h => h) rfl (by assumption) (by intro w9 hS9; obtain ⟨⟨s0, s1⟩, s2⟩ := hS9; go_simp) ?_
    simp only [List.setIfInBounds_toArray, List.set_cons_zero, List.set_cons_succ]
    refine take_yes 3 52 (.slice (some ⟨rb, ro, none⟩) l.length tcap) rfl rfl (by kernel_rfl) (by kernel_rfl) (by kernel_rfl) (fun _ _ _ h => h) rfl (by assumption) (by intro w9 hS9; obtain ⟨⟨s0, s1⟩, s2⟩ := hS9; go_simp) ?_
    simp only [List.setIfInBounds_toArray, List.set_cons_zero, List.set_cons_succ]
    refine take_yes 4 53 (.int .i64 j) rfl rfl (by kernel_rfl) (by kernel_rfl) (by kernel_rfl) (fun _ _ _ h => h) rfl (by assumption) (by intro w9 hS9; obtain ⟨⟨s0, s1⟩, s2⟩ := hS9; go_simp) ?_
    simp only [List.setIfInBounds_toArray, List.set_cons_zero, List.set_cons_succ]
    refine take_yes 5 54 (.pointer (some ⟨rb, ro + j, none⟩)) rfl rfl (by kernel_rfl) (by kernel_rfl) (by kernel_rfl) (fun _ _ _ h => h) rfl (by assumption) (by intro w9 hS9; obtain ⟨⟨s0, s1⟩, s2⟩ := hS9; go_simp) ?_
    simp only [List.setIfInBounds_toArray, List.set_cons_zero, List.set_cons_succ]
    refine take_yes 6 55 (.int .i64 lj) rfl rfl (by kernel_rfl) (by kernel_rfl) (by kernel_rfl) (fun _ _ _ h => h) rfl (by assumption) (by intro w9 hS9; obtain ⟨⟨s0, s1⟩, s2⟩ := hS9; go_simp) ?_
    simp only [List.setIfInBounds_toArray, List.set_cons_zero, List.set_cons_succ]
    refine take_yes 7 56 (.agg #[.int .i64 rl, .slice (some ⟨b, off, none⟩) ts.length cap]) rfl rfl (by kernel_rfl) (by kernel_rfl) (by kernel_rfl) (fun _ _ _ h => h) rfl (by assumption) (by intro w9 hS9; obtain ⟨⟨s0, s1⟩, s2⟩ := hS9; go_simp) ?_
    simp only [List.setIfInBounds_toArray, List.set_cons_zero, List.set_cons_succ]
    refine take_yes 8 57 (.int .i64 k) rfl rfl (by kernel_rfl) (by kernel_rfl) (by kernel_rfl) (fun _ _ _ h => h) rfl (by assumption) (by intro w9 hS9; obtain ⟨⟨s0, s1⟩, s2⟩ := hS9; go_simp) ?_
    simp only [List.setIfInBounds_toArray, List.set_cons_zero, List.set_cons_succ]
    refine wpAnyH_ready (rs := [2]) (by kernel_rfl) (by decide) (AllReadyH.cons rfl (fun K hK => ?_) AllReadyH.nil)
    refine (if_pos rfl).mpr ?_
    go_wp2_with fail
    refine (unhide CO0 w1.drew (set_bel (unhide HIN) (unhide D0))).mono ?_
    rintro e x1 ⟨rfl, bel⟩
    have N1 := hide (below_on (unhide D0) bel)
    refine hK.out _ _ (⟨hHeld.1.bel bel, cell_bel' hHeld.2 bel⟩) (fun hHeld => ?_)
    clear hK K bel
    refine wpAnyH_ready (rs := [9]) (by kernel_rfl) (by decide) (AllReadyH.cons rfl (fun K hK => ?_) AllReadyH.nil)
    refine (if_pos rfl).mpr ?_
    go_wp2_with fail
    refine (unhide CW x1 (set_bel (unhide HIN) (unhide N1))).mono ?_
    rintro e x2 ⟨rfl, bel⟩
    have N2 := hide (below_on (unhide N1) bel)
    refine hK.out _ _ (⟨hHeld.1.bel bel, cell_bel' hHeld.2 bel⟩) (fun hHeld => ?_)
    clear hK K bel
    refine take_yes 10 59 (.int .i64 (lj + ow)) rfl rfl (by kernel_rfl) (by kernel_rfl) (by kernel_rfl) (fun _ _ _ h => h) rfl (by assumption) (by intro w9 hS9; obtain ⟨⟨s0, s1⟩, s2⟩ := hS9; go_simp) ?_
    simp only [List.setIfInBounds_toArray, List.set_cons_zero, List.set_cons_succ]
    refine take_yes 11 60 (.int .i64 (lj + ow - 1)) rfl rfl (by kernel_rfl) (by kernel_rfl) (by kernel_rfl) (fun _ _ _ h => h) rfl (by assumption) (by intro w9 hS9; obtain ⟨⟨s0, s1⟩, s2⟩ := hS9; go_simp) ?_
    simp only [List.setIfInBounds_toArray, List.set_cons_zero, List.set_cons_succ]
    refine take_yes 12 61 (.bool true) rfl rfl (by kernel_rfl) (by kernel_rfl) (by kernel_rfl) (fun _ _ _ h => h) rfl (by assumption) (by intro w9 hS9; obtain ⟨⟨s0, s1⟩, s2⟩ := hS9; go_simp) ?_
    simp only [List.setIfInBounds_toArray, List.set_cons_zero, List.set_cons_succ]
    refine take_yes 13 62 (.bool true) rfl rfl (by kernel_rfl) (by kernel_rfl) (by kernel_rfl) (fun _ _ _ h => h) rfl (by assumption) (by intro w9 hS9; obtain ⟨⟨s0, s1⟩, s2⟩ := hS9; go_simp) ?_
    simp only [List.setIfInBounds_toArray, List.set_cons_zero, List.set_cons_succ]
    refine take_yes 14 63 (.agg #[.int .i64 rl, .slice (some ⟨b, off, none⟩) ts.length cap]) rfl rfl (by kernel_rfl) (by kernel_rfl) (by kernel_rfl) (fun _ _ _ h => h) rfl (by assumption) (by intro w9 hS9; obtain ⟨⟨s0, s1⟩, s2⟩ := hS9; go_simp) ?_
    simp only [List.setIfInBounds_toArray, List.set_cons_zero, List.set_cons_succ]
    refine take_yes 15 64 (.int .i64 k) rfl rfl (by kernel_rfl) (by kernel_rfl) (by kernel_rfl) (fun _ _ _ h => h) rfl (by assumption) (by intro w9 hS9; obtain ⟨⟨s0, s1⟩, s2⟩ := hS9; go_simp) ?_
    simp only [List.setIfInBounds_toArray, List.set_cons_zero, List.set_cons_succ]
    refine take_yes 16 65 (.int .i64 k) rfl rfl (by kernel_rfl) (by kernel_rfl) (by kernel_rfl) (fun _ _ _ h => h) rfl (by assumption) (by intro w9 hS9; obtain ⟨⟨s0, s1⟩, s2⟩ := hS9; go_simp) ?_
    simp only [List.setIfInBounds_toArray, List.set_cons_zero, List.set_cons_succ]
    refine take_yes 17 66 (.int .i64 ((k : Int) - 1)) rfl rfl (by kernel_rfl) (by kernel_rfl) (by kernel_rfl) (fun _ _ _ h => h) rfl (by assumption) (by intro w9 hS9; obtain ⟨⟨s0, s1⟩, s2⟩ := hS9; go_simp) ?_
    simp only [List.setIfInBounds_toArray, List.set_cons_zero, List.set_cons_succ]
    refine take_yes 19 68 (.agg #[.int .i64 rl, .slice (some ⟨b, off, none⟩) ts.length cap]) rfl rfl (by kernel_rfl) (by kernel_rfl) (by kernel_rfl) (fun _ _ _ h => h) rfl (by assumption) (by intro w9 hS9; obtain ⟨⟨s0, s1⟩, s2⟩ := hS9; go_simp) ?_
    simp only [List.setIfInBounds_toArray, List.set_cons_zero, List.set_cons_succ]
    refine take_yes 20 69 (.int .i64 k) rfl rfl (by kernel_rfl) (by kernel_rfl) (by kernel_rfl) (fun _ _ _ h => h) rfl (by assumption) (by intro w9 hS9; obtain ⟨⟨s0, s1⟩, s2⟩ := hS9; go_simp) ?_
    simp only [List.setIfInBounds_toArray, List.set_cons_zero, List.set_cons_succ]
    refine wpAnyH_ready (rs := [18]) (by kernel_rfl) (by decide) (AllReadyH.cons rfl (fun K hK => ?_) AllReadyH.nil)
    refine (if_pos rfl).mpr ?_
    go_wp2_with fail
    refine (unhide CO1 x2 (set_bel (unhide HIN) (unhide N2))).mono ?_
    rintro e x3 ⟨rfl, bel⟩
    have N3 := hide (below_on (unhide N2) bel)
    refine hK.out _ _ (⟨hHeld.1.bel bel, cell_bel' hHeld.2 bel⟩) (fun hHeld => ?_)
    clear hK K bel
    refine wpAnyH_ready (rs := [21]) (by kernel_rfl) (by decide) (AllReadyH.cons rfl (fun K hK => ?_) AllReadyH.nil)
    refine (if_pos rfl).mpr ?_
    go_wp2_with fail
    refine (unhide CO0 x3 (set_bel (unhide HIN) (unhide N3))).mono ?_
    rintro e x4 ⟨rfl, bel⟩
    have N4 := hide (below_on (unhide N3) bel)
    refine hK.out _ _ (⟨hHeld.1.bel bel, cell_bel' hHeld.2 bel⟩) (fun hHeld => ?_)
    clear hK K bel
    refine take_yes 22 71 (.bool true) rfl rfl (by kernel_rfl) (by kernel_rfl) (by kernel_rfl) (fun _ _ _ h => h) rfl (by assumption) (by intro w9 hS9; obtain ⟨⟨s0, s1⟩, s2⟩ := hS9; go_simp) ?_
    simp only [List.setIfInBounds_toArray, List.set_cons_zero, List.set_cons_succ]
    refine take_yes 23 72 (.bool true) rfl rfl (by kernel_rfl) (by kernel_rfl) (by kernel_rfl) (fun _ _ _ h => h) rfl (by assumption) (by intro w9 hS9; obtain ⟨⟨s0, s1⟩, s2⟩ := hS9; go_simp) ?_
    simp only [List.setIfInBounds_toArray, List.set_cons_zero, List.set_cons_succ]
    refine take_yes 24 73 (.bool true) rfl rfl (by kernel_rfl) (by kernel_rfl) (by kernel_rfl) (fun _ _ _ h => h) rfl (by assumption) (by intro w9 hS9; obtain ⟨⟨s0, s1⟩, s2⟩ := hS9; go_simp) ?_
    simp only [List.setIfInBounds_toArray, List.set_cons_zero, List.set_cons_succ]
    refine take_yes 25 74 (.agg #[.int .i64 rl, .slice (some ⟨b, off, none⟩) ts.length cap]) rfl rfl (by kernel_rfl) (by kernel_rfl) (by kernel_rfl) (fun _ _ _ h => h) rfl (by assumption) (by intro w9 hS9; obtain ⟨⟨s0, s1⟩, s2⟩ := hS9; go_simp) ?_
    simp only [List.setIfInBounds_toArray, List.set_cons_zero, List.set_cons_succ]
    refine take_yes 26 75 (.int .i64 k) rfl rfl (by kernel_rfl) (by kernel_rfl) (by kernel_rfl) (fun _ _ _ h => h) rfl (by assumption) (by intro w9 hS9; obtain ⟨⟨s0, s1⟩, s2⟩ := hS9; go_simp) ?_
    simp only [List.setIfInBounds_toArray, List.set_cons_zero, List.set_cons_succ]
    refine take_yes 27 76 (.int .i64 k) rfl rfl (by kernel_rfl) (by kernel_rfl) (by kernel_rfl) (fun _ _ _ h => h) rfl (by assumption) (by intro w9 hS9; obtain ⟨⟨s0, s1⟩, s2⟩ := hS9; go_simp) ?_
    simp only [List.setIfInBounds_toArray, List.set_cons_zero, List.set_cons_succ]
    refine wpAnyH_ready (rs := [28]) (by kernel_rfl) (by decide) (AllReadyH.cons rfl (fun K hK => ?_) AllReadyH.nil)
    refine (if_pos rfl).mpr ?_
    go_wp2_with fail
    refine (unhide CO2 x4 (set_bel (unhide HIN) (unhide N4))).mono ?_
    rintro e x5 ⟨rfl, bel⟩
    have N5 := hide (below_on (unhide N4) bel)
    refine hK.out _ _ (⟨hHeld.1.bel bel, cell_bel' hHeld.2 bel⟩) (fun hHeld => ?_)
    clear hK K bel
    refine take_yes 29 78 (.bool true) rfl rfl (by kernel_rfl) (by kernel_rfl) (by kernel_rfl) (fun _ _ _ h => h) rfl (by assumption) (by intro w9 hS9; obtain ⟨⟨s0, s1⟩, s2⟩ := hS9; go_simp) ?_
    simp only [List.setIfInBounds_toArray, List.set_cons_zero, List.set_cons_succ]
    refine take_yes 30 79 (.bool true) rfl rfl (by kernel_rfl) (by kernel_rfl) (by kernel_rfl) (fun _ _ _ h => h) rfl (by assumption) (by intro w9 hS9; obtain ⟨⟨s0, s1⟩, s2⟩ := hS9; go_simp) ?_
    simp only [List.setIfInBounds_toArray, List.set_cons_zero, List.set_cons_succ]
    refine take_yes 31 80 (.bool true) rfl rfl (by kernel_rfl) (by kernel_rfl) (by kernel_rfl) (fun _ _ _ h => h) rfl (by assumption) (by intro w9 hS9; obtain ⟨⟨s0, s1⟩, s2⟩ := hS9; go_simp) ?_
    simp only [List.setIfInBounds_toArray, List.set_cons_zero, List.set_cons_succ]
    refine wpAnyH_ready (rs := [32]) (by kernel_rfl) (by decide) (AllReadyH.cons rfl (fun K hK => ?_) AllReadyH.nil)
    refine (if_pos rfl).mpr ?_
    go_wp2_with fail
    refine (unhide CK x5).mono ?_
    rintro e x6 ⟨rfl, bel⟩
    have N6 := hide (below_on (unhide N5) bel)
    refine hK.out _ _ (⟨hHeld.1.bel bel, cell_bel' hHeld.2 bel⟩) (fun hHeld => ?_)
    clear hK K bel
    refine take_yes 33 82 (.bool true) rfl rfl (by kernel_rfl) (by kernel_rfl) (by kernel_rfl) (fun _ _ _ h => h) rfl (by assumption) (by intro w9 hS9; obtain ⟨⟨s0, s1⟩, s2⟩ := hS9; go_simp) ?_
    simp only [List.setIfInBounds_toArray, List.set_cons_zero, List.set_cons_succ]
    refine take_yes 34 6 (.bool true) rfl rfl (by kernel_rfl) (by kernel_rfl) (by kernel_rfl) (fun _ _ _ h => h) rfl (by assumption) (by intro w9 hS9; obtain ⟨⟨s0, s1⟩, s2⟩ := hS9; go_simp) ?_
    simp only [List.setIfInBounds_toArray, List.set_cons_zero, List.set_cons_succ]
    refine wpAnyH_done (by kernel_rfl) ?_ _
    go_wp2
    go_ret
    exact ⟨rfl, unhide N6⟩
  · have hm1 : (t.mode == 0) = false := beq_eq_false_iff_ne.2 hm
    have hm2 : (t.mode != 0) = true := by simpa using hm
    go_enter Try.func5, Try.ntmps5
    rw [SetV.val]
    simp only
    go_wp2_with fail
    refine (unhide CA _ (set_bel (unhide HIN) ((Below.refl _ _).alloc (Nat.le_refl _) _))).mono ?_
    rintro e w1 ⟨rfl, bel⟩
    have B1 := hide (bel_box (Below.refl _ _) bel)
    obtain ⟨c0, c1⟩ := (unhide hbox).bel bel
    obtain ⟨t0, t1, t2, t3, t4, t5, t6, t7, t8⟩ := (unhide HROW).bel (unhide B1)
    clear bel
    go_wp2
    go_ret
    exact ⟨rfl, unhide B1⟩
end Go.Proofs.Ythlkfjcgckpheaa.Lex
