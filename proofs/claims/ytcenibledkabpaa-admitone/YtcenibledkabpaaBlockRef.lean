/- The reference of chapter 9: what Of and Most answer. -/
import Derived.Test.YtcenibledkabpaaBlockLaw
namespace Go.Proofs.Ytcenibledkabpaa.Lex
set_option maxRecDepth 100000
open Go.ChangeShapes Go.WideShapes Go.RowKit

theorem of_out {s : SetV} {low high : Int} (h : ¬ (0 ≤ high ∧ high < low ∧ low < s.ts.length)) : ofZ s low high = 0 := by rw [ofZ, if_neg h]
def longTo (l : List Int) (j : Nat) : Int := longZ (l.take j)
theorem long_next {l : List Int} {j : Nat} (h : j < l.length) : longTo l (j + 1) = max (longTo l j) (l.getD j 0) := by
  rw [longTo, longTo, longZ, longZ, List.take_succ_eq_append_getElem h, List.foldl_append]
  simp [List.getD, h]
theorem regs_cell {w : World} {ao : Option Addr} {l : List Int} (h : RegsIn w ao l) : ∀ j, j < l.length → ∃ b off, ao = some ⟨b, off, none⟩ ∧ w.cell? ⟨b, off + j, none⟩ = some (.int .i64 (l.getD j 0)) := fun j hj => by
  obtain ⟨b, off, e, hc⟩ := h (fun e => by rw [e] at hj; simp at hj)
  exact ⟨b, off, e, hc j hj⟩
set_option maxHeartbeats 3200000 in
theorem rof9_any (s : SetV) (low high : Int) (w : World) (hs : SetIn w s) (ha : allB s = true) : Calls Try.prog 45 #[s.val, .int .i64 low, .int .i64 high] w fun e w' => e = .returned (.int .i64 (ofZ s low high)) ∧ Below w.heap.size w w' := by
  have hlen := hs.len
  by_cases h0 : high < 0
  · rw [of_out (by omega)]
    clear hs
    go_enter Try.func45, Try.ntmps45
    rw [SetV.val]
    go_wp2
    go_ret
    exact ⟨rfl, (Below.refl _ _).alloc (Nat.le_refl _) _⟩
  by_cases h1 : low ≤ high
  · rw [of_out (by omega)]
    clear hs
    go_enter Try.func45, Try.ntmps45
    rw [SetV.val]
    go_wp2
    go_ret
    exact ⟨rfl, (Below.refl _ _).alloc (Nat.le_refl _) _⟩
  by_cases h2 : (s.ts.length : Int) ≤ low
  · rw [of_out (by omega)]
    clear hs
    go_enter Try.func45, Try.ntmps45
    rw [SetV.val]
    go_wp2
    go_ret
    exact ⟨rfl, (Below.refl _ _).alloc (Nat.le_refl _) _⟩
  obtain ⟨k, rfl⟩ : ∃ k : Nat, low = k := ⟨low.toNat, by omega⟩
  have hk : k < s.ts.length := by omega
  rw [ofZ, if_pos (by omega), Int.toNat_natCast]
  have hu : ∀ t ∈ s.ts, U64 t.ecb ∧ U64 t.ucb := fun t ht => ⟨(hs.each t ht).ecb, (hs.each t ht).ucb⟩
  obtain ⟨hr, h8, -, hfit⟩ := all_fits ha hu
  have hreg := is_regs8 (hfit k hk).is
  have hwr := work_range hreg
  have hor := own_range hr (k : Int)
  obtain ⟨r8, reach⟩ := regs_each hreg
  have hlw := long_work (s.ts.getD k task0).regs 0 (by omega) (fun n hn => (reach n hn).1)
  have hl0 := (long_from (s.ts.getD k task0).regs 0).1
  have CW := hide (fun w h => rwhole_any s k w h ha hk)
  have CO := hide (fun w h => rown_any s k w h hr)
  have HIN := hide hs
  obtain ⟨b, off, hao, ht⟩ := set_task hs (fun e => by rw [e] at hk; simp at hk)
  obtain ⟨hrow, htin⟩ := ht k hk
  have HC := hide (regs_cell htin.regs)
  have HX := hide (fun j (hj : j < (s.ts.getD k task0).regs.length) => long_next hj)
  have HX0 : Hid (longTo (s.ts.getD k task0).regs 0 = 0) := hide (by simp [longTo, longZ])
  have HXN : Hid (longTo (s.ts.getD k task0).regs (s.ts.getD k task0).regs.length = longZ (s.ts.getD k task0).regs) := hide (by rw [longTo, List.take_length])
  rw [show wholeZ s k = workZ (s.ts.getD k task0).regs + ownZ s k - 1 from rfl] at CW
  rw [wayZ]
  have hl1 : longZ (s.ts.getD k task0).regs ≤ workZ (s.ts.getD k task0).regs := hlw
  have hl2 : 0 ≤ longZ (s.ts.getD k task0).regs := hl0
  generalize ownZ s k = ow at *
  generalize workZ (s.ts.getD k task0).regs = wk at *
  obtain ⟨rl, ao, cap, ts⟩ := s
  simp only at hao hk h8 hrow htin hlen h2 HIN CO CW HC HX HX0 HXN hl1 hl2 ⊢
  subst hao
  generalize ts.getD k task0 = t at *
  generalize longZ t.regs = lz at *
  generalize longTo t.regs = lt at *
  have e1 : IntKind.i64.wrap (wk + ow) = wk + ow := i64_is _ (by omega)
  have e2 : IntKind.i64.wrap (wk + ow - 1) = wk + ow - 1 := i64_is _ (by omega)
  have e3 : IntKind.i64.wrap (lz + ow) = lz + ow := i64_is _ (by omega)
  have e4 : IntKind.i64.wrap (lz + ow - 1) = lz + ow - 1 := i64_is _ (by omega)
  have hk0 : (0 : Int) ≤ (k : Int) := by omega
  have hk1 : (k : Int) < (ts.length : Int) := by omega
  have HB := hide (sbox_new w ⟨rl, some ⟨b, off, none⟩, cap, ts⟩ 24)
  have HT := hide (box_new (w.alloc (.cells #[.int .i64 rl, .slice (some ⟨b, off, none⟩) ts.length cap] 24)) t 37)
  have B1 := hide ((Below.refl w.heap.size w).alloc (Nat.le_refl _) (.cells #[.int .i64 rl, .slice (some ⟨b, off, none⟩) ts.length cap] 24))
  have B2 := hide ((unhide B1).alloc (unhide B1).size (.cells #[.string t.name, .int .i64 t.T, .int .i64 t.D, .int .i64 t.mode, .int .i64 t.Q, .int .i64 t.theta, .slice t.ao t.regs.length t.cap, .int .u64 t.ecb, .int .u64 t.ucb] 37))
  obtain ⟨t0, t1, t2, t3, t4, t5, t6, t7, t8⟩ := hrow.bel (unhide B1)
  clear hs ha hu hr hfit hreg hrow htin ht h2 hlw hl0 reach
  by_cases hm0 : t.mode = 0
  · rw [if_pos hm0]
    have HA := hide (rfl : lz + ow - 1 = lz + ow - 1)
    rw [hm0] at t3
    rw [hm0] at HT B2
    go_enter Try.func45, Try.ntmps45
    rw [SetV.val]
    simp only
    go_wp2
    go_loopw [8, 9] (fun u i wr => ∃ j : Nat, j ≤ t.regs.length ∧ u = .int .i64 (lt j) ∧ i = .int .i64 j ∧ wr = (w.alloc (.cells #[.int .i64 rl, .slice (some ⟨b, off, none⟩) ts.length cap] 24)).alloc (.cells #[.string t.name, .int .i64 t.T, .int .i64 t.D, .int .i64 0, .int .i64 t.Q, .int .i64 t.theta, .slice t.ao t.regs.length t.cap, .int .u64 t.ecb, .int .u64 t.ucb] 37)) (fun _ i _ => t.regs.length - (intOf i).toNat)
    case atStart => exact ⟨0, Nat.zero_le _, by rw [unhide HX0], rfl, rfl⟩
    case round =>
      obtain ⟨j, hj, rfl, rfl, rfl⟩ := hrel
      by_cases hlt : j < t.regs.length
      · obtain ⟨rb, ro, hra, hcell⟩ := unhide HC j hlt
        have hcell := cell_bel' hcell (unhide B2)
        rw [hra] at hcell
        have HR : Hid ((if lt j < t.regs.getD j 0 then t.regs.getD j 0 else lt j) = lt (j + 1)) := hide (by
          rw [unhide HX j hlt]
          split <;> omega)
        generalize t.regs.getD j 0 = x at *
        go_wp2
        go_roundw
        case rel => exact ⟨j + 1, by omega, by rw [← unhide HR], by go_num, by rw [hra]⟩
        case measure => simp [intOf]; omega
      · have e : j = t.regs.length := by omega
        subst e
        rw [unhide HXN]
        go_wp2_with fail
        refine (unhide CO _ (set_bel (unhide HIN) (unhide B2))).mono ?_
        rintro e w1 ⟨rfl, bel⟩
        have B3 := hide (below_on (unhide B2) bel)
        clear bel
        go_wp2
        go_ret
        exact ⟨rfl, unhide B3⟩
  · rw [if_neg hm0]
    by_cases hm1 : t.mode = 1
    · rw [if_pos hm1]
      rw [hm1] at t3
      rw [hm1] at HT B2
      have hbox : (SBox ((w.alloc (.cells #[.int .i64 rl, .slice (some ⟨b, off, none⟩) ts.length cap] 24)).alloc (.cells #[.string t.name, .int .i64 t.T, .int .i64 t.D, .int .i64 1, .int .i64 t.Q, .int .i64 t.theta, .slice t.ao t.regs.length t.cap, .int .u64 t.ecb, .int .u64 t.ucb] 37)) w.heap.size ⟨rl, some ⟨b, off, none⟩, cap, ts⟩ ∧ ((w.alloc (.cells #[.int .i64 rl, .slice (some ⟨b, off, none⟩) ts.length cap] 24)).alloc (.cells #[.string t.name, .int .i64 t.T, .int .i64 t.D, .int .i64 1, .int .i64 t.Q, .int .i64 t.theta, .slice t.ao t.regs.length t.cap, .int .u64 t.ecb, .int .u64 t.ucb] 37)).cell? ⟨w.heap.size + 1, 4, none⟩ = some (.int .i64 t.Q)) := ⟨(unhide HB).bel ((Below.refl _ _).alloc (Nat.le_refl _) _), by simp⟩
      have hmn : min t.Q (wk + ow - 1) = if wk + ow - 1 < t.Q then wk + ow - 1 else t.Q := by split <;> omega
      rw [hmn]
      clear hmn
      generalize hmn : (if wk + ow - 1 < t.Q then wk + ow - 1 else t.Q) = mn
      go_enter Try.func45, Try.ntmps45
      rw [SetV.val]
      simp only
      have D0 := hide (unhide B2).drew
      go_wp2_with fail
      refine wp_region_held_drew (S := (fun w9 => SBox w9 w.heap.size ⟨rl, some ⟨b, off, none⟩, cap, ts⟩ ∧ w9.cell? ⟨w.heap.size + 1, 4, none⟩ = some (.int .i64 t.Q))) (by kernel_rfl) (⟨hbox.1.drew, cell_bel' hbox.2 (Below.refl _ _).drew⟩) (fun hHeld => ?_)
      refine take_yes 0 55 (.pointer (some ⟨w.heap.size + 1, 4, none⟩)) rfl rfl (by kernel_rfl) (by kernel_rfl) (by kernel_rfl) (fun _ _ _ h => h) rfl (by assumption) (by intro w9 hS9; obtain ⟨⟨s0, s1⟩, s2⟩ := hS9; go_simp) ?_
      simp only [List.setIfInBounds_toArray, List.set_cons_zero, List.set_cons_succ]
      refine take_yes 1 56 (.int .i64 t.Q) rfl rfl (by kernel_rfl) (by kernel_rfl) (by kernel_rfl) (fun _ _ _ h => h) rfl (by assumption) (by intro w9 hS9; obtain ⟨⟨s0, s1⟩, s2⟩ := hS9; go_simp) ?_
      simp only [List.setIfInBounds_toArray, List.set_cons_zero, List.set_cons_succ]
      refine take_yes 2 57 (.agg #[.int .i64 rl, .slice (some ⟨b, off, none⟩) ts.length cap]) rfl rfl (by kernel_rfl) (by kernel_rfl) (by kernel_rfl) (fun _ _ _ h => h) rfl (by assumption) (by intro w9 hS9; obtain ⟨⟨s0, s1⟩, s2⟩ := hS9; go_simp) ?_
      simp only [List.setIfInBounds_toArray, List.set_cons_zero, List.set_cons_succ]
      refine take_yes 3 58 (.int .i64 k) rfl rfl (by kernel_rfl) (by kernel_rfl) (by kernel_rfl) (fun _ _ _ h => h) rfl (by assumption) (by intro w9 hS9; obtain ⟨⟨s0, s1⟩, s2⟩ := hS9; go_simp) ?_
      simp only [List.setIfInBounds_toArray, List.set_cons_zero, List.set_cons_succ]
      refine wpAnyH_ready (rs := [4]) (by kernel_rfl) (by decide) (AllReadyH.cons rfl (fun K hK => ?_) AllReadyH.nil)
      refine (if_pos rfl).mpr ?_
      go_wp2_with fail
      refine (unhide CW ((w.alloc (.cells #[.int .i64 rl, .slice (some ⟨b, off, none⟩) ts.length cap] 24)).alloc (.cells #[.string t.name, .int .i64 t.T, .int .i64 t.D, .int .i64 1, .int .i64 t.Q, .int .i64 t.theta, .slice t.ao t.regs.length t.cap, .int .u64 t.ecb, .int .u64 t.ucb] 37)).drew (set_bel (unhide HIN) (unhide D0))).mono ?_
      rintro e x1 ⟨rfl, bel⟩
      have N1 := hide (below_on (unhide D0) bel)
      refine hK.out _ _ (⟨hHeld.1.bel bel, cell_bel' hHeld.2 bel⟩) (fun hHeld => ?_)
      clear hK K bel
      refine take_yes 5 60 (.int .i64 mn) rfl rfl (by kernel_rfl) (by kernel_rfl) (by kernel_rfl) (fun _ _ _ h => h) rfl (by assumption) (by intro w9 hS9; obtain ⟨⟨s0, s1⟩, s2⟩ := hS9; go_simp) ?_
      simp only [List.setIfInBounds_toArray, List.set_cons_zero, List.set_cons_succ]
      refine take_yes 6 6 (.int .i64 mn) rfl rfl (by kernel_rfl) (by kernel_rfl) (by kernel_rfl) (fun _ _ _ h => h) rfl (by assumption) (by intro w9 hS9; obtain ⟨⟨s0, s1⟩, s2⟩ := hS9; go_simp) ?_
      simp only [List.setIfInBounds_toArray, List.set_cons_zero, List.set_cons_succ]
      refine wpAnyH_done (by kernel_rfl) ?_ _
      go_wp2
      go_ret
      exact ⟨rfl, unhide N1⟩
    · rw [if_neg hm1]
      by_cases hth : t.theta ≤ high
      · rw [if_pos hth]
        go_enter Try.func45, Try.ntmps45
        rw [SetV.val]
        simp only
        go_wp2_with fail
        refine (unhide CW _ (set_bel (unhide HIN) (unhide B2))).mono ?_
        rintro e w1 ⟨rfl, bel⟩
        have B3 := hide (below_on (unhide B2) bel)
        clear bel
        go_wp2
        go_ret
        exact ⟨rfl, unhide B3⟩
      · rw [if_neg hth]
        go_enter Try.func45, Try.ntmps45
        rw [SetV.val]
        simp only
        go_wp2
        go_ret
        exact ⟨rfl, unhide B2⟩
set_option maxHeartbeats 1600000 in
theorem rmost_any (s : SetV) (k : Nat) (w : World) (hs : SetIn w s) (ha : allB s = true) (hk : k < s.ts.length) : Calls Try.prog 30 #[s.val, .int .i64 k] w fun e w' => e = .returned (.int .i64 (mostZ s k)) ∧ Below w.heap.size w w' := by
  have hlen := hs.len
  have CO := hide (fun (l : Nat) w h => rof9_any s l k w h ha)
  have HIN := hide hs
  have HB := hide (sbox_new w s 24)
  have HX := hide (most_next s k)
  have HE : Hid (mostZ s k = mostTo s k s.ts.length) := rfl
  have HZ := hide (most_low s k (k + 1) (by omega))
  have e1 : IntKind.i64.wrap ((k : Int) + 1) = (k : Int) + 1 := i64_is _ (by omega)
  rw [unhide HE]
  obtain ⟨rl, ao, cap, ts⟩ := s
  simp only at hk hlen HX HZ CO ⊢
  generalize mostTo ⟨rl, ao, cap, ts⟩ k = mt at *
  clear hs ha HE
  go_enter Try.func30, Try.ntmps30
  rw [SetV.val]
  simp only
  go_wp2
  go_loopw [5, 6] (fun u i' wr => ∃ j : Nat, k + 1 ≤ j ∧ j ≤ ts.length ∧ u = .int .i64 (mt j) ∧ i' = .int .i64 j ∧ Below (w.heap.size + 1) (w.alloc (.cells #[.int .i64 rl, .slice ao ts.length cap] 24)) wr) (fun _ i _ => ts.length - (intOf i).toNat)
  case atStart => exact ⟨k + 1, Nat.le_refl _, by omega, by rw [unhide HZ], by go_num, Below.refl _ _⟩
  case round =>
    obtain ⟨j, hj0, hj1, rfl, rfl, hb⟩ := hrel
    have B := hide (show Below (w.alloc (.cells #[.int .i64 rl, .slice ao ts.length cap] 24)).heap.size (w.alloc (.cells #[.int .i64 rl, .slice ao ts.length cap] 24)) wr by simpa using hb)
    have B0 := hide (below_on ((Below.refl w.heap.size w).alloc (Nat.le_refl _) (.cells #[.int .i64 rl, .slice ao ts.length cap] 24)) (unhide B))
    obtain ⟨c0, c1⟩ := (unhide HB).bel (unhide B)
    simp only at c0 c1
    clear hb
    by_cases hlt : j < ts.length
    · have CJ := hide (unhide CO j)
      have HN := hide (unhide HX j)
      generalize ofZ ⟨rl, ao, cap, ts⟩ j k = x at *
      have HR : Hid ((if mt j < x then x else mt j) = mt (j + 1)) := hide (by
        rw [unhide HN]
        split <;> omega)
      go_wp2_with fail
      refine (unhide CJ _ (set_bel (unhide HIN) (unhide B0))).mono ?_
      rintro e w1 ⟨rfl, bel⟩
      have B1 := hide (below_on (unhide B) bel)
      clear bel
      go_wp2
      go_roundw
      case rel => exact ⟨j + 1, by omega, by omega, by rw [← unhide HR], by go_num, by simpa using unhide B1⟩
      case measure => simp [intOf]; omega
    · have e : j = ts.length := by omega
      subst e
      go_wp2
      go_ret
      exact ⟨rfl, unhide B0⟩
end Go.Proofs.Ytcenibledkabpaa.Lex
