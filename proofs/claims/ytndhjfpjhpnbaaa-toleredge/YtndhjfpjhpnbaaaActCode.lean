/- What package active answers: Of. -/
import Derived.Test.YtndhjfpjhpnbaaaActCodeA
namespace Go.Proofs.Ytndhjfpjhpnbaaa.Lex
set_option maxRecDepth 100000
open Go.ChangeShapes Go.WideShapes Go.RowKit

set_option maxHeartbeats 3200000 in
theorem code_AOf : CAOf := fun s i bl w hs ha hi hbl => by
  have hlen := hs.len
  have hu : ∀ t ∈ s.ts, U64 t.ecb ∧ U64 t.ucb := fun t ht => ⟨(hs.each t ht).ecb, (hs.each t ht).ucb⟩
  obtain ⟨hr, h8, -, hfit⟩ := all_fits ha hu
  have h1 : 1 ≤ s.ts.length := by simp only [allB, Bool.and_eq_true, decide_eq_true_eq] at ha; exact ha.2.1
  have hne : s.ts ≠ [] := fun e => by rw [e] at h1; simp at h1
  obtain ⟨b, off, hao, ht⟩ := set_task hs hne
  have hbox := sbox_new w s 24
  have CH := hide (fun w h => has11_any s i w h ha)
  have HIN := hide hs
  have HNO : Hid (inI s i = false → OfP s i bl (.returned (.tuple #[.int .i64 0, .bool false]))) := fun h => by rw [OfP, h]; rfl
  have HYES : Hid (∀ k : Nat, i = k → k < s.ts.length → ∀ e, Fix.LeastP bl (allL s k) e → OfP s i bl e) := fun k hk hl e he => by
    subst hk
    rw [OfP, in_nat hl]
    exact he
  generalize OfP s i bl = PP at *
  by_cases hin : inI s i = true
  rotate_left
  · have hin2 : inI s i = false := by simpa using hin
    rw [hin2] at CH
    have HN := hide (unhide HNO hin2)
    clear HNO HYES hin hin2 hu hfit ha ht hs hr hbox hao hne h1 hlen
    go_enter Try.func38, Try.ntmps38
    rw [SetV.val]
    go_wp2_with fail
    refine (unhide CH _ (set_bel (unhide HIN) ((Below.refl _ _).alloc (Nat.le_refl _) _))).mono ?_
    rintro e w1 ⟨rfl, bel⟩
    have B1 := hide (bel_box (Below.refl _ _) bel)
    clear bel
    go_wp2
    go_ret2
    exact ⟨unhide HN, unhide B1⟩
  rw [hin] at CH
  obtain ⟨k, rfl, hk⟩ := in_is hin
  have HYES' := hide (unhide HYES k rfl hk)
  clear HYES HNO
  have HYES := HYES'
  clear HYES'
  have hLI : loadsI s k = loadsTo s k := by rw [loadsI, in_nat hk]; rfl
  have CL := hide (fun w h => aloads_own s k w h ha)
  rw [hLI, loads_len] at CL
  have CW := hide (fun w h => code_Work (s.ts.getD k task0) w h (is_regs8 (hfit k hk).is))
  have CF := hide (fun ao cap (w : World) h => Fix.code_Least bl ao cap (allL s k) w h hbl)
  have HOK := hide (ok_i64 (loads_ok ha hu hk))
  have HAL : Hid (allL s k = loadsTo s k ++ [⟨(s.ts.getD k task0).T, workZ (s.ts.getD k task0).regs⟩]) := rfl
  have HLN := hide (all_len s k)
  obtain ⟨hrow0, htin⟩ := ht k hk
  have HROW := hide hrow0
  have HTI := hide htin
  clear hin hu hfit ha ht hs hi hr hLI hrow0 htin hbl
  obtain ⟨rl, ao, cap, ts⟩ := s
  simp only at hao hbox hk hlen h8 h1 hne HAL HROW HTI CW
  subst hao
  have HBX := hide hbox
  clear hbox
  generalize workZ (ts.getD k task0).regs = wk at *
  generalize ts.getD k task0 = t at *
  generalize allL ⟨rl, some ⟨b, off, none⟩, cap, ts⟩ k = AL at *
  generalize loadsTo ⟨rl, some ⟨b, off, none⟩, cap, ts⟩ k = LT at *
  have hk1 : (0 : Int) ≤ (k : Int) := by omega
  have hk2 : (k : Int) < (ts.length : Int) := by omega
  go_enter Try.func38, Try.ntmps38
  rw [SetV.val]
  simp only
  go_wp2_with fail
  refine (unhide CH _ (set_bel (unhide HIN) ((Below.refl _ _).alloc (Nat.le_refl _) _))).mono ?_
  rintro e w1 ⟨rfl, bel⟩
  have HB1 := hide ((unhide HBX).bel bel)
  have B1 := hide (bel_box (Below.refl _ _) bel)
  clear bel
  have V0 : Hid (Below (w1.alloc (.cells #[.string t.name, .int .i64 t.T, .int .i64 t.D, .int .i64 t.mode, .int .i64 t.Q, .int .i64 t.theta, .slice t.ao t.regs.length t.cap, .int .u64 t.ecb, .int .u64 t.ucb] 38)).heap.size (w1.alloc (.cells #[.string t.name, .int .i64 t.T, .int .i64 t.D, .int .i64 t.mode, .int .i64 t.Q, .int .i64 t.theta, .slice t.ao t.regs.length t.cap, .int .u64 t.ecb, .int .u64 t.ucb] 38)) (w1.alloc (.cells #[.string t.name, .int .i64 t.T, .int .i64 t.D, .int .i64 t.mode, .int .i64 t.Q, .int .i64 t.theta, .slice t.ao t.regs.length t.cap, .int .u64 t.ecb, .int .u64 t.ucb] 38))) := Below.refl _ _
  have B0 := hide ((unhide B1).alloc (unhide B1).size (.cells #[.string t.name, .int .i64 t.T, .int .i64 t.D, .int .i64 t.mode, .int .i64 t.Q, .int .i64 t.theta, .slice t.ao t.regs.length t.cap, .int .u64 t.ecb, .int .u64 t.ucb] 38))
  have XF : Hid (∀ W, Below (w1.alloc (.cells #[.string t.name, .int .i64 t.T, .int .i64 t.D, .int .i64 t.mode, .int .i64 t.Q, .int .i64 t.theta, .slice t.ao t.regs.length t.cap, .int .u64 t.ecb, .int .u64 t.ucb] 38)).heap.size (w1.alloc (.cells #[.string t.name, .int .i64 t.T, .int .i64 t.D, .int .i64 t.mode, .int .i64 t.Q, .int .i64 t.theta, .slice t.ao t.regs.length t.cap, .int .u64 t.ecb, .int .u64 t.ucb] 38)) W → YBox W w.heap.size (.int .i64 rl) (.slice (some ⟨b, off, none⟩) ts.length cap) w1.heap.size t) := hide (fun W h => by
    obtain ⟨q0, q1⟩ := (unhide HB1).bel ((Below.refl _ _).alloc (Nat.le_refl _) (.cells #[.string t.name, .int .i64 t.T, .int .i64 t.D, .int .i64 t.mode, .int .i64 t.Q, .int .i64 t.theta, .slice t.ao t.regs.length t.cap, .int .u64 t.ecb, .int .u64 t.ucb] 38))
    exact ⟨cell_bel' q0 h, cell_bel' q1 h, (box_new w1 t 38).bel h⟩)
  have hbox := unhide XF _ (Below.refl _ _)
  obtain ⟨t0, t1, t2, t3, t4, t5, t6, t7, t8⟩ := (unhide HROW).bel (unhide B1)
  obtain ⟨c0, c1⟩ := unhide HB1
  simp only at c0 c1
  go_wp2_with fail
  clear c0 c1 t0 t1 t2 t3 t4 t5 t6 t7 t8
  have D0 := hide (unhide B0).drew
  have VD := hide (unhide V0).drew
  refine wp_region_held_drew (S := (fun w9 => YBox w9 w.heap.size (.int .i64 rl) (.slice (some ⟨b, off, none⟩) ts.length cap) w1.heap.size t)) (by kernel_rfl) (hbox.drew) (fun hHeld => ?_)
  refine take_yes 0 18 (.int .i64 bl) rfl rfl (by kernel_rfl) (by kernel_rfl) (by kernel_rfl) (fun _ _ _ h => h) rfl (by assumption) (by intro w9 hS9; obtain ⟨s0, s1, ⟨t0, t1, t2, t3, t4, t5, t6, t7, t8⟩⟩ := hS9; go_simp) ?_
  simp only [List.setIfInBounds_toArray, List.set_cons_zero, List.set_cons_succ]
  refine take_yes 1 19 (.agg #[.int .i64 rl, .slice (some ⟨b, off, none⟩) ts.length cap]) rfl rfl (by kernel_rfl) (by kernel_rfl) (by kernel_rfl) (fun _ _ _ h => h) rfl (by assumption) (by intro w9 hS9; obtain ⟨s0, s1, ⟨t0, t1, t2, t3, t4, t5, t6, t7, t8⟩⟩ := hS9; go_simp) ?_
  simp only [List.setIfInBounds_toArray, List.set_cons_zero, List.set_cons_succ]
  refine take_yes 2 20 (.int .i64 k) rfl rfl (by kernel_rfl) (by kernel_rfl) (by kernel_rfl) (fun _ _ _ h => h) rfl (by assumption) (by intro w9 hS9; obtain ⟨s0, s1, ⟨t0, t1, t2, t3, t4, t5, t6, t7, t8⟩⟩ := hS9; go_simp) ?_
  simp only [List.setIfInBounds_toArray, List.set_cons_zero, List.set_cons_succ]
  refine take_yes 4 22 (.pointer (some ⟨w1.heap.size, 1, none⟩)) rfl rfl (by kernel_rfl) (by kernel_rfl) (by kernel_rfl) (fun _ _ _ h => h) rfl (by assumption) (by intro w9 hS9; obtain ⟨s0, s1, ⟨t0, t1, t2, t3, t4, t5, t6, t7, t8⟩⟩ := hS9; go_simp) ?_
  simp only [List.setIfInBounds_toArray, List.set_cons_zero, List.set_cons_succ]
  refine take_yes 5 23 (.int .i64 t.T) rfl rfl (by kernel_rfl) (by kernel_rfl) (by kernel_rfl) (fun _ _ _ h => h) rfl (by assumption) (by intro w9 hS9; obtain ⟨s0, s1, ⟨t0, t1, t2, t3, t4, t5, t6, t7, t8⟩⟩ := hS9; go_simp) ?_
  simp only [List.setIfInBounds_toArray, List.set_cons_zero, List.set_cons_succ]
  refine take_yes 6 24 (.agg #[.string t.name, .int .i64 t.T, .int .i64 t.D, .int .i64 t.mode, .int .i64 t.Q, .int .i64 t.theta, .slice t.ao t.regs.length t.cap, .int .u64 t.ecb, .int .u64 t.ucb]) rfl rfl (by kernel_rfl) (by kernel_rfl) (by kernel_rfl) (fun _ _ _ h => h) rfl (by assumption) (by intro w9 hS9; obtain ⟨s0, s1, ⟨t0, t1, t2, t3, t4, t5, t6, t7, t8⟩⟩ := hS9; go_simp) ?_
  simp only [List.setIfInBounds_toArray, List.set_cons_zero, List.set_cons_succ]
  refine wpAnyH_ready (rs := [3]) (by kernel_rfl) (by decide) (AllReadyH.cons rfl (fun K hK => ?_) AllReadyH.nil)
  refine (if_pos rfl).mpr ?_
  go_wp2_with fail
  refine (unhide CL (w1.alloc (.cells #[.string t.name, .int .i64 t.T, .int .i64 t.D, .int .i64 t.mode, .int .i64 t.Q, .int .i64 t.theta, .slice t.ao t.regs.length t.cap, .int .u64 t.ecb, .int .u64 t.ucb] 38)).drew (set_bel (unhide HIN) (unhide D0))).mono ?_
  rintro e x1 ⟨v0, rfl, ow, bel⟩
  have RA := hide ow
  clear ow
  have N1 := hide (below_on (unhide D0) bel)
  have V1 := hide (below_on (unhide VD) bel)
  refine hK.out _ _ (hHeld.bel bel) (fun hHeld => ?_)
  clear hK K bel
  refine wpAnyH_ready (rs := [7]) (by kernel_rfl) (by decide) (AllReadyH.cons rfl (fun K hK => ?_) AllReadyH.nil)
  refine (if_pos rfl).mpr ?_
  go_wp2_with fail
  refine (unhide CW x1 (task_bel (unhide HTI) (unhide N1))).mono ?_
  rintro e x2 ⟨rfl, bel⟩
  have RB := hide (own_belG (unhide RA) bel)
  have N2 := hide (below_on (unhide N1) bel)
  have V2 := hide (below_on (unhide V1) bel)
  refine hK.out _ _ (hHeld.bel bel) (fun hHeld => ?_)
  clear hK K bel
  refine take_yes 8 26 (.agg #[.int .i64 t.T, .int .i64 wk]) rfl rfl (by kernel_rfl) (by kernel_rfl) (by kernel_rfl) (fun _ _ _ h => h) rfl (by assumption) (by intro w9 hS9; obtain ⟨s0, s1, ⟨t0, t1, t2, t3, t4, t5, t6, t7, t8⟩⟩ := hS9; go_simp) ?_
  simp only [List.setIfInBounds_toArray, List.set_cons_zero, List.set_cons_succ]
  refine wpAnyH_ready (rs := [9]) (by kernel_rfl) (by decide) (AllReadyH.cons rfl (fun K hK => ?_) AllReadyH.nil)
  go_simp
  refine hK.out _ _ (hHeld.bel ((Below.refl _ _).alloc (Nat.le_refl _) _)) (fun hHeld => ?_)
  clear hK K
  try simp only [List.setIfInBounds_toArray, List.set_cons_zero, List.set_cons_succ]
  have V8 := hide ((unhide V2).alloc (unhide V2).size (.cells #[.int .i64 t.T, .int .i64 wk] 52))
  have R8 := hide (own_belG (unhide RB) ((Below.refl _ _).alloc (Nat.le_refl _) (.cells #[.int .i64 t.T, .int .i64 wk] 52)))
  have P8 := hide (one_cells (w := x2) ⟨t.T, wk⟩)
  have Z8 : Hid ((w1.alloc (.cells #[.string t.name, .int .i64 t.T, .int .i64 t.D, .int .i64 t.mode, .int .i64 t.Q, .int .i64 t.theta, .slice t.ao t.regs.length t.cap, .int .u64 t.ecb, .int .u64 t.ucb] 38)).heap.size ≤ (x2.alloc (.cells #[.int .i64 t.T, .int .i64 wk] 52)).heap.size) := hide (unhide V8).size
  refine wpAnyH_ready (rs := [10]) (by kernel_rfl) (by decide) (AllReadyH.cons rfl (fun K hK => ?_) AllReadyH.nil)
  refine Fix.step_append_at 28 rfl rfl _ _ rfl (w1.alloc (.cells #[.string t.name, .int .i64 t.T, .int .i64 t.D, .int .i64 t.mode, .int .i64 t.Q, .int .i64 t.theta, .slice t.ao t.regs.length t.cap, .int .u64 t.ecb, .int .u64 t.ucb] 38)).heap.size _ k _ rfl (unhide R8) ⟨x2.heap.size, 0, none⟩ 1 1 [⟨t.T, wk⟩] rfl rfl (unhide P8) (by omega) (unhide Z8) ?_
  intro v1 W5 rr bb
  have V9 := hide ((unhide V8).trans bb)
  have B9 := hide (below_on (unhide B0) (unhide V9))
  obtain ⟨ao2, cap2, rfl, hin2⟩ := Fix.loads_own (L := AL) (by rw [unhide HAL, Fix.lcells_app]; exact rr) (unhide HOK) (by rw [unhide HLN]; omega)
  have HI2 := hide hin2
  clear rr bb hin2
  refine hK.out _ _ (unhide XF _ (unhide V9)) (fun hHeld => ?_)
  clear hK K
  try simp only [List.setIfInBounds_toArray, List.set_cons_zero, List.set_cons_succ]
  refine wpAnyH_ready (rs := [11]) (by kernel_rfl) (by decide) (AllReadyH.cons rfl (fun K hK => ?_) AllReadyH.nil)
  refine (if_pos rfl).mpr ?_
  go_wp2_with fail
  refine (unhide CF ao2 cap2 W5 (unhide HI2)).mono ?_
  rintro e x3 ⟨⟨r, hr, rfl⟩, bel⟩
  have HY := hide (unhide HYES _ ⟨r, hr, rfl⟩)
  clear hr
  generalize Fix.valO r = vr at *
  generalize r.isSome = sr at *
  have N3 := hide (below_on (unhide B9) bel)
  refine hK.out _ _ (hHeld.bel bel) (fun hHeld => ?_)
  clear hK K bel
  refine take_yes 12 30 (.int .i64 vr) rfl rfl (by kernel_rfl) (by kernel_rfl) (by kernel_rfl) (fun _ _ _ h => h) rfl (by assumption) (by intro w9 hS9; obtain ⟨s0, s1, ⟨t0, t1, t2, t3, t4, t5, t6, t7, t8⟩⟩ := hS9; go_simp) ?_
  simp only [List.setIfInBounds_toArray, List.set_cons_zero, List.set_cons_succ]
  refine take_yes 13 31 (.bool sr) rfl rfl (by kernel_rfl) (by kernel_rfl) (by kernel_rfl) (fun _ _ _ h => h) rfl (by assumption) (by intro w9 hS9; obtain ⟨s0, s1, ⟨t0, t1, t2, t3, t4, t5, t6, t7, t8⟩⟩ := hS9; go_simp) ?_
  simp only [List.setIfInBounds_toArray, List.set_cons_zero, List.set_cons_succ]
  refine take_yes 14 6 (.int .i64 vr) rfl rfl (by kernel_rfl) (by kernel_rfl) (by kernel_rfl) (fun _ _ _ h => h) rfl (by assumption) (by intro w9 hS9; obtain ⟨s0, s1, ⟨t0, t1, t2, t3, t4, t5, t6, t7, t8⟩⟩ := hS9; go_simp) ?_
  simp only [List.setIfInBounds_toArray, List.set_cons_zero, List.set_cons_succ]
  refine take_yes 15 7 (.bool sr) rfl rfl (by kernel_rfl) (by kernel_rfl) (by kernel_rfl) (fun _ _ _ h => h) rfl (by assumption) (by intro w9 hS9; obtain ⟨s0, s1, ⟨t0, t1, t2, t3, t4, t5, t6, t7, t8⟩⟩ := hS9; go_simp) ?_
  simp only [List.setIfInBounds_toArray, List.set_cons_zero, List.set_cons_succ]
  refine wpAnyH_done (by kernel_rfl) ?_ _
  clear hHeld
  go_wp2
  go_ret2
  exact ⟨unhide HY, unhide N3⟩
end Go.Proofs.Ytndhjfpjhpnbaaa.Lex
