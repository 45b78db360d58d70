/- Chapter 11: what the document's own functions answer: Of, Same. -/
import Derived.Test.YtndhjfpjhpnbaaaActRef
namespace Go.Proofs.Ytndhjfpjhpnbaaa.Lex
set_option maxRecDepth 100000
open Go.ChangeShapes Go.WideShapes Go.RowKit

theorem ok_i64 {l : List Fix.LoadV} (h : Fix.OkL l) : ∀ x ∈ l, Fix.I64 x.T ∧ Fix.I64 x.C := fun x hx => by
  have := h x hx
  unfold Fix.I64
  omega
theorem all_len (s : SetV) (k : Nat) : (allL s k).length = k + 1 := by rw [allL, List.length_append, loads_len]; rfl
set_option maxHeartbeats 3200000 in
theorem rof_any (s : SetV) (i bl : Int) (w : World) (hs : SetIn w s) (ha : allB s = true) (hi : I64 i) : Calls Try.prog 19 #[s.val, .int .i64 i, .int .i64 bl] w fun e w' => OfP s i bl e ∧ Below w.heap.size w w' := by
  have hlen := hs.len
  have hu : ∀ t ∈ s.ts, U64 t.ecb ∧ U64 t.ucb := fun t ht => ⟨(hs.each t ht).ecb, (hs.each t ht).ucb⟩
  obtain ⟨hr, h8, -, hfit⟩ := all_fits ha hu
  have h1 : 1 ≤ s.ts.length := by simp only [allB, Bool.and_eq_true, decide_eq_true_eq] at ha; exact ha.2.1
  have hne : s.ts ≠ [] := fun e => by rw [e] at h1; simp at h1
  obtain ⟨b, off, hao, ht⟩ := set_task hs hne
  have hbox := sbox_new w s 24
  have HNO : Hid (inI s i = false → OfP s i bl (.returned (.tuple #[.int .i64 0, .bool false]))) := fun h => by rw [OfP, h]; rfl
  by_cases i0 : i < 0
  · have HP := hide (unhide HNO (in_low i0))
    have B1 := hide ((Below.refl w.heap.size w).alloc (Nat.le_refl _) (.cells #[.int .i64 s.reload, .slice s.ao s.ts.length s.cap] 24))
    clear HNO hu hfit ha ht hs hi hr hbox hao
    go_enter Try.func19, Try.ntmps19
    rw [SetV.val]
    go_wp2
    go_ret2
    exact ⟨unhide HP, unhide B1⟩
  by_cases i1 : (s.ts.length : Int) ≤ i
  · have HP := hide (unhide HNO (in_high i1))
    have B1 := hide ((Below.refl w.heap.size w).alloc (Nat.le_refl _) (.cells #[.int .i64 s.reload, .slice s.ao s.ts.length s.cap] 24))
    clear HNO hu hfit ha ht hs hi hr hbox hao
    go_enter Try.func19, Try.ntmps19
    rw [SetV.val]
    go_wp2
    go_ret2
    exact ⟨unhide HP, unhide B1⟩
  obtain ⟨k, rfl⟩ : ∃ k : Nat, i = k := ⟨i.toNat, by omega⟩
  have hk : k < s.ts.length := by omega
  have HYES : Hid (∀ r, (if Fix.mayB bl (allL s k) then Fix.IsLeast (Fix.sumZ bl (allL s k)) r else r = none) → OfP s k bl (.returned (.tuple #[.int .i64 (Fix.valO r), .bool r.isSome]))) := fun r hr => by
    rw [OfP, in_nat hk]
    exact ⟨r, hr, rfl⟩
  have hLI : loadsI s k = loadsTo s k := by rw [loadsI, in_nat hk]; rfl
  have CL := hide (fun w h => rloads_any s k w h ha hi)
  rw [hLI, loads_len] at CL
  have CW := hide (fun w h => rwork8_any s k w h hk (is_regs8 (hfit k hk).is))
  have HOK := hide (ok_i64 (loads_ok ha hu hk))
  have HAL : Hid (allL s k = loadsTo s k ++ [⟨(s.ts.getD k task0).T, workZ (s.ts.getD k task0).regs⟩]) := rfl
  have HLN := hide (all_len s k)
  obtain ⟨hrow, -⟩ := ht k hk
  have XF0 := hide hrow
  have HIN := hide hs
  clear HNO hu hfit ha ht hs hi hr hLI hrow
  obtain ⟨rl, ao, cap, ts⟩ := s
  simp only at hao hbox hk hlen h8 h1 hne HAL XF0 CW i1
  subst hao
  have HBX := hide hbox
  have XF : Hid (∀ W, Below (w.alloc (.cells #[.int .i64 rl, .slice (some ⟨b, off, none⟩) ts.length cap] 24)).heap.size (w.alloc (.cells #[.int .i64 rl, .slice (some ⟨b, off, none⟩) ts.length cap] 24)) W → XBox W w.heap.size (.int .i64 rl) (.slice (some ⟨b, off, none⟩) ts.length cap) b (off + k * 9) (ts.getD k task0)) := hide (fun W h => by
    obtain ⟨q0, q1⟩ := (unhide HBX).bel h
    exact ⟨q0, q1, (unhide XF0).bel (bel_box (Below.refl _ _) h)⟩)
  clear hbox HBX XF0
  have V0 : Hid (Below (w.alloc (.cells #[.int .i64 rl, .slice (some ⟨b, off, none⟩) ts.length cap] 24)).heap.size (w.alloc (.cells #[.int .i64 rl, .slice (some ⟨b, off, none⟩) ts.length cap] 24)) (w.alloc (.cells #[.int .i64 rl, .slice (some ⟨b, off, none⟩) ts.length cap] 24))) := Below.refl _ _
  have B1 : Hid (Below w.heap.size w (w.alloc (.cells #[.int .i64 rl, .slice (some ⟨b, off, none⟩) ts.length cap] 24))) := (Below.refl _ _).alloc (Nat.le_refl _) _
  have hbox := unhide XF _ (unhide V0)
  generalize workZ (ts.getD k task0).regs = wk at *
  generalize ts.getD k task0 = t at *
  generalize allL ⟨rl, some ⟨b, off, none⟩, cap, ts⟩ k = AL at *
  generalize loadsTo ⟨rl, some ⟨b, off, none⟩, cap, ts⟩ k = LT at *
  have hk1 : (0 : Int) ≤ (k : Int) := by omega
  have hk2 : (k : Int) < (ts.length : Int) := by omega
  go_enter Try.func19, Try.ntmps19
  rw [SetV.val]
  simp only
  have D0 := hide (unhide B1).drew
  have VD := hide (unhide V0).drew
  go_wp2_with fail
  refine wp_region_held_drew (S := (fun w9 => XBox w9 w.heap.size (.int .i64 rl) (.slice (some ⟨b, off, none⟩) ts.length cap) b (off + k * 9) t)) (by kernel_rfl) (hbox.drew) (fun hHeld => ?_)
  refine take_yes 0 17 (.int .i64 bl) rfl rfl (by kernel_rfl) (by kernel_rfl) (by kernel_rfl) (fun _ _ _ h => h) rfl (by assumption) (by intro w9 hS9; obtain ⟨s0, s1, ⟨t0, t1, t2, t3, t4, t5, t6, t7, t8⟩⟩ := hS9; go_simp) ?_
  simp only [List.setIfInBounds_toArray, List.set_cons_zero, List.set_cons_succ]
  refine take_yes 1 18 (.agg #[.int .i64 rl, .slice (some ⟨b, off, none⟩) ts.length cap]) rfl rfl (by kernel_rfl) (by kernel_rfl) (by kernel_rfl) (fun _ _ _ h => h) rfl (by assumption) (by intro w9 hS9; obtain ⟨s0, s1, ⟨t0, t1, t2, t3, t4, t5, t6, t7, t8⟩⟩ := hS9; go_simp) ?_
  simp only [List.setIfInBounds_toArray, List.set_cons_zero, List.set_cons_succ]
  refine take_yes 2 19 (.int .i64 k) rfl rfl (by kernel_rfl) (by kernel_rfl) (by kernel_rfl) (fun _ _ _ h => h) rfl (by assumption) (by intro w9 hS9; obtain ⟨s0, s1, ⟨t0, t1, t2, t3, t4, t5, t6, t7, t8⟩⟩ := hS9; go_simp) ?_
  simp only [List.setIfInBounds_toArray, List.set_cons_zero, List.set_cons_succ]
  refine take_yes 4 21 (.pointer (some ⟨w.heap.size, 1, none⟩)) rfl rfl (by kernel_rfl) (by kernel_rfl) (by kernel_rfl) (fun _ _ _ h => h) rfl (by assumption) (by intro w9 hS9; obtain ⟨s0, s1, ⟨t0, t1, t2, t3, t4, t5, t6, t7, t8⟩⟩ := hS9; go_simp) ?_
  simp only [List.setIfInBounds_toArray, List.set_cons_zero, List.set_cons_succ]
  refine take_yes 5 22 (.slice (some ⟨b, off, none⟩) ts.length cap) rfl rfl (by kernel_rfl) (by kernel_rfl) (by kernel_rfl) (fun _ _ _ h => h) rfl (by assumption) (by intro w9 hS9; obtain ⟨s0, s1, ⟨t0, t1, t2, t3, t4, t5, t6, t7, t8⟩⟩ := hS9; go_simp) ?_
  simp only [List.setIfInBounds_toArray, List.set_cons_zero, List.set_cons_succ]
  refine take_yes 6 23 (.int .i64 k) rfl rfl (by kernel_rfl) (by kernel_rfl) (by kernel_rfl) (fun _ _ _ h => h) rfl (by assumption) (by intro w9 hS9; obtain ⟨s0, s1, ⟨t0, t1, t2, t3, t4, t5, t6, t7, t8⟩⟩ := hS9; go_simp) ?_
  simp only [List.setIfInBounds_toArray, List.set_cons_zero, List.set_cons_succ]
  refine take_yes 7 24 (.pointer (some ⟨b, off + k * 9, none⟩)) rfl rfl (by kernel_rfl) (by kernel_rfl) (by kernel_rfl) (fun _ _ _ h => h) rfl (by assumption) (by intro w9 hS9; obtain ⟨s0, s1, ⟨t0, t1, t2, t3, t4, t5, t6, t7, t8⟩⟩ := hS9; go_simp) ?_
  simp only [List.setIfInBounds_toArray, List.set_cons_zero, List.set_cons_succ]
  refine take_yes 8 25 (.pointer (some ⟨b, off + k * 9 + 1, none⟩)) rfl rfl (by kernel_rfl) (by kernel_rfl) (by kernel_rfl) (fun _ _ _ h => h) rfl (by assumption) (by intro w9 hS9; obtain ⟨s0, s1, ⟨t0, t1, t2, t3, t4, t5, t6, t7, t8⟩⟩ := hS9; go_simp) ?_
  simp only [List.setIfInBounds_toArray, List.set_cons_zero, List.set_cons_succ]
  refine take_yes 9 26 (.int .i64 t.T) rfl rfl (by kernel_rfl) (by kernel_rfl) (by kernel_rfl) (fun _ _ _ h => h) rfl (by assumption) (by intro w9 hS9; obtain ⟨s0, s1, ⟨t0, t1, t2, t3, t4, t5, t6, t7, t8⟩⟩ := hS9; go_simp) ?_
  simp only [List.setIfInBounds_toArray, List.set_cons_zero, List.set_cons_succ]
  refine take_yes 10 27 (.agg #[.int .i64 rl, .slice (some ⟨b, off, none⟩) ts.length cap]) rfl rfl (by kernel_rfl) (by kernel_rfl) (by kernel_rfl) (fun _ _ _ h => h) rfl (by assumption) (by intro w9 hS9; obtain ⟨s0, s1, ⟨t0, t1, t2, t3, t4, t5, t6, t7, t8⟩⟩ := hS9; go_simp) ?_
  simp only [List.setIfInBounds_toArray, List.set_cons_zero, List.set_cons_succ]
  refine take_yes 11 28 (.int .i64 k) rfl rfl (by kernel_rfl) (by kernel_rfl) (by kernel_rfl) (fun _ _ _ h => h) rfl (by assumption) (by intro w9 hS9; obtain ⟨s0, s1, ⟨t0, t1, t2, t3, t4, t5, t6, t7, t8⟩⟩ := hS9; go_simp) ?_
  simp only [List.setIfInBounds_toArray, List.set_cons_zero, List.set_cons_succ]
  refine wpAnyH_ready (rs := [3]) (by kernel_rfl) (by decide) (AllReadyH.cons rfl (fun K hK => ?_) AllReadyH.nil)
  refine (if_pos rfl).mpr ?_
  go_wp2_with fail
  refine (unhide CL (w.alloc (.cells #[.int .i64 rl, .slice (some ⟨b, off, none⟩) ts.length cap] 24)).drew (set_bel (unhide HIN) (unhide D0))).mono ?_
  rintro e x1 ⟨v0, rfl, ow, bel⟩
  have RA := hide ow
  clear ow
  have N1 := hide (below_on (unhide D0) bel)
  have V1 := hide (below_on (unhide VD) bel)
  refine hK.out _ _ (hHeld.bel bel) (fun hHeld => ?_)
  clear hK K bel
  refine wpAnyH_ready (rs := [12]) (by kernel_rfl) (by decide) (AllReadyH.cons rfl (fun K hK => ?_) AllReadyH.nil)
  refine (if_pos rfl).mpr ?_
  go_wp2_with fail
  refine (unhide CW x1 (set_bel (unhide HIN) (unhide N1))).mono ?_
  rintro e x2 ⟨rfl, bel⟩
  have RB := hide (own_belG (unhide RA) bel)
  have N2 := hide (below_on (unhide N1) bel)
  have V2 := hide (below_on (unhide V1) bel)
  refine hK.out _ _ (hHeld.bel bel) (fun hHeld => ?_)
  clear hK K bel
  refine take_yes 13 30 (.agg #[.int .i64 t.T, .int .i64 wk]) rfl rfl (by kernel_rfl) (by kernel_rfl) (by kernel_rfl) (fun _ _ _ h => h) rfl (by assumption) (by intro w9 hS9; obtain ⟨s0, s1, ⟨t0, t1, t2, t3, t4, t5, t6, t7, t8⟩⟩ := hS9; go_simp) ?_
  simp only [List.setIfInBounds_toArray, List.set_cons_zero, List.set_cons_succ]
  refine wpAnyH_ready (rs := [14]) (by kernel_rfl) (by decide) (AllReadyH.cons rfl (fun K hK => ?_) AllReadyH.nil)
  go_simp
  refine hK.out _ _ (hHeld.bel ((Below.refl _ _).alloc (Nat.le_refl _) _)) (fun hHeld => ?_)
  clear hK K
  try simp only [List.setIfInBounds_toArray, List.set_cons_zero, List.set_cons_succ]
  have V3 := hide ((unhide V2).alloc (unhide V2).size (.cells #[.int .i64 t.T, .int .i64 wk] 52))
  have R3 := hide (own_belG (unhide RB) ((Below.refl _ _).alloc (Nat.le_refl _) (.cells #[.int .i64 t.T, .int .i64 wk] 52)))
  have P3 := hide (one_cells (w := x2) ⟨t.T, wk⟩)
  have Z3 : Hid ((w.alloc (.cells #[.int .i64 rl, .slice (some ⟨b, off, none⟩) ts.length cap] 24)).heap.size ≤ (x2.alloc (.cells #[.int .i64 t.T, .int .i64 wk] 52)).heap.size) := hide (unhide V3).size
  refine wpAnyH_ready (rs := [15]) (by kernel_rfl) (by decide) (AllReadyH.cons rfl (fun K hK => ?_) AllReadyH.nil)
  refine Fix.step_append_at 32 rfl rfl _ _ rfl (w.alloc (.cells #[.int .i64 rl, .slice (some ⟨b, off, none⟩) ts.length cap] 24)).heap.size _ k _ rfl (unhide R3) ⟨x2.heap.size, 0, none⟩ 1 1 [⟨t.T, wk⟩] rfl rfl (unhide P3) (by omega) (unhide Z3) ?_
  intro v1 W5 rr bb
  have V5 := hide ((unhide V3).trans bb)
  have B5 := hide (bel_box (Below.refl _ _) (unhide V5))
  obtain ⟨ao2, cap2, rfl, hin2⟩ := Fix.loads_own (L := AL) (by rw [unhide HAL, Fix.lcells_app]; exact rr) (unhide HOK) (by rw [unhide HLN]; omega)
  have HI2 := hide hin2
  clear rr bb hin2
  refine hK.out _ _ (unhide XF _ (unhide V5)) (fun hHeld => ?_)
  clear hK K
  try simp only [List.setIfInBounds_toArray, List.set_cons_zero, List.set_cons_succ]
  refine wpAnyH_ready (rs := [16]) (by kernel_rfl) (by decide) (AllReadyH.cons rfl (fun K hK => ?_) AllReadyH.nil)
  refine (if_pos rfl).mpr ?_
  go_wp2_with fail
  refine (Fix.rLeast_any bl ao2 cap2 AL W5 (unhide HI2)).mono ?_
  rintro e x3 ⟨⟨r, hr, rfl⟩, bel⟩
  have HY := hide (unhide HYES r hr)
  clear hr
  generalize Fix.valO r = vr at *
  generalize r.isSome = sr at *
  have N3 := hide (below_on (unhide B5) bel)
  refine hK.out _ _ (hHeld.bel bel) (fun hHeld => ?_)
  clear hK K bel
  refine take_yes 17 34 (.int .i64 vr) rfl rfl (by kernel_rfl) (by kernel_rfl) (by kernel_rfl) (fun _ _ _ h => h) rfl (by assumption) (by intro w9 hS9; obtain ⟨s0, s1, ⟨t0, t1, t2, t3, t4, t5, t6, t7, t8⟩⟩ := hS9; go_simp) ?_
  simp only [List.setIfInBounds_toArray, List.set_cons_zero, List.set_cons_succ]
  refine take_yes 18 35 (.bool sr) rfl rfl (by kernel_rfl) (by kernel_rfl) (by kernel_rfl) (fun _ _ _ h => h) rfl (by assumption) (by intro w9 hS9; obtain ⟨s0, s1, ⟨t0, t1, t2, t3, t4, t5, t6, t7, t8⟩⟩ := hS9; go_simp) ?_
  simp only [List.setIfInBounds_toArray, List.set_cons_zero, List.set_cons_succ]
  refine take_yes 19 6 (.int .i64 vr) rfl rfl (by kernel_rfl) (by kernel_rfl) (by kernel_rfl) (fun _ _ _ h => h) rfl (by assumption) (by intro w9 hS9; obtain ⟨s0, s1, ⟨t0, t1, t2, t3, t4, t5, t6, t7, t8⟩⟩ := hS9; go_simp) ?_
  simp only [List.setIfInBounds_toArray, List.set_cons_zero, List.set_cons_succ]
  refine take_yes 20 7 (.bool sr) rfl rfl (by kernel_rfl) (by kernel_rfl) (by kernel_rfl) (fun _ _ _ h => h) rfl (by assumption) (by intro w9 hS9; obtain ⟨s0, s1, ⟨t0, t1, t2, t3, t4, t5, t6, t7, t8⟩⟩ := hS9; go_simp) ?_
  simp only [List.setIfInBounds_toArray, List.set_cons_zero, List.set_cons_succ]
  refine wpAnyH_done (by kernel_rfl) ?_ _
  clear hHeld
  go_wp2
  go_ret2
  exact ⟨unhide HY, unhide N3⟩
end Go.Proofs.Ytndhjfpjhpnbaaa.Lex
