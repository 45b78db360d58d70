/- The laws of chapter 11, over what package active answers: in that time just so much comes. -/
import Derived.Test.YtmkcejkopmfnfaaActLaw2
namespace Go.Proofs.Ytmkcejkopmfnfaa.Lex
open Go.ChangeShapes Go.WideShapes Go.RowKit

theorem own_lowF {w : World} {B C e n m : Nat} {v : Value} {xs : List Value} (h : w.ownsRow B e n v m xs) (hC : C ≤ B) : w.ownsRow C e n v m xs := ⟨h.1, h.2.imp id fun ⟨g, c, cur, e, hg, r⟩ => ⟨g, c, cur, e, by omega, r⟩⟩
set_option maxHeartbeats 3200000 in
theorem actsum_law (hL : CALoads) (hO : CAOf) (s : SetV) (i bl : Int) (w : World) (hs : SetIn w s) (hi : I64 i) (hb0 : I64 bl) : Calls Try.prog 6 #[s.val, .int .i64 i, .int .i64 bl] w fun e w' => e = .returned (.bool true) ∧ Below w.heap.size w w' := by
  have hlen := hs.len
  have CK := hide (fun w => aknown_any hL hO w)
  by_cases h10 : (10 : Int) < s.ts.length
  · go_enter Try.func6, Try.ntmps6
    rw [SetV.val]
    go_wp2
    go_ret
    exact ⟨rfl, (Below.refl _ _).alloc (Nat.le_refl _) _⟩
  have CA := hide (fun w h => rall_any s w h)
  cases hb : allB s
  · rw [hb] at CA
    clear hb
    go_enter Try.func6, Try.ntmps6
    rw [SetV.val]
    go_wp2_with fail
    refine (unhide CA _ (set_bel hs ((Below.refl _ _).alloc (Nat.le_refl _) _))).mono ?_
    rintro e w1 ⟨rfl, bel⟩
    have B1 := hide (bel_box (Below.refl _ _) bel)
    obtain ⟨c0, c1⟩ := (sbox_new w s 24).bel bel
    clear bel
    go_wp2
    go_ret
    exact ⟨rfl, unhide B1⟩
  rw [hb] at CA
  by_cases q0 : i < 0
  · clear hb
    go_enter Try.func6, Try.ntmps6
    rw [SetV.val]
    go_wp2_with fail
    refine (unhide CA _ (set_bel hs ((Below.refl _ _).alloc (Nat.le_refl _) _))).mono ?_
    rintro e w1 ⟨rfl, bel⟩
    have B1 := hide (bel_box (Below.refl _ _) bel)
    obtain ⟨c0, c1⟩ := (sbox_new w s 24).bel bel
    clear bel
    go_wp2
    go_ret
    exact ⟨rfl, unhide B1⟩
  by_cases q1 : (s.ts.length : Int) ≤ i
  · clear hb
    go_enter Try.func6, Try.ntmps6
    rw [SetV.val]
    go_wp2_with fail
    refine (unhide CA _ (set_bel hs ((Below.refl _ _).alloc (Nat.le_refl _) _))).mono ?_
    rintro e w1 ⟨rfl, bel⟩
    have B1 := hide (bel_box (Below.refl _ _) bel)
    obtain ⟨c0, c1⟩ := (sbox_new w s 24).bel bel
    clear bel
    go_wp2
    go_ret
    exact ⟨rfl, unhide B1⟩
  have hu : ∀ t ∈ s.ts, U64 t.ecb ∧ U64 t.ucb := fun t ht => ⟨(hs.each t ht).ecb, (hs.each t ht).ucb⟩
  obtain ⟨hr, h8, -, hfit⟩ := all_fits hb hu
  obtain ⟨k, rfl⟩ : ∃ k : Nat, i = k := ⟨i.toNat, by omega⟩
  have hk : k < s.ts.length := by omega
  have hne : s.ts ≠ [] := fun e => by rw [e] at hk; simp at hk
  obtain ⟨b, off, hao, ht⟩ := set_task hs hne
  have C1 := hide (fun w h => hO s k bl w h hb hi hb0)
  have hLI : loadsI s k = loadsTo s k := by rw [loadsI, in_nat hk]; rfl
  have CL := hide (fun w h => rloads_any s k w h hb hi)
  rw [hLI, loads_len] at CL
  have CW := hide (fun w h => rwork8_any s k w h hk (is_regs8 (hfit k hk).is))
  have ok := loads_ok hb hu hk
  have HOK := hide (ok_i64 ok)
  have hwk := (task_time (hfit k hk).is).2
  have HLOW := hide (fun (n : Int) (h : 1 ≤ n) => act_low ok bl h)
  have HAL : Hid (allL s k = loadsTo s k ++ [⟨(s.ts.getD k task0).T, workZ (s.ts.getD k task0).regs⟩]) := rfl
  have HLN := hide (all_len s k)
  obtain ⟨hrow, -⟩ := ht k hk
  have XF0 := hide hrow
  have HIN := hide hs
  have hbx := sbox_new w s 24
  clear hO hL hb hu hfit ht hs hi hr hLI hrow hb0 ok
  obtain ⟨rl, ao, cap, ts⟩ := s
  simp only at hao hbx hk hlen h8 hne HAL XF0 CW q1 h10 HLOW hwk
  subst hao
  have HBX := hide hbx
  clear hbx
  have XF : Hid (∀ W, Below (w.alloc (.cells #[.int .i64 rl, .slice (some ⟨b, off, none⟩) ts.length cap] 24)).heap.size (w.alloc (.cells #[.int .i64 rl, .slice (some ⟨b, off, none⟩) ts.length cap] 24)) W → XBox W w.heap.size (.int .i64 rl) (.slice (some ⟨b, off, none⟩) ts.length cap) b (off + k * 9) (ts.getD k task0)) := hide (fun W h => by
    obtain ⟨z0, z1⟩ := (unhide HBX).bel h
    exact ⟨z0, z1, (unhide XF0).bel (bel_box (Below.refl _ _) h)⟩)
  clear HBX XF0
  generalize workZ (ts.getD k task0).regs = wk at *
  generalize ts.getD k task0 = t at *
  have hk1 : (0 : Int) ≤ (k : Int) := by omega
  have hk2 : (k : Int) < (ts.length : Int) := by omega
  go_enter Try.func6, Try.ntmps6
  rw [SetV.val]
  simp only
  go_wp2_with fail
  refine (unhide CA _ (set_bel (unhide HIN) ((Below.refl _ _).alloc (Nat.le_refl _) _))).mono ?_
  rintro e w1 ⟨rfl, bel⟩
  have VV1 := hide bel
  have B1 := hide (bel_box (Below.refl _ _) bel)
  have c0 := (unhide XF _ (unhide VV1)).c0
  have c1 := (unhide XF _ (unhide VV1)).c1
  clear bel
  go_wp2_with fail
  refine (unhide C1 _ (set_bel (unhide HIN) (unhide B1))).mono ?_
  rintro e w2 ⟨hp, bel⟩
  obtain ⟨r, rfl, -, hr⟩ := ofp_form hp
  have VV2 := hide (below_on (unhide VV1) bel)
  have B2 := hide (below_on (unhide B1) bel)
  clear bel c0 c1 hp
  cases r with
  | none =>
    clear hr
    simp only [Fix.valO, Option.getD_none, Option.isSome_none]
    have B3 := hide (unhide B2)
    go_wp2_with fail
    refine (unhide CK _).mono ?_
    rintro e w4 ⟨rfl, bel⟩
    have B4 := hide (below_on (unhide B3) bel)
    clear bel
    go_wp2
    go_ret
    exact ⟨rfl, unhide B4⟩
  | some n =>
    obtain ⟨-, hm, hl⟩ := hr n rfl
    simp only [Int.toNat_natCast] at hm hl
    simp only [Fix.valO, Option.getD_some, Option.isSome_some]
    have n1 := hl.1
    have hf := hl.2.1
    have hlow := unhide HLOW n n1.1
    have hbb := (Fix.may_parts hm).1
    rw [hf] at hlow
    have hsy := Fix.sum_yes hm (u := n) ⟨by omega, n1.2⟩
    have CS := hide (fun ao cap w h => Fix.rSum_any bl ao cap (allL ⟨rl, some ⟨b, off, none⟩, cap, ts⟩ k) n w h)
    clear hr hm hl
    have e1 : IntKind.i64.wrap (bl + wk) = bl + wk := i64_is _ (by omega)
    have CS' : Hid (∀ ao cap2 w, Fix.LoadsIn w ao (allL ⟨rl, some ⟨b, off, none⟩, cap, ts⟩ k) → Calls Try.prog 15 #[.int .i64 bl, .slice ao (allL ⟨rl, some ⟨b, off, none⟩, cap, ts⟩ k).length cap2, .int .i64 n] w fun e w' => e = .returned (.tuple #[.int .i64 n, .bool true]) ∧ Below w.heap.size w w') := hide (fun ao cap2 W h => by
      have c := Fix.rSum_any bl ao cap2 (allL ⟨rl, some ⟨b, off, none⟩, cap, ts⟩ k) n W h
      rw [hsy, if_pos rfl, hf] at c
      exact c)
    clear CS hsy hf
    generalize allL ⟨rl, some ⟨b, off, none⟩, cap, ts⟩ k = AL at *
    generalize loadsTo ⟨rl, some ⟨b, off, none⟩, cap, ts⟩ k = LT at *
    have hbox := unhide XF _ (unhide VV2)
    have c0 := hbox.c0
    have c1 := hbox.c1
    go_wp2_with fail
    clear c0 c1
    have D0 := hide (unhide B2).drew
    have VD := hide (unhide VV2).drew
    refine wp_region_held_drew (S := (fun w9 => XBox w9 w.heap.size (.int .i64 rl) (.slice (some ⟨b, off, none⟩) ts.length cap) b (off + k * 9) t)) (by kernel_rfl) (hbox.drew) (fun hHeld => ?_)
    refine take_yes 0 46 (.agg #[.int .i64 rl, .slice (some ⟨b, off, none⟩) ts.length cap]) rfl rfl (by kernel_rfl) (by kernel_rfl) (by kernel_rfl) (fun _ _ _ h => h) rfl (by assumption) (by intro w9 hS9; obtain ⟨s0, s1, ⟨t0, t1, t2, t3, t4, t5, t6, t7, t8⟩⟩ := hS9; go_simp) ?_
    simp only [List.setIfInBounds_toArray, List.set_cons_zero, List.set_cons_succ]
    refine take_yes 1 47 (.int .i64 k) rfl rfl (by kernel_rfl) (by kernel_rfl) (by kernel_rfl) (fun _ _ _ h => h) rfl (by assumption) (by intro w9 hS9; obtain ⟨s0, s1, ⟨t0, t1, t2, t3, t4, t5, t6, t7, t8⟩⟩ := hS9; go_simp) ?_
    simp only [List.setIfInBounds_toArray, List.set_cons_zero, List.set_cons_succ]
    refine take_yes 3 49 (.pointer (some ⟨w.heap.size, 1, none⟩)) rfl rfl (by kernel_rfl) (by kernel_rfl) (by kernel_rfl) (fun _ _ _ h => h) rfl (by assumption) (by intro w9 hS9; obtain ⟨s0, s1, ⟨t0, t1, t2, t3, t4, t5, t6, t7, t8⟩⟩ := hS9; go_simp) ?_
    simp only [List.setIfInBounds_toArray, List.set_cons_zero, List.set_cons_succ]
    refine take_yes 4 50 (.slice (some ⟨b, off, none⟩) ts.length cap) rfl rfl (by kernel_rfl) (by kernel_rfl) (by kernel_rfl) (fun _ _ _ h => h) rfl (by assumption) (by intro w9 hS9; obtain ⟨s0, s1, ⟨t0, t1, t2, t3, t4, t5, t6, t7, t8⟩⟩ := hS9; go_simp) ?_
    simp only [List.setIfInBounds_toArray, List.set_cons_zero, List.set_cons_succ]
    refine take_yes 5 51 (.int .i64 k) rfl rfl (by kernel_rfl) (by kernel_rfl) (by kernel_rfl) (fun _ _ _ h => h) rfl (by assumption) (by intro w9 hS9; obtain ⟨s0, s1, ⟨t0, t1, t2, t3, t4, t5, t6, t7, t8⟩⟩ := hS9; go_simp) ?_
    simp only [List.setIfInBounds_toArray, List.set_cons_zero, List.set_cons_succ]
    refine take_yes 6 52 (.pointer (some ⟨b, off + k * 9, none⟩)) rfl rfl (by kernel_rfl) (by kernel_rfl) (by kernel_rfl) (fun _ _ _ h => h) rfl (by assumption) (by intro w9 hS9; obtain ⟨s0, s1, ⟨t0, t1, t2, t3, t4, t5, t6, t7, t8⟩⟩ := hS9; go_simp) ?_
    simp only [List.setIfInBounds_toArray, List.set_cons_zero, List.set_cons_succ]
    refine take_yes 7 53 (.pointer (some ⟨b, off + k * 9 + 1, none⟩)) rfl rfl (by kernel_rfl) (by kernel_rfl) (by kernel_rfl) (fun _ _ _ h => h) rfl (by assumption) (by intro w9 hS9; obtain ⟨s0, s1, ⟨t0, t1, t2, t3, t4, t5, t6, t7, t8⟩⟩ := hS9; go_simp) ?_
    simp only [List.setIfInBounds_toArray, List.set_cons_zero, List.set_cons_succ]
    refine take_yes 8 54 (.int .i64 t.T) rfl rfl (by kernel_rfl) (by kernel_rfl) (by kernel_rfl) (fun _ _ _ h => h) rfl (by assumption) (by intro w9 hS9; obtain ⟨s0, s1, ⟨t0, t1, t2, t3, t4, t5, t6, t7, t8⟩⟩ := hS9; go_simp) ?_
    simp only [List.setIfInBounds_toArray, List.set_cons_zero, List.set_cons_succ]
    refine take_yes 9 55 (.agg #[.int .i64 rl, .slice (some ⟨b, off, none⟩) ts.length cap]) rfl rfl (by kernel_rfl) (by kernel_rfl) (by kernel_rfl) (fun _ _ _ h => h) rfl (by assumption) (by intro w9 hS9; obtain ⟨s0, s1, ⟨t0, t1, t2, t3, t4, t5, t6, t7, t8⟩⟩ := hS9; go_simp) ?_
    simp only [List.setIfInBounds_toArray, List.set_cons_zero, List.set_cons_succ]
    refine take_yes 10 56 (.int .i64 k) rfl rfl (by kernel_rfl) (by kernel_rfl) (by kernel_rfl) (fun _ _ _ h => h) rfl (by assumption) (by intro w9 hS9; obtain ⟨s0, s1, ⟨t0, t1, t2, t3, t4, t5, t6, t7, t8⟩⟩ := hS9; go_simp) ?_
    simp only [List.setIfInBounds_toArray, List.set_cons_zero, List.set_cons_succ]
    refine wpAnyH_ready (rs := [2]) (by kernel_rfl) (by decide) (AllReadyH.cons rfl (fun K hK => ?_) AllReadyH.nil)
    refine (if_pos rfl).mpr ?_
    go_wp2_with fail
    refine (unhide CL w2.drew (set_bel (unhide HIN) (unhide D0))).mono ?_
    rintro e x1 ⟨v0, rfl, ow, bel⟩
    have RA := hide (own_lowF ow (unhide VV2).size)
    clear ow
    have N1 := hide (below_on (unhide D0) bel)
    have V1 := hide (below_on (unhide VD) bel)
    refine hK.out _ _ (hHeld.bel bel) (fun hHeld => ?_)
    clear hK K bel
    refine wpAnyH_ready (rs := [11]) (by kernel_rfl) (by decide) (AllReadyH.cons rfl (fun K hK => ?_) AllReadyH.nil)
    refine (if_pos rfl).mpr ?_
    go_wp2_with fail
    refine (unhide CW x1 (set_bel (unhide HIN) (unhide N1))).mono ?_
    rintro e x2 ⟨rfl, bel⟩
    have RB := hide (own_belG (unhide RA) bel)
    have N2 := hide (below_on (unhide N1) bel)
    have V2 := hide (below_on (unhide V1) bel)
    refine hK.out _ _ (hHeld.bel bel) (fun hHeld => ?_)
    clear hK K bel
    refine take_yes 12 58 (.agg #[.int .i64 t.T, .int .i64 wk]) rfl rfl (by kernel_rfl) (by kernel_rfl) (by kernel_rfl) (fun _ _ _ h => h) rfl (by assumption) (by intro w9 hS9; obtain ⟨s0, s1, ⟨t0, t1, t2, t3, t4, t5, t6, t7, t8⟩⟩ := hS9; go_simp) ?_
    simp only [List.setIfInBounds_toArray, List.set_cons_zero, List.set_cons_succ]
    refine wpAnyH_ready (rs := [13]) (by kernel_rfl) (by decide) (AllReadyH.cons rfl (fun K hK => ?_) AllReadyH.nil)
    go_simp
    refine hK.out _ _ (hHeld.bel ((Below.refl _ _).alloc (Nat.le_refl _) _)) (fun hHeld => ?_)
    clear hK K
    try simp only [List.setIfInBounds_toArray, List.set_cons_zero, List.set_cons_succ]
    have V3 := hide ((unhide V2).alloc (unhide V2).size (.cells #[.int .i64 t.T, .int .i64 wk] 41))
    have R3 := hide (own_belG (unhide RB) ((Below.refl _ _).alloc (Nat.le_refl _) (.cells #[.int .i64 t.T, .int .i64 wk] 41)))
    have P3 := hide (one_cells (w := x2) ⟨t.T, wk⟩)
    have Z3 : Hid ((w.alloc (.cells #[.int .i64 rl, .slice (some ⟨b, off, none⟩) ts.length cap] 24)).heap.size ≤ (x2.alloc (.cells #[.int .i64 t.T, .int .i64 wk] 41)).heap.size) := hide (unhide V3).size
    refine wpAnyH_ready (rs := [14]) (by kernel_rfl) (by decide) (AllReadyH.cons rfl (fun K hK => ?_) AllReadyH.nil)
    refine Fix.step_append_at 60 rfl rfl _ _ rfl (w.alloc (.cells #[.int .i64 rl, .slice (some ⟨b, off, none⟩) ts.length cap] 24)).heap.size _ k _ rfl (unhide R3) ⟨x2.heap.size, 0, none⟩ 1 1 [⟨t.T, wk⟩] rfl rfl (unhide P3) (by omega) (unhide Z3) ?_
    intro v1 W5 rr bb
    have V5 := hide ((unhide V3).trans bb)
    have B5 := hide (bel_box (Below.refl _ _) (unhide V5))
    obtain ⟨ao2, cap2, rfl, hin2⟩ := Fix.loads_own (L := AL) (by rw [unhide HAL, Fix.lcells_app]; exact rr) (unhide HOK) (by rw [unhide HLN]; omega)
    have HI2 := hide hin2
    clear rr bb hin2
    refine hK.out _ _ (unhide XF _ (unhide V5)) (fun hHeld => ?_)
    clear hK K
    try simp only [List.setIfInBounds_toArray, List.set_cons_zero, List.set_cons_succ]
    refine take_yes 15 9 (.slice ao2 AL.length cap2) rfl rfl (by kernel_rfl) (by kernel_rfl) (by kernel_rfl) (fun _ _ _ h => h) rfl (by assumption) (by intro w9 hS9; obtain ⟨s0, s1, ⟨t0, t1, t2, t3, t4, t5, t6, t7, t8⟩⟩ := hS9; go_simp) ?_
    simp only [List.setIfInBounds_toArray, List.set_cons_zero, List.set_cons_succ]
    refine wpAnyH_done (by kernel_rfl) ?_ _
    clear hHeld
    have V9 := hide (unhide V5)
    have HI9 := hide (unhide HI2)
    have c0 := (unhide XF _ (unhide V5)).c0
    have c1 := (unhide XF _ (unhide V5)).c1
    go_wp2_with fail
    refine (unhide CS' ao2 cap2 W5 (unhide HI2)).mono ?_
    rintro e w6 ⟨rfl, bel⟩
    have V6 := hide (below_on (unhide V5) bel)
    have B6 := hide (below_on (unhide B5) bel)
    clear bel c0 c1
    have c0 := (unhide XF _ (unhide V6)).c0
    have c1 := (unhide XF _ (unhide V6)).c1
    go_wp2_with fail
    refine (unhide CW _ (set_bel (unhide HIN) (unhide B6))).mono ?_
    rintro e w7 ⟨rfl, bel⟩
    have B7 := hide (below_on (unhide B6) bel)
    clear bel c0 c1
    go_wp2_with fail
    refine (unhide CK _).mono ?_
    rintro e w8 ⟨rfl, bel⟩
    have B8 := hide (below_on (unhide B7) bel)
    clear bel
    go_wp2
    go_ret
    exact ⟨rfl, unhide B8⟩
end Go.Proofs.Ytmkcejkopmfnfaa.Lex
