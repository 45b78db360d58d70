/- Chapter 11: what the document's own functions answer. -/
import Derived.Test.YtndhjfpjhpnbaaaActSpec
namespace Go.Proofs.Ytndhjfpjhpnbaaa.Lex
set_option maxRecDepth 100000
open Go.ChangeShapes Go.WideShapes Go.RowKit

theorem one_cells {w : World} (x : Fix.LoadV) : ∀ j u, (Fix.lcells [x])[j]? = some u → (w.alloc (.cells #[.int .i64 x.T, .int .i64 x.C] 52)).cell? ((⟨w.heap.size, 0, none⟩ : Addr).add j) = some u := by
  intro j u hj
  have e : Fix.lcells [x] = [.int .i64 x.T, .int .i64 x.C] := rfl
  rw [e] at hj
  match j, hj with
  | 0, hj => simp at hj; subst hj; simp [Addr.add]
  | 1, hj => simp at hj; subst hj; simp [Addr.add]
set_option maxHeartbeats 3200000 in
theorem rloads_any (s : SetV) (i : Int) (w : World) (hs : SetIn w s) (ha : allB s = true) (hi : I64 i) : Calls Try.prog 20 #[s.val, .int .i64 i] w fun e w' => ∃ v, e = .returned v ∧ w'.ownsRow w.heap.size 52 2 v (loadsI s i).length (Fix.lcells (loadsI s i)) ∧ Below w.heap.size w w' := by
  have hlen := hs.len
  have hu : ∀ t ∈ s.ts, U64 t.ecb ∧ U64 t.ucb := fun t ht => ⟨(hs.each t ht).ecb, (hs.each t ht).ucb⟩
  obtain ⟨hr, h8, -, hfit⟩ := all_fits ha hu
  have h1 : 1 ≤ s.ts.length := by simp only [allB, Bool.and_eq_true, decide_eq_true_eq] at ha; exact ha.2.1
  have hne : s.ts ≠ [] := fun e => by rw [e] at h1; simp at h1
  obtain ⟨b, off, hao, ht⟩ := set_task hs hne
  have hbox := sbox_new w s 24
  by_cases hin : inI s i = true
  · have hin' := hin
    simp only [inI, Bool.and_eq_true, decide_eq_true_eq] at hin'
    obtain ⟨k0, rfl⟩ : ∃ k0 : Nat, i = k0 := ⟨i.toNat, by omega⟩
    have hk0 : k0 < s.ts.length := by omega
    have HLI : Hid (loadsI s k0 = loadsTo s k0) := by show loadsI s k0 = _; rw [loadsI, if_pos hin]; rfl
    have HT := hide ht
    have HWK := hide (fun k (hk : k < s.ts.length) => task_time (hfit k hk).is)
    have HMD := hide (fun k : Nat => made_range hr (k : Int))
    have CW := hide (fun k (hk : k < s.ts.length) w h => rwork8_any s k w h hk (is_regs8 (hfit k hk).is))
    have CM := hide (fun (k : Nat) w h => rmade_any s k w h hr)
    have HNX := hide (loads_next s)
    have HLE := hide (loads_len s)
    have HLZ : Hid (∀ k, loadZ s k = ⟨(s.ts.getD k task0).T, workZ (s.ts.getD k task0).regs + madeZ s k⟩) := fun k => rfl
    have HIN := hide hs
    generalize loadsI s k0 = LI at *
    clear hu hfit ha hin hin' ht hs hi hr
    obtain ⟨rl, ao, cap, ts⟩ := s
    simp only at hao hbox hk0 hlen HT HWK CW h8 h1 hne HLZ
    subst hao
    have HBX := hide hbox
    clear hbox
    go_enter Try.func20, Try.ntmps20
    rw [SetV.val]
    simp only
    go_wp2
    go_loopw [5, 6] (fun v j wr => ∃ k : Nat, k ≤ k0 ∧ j = .int .i64 k ∧ wr.ownsRow (w.alloc (.cells #[.int .i64 rl, .slice (some ⟨b, off, none⟩) ts.length cap] 24)).heap.size 52 2 v k (Fix.lcells (loadsTo ⟨rl, some ⟨b, off, none⟩, cap, ts⟩ k)) ∧ Below (w.alloc (.cells #[.int .i64 rl, .slice (some ⟨b, off, none⟩) ts.length cap] 24)).heap.size (w.alloc (.cells #[.int .i64 rl, .slice (some ⟨b, off, none⟩) ts.length cap] 24)) wr) (fun _ j _ => k0 - (intOf j).toNat)
    case atStart => exact ⟨0, Nat.zero_le _, rfl, World.ownsRow_nil _ _ _ _, Below.refl _ _⟩
    case round =>
      obtain ⟨k, hk, rfl, hown, hbel⟩ := hrel
      have RK := hide hown
      have VK := hide hbel
      have BK := hide (bel_box (Below.refl _ _) hbel)
      have SB := hide ((unhide HBX).bel hbel)
      obtain ⟨c0, c1⟩ := unhide SB
      simp only at c0 c1
      clear hown hbel
      by_cases hlt : k < k0
      · have hkt : k < ts.length := by omega
        obtain ⟨hrow, -⟩ := unhide HT k hkt
        have hw := unhide HWK k hkt
        have hm := unhide HMD k
        have CWk := hide (unhide CW k hkt)
        have CMk := hide (unhide CM k)
        have hz := unhide HLZ k
        have hnx := unhide HNX k
        rw [hz] at hnx
        have HNXk := hide hnx
        have XF : Hid (∀ W, Below (w.alloc (.cells #[.int .i64 rl, .slice (some ⟨b, off, none⟩) ts.length cap] 24)).heap.size (w.alloc (.cells #[.int .i64 rl, .slice (some ⟨b, off, none⟩) ts.length cap] 24)) W → XBox W w.heap.size (.int .i64 rl) (.slice (some ⟨b, off, none⟩) ts.length cap) b (off + k * 9) (ts.getD k task0)) := hide (fun W h => by
          obtain ⟨q0, q1⟩ := (unhide HBX).bel h
          exact ⟨q0, q1, hrow.bel (bel_box (Below.refl _ _) h)⟩)
        have hbox := unhide XF _ (unhide VK)
        have R0 := hide (own_belG (unhide RK) ((Below.refl _ _).drew))
        clear hrow hz hnx c0 c1
        generalize madeZ ⟨rl, some ⟨b, off, none⟩, cap, ts⟩ k = md at *
        generalize workZ (ts.getD k task0).regs = wk at *
        generalize ts.getD k task0 = t at *
        have e1 : IntKind.i64.wrap (wk + md) = wk + md := i64_is _ (by omega)
        have hk1 : (0 : Int) ≤ (k : Int) := by omega
        have hk2 : (k : Int) < (ts.length : Int) := by omega
        have hk3 : (k : Int) < (k0 : Int) := by omega
        have hk4 : (k0 : Int) < (ts.length : Int) := by omega
        have c0 := hbox.c0
        have c1 := hbox.c1
        go_wp2_with fail
        clear c0 c1
        have D0 := hide (unhide BK).drew
        have VD := hide (unhide VK).drew
        refine wp_region_held_drew (S := (fun w9 => XBox w9 w.heap.size (.int .i64 rl) (.slice (some ⟨b, off, none⟩) ts.length cap) b (off + k * 9) t)) (by kernel_rfl) (hbox.drew) (fun hHeld => ?_)
        refine take_yes 0 19 (u5) rfl rfl (by kernel_rfl) (by kernel_rfl) (by kernel_rfl) (fun _ _ _ h => h) rfl (by assumption) (by intro w9 hS9; obtain ⟨s0, s1, ⟨t0, t1, t2, t3, t4, t5, t6, t7, t8⟩⟩ := hS9; go_simp) ?_
        simp only [List.setIfInBounds_toArray, List.set_cons_zero, List.set_cons_succ]
        refine take_yes 1 20 (.pointer (some ⟨w.heap.size, 1, none⟩)) rfl rfl (by kernel_rfl) (by kernel_rfl) (by kernel_rfl) (fun _ _ _ h => h) rfl (by assumption) (by intro w9 hS9; obtain ⟨s0, s1, ⟨t0, t1, t2, t3, t4, t5, t6, t7, t8⟩⟩ := hS9; go_simp) ?_
        simp only [List.setIfInBounds_toArray, List.set_cons_zero, List.set_cons_succ]
        refine take_yes 2 21 (.slice (some ⟨b, off, none⟩) ts.length cap) rfl rfl (by kernel_rfl) (by kernel_rfl) (by kernel_rfl) (fun _ _ _ h => h) rfl (by assumption) (by intro w9 hS9; obtain ⟨s0, s1, ⟨t0, t1, t2, t3, t4, t5, t6, t7, t8⟩⟩ := hS9; go_simp) ?_
        simp only [List.setIfInBounds_toArray, List.set_cons_zero, List.set_cons_succ]
        refine take_yes 3 22 (.int .i64 k) rfl rfl (by kernel_rfl) (by kernel_rfl) (by kernel_rfl) (fun _ _ _ h => h) rfl (by assumption) (by intro w9 hS9; obtain ⟨s0, s1, ⟨t0, t1, t2, t3, t4, t5, t6, t7, t8⟩⟩ := hS9; go_simp) ?_
        simp only [List.setIfInBounds_toArray, List.set_cons_zero, List.set_cons_succ]
        refine take_yes 4 23 (.pointer (some ⟨b, off + k * 9, none⟩)) rfl rfl (by kernel_rfl) (by kernel_rfl) (by kernel_rfl) (fun _ _ _ h => h) rfl (by assumption) (by intro w9 hS9; obtain ⟨s0, s1, ⟨t0, t1, t2, t3, t4, t5, t6, t7, t8⟩⟩ := hS9; go_simp) ?_
        simp only [List.setIfInBounds_toArray, List.set_cons_zero, List.set_cons_succ]
        refine take_yes 5 24 (.pointer (some ⟨b, off + k * 9 + 1, none⟩)) rfl rfl (by kernel_rfl) (by kernel_rfl) (by kernel_rfl) (fun _ _ _ h => h) rfl (by assumption) (by intro w9 hS9; obtain ⟨s0, s1, ⟨t0, t1, t2, t3, t4, t5, t6, t7, t8⟩⟩ := hS9; go_simp) ?_
        simp only [List.setIfInBounds_toArray, List.set_cons_zero, List.set_cons_succ]
        refine take_yes 6 25 (.int .i64 t.T) rfl rfl (by kernel_rfl) (by kernel_rfl) (by kernel_rfl) (fun _ _ _ h => h) rfl (by assumption) (by intro w9 hS9; obtain ⟨s0, s1, ⟨t0, t1, t2, t3, t4, t5, t6, t7, t8⟩⟩ := hS9; go_simp) ?_
        simp only [List.setIfInBounds_toArray, List.set_cons_zero, List.set_cons_succ]
        refine take_yes 7 26 (.agg #[.int .i64 rl, .slice (some ⟨b, off, none⟩) ts.length cap]) rfl rfl (by kernel_rfl) (by kernel_rfl) (by kernel_rfl) (fun _ _ _ h => h) rfl (by assumption) (by intro w9 hS9; obtain ⟨s0, s1, ⟨t0, t1, t2, t3, t4, t5, t6, t7, t8⟩⟩ := hS9; go_simp) ?_
        simp only [List.setIfInBounds_toArray, List.set_cons_zero, List.set_cons_succ]
        refine take_yes 8 27 (.int .i64 k) rfl rfl (by kernel_rfl) (by kernel_rfl) (by kernel_rfl) (fun _ _ _ h => h) rfl (by assumption) (by intro w9 hS9; obtain ⟨s0, s1, ⟨t0, t1, t2, t3, t4, t5, t6, t7, t8⟩⟩ := hS9; go_simp) ?_
        simp only [List.setIfInBounds_toArray, List.set_cons_zero, List.set_cons_succ]
        refine take_yes 10 29 (.agg #[.int .i64 rl, .slice (some ⟨b, off, none⟩) ts.length cap]) rfl rfl (by kernel_rfl) (by kernel_rfl) (by kernel_rfl) (fun _ _ _ h => h) rfl (by assumption) (by intro w9 hS9; obtain ⟨s0, s1, ⟨t0, t1, t2, t3, t4, t5, t6, t7, t8⟩⟩ := hS9; go_simp) ?_
        simp only [List.setIfInBounds_toArray, List.set_cons_zero, List.set_cons_succ]
        refine take_yes 11 30 (.int .i64 k) rfl rfl (by kernel_rfl) (by kernel_rfl) (by kernel_rfl) (fun _ _ _ h => h) rfl (by assumption) (by intro w9 hS9; obtain ⟨s0, s1, ⟨t0, t1, t2, t3, t4, t5, t6, t7, t8⟩⟩ := hS9; go_simp) ?_
        simp only [List.setIfInBounds_toArray, List.set_cons_zero, List.set_cons_succ]
        refine wpAnyH_ready (rs := [9]) (by kernel_rfl) (by decide) (AllReadyH.cons rfl (fun K hK => ?_) AllReadyH.nil)
        refine (if_pos rfl).mpr ?_
        go_wp2_with fail
        refine (unhide CWk wr.drew (set_bel (unhide HIN) (unhide D0))).mono ?_
        rintro e x1 ⟨rfl, bel⟩
        have RA := hide (own_belG (unhide R0) bel)
        have N1 := hide (below_on (unhide D0) bel)
        have V1 := hide (below_on (unhide VD) bel)
        refine hK.out _ _ (hHeld.bel bel) (fun hHeld => ?_)
        clear hK K bel
        refine wpAnyH_ready (rs := [12]) (by kernel_rfl) (by decide) (AllReadyH.cons rfl (fun K hK => ?_) AllReadyH.nil)
        refine (if_pos rfl).mpr ?_
        go_wp2_with fail
        refine (unhide CMk x1 (set_bel (unhide HIN) (unhide N1))).mono ?_
        rintro e x2 ⟨rfl, bel⟩
        have RB := hide (own_belG (unhide RA) bel)
        have N2 := hide (below_on (unhide N1) bel)
        have V2 := hide (below_on (unhide V1) bel)
        refine hK.out _ _ (hHeld.bel bel) (fun hHeld => ?_)
        clear hK K bel
        refine take_yes 13 32 (.int .i64 (wk + md)) rfl rfl (by kernel_rfl) (by kernel_rfl) (by kernel_rfl) (fun _ _ _ h => h) rfl (by assumption) (by intro w9 hS9; obtain ⟨s0, s1, ⟨t0, t1, t2, t3, t4, t5, t6, t7, t8⟩⟩ := hS9; go_simp) ?_
        simp only [List.setIfInBounds_toArray, List.set_cons_zero, List.set_cons_succ]
        refine take_yes 14 33 (.agg #[.int .i64 t.T, .int .i64 (wk + md)]) rfl rfl (by kernel_rfl) (by kernel_rfl) (by kernel_rfl) (fun _ _ _ h => h) rfl (by assumption) (by intro w9 hS9; obtain ⟨s0, s1, ⟨t0, t1, t2, t3, t4, t5, t6, t7, t8⟩⟩ := hS9; go_simp) ?_
        simp only [List.setIfInBounds_toArray, List.set_cons_zero, List.set_cons_succ]
        refine wpAnyH_ready (rs := [15]) (by kernel_rfl) (by decide) (AllReadyH.cons rfl (fun K hK => ?_) AllReadyH.nil)
        go_simp
        refine hK.out _ _ (hHeld.bel ((Below.refl _ _).alloc (Nat.le_refl _) _)) (fun hHeld => ?_)
        clear hK K
        try simp only [List.setIfInBounds_toArray, List.set_cons_zero, List.set_cons_succ]
        have V3 := hide ((unhide V2).alloc (unhide V2).size (.cells #[.int .i64 t.T, .int .i64 (wk + md)] 52))
        have R3 := hide (own_belG (unhide RB) ((Below.refl _ _).alloc (Nat.le_refl _) (.cells #[.int .i64 t.T, .int .i64 (wk + md)] 52)))
        have P3 := hide (one_cells (w := x2) ⟨t.T, wk + md⟩)
        have Z3 : Hid ((w.alloc (.cells #[.int .i64 rl, .slice (some ⟨b, off, none⟩) ts.length cap] 24)).heap.size ≤ (x2.alloc (.cells #[.int .i64 t.T, .int .i64 (wk + md)] 52)).heap.size) := hide (unhide V3).size
        refine wpAnyH_ready (rs := [16]) (by kernel_rfl) (by decide) (AllReadyH.cons rfl (fun K hK => ?_) AllReadyH.nil)
        refine Fix.step_append_at 35 rfl rfl _ _ rfl (w.alloc (.cells #[.int .i64 rl, .slice (some ⟨b, off, none⟩) ts.length cap] 24)).heap.size _ k _ rfl (unhide R3) ⟨x2.heap.size, 0, none⟩ 1 1 [⟨t.T, wk + md⟩] rfl rfl (unhide P3) (by omega) (unhide Z3) ?_
        intro v1 W5 rr bb
        have V5 := hide ((unhide V3).trans bb)
        have R5 := hide rr
        clear rr bb
        refine hK.out _ _ (unhide XF _ (unhide V5)) (fun hHeld => ?_)
        clear hK K
        try simp only [List.setIfInBounds_toArray, List.set_cons_zero, List.set_cons_succ]
        refine take_yes 17 5 (v1) rfl rfl (by kernel_rfl) (by kernel_rfl) (by kernel_rfl) (fun _ _ _ h => h) rfl (by assumption) (by intro w9 hS9; obtain ⟨s0, s1, ⟨t0, t1, t2, t3, t4, t5, t6, t7, t8⟩⟩ := hS9; go_simp) ?_
        simp only [List.setIfInBounds_toArray, List.set_cons_zero, List.set_cons_succ]
        refine wpAnyH_done (by kernel_rfl) ?_ _
        clear hHeld
        go_wp2
        go_roundw
        case rel => exact ⟨k + 1, by omega, by go_num, by rw [unhide HNXk, Fix.lcells_app]; exact unhide R5, unhide V5⟩
        case measure => simp [intOf]; omega
      · have e : k = k0 := by omega
        subst e
        go_wp2
        go_ret
        refine ⟨_, rfl, ?_, unhide BK⟩
        rw [unhide HLI, unhide HLE]
        have := unhide RK
        exact ⟨this.1, this.2.imp id fun ⟨g, c, cur, e, hg, r⟩ => ⟨g, c, cur, e, by simp at hg; omega, r⟩⟩
  · have HLI : Hid (loadsI s i = []) := by show loadsI s i = _; rw [loadsI, if_neg hin]
    have hb2 : ¬ (0 < i ∧ i < s.ts.length) := fun h => hin (by simp only [inI, Bool.and_eq_true, decide_eq_true_eq]; omega)
    clear hin hu hfit ha ht hs hi hr
    generalize loadsI s i = LI at *
    obtain ⟨rl, ao, cap, ts⟩ := s
    simp only at hao hbox hlen h8 h1 hne hb2
    subst hao
    have B1 : Hid (Below w.heap.size w (w.alloc (.cells #[.int .i64 rl, .slice (some ⟨b, off, none⟩) ts.length cap] 24))) := (Below.refl _ _).alloc (Nat.le_refl _) _
    go_enter Try.func20, Try.ntmps20
    rw [SetV.val]
    simp only
    go_wp2
    refine wp_loop_rounds 1 ?_
    rw [rounds_succ]
    by_cases hi0 : 0 < i
    · have hi2 : ¬ i < ts.length := fun h => hb2 ⟨hi0, h⟩
      go_wp2
      go_ret
      exact ⟨_, rfl, by rw [unhide HLI]; exact World.ownsRow_nil _ _ _ _, unhide B1⟩
    · go_wp2
      go_ret
      exact ⟨_, rfl, by rw [unhide HLI]; exact World.ownsRow_nil _ _ _ _, unhide B1⟩
end Go.Proofs.Ytndhjfpjhpnbaaa.Lex
