/- What package resp answers. -/
import Derived.Test.YtndhjfpjhpnbaaaActCode
import Derived.Test.YtndhjfpjhpnbaaaBlockCode
import Derived.Test.YtndhjfpjhpnbaaaBlockLaw
import Derived.Test.YtndhjfpjhpnbaaaRespLaw
namespace Go.Proofs.Ytndhjfpjhpnbaaa.Lex
set_option maxRecDepth 100000
open Go.ChangeShapes Go.WideShapes Go.RowKit

/- a row of loads stays where a task's block is written -/
theorem own_far {w : World} {B n x j : Nat} {v z : Value} {xs : List Value} {cs : Array Value} {fr : Nat × Nat} (h : w.ownsRow B 52 2 v n xs) (ht : w.heap[x]? = some (.cells cs 38 fr)) : (w.setCell ⟨x, j, none⟩ z).ownsRow B 52 2 v n xs := by
  refine ⟨h.1, ?_⟩
  rcases h.2 with ⟨e, h0⟩ | ⟨g, cap, cur, e, h2, h3, h4⟩
  · exact .inl ⟨e, h0⟩
  · refine .inr ⟨g, cap, cur, e, h2, ?_, h4⟩
    have hne : g ≠ x := fun e => by
      subst e
      rw [ht] at h3
      simp only [Option.some.injEq, Obj.cells.injEq] at h3
      exact absurd h3.2.1 (by decide)
    rw [heap_setCell_other _ _ _ _ hne]
    exact h3
theorem own_put9 {w : World} {B n x : Nat} {v : Value} {xs : List Value} {t : TaskV} (h : w.ownsRow B 52 2 v n xs) (ht : w.heap[x]? = some (.cells zero9 38 (0, 0))) : (put9 w x t).ownsRow B 52 2 v n xs := by
  unfold put9
  have k0 := ht
  have k1 := block_set (j := 0) (u := .string t.name) k0
  have k2 := block_set (j := 1) (u := .int .i64 t.T) k1
  have k3 := block_set (j := 2) (u := .int .i64 t.D) k2
  have k4 := block_set (j := 3) (u := .int .i64 t.mode) k3
  have k5 := block_set (j := 4) (u := .int .i64 t.Q) k4
  have k6 := block_set (j := 5) (u := .int .i64 t.theta) k5
  have k7 := block_set (j := 6) (u := .slice t.ao t.regs.length t.cap) k6
  have k8 := block_set (j := 7) (u := .int .u64 t.ecb) k7
  exact own_far (own_far (own_far (own_far (own_far (own_far (own_far (own_far (own_far h k0) k1) k2) k3) k4) k5) k6) k7) k8
/- how long a job takes, at most -/
set_option maxHeartbeats 6400000 in
theorem longest_any (s : SetV) (k : Nat) (bl L : Int) (w : World) (hs : SetIn w s) (ha : allB s = true) (hk : k < s.ts.length) (hB : busyO s k bl = some L) : Calls Try.prog 39 #[s.val, .int .i64 k, .int .i64 bl, .int .i64 L] w fun e w' => e = .returned (.int .i64 (respTo s k bl (Fix.ceilZ L (s.ts.getD k task0).T).toNat)) ∧ Below w.heap.size w w' := by
  have hlen := hs.len
  have hu : ∀ t ∈ s.ts, U64 t.ecb ∧ U64 t.ucb := fun t ht => ⟨(hs.each t ht).ecb, (hs.each t ht).ucb⟩
  have HIN := hide hs
  obtain ⟨hr, h8, -, hfit⟩ := all_fits ha hu
  obtain ⟨hm, hl⟩ := busy_parts ha hu hk hB
  obtain ⟨hbl, -, -⟩ := Fix.may_parts hm
  have htt := task_time (hfit k hk).is
  have hne : s.ts ≠ [] := fun e => by rw [e] at hk; simp at hk
  obtain ⟨b, off, hao, ht⟩ := set_task hs hne
  obtain ⟨hrow, htin⟩ := ht k hk
  have hLI : loadsI s k = loadsTo s k := by rw [loadsI, in_nat hk]; rfl
  have CL := hide (fun w h => aloads_own s k w h ha)
  rw [hLI] at CL
  have CW := hide (fun w h => code_Work (s.ts.getD k task0) w h (is_regs8 (hfit k hk).is))
  have CF := hide (fun bb ao cap (w : World) h => Fix.code_Least bb ao cap (loadsTo s k) w h)
  have HD := hide (fun (q : Nat) (hq : (q : Int) * (s.ts.getD k task0).T < L) => done_is ha hu hk hB hq)
  have HOK := hide (fun x hx => ok_i64 (loads_ok ha hu hk) x (List.mem_append_left _ hx) : ∀ x ∈ loadsTo s k, Fix.I64 x.T ∧ Fix.I64 x.C)
  have HLL := hide (loads_len s k)
  have HNX := hide (resp_next s k bl)
  have HDZ : Hid (∀ q, doneZ s k bl q = Fix.valO (leastO (Fix.sumZ (bl + (q + 1) * workZ (s.ts.getD k task0).regs) (loadsTo s k)))) := fun q => rfl
  have HLE := hide (fun m => resp_le (s := s) (k := k) (b := bl) (x := L) (by have := hl.1.1; omega) m)
  have HGE := hide (fun m => (resp_ge s k bl m).1)
  have hL1 := hl.1
  have HTI := hide htin
  clear hB hfit hm hl hu ha hr ht hLI hs htin
  obtain ⟨rl, ao, cap, ts⟩ := s
  simp only at hao hk hlen h8 hne HD HDZ CW CF hrow HLL HNX HLE HGE HOK HTI ⊢
  subst hao
  have HR0 : Hid (respTo ⟨rl, some ⟨b, off, none⟩, cap, ts⟩ k bl 0 = 0) := rfl
  generalize respTo ⟨rl, some ⟨b, off, none⟩, cap, ts⟩ k bl = RT at *
  generalize doneZ ⟨rl, some ⟨b, off, none⟩, cap, ts⟩ k bl = DZ at *
  generalize loadsTo ⟨rl, some ⟨b, off, none⟩, cap, ts⟩ k = LT at *
  generalize workZ (ts.getD k task0).regs = wk at *
  generalize ts.getD k task0 = t at *
  obtain ⟨M, hM⟩ : ∃ M, M = (Fix.ceilZ L t.T).toNat := ⟨_, rfl⟩
  have HM : Hid (∀ q : Nat, q < M ↔ (q : Int) * t.T < L) := fun q => by
    rw [← ceil_iff htt.1.1, hM]
    omega
  rw [← hM]
  clear hM
  obtain ⟨⟨tT1, tT2⟩, wk1, wk2⟩ := htt
  obtain ⟨L1, L2⟩ := hL1
  obtain ⟨b1, b2⟩ := hbl
  have hk1 : (0 : Int) ≤ (k : Int) := by omega
  have hk2 : (k : Int) < (ts.length : Int) := by omega
  have hbox : XBox (w.alloc (.cells #[.int .i64 rl, .slice (some ⟨b, off, none⟩) ts.length cap] 24)).drew w.heap.size (.int .i64 rl) (.slice (some ⟨b, off, none⟩) ts.length cap) b (off + k * 9) t := XBox.drew ⟨by simp, by simp, hrow.bel ((Below.refl _ _).alloc (Nat.le_refl _) _)⟩
  have BC := hide ((Below.refl w.heap.size w).alloc (Nat.le_refl _) (.cells #[.int .i64 rl, .slice (some ⟨b, off, none⟩) ts.length cap] 24)).drew
  clear hrow
  go_enter Try.func39, Try.ntmps39
  rw [SetV.val]
  simp only
  go_wp2_with fail
  refine Code.wp_mono (Q := fun e a' w' => e = .normal ∧ ∃ (tb : Nat) (v : Value), w'.heap[tb]? = some (.cells (cells9 t) 38 (0, 0)) ∧ (∃ B0, w'.ownsRow B0 52 2 v LT.length (Fix.lcells LT)) ∧ Below w.heap.size w w' ∧ ∃ f : Nat → Value, a' = { tmps := #[f 0, f 1, .int .i64 bl, .int .i64 L, f 4, f 5, f 6, f 7, f 8, .pointer (some ⟨tb, 0, none⟩), v, f 11, f 12, f 13, f 14, f 15, f 16, f 17, f 18, f 19, f 20, f 21, f 22, f 23, f 24, f 25, f 26, f 27, f 28, f 29, f 30, f 31, f 32, f 33, f 34, f 35, f 36, f 37, f 38, f 39, f 40, f 41, f 42, f 43, f 44, f 45, f 46, f 47], defers := [] }) ?_ ?_
  rotate_left
  · refine wp_region_held_drew (S := fun w9 => XBox w9 w.heap.size (.int .i64 rl) (.slice (some ⟨b, off, none⟩) ts.length cap) b (off + k * 9) t) (by kernel_rfl) hbox (fun hHeld => ?_)
    clear hbox
    generalize (w.alloc (.cells #[.int .i64 rl, .slice (some ⟨b, off, none⟩) ts.length cap] 24)).drew = W0 at *
    refine take_yes 0 16 (.pointer (some ⟨w.heap.size, 1, none⟩)) rfl rfl (by kernel_rfl) (by kernel_rfl) (by kernel_rfl) (fun _ _ _ h => nomatch h.1) rfl (by assumption) (by intro w9 hS9; obtain ⟨s0, s1, ⟨t0, t1, t2, t3, t4, t5, t6, t7, t8⟩⟩ := hS9; go_simp) ?_
    simp only [List.setIfInBounds_toArray, List.set_cons_zero, List.set_cons_succ]
    refine take_yes 1 17 (.slice (some ⟨b, off, none⟩) ts.length cap) rfl rfl (by kernel_rfl) (by kernel_rfl) (by kernel_rfl) (fun _ _ _ h => nomatch h.1) rfl (by assumption) (by intro w9 hS9; obtain ⟨s0, s1, ⟨t0, t1, t2, t3, t4, t5, t6, t7, t8⟩⟩ := hS9; go_simp) ?_
    simp only [List.setIfInBounds_toArray, List.set_cons_zero, List.set_cons_succ]
    refine take_yes 2 18 (.int .i64 k) rfl rfl (by kernel_rfl) (by kernel_rfl) (by kernel_rfl) (fun _ _ _ h => nomatch h.1) rfl (by assumption) (by intro w9 hS9; obtain ⟨s0, s1, ⟨t0, t1, t2, t3, t4, t5, t6, t7, t8⟩⟩ := hS9; go_simp) ?_
    simp only [List.setIfInBounds_toArray, List.set_cons_zero, List.set_cons_succ]
    refine take_yes 3 19 (.pointer (some ⟨b, off + k * 9, none⟩)) rfl rfl (by kernel_rfl) (by kernel_rfl) (by kernel_rfl) (fun _ _ _ h => nomatch h.1) rfl (by assumption) (by intro w9 hS9; obtain ⟨s0, s1, ⟨t0, t1, t2, t3, t4, t5, t6, t7, t8⟩⟩ := hS9; go_simp) ?_
    simp only [List.setIfInBounds_toArray, List.set_cons_zero, List.set_cons_succ]
    refine take_yes 4 20 (.agg #[.string t.name, .int .i64 t.T, .int .i64 t.D, .int .i64 t.mode, .int .i64 t.Q, .int .i64 t.theta, .slice t.ao t.regs.length t.cap, .int .u64 t.ecb, .int .u64 t.ucb]) rfl rfl (by kernel_rfl) (by kernel_rfl) (by kernel_rfl) (fun _ _ _ h => nomatch h.1) rfl (by assumption) (by intro w9 hS9; obtain ⟨s0, s1, ⟨t0, t1, t2, t3, t4, t5, t6, t7, t8⟩⟩ := hS9; go_simp) ?_
    simp only [List.setIfInBounds_toArray, List.set_cons_zero, List.set_cons_succ]
    refine take_yes 5 21 (.agg #[.int .i64 rl, .slice (some ⟨b, off, none⟩) ts.length cap]) rfl rfl (by kernel_rfl) (by kernel_rfl) (by kernel_rfl) (fun _ _ _ h => nomatch h.1) rfl (by assumption) (by intro w9 hS9; obtain ⟨s0, s1, ⟨t0, t1, t2, t3, t4, t5, t6, t7, t8⟩⟩ := hS9; go_simp) ?_
    simp only [List.setIfInBounds_toArray, List.set_cons_zero, List.set_cons_succ]
    refine take_yes 6 22 (.int .i64 k) rfl rfl (by kernel_rfl) (by kernel_rfl) (by kernel_rfl) (fun _ _ _ h => nomatch h.1) rfl (by assumption) (by intro w9 hS9; obtain ⟨s0, s1, ⟨t0, t1, t2, t3, t4, t5, t6, t7, t8⟩⟩ := hS9; go_simp) ?_
    simp only [List.setIfInBounds_toArray, List.set_cons_zero, List.set_cons_succ]
    refine wpAnyH_ready (rs := [7, 8]) (by kernel_rfl) (by decide) (AllReadyH.cons rfl (fun K hK => ?_) (AllReadyH.cons rfl (fun K hK => ?_) AllReadyH.nil))
    · refine (if_pos rfl).mpr ?_
      go_wp2_with fail
      refine (unhide CL _ (set_bel (unhide HIN) (unhide BC))).mono ?_
      rintro e W1 ⟨v0, rfl, ow, bel⟩
      have RA := hide ow
      have BC' := hide (below_on (unhide BC) bel)
      refine hK.out _ _ (hHeld.bel bel) (fun hHeld => ?_)
      clear hK K bel ow
      clear BC
      have BC := BC'
      clear BC'
      try simp only [List.setIfInBounds_toArray, List.set_cons_zero, List.set_cons_succ]
      refine wpAnyH_ready (rs := [8]) (by kernel_rfl) (by decide) (AllReadyH.cons rfl (fun K hK => ?_) AllReadyH.nil)
      have BC' := hide ((unhide BC).alloc (unhide BC).size (.cells #[.string ⟨#[]⟩, .int .i64 0, .int .i64 0, .int .i64 0, .int .i64 0, .int .i64 0, .slice none 0 0, .int .u64 0, .int .u64 0] 38))
      have AT := hide (heap_alloc_new W1 (.cells #[.string ⟨#[]⟩, .int .i64 0, .int .i64 0, .int .i64 0, .int .i64 0, .int .i64 0, .slice none 0 0, .int .u64 0, .int .u64 0] 38))
      have GT : Hid (w.heap.size < W1.heap.size) := hide (World.block_lt_of_cell? W1 _ hHeld.c0)
      have GB : Hid (b < W1.heap.size) := hide (World.block_lt_of_cell? W1 _ hHeld.row.c0)
      have RA' := hide (own_belG (unhide RA) (al_bel W1 (.cells #[.string ⟨#[]⟩, .int .i64 0, .int .i64 0, .int .i64 0, .int .i64 0, .int .i64 0, .slice none 0 0, .int .u64 0, .int .u64 0] 38)))
      go_simp
      refine hK.out _ _ (hHeld.bel (al_bel W1 (.cells #[.string ⟨#[]⟩, .int .i64 0, .int .i64 0, .int .i64 0, .int .i64 0, .int .i64 0, .slice none 0 0, .int .u64 0, .int .u64 0] 38))) (fun hHeld => ?_)
      clear hK K
      clear BC
      have BC := BC'
      clear BC'
      clear RA
      have RA := RA'
      clear RA'
      try simp only [List.setIfInBounds_toArray, List.set_cons_zero, List.set_cons_succ]
      generalize hw : W1.alloc (.cells #[.string ⟨#[]⟩, .int .i64 0, .int .i64 0, .int .i64 0, .int .i64 0, .int .i64 0, .slice none 0 0, .int .u64 0, .int .u64 0] 38) = W2 at *
      clear hw
      generalize W1.heap.size = tb at *
      refine wpAnyH_ready (rs := [9]) (by kernel_rfl) (by decide) (AllReadyH.cons rfl (fun K hK => ?_) AllReadyH.nil)
      have z0 : W2.cell? ⟨tb, 0, none⟩ = some (.string ⟨#[]⟩) := cell_block (unhide AT)
      have z1 : W2.cell? ⟨tb, 1, none⟩ = some (.int .i64 0) := cell_block (unhide AT)
      have z2 : W2.cell? ⟨tb, 2, none⟩ = some (.int .i64 0) := cell_block (unhide AT)
      have z3 : W2.cell? ⟨tb, 3, none⟩ = some (.int .i64 0) := cell_block (unhide AT)
      have z4 : W2.cell? ⟨tb, 4, none⟩ = some (.int .i64 0) := cell_block (unhide AT)
      have z5 : W2.cell? ⟨tb, 5, none⟩ = some (.int .i64 0) := cell_block (unhide AT)
      have z6 : W2.cell? ⟨tb, 6, none⟩ = some (.slice none 0 0) := cell_block (unhide AT)
      have z7 : W2.cell? ⟨tb, 7, none⟩ = some (.int .u64 0) := cell_block (unhide AT)
      have z8 : W2.cell? ⟨tb, 8, none⟩ = some (.int .u64 0) := cell_block (unhide AT)
      have zf := fun j => frozen_block (j := j) (unhide AT)
      have BC' := hide (put9_bel (t := t) (unhide BC) (Nat.le_of_lt (unhide GT)))
      have AT' := hide (put9_block (t := t) (unhide AT))
      have RA' := hide (own_put9 (t := t) (unhide RA) (unhide AT))
      have hS := hHeld.put9 (Nat.ne_of_lt (unhide GT)) (Nat.ne_of_lt (unhide GB))
      unfold Lex.put9 at hS BC' AT' RA'
      go_simp
      refine hK.out _ _ hS (fun hHeld => ?_)
      clear hK K zf hS z0 z1 z2 z3 z4 z5 z6 z7 z8
      try simp only [List.setIfInBounds_toArray, List.set_cons_zero, List.set_cons_succ]
      generalize hw : (((((((((W2.setCell ⟨tb, 0, none⟩ (.string t.name)).setCell ⟨tb, 1, none⟩ (.int .i64 t.T)).setCell ⟨tb, 2, none⟩ (.int .i64 t.D)).setCell ⟨tb, 3, none⟩ (.int .i64 t.mode)).setCell ⟨tb, 4, none⟩ (.int .i64 t.Q)).setCell ⟨tb, 5, none⟩ (.int .i64 t.theta)).setCell ⟨tb, 6, none⟩ (.slice t.ao t.regs.length t.cap)).setCell ⟨tb, 7, none⟩ (.int .u64 t.ecb)).setCell ⟨tb, 8, none⟩ (.int .u64 t.ucb)) = W9 at *
      clear hw
      refine take_yes 10 10 (v0) rfl rfl (by kernel_rfl) (by kernel_rfl) (by kernel_rfl) (fun _ _ _ h => nomatch h.1) rfl (by assumption) (by intro w9 hS9; obtain ⟨s0, s1, ⟨t0, t1, t2, t3, t4, t5, t6, t7, t8⟩⟩ := hS9; go_simp) ?_
      simp only [List.setIfInBounds_toArray, List.set_cons_zero, List.set_cons_succ]
      refine wpAnyH_done (by kernel_rfl) ?_ _
      exact ⟨rfl, tb, v0, unhide AT', ⟨_, unhide RA'⟩, unhide BC', frame_at rfl⟩
    · have BC' := hide ((unhide BC).alloc (unhide BC).size (.cells #[.string ⟨#[]⟩, .int .i64 0, .int .i64 0, .int .i64 0, .int .i64 0, .int .i64 0, .slice none 0 0, .int .u64 0, .int .u64 0] 38))
      have AT := hide (heap_alloc_new W0 (.cells #[.string ⟨#[]⟩, .int .i64 0, .int .i64 0, .int .i64 0, .int .i64 0, .int .i64 0, .slice none 0 0, .int .u64 0, .int .u64 0] 38))
      have GT : Hid (w.heap.size < W0.heap.size) := hide (World.block_lt_of_cell? W0 _ hHeld.c0)
      have GB : Hid (b < W0.heap.size) := hide (World.block_lt_of_cell? W0 _ hHeld.row.c0)
      go_simp
      refine hK.out _ _ (hHeld.bel (al_bel W0 (.cells #[.string ⟨#[]⟩, .int .i64 0, .int .i64 0, .int .i64 0, .int .i64 0, .int .i64 0, .slice none 0 0, .int .u64 0, .int .u64 0] 38))) (fun hHeld => ?_)
      clear hK K
      clear BC
      have BC := BC'
      clear BC'
      try simp only [List.setIfInBounds_toArray, List.set_cons_zero, List.set_cons_succ]
      generalize hw : W0.alloc (.cells #[.string ⟨#[]⟩, .int .i64 0, .int .i64 0, .int .i64 0, .int .i64 0, .int .i64 0, .slice none 0 0, .int .u64 0, .int .u64 0] 38) = W1 at *
      clear hw
      generalize W0.heap.size = tb at *
      refine wpAnyH_ready (rs := [7]) (by kernel_rfl) (by decide) (AllReadyH.cons rfl (fun K hK => ?_) AllReadyH.nil)
      refine (if_pos rfl).mpr ?_
      go_wp2_with fail
      refine (unhide CL _ (set_bel (unhide HIN) (unhide BC))).mono ?_
      rintro e W2 ⟨v0, rfl, ow, bel⟩
      have RA := hide ow
      have BC' := hide (below_on (unhide BC) bel)
      have AT' := hide (blk_bel (unhide AT) bel)
      refine hK.out _ _ (hHeld.bel bel) (fun hHeld => ?_)
      clear hK K bel ow
      clear BC
      have BC := BC'
      clear BC'
      clear AT
      have AT := AT'
      clear AT'
      try simp only [List.setIfInBounds_toArray, List.set_cons_zero, List.set_cons_succ]
      refine wpAnyH_ready (rs := [9]) (by kernel_rfl) (by decide) (AllReadyH.cons rfl (fun K hK => ?_) AllReadyH.nil)
      have z0 : W2.cell? ⟨tb, 0, none⟩ = some (.string ⟨#[]⟩) := cell_block (unhide AT)
      have z1 : W2.cell? ⟨tb, 1, none⟩ = some (.int .i64 0) := cell_block (unhide AT)
      have z2 : W2.cell? ⟨tb, 2, none⟩ = some (.int .i64 0) := cell_block (unhide AT)
      have z3 : W2.cell? ⟨tb, 3, none⟩ = some (.int .i64 0) := cell_block (unhide AT)
      have z4 : W2.cell? ⟨tb, 4, none⟩ = some (.int .i64 0) := cell_block (unhide AT)
      have z5 : W2.cell? ⟨tb, 5, none⟩ = some (.int .i64 0) := cell_block (unhide AT)
      have z6 : W2.cell? ⟨tb, 6, none⟩ = some (.slice none 0 0) := cell_block (unhide AT)
      have z7 : W2.cell? ⟨tb, 7, none⟩ = some (.int .u64 0) := cell_block (unhide AT)
      have z8 : W2.cell? ⟨tb, 8, none⟩ = some (.int .u64 0) := cell_block (unhide AT)
      have zf := fun j => frozen_block (j := j) (unhide AT)
      have BC' := hide (put9_bel (t := t) (unhide BC) (Nat.le_of_lt (unhide GT)))
      have AT' := hide (put9_block (t := t) (unhide AT))
      have RA' := hide (own_put9 (t := t) (unhide RA) (unhide AT))
      have hS := hHeld.put9 (Nat.ne_of_lt (unhide GT)) (Nat.ne_of_lt (unhide GB))
      unfold Lex.put9 at hS BC' AT' RA'
      go_simp
      refine hK.out _ _ hS (fun hHeld => ?_)
      clear hK K zf hS z0 z1 z2 z3 z4 z5 z6 z7 z8
      try simp only [List.setIfInBounds_toArray, List.set_cons_zero, List.set_cons_succ]
      generalize hw : (((((((((W2.setCell ⟨tb, 0, none⟩ (.string t.name)).setCell ⟨tb, 1, none⟩ (.int .i64 t.T)).setCell ⟨tb, 2, none⟩ (.int .i64 t.D)).setCell ⟨tb, 3, none⟩ (.int .i64 t.mode)).setCell ⟨tb, 4, none⟩ (.int .i64 t.Q)).setCell ⟨tb, 5, none⟩ (.int .i64 t.theta)).setCell ⟨tb, 6, none⟩ (.slice t.ao t.regs.length t.cap)).setCell ⟨tb, 7, none⟩ (.int .u64 t.ecb)).setCell ⟨tb, 8, none⟩ (.int .u64 t.ucb)) = W9 at *
      clear hw
      refine take_yes 10 10 (v0) rfl rfl (by kernel_rfl) (by kernel_rfl) (by kernel_rfl) (fun _ _ _ h => nomatch h.1) rfl (by assumption) (by intro w9 hS9; obtain ⟨s0, s1, ⟨t0, t1, t2, t3, t4, t5, t6, t7, t8⟩⟩ := hS9; go_simp) ?_
      simp only [List.setIfInBounds_toArray, List.set_cons_zero, List.set_cons_succ]
      refine wpAnyH_done (by kernel_rfl) ?_ _
      exact ⟨rfl, tb, v0, unhide AT', ⟨_, unhide RA'⟩, unhide BC', frame_at rfl⟩
  clear BC hbox
  rintro e a4 w4 ⟨rfl, tb, v, hx, ⟨B0, ow⟩, bel, f, rfl⟩
  obtain ⟨ao2, cap2, rfl, hla⟩ := Fix.loads_own ow (unhide HOK) (by rw [unhide HLL]; omega)
  have HLA := hide hla
  have BC := hide bel
  have AT := hide hx
  clear hx bel ow hla
  go_wp2
  go_loopw [11, 12, 13] (fun u d c wr => ∃ m : Nat, m ≤ M ∧ u = .int .i64 (RT m) ∧ d = .int .i64 (bl + (m : Int) * wk) ∧ c = .int .i64 ((m : Int) * t.T) ∧ Below w4.heap.size w4 wr) (fun _ _ c _ => M - (intOf c / t.T).toNat)
  case atStart => exact ⟨0, Nat.zero_le _, by rw [unhide HR0], by simp, by simp, Below.refl _ _⟩
  case round =>
    obtain ⟨m, hm, rfl, rfl, rfl, hbel⟩ := hrel
    have VK := hide hbel
    have BK := hide (below_on (unhide BC) hbel)
    have AK := hide (blk_bel (unhide AT) hbel)
    clear hbel
    by_cases hlt : m < M
    · have hq := (unhide HM m).1 hlt
      obtain ⟨dm, -, dL, db⟩ := unhide HD m hq
      have hT0 : 0 ≤ (m : Int) * t.T := Int.mul_nonneg (by omega) (by omega)
      have hE : ((m : Int) + 1) * wk = (m : Int) * wk + wk := by rw [Int.add_mul, Int.one_mul]
      have hw0 : 0 ≤ (m : Int) * wk := Int.mul_nonneg (by omega) (by omega)
      have hDZ := unhide HDZ m
      have hnx := unhide HNX m
      rw [hE, ← Int.add_assoc] at dm db hDZ
      have e3 : IntKind.i64.wrap (bl + (m : Int) * wk + wk) = bl + (m : Int) * wk + wk := i64_is _ (by omega)
      have e4 : IntKind.i64.wrap ((m : Int) * t.T + t.T) = (m : Int) * t.T + t.T := i64_is _ (by omega)
      have e5 : IntKind.i64.wrap (DZ m - (m : Int) * t.T) = DZ m - (m : Int) * t.T := i64_is _ (by omega)
      have HDM := hide dm
      have HDZm := hide hDZ
      have HNXm := hide hnx
      have HDB : Hid (I64 (bl + (m : Int) * wk + wk)) := hide ⟨by omega, by omega⟩
      have c0 : wr.cell? ⟨tb, 0, none⟩ = some (.string t.name) := cell_block (unhide AK)
      have c1 : wr.cell? ⟨tb, 1, none⟩ = some (.int .i64 t.T) := cell_block (unhide AK)
      have c2 : wr.cell? ⟨tb, 2, none⟩ = some (.int .i64 t.D) := cell_block (unhide AK)
      have c3 : wr.cell? ⟨tb, 3, none⟩ = some (.int .i64 t.mode) := cell_block (unhide AK)
      have c4 : wr.cell? ⟨tb, 4, none⟩ = some (.int .i64 t.Q) := cell_block (unhide AK)
      have c5 : wr.cell? ⟨tb, 5, none⟩ = some (.int .i64 t.theta) := cell_block (unhide AK)
      have c6 : wr.cell? ⟨tb, 6, none⟩ = some (.slice t.ao t.regs.length t.cap) := cell_block (unhide AK)
      have c7 : wr.cell? ⟨tb, 7, none⟩ = some (.int .u64 t.ecb) := cell_block (unhide AK)
      have c8 : wr.cell? ⟨tb, 8, none⟩ = some (.int .u64 t.ucb) := cell_block (unhide AK)
      clear hDZ hnx dm dL db hE
      go_wp2_with fail
      refine (unhide CW _ (task_bel (unhide HTI) (unhide BK))).mono ?_
      rintro e w5 ⟨rfl, bel⟩
      have V5 := hide (below_on (unhide VK) bel)
      have B5 := hide (below_on (unhide BK) bel)
      clear bel c0 c1 c2 c3 c4 c5 c6 c7 c8
      go_wp2_with fail
      refine (unhide CF _ ao2 cap2 w5 ((unhide HLA).bel (unhide V5)) (unhide HDB)).mono ?_
      rintro e w6 ⟨hp, bel⟩
      obtain rfl := leastP_fun (unhide HDM) hp
      rw [← unhide HDZm]
      generalize (leastO (Fix.sumZ (bl + (m : Int) * wk + wk) LT)).isSome = so at *
      have V6 := hide (below_on (unhide V5) bel)
      have A6 := hide (blk_bel (unhide AT) (unhide V6))
      have c1 : w6.cell? ⟨tb, 1, none⟩ = some (.int .i64 t.T) := cell_block (unhide A6)
      clear bel hp
      have HR : Hid ((if RT m < DZ m - (m : Int) * t.T then DZ m - (m : Int) * t.T else RT m) = RT (m + 1)) := by
        show _ = RT (m + 1)
        rw [unhide HNXm]
        split <;> omega
      have HW1 : Hid (bl + (m : Int) * wk + wk = bl + ((m + 1 : Nat) : Int) * wk) := by
        show _ = _
        rw [Int.natCast_add, Int.add_mul]
        simp [Int.add_assoc]
      have HT1 : Hid ((m : Int) * t.T + t.T = ((m + 1 : Nat) : Int) * t.T) := by
        show _ = _
        rw [Int.natCast_add, Int.add_mul]
        simp
      have HQ1 : Hid ((m : Int) * t.T / t.T = m ∧ ((m + 1 : Nat) : Int) * t.T / t.T = (m + 1 : Nat)) := ⟨Int.mul_ediv_cancel _ (by omega), Int.mul_ediv_cancel _ (by omega)⟩
      go_wp2
      go_roundw
      case rel => exact ⟨m + 1, by omega, by rw [← unhide HR], by rw [← unhide HW1], by rw [← unhide HT1], unhide V6⟩
      case measure =>
        simp only [intOf]
        have h1 := (unhide HQ1).1
        have h2 := (unhide HQ1).2
        rw [← unhide HT1] at h2
        omega
    · have e : m = M := by omega
      subst e
      have hq : ¬ (m : Int) * t.T < L := fun h => absurd ((unhide HM m).2 h) (by omega)
      go_wp2
      go_ret
      exact ⟨rfl, unhide BK⟩
set_option maxHeartbeats 3200000 in
theorem code_With : CWith := fun s i bl w hs ha hi hbl => by
  have hlen := hs.len
  have C1 := hide (fun w h => code_AOf s i bl w h ha hi hbl)
  have hu : ∀ t ∈ s.ts, U64 t.ecb ∧ U64 t.ucb := fun t ht => ⟨(hs.each t ht).ecb, (hs.each t ht).ucb⟩
  have HIN := hide hs
  cases hB : busyO s i bl with
  | none =>
    have e1 : withR s i bl = 0 := by rw [withR, hB]
    have e2 : withH s i bl = 3 := by rw [withH, hB]
    have HB := hide hB
    rw [e1, e2]
    clear e1 e2 hB hu ha hs hi
    go_enter Try.func27, Try.ntmps27
    rw [SetV.val]
    go_wp2_with fail
    refine (unhide C1 _ (set_bel (unhide HIN) ((Below.refl _ _).alloc (Nat.le_refl _) _))).mono ?_
    rintro e w1 ⟨hp, bel⟩
    obtain rfl := ofp_busy hp
    rw [unhide HB]
    have B1 := hide (bel_box (Below.refl _ _) bel)
    clear bel hp
    simp only [Fix.valO, Option.getD_none, Option.isSome_none]
    go_wp2
    go_ret2
    exact ⟨rfl, unhide B1⟩
  | some L =>
    have hin := busy_in hB
    have hin' := hin
    simp only [inI, Bool.and_eq_true, decide_eq_true_eq] at hin'
    obtain ⟨k, rfl⟩ : ∃ k : Nat, i = k := ⟨i.toNat, by omega⟩
    have hk : k < s.ts.length := by omega
    obtain ⟨hr, h8, -, hfit⟩ := all_fits ha hu
    have hne : s.ts ≠ [] := fun e => by rw [e] at hk; simp at hk
    obtain ⟨b, off, hao, ht⟩ := set_task hs hne
    obtain ⟨hrow, -⟩ := ht k hk
    have CL := hide (fun w h => longest_any s k bl L w h ha hk hB)
    have HB := hide hB
    have eR : withR s k bl = respTo s k bl (Fix.ceilZ L (s.ts.getD k task0).T).toNat := by rw [withR, hB]; rfl
    have eH : withH s k bl = if respTo s k bl (Fix.ceilZ L (s.ts.getD k task0).T).toNat ≤ (s.ts.getD k task0).D then 1 else 2 := by rw [withH, hB]; simp only [eR]; rfl
    rw [eR, eH]
    generalize respTo s k bl (Fix.ceilZ L (s.ts.getD k task0).T).toNat = R at *
    clear hB hin hin' hfit hu ha hi hr ht eR eH hs
    obtain ⟨rl, ao, cap, ts⟩ := s
    simp only at hao hk hlen h8 hne hrow ⊢
    subst hao
    have HROW := hide hrow
    have HBX := hide (sbox_new w ⟨rl, some ⟨b, off, none⟩, cap, ts⟩ 24)
    clear hrow
    generalize ts.getD k task0 = t at *
    obtain ⟨HW, hHW⟩ : ∃ HW : Int, HW = if R ≤ t.D then 1 else 2 := ⟨_, rfl⟩
    rw [← hHW]
    have HHW := hide hHW
    clear hHW
    have hk1 : (0 : Int) ≤ (k : Int) := by omega
    have hk2 : (k : Int) < (ts.length : Int) := by omega
    go_enter Try.func27, Try.ntmps27
    rw [SetV.val]
    simp only
    go_wp2_with fail
    refine (unhide C1 _ (set_bel (unhide HIN) ((Below.refl _ _).alloc (Nat.le_refl _) _))).mono ?_
    rintro e w1 ⟨hp, bel⟩
    obtain rfl := ofp_busy hp
    rw [unhide HB]
    have B1 := hide (bel_box (Below.refl _ _) bel)
    have X1 := hide ((unhide HBX).bel bel)
    obtain ⟨c0, c1⟩ := unhide X1
    simp only at c0 c1
    clear bel hp HB
    simp only [Fix.valO, Option.getD_some, Option.isSome_some]
    go_wp2_with fail
    refine (unhide CL _ (set_bel (unhide HIN) (unhide B1))).mono ?_
    rintro e w2 ⟨rfl, bel⟩
    have B2 := hide (below_on (unhide B1) bel)
    obtain ⟨d0, d1⟩ := (unhide X1).bel bel
    obtain ⟨t0, t1, t2, t3, t4, t5, t6, t7, t8⟩ := (unhide HROW).bel (unhide B2)
    simp only at d0 d1
    clear bel c0 c1
    by_cases hD : R ≤ t.D
    · have HO : Hid (HW = 1) := by show HW = 1; rw [unhide HHW, if_pos hD]
      have hD' : ¬ t.D < R := by omega
      go_wp2
      go_ret2
      exact ⟨by rw [unhide HO]; rfl, unhide B2⟩
    · have HO : Hid (HW = 2) := by show HW = 2; rw [unhide HHW, if_neg hD]
      have hD' : t.D < R := by omega
      go_wp2
      go_ret2
      exact ⟨by rw [unhide HO]; rfl, unhide B2⟩
theorem most_i64 {s : SetV} (ha : allB s = true) (hu : ∀ t ∈ s.ts, U64 t.ecb ∧ U64 t.ucb) (i : Int) : I64 (mostZ s i) := by
  have hof : ∀ l : Nat, l < s.ts.length → ofZ s l i ≤ 800000 := fun l hl => by
    by_cases h : 0 ≤ i ∧ i < l ∧ (l : Int) < s.ts.length
    · obtain ⟨h1, -, h2⟩ := of_range ha hu h
      omega
    · rw [ofZ, if_neg h]
      omega
  have hle : ∀ k : Nat, k ≤ s.ts.length → mostTo s i k ≤ 800000 := fun k => by
    induction k with
    | zero => intro _; simp [mostTo]
    | succ k ih =>
      intro hk
      have h1 := ih (by omega)
      have h2 := hof k (by omega)
      rw [most_next]
      omega
  have h1 := hle s.ts.length (Nat.le_refl _)
  have h2 := (most_ge s i s.ts.length).1
  show I64 (mostTo s i s.ts.length)
  unfold I64
  omega
end Go.Proofs.Ytndhjfpjhpnbaaa.Lex
