/- What package again answers. -/
import Derived.Test.YthlkfjcgckpheaaAgainLaw
import Derived.Test.YthlkfjcgckpheaaTaskCodeB
namespace Go.Proofs.Ythlkfjcgckpheaa.Lex
open Go.ChangeShapes Go.WideShapes Go.RowKit

theorem in_is {s : SetV} {i : Int} (h : inI s i = true) : ∃ k : Nat, i = k ∧ k < s.ts.length := by
  simp only [inI, Bool.and_eq_true, decide_eq_true_eq] at h
  exact ⟨i.toNat, by omega, by omega⟩
/- may the set be, and has it the task? -/
theorem ahas_any (s : SetV) (i : Int) (w : World) (hs : SetIn w s) (ha : allB s = true) : Calls Try.prog 26 #[s.val, .int .i64 i] w fun e w' => e = .returned (.bool (inI s i)) ∧ Below w.heap.size w w' := by
  have hlen := hs.len
  by_cases h0 : i < 0
  · rw [in_low h0]
    clear hs
    go_enter Try.func26, Try.ntmps26
    rw [SetV.val]
    go_wp2
    go_ret
    exact ⟨rfl, (Below.refl _ _).alloc (Nat.le_refl _) _⟩
  by_cases h1 : (s.ts.length : Int) ≤ i
  · rw [in_high h1]
    clear hs
    go_enter Try.func26, Try.ntmps26
    rw [SetV.val]
    go_wp2
    go_ret
    exact ⟨rfl, (Below.refl _ _).alloc (Nat.le_refl _) _⟩
  obtain ⟨k, rfl⟩ : ∃ k : Nat, i = k := ⟨i.toNat, by omega⟩
  have hk : k < s.ts.length := by omega
  have hk0 : (0 : Int) ≤ (k : Int) := by omega
  have hk1 : (k : Int) < (s.ts.length : Int) := by omega
  rw [in_nat hk]
  have CA := hide (fun w h => code_AllG s w h)
  rw [ha] at CA
  have HIN := hide hs
  clear hs h0 h1
  go_enter Try.func26, Try.ntmps26
  rw [SetV.val]
  go_wp2_with fail
  refine (unhide CA _ (set_bel (unhide HIN) ((Below.refl _ _).alloc (Nat.le_refl _) _))).mono ?_
  rintro e w1 ⟨rfl, bel⟩
  have B1 := hide (bel_box (Below.refl _ _) bel)
  clear bel
  go_wp2
  go_ret
  exact ⟨rfl, unhide B1⟩
/- how many, as package bits counts -/
theorem cnt_pop (x : Int) (w : World) (hx : U64 x) : Calls Try.prog 36 #[.int .u64 x] w fun e w' => e = .returned (.int .i64 (popN x.toNat : Nat)) ∧ Below w.heap.size w w' := by
  unfold U64 at hx
  refine (Bits.cnt_any x w hx.1 (by omega)).mono ?_
  rintro e w' ⟨rfl, rfl⟩
  exact ⟨by rw [popN, Bits.len_bl], Below.refl _ _⟩
set_option maxHeartbeats 1600000 in
theorem load_any (s : SetV) (x : Int) (w : World) (hx : U64 x) (hr : 0 ≤ s.reload ∧ s.reload ≤ 10000) : Calls Try.prog 27 #[s.val, .int .u64 x] w fun e w' => e = .returned (.int .i64 (s.reload * (popN x.toNat : Nat))) ∧ Below w.heap.size w w' := by
  have CC := hide (fun w => cnt_pop x w hx)
  have hc := pc_le64 x.toNat
  have hm0 : 0 ≤ s.reload * (popN x.toNat : Nat) := Int.mul_nonneg hr.1 (by omega)
  have hm1 : s.reload * (popN x.toNat : Nat) ≤ 640000 := by
    have := Int.mul_le_mul hr.2 (show ((popN x.toNat : Nat) : Int) ≤ 64 by omega) (by omega) (by decide)
    omega
  obtain ⟨rl, ao, cap, ts⟩ := s
  simp only at hr hm0 hm1
  simp only
  generalize popN x.toNat = c at *
  have hw := i64_is (rl * (c : Nat)) ⟨by omega, by omega⟩
  clear hm0 hm1 hr hx
  have hbox : SBox (w.alloc (.cells #[.int .i64 rl, .slice ao ts.length cap] 24)) w.heap.size ⟨rl, ao, cap, ts⟩ := ⟨by simp, by simp⟩
  have B1 := hide ((Below.refl w.heap.size w).alloc (Nat.le_refl _) (.cells #[.int .i64 rl, .slice ao ts.length cap] 24))
  go_enter Try.func27, Try.ntmps27
  rw [SetV.val]
  simp only
  have D0 := hide (unhide B1).drew
  go_wp2_with fail
  refine wp_region_held_drew (S := (fun w9 => SBox w9 w.heap.size ⟨rl, ao, cap, ts⟩)) (by kernel_rfl) (hbox.drew) (fun hHeld => ?_)
  refine take_yes 0 5 (.pointer (some ⟨w.heap.size, 0, none⟩)) rfl rfl (by kernel_rfl) (by kernel_rfl) (by kernel_rfl) (fun _ _ _ h => h) rfl (by assumption) (by intro w9 hS9; obtain ⟨s0, s1⟩ := hS9; go_simp) ?_
  simp only [List.setIfInBounds_toArray, List.set_cons_zero, List.set_cons_succ]
  refine take_yes 1 6 (.int .i64 rl) rfl rfl (by kernel_rfl) (by kernel_rfl) (by kernel_rfl) (fun _ _ _ h => h) rfl (by assumption) (by intro w9 hS9; obtain ⟨s0, s1⟩ := hS9; go_simp) ?_
  simp only [List.setIfInBounds_toArray, List.set_cons_zero, List.set_cons_succ]
  refine take_yes 2 7 (.int .u64 x) rfl rfl (by kernel_rfl) (by kernel_rfl) (by kernel_rfl) (fun _ _ _ h => h) rfl (by assumption) (by intro w9 hS9; obtain ⟨s0, s1⟩ := hS9; go_simp) ?_
  simp only [List.setIfInBounds_toArray, List.set_cons_zero, List.set_cons_succ]
  refine wpAnyH_ready (rs := [3]) (by kernel_rfl) (by decide) (AllReadyH.cons rfl (fun K hK => ?_) AllReadyH.nil)
  refine (if_pos rfl).mpr ?_
  go_wp2_with fail
  refine (unhide CC (w.alloc (.cells #[.int .i64 rl, .slice ao ts.length cap] 24)).drew).mono ?_
  rintro e x1 ⟨rfl, bel⟩
  have N1 := hide (below_on (unhide D0) bel)
  refine hK.out _ _ (hHeld.bel bel) (fun hHeld => ?_)
  clear hK K bel
  refine take_yes 4 9 (.int .i64 (rl * (c : Nat))) rfl rfl (by kernel_rfl) (by kernel_rfl) (by kernel_rfl) (fun _ _ _ h => h) rfl (by assumption) (by intro w9 hS9; obtain ⟨s0, s1⟩ := hS9; go_simp) ?_
  simp only [List.setIfInBounds_toArray, List.set_cons_zero, List.set_cons_succ]
  refine take_yes 5 4 (.int .i64 (rl * (c : Nat))) rfl rfl (by kernel_rfl) (by kernel_rfl) (by kernel_rfl) (fun _ _ _ h => h) rfl (by assumption) (by intro w9 hS9; obtain ⟨s0, s1⟩ := hS9; go_simp) ?_
  simp only [List.setIfInBounds_toArray, List.set_cons_zero, List.set_cons_succ]
  refine wpAnyH_done (by kernel_rfl) ?_ _
  go_wp2
  go_ret
  exact ⟨rfl, unhide N1⟩
def orN (l : List TaskV) : Nat := l.foldl (fun a t => a ||| t.ucb.toNat) 0
theorem or_next {l : List TaskV} {j : Nat} (h : j < l.length) : orN (l.take (j + 1)) = orN (l.take j) ||| (l.getD j task0).ucb.toNat := by
  rw [orN, orN, List.take_succ_eq_append_getElem h, List.foldl_append]
  simp [List.getD, h]
theorem or_lt {l : List TaskV} (h : ∀ t ∈ l, U64 t.ucb) (j : Nat) : orN (l.take j) < 18446744073709551616 := or_fold_lt _ (fun t ht => h t (List.mem_of_mem_take ht)) 0 (by decide)
theorem or_bel (ts : List TaskV) (k : Nat) : orN (ts.drop (k + 1)) = belN ts k ts.length := by rw [belN, List.take_length]; rfl
/- what one or more of the tasks need again -/
set_option maxHeartbeats 1600000 in
theorem code_Own : COwn := fun s i w hs ha hi => by
  have hu : ∀ t ∈ s.ts, U64 t.ecb ∧ U64 t.ucb := fun t ht => ⟨(hs.each t ht).ecb, (hs.each t ht).ucb⟩
  obtain ⟨hr, h8, -, -⟩ := all_fits ha hu
  have CH := hide (fun w h => ahas_any s i w h ha)
  have HIN := hide hs
  cases hin : inI s i
  · rw [hin] at CH
    rw [ownZ, hin]
    clear hs hin ha hi
    go_enter Try.func16, Try.ntmps16
    rw [SetV.val]
    go_wp2_with fail
    refine (unhide CH _ (set_bel (unhide HIN) ((Below.refl _ _).alloc (Nat.le_refl _) _))).mono ?_
    rintro e w1 ⟨rfl, bel⟩
    have B1 := hide (bel_box (Below.refl _ _) bel)
    clear bel
    go_wp2
    go_ret
    exact ⟨rfl, unhide B1⟩
  · rw [hin] at CH
    rw [ownZ, hin]
    obtain ⟨k, rfl, hk⟩ := in_is hin
    obtain ⟨b, off, hao, ht⟩ := set_task hs (fun e => by rw [e] at hk; simp at hk)
    obtain ⟨hrow, htin⟩ := ht k hk
    have CL := hide (fun w => load_any s (s.ts.getD k task0).ucb w htin.ucb hr)
    obtain ⟨rl, ao, cap, ts⟩ := s
    simp only at hao hk hr h8 hrow htin CL
    subst hao
    simp only [Int.toNat_natCast, if_true]
    generalize ts.getD k task0 = t at *
    have hk0 : (0 : Int) ≤ (k : Int) := by omega
    have hk1 : (k : Int) < (ts.length : Int) := by omega
    have hbox0 : XBox (w.alloc (.cells #[.int .i64 rl, .slice (some ⟨b, off, none⟩) ts.length cap] 24)) w.heap.size (.int .i64 rl) (.slice (some ⟨b, off, none⟩) ts.length cap) b (off + k * 9) t := ⟨by simp, by simp, hrow.bel ((Below.refl _ _).alloc (Nat.le_refl _) _)⟩
    have HB := hide hbox0
    clear hs hin ha hi hu ht hrow htin hbox0
    generalize (rl * (popN t.ucb.toNat : Nat) : Int) = ans at *
    go_enter Try.func16, Try.ntmps16
    rw [SetV.val]
    simp only
    go_wp2_with fail
    refine (unhide CH _ (set_bel (unhide HIN) ((Below.refl _ _).alloc (Nat.le_refl _) _))).mono ?_
    rintro e w1 ⟨rfl, bel⟩
    have hbox := (unhide HB).bel bel
    have B1 := hide (bel_box (Below.refl _ _) bel)
    clear bel HB
    have D0 := hide (unhide B1).drew
    go_wp2_with fail
    refine wp_region_held_drew (S := (fun w9 => XBox w9 w.heap.size (.int .i64 rl) (.slice (some ⟨b, off, none⟩) ts.length cap) b (off + k * 9) t)) (by kernel_rfl) (hbox.drew) (fun hHeld => ?_)
    refine take_yes 0 9 (.agg #[.int .i64 rl, .slice (some ⟨b, off, none⟩) ts.length cap]) rfl rfl (by kernel_rfl) (by kernel_rfl) (by kernel_rfl) (fun _ _ _ h => h) rfl (by assumption) (by intro w9 hS9; obtain ⟨s0, s1, ⟨t0, t1, t2, t3, t4, t5, t6, t7, t8⟩⟩ := hS9; go_simp) ?_
    simp only [List.setIfInBounds_toArray, List.set_cons_zero, List.set_cons_succ]
    refine take_yes 1 10 (.pointer (some ⟨w.heap.size, 1, none⟩)) rfl rfl (by kernel_rfl) (by kernel_rfl) (by kernel_rfl) (fun _ _ _ h => h) rfl (by assumption) (by intro w9 hS9; obtain ⟨s0, s1, ⟨t0, t1, t2, t3, t4, t5, t6, t7, t8⟩⟩ := hS9; go_simp) ?_
    simp only [List.setIfInBounds_toArray, List.set_cons_zero, List.set_cons_succ]
    refine take_yes 2 11 (.slice (some ⟨b, off, none⟩) ts.length cap) rfl rfl (by kernel_rfl) (by kernel_rfl) (by kernel_rfl) (fun _ _ _ h => h) rfl (by assumption) (by intro w9 hS9; obtain ⟨s0, s1, ⟨t0, t1, t2, t3, t4, t5, t6, t7, t8⟩⟩ := hS9; go_simp) ?_
    simp only [List.setIfInBounds_toArray, List.set_cons_zero, List.set_cons_succ]
    refine take_yes 3 12 (.int .i64 k) rfl rfl (by kernel_rfl) (by kernel_rfl) (by kernel_rfl) (fun _ _ _ h => h) rfl (by assumption) (by intro w9 hS9; obtain ⟨s0, s1, ⟨t0, t1, t2, t3, t4, t5, t6, t7, t8⟩⟩ := hS9; go_simp) ?_
    simp only [List.setIfInBounds_toArray, List.set_cons_zero, List.set_cons_succ]
    refine take_yes 4 13 (.pointer (some ⟨b, off + k * 9, none⟩)) rfl rfl (by kernel_rfl) (by kernel_rfl) (by kernel_rfl) (fun _ _ _ h => h) rfl (by assumption) (by intro w9 hS9; obtain ⟨s0, s1, ⟨t0, t1, t2, t3, t4, t5, t6, t7, t8⟩⟩ := hS9; go_simp) ?_
    simp only [List.setIfInBounds_toArray, List.set_cons_zero, List.set_cons_succ]
    refine take_yes 5 14 (.pointer (some ⟨b, off + k * 9 + 8, none⟩)) rfl rfl (by kernel_rfl) (by kernel_rfl) (by kernel_rfl) (fun _ _ _ h => h) rfl (by assumption) (by intro w9 hS9; obtain ⟨s0, s1, ⟨t0, t1, t2, t3, t4, t5, t6, t7, t8⟩⟩ := hS9; go_simp) ?_
    simp only [List.setIfInBounds_toArray, List.set_cons_zero, List.set_cons_succ]
    refine take_yes 6 15 (.int .u64 t.ucb) rfl rfl (by kernel_rfl) (by kernel_rfl) (by kernel_rfl) (fun _ _ _ h => h) rfl (by assumption) (by intro w9 hS9; obtain ⟨s0, s1, ⟨t0, t1, t2, t3, t4, t5, t6, t7, t8⟩⟩ := hS9; go_simp) ?_
    simp only [List.setIfInBounds_toArray, List.set_cons_zero, List.set_cons_succ]
    refine wpAnyH_ready (rs := [7]) (by kernel_rfl) (by decide) (AllReadyH.cons rfl (fun K hK => ?_) AllReadyH.nil)
    refine (if_pos rfl).mpr ?_
    go_wp2_with fail
    refine (unhide CL w1.drew).mono ?_
    rintro e x1 ⟨rfl, bel⟩
    have N1 := hide (below_on (unhide D0) bel)
    refine hK.out _ _ (hHeld.bel bel) (fun hHeld => ?_)
    clear hK K bel
    refine take_yes 8 4 (.int .i64 ans) rfl rfl (by kernel_rfl) (by kernel_rfl) (by kernel_rfl) (fun _ _ _ h => h) rfl (by assumption) (by intro w9 hS9; obtain ⟨s0, s1, ⟨t0, t1, t2, t3, t4, t5, t6, t7, t8⟩⟩ := hS9; go_simp) ?_
    simp only [List.setIfInBounds_toArray, List.set_cons_zero, List.set_cons_succ]
    refine wpAnyH_done (by kernel_rfl) ?_ _
    go_wp2
    go_ret
    exact ⟨rfl, unhide N1⟩
end Go.Proofs.Ythlkfjcgckpheaa.Lex
