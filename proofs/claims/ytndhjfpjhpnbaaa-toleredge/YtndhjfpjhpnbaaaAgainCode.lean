/- What package again answers. -/
import Derived.Test.YtndhjfpjhpnbaaaAgainLaw
import Derived.Test.YtndhjfpjhpnbaaaTaskCodeB
namespace Go.Proofs.Ytndhjfpjhpnbaaa.Lex
set_option maxRecDepth 100000
open Go.ChangeShapes Go.WideShapes Go.RowKit

theorem in_is {s : SetV} {i : Int} (h : inI s i = true) : ∃ k : Nat, i = k ∧ k < s.ts.length := by
  simp only [inI, Bool.and_eq_true, decide_eq_true_eq] at h
  exact ⟨i.toNat, by omega, by omega⟩
/- may the set be, and has it the task? -/
theorem ahas_any (s : SetV) (i : Int) (w : World) (hs : SetIn w s) (ha : allB s = true) : Calls Try.prog 75 #[s.val, .int .i64 i] w fun e w' => e = .returned (.bool (inI s i)) ∧ Below w.heap.size w w' := by
  have hlen := hs.len
  by_cases h0 : i < 0
  · rw [in_low h0]
    clear hs
    go_enter Try.func75, Try.ntmps75
    rw [SetV.val]
    go_wp2
    go_ret
    exact ⟨rfl, (Below.refl _ _).alloc (Nat.le_refl _) _⟩
  by_cases h1 : (s.ts.length : Int) ≤ i
  · rw [in_high h1]
    clear hs
    go_enter Try.func75, Try.ntmps75
    rw [SetV.val]
    go_wp2
    go_ret
    exact ⟨rfl, (Below.refl _ _).alloc (Nat.le_refl _) _⟩
  obtain ⟨k, rfl⟩ : ∃ k : Nat, i = k := ⟨i.toNat, by omega⟩
  have hk : k < s.ts.length := by omega
  have hk0 : (0 : Int) ≤ (k : Int) := by omega
  have hk1 : (k : Int) < (s.ts.length : Int) := by omega
  rw [in_nat hk]
  have CA := hide (fun w h => code_AllG s w h)
  rw [ha] at CA
  have HIN := hide hs
  clear hs h0 h1
  go_enter Try.func75, Try.ntmps75
  rw [SetV.val]
  go_wp2_with fail
  refine (unhide CA _ (set_bel (unhide HIN) ((Below.refl _ _).alloc (Nat.le_refl _) _))).mono ?_
  rintro e w1 ⟨rfl, bel⟩
  have B1 := hide (bel_box (Below.refl _ _) bel)
  clear bel
  go_wp2
  go_ret
  exact ⟨rfl, unhide B1⟩
/- how many, as package bits counts -/
theorem cnt_pop (x : Int) (w : World) (hx : U64 x) : Calls Try.prog 87 #[.int .u64 x] w fun e w' => e = .returned (.int .i64 (popN x.toNat : Nat)) ∧ Below w.heap.size w w' := by
  unfold U64 at hx
  refine (Bits.cnt_any x w hx.1 (by omega)).mono ?_
  rintro e w' ⟨rfl, rfl⟩
  exact ⟨by rw [popN, Bits.len_bl], Below.refl _ _⟩
set_option maxHeartbeats 1600000 in
theorem load_any (s : SetV) (x : Int) (w : World) (hx : U64 x) (hr : 0 ≤ s.reload ∧ s.reload ≤ 10000) : Calls Try.prog 84 #[s.val, .int .u64 x] w fun e w' => e = .returned (.int .i64 (s.reload * (popN x.toNat : Nat))) ∧ Below w.heap.size w w' := by
  have CC := hide (fun w => cnt_pop x w hx)
  have hc := pc_le64 x.toNat
  have hm0 : 0 ≤ s.reload * (popN x.toNat : Nat) := Int.mul_nonneg hr.1 (by omega)
  have hm1 : s.reload * (popN x.toNat : Nat) ≤ 640000 := by
    have := Int.mul_le_mul hr.2 (show ((popN x.toNat : Nat) : Int) ≤ 64 by omega) (by omega) (by decide)
    omega
  obtain ⟨rl, ao, cap, ts⟩ := s
  simp only at hr hm0 hm1
  simp only
  generalize popN x.toNat = c at *
  have hw := i64_is (rl * (c : Nat)) ⟨by omega, by omega⟩
  clear hm0 hm1 hr hx
  have hbox : SBox (w.alloc (.cells #[.int .i64 rl, .slice ao ts.length cap] 24)) w.heap.size ⟨rl, ao, cap, ts⟩ := ⟨by simp, by simp⟩
  have B1 := hide ((Below.refl w.heap.size w).alloc (Nat.le_refl _) (.cells #[.int .i64 rl, .slice ao ts.length cap] 24))
  go_enter Try.func84, Try.ntmps84
  rw [SetV.val]
  simp only
  have D0 := hide (unhide B1).drew
  go_wp2_with fail
  refine wp_region_held_drew (S := (fun w9 => SBox w9 w.heap.size ⟨rl, ao, cap, ts⟩)) (by kernel_rfl) (hbox.drew) (fun hHeld => ?_)
  refine take_yes 0 5 (.pointer (some ⟨w.heap.size, 0, none⟩)) rfl rfl (by kernel_rfl) (by kernel_rfl) (by kernel_rfl) (fun _ _ _ h => h) rfl (by assumption) (by intro w9 hS9; obtain ⟨s0, s1⟩ := hS9; go_simp) ?_
  simp only [List.setIfInBounds_toArray, List.set_cons_zero, List.set_cons_succ]
  refine take_yes 1 6 (.int .i64 rl) rfl rfl (by kernel_rfl) (by kernel_rfl) (by kernel_rfl) (fun _ _ _ h => h) rfl (by assumption) (by intro w9 hS9; obtain ⟨s0, s1⟩ := hS9; go_simp) ?_
  simp only [List.setIfInBounds_toArray, List.set_cons_zero, List.set_cons_succ]
  refine take_yes 2 7 (.int .u64 x) rfl rfl (by kernel_rfl) (by kernel_rfl) (by kernel_rfl) (fun _ _ _ h => h) rfl (by assumption) (by intro w9 hS9; obtain ⟨s0, s1⟩ := hS9; go_simp) ?_
  simp only [List.setIfInBounds_toArray, List.set_cons_zero, List.set_cons_succ]
  refine wpAnyH_ready (rs := [3]) (by kernel_rfl) (by decide) (AllReadyH.cons rfl (fun K hK => ?_) AllReadyH.nil)
  refine (if_pos rfl).mpr ?_
  go_wp2_with fail
  refine (unhide CC (w.alloc (.cells #[.int .i64 rl, .slice ao ts.length cap] 24)).drew).mono ?_
  rintro e x1 ⟨rfl, bel⟩
  have N1 := hide (below_on (unhide D0) bel)
  refine hK.out _ _ (hHeld.bel bel) (fun hHeld => ?_)
  clear hK K bel
  refine take_yes 4 9 (.int .i64 (rl * (c : Nat))) rfl rfl (by kernel_rfl) (by kernel_rfl) (by kernel_rfl) (fun _ _ _ h => h) rfl (by assumption) (by intro w9 hS9; obtain ⟨s0, s1⟩ := hS9; go_simp) ?_
  simp only [List.setIfInBounds_toArray, List.set_cons_zero, List.set_cons_succ]
  refine take_yes 5 4 (.int .i64 (rl * (c : Nat))) rfl rfl (by kernel_rfl) (by kernel_rfl) (by kernel_rfl) (fun _ _ _ h => h) rfl (by assumption) (by intro w9 hS9; obtain ⟨s0, s1⟩ := hS9; go_simp) ?_
  simp only [List.setIfInBounds_toArray, List.set_cons_zero, List.set_cons_succ]
  refine wpAnyH_done (by kernel_rfl) ?_ _
  go_wp2
  go_ret
  exact ⟨rfl, unhide N1⟩
def orN (l : List TaskV) : Nat := l.foldl (fun a t => a ||| t.ucb.toNat) 0
theorem or_next {l : List TaskV} {j : Nat} (h : j < l.length) : orN (l.take (j + 1)) = orN (l.take j) ||| (l.getD j task0).ucb.toNat := by
  rw [orN, orN, List.take_succ_eq_append_getElem h, List.foldl_append]
  simp [List.getD, h]
theorem or_lt {l : List TaskV} (h : ∀ t ∈ l, U64 t.ucb) (j : Nat) : orN (l.take j) < 18446744073709551616 := or_fold_lt _ (fun t ht => h t (List.mem_of_mem_take ht)) 0 (by decide)
theorem or_bel (ts : List TaskV) (k : Nat) : orN (ts.drop (k + 1)) = belN ts k ts.length := by rw [belN, List.take_length]; rfl
/- what one or more of the tasks need again -/
set_option maxHeartbeats 1600000 in
theorem needed_any (ao : Option Addr) (n cap : Nat) (l : List TaskV) (w : World) (hn : l.length = n) (h30 : n ≤ 30) (hu : ∀ t ∈ l, U64 t.ucb) (hrow : ∀ j, j < n → ∃ b off, ao = some ⟨b, off, none⟩ ∧ TaskAt w b (off + j * 9) (l.getD j task0)) : Calls Try.prog 85 #[.slice ao n cap] w fun e w' => e = .returned (.int .u64 (orN l : Nat)) ∧ Below w.heap.size w w' := by
  have HR := hide hrow
  have HU := hide hu
  have HL := hide (fun j => or_lt hu j)
  have HN := hide hn
  clear hrow hu hn
  go_enter Try.func85, Try.ntmps85
  go_wp2
  go_loopw [3, 8] (fun u i wr => ∃ j : Nat, j ≤ n ∧ u = .int .u64 (orN (l.take j) : Nat) ∧ i = .int .i64 j ∧ Below w.heap.size w wr) (fun _ i _ => n - (intOf i).toNat)
  case atStart => exact ⟨0, Nat.zero_le _, rfl, rfl, Below.refl _ _⟩
  case round =>
    obtain ⟨j, hj, rfl, rfl, hbel⟩ := hrel
    have B := hide hbel
    clear hbel
    by_cases hlt : j < n
    · obtain ⟨b, off, rfl, hrow⟩ := unhide HR j hlt
      have hjl : j < l.length := by rw [unhide HN]; exact hlt
      obtain ⟨u, hu, hu1⟩ := u64_nat (unhide HU (l.getD j task0) (by rw [List.getD_eq_getElem?_getD, List.getElem?_eq_getElem hjl]; exact List.getElem_mem _))
      obtain ⟨t0, t1, t2, t3, t4, t5, t6, t7, t8⟩ := hrow.bel (unhide B)
      have HX : Hid (orN (l.take (j + 1)) = orN (l.take j) ||| u) := hide (by rw [or_next hjl, hu]; simp)
      have hl := unhide HL j
      rw [hu] at t8
      have hor := bits_or_u64_nat (orN (l.take j)) u hl hu1
      clear hu hrow hjl
      generalize orN (l.take j) = m at *
      generalize l.getD j task0 = t at *
      go_wp2
      go_roundw
      case rel => exact ⟨j + 1, by omega, by rw [unhide HX], by go_num, (unhide B).alloc (unhide B).size _⟩
      case measure => simp [intOf]; omega
    · have e : j = n := by omega
      subst e
      have HX : Hid (orN (l.take j) = orN l) := hide (by rw [← unhide HN, List.take_length])
      rw [unhide HX]
      go_wp2
      go_ret
      exact ⟨rfl, unhide B⟩
set_option maxHeartbeats 3200000 in
theorem code_Made : CMade := fun s i w hs ha hi => by
  have hu : ∀ t ∈ s.ts, U64 t.ecb ∧ U64 t.ucb := fun t ht => ⟨(hs.each t ht).ecb, (hs.each t ht).ucb⟩
  obtain ⟨hr, h8, -, -⟩ := all_fits ha hu
  have CH := hide (fun w h => ahas_any s i w h ha)
  have HIN := hide hs
  cases hin : inI s i
  · rw [hin] at CH
    rw [madeZ, hin]
    clear hs hin ha hi
    go_enter Try.func77, Try.ntmps77
    rw [SetV.val]
    go_wp2_with fail
    refine (unhide CH _ (set_bel (unhide HIN) ((Below.refl _ _).alloc (Nat.le_refl _) _))).mono ?_
    rintro e w1 ⟨rfl, bel⟩
    have B1 := hide (bel_box (Below.refl _ _) bel)
    clear bel
    go_wp2
    go_ret
    exact ⟨rfl, unhide B1⟩
  · rw [hin] at CH
    rw [madeZ, hin]
    obtain ⟨k, rfl, hk⟩ := in_is hin
    obtain ⟨b, off, hao, ht⟩ := set_task hs (fun e => by rw [e] at hk; simp at hk)
    obtain ⟨hrow, htin⟩ := ht k hk
    have hfit := hs.fits
    have hlt := bel_lt s.ts (fun t ht => (hu t ht).2) k s.ts.length
    obtain ⟨u, hue, hu1⟩ := u64_nat htin.ecb
    have hand := bits_and_u64_nat u (belN s.ts k s.ts.length) hu1 hlt
    have hmu : (belN s.ts k s.ts.length &&& (s.ts.getD k task0).ecb.toNat) = u &&& belN s.ts k s.ts.length := by rw [hue, Int.toNat_natCast, Nat.and_comm]
    have hlt2 : u &&& belN s.ts k s.ts.length < 18446744073709551616 := Nat.lt_of_le_of_lt Nat.and_le_left hu1
    have CL := hide (fun w => load_any s ((u &&& belN s.ts k s.ts.length : Nat) : Int) w (by unfold U64; omega) hr)
    rw [Int.toNat_natCast] at CL
    rw [Int.toNat_natCast, hmu, if_pos rfl]
    have CN := hide (fun (aX : Option Addr) (cX : Nat) (w : World) (h : ∀ j, j < s.ts.length - (k + 1) → ∃ b off, aX = some ⟨b, off, none⟩ ∧ TaskAt w b (off + j * 9) ((s.ts.drop (k + 1)).getD j task0)) => needed_any aX (s.ts.length - (k + 1)) cX (s.ts.drop (k + 1)) w (by simp) (by omega) (fun t ht => (hu t (List.mem_of_mem_drop ht)).2) h)
    rw [or_bel] at CN
    have HR : Hid (∀ j, j < s.ts.length - (k + 1) → TaskAt w b (off + (k + 1) * 9 + j * 9) ((s.ts.drop (k + 1)).getD j task0)) := hide (fun j hj => by
      have := (ht (k + 1 + j) (by omega)).1
      rw [show off + (k + 1 + j) * 9 = off + (k + 1) * 9 + j * 9 by omega] at this
      rw [show (s.ts.drop (k + 1)).getD j task0 = s.ts.getD (k + 1 + j) task0 by simp [List.getD, List.getElem?_drop]]
      exact this)
    generalize belN s.ts k s.ts.length = m at *
    generalize u &&& m = mu at *
    obtain ⟨rl, ao, cap, ts⟩ := s
    simp only at hao hk hr h8 hrow htin CL CN HR hfit hue
    subst hao
    simp only
    generalize ts.drop (k + 1) = dr at *
    generalize ts.getD k task0 = t at *
    have hk0 : (0 : Int) ≤ (k : Int) := by omega
    have hk1 : (k : Int) < (ts.length : Int) := by omega
    have hkw := i64_is ((k : Int) + 1) ⟨by omega, by omega⟩
    have hq0 : (0 : Int) ≤ (k : Int) + 1 := by omega
    have hq1 : (k : Int) + 1 ≤ (ts.length : Int) := by omega
    have hq2 : ((k : Int) + 1).toNat = k + 1 := by omega
    have hbox0 : XBox (w.alloc (.cells #[.int .i64 rl, .slice (some ⟨b, off, none⟩) ts.length cap] 24)) w.heap.size (.int .i64 rl) (.slice (some ⟨b, off, none⟩) ts.length cap) b (off + k * 9) t := ⟨by simp, by simp, hrow.bel ((Below.refl _ _).alloc (Nat.le_refl _) _)⟩
    have HB := hide hbox0
    clear hs hin ha hi hu ht hrow htin hbox0 hmu hlt2
    generalize (rl * (popN mu : Nat) : Int) = ans at *
    by_cases hcap : cap = k + 1
    · subst hcap
      have hnl : ts.length - (k + 1) = 0 := by omega
      rw [hnl] at CN
      clear HR
      go_enter Try.func77, Try.ntmps77
      rw [SetV.val]
      simp only
      go_wp2_with fail
      refine (unhide CH _ (set_bel (unhide HIN) ((Below.refl _ _).alloc (Nat.le_refl _) _))).mono ?_
      rintro e w1 ⟨rfl, bel⟩
      have hbox := (unhide HB).bel bel
      have B1 := hide (bel_box (Below.refl _ _) bel)
      clear bel HB
      have D0 := hide (unhide B1).drew
      go_wp2_with fail
      refine wp_region_held_drew (S := (fun w9 => XBox w9 w.heap.size (.int .i64 rl) (.slice (some ⟨b, off, none⟩) ts.length (k + 1)) b (off + k * 9) t)) (by kernel_rfl) (hbox.drew) (fun hHeld => ?_)
      refine take_yes 0 9 (.agg #[.int .i64 rl, .slice (some ⟨b, off, none⟩) ts.length (k + 1)]) rfl rfl (by kernel_rfl) (by kernel_rfl) (by kernel_rfl) (fun _ _ _ h => h) rfl (by assumption) (by intro w9 hS9; obtain ⟨s0, s1, ⟨t0, t1, t2, t3, t4, t5, t6, t7, t8⟩⟩ := hS9; go_simp) ?_
      simp only [List.setIfInBounds_toArray, List.set_cons_zero, List.set_cons_succ]
      refine take_yes 1 10 (.pointer (some ⟨w.heap.size, 1, none⟩)) rfl rfl (by kernel_rfl) (by kernel_rfl) (by kernel_rfl) (fun _ _ _ h => h) rfl (by assumption) (by intro w9 hS9; obtain ⟨s0, s1, ⟨t0, t1, t2, t3, t4, t5, t6, t7, t8⟩⟩ := hS9; go_simp) ?_
      simp only [List.setIfInBounds_toArray, List.set_cons_zero, List.set_cons_succ]
      refine take_yes 2 11 (.slice (some ⟨b, off, none⟩) ts.length (k + 1)) rfl rfl (by kernel_rfl) (by kernel_rfl) (by kernel_rfl) (fun _ _ _ h => h) rfl (by assumption) (by intro w9 hS9; obtain ⟨s0, s1, ⟨t0, t1, t2, t3, t4, t5, t6, t7, t8⟩⟩ := hS9; go_simp) ?_
      simp only [List.setIfInBounds_toArray, List.set_cons_zero, List.set_cons_succ]
      refine take_yes 3 12 (.int .i64 k) rfl rfl (by kernel_rfl) (by kernel_rfl) (by kernel_rfl) (fun _ _ _ h => h) rfl (by assumption) (by intro w9 hS9; obtain ⟨s0, s1, ⟨t0, t1, t2, t3, t4, t5, t6, t7, t8⟩⟩ := hS9; go_simp) ?_
      simp only [List.setIfInBounds_toArray, List.set_cons_zero, List.set_cons_succ]
      refine take_yes 4 13 (.pointer (some ⟨b, off + k * 9, none⟩)) rfl rfl (by kernel_rfl) (by kernel_rfl) (by kernel_rfl) (fun _ _ _ h => h) rfl (by assumption) (by intro w9 hS9; obtain ⟨s0, s1, ⟨t0, t1, t2, t3, t4, t5, t6, t7, t8⟩⟩ := hS9; go_simp) ?_
      simp only [List.setIfInBounds_toArray, List.set_cons_zero, List.set_cons_succ]
      refine take_yes 5 14 (.pointer (some ⟨b, off + k * 9 + 7, none⟩)) rfl rfl (by kernel_rfl) (by kernel_rfl) (by kernel_rfl) (fun _ _ _ h => h) rfl (by assumption) (by intro w9 hS9; obtain ⟨s0, s1, ⟨t0, t1, t2, t3, t4, t5, t6, t7, t8⟩⟩ := hS9; go_simp) ?_
      simp only [List.setIfInBounds_toArray, List.set_cons_zero, List.set_cons_succ]
      refine take_yes 6 15 (.int .u64 (u : Nat)) rfl rfl (by kernel_rfl) (by kernel_rfl) (by kernel_rfl) (fun _ _ _ h => h) rfl (by assumption) (by intro w9 hS9; obtain ⟨s0, s1, ⟨t0, t1, t2, t3, t4, t5, t6, t7, t8⟩⟩ := hS9; rw [hue] at t7; go_simp) ?_
      simp only [List.setIfInBounds_toArray, List.set_cons_zero, List.set_cons_succ]
      refine take_yes 7 16 (.pointer (some ⟨w.heap.size, 1, none⟩)) rfl rfl (by kernel_rfl) (by kernel_rfl) (by kernel_rfl) (fun _ _ _ h => h) rfl (by assumption) (by intro w9 hS9; obtain ⟨s0, s1, ⟨t0, t1, t2, t3, t4, t5, t6, t7, t8⟩⟩ := hS9; go_simp) ?_
      simp only [List.setIfInBounds_toArray, List.set_cons_zero, List.set_cons_succ]
      refine take_yes 8 17 (.slice (some ⟨b, off, none⟩) ts.length (k + 1)) rfl rfl (by kernel_rfl) (by kernel_rfl) (by kernel_rfl) (fun _ _ _ h => h) rfl (by assumption) (by intro w9 hS9; obtain ⟨s0, s1, ⟨t0, t1, t2, t3, t4, t5, t6, t7, t8⟩⟩ := hS9; go_simp) ?_
      simp only [List.setIfInBounds_toArray, List.set_cons_zero, List.set_cons_succ]
      refine take_yes 9 18 (.int .i64 k) rfl rfl (by kernel_rfl) (by kernel_rfl) (by kernel_rfl) (fun _ _ _ h => h) rfl (by assumption) (by intro w9 hS9; obtain ⟨s0, s1, ⟨t0, t1, t2, t3, t4, t5, t6, t7, t8⟩⟩ := hS9; go_simp) ?_
      simp only [List.setIfInBounds_toArray, List.set_cons_zero, List.set_cons_succ]
      refine take_yes 10 19 (.int .i64 ((k : Int) + 1)) rfl rfl (by kernel_rfl) (by kernel_rfl) (by kernel_rfl) (fun _ _ _ h => h) rfl (by assumption) (by intro w9 hS9; obtain ⟨s0, s1, ⟨t0, t1, t2, t3, t4, t5, t6, t7, t8⟩⟩ := hS9; go_simp) ?_
      simp only [List.setIfInBounds_toArray, List.set_cons_zero, List.set_cons_succ]
      refine take_yes 11 20 (.slice (some ⟨b, off, none⟩) 0 0) rfl rfl (by kernel_rfl) (by kernel_rfl) (by kernel_rfl) (fun _ _ _ h => h) rfl (by assumption) (by intro w9 hS9; obtain ⟨s0, s1, ⟨t0, t1, t2, t3, t4, t5, t6, t7, t8⟩⟩ := hS9; go_simp) ?_
      simp only [List.setIfInBounds_toArray, List.set_cons_zero, List.set_cons_succ]
      refine wpAnyH_ready (rs := [12]) (by kernel_rfl) (by decide) (AllReadyH.cons rfl (fun K hK => ?_) AllReadyH.nil)
      refine (if_pos rfl).mpr ?_
      go_wp2_with fail
      refine (unhide CN (some ⟨b, off, none⟩) 0 w1.drew (fun j hj => absurd hj (Nat.not_lt_zero j))).mono ?_
      rintro e x1 ⟨rfl, bel⟩
      have N1 := hide (below_on (unhide D0) bel)
      refine hK.out _ _ (hHeld.bel bel) (fun hHeld => ?_)
      clear hK K bel
      refine take_yes 13 22 (.int .u64 (mu : Nat)) rfl rfl (by kernel_rfl) (by kernel_rfl) (by kernel_rfl) (fun _ _ _ h => h) rfl (by assumption) (by intro w9 hS9; obtain ⟨s0, s1, ⟨t0, t1, t2, t3, t4, t5, t6, t7, t8⟩⟩ := hS9; go_simp) ?_
      simp only [List.setIfInBounds_toArray, List.set_cons_zero, List.set_cons_succ]
      refine wpAnyH_ready (rs := [14]) (by kernel_rfl) (by decide) (AllReadyH.cons rfl (fun K hK => ?_) AllReadyH.nil)
      refine (if_pos rfl).mpr ?_
      go_wp2_with fail
      refine (unhide CL x1).mono ?_
      rintro e x2 ⟨rfl, bel⟩
      have N2 := hide (below_on (unhide N1) bel)
      refine hK.out _ _ (hHeld.bel bel) (fun hHeld => ?_)
      clear hK K bel
      refine take_yes 15 4 (.int .i64 ans) rfl rfl (by kernel_rfl) (by kernel_rfl) (by kernel_rfl) (fun _ _ _ h => h) rfl (by assumption) (by intro w9 hS9; obtain ⟨s0, s1, ⟨t0, t1, t2, t3, t4, t5, t6, t7, t8⟩⟩ := hS9; go_simp) ?_
      simp only [List.setIfInBounds_toArray, List.set_cons_zero, List.set_cons_succ]
      refine wpAnyH_done (by kernel_rfl) ?_ _
      go_wp2
      go_ret
      exact ⟨rfl, unhide N2⟩
    · have hcap' : ¬ (cap = k + 1) := hcap
      go_enter Try.func77, Try.ntmps77
      rw [SetV.val]
      simp only
      go_wp2_with fail
      refine (unhide CH _ (set_bel (unhide HIN) ((Below.refl _ _).alloc (Nat.le_refl _) _))).mono ?_
      rintro e w1 ⟨rfl, bel⟩
      have hbox := (unhide HB).bel bel
      have B1 := hide (bel_box (Below.refl _ _) bel)
      clear bel HB
      have D0 := hide (unhide B1).drew
      go_wp2_with fail
      refine wp_region_held_drew (S := (fun w9 => XBox w9 w.heap.size (.int .i64 rl) (.slice (some ⟨b, off, none⟩) ts.length cap) b (off + k * 9) t)) (by kernel_rfl) (hbox.drew) (fun hHeld => ?_)
      refine take_yes 0 9 (.agg #[.int .i64 rl, .slice (some ⟨b, off, none⟩) ts.length cap]) rfl rfl (by kernel_rfl) (by kernel_rfl) (by kernel_rfl) (fun _ _ _ h => h) rfl (by assumption) (by intro w9 hS9; obtain ⟨s0, s1, ⟨t0, t1, t2, t3, t4, t5, t6, t7, t8⟩⟩ := hS9; go_simp) ?_
      simp only [List.setIfInBounds_toArray, List.set_cons_zero, List.set_cons_succ]
      refine take_yes 1 10 (.pointer (some ⟨w.heap.size, 1, none⟩)) rfl rfl (by kernel_rfl) (by kernel_rfl) (by kernel_rfl) (fun _ _ _ h => h) rfl (by assumption) (by intro w9 hS9; obtain ⟨s0, s1, ⟨t0, t1, t2, t3, t4, t5, t6, t7, t8⟩⟩ := hS9; go_simp) ?_
      simp only [List.setIfInBounds_toArray, List.set_cons_zero, List.set_cons_succ]
      refine take_yes 2 11 (.slice (some ⟨b, off, none⟩) ts.length cap) rfl rfl (by kernel_rfl) (by kernel_rfl) (by kernel_rfl) (fun _ _ _ h => h) rfl (by assumption) (by intro w9 hS9; obtain ⟨s0, s1, ⟨t0, t1, t2, t3, t4, t5, t6, t7, t8⟩⟩ := hS9; go_simp) ?_
      simp only [List.setIfInBounds_toArray, List.set_cons_zero, List.set_cons_succ]
      refine take_yes 3 12 (.int .i64 k) rfl rfl (by kernel_rfl) (by kernel_rfl) (by kernel_rfl) (fun _ _ _ h => h) rfl (by assumption) (by intro w9 hS9; obtain ⟨s0, s1, ⟨t0, t1, t2, t3, t4, t5, t6, t7, t8⟩⟩ := hS9; go_simp) ?_
      simp only [List.setIfInBounds_toArray, List.set_cons_zero, List.set_cons_succ]
      refine take_yes 4 13 (.pointer (some ⟨b, off + k * 9, none⟩)) rfl rfl (by kernel_rfl) (by kernel_rfl) (by kernel_rfl) (fun _ _ _ h => h) rfl (by assumption) (by intro w9 hS9; obtain ⟨s0, s1, ⟨t0, t1, t2, t3, t4, t5, t6, t7, t8⟩⟩ := hS9; go_simp) ?_
      simp only [List.setIfInBounds_toArray, List.set_cons_zero, List.set_cons_succ]
      refine take_yes 5 14 (.pointer (some ⟨b, off + k * 9 + 7, none⟩)) rfl rfl (by kernel_rfl) (by kernel_rfl) (by kernel_rfl) (fun _ _ _ h => h) rfl (by assumption) (by intro w9 hS9; obtain ⟨s0, s1, ⟨t0, t1, t2, t3, t4, t5, t6, t7, t8⟩⟩ := hS9; go_simp) ?_
      simp only [List.setIfInBounds_toArray, List.set_cons_zero, List.set_cons_succ]
      refine take_yes 6 15 (.int .u64 (u : Nat)) rfl rfl (by kernel_rfl) (by kernel_rfl) (by kernel_rfl) (fun _ _ _ h => h) rfl (by assumption) (by intro w9 hS9; obtain ⟨s0, s1, ⟨t0, t1, t2, t3, t4, t5, t6, t7, t8⟩⟩ := hS9; rw [hue] at t7; go_simp) ?_
      simp only [List.setIfInBounds_toArray, List.set_cons_zero, List.set_cons_succ]
      refine take_yes 7 16 (.pointer (some ⟨w.heap.size, 1, none⟩)) rfl rfl (by kernel_rfl) (by kernel_rfl) (by kernel_rfl) (fun _ _ _ h => h) rfl (by assumption) (by intro w9 hS9; obtain ⟨s0, s1, ⟨t0, t1, t2, t3, t4, t5, t6, t7, t8⟩⟩ := hS9; go_simp) ?_
      simp only [List.setIfInBounds_toArray, List.set_cons_zero, List.set_cons_succ]
      refine take_yes 8 17 (.slice (some ⟨b, off, none⟩) ts.length cap) rfl rfl (by kernel_rfl) (by kernel_rfl) (by kernel_rfl) (fun _ _ _ h => h) rfl (by assumption) (by intro w9 hS9; obtain ⟨s0, s1, ⟨t0, t1, t2, t3, t4, t5, t6, t7, t8⟩⟩ := hS9; go_simp) ?_
      simp only [List.setIfInBounds_toArray, List.set_cons_zero, List.set_cons_succ]
      refine take_yes 9 18 (.int .i64 k) rfl rfl (by kernel_rfl) (by kernel_rfl) (by kernel_rfl) (fun _ _ _ h => h) rfl (by assumption) (by intro w9 hS9; obtain ⟨s0, s1, ⟨t0, t1, t2, t3, t4, t5, t6, t7, t8⟩⟩ := hS9; go_simp) ?_
      simp only [List.setIfInBounds_toArray, List.set_cons_zero, List.set_cons_succ]
      refine take_yes 10 19 (.int .i64 ((k : Int) + 1)) rfl rfl (by kernel_rfl) (by kernel_rfl) (by kernel_rfl) (fun _ _ _ h => h) rfl (by assumption) (by intro w9 hS9; obtain ⟨s0, s1, ⟨t0, t1, t2, t3, t4, t5, t6, t7, t8⟩⟩ := hS9; go_simp) ?_
      simp only [List.setIfInBounds_toArray, List.set_cons_zero, List.set_cons_succ]
      refine take_yes 11 20 (.slice (some ⟨b, off + (k + 1) * 9, none⟩) (ts.length - (k + 1)) (cap - (k + 1))) rfl rfl (by kernel_rfl) (by kernel_rfl) (by kernel_rfl) (fun _ _ _ h => h) rfl (by assumption) (by intro w9 hS9; obtain ⟨s0, s1, ⟨t0, t1, t2, t3, t4, t5, t6, t7, t8⟩⟩ := hS9; go_simp) ?_
      simp only [List.setIfInBounds_toArray, List.set_cons_zero, List.set_cons_succ]
      refine wpAnyH_ready (rs := [12]) (by kernel_rfl) (by decide) (AllReadyH.cons rfl (fun K hK => ?_) AllReadyH.nil)
      refine (if_pos rfl).mpr ?_
      go_wp2_with fail
      refine (unhide CN (some ⟨b, off + (k + 1) * 9, none⟩) (cap - (k + 1)) w1.drew (fun j hj => ⟨b, _, rfl, (unhide HR j hj).bel (unhide D0)⟩)).mono ?_
      rintro e x1 ⟨rfl, bel⟩
      have N1 := hide (below_on (unhide D0) bel)
      refine hK.out _ _ (hHeld.bel bel) (fun hHeld => ?_)
      clear hK K bel
      refine take_yes 13 22 (.int .u64 (mu : Nat)) rfl rfl (by kernel_rfl) (by kernel_rfl) (by kernel_rfl) (fun _ _ _ h => h) rfl (by assumption) (by intro w9 hS9; obtain ⟨s0, s1, ⟨t0, t1, t2, t3, t4, t5, t6, t7, t8⟩⟩ := hS9; go_simp) ?_
      simp only [List.setIfInBounds_toArray, List.set_cons_zero, List.set_cons_succ]
      refine wpAnyH_ready (rs := [14]) (by kernel_rfl) (by decide) (AllReadyH.cons rfl (fun K hK => ?_) AllReadyH.nil)
      refine (if_pos rfl).mpr ?_
      go_wp2_with fail
      refine (unhide CL x1).mono ?_
      rintro e x2 ⟨rfl, bel⟩
      have N2 := hide (below_on (unhide N1) bel)
      refine hK.out _ _ (hHeld.bel bel) (fun hHeld => ?_)
      clear hK K bel
      refine take_yes 15 4 (.int .i64 ans) rfl rfl (by kernel_rfl) (by kernel_rfl) (by kernel_rfl) (fun _ _ _ h => h) rfl (by assumption) (by intro w9 hS9; obtain ⟨s0, s1, ⟨t0, t1, t2, t3, t4, t5, t6, t7, t8⟩⟩ := hS9; go_simp) ?_
      simp only [List.setIfInBounds_toArray, List.set_cons_zero, List.set_cons_succ]
      refine wpAnyH_done (by kernel_rfl) ?_ _
      go_wp2
      go_ret
      exact ⟨rfl, unhide N2⟩
set_option maxHeartbeats 3200000 in
theorem code_Cost : CCost := fun s i w hs ha hi => by
  have hu : ∀ t ∈ s.ts, U64 t.ecb ∧ U64 t.ucb := fun t ht => ⟨(hs.each t ht).ecb, (hs.each t ht).ucb⟩
  obtain ⟨hr, h8, -, hfit⟩ := all_fits ha hu
  have CH := hide (fun w h => ahas_any s i w h ha)
  have HIN := hide hs
  cases hin : inI s i
  · rw [hin] at CH
    rw [costRe, costIm, hin]
    clear hs hin ha hi
    go_enter Try.func70, Try.ntmps70
    rw [SetV.val]
    go_wp2_with fail
    refine (unhide CH _ (set_bel (unhide HIN) ((Below.refl _ _).alloc (Nat.le_refl _) _))).mono ?_
    rintro e w1 ⟨rfl, bel⟩
    have B1 := hide (bel_box (Below.refl _ _) bel)
    clear bel
    go_wp2
    go_ret2
    exact ⟨rfl, unhide B1⟩
  · rw [hin] at CH
    rw [costRe, costIm, hin, if_pos rfl, if_pos rfl]
    have CM := hide (fun w h => code_Made s i w h ha hi)
    obtain ⟨k, rfl, hk⟩ := in_is hin
    obtain ⟨b, off, hao, ht⟩ := set_task hs (fun e => by rw [e] at hk; simp at hk)
    obtain ⟨hrow, htin⟩ := ht k hk
    have hreg := is_regs8 (hfit k hk).is
    have hwr := work_range hreg
    have hmr := made_range hr (k : Int)
    have hare : Num.areB (workZ (s.ts.getD k task0).regs) (madeZ s k) = true := (Num.areB_iff _ _).2 ⟨⟨hwr.1, by omega⟩, hmr.1, by omega⟩
    have CW := hide (fun w h => code_Work (s.ts.getD k task0) w h hreg)
    have CF := hide (fun w => (Cost.of_any (workZ (s.ts.getD k task0).regs) (madeZ s k) w).mono (fun e w' h => (⟨h.1, by rw [h.2]; exact Below.refl _ _⟩ : _ ∧ Below w.heap.size w w')))
    rw [hare] at CF
    rw [Int.toNat_natCast]
    generalize madeZ s k = mz at *
    generalize workZ (s.ts.getD k task0).regs = wz at *
    generalize Cost.ofRe wz mz = fx at *
    generalize Cost.ofIm wz mz = fy at *
    have HTI := hide htin
    obtain ⟨rl, ao, cap, ts⟩ := s
    simp only at hao hk hr h8 hrow CW CM HTI
    subst hao
    generalize ts.getD k task0 = t at *
    have hk0 : (0 : Int) ≤ (k : Int) := by omega
    have hk1 : (k : Int) < (ts.length : Int) := by omega
    have hbox0 : XBox (w.alloc (.cells #[.int .i64 rl, .slice (some ⟨b, off, none⟩) ts.length cap] 24)) w.heap.size (.int .i64 rl) (.slice (some ⟨b, off, none⟩) ts.length cap) b (off + k * 9) t := ⟨by simp, by simp, hrow.bel ((Below.refl _ _).alloc (Nat.le_refl _) _)⟩
    have HB := hide hbox0
    clear hs hin ha hi hu ht hrow htin hbox0 hfit hwr hmr hare hreg
    go_enter Try.func70, Try.ntmps70
    rw [SetV.val]
    simp only
    go_wp2_with fail
    refine (unhide CH _ (set_bel (unhide HIN) ((Below.refl _ _).alloc (Nat.le_refl _) _))).mono ?_
    rintro e w1 ⟨rfl, bel⟩
    have hbox := (unhide HB).bel bel
    have B1 := hide (bel_box (Below.refl _ _) bel)
    clear bel HB
    have D0 := hide (unhide B1).drew
    go_wp2_with fail
    refine wp_region_held_drew (S := (fun w9 => XBox w9 w.heap.size (.int .i64 rl) (.slice (some ⟨b, off, none⟩) ts.length cap) b (off + k * 9) t)) (by kernel_rfl) (hbox.drew) (fun hHeld => ?_)
    refine take_yes 0 10 (.pointer (some ⟨w.heap.size, 1, none⟩)) rfl rfl (by kernel_rfl) (by kernel_rfl) (by kernel_rfl) (fun _ _ _ h => h) rfl (by assumption) (by intro w9 hS9; obtain ⟨s0, s1, ⟨t0, t1, t2, t3, t4, t5, t6, t7, t8⟩⟩ := hS9; go_simp) ?_
    simp only [List.setIfInBounds_toArray, List.set_cons_zero, List.set_cons_succ]
    refine take_yes 1 11 (.slice (some ⟨b, off, none⟩) ts.length cap) rfl rfl (by kernel_rfl) (by kernel_rfl) (by kernel_rfl) (fun _ _ _ h => h) rfl (by assumption) (by intro w9 hS9; obtain ⟨s0, s1, ⟨t0, t1, t2, t3, t4, t5, t6, t7, t8⟩⟩ := hS9; go_simp) ?_
    simp only [List.setIfInBounds_toArray, List.set_cons_zero, List.set_cons_succ]
    refine take_yes 2 12 (.int .i64 k) rfl rfl (by kernel_rfl) (by kernel_rfl) (by kernel_rfl) (fun _ _ _ h => h) rfl (by assumption) (by intro w9 hS9; obtain ⟨s0, s1, ⟨t0, t1, t2, t3, t4, t5, t6, t7, t8⟩⟩ := hS9; go_simp) ?_
    simp only [List.setIfInBounds_toArray, List.set_cons_zero, List.set_cons_succ]
    refine take_yes 3 13 (.pointer (some ⟨b, off + k * 9, none⟩)) rfl rfl (by kernel_rfl) (by kernel_rfl) (by kernel_rfl) (fun _ _ _ h => h) rfl (by assumption) (by intro w9 hS9; obtain ⟨s0, s1, ⟨t0, t1, t2, t3, t4, t5, t6, t7, t8⟩⟩ := hS9; go_simp) ?_
    simp only [List.setIfInBounds_toArray, List.set_cons_zero, List.set_cons_succ]
    refine take_yes 4 14 (.agg #[.string t.name, .int .i64 t.T, .int .i64 t.D, .int .i64 t.mode, .int .i64 t.Q, .int .i64 t.theta, .slice t.ao t.regs.length t.cap, .int .u64 t.ecb, .int .u64 t.ucb]) rfl rfl (by kernel_rfl) (by kernel_rfl) (by kernel_rfl) (fun _ _ _ h => h) rfl (by assumption) (by intro w9 hS9; obtain ⟨s0, s1, ⟨t0, t1, t2, t3, t4, t5, t6, t7, t8⟩⟩ := hS9; go_simp) ?_
    simp only [List.setIfInBounds_toArray, List.set_cons_zero, List.set_cons_succ]
    refine take_yes 6 16 (.agg #[.int .i64 rl, .slice (some ⟨b, off, none⟩) ts.length cap]) rfl rfl (by kernel_rfl) (by kernel_rfl) (by kernel_rfl) (fun _ _ _ h => h) rfl (by assumption) (by intro w9 hS9; obtain ⟨s0, s1, ⟨t0, t1, t2, t3, t4, t5, t6, t7, t8⟩⟩ := hS9; go_simp) ?_
    simp only [List.setIfInBounds_toArray, List.set_cons_zero, List.set_cons_succ]
    refine take_yes 7 17 (.int .i64 k) rfl rfl (by kernel_rfl) (by kernel_rfl) (by kernel_rfl) (fun _ _ _ h => h) rfl (by assumption) (by intro w9 hS9; obtain ⟨s0, s1, ⟨t0, t1, t2, t3, t4, t5, t6, t7, t8⟩⟩ := hS9; go_simp) ?_
    simp only [List.setIfInBounds_toArray, List.set_cons_zero, List.set_cons_succ]
    refine wpAnyH_ready (rs := [5]) (by kernel_rfl) (by decide) (AllReadyH.cons rfl (fun K hK => ?_) AllReadyH.nil)
    refine (if_pos rfl).mpr ?_
    go_wp2_with fail
    refine (unhide CW w1.drew (task_bel (unhide HTI) (unhide D0))).mono ?_
    rintro e x1 ⟨rfl, bel⟩
    have N1 := hide (below_on (unhide D0) bel)
    refine hK.out _ _ (hHeld.bel bel) (fun hHeld => ?_)
    clear hK K bel
    refine wpAnyH_ready (rs := [8]) (by kernel_rfl) (by decide) (AllReadyH.cons rfl (fun K hK => ?_) AllReadyH.nil)
    refine (if_pos rfl).mpr ?_
    go_wp2_with fail
    refine (unhide CM x1 (set_bel (unhide HIN) (unhide N1))).mono ?_
    rintro e x2 ⟨rfl, bel⟩
    have N2 := hide (below_on (unhide N1) bel)
    refine hK.out _ _ (hHeld.bel bel) (fun hHeld => ?_)
    clear hK K bel
    refine wpAnyH_ready (rs := [9]) (by kernel_rfl) (by decide) (AllReadyH.cons rfl (fun K hK => ?_) AllReadyH.nil)
    refine (if_pos rfl).mpr ?_
    go_wp2_with fail
    refine (unhide CF x2).mono ?_
    rintro e x3 ⟨rfl, bel⟩
    have N3 := hide (below_on (unhide N2) bel)
    refine hK.out _ _ (hHeld.bel bel) (fun hHeld => ?_)
    clear hK K bel
    refine take_yes 10 20 (.complex .f64 fx fy) rfl rfl (by kernel_rfl) (by kernel_rfl) (by kernel_rfl) (fun _ _ _ h => h) rfl (by assumption) (by intro w9 hS9; obtain ⟨s0, s1, ⟨t0, t1, t2, t3, t4, t5, t6, t7, t8⟩⟩ := hS9; go_simp) ?_
    simp only [List.setIfInBounds_toArray, List.set_cons_zero, List.set_cons_succ]
    refine take_yes 11 21 (.bool true) rfl rfl (by kernel_rfl) (by kernel_rfl) (by kernel_rfl) (fun _ _ _ h => h) rfl (by assumption) (by intro w9 hS9; obtain ⟨s0, s1, ⟨t0, t1, t2, t3, t4, t5, t6, t7, t8⟩⟩ := hS9; go_simp) ?_
    simp only [List.setIfInBounds_toArray, List.set_cons_zero, List.set_cons_succ]
    refine take_yes 12 4 (.complex .f64 fx fy) rfl rfl (by kernel_rfl) (by kernel_rfl) (by kernel_rfl) (fun _ _ _ h => h) rfl (by assumption) (by intro w9 hS9; obtain ⟨s0, s1, ⟨t0, t1, t2, t3, t4, t5, t6, t7, t8⟩⟩ := hS9; go_simp) ?_
    simp only [List.setIfInBounds_toArray, List.set_cons_zero, List.set_cons_succ]
    refine take_yes 13 5 (.bool true) rfl rfl (by kernel_rfl) (by kernel_rfl) (by kernel_rfl) (fun _ _ _ h => h) rfl (by assumption) (by intro w9 hS9; obtain ⟨s0, s1, ⟨t0, t1, t2, t3, t4, t5, t6, t7, t8⟩⟩ := hS9; go_simp) ?_
    simp only [List.setIfInBounds_toArray, List.set_cons_zero, List.set_cons_succ]
    refine wpAnyH_done (by kernel_rfl) ?_ _
    go_wp2
    go_ret2
    exact ⟨rfl, unhide N3⟩
end Go.Proofs.Ytndhjfpjhpnbaaa.Lex
