/- What the references of chapter 7 answer: a task's text, a set's. -/
import Derived.Test.YtlfmnnngadnkpaaDoorParseRef
namespace Go.Proofs.YtlfmnnngadnkpaaDoor.Lex
open Go.ChangeShapes Go.WideShapes Go.RowKit

theorem name_short {l : List UInt8} (h : nameB l = true) : l.length ≤ 12 := by
  cases l with
  | nil => simp
  | cons c r =>
    obtain ⟨-, hl⟩ := lexes_name h
    simp only [nameB, Bool.and_eq_true] at h
    obtain ⟨hc, h⟩ := h
    have hs := small_parts hc
    have hd : digitC c = false := by simp [digitC]; omega
    simp only [oneOf] at h
    rw [if_neg (by omega), hd, hc] at h
    simp only [Bool.false_eq_true, if_false, if_true] at h
    by_cases hw : wordB ((c :: r).takeWhile nameC) = true
    · rw [if_pos hw] at h; simp at h
    · by_cases hle : 12 < ((c :: r).takeWhile nameC).length
      · rw [if_neg hw, if_pos hle] at h; cases h
      · rw [if_neg hw, if_neg hle] at h
        simp only [Bool.and_eq_true, beq_iff_eq] at h
        omega
theorem regs_getD (l : List Int) (k : Nat) : (l.map Int.toNat).getD k 0 = (l.getD k 0).toNat := by
  simp only [List.getD_eq_getElem?_getD, List.getElem?_map]
  cases l[k]? <;> rfl
/- from ' regions' on -/
def headT (t : TaskV) : List UInt8 := wTask ++ 32 :: t.name.data.toList ++ 32 :: wPeriod ++ 32 :: digs t.T.toNat ++ 32 :: wDeadline ++ 32 :: digs t.D.toNat ++ modeT t ++ 32 :: wRegions
theorem task_head (t : TaskV) : taskT t = headT t ++ rowT (t.regs.map Int.toNat) ++ setsT wEcb t.ecb.toNat ++ setsT wUcb t.ucb.toNat ++ [59] := rfl
theorem join2 (a b : List UInt8) {n : Nat} (h : (a ++ b).length ≤ n) : ∃ A, mkS a ++ mkS b = A ∧ A = mkS (a ++ b) ∧ A.size ≤ n := ⟨_, rfl, mkS_two a b, by rw [mkS_two, mkS_long]; exact h⟩
set_option maxHeartbeats 25600000 in
theorem rtask_text (t : TaskV) (p : Int) (w : World) (ht : TaskIn w t) (hf : Fits t p) (hp : p ≤ 10000) : Calls Tryd.prog 9 #[t.val] w fun e w' => e = .returned (.string (mkS (taskT t))) ∧ Below w.heap.size w w' := by
  obtain ⟨hn, hr1, hr8, hre, ⟨hD, hDT, hT⟩, hm⟩ := fits_parts hf.is
  have hecb := hf.ecb
  have hucb := hf.ucb
  have hregs := ht.regs
  have hnm := name_short hn
  obtain ⟨name, T, D, mode, Q, theta, ao, cap, ecb, ucb, l⟩ := t
  simp only at hn hr1 hr8 hre hD hDT hT hm hecb hucb hregs hnm
  have hname : mkS name.data.toList = name := mkS_bl name
  have hTn : ((T.toNat : Nat) : Int) = T := by omega
  have hDn : ((D.toNat : Nat) : Int) = D := by omega
  have CT := hide (rdigits_any T.toNat (by omega))
  have CD := hide (rdigits_any D.toNat (by omega))
  rw [hTn] at CT
  rw [hDn] at CD
  have CE := hide (fun w => rsets_any wEcb ecb w (by decide) hecb.1 (by have := hecb.2; omega))
  have CU := hide (fun w => rsets_any wUcb ucb w (by decide) hucb.1 (by have := hucb.2; omega))
  have lT : (digs T.toNat).length ≤ 5 := digs_short (by omega)
  have lD : (digs D.toNat).length ≤ 5 := digs_short (by omega)
  have zT : (mkS (digs T.toNat)).size ≤ 5 := by rw [mkS_long]; exact lT
  have zD : (mkS (digs D.toNat)).size ≤ 5 := by rw [mkS_long]; exact lD
  have zN : name.size ≤ 12 := by rw [← hname, mkS_long]; exact hnm
  obtain ⟨A7, j7, e7, s7⟩ := join2 (wTask ++ [32]) name.data.toList (n := 17) (by simp [wTask] at hnm ⊢; omega)
  obtain ⟨A8, j8, e8, s8⟩ := join2 (wTask ++ [32] ++ name.data.toList) (32 :: wPeriod ++ [32]) (n := 25) (by simp [wTask, wPeriod] at hnm ⊢; omega)
  obtain ⟨A12, j12, e12, s12⟩ := join2 (wTask ++ [32] ++ name.data.toList ++ (32 :: wPeriod ++ [32])) (digs T.toNat) (n := 30) (by simp [wTask, wPeriod] at hnm ⊢; omega)
  obtain ⟨A13, j13, e13, s13⟩ := join2 (wTask ++ [32] ++ name.data.toList ++ (32 :: wPeriod ++ [32]) ++ digs T.toNat) (32 :: wDeadline ++ [32]) (n := 40) (by simp [wTask, wPeriod, wDeadline] at hnm ⊢; omega)
  obtain ⟨A17, j17, e17, s17⟩ := join2 (wTask ++ [32] ++ name.data.toList ++ (32 :: wPeriod ++ [32]) ++ digs T.toNat ++ (32 :: wDeadline ++ [32])) (digs D.toNat) (n := 45) (by simp [wTask, wPeriod, wDeadline] at hnm ⊢; omega)
  rw [← e7] at j8
  rw [← e8] at j12
  rw [← e12] at j13
  rw [← e13] at j17
  rw [hname] at j7
  have j7 : (⟨#[116, 97, 115, 107, 32]⟩ : ByteArray) ++ name = A7 := j7
  have j8 : A7 ++ (⟨#[32, 112, 101, 114, 105, 111, 100, 32]⟩ : ByteArray) = A8 := j8
  have j13 : A12 ++ (⟨#[32, 100, 101, 97, 100, 108, 105, 110, 101, 32]⟩ : ByteArray) = A13 := j13
  have hbox := (box_new w ⟨name, T, D, mode, Q, theta, ao, cap, ecb, ucb, l⟩ 30).drew
  have B0 : Hid (Below w.heap.size w (w.alloc (.cells #[.string name, .int .i64 T, .int .i64 D, .int .i64 mode, .int .i64 Q, .int .i64 theta, .slice ao l.length cap, .int .u64 ecb, .int .u64 ucb] 30)).drew) := ((Below.refl _ _).alloc (Nat.le_refl _) _).drew
  have E17 := hide e17
  have HREG := hide hregs
  have HRE := hide hre
  clear e7 e8 e12 e13 e17 hregs hre hn hname hecb hucb hf ht
  generalize mkS (digs T.toNat) = dT at *
  generalize mkS (digs D.toNat) = dD at *
  have hmode : (mode = 0 ∧ modeT ⟨name, T, D, mode, Q, theta, ao, cap, ecb, ucb, l⟩ = 32 :: wFixed) ∨ (mode = 1 ∧ 0 ≤ Q ∧ Q ≤ 10000 ∧ modeT ⟨name, T, D, mode, Q, theta, ao, cap, ecb, ucb, l⟩ = 32 :: wFloat ++ [32] ++ digs Q.toNat) ∨ (mode = 2 ∧ 0 ≤ theta ∧ theta ≤ 10000 ∧ modeT ⟨name, T, D, mode, Q, theta, ao, cap, ecb, ucb, l⟩ = 32 :: wThresh ++ [32] ++ digs theta.toNat) := by
    simp only [modeB] at hm
    by_cases m0 : mode = 0
    · exact .inl ⟨m0, by rw [modeT]; simp only; rw [if_pos m0]⟩
    · rw [if_neg m0] at hm
      by_cases m1 : mode = 1
      · rw [if_pos m1] at hm
        simp only [inB, Bool.and_eq_true, decide_eq_true_eq] at hm
        exact .inr (.inl ⟨m1, hm.1.1, hm.1.2, by rw [modeT]; simp only; rw [if_neg m0, if_pos m1]; simp⟩)
      · rw [if_neg m1] at hm
        by_cases m2 : mode = 2
        · rw [if_pos m2] at hm
          simp only [Bool.and_eq_true, decide_eq_true_eq] at hm
          exact .inr (.inr ⟨m2, hm.1.2, by omega, by rw [modeT]; simp only; rw [if_neg m0, if_neg m1]; simp⟩)
        · rw [if_neg m2] at hm; cases hm
  clear hm hT hDT hD hTn hDn lT lD
  rcases hmode with ⟨hmd, hmt⟩ | ⟨hmd, q0, q1, hmt⟩ | ⟨hmd, q0, q1, hmt⟩
  · obtain ⟨A29, j29, e29, s29⟩ := join2 (wTask ++ [32] ++ name.data.toList ++ (32 :: wPeriod ++ [32]) ++ digs T.toNat ++ (32 :: wDeadline ++ [32]) ++ digs D.toNat) (32 :: wFixed) (n := 60) (by rw [List.length_append, ← mkS_long (wTask ++ [32] ++ name.data.toList ++ (32 :: wPeriod ++ [32]) ++ digs T.toNat ++ (32 :: wDeadline ++ [32]) ++ digs D.toNat), ← unhide E17]; simp [wFixed]; omega)
    rw [← unhide E17] at j29
    have j29 : A17 ++ (⟨#[32, 102, 105, 120, 101, 100]⟩ : ByteArray) = A29 := j29
    have hH : headT ⟨name, T, D, mode, Q, theta, ao, cap, ecb, ucb, l⟩ = ((wTask ++ [32] ++ name.data.toList ++ (32 :: wPeriod ++ [32]) ++ digs T.toNat ++ (32 :: wDeadline ++ [32]) ++ digs D.toNat) ++ (32 :: wFixed)) ++ (32 :: wRegions) := by rw [headT]; simp only; rw [hmt]; simp
    obtain ⟨A39, j39, e39, s39⟩ := join2 ((wTask ++ [32] ++ name.data.toList ++ (32 :: wPeriod ++ [32]) ++ digs T.toNat ++ (32 :: wDeadline ++ [32]) ++ digs D.toNat) ++ (32 :: wFixed)) (32 :: wRegions) (n := 80) (by rw [List.length_append, ← mkS_long ((wTask ++ [32] ++ name.data.toList ++ (32 :: wPeriod ++ [32]) ++ digs T.toNat ++ (32 :: wDeadline ++ [32]) ++ digs D.toNat) ++ (32 :: wFixed)), ← e29]; simp [wRegions]; omega)
    rw [← e29] at j39
    have j39 : A29 ++ (⟨#[32, 114, 101, 103, 105, 111, 110, 115]⟩ : ByteArray) = A39 := j39
    have HJ : Hid (A39 = mkS (headT ⟨name, T, D, mode, Q, theta, ao, cap, ecb, ucb, l⟩ ++ rowT ((l.map Int.toNat).take 0))) := by show A39 = _; rw [e39, hH]; simp [rowT]
    have hHl : (headT ⟨name, T, D, mode, Q, theta, ao, cap, ecb, ucb, l⟩).length ≤ 80 := by rw [← mkS_long, hH]; have := s39; rw [e39] at this; simpa using this
    have HRES0 : Hid (taskT ⟨name, T, D, mode, Q, theta, ao, cap, ecb, ucb, l⟩ = headT ⟨name, T, D, mode, Q, theta, ao, cap, ecb, ucb, l⟩ ++ rowT (l.map Int.toNat) ++ setsT wEcb ecb.toNat ++ setsT wUcb ucb.toNat ++ [59]) := task_head _
    clear e29 e39 hH hmt E17 s39
    generalize headT ⟨name, T, D, mode, Q, theta, ao, cap, ecb, ucb, l⟩ = H at *
    generalize taskT ⟨name, T, D, mode, Q, theta, ao, cap, ecb, ucb, l⟩ = R at *
    have m0 : (mode == 0) = true := by rw [hmd]; rfl
    clear hmd
    go_enter Tryd.func9, Tryd.ntmps9
    rw [TaskV.val, TaskV.cells]
    simp only
    go_wp2_with fail
    refine wp_region_held_drew (S := fun w9 => Box w9 w.heap.size ⟨name, T, D, mode, Q, theta, ao, cap, ecb, ucb, l⟩) (by kernel_rfl) hbox (fun hHeld => ?_)
    refine take_yes 0 5 (.pointer (some ⟨w.heap.size, 0, none⟩)) rfl rfl (by kernel_rfl) (by kernel_rfl) (by kernel_rfl) (fun _ _ _ h => h) rfl (by assumption) (by intro w9 hS9; obtain ⟨s0, s1, s2, s3, s4, s5, s6, s7, s8⟩ := hS9; simp only at s0 s1 s2 s3 s4 s5 s6 s7 s8; go_simp) ?_
    simp only [List.setIfInBounds_toArray, List.set_cons_zero, List.set_cons_succ]
    refine take_yes 1 6 (.string name) rfl rfl (by kernel_rfl) (by kernel_rfl) (by kernel_rfl) (fun _ _ _ h => h) rfl (by assumption) (by intro w9 hS9; obtain ⟨s0, s1, s2, s3, s4, s5, s6, s7, s8⟩ := hS9; simp only at s0 s1 s2 s3 s4 s5 s6 s7 s8; go_simp) ?_
    simp only [List.setIfInBounds_toArray, List.set_cons_zero, List.set_cons_succ]
    refine take_yes 2 7 (.string A7) rfl rfl (by kernel_rfl) (by kernel_rfl) (by kernel_rfl) (fun _ _ _ h => h) rfl (by assumption) (by intro w9 hS9; obtain ⟨s0, s1, s2, s3, s4, s5, s6, s7, s8⟩ := hS9; simp only at s0 s1 s2 s3 s4 s5 s6 s7 s8; go_simp; omega) ?_
    simp only [List.setIfInBounds_toArray, List.set_cons_zero, List.set_cons_succ]
    refine take_yes 3 8 (.string A8) rfl rfl (by kernel_rfl) (by kernel_rfl) (by kernel_rfl) (fun _ _ _ h => h) rfl (by assumption) (by intro w9 hS9; obtain ⟨s0, s1, s2, s3, s4, s5, s6, s7, s8⟩ := hS9; simp only at s0 s1 s2 s3 s4 s5 s6 s7 s8; go_simp; omega) ?_
    simp only [List.setIfInBounds_toArray, List.set_cons_zero, List.set_cons_succ]
    refine take_yes 4 9 (.pointer (some ⟨w.heap.size, 1, none⟩)) rfl rfl (by kernel_rfl) (by kernel_rfl) (by kernel_rfl) (fun _ _ _ h => h) rfl (by assumption) (by intro w9 hS9; obtain ⟨s0, s1, s2, s3, s4, s5, s6, s7, s8⟩ := hS9; simp only at s0 s1 s2 s3 s4 s5 s6 s7 s8; go_simp) ?_
    simp only [List.setIfInBounds_toArray, List.set_cons_zero, List.set_cons_succ]
    refine take_yes 5 10 (.int .i64 T) rfl rfl (by kernel_rfl) (by kernel_rfl) (by kernel_rfl) (fun _ _ _ h => h) rfl (by assumption) (by intro w9 hS9; obtain ⟨s0, s1, s2, s3, s4, s5, s6, s7, s8⟩ := hS9; simp only at s0 s1 s2 s3 s4 s5 s6 s7 s8; go_simp) ?_
    simp only [List.setIfInBounds_toArray, List.set_cons_zero, List.set_cons_succ]
    refine take_yes 9 14 (.pointer (some ⟨w.heap.size, 2, none⟩)) rfl rfl (by kernel_rfl) (by kernel_rfl) (by kernel_rfl) (fun _ _ _ h => h) rfl (by assumption) (by intro w9 hS9; obtain ⟨s0, s1, s2, s3, s4, s5, s6, s7, s8⟩ := hS9; simp only at s0 s1 s2 s3 s4 s5 s6 s7 s8; go_simp) ?_
    simp only [List.setIfInBounds_toArray, List.set_cons_zero, List.set_cons_succ]
    refine take_yes 10 15 (.int .i64 D) rfl rfl (by kernel_rfl) (by kernel_rfl) (by kernel_rfl) (fun _ _ _ h => h) rfl (by assumption) (by intro w9 hS9; obtain ⟨s0, s1, s2, s3, s4, s5, s6, s7, s8⟩ := hS9; simp only at s0 s1 s2 s3 s4 s5 s6 s7 s8; go_simp) ?_
    simp only [List.setIfInBounds_toArray, List.set_cons_zero, List.set_cons_succ]
    refine wpAnyH_ready (rs := [6]) (by kernel_rfl) (by decide) (AllReadyH.cons rfl (fun K hK => ?_) AllReadyH.nil)
    refine (if_pos rfl).mpr ?_
    go_wp2_with fail
    refine (unhide CT _).mono ?_
    rintro e w1 ⟨rfl, bel⟩
    have B1 := hide (below_on (unhide B0) bel)
    refine hK.out _ _ (hHeld.bel bel) (fun hHeld => ?_)
    clear hK K bel
    refine take_yes 7 12 (.string A12) rfl rfl (by kernel_rfl) (by kernel_rfl) (by kernel_rfl) (fun _ _ _ h => h) rfl (by assumption) (by intro w9 hS9; obtain ⟨s0, s1, s2, s3, s4, s5, s6, s7, s8⟩ := hS9; simp only at s0 s1 s2 s3 s4 s5 s6 s7 s8; go_simp; omega) ?_
    simp only [List.setIfInBounds_toArray, List.set_cons_zero, List.set_cons_succ]
    refine take_yes 8 13 (.string A13) rfl rfl (by kernel_rfl) (by kernel_rfl) (by kernel_rfl) (fun _ _ _ h => h) rfl (by assumption) (by intro w9 hS9; obtain ⟨s0, s1, s2, s3, s4, s5, s6, s7, s8⟩ := hS9; simp only at s0 s1 s2 s3 s4 s5 s6 s7 s8; go_simp; omega) ?_
    simp only [List.setIfInBounds_toArray, List.set_cons_zero, List.set_cons_succ]
    refine wpAnyH_ready (rs := [11]) (by kernel_rfl) (by decide) (AllReadyH.cons rfl (fun K hK => ?_) AllReadyH.nil)
    refine (if_pos rfl).mpr ?_
    go_wp2_with fail
    refine (unhide CD _).mono ?_
    rintro e w2 ⟨rfl, bel⟩
    have B2 := hide (below_on (unhide B1) bel)
    refine hK.out _ _ (hHeld.bel bel) (fun hHeld => ?_)
    clear hK K bel
    refine take_yes 12 17 (.string A17) rfl rfl (by kernel_rfl) (by kernel_rfl) (by kernel_rfl) (fun _ _ _ h => h) rfl (by assumption) (by intro w9 hS9; obtain ⟨s0, s1, s2, s3, s4, s5, s6, s7, s8⟩ := hS9; simp only at s0 s1 s2 s3 s4 s5 s6 s7 s8; go_simp; omega) ?_
    simp only [List.setIfInBounds_toArray, List.set_cons_zero, List.set_cons_succ]
    refine take_yes 13 3 (.string A17) rfl rfl (by kernel_rfl) (by kernel_rfl) (by kernel_rfl) (fun _ _ _ h => h) rfl (by assumption) (by intro w9 hS9; obtain ⟨s0, s1, s2, s3, s4, s5, s6, s7, s8⟩ := hS9; simp only at s0 s1 s2 s3 s4 s5 s6 s7 s8; go_simp) ?_
    simp only [List.setIfInBounds_toArray, List.set_cons_zero, List.set_cons_succ]
    refine wpAnyH_done (by kernel_rfl) ?_ _
    have X2 := hide hHeld
    obtain ⟨c0, c1, c2, c3, c4, c5, c6, c7, c8⟩ := hHeld
    simp only at c0 c1 c2 c3 c4 c5 c6 c7 c8
    have B3 := hide (unhide B2)
    have X3 := hide (unhide X2)
    clear B2 X2
    generalize w2 = w3 at *
    go_wp2
    go_loopw [3, 4] (fun s i wr => ∃ k : Nat, k ≤ l.length ∧ i = .int .i64 k ∧ s = .string (mkS (H ++ rowT ((l.map Int.toNat).take k))) ∧ Below w3.heap.size w3 wr) (fun _ i _ => l.length - (intOf i).toNat)
    case atStart => exact ⟨0, Nat.zero_le _, rfl, by rw [← unhide HJ], Below.refl _ _⟩
    case round =>
      obtain ⟨k, hk, rfl, rfl, hbel⟩ := hrel
      clear c0 c1 c2 c3 c4 c5 c6 c7 c8
      have XR := hide ((unhide X3).bel hbel)
      have BQ := hide (below_on (unhide B3) hbel)
      have BW := hide hbel
      clear hbel
      obtain ⟨c0, c1, c2, c3, c4, c5, c6, c7, c8⟩ := unhide XR
      simp only at c0 c1 c2 c3 c4 c5 c6 c7 c8
      have hml : ∀ n ∈ l.map Int.toNat, n < 100000 := fun n hn => by obtain ⟨m, hm, rfl⟩ := List.mem_map.1 hn; have := unhide HRE m hm; omega
      have hs1 : (mkS (H ++ rowT ((l.map Int.toNat).take k))).size ≤ 200 := by
        rw [mkS_long, List.length_append]
        have h1 := rowT_len ((l.map Int.toNat).take k) (fun n hn => hml n (List.mem_of_mem_take hn))
        have h2 : ((l.map Int.toNat).take k).length ≤ 8 := by rw [List.length_take, List.length_map]; omega
        omega
      clear hml
      by_cases hlt : k < l.length
      · obtain ⟨b, off, rfl, hcc⟩ := regs_bel (unhide HREG) (unhide BQ) (fun e => by rw [e] at hlt; simp at hlt)
        have c := hcc k hlt
        have hq := unhide HRE _ (getD_mem hlt)
        have hqn : (((l.getD k 0).toNat : Nat) : Int) = l.getD k 0 := by omega
        have CK := hide (rdigits_any (l.getD k 0).toNat (by omega))
        rw [hqn] at CK
        have HE : Hid (mkS (H ++ rowT ((l.map Int.toNat).take k)) ++ ⟨#[32]⟩ ++ mkS (digs (l.getD k 0).toNat) = mkS (H ++ rowT ((l.map Int.toNat).take (k + 1)))) := by
          show mkS _ ++ mkS [32] ++ mkS _ = _
          rw [rowT_take _ k (by rw [List.length_map]; exact hlt), regs_getD, mkS_two, mkS_two]; simp
        have hs2 : (mkS (digs (l.getD k 0).toNat)).size ≤ 5 := by rw [mkS_long]; exact digs_short (by omega)
        clear hcc hq hqn
        generalize mkS (H ++ rowT ((l.map Int.toNat).take k)) = S at *
        generalize mkS (digs (l.getD k 0).toNat) = DD at *
        generalize l.getD k 0 = q at *
        go_wp2_with fail
        refine (unhide CK _).mono ?_
        rintro e w4 ⟨rfl, bel⟩
        have B4 := hide (below_on (unhide BW) bel)
        clear bel
        go_wp2
        go_roundw
        case rel => exact ⟨k + 1, by omega, by go_num, by rw [unhide HE], unhide B4⟩
        case measure => simp [intOf]; omega
      · have e : (l.map Int.toNat).take k = l.map Int.toNat := List.take_of_length_le (by rw [List.length_map]; omega)
        rw [e] at hs1 ⊢
        have zE := setsT_len wEcb ecb.toNat (by decide)
        have zU := setsT_len wUcb ucb.toNat (by decide)
        have yE : (mkS (setsT wEcb ecb.toNat)).size ≤ 400 := by rw [mkS_long]; exact zE
        have yU : (mkS (setsT wUcb ucb.toNat)).size ≤ 400 := by rw [mkS_long]; exact zU
        have hs0 := hs1
        rw [mkS_long] at hs0
        obtain ⟨S1, i1, f1, g1⟩ := join2 (H ++ rowT (l.map Int.toNat)) (setsT wEcb ecb.toNat) (n := 600) (by rw [List.length_append]; omega)
        obtain ⟨S2, i2, f2, g2⟩ := join2 (H ++ rowT (l.map Int.toNat) ++ setsT wEcb ecb.toNat) (setsT wUcb ucb.toNat) (n := 1000) (by rw [List.length_append, List.length_append]; omega)
        obtain ⟨S3, i3, f3, -⟩ := join2 (H ++ rowT (l.map Int.toNat) ++ setsT wEcb ecb.toNat ++ setsT wUcb ucb.toNat) [59] (n := 1001) (by rw [List.length_append, List.length_append, List.length_append, List.length_singleton]; omega)
        rw [← f1] at i2
        rw [← f2] at i3
        have i3 : S2 ++ (⟨#[59]⟩ : ByteArray) = S3 := i3
        have HRES : Hid (S3 = mkS R) := by show S3 = _; rw [f3, unhide HRES0]
        have BR := hide (unhide BQ).drew
        clear e f1 f2 f3 zE zU hs0
        generalize mkS (H ++ rowT (l.map Int.toNat)) = S at *
        generalize mkS (setsT wEcb ecb.toNat) = DE at *
        generalize mkS (setsT wUcb ucb.toNat) = DU at *
        go_wp2_with fail
        refine wp_region_held_drew (S := fun w9 => Box w9 w.heap.size ⟨name, T, D, mode, Q, theta, ao, cap, ecb, ucb, l⟩) (by kernel_rfl) (unhide XR).drew (fun hHeld => ?_)
        refine take_yes 0 56 (.string S) rfl rfl (by kernel_rfl) (by kernel_rfl) (by kernel_rfl) (fun _ _ _ h => h) rfl (by assumption) (by intro w9 hS9; obtain ⟨s0, s1, s2, s3, s4, s5, s6, s7, s8⟩ := hS9; simp only at s0 s1 s2 s3 s4 s5 s6 s7 s8; go_simp) ?_
        simp only [List.setIfInBounds_toArray, List.set_cons_zero, List.set_cons_succ]
        refine take_yes 1 57 (.pointer (some ⟨w.heap.size, 7, none⟩)) rfl rfl (by kernel_rfl) (by kernel_rfl) (by kernel_rfl) (fun _ _ _ h => h) rfl (by assumption) (by intro w9 hS9; obtain ⟨s0, s1, s2, s3, s4, s5, s6, s7, s8⟩ := hS9; simp only at s0 s1 s2 s3 s4 s5 s6 s7 s8; go_simp) ?_
        simp only [List.setIfInBounds_toArray, List.set_cons_zero, List.set_cons_succ]
        refine take_yes 2 58 (.int .u64 ecb) rfl rfl (by kernel_rfl) (by kernel_rfl) (by kernel_rfl) (fun _ _ _ h => h) rfl (by assumption) (by intro w9 hS9; obtain ⟨s0, s1, s2, s3, s4, s5, s6, s7, s8⟩ := hS9; simp only at s0 s1 s2 s3 s4 s5 s6 s7 s8; go_simp) ?_
        simp only [List.setIfInBounds_toArray, List.set_cons_zero, List.set_cons_succ]
        refine take_yes 5 61 (.pointer (some ⟨w.heap.size, 8, none⟩)) rfl rfl (by kernel_rfl) (by kernel_rfl) (by kernel_rfl) (fun _ _ _ h => h) rfl (by assumption) (by intro w9 hS9; obtain ⟨s0, s1, s2, s3, s4, s5, s6, s7, s8⟩ := hS9; simp only at s0 s1 s2 s3 s4 s5 s6 s7 s8; go_simp) ?_
        simp only [List.setIfInBounds_toArray, List.set_cons_zero, List.set_cons_succ]
        refine take_yes 6 62 (.int .u64 ucb) rfl rfl (by kernel_rfl) (by kernel_rfl) (by kernel_rfl) (fun _ _ _ h => h) rfl (by assumption) (by intro w9 hS9; obtain ⟨s0, s1, s2, s3, s4, s5, s6, s7, s8⟩ := hS9; simp only at s0 s1 s2 s3 s4 s5 s6 s7 s8; go_simp) ?_
        simp only [List.setIfInBounds_toArray, List.set_cons_zero, List.set_cons_succ]
        refine wpAnyH_ready (rs := [3]) (by kernel_rfl) (by decide) (AllReadyH.cons rfl (fun K hK => ?_) AllReadyH.nil)
        refine (if_pos rfl).mpr ?_
        go_wp2_with fail
        refine (unhide CE _).mono ?_
        rintro e w4 ⟨rfl, bel⟩
        have B4 := hide (below_on (unhide BR) bel)
        refine hK.out _ _ (hHeld.bel bel) (fun hHeld => ?_)
        clear hK K bel
        refine take_yes 4 60 (.string S1) rfl rfl (by kernel_rfl) (by kernel_rfl) (by kernel_rfl) (fun _ _ _ h => h) rfl (by assumption) (by intro w9 hS9; obtain ⟨s0, s1, s2, s3, s4, s5, s6, s7, s8⟩ := hS9; simp only at s0 s1 s2 s3 s4 s5 s6 s7 s8; go_simp; omega) ?_
        simp only [List.setIfInBounds_toArray, List.set_cons_zero, List.set_cons_succ]
        refine wpAnyH_ready (rs := [7]) (by kernel_rfl) (by decide) (AllReadyH.cons rfl (fun K hK => ?_) AllReadyH.nil)
        refine (if_pos rfl).mpr ?_
        go_wp2_with fail
        refine (unhide CU _).mono ?_
        rintro e w5 ⟨rfl, bel⟩
        have B5 := hide (below_on (unhide B4) bel)
        refine hK.out _ _ (hHeld.bel bel) (fun hHeld => ?_)
        clear hK K bel
        refine take_yes 8 64 (.string S2) rfl rfl (by kernel_rfl) (by kernel_rfl) (by kernel_rfl) (fun _ _ _ h => h) rfl (by assumption) (by intro w9 hS9; obtain ⟨s0, s1, s2, s3, s4, s5, s6, s7, s8⟩ := hS9; simp only at s0 s1 s2 s3 s4 s5 s6 s7 s8; go_simp; omega) ?_
        simp only [List.setIfInBounds_toArray, List.set_cons_zero, List.set_cons_succ]
        refine take_yes 9 65 (.string S3) rfl rfl (by kernel_rfl) (by kernel_rfl) (by kernel_rfl) (fun _ _ _ h => h) rfl (by assumption) (by intro w9 hS9; obtain ⟨s0, s1, s2, s3, s4, s5, s6, s7, s8⟩ := hS9; simp only at s0 s1 s2 s3 s4 s5 s6 s7 s8; go_simp; omega) ?_
        simp only [List.setIfInBounds_toArray, List.set_cons_zero, List.set_cons_succ]
        refine take_yes 10 2 (.string S3) rfl rfl (by kernel_rfl) (by kernel_rfl) (by kernel_rfl) (fun _ _ _ h => h) rfl (by assumption) (by intro w9 hS9; obtain ⟨s0, s1, s2, s3, s4, s5, s6, s7, s8⟩ := hS9; simp only at s0 s1 s2 s3 s4 s5 s6 s7 s8; go_simp) ?_
        simp only [List.setIfInBounds_toArray, List.set_cons_zero, List.set_cons_succ]
        refine wpAnyH_done (by kernel_rfl) ?_ _
        go_wp2
        go_ret
        exact ⟨ret_text (unhide HRES), unhide B5⟩
  · have hqn : ((Q.toNat : Nat) : Int) = Q := by omega
    have CQ := hide (rdigits_any Q.toNat (by omega))
    rw [hqn] at CQ
    have zQ : (mkS (digs Q.toNat)).size ≤ 5 := by rw [mkS_long]; exact digs_short (by omega)
    have lQ : (digs Q.toNat).length ≤ 5 := digs_short (by omega)
    obtain ⟨A28, j28, e28, s28⟩ := join2 (wTask ++ [32] ++ name.data.toList ++ (32 :: wPeriod ++ [32]) ++ digs T.toNat ++ (32 :: wDeadline ++ [32]) ++ digs D.toNat) (32 :: wFloat ++ [32]) (n := 60) (by rw [List.length_append, ← mkS_long (wTask ++ [32] ++ name.data.toList ++ (32 :: wPeriod ++ [32]) ++ digs T.toNat ++ (32 :: wDeadline ++ [32]) ++ digs D.toNat), ← unhide E17]; simp [wFloat]; omega)
    have e28b := e28
    obtain ⟨A29, j29, e29, s29⟩ := join2 ((wTask ++ [32] ++ name.data.toList ++ (32 :: wPeriod ++ [32]) ++ digs T.toNat ++ (32 :: wDeadline ++ [32]) ++ digs D.toNat) ++ (32 :: wFloat ++ [32])) (digs Q.toNat) (n := 66) (by rw [List.length_append, ← mkS_long ((wTask ++ [32] ++ name.data.toList ++ (32 :: wPeriod ++ [32]) ++ digs T.toNat ++ (32 :: wDeadline ++ [32]) ++ digs D.toNat) ++ (32 :: wFloat ++ [32])), ← e28]; omega)
    rw [← e28] at j29
    clear e28 e28b
    rw [← unhide E17] at j28
    have j28 : A17 ++ (⟨#[32, 102, 108, 111, 97, 116, 32]⟩ : ByteArray) = A28 := j28
    have hH : headT ⟨name, T, D, mode, Q, theta, ao, cap, ecb, ucb, l⟩ = ((wTask ++ [32] ++ name.data.toList ++ (32 :: wPeriod ++ [32]) ++ digs T.toNat ++ (32 :: wDeadline ++ [32]) ++ digs D.toNat) ++ (32 :: wFloat ++ [32]) ++ digs Q.toNat) ++ (32 :: wRegions) := by rw [headT]; simp only; rw [hmt]; simp
    obtain ⟨A39, j39, e39, s39⟩ := join2 ((wTask ++ [32] ++ name.data.toList ++ (32 :: wPeriod ++ [32]) ++ digs T.toNat ++ (32 :: wDeadline ++ [32]) ++ digs D.toNat) ++ (32 :: wFloat ++ [32]) ++ digs Q.toNat) (32 :: wRegions) (n := 80) (by rw [List.length_append, ← mkS_long ((wTask ++ [32] ++ name.data.toList ++ (32 :: wPeriod ++ [32]) ++ digs T.toNat ++ (32 :: wDeadline ++ [32]) ++ digs D.toNat) ++ (32 :: wFloat ++ [32]) ++ digs Q.toNat), ← e29]; simp [wRegions]; omega)
    rw [← e29] at j39
    have j39 : A29 ++ (⟨#[32, 114, 101, 103, 105, 111, 110, 115]⟩ : ByteArray) = A39 := j39
    have HJ : Hid (A39 = mkS (headT ⟨name, T, D, mode, Q, theta, ao, cap, ecb, ucb, l⟩ ++ rowT ((l.map Int.toNat).take 0))) := by show A39 = _; rw [e39, hH]; simp [rowT]
    have hHl : (headT ⟨name, T, D, mode, Q, theta, ao, cap, ecb, ucb, l⟩).length ≤ 80 := by rw [← mkS_long, hH]; have := s39; rw [e39] at this; simpa using this
    have HRES0 : Hid (taskT ⟨name, T, D, mode, Q, theta, ao, cap, ecb, ucb, l⟩ = headT ⟨name, T, D, mode, Q, theta, ao, cap, ecb, ucb, l⟩ ++ rowT (l.map Int.toNat) ++ setsT wEcb ecb.toNat ++ setsT wUcb ucb.toNat ++ [59]) := task_head _
    clear e29 e39 hH hmt E17 s39
    generalize mkS (digs Q.toNat) = dQ at *
    clear lQ hqn
    generalize headT ⟨name, T, D, mode, Q, theta, ao, cap, ecb, ucb, l⟩ = H at *
    generalize taskT ⟨name, T, D, mode, Q, theta, ao, cap, ecb, ucb, l⟩ = R at *
    have m0 : (mode == 0) = false := by rw [hmd]; rfl
    have m1 : (mode == 1) = true := by rw [hmd]; rfl
    clear hmd
    go_enter Tryd.func9, Tryd.ntmps9
    rw [TaskV.val, TaskV.cells]
    simp only
    go_wp2_with fail
    refine wp_region_held_drew (S := fun w9 => Box w9 w.heap.size ⟨name, T, D, mode, Q, theta, ao, cap, ecb, ucb, l⟩) (by kernel_rfl) hbox (fun hHeld => ?_)
    refine take_yes 0 5 (.pointer (some ⟨w.heap.size, 0, none⟩)) rfl rfl (by kernel_rfl) (by kernel_rfl) (by kernel_rfl) (fun _ _ _ h => h) rfl (by assumption) (by intro w9 hS9; obtain ⟨s0, s1, s2, s3, s4, s5, s6, s7, s8⟩ := hS9; simp only at s0 s1 s2 s3 s4 s5 s6 s7 s8; go_simp) ?_
    simp only [List.setIfInBounds_toArray, List.set_cons_zero, List.set_cons_succ]
    refine take_yes 1 6 (.string name) rfl rfl (by kernel_rfl) (by kernel_rfl) (by kernel_rfl) (fun _ _ _ h => h) rfl (by assumption) (by intro w9 hS9; obtain ⟨s0, s1, s2, s3, s4, s5, s6, s7, s8⟩ := hS9; simp only at s0 s1 s2 s3 s4 s5 s6 s7 s8; go_simp) ?_
    simp only [List.setIfInBounds_toArray, List.set_cons_zero, List.set_cons_succ]
    refine take_yes 2 7 (.string A7) rfl rfl (by kernel_rfl) (by kernel_rfl) (by kernel_rfl) (fun _ _ _ h => h) rfl (by assumption) (by intro w9 hS9; obtain ⟨s0, s1, s2, s3, s4, s5, s6, s7, s8⟩ := hS9; simp only at s0 s1 s2 s3 s4 s5 s6 s7 s8; go_simp; omega) ?_
    simp only [List.setIfInBounds_toArray, List.set_cons_zero, List.set_cons_succ]
    refine take_yes 3 8 (.string A8) rfl rfl (by kernel_rfl) (by kernel_rfl) (by kernel_rfl) (fun _ _ _ h => h) rfl (by assumption) (by intro w9 hS9; obtain ⟨s0, s1, s2, s3, s4, s5, s6, s7, s8⟩ := hS9; simp only at s0 s1 s2 s3 s4 s5 s6 s7 s8; go_simp; omega) ?_
    simp only [List.setIfInBounds_toArray, List.set_cons_zero, List.set_cons_succ]
    refine take_yes 4 9 (.pointer (some ⟨w.heap.size, 1, none⟩)) rfl rfl (by kernel_rfl) (by kernel_rfl) (by kernel_rfl) (fun _ _ _ h => h) rfl (by assumption) (by intro w9 hS9; obtain ⟨s0, s1, s2, s3, s4, s5, s6, s7, s8⟩ := hS9; simp only at s0 s1 s2 s3 s4 s5 s6 s7 s8; go_simp) ?_
    simp only [List.setIfInBounds_toArray, List.set_cons_zero, List.set_cons_succ]
    refine take_yes 5 10 (.int .i64 T) rfl rfl (by kernel_rfl) (by kernel_rfl) (by kernel_rfl) (fun _ _ _ h => h) rfl (by assumption) (by intro w9 hS9; obtain ⟨s0, s1, s2, s3, s4, s5, s6, s7, s8⟩ := hS9; simp only at s0 s1 s2 s3 s4 s5 s6 s7 s8; go_simp) ?_
    simp only [List.setIfInBounds_toArray, List.set_cons_zero, List.set_cons_succ]
    refine take_yes 9 14 (.pointer (some ⟨w.heap.size, 2, none⟩)) rfl rfl (by kernel_rfl) (by kernel_rfl) (by kernel_rfl) (fun _ _ _ h => h) rfl (by assumption) (by intro w9 hS9; obtain ⟨s0, s1, s2, s3, s4, s5, s6, s7, s8⟩ := hS9; simp only at s0 s1 s2 s3 s4 s5 s6 s7 s8; go_simp) ?_
    simp only [List.setIfInBounds_toArray, List.set_cons_zero, List.set_cons_succ]
    refine take_yes 10 15 (.int .i64 D) rfl rfl (by kernel_rfl) (by kernel_rfl) (by kernel_rfl) (fun _ _ _ h => h) rfl (by assumption) (by intro w9 hS9; obtain ⟨s0, s1, s2, s3, s4, s5, s6, s7, s8⟩ := hS9; simp only at s0 s1 s2 s3 s4 s5 s6 s7 s8; go_simp) ?_
    simp only [List.setIfInBounds_toArray, List.set_cons_zero, List.set_cons_succ]
    refine wpAnyH_ready (rs := [6]) (by kernel_rfl) (by decide) (AllReadyH.cons rfl (fun K hK => ?_) AllReadyH.nil)
    refine (if_pos rfl).mpr ?_
    go_wp2_with fail
    refine (unhide CT _).mono ?_
    rintro e w1 ⟨rfl, bel⟩
    have B1 := hide (below_on (unhide B0) bel)
    refine hK.out _ _ (hHeld.bel bel) (fun hHeld => ?_)
    clear hK K bel
    refine take_yes 7 12 (.string A12) rfl rfl (by kernel_rfl) (by kernel_rfl) (by kernel_rfl) (fun _ _ _ h => h) rfl (by assumption) (by intro w9 hS9; obtain ⟨s0, s1, s2, s3, s4, s5, s6, s7, s8⟩ := hS9; simp only at s0 s1 s2 s3 s4 s5 s6 s7 s8; go_simp; omega) ?_
    simp only [List.setIfInBounds_toArray, List.set_cons_zero, List.set_cons_succ]
    refine take_yes 8 13 (.string A13) rfl rfl (by kernel_rfl) (by kernel_rfl) (by kernel_rfl) (fun _ _ _ h => h) rfl (by assumption) (by intro w9 hS9; obtain ⟨s0, s1, s2, s3, s4, s5, s6, s7, s8⟩ := hS9; simp only at s0 s1 s2 s3 s4 s5 s6 s7 s8; go_simp; omega) ?_
    simp only [List.setIfInBounds_toArray, List.set_cons_zero, List.set_cons_succ]
    refine wpAnyH_ready (rs := [11]) (by kernel_rfl) (by decide) (AllReadyH.cons rfl (fun K hK => ?_) AllReadyH.nil)
    refine (if_pos rfl).mpr ?_
    go_wp2_with fail
    refine (unhide CD _).mono ?_
    rintro e w2 ⟨rfl, bel⟩
    have B2 := hide (below_on (unhide B1) bel)
    refine hK.out _ _ (hHeld.bel bel) (fun hHeld => ?_)
    clear hK K bel
    refine take_yes 12 17 (.string A17) rfl rfl (by kernel_rfl) (by kernel_rfl) (by kernel_rfl) (fun _ _ _ h => h) rfl (by assumption) (by intro w9 hS9; obtain ⟨s0, s1, s2, s3, s4, s5, s6, s7, s8⟩ := hS9; simp only at s0 s1 s2 s3 s4 s5 s6 s7 s8; go_simp; omega) ?_
    simp only [List.setIfInBounds_toArray, List.set_cons_zero, List.set_cons_succ]
    refine take_yes 13 3 (.string A17) rfl rfl (by kernel_rfl) (by kernel_rfl) (by kernel_rfl) (fun _ _ _ h => h) rfl (by assumption) (by intro w9 hS9; obtain ⟨s0, s1, s2, s3, s4, s5, s6, s7, s8⟩ := hS9; simp only at s0 s1 s2 s3 s4 s5 s6 s7 s8; go_simp) ?_
    simp only [List.setIfInBounds_toArray, List.set_cons_zero, List.set_cons_succ]
    refine wpAnyH_done (by kernel_rfl) ?_ _
    have X2 := hide hHeld
    obtain ⟨c0, c1, c2, c3, c4, c5, c6, c7, c8⟩ := hHeld
    simp only at c0 c1 c2 c3 c4 c5 c6 c7 c8
    go_wp2_with fail
    refine (unhide CQ _).mono ?_
    rintro e w3 ⟨rfl, bel⟩
    have B3 := hide (below_on (unhide B2) bel)
    have X3 := hide ((unhide X2).bel bel)
    clear bel c0 c1 c2 c3 c4 c5 c6 c7 c8
    obtain ⟨c0, c1, c2, c3, c4, c5, c6, c7, c8⟩ := unhide X3
    simp only at c0 c1 c2 c3 c4 c5 c6 c7 c8
    go_wp2
    go_loopw [3, 4] (fun s i wr => ∃ k : Nat, k ≤ l.length ∧ i = .int .i64 k ∧ s = .string (mkS (H ++ rowT ((l.map Int.toNat).take k))) ∧ Below w3.heap.size w3 wr) (fun _ i _ => l.length - (intOf i).toNat)
    case atStart => exact ⟨0, Nat.zero_le _, rfl, by rw [← unhide HJ], Below.refl _ _⟩
    case round =>
      obtain ⟨k, hk, rfl, rfl, hbel⟩ := hrel
      clear c0 c1 c2 c3 c4 c5 c6 c7 c8
      have XR := hide ((unhide X3).bel hbel)
      have BQ := hide (below_on (unhide B3) hbel)
      have BW := hide hbel
      clear hbel
      obtain ⟨c0, c1, c2, c3, c4, c5, c6, c7, c8⟩ := unhide XR
      simp only at c0 c1 c2 c3 c4 c5 c6 c7 c8
      have hml : ∀ n ∈ l.map Int.toNat, n < 100000 := fun n hn => by obtain ⟨m, hm, rfl⟩ := List.mem_map.1 hn; have := unhide HRE m hm; omega
      have hs1 : (mkS (H ++ rowT ((l.map Int.toNat).take k))).size ≤ 200 := by
        rw [mkS_long, List.length_append]
        have h1 := rowT_len ((l.map Int.toNat).take k) (fun n hn => hml n (List.mem_of_mem_take hn))
        have h2 : ((l.map Int.toNat).take k).length ≤ 8 := by rw [List.length_take, List.length_map]; omega
        omega
      clear hml
      by_cases hlt : k < l.length
      · obtain ⟨b, off, rfl, hcc⟩ := regs_bel (unhide HREG) (unhide BQ) (fun e => by rw [e] at hlt; simp at hlt)
        have c := hcc k hlt
        have hq := unhide HRE _ (getD_mem hlt)
        have hqn : (((l.getD k 0).toNat : Nat) : Int) = l.getD k 0 := by omega
        have CK := hide (rdigits_any (l.getD k 0).toNat (by omega))
        rw [hqn] at CK
        have HE : Hid (mkS (H ++ rowT ((l.map Int.toNat).take k)) ++ ⟨#[32]⟩ ++ mkS (digs (l.getD k 0).toNat) = mkS (H ++ rowT ((l.map Int.toNat).take (k + 1)))) := by
          show mkS _ ++ mkS [32] ++ mkS _ = _
          rw [rowT_take _ k (by rw [List.length_map]; exact hlt), regs_getD, mkS_two, mkS_two]; simp
        have hs2 : (mkS (digs (l.getD k 0).toNat)).size ≤ 5 := by rw [mkS_long]; exact digs_short (by omega)
        clear hcc hq hqn
        generalize mkS (H ++ rowT ((l.map Int.toNat).take k)) = S at *
        generalize mkS (digs (l.getD k 0).toNat) = DD at *
        generalize l.getD k 0 = q at *
        go_wp2_with fail
        refine (unhide CK _).mono ?_
        rintro e w4 ⟨rfl, bel⟩
        have B4 := hide (below_on (unhide BW) bel)
        clear bel
        go_wp2
        go_roundw
        case rel => exact ⟨k + 1, by omega, by go_num, by rw [unhide HE], unhide B4⟩
        case measure => simp [intOf]; omega
      · have e : (l.map Int.toNat).take k = l.map Int.toNat := List.take_of_length_le (by rw [List.length_map]; omega)
        rw [e] at hs1 ⊢
        have zE := setsT_len wEcb ecb.toNat (by decide)
        have zU := setsT_len wUcb ucb.toNat (by decide)
        have yE : (mkS (setsT wEcb ecb.toNat)).size ≤ 400 := by rw [mkS_long]; exact zE
        have yU : (mkS (setsT wUcb ucb.toNat)).size ≤ 400 := by rw [mkS_long]; exact zU
        have hs0 := hs1
        rw [mkS_long] at hs0
        obtain ⟨S1, i1, f1, g1⟩ := join2 (H ++ rowT (l.map Int.toNat)) (setsT wEcb ecb.toNat) (n := 600) (by rw [List.length_append]; omega)
        obtain ⟨S2, i2, f2, g2⟩ := join2 (H ++ rowT (l.map Int.toNat) ++ setsT wEcb ecb.toNat) (setsT wUcb ucb.toNat) (n := 1000) (by rw [List.length_append, List.length_append]; omega)
        obtain ⟨S3, i3, f3, -⟩ := join2 (H ++ rowT (l.map Int.toNat) ++ setsT wEcb ecb.toNat ++ setsT wUcb ucb.toNat) [59] (n := 1001) (by rw [List.length_append, List.length_append, List.length_append, List.length_singleton]; omega)
        rw [← f1] at i2
        rw [← f2] at i3
        have i3 : S2 ++ (⟨#[59]⟩ : ByteArray) = S3 := i3
        have HRES : Hid (S3 = mkS R) := by show S3 = _; rw [f3, unhide HRES0]
        have BR := hide (unhide BQ).drew
        clear e f1 f2 f3 zE zU hs0
        generalize mkS (H ++ rowT (l.map Int.toNat)) = S at *
        generalize mkS (setsT wEcb ecb.toNat) = DE at *
        generalize mkS (setsT wUcb ucb.toNat) = DU at *
        go_wp2_with fail
        refine wp_region_held_drew (S := fun w9 => Box w9 w.heap.size ⟨name, T, D, mode, Q, theta, ao, cap, ecb, ucb, l⟩) (by kernel_rfl) (unhide XR).drew (fun hHeld => ?_)
        refine take_yes 0 56 (.string S) rfl rfl (by kernel_rfl) (by kernel_rfl) (by kernel_rfl) (fun _ _ _ h => h) rfl (by assumption) (by intro w9 hS9; obtain ⟨s0, s1, s2, s3, s4, s5, s6, s7, s8⟩ := hS9; simp only at s0 s1 s2 s3 s4 s5 s6 s7 s8; go_simp) ?_
        simp only [List.setIfInBounds_toArray, List.set_cons_zero, List.set_cons_succ]
        refine take_yes 1 57 (.pointer (some ⟨w.heap.size, 7, none⟩)) rfl rfl (by kernel_rfl) (by kernel_rfl) (by kernel_rfl) (fun _ _ _ h => h) rfl (by assumption) (by intro w9 hS9; obtain ⟨s0, s1, s2, s3, s4, s5, s6, s7, s8⟩ := hS9; simp only at s0 s1 s2 s3 s4 s5 s6 s7 s8; go_simp) ?_
        simp only [List.setIfInBounds_toArray, List.set_cons_zero, List.set_cons_succ]
        refine take_yes 2 58 (.int .u64 ecb) rfl rfl (by kernel_rfl) (by kernel_rfl) (by kernel_rfl) (fun _ _ _ h => h) rfl (by assumption) (by intro w9 hS9; obtain ⟨s0, s1, s2, s3, s4, s5, s6, s7, s8⟩ := hS9; simp only at s0 s1 s2 s3 s4 s5 s6 s7 s8; go_simp) ?_
        simp only [List.setIfInBounds_toArray, List.set_cons_zero, List.set_cons_succ]
        refine take_yes 5 61 (.pointer (some ⟨w.heap.size, 8, none⟩)) rfl rfl (by kernel_rfl) (by kernel_rfl) (by kernel_rfl) (fun _ _ _ h => h) rfl (by assumption) (by intro w9 hS9; obtain ⟨s0, s1, s2, s3, s4, s5, s6, s7, s8⟩ := hS9; simp only at s0 s1 s2 s3 s4 s5 s6 s7 s8; go_simp) ?_
        simp only [List.setIfInBounds_toArray, List.set_cons_zero, List.set_cons_succ]
        refine take_yes 6 62 (.int .u64 ucb) rfl rfl (by kernel_rfl) (by kernel_rfl) (by kernel_rfl) (fun _ _ _ h => h) rfl (by assumption) (by intro w9 hS9; obtain ⟨s0, s1, s2, s3, s4, s5, s6, s7, s8⟩ := hS9; simp only at s0 s1 s2 s3 s4 s5 s6 s7 s8; go_simp) ?_
        simp only [List.setIfInBounds_toArray, List.set_cons_zero, List.set_cons_succ]
        refine wpAnyH_ready (rs := [3]) (by kernel_rfl) (by decide) (AllReadyH.cons rfl (fun K hK => ?_) AllReadyH.nil)
        refine (if_pos rfl).mpr ?_
        go_wp2_with fail
        refine (unhide CE _).mono ?_
        rintro e w4 ⟨rfl, bel⟩
        have B4 := hide (below_on (unhide BR) bel)
        refine hK.out _ _ (hHeld.bel bel) (fun hHeld => ?_)
        clear hK K bel
        refine take_yes 4 60 (.string S1) rfl rfl (by kernel_rfl) (by kernel_rfl) (by kernel_rfl) (fun _ _ _ h => h) rfl (by assumption) (by intro w9 hS9; obtain ⟨s0, s1, s2, s3, s4, s5, s6, s7, s8⟩ := hS9; simp only at s0 s1 s2 s3 s4 s5 s6 s7 s8; go_simp; omega) ?_
        simp only [List.setIfInBounds_toArray, List.set_cons_zero, List.set_cons_succ]
        refine wpAnyH_ready (rs := [7]) (by kernel_rfl) (by decide) (AllReadyH.cons rfl (fun K hK => ?_) AllReadyH.nil)
        refine (if_pos rfl).mpr ?_
        go_wp2_with fail
        refine (unhide CU _).mono ?_
        rintro e w5 ⟨rfl, bel⟩
        have B5 := hide (below_on (unhide B4) bel)
        refine hK.out _ _ (hHeld.bel bel) (fun hHeld => ?_)
        clear hK K bel
        refine take_yes 8 64 (.string S2) rfl rfl (by kernel_rfl) (by kernel_rfl) (by kernel_rfl) (fun _ _ _ h => h) rfl (by assumption) (by intro w9 hS9; obtain ⟨s0, s1, s2, s3, s4, s5, s6, s7, s8⟩ := hS9; simp only at s0 s1 s2 s3 s4 s5 s6 s7 s8; go_simp; omega) ?_
        simp only [List.setIfInBounds_toArray, List.set_cons_zero, List.set_cons_succ]
        refine take_yes 9 65 (.string S3) rfl rfl (by kernel_rfl) (by kernel_rfl) (by kernel_rfl) (fun _ _ _ h => h) rfl (by assumption) (by intro w9 hS9; obtain ⟨s0, s1, s2, s3, s4, s5, s6, s7, s8⟩ := hS9; simp only at s0 s1 s2 s3 s4 s5 s6 s7 s8; go_simp; omega) ?_
        simp only [List.setIfInBounds_toArray, List.set_cons_zero, List.set_cons_succ]
        refine take_yes 10 2 (.string S3) rfl rfl (by kernel_rfl) (by kernel_rfl) (by kernel_rfl) (fun _ _ _ h => h) rfl (by assumption) (by intro w9 hS9; obtain ⟨s0, s1, s2, s3, s4, s5, s6, s7, s8⟩ := hS9; simp only at s0 s1 s2 s3 s4 s5 s6 s7 s8; go_simp) ?_
        simp only [List.setIfInBounds_toArray, List.set_cons_zero, List.set_cons_succ]
        refine wpAnyH_done (by kernel_rfl) ?_ _
        go_wp2
        go_ret
        exact ⟨ret_text (unhide HRES), unhide B5⟩
  · have hqn : ((theta.toNat : Nat) : Int) = theta := by omega
    have CQ := hide (rdigits_any theta.toNat (by omega))
    rw [hqn] at CQ
    have zQ : (mkS (digs theta.toNat)).size ≤ 5 := by rw [mkS_long]; exact digs_short (by omega)
    have lQ : (digs theta.toNat).length ≤ 5 := digs_short (by omega)
    obtain ⟨A28, j28, e28, s28⟩ := join2 (wTask ++ [32] ++ name.data.toList ++ (32 :: wPeriod ++ [32]) ++ digs T.toNat ++ (32 :: wDeadline ++ [32]) ++ digs D.toNat) (32 :: wThresh ++ [32]) (n := 60) (by rw [List.length_append, ← mkS_long (wTask ++ [32] ++ name.data.toList ++ (32 :: wPeriod ++ [32]) ++ digs T.toNat ++ (32 :: wDeadline ++ [32]) ++ digs D.toNat), ← unhide E17]; simp [wThresh]; omega)
    have e28b := e28
    obtain ⟨A29, j29, e29, s29⟩ := join2 ((wTask ++ [32] ++ name.data.toList ++ (32 :: wPeriod ++ [32]) ++ digs T.toNat ++ (32 :: wDeadline ++ [32]) ++ digs D.toNat) ++ (32 :: wThresh ++ [32])) (digs theta.toNat) (n := 66) (by rw [List.length_append, ← mkS_long ((wTask ++ [32] ++ name.data.toList ++ (32 :: wPeriod ++ [32]) ++ digs T.toNat ++ (32 :: wDeadline ++ [32]) ++ digs D.toNat) ++ (32 :: wThresh ++ [32])), ← e28]; omega)
    rw [← e28] at j29
    clear e28 e28b
    rw [← unhide E17] at j28
    have j28 : A17 ++ (⟨#[32, 116, 104, 114, 101, 115, 104, 32]⟩ : ByteArray) = A28 := j28
    have hH : headT ⟨name, T, D, mode, Q, theta, ao, cap, ecb, ucb, l⟩ = ((wTask ++ [32] ++ name.data.toList ++ (32 :: wPeriod ++ [32]) ++ digs T.toNat ++ (32 :: wDeadline ++ [32]) ++ digs D.toNat) ++ (32 :: wThresh ++ [32]) ++ digs theta.toNat) ++ (32 :: wRegions) := by rw [headT]; simp only; rw [hmt]; simp
    obtain ⟨A39, j39, e39, s39⟩ := join2 ((wTask ++ [32] ++ name.data.toList ++ (32 :: wPeriod ++ [32]) ++ digs T.toNat ++ (32 :: wDeadline ++ [32]) ++ digs D.toNat) ++ (32 :: wThresh ++ [32]) ++ digs theta.toNat) (32 :: wRegions) (n := 80) (by rw [List.length_append, ← mkS_long ((wTask ++ [32] ++ name.data.toList ++ (32 :: wPeriod ++ [32]) ++ digs T.toNat ++ (32 :: wDeadline ++ [32]) ++ digs D.toNat) ++ (32 :: wThresh ++ [32]) ++ digs theta.toNat), ← e29]; simp [wRegions]; omega)
    rw [← e29] at j39
    have j39 : A29 ++ (⟨#[32, 114, 101, 103, 105, 111, 110, 115]⟩ : ByteArray) = A39 := j39
    have HJ : Hid (A39 = mkS (headT ⟨name, T, D, mode, Q, theta, ao, cap, ecb, ucb, l⟩ ++ rowT ((l.map Int.toNat).take 0))) := by show A39 = _; rw [e39, hH]; simp [rowT]
    have hHl : (headT ⟨name, T, D, mode, Q, theta, ao, cap, ecb, ucb, l⟩).length ≤ 80 := by rw [← mkS_long, hH]; have := s39; rw [e39] at this; simpa using this
    have HRES0 : Hid (taskT ⟨name, T, D, mode, Q, theta, ao, cap, ecb, ucb, l⟩ = headT ⟨name, T, D, mode, Q, theta, ao, cap, ecb, ucb, l⟩ ++ rowT (l.map Int.toNat) ++ setsT wEcb ecb.toNat ++ setsT wUcb ucb.toNat ++ [59]) := task_head _
    clear e29 e39 hH hmt E17 s39
    generalize mkS (digs theta.toNat) = dQ at *
    clear lQ hqn
    generalize headT ⟨name, T, D, mode, Q, theta, ao, cap, ecb, ucb, l⟩ = H at *
    generalize taskT ⟨name, T, D, mode, Q, theta, ao, cap, ecb, ucb, l⟩ = R at *
    have m0 : (mode == 0) = false := by rw [hmd]; rfl
    have m1 : (mode == 1) = false := by rw [hmd]; rfl
    clear hmd
    go_enter Tryd.func9, Tryd.ntmps9
    rw [TaskV.val, TaskV.cells]
    simp only
    go_wp2_with fail
    refine wp_region_held_drew (S := fun w9 => Box w9 w.heap.size ⟨name, T, D, mode, Q, theta, ao, cap, ecb, ucb, l⟩) (by kernel_rfl) hbox (fun hHeld => ?_)
    refine take_yes 0 5 (.pointer (some ⟨w.heap.size, 0, none⟩)) rfl rfl (by kernel_rfl) (by kernel_rfl) (by kernel_rfl) (fun _ _ _ h => h) rfl (by assumption) (by intro w9 hS9; obtain ⟨s0, s1, s2, s3, s4, s5, s6, s7, s8⟩ := hS9; simp only at s0 s1 s2 s3 s4 s5 s6 s7 s8; go_simp) ?_
    simp only [List.setIfInBounds_toArray, List.set_cons_zero, List.set_cons_succ]
    refine take_yes 1 6 (.string name) rfl rfl (by kernel_rfl) (by kernel_rfl) (by kernel_rfl) (fun _ _ _ h => h) rfl (by assumption) (by intro w9 hS9; obtain ⟨s0, s1, s2, s3, s4, s5, s6, s7, s8⟩ := hS9; simp only at s0 s1 s2 s3 s4 s5 s6 s7 s8; go_simp) ?_
    simp only [List.setIfInBounds_toArray, List.set_cons_zero, List.set_cons_succ]
    refine take_yes 2 7 (.string A7) rfl rfl (by kernel_rfl) (by kernel_rfl) (by kernel_rfl) (fun _ _ _ h => h) rfl (by assumption) (by intro w9 hS9; obtain ⟨s0, s1, s2, s3, s4, s5, s6, s7, s8⟩ := hS9; simp only at s0 s1 s2 s3 s4 s5 s6 s7 s8; go_simp; omega) ?_
    simp only [List.setIfInBounds_toArray, List.set_cons_zero, List.set_cons_succ]
    refine take_yes 3 8 (.string A8) rfl rfl (by kernel_rfl) (by kernel_rfl) (by kernel_rfl) (fun _ _ _ h => h) rfl (by assumption) (by intro w9 hS9; obtain ⟨s0, s1, s2, s3, s4, s5, s6, s7, s8⟩ := hS9; simp only at s0 s1 s2 s3 s4 s5 s6 s7 s8; go_simp; omega) ?_
    simp only [List.setIfInBounds_toArray, List.set_cons_zero, List.set_cons_succ]
    refine take_yes 4 9 (.pointer (some ⟨w.heap.size, 1, none⟩)) rfl rfl (by kernel_rfl) (by kernel_rfl) (by kernel_rfl) (fun _ _ _ h => h) rfl (by assumption) (by intro w9 hS9; obtain ⟨s0, s1, s2, s3, s4, s5, s6, s7, s8⟩ := hS9; simp only at s0 s1 s2 s3 s4 s5 s6 s7 s8; go_simp) ?_
    simp only [List.setIfInBounds_toArray, List.set_cons_zero, List.set_cons_succ]
    refine take_yes 5 10 (.int .i64 T) rfl rfl (by kernel_rfl) (by kernel_rfl) (by kernel_rfl) (fun _ _ _ h => h) rfl (by assumption) (by intro w9 hS9; obtain ⟨s0, s1, s2, s3, s4, s5, s6, s7, s8⟩ := hS9; simp only at s0 s1 s2 s3 s4 s5 s6 s7 s8; go_simp) ?_
    simp only [List.setIfInBounds_toArray, List.set_cons_zero, List.set_cons_succ]
    refine take_yes 9 14 (.pointer (some ⟨w.heap.size, 2, none⟩)) rfl rfl (by kernel_rfl) (by kernel_rfl) (by kernel_rfl) (fun _ _ _ h => h) rfl (by assumption) (by intro w9 hS9; obtain ⟨s0, s1, s2, s3, s4, s5, s6, s7, s8⟩ := hS9; simp only at s0 s1 s2 s3 s4 s5 s6 s7 s8; go_simp) ?_
    simp only [List.setIfInBounds_toArray, List.set_cons_zero, List.set_cons_succ]
    refine take_yes 10 15 (.int .i64 D) rfl rfl (by kernel_rfl) (by kernel_rfl) (by kernel_rfl) (fun _ _ _ h => h) rfl (by assumption) (by intro w9 hS9; obtain ⟨s0, s1, s2, s3, s4, s5, s6, s7, s8⟩ := hS9; simp only at s0 s1 s2 s3 s4 s5 s6 s7 s8; go_simp) ?_
    simp only [List.setIfInBounds_toArray, List.set_cons_zero, List.set_cons_succ]
    refine wpAnyH_ready (rs := [6]) (by kernel_rfl) (by decide) (AllReadyH.cons rfl (fun K hK => ?_) AllReadyH.nil)
    refine (if_pos rfl).mpr ?_
    go_wp2_with fail
    refine (unhide CT _).mono ?_
    rintro e w1 ⟨rfl, bel⟩
    have B1 := hide (below_on (unhide B0) bel)
    refine hK.out _ _ (hHeld.bel bel) (fun hHeld => ?_)
    clear hK K bel
    refine take_yes 7 12 (.string A12) rfl rfl (by kernel_rfl) (by kernel_rfl) (by kernel_rfl) (fun _ _ _ h => h) rfl (by assumption) (by intro w9 hS9; obtain ⟨s0, s1, s2, s3, s4, s5, s6, s7, s8⟩ := hS9; simp only at s0 s1 s2 s3 s4 s5 s6 s7 s8; go_simp; omega) ?_
    simp only [List.setIfInBounds_toArray, List.set_cons_zero, List.set_cons_succ]
    refine take_yes 8 13 (.string A13) rfl rfl (by kernel_rfl) (by kernel_rfl) (by kernel_rfl) (fun _ _ _ h => h) rfl (by assumption) (by intro w9 hS9; obtain ⟨s0, s1, s2, s3, s4, s5, s6, s7, s8⟩ := hS9; simp only at s0 s1 s2 s3 s4 s5 s6 s7 s8; go_simp; omega) ?_
    simp only [List.setIfInBounds_toArray, List.set_cons_zero, List.set_cons_succ]
    refine wpAnyH_ready (rs := [11]) (by kernel_rfl) (by decide) (AllReadyH.cons rfl (fun K hK => ?_) AllReadyH.nil)
    refine (if_pos rfl).mpr ?_
    go_wp2_with fail
    refine (unhide CD _).mono ?_
    rintro e w2 ⟨rfl, bel⟩
    have B2 := hide (below_on (unhide B1) bel)
    refine hK.out _ _ (hHeld.bel bel) (fun hHeld => ?_)
    clear hK K bel
    refine take_yes 12 17 (.string A17) rfl rfl (by kernel_rfl) (by kernel_rfl) (by kernel_rfl) (fun _ _ _ h => h) rfl (by assumption) (by intro w9 hS9; obtain ⟨s0, s1, s2, s3, s4, s5, s6, s7, s8⟩ := hS9; simp only at s0 s1 s2 s3 s4 s5 s6 s7 s8; go_simp; omega) ?_
    simp only [List.setIfInBounds_toArray, List.set_cons_zero, List.set_cons_succ]
    refine take_yes 13 3 (.string A17) rfl rfl (by kernel_rfl) (by kernel_rfl) (by kernel_rfl) (fun _ _ _ h => h) rfl (by assumption) (by intro w9 hS9; obtain ⟨s0, s1, s2, s3, s4, s5, s6, s7, s8⟩ := hS9; simp only at s0 s1 s2 s3 s4 s5 s6 s7 s8; go_simp) ?_
    simp only [List.setIfInBounds_toArray, List.set_cons_zero, List.set_cons_succ]
    refine wpAnyH_done (by kernel_rfl) ?_ _
    have X2 := hide hHeld
    obtain ⟨c0, c1, c2, c3, c4, c5, c6, c7, c8⟩ := hHeld
    simp only at c0 c1 c2 c3 c4 c5 c6 c7 c8
    go_wp2_with fail
    refine (unhide CQ _).mono ?_
    rintro e w3 ⟨rfl, bel⟩
    have B3 := hide (below_on (unhide B2) bel)
    have X3 := hide ((unhide X2).bel bel)
    clear bel c0 c1 c2 c3 c4 c5 c6 c7 c8
    obtain ⟨c0, c1, c2, c3, c4, c5, c6, c7, c8⟩ := unhide X3
    simp only at c0 c1 c2 c3 c4 c5 c6 c7 c8
    go_wp2
    go_loopw [3, 4] (fun s i wr => ∃ k : Nat, k ≤ l.length ∧ i = .int .i64 k ∧ s = .string (mkS (H ++ rowT ((l.map Int.toNat).take k))) ∧ Below w3.heap.size w3 wr) (fun _ i _ => l.length - (intOf i).toNat)
    case atStart => exact ⟨0, Nat.zero_le _, rfl, by rw [← unhide HJ], Below.refl _ _⟩
    case round =>
      obtain ⟨k, hk, rfl, rfl, hbel⟩ := hrel
      clear c0 c1 c2 c3 c4 c5 c6 c7 c8
      have XR := hide ((unhide X3).bel hbel)
      have BQ := hide (below_on (unhide B3) hbel)
      have BW := hide hbel
      clear hbel
      obtain ⟨c0, c1, c2, c3, c4, c5, c6, c7, c8⟩ := unhide XR
      simp only at c0 c1 c2 c3 c4 c5 c6 c7 c8
      have hml : ∀ n ∈ l.map Int.toNat, n < 100000 := fun n hn => by obtain ⟨m, hm, rfl⟩ := List.mem_map.1 hn; have := unhide HRE m hm; omega
      have hs1 : (mkS (H ++ rowT ((l.map Int.toNat).take k))).size ≤ 200 := by
        rw [mkS_long, List.length_append]
        have h1 := rowT_len ((l.map Int.toNat).take k) (fun n hn => hml n (List.mem_of_mem_take hn))
        have h2 : ((l.map Int.toNat).take k).length ≤ 8 := by rw [List.length_take, List.length_map]; omega
        omega
      clear hml
      by_cases hlt : k < l.length
      · obtain ⟨b, off, rfl, hcc⟩ := regs_bel (unhide HREG) (unhide BQ) (fun e => by rw [e] at hlt; simp at hlt)
        have c := hcc k hlt
        have hq := unhide HRE _ (getD_mem hlt)
        have hqn : (((l.getD k 0).toNat : Nat) : Int) = l.getD k 0 := by omega
        have CK := hide (rdigits_any (l.getD k 0).toNat (by omega))
        rw [hqn] at CK
        have HE : Hid (mkS (H ++ rowT ((l.map Int.toNat).take k)) ++ ⟨#[32]⟩ ++ mkS (digs (l.getD k 0).toNat) = mkS (H ++ rowT ((l.map Int.toNat).take (k + 1)))) := by
          show mkS _ ++ mkS [32] ++ mkS _ = _
          rw [rowT_take _ k (by rw [List.length_map]; exact hlt), regs_getD, mkS_two, mkS_two]; simp
        have hs2 : (mkS (digs (l.getD k 0).toNat)).size ≤ 5 := by rw [mkS_long]; exact digs_short (by omega)
        clear hcc hq hqn
        generalize mkS (H ++ rowT ((l.map Int.toNat).take k)) = S at *
        generalize mkS (digs (l.getD k 0).toNat) = DD at *
        generalize l.getD k 0 = q at *
        go_wp2_with fail
        refine (unhide CK _).mono ?_
        rintro e w4 ⟨rfl, bel⟩
        have B4 := hide (below_on (unhide BW) bel)
        clear bel
        go_wp2
        go_roundw
        case rel => exact ⟨k + 1, by omega, by go_num, by rw [unhide HE], unhide B4⟩
        case measure => simp [intOf]; omega
      · have e : (l.map Int.toNat).take k = l.map Int.toNat := List.take_of_length_le (by rw [List.length_map]; omega)
        rw [e] at hs1 ⊢
        have zE := setsT_len wEcb ecb.toNat (by decide)
        have zU := setsT_len wUcb ucb.toNat (by decide)
        have yE : (mkS (setsT wEcb ecb.toNat)).size ≤ 400 := by rw [mkS_long]; exact zE
        have yU : (mkS (setsT wUcb ucb.toNat)).size ≤ 400 := by rw [mkS_long]; exact zU
        have hs0 := hs1
        rw [mkS_long] at hs0
        obtain ⟨S1, i1, f1, g1⟩ := join2 (H ++ rowT (l.map Int.toNat)) (setsT wEcb ecb.toNat) (n := 600) (by rw [List.length_append]; omega)
        obtain ⟨S2, i2, f2, g2⟩ := join2 (H ++ rowT (l.map Int.toNat) ++ setsT wEcb ecb.toNat) (setsT wUcb ucb.toNat) (n := 1000) (by rw [List.length_append, List.length_append]; omega)
        obtain ⟨S3, i3, f3, -⟩ := join2 (H ++ rowT (l.map Int.toNat) ++ setsT wEcb ecb.toNat ++ setsT wUcb ucb.toNat) [59] (n := 1001) (by rw [List.length_append, List.length_append, List.length_append, List.length_singleton]; omega)
        rw [← f1] at i2
        rw [← f2] at i3
        have i3 : S2 ++ (⟨#[59]⟩ : ByteArray) = S3 := i3
        have HRES : Hid (S3 = mkS R) := by show S3 = _; rw [f3, unhide HRES0]
        have BR := hide (unhide BQ).drew
        clear e f1 f2 f3 zE zU hs0
        generalize mkS (H ++ rowT (l.map Int.toNat)) = S at *
        generalize mkS (setsT wEcb ecb.toNat) = DE at *
        generalize mkS (setsT wUcb ucb.toNat) = DU at *
        go_wp2_with fail
        refine wp_region_held_drew (S := fun w9 => Box w9 w.heap.size ⟨name, T, D, mode, Q, theta, ao, cap, ecb, ucb, l⟩) (by kernel_rfl) (unhide XR).drew (fun hHeld => ?_)
        refine take_yes 0 56 (.string S) rfl rfl (by kernel_rfl) (by kernel_rfl) (by kernel_rfl) (fun _ _ _ h => h) rfl (by assumption) (by intro w9 hS9; obtain ⟨s0, s1, s2, s3, s4, s5, s6, s7, s8⟩ := hS9; simp only at s0 s1 s2 s3 s4 s5 s6 s7 s8; go_simp) ?_
        simp only [List.setIfInBounds_toArray, List.set_cons_zero, List.set_cons_succ]
        refine take_yes 1 57 (.pointer (some ⟨w.heap.size, 7, none⟩)) rfl rfl (by kernel_rfl) (by kernel_rfl) (by kernel_rfl) (fun _ _ _ h => h) rfl (by assumption) (by intro w9 hS9; obtain ⟨s0, s1, s2, s3, s4, s5, s6, s7, s8⟩ := hS9; simp only at s0 s1 s2 s3 s4 s5 s6 s7 s8; go_simp) ?_
        simp only [List.setIfInBounds_toArray, List.set_cons_zero, List.set_cons_succ]
        refine take_yes 2 58 (.int .u64 ecb) rfl rfl (by kernel_rfl) (by kernel_rfl) (by kernel_rfl) (fun _ _ _ h => h) rfl (by assumption) (by intro w9 hS9; obtain ⟨s0, s1, s2, s3, s4, s5, s6, s7, s8⟩ := hS9; simp only at s0 s1 s2 s3 s4 s5 s6 s7 s8; go_simp) ?_
        simp only [List.setIfInBounds_toArray, List.set_cons_zero, List.set_cons_succ]
        refine take_yes 5 61 (.pointer (some ⟨w.heap.size, 8, none⟩)) rfl rfl (by kernel_rfl) (by kernel_rfl) (by kernel_rfl) (fun _ _ _ h => h) rfl (by assumption) (by intro w9 hS9; obtain ⟨s0, s1, s2, s3, s4, s5, s6, s7, s8⟩ := hS9; simp only at s0 s1 s2 s3 s4 s5 s6 s7 s8; go_simp) ?_
        simp only [List.setIfInBounds_toArray, List.set_cons_zero, List.set_cons_succ]
        refine take_yes 6 62 (.int .u64 ucb) rfl rfl (by kernel_rfl) (by kernel_rfl) (by kernel_rfl) (fun _ _ _ h => h) rfl (by assumption) (by intro w9 hS9; obtain ⟨s0, s1, s2, s3, s4, s5, s6, s7, s8⟩ := hS9; simp only at s0 s1 s2 s3 s4 s5 s6 s7 s8; go_simp) ?_
        simp only [List.setIfInBounds_toArray, List.set_cons_zero, List.set_cons_succ]
        refine wpAnyH_ready (rs := [3]) (by kernel_rfl) (by decide) (AllReadyH.cons rfl (fun K hK => ?_) AllReadyH.nil)
        refine (if_pos rfl).mpr ?_
        go_wp2_with fail
        refine (unhide CE _).mono ?_
        rintro e w4 ⟨rfl, bel⟩
        have B4 := hide (below_on (unhide BR) bel)
        refine hK.out _ _ (hHeld.bel bel) (fun hHeld => ?_)
        clear hK K bel
        refine take_yes 4 60 (.string S1) rfl rfl (by kernel_rfl) (by kernel_rfl) (by kernel_rfl) (fun _ _ _ h => h) rfl (by assumption) (by intro w9 hS9; obtain ⟨s0, s1, s2, s3, s4, s5, s6, s7, s8⟩ := hS9; simp only at s0 s1 s2 s3 s4 s5 s6 s7 s8; go_simp; omega) ?_
        simp only [List.setIfInBounds_toArray, List.set_cons_zero, List.set_cons_succ]
        refine wpAnyH_ready (rs := [7]) (by kernel_rfl) (by decide) (AllReadyH.cons rfl (fun K hK => ?_) AllReadyH.nil)
        refine (if_pos rfl).mpr ?_
        go_wp2_with fail
        refine (unhide CU _).mono ?_
        rintro e w5 ⟨rfl, bel⟩
        have B5 := hide (below_on (unhide B4) bel)
        refine hK.out _ _ (hHeld.bel bel) (fun hHeld => ?_)
        clear hK K bel
        refine take_yes 8 64 (.string S2) rfl rfl (by kernel_rfl) (by kernel_rfl) (by kernel_rfl) (fun _ _ _ h => h) rfl (by assumption) (by intro w9 hS9; obtain ⟨s0, s1, s2, s3, s4, s5, s6, s7, s8⟩ := hS9; simp only at s0 s1 s2 s3 s4 s5 s6 s7 s8; go_simp; omega) ?_
        simp only [List.setIfInBounds_toArray, List.set_cons_zero, List.set_cons_succ]
        refine take_yes 9 65 (.string S3) rfl rfl (by kernel_rfl) (by kernel_rfl) (by kernel_rfl) (fun _ _ _ h => h) rfl (by assumption) (by intro w9 hS9; obtain ⟨s0, s1, s2, s3, s4, s5, s6, s7, s8⟩ := hS9; simp only at s0 s1 s2 s3 s4 s5 s6 s7 s8; go_simp; omega) ?_
        simp only [List.setIfInBounds_toArray, List.set_cons_zero, List.set_cons_succ]
        refine take_yes 10 2 (.string S3) rfl rfl (by kernel_rfl) (by kernel_rfl) (by kernel_rfl) (fun _ _ _ h => h) rfl (by assumption) (by intro w9 hS9; obtain ⟨s0, s1, s2, s3, s4, s5, s6, s7, s8⟩ := hS9; simp only at s0 s1 s2 s3 s4 s5 s6 s7 s8; go_simp) ?_
        simp only [List.setIfInBounds_toArray, List.set_cons_zero, List.set_cons_succ]
        refine wpAnyH_done (by kernel_rfl) ?_ _
        go_wp2
        go_ret
        exact ⟨ret_text (unhide HRES), unhide B5⟩
end Go.Proofs.YtlfmnnngadnkpaaDoor.Lex
