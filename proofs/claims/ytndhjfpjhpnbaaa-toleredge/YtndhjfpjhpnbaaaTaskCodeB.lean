/- What All of package task answers. -/
import Derived.Test.YtndhjfpjhpnbaaaTaskCodeA
namespace Go.Proofs.Ytndhjfpjhpnbaaa.Lex
set_option maxRecDepth 100000
open Go.ChangeShapes Go.WideShapes Go.RowKit

/- has one of the first tasks this name? -/
theorem has1_any (t : TaskV) (g : Nat) (nm : ByteArray) (w : World) (hg : w.cell? ⟨g, 0, none⟩ = some (.string nm)) : Calls Try.prog 37 #[t.val, .pointer (some ⟨g, 0, none⟩)] w fun e w' => e = .returned (.bool (t.name.data.toList == nm.data.toList)) ∧ Below w.heap.size w w' := by
  have hb := World.block_lt_of_cell? w _ hg
  simp only at hb
  have hne : g ≠ w.heap.size := Nat.ne_of_lt hb
  go_enter Try.func37, Try.ntmps37
  rw [TaskV.val, TaskV.cells]
  go_wp2
  go_ret
  exact ⟨ret_bool (by rw [ByteArray.toList_eq, ByteArray.toList_eq]), (Below.refl _ _).alloc (Nat.le_refl _) _⟩
def noneB (ts : List TaskV) (n : Nat) (nm : ByteArray) : Bool := (List.range n).all fun q => !((ts.getD q task0).name.data.toList == nm.data.toList)
set_option maxHeartbeats 800000 in
theorem ifn_any (b off cap g n : Nat) (ts : List TaskV) (nm : ByteArray) (w : World) (hn : n ≤ 30) (hg : w.cell? ⟨g, 0, none⟩ = some (.string nm)) (hrow : ∀ j, j < n → TaskAt w b (off + j * 9) (ts.getD j task0)) :
    Calls Try.prog 45 #[.slice (some ⟨b, off, none⟩) n cap, .func (.func 37) #[] #[.pointer (some ⟨g, 0, none⟩)]] w fun e w' => ∃ i : Int, e = .returned (.int .i64 i) ∧ decide (i ≥ 0) = (!noneB ts n nm) ∧ Below w.heap.size w w' := by
  generalize hans : noneB ts n nm = ans
  have HQ := hide hans
  have HR := hide hrow
  have HG := hide hg
  clear hans hrow hg
  go_enter Try.func45, Try.ntmps45
  go_wp2
  go_loopw [8] (fun i wr => ∃ k : Nat, k ≤ n ∧ i = .int .i64 k ∧ noneB ts k nm = true ∧ Below w.heap.size w wr) (fun i _ => n - (intOf i).toNat)
  case atStart => exact ⟨0, Nat.zero_le _, rfl, rfl, Below.refl _ _⟩
  case round =>
    obtain ⟨k, hk, rfl, hpre, hbel⟩ := hrel
    have B := hide hbel
    clear hbel
    by_cases hlt : k < n
    · obtain ⟨t0, t1, t2, t3, t4, t5, t6, t7, t8⟩ := (unhide HR k hlt).bel (unhide B)
      have CH := hide (has1_any (ts.getD k task0) g nm wr (cell_bel' (unhide HG) (unhide B)))
      cases hq : ((ts.getD k task0).name.data.toList == nm.data.toList)
      · rw [hq] at CH
        have HN := hide (show noneB ts (k + 1) nm = true from range_next hpre (by rw [hq]; rfl))
        clear hpre hq
        generalize ts.getD k task0 = t at *
        go_wp2_with fail
        refine (unhide CH).mono ?_
        rintro e w1 ⟨rfl, bel⟩
        have B1 := hide (below_on (unhide B) bel)
        clear bel
        go_wp2
        go_roundw
        case rel => exact ⟨k + 1, by omega, by go_num, unhide HN, unhide B1⟩
        case measure => simp [intOf]; omega
      · have HF : Hid (ans = false) := by show ans = false; rw [← unhide HQ]; exact range_not hlt (by rw [hq]; rfl)
        rw [hq] at CH
        clear hpre hq
        generalize ts.getD k task0 = t at *
        go_wp2_with fail
        refine (unhide CH).mono ?_
        rintro e w1 ⟨rfl, bel⟩
        have B1 := hide (below_on (unhide B) bel)
        clear bel
        go_wp2
        go_ret
        exact ⟨_, rfl, by rw [unhide HF]; simp, unhide B1⟩
    · have e : k = n := by omega
      subst e
      have HF : Hid (ans = true) := by show ans = true; rw [← unhide HQ]; exact hpre
      clear hpre
      go_wp2
      go_ret
      exact ⟨_, rfl, by rw [unhide HF]; rfl, unhide B⟩
theorem cfn_any (b off cap g n : Nat) (ts : List TaskV) (nm : ByteArray) (w : World) (hn : n ≤ 30) (hg : w.cell? ⟨g, 0, none⟩ = some (.string nm)) (hrow : ∀ j, j < n → TaskAt w b (off + j * 9) (ts.getD j task0)) :
    Calls Try.prog 36 #[.slice (some ⟨b, off, none⟩) n cap, .func (.func 37) #[] #[.pointer (some ⟨g, 0, none⟩)]] w fun e w' => e = .returned (.bool (!noneB ts n nm)) ∧ Below w.heap.size w w' := by
  have CI := hide (ifn_any b off cap g n ts nm w hn hg hrow)
  clear hg hrow
  go_enter Try.func36, Try.ntmps36
  go_wp2_with fail
  refine (unhide CI).mono ?_
  rintro e w1 ⟨i, rfl, hi, bel⟩
  have B := hide bel
  have HI := hide hi
  clear bel hi
  go_wp2
  go_ret
  exact ⟨ret_bool (unhide HI), unhide B⟩
theorem has_any (b off cap n : Nat) (ts : List TaskV) (nm : ByteArray) (w : World) (hn : n ≤ 30) (hrow : ∀ j, j < n → TaskAt w b (off + j * 9) (ts.getD j task0)) :
    Calls Try.prog 26 #[.slice (some ⟨b, off, none⟩) n cap, .string nm] w fun e w' => e = .returned (.bool (!noneB ts n nm)) ∧ Below w.heap.size w w' := by
  have CI := hide (cfn_any b off cap w.heap.size n ts nm (w.alloc (.cells #[.string nm] 9)) hn (by simp) (fun j hj => (hrow j hj).bel ((Below.refl _ _).alloc (Nat.le_refl _) _)))
  clear hrow
  have hmf : ∀ (fn : Fn) (first cap : Array Value) (w : World), (Instr.makeFunc fn first cap).run Try.prog w = .ok (.func fn first cap) w := fun _ _ _ _ => rfl
  go_enter Try.func26, Try.ntmps26
  go_wp2_with fail
  refine (unhide CI).mono ?_
  rintro e w1 ⟨rfl, bel⟩
  have B := hide (bel_box (Below.refl _ _) bel)
  clear bel
  go_wp2
  go_ret
  exact ⟨rfl, unhide B⟩
/- a set -/
theorem ok_parts (ts : List TaskV) (k : Nat) : okAt ts k = (isB (ts.getD k task0) k && noneB ts k (ts.getD k task0).name) := rfl
set_option maxHeartbeats 6400000 in
theorem code_AllG (s : SetV) (w : World) (hs : SetIn w s) : Calls Try.prog 17 #[s.val] w fun e w' => e = .returned (.bool (allB s)) ∧ Below w.heap.size w w' := by
  have h30 := hs.len
  have hfit := hs.fits
  obtain ⟨rl, ao, cap, ts⟩ := s
  have hall : allB ⟨rl, ao, cap, ts⟩ = (inB rl 0 10000 && (decide (1 ≤ ts.length) && (decide (ts.length ≤ 8) && (List.range ts.length).all (okAt ts)))) := rfl
  rw [hall]
  clear hall
  simp only at h30 hfit
  by_cases hr0 : rl < 0
  · rw [show inB rl 0 10000 = false by simp [inB]; omega, Bool.false_and]
    clear hs
    go_enter Try.func17, Try.ntmps17
    rw [SetV.val]
    simp only
    go_wp2
    go_ret
    exact ⟨rfl, (Below.refl _ _).alloc (Nat.le_refl _) _⟩
  by_cases hr1 : 10000 < rl
  · rw [show inB rl 0 10000 = false by simp [inB]; omega, Bool.false_and]
    clear hs
    go_enter Try.func17, Try.ntmps17
    rw [SetV.val]
    simp only
    go_wp2
    go_ret
    exact ⟨rfl, (Below.refl _ _).alloc (Nat.le_refl _) _⟩
  rw [show inB rl 0 10000 = true by simp [inB]; omega, Bool.true_and]
  by_cases h1 : ts.length < 1
  · rw [decide_eq_false (show ¬ 1 ≤ ts.length by omega), Bool.false_and]
    clear hs
    go_enter Try.func17, Try.ntmps17
    rw [SetV.val]
    simp only
    go_wp2
    go_ret
    exact ⟨rfl, (Below.refl _ _).alloc (Nat.le_refl _) _⟩
  rw [decide_eq_true (show 1 ≤ ts.length by omega), Bool.true_and]
  by_cases h8 : 8 < ts.length
  · rw [decide_eq_false (show ¬ ts.length ≤ 8 by omega), Bool.false_and]
    clear hs
    go_enter Try.func17, Try.ntmps17
    rw [SetV.val]
    simp only
    go_wp2
    go_ret
    exact ⟨rfl, (Below.refl _ _).alloc (Nat.le_refl _) _⟩
  rw [decide_eq_true (show ts.length ≤ 8 by omega), Bool.true_and]
  obtain ⟨b, off, hao, ht⟩ := set_task hs (fun e => by simp only at e; rw [e] at h1; simp at h1)
  simp only at hao ht
  subst hao
  generalize hans : (List.range ts.length).all (okAt ts) = ans
  have HQ := hide hans
  have HT := hide ht
  clear hans ht hs
  go_enter Try.func17, Try.ntmps17
  rw [SetV.val]
  simp only
  go_wp2
  go_loopw [26] (fun i wr => ∃ k : Nat, k ≤ ts.length ∧ i = .int .i64 k ∧ (List.range k).all (okAt ts) = true ∧ Below (w.alloc (.cells #[.int .i64 rl, .slice (some ⟨b, off, none⟩) ts.length cap] 24)).heap.size (w.alloc (.cells #[.int .i64 rl, .slice (some ⟨b, off, none⟩) ts.length cap] 24)) wr) (fun i _ => ts.length - (intOf i).toNat)
  case atStart => exact ⟨0, Nat.zero_le _, rfl, rfl, Below.refl _ _⟩
  case round =>
    obtain ⟨k, hk, rfl, hpre, hbel⟩ := hrel
    obtain ⟨c0, c1⟩ := boxed2 hbel
    have B := hide hbel
    have B' := hide (bel_box (Below.refl _ _) hbel)
    clear hbel
    by_cases hlt : k < ts.length
    · obtain ⟨t0, t1, t2, t3, t4, t5, t6, t7, t8⟩ := (unhide HT k hlt).1.bel (unhide B')
      have IN := hide (task_bel (unhide HT k hlt).2 (unhide B'))
      have CI := hide (fun w h => code_Is (ts.getD k task0) k w h (by constructor <;> omega))
      have CH := hide (fun w h => has_any b off cap k ts (ts.getD k task0).name w (by omega) h)
      have hb0 := World.block_lt_of_cell? wr _ t0
      have hb1 := World.block_lt_of_cell? wr _ c0
      simp only at hb0 hb1
      cases hok : isB (ts.getD k task0) k
      · have HF : Hid (ans = false) := by show ans = false; rw [← unhide HQ]; exact range_not hlt (by rw [ok_parts, hok]; rfl)
        rw [hok] at CI
        clear hok hpre CH
        generalize ts.getD k task0 = t at *
        have hkc : k ≤ cap := by omega
        have BW := hide (((unhide B').alloc (unhide B').size (.cells #[.string t.name, .int .i64 t.T, .int .i64 t.D, .int .i64 t.mode, .int .i64 t.Q, .int .i64 t.theta, .slice t.ao t.regs.length t.cap, .int .u64 t.ecb, .int .u64 t.ucb] 38)).drew)
        have BV := hide (((unhide B).alloc (unhide B).size (.cells #[.string t.name, .int .i64 t.T, .int .i64 t.D, .int .i64 t.mode, .int .i64 t.Q, .int .i64 t.theta, .slice t.ao t.regs.length t.cap, .int .u64 t.ecb, .int .u64 t.ucb] 38)).drew)
        go_wp2_with fail
        refine wp_region_held_drew (S := fun w9 => w9.cell? ⟨w.heap.size, 1, none⟩ = some (.slice (some ⟨b, off, none⟩) ts.length cap) ∧ Box w9 wr.heap.size t) (by kernel_rfl) ⟨cell_bel' c1 (((Below.refl _ _).alloc (Nat.le_refl _) _).drew), (box_new wr t 38).drew⟩ (fun hHeld => ?_)
        refine take_yes 0 31 (.agg #[.string t.name, .int .i64 t.T, .int .i64 t.D, .int .i64 t.mode, .int .i64 t.Q, .int .i64 t.theta, .slice t.ao t.regs.length t.cap, .int .u64 t.ecb, .int .u64 t.ucb]) rfl rfl (by kernel_rfl) (by kernel_rfl) (by kernel_rfl) (fun _ _ _ h => h) rfl (by assumption) (by intro w9 hS9; obtain ⟨s, s0, s1, s2, s3, s4, s5, s6, s7, s8⟩ := hS9; go_simp) ?_
        simp only [List.setIfInBounds_toArray, List.set_cons_zero, List.set_cons_succ]
        refine take_yes 1 32 (.int .i64 k) rfl rfl (by kernel_rfl) (by kernel_rfl) (by kernel_rfl) (fun _ _ _ h => h) rfl (by assumption) (by intro w9 hS9; obtain ⟨s, s0, s1, s2, s3, s4, s5, s6, s7, s8⟩ := hS9; go_simp) ?_
        simp only [List.setIfInBounds_toArray, List.set_cons_zero, List.set_cons_succ]
        refine wpAnyH_ready (rs := [2]) (by kernel_rfl) (by decide) (AllReadyH.cons rfl (fun K hK => ?_) AllReadyH.nil)
        refine (if_pos rfl).mpr ?_
        go_wp2_with fail
        refine (unhide CI _ (task_bel (unhide IN) (((Below.refl _ _).alloc (Nat.le_refl _) _).drew))).mono ?_
        rintro e x1 ⟨rfl, bel⟩
        have B2 := hide (below_on (unhide BW) bel)
        have BV2 := hide ((unhide BV).trans (bel.mono (unhide BV).size))
        refine hK.out _ _ ⟨cell_bel' hHeld.1 bel, hHeld.2.bel bel⟩ (fun hHeld => ?_)
        clear hK K bel
        refine take_yes 3 34 (.bool true) rfl rfl (by kernel_rfl) (by kernel_rfl) (by kernel_rfl) (fun _ _ _ h => h) rfl (by assumption) (by intro w9 hS9; obtain ⟨s, s0, s1, s2, s3, s4, s5, s6, s7, s8⟩ := hS9; go_simp) ?_
        simp only [List.setIfInBounds_toArray, List.set_cons_zero, List.set_cons_succ]
        refine take_yes 4 35 (.bool true) rfl rfl (by kernel_rfl) (by kernel_rfl) (by kernel_rfl) (fun _ _ _ h => h) rfl (by assumption) (by intro w9 hS9; obtain ⟨s, s0, s1, s2, s3, s4, s5, s6, s7, s8⟩ := hS9; go_simp) ?_
        simp only [List.setIfInBounds_toArray, List.set_cons_zero, List.set_cons_succ]
        refine take_no 5 36 rfl rfl (by kernel_rfl) (by kernel_rfl) (by kernel_rfl) (fun _ _ _ h => h) rfl (by assumption) ?_
        simp only [List.setIfInBounds_toArray, List.set_cons_zero, List.set_cons_succ]
        refine take_no 6 37 rfl rfl (by kernel_rfl) (by kernel_rfl) (by kernel_rfl) (fun _ _ _ h => h) rfl (by assumption) ?_
        simp only [List.setIfInBounds_toArray, List.set_cons_zero, List.set_cons_succ]
        refine take_no 7 38 rfl rfl (by kernel_rfl) (by kernel_rfl) (by kernel_rfl) (fun _ _ _ h => h) rfl (by assumption) ?_
        simp only [List.setIfInBounds_toArray, List.set_cons_zero, List.set_cons_succ]
        refine take_no 8 39 rfl rfl (by kernel_rfl) (by kernel_rfl) (by kernel_rfl) (fun _ _ _ h => h) rfl (by assumption) ?_
        simp only [List.setIfInBounds_toArray, List.set_cons_zero, List.set_cons_succ]
        refine take_no 9 40 rfl rfl (by kernel_rfl) (by kernel_rfl) (by kernel_rfl) (fun _ _ _ h => h) rfl (by assumption) ?_
        simp only [List.setIfInBounds_toArray, List.set_cons_zero, List.set_cons_succ]
        refine take_no 10 41 rfl rfl (by kernel_rfl) (by kernel_rfl) (by kernel_rfl) (fun _ _ _ h => h) rfl (by assumption) ?_
        simp only [List.setIfInBounds_toArray, List.set_cons_zero, List.set_cons_succ]
        refine take_no 11 42 rfl rfl (by kernel_rfl) (by kernel_rfl) (by kernel_rfl) (fun _ _ _ h => h) rfl (by assumption) ?_
        simp only [List.setIfInBounds_toArray, List.set_cons_zero, List.set_cons_succ]
        refine take_yes 12 43 (.bool true) rfl rfl (by kernel_rfl) (by kernel_rfl) (by kernel_rfl) (fun _ _ _ h => h) rfl (by assumption) (by intro w9 hS9; obtain ⟨s, s0, s1, s2, s3, s4, s5, s6, s7, s8⟩ := hS9; go_simp) ?_
        simp only [List.setIfInBounds_toArray, List.set_cons_zero, List.set_cons_succ]
        refine wpAnyH_done (by kernel_rfl) ?_ _
        go_wp2
        go_ret
        exact ⟨ret_bool (unhide HF).symm, unhide B2⟩
      · rw [hok] at CI
        cases hno : noneB ts k (ts.getD k task0).name
        · have HF : Hid (ans = false) := by show ans = false; rw [← unhide HQ]; exact range_not hlt (by rw [ok_parts, hno, Bool.and_false])
          rw [hno] at CH
          clear hok hno hpre
          generalize ts.getD k task0 = t at *
          have hkc : k ≤ cap := by omega
          have BW := hide (((unhide B').alloc (unhide B').size (.cells #[.string t.name, .int .i64 t.T, .int .i64 t.D, .int .i64 t.mode, .int .i64 t.Q, .int .i64 t.theta, .slice t.ao t.regs.length t.cap, .int .u64 t.ecb, .int .u64 t.ucb] 38)).drew)
          have BV := hide (((unhide B).alloc (unhide B).size (.cells #[.string t.name, .int .i64 t.T, .int .i64 t.D, .int .i64 t.mode, .int .i64 t.Q, .int .i64 t.theta, .slice t.ao t.regs.length t.cap, .int .u64 t.ecb, .int .u64 t.ucb] 38)).drew)
          go_wp2_with fail
          refine wp_region_held_drew (S := fun w9 => w9.cell? ⟨w.heap.size, 1, none⟩ = some (.slice (some ⟨b, off, none⟩) ts.length cap) ∧ Box w9 wr.heap.size t) (by kernel_rfl) ⟨cell_bel' c1 (((Below.refl _ _).alloc (Nat.le_refl _) _).drew), (box_new wr t 38).drew⟩ (fun hHeld => ?_)
          refine take_yes 0 31 (.agg #[.string t.name, .int .i64 t.T, .int .i64 t.D, .int .i64 t.mode, .int .i64 t.Q, .int .i64 t.theta, .slice t.ao t.regs.length t.cap, .int .u64 t.ecb, .int .u64 t.ucb]) rfl rfl (by kernel_rfl) (by kernel_rfl) (by kernel_rfl) (fun _ _ _ h => h) rfl (by assumption) (by intro w9 hS9; obtain ⟨s, s0, s1, s2, s3, s4, s5, s6, s7, s8⟩ := hS9; go_simp) ?_
          simp only [List.setIfInBounds_toArray, List.set_cons_zero, List.set_cons_succ]
          refine take_yes 1 32 (.int .i64 k) rfl rfl (by kernel_rfl) (by kernel_rfl) (by kernel_rfl) (fun _ _ _ h => h) rfl (by assumption) (by intro w9 hS9; obtain ⟨s, s0, s1, s2, s3, s4, s5, s6, s7, s8⟩ := hS9; go_simp) ?_
          simp only [List.setIfInBounds_toArray, List.set_cons_zero, List.set_cons_succ]
          refine wpAnyH_ready (rs := [2]) (by kernel_rfl) (by decide) (AllReadyH.cons rfl (fun K hK => ?_) AllReadyH.nil)
          refine (if_pos rfl).mpr ?_
          go_wp2_with fail
          refine (unhide CI _ (task_bel (unhide IN) (((Below.refl _ _).alloc (Nat.le_refl _) _).drew))).mono ?_
          rintro e x1 ⟨rfl, bel⟩
          have B2 := hide (below_on (unhide BW) bel)
          have BV2 := hide ((unhide BV).trans (bel.mono (unhide BV).size))
          refine hK.out _ _ ⟨cell_bel' hHeld.1 bel, hHeld.2.bel bel⟩ (fun hHeld => ?_)
          clear hK K bel
          refine take_yes 3 34 (.bool false) rfl rfl (by kernel_rfl) (by kernel_rfl) (by kernel_rfl) (fun _ _ _ h => h) rfl (by assumption) (by intro w9 hS9; obtain ⟨s, s0, s1, s2, s3, s4, s5, s6, s7, s8⟩ := hS9; go_simp) ?_
          simp only [List.setIfInBounds_toArray, List.set_cons_zero, List.set_cons_succ]
          refine take_yes 4 35 (.bool false) rfl rfl (by kernel_rfl) (by kernel_rfl) (by kernel_rfl) (fun _ _ _ h => h) rfl (by assumption) (by intro w9 hS9; obtain ⟨s, s0, s1, s2, s3, s4, s5, s6, s7, s8⟩ := hS9; go_simp) ?_
          simp only [List.setIfInBounds_toArray, List.set_cons_zero, List.set_cons_succ]
          refine take_yes 5 36 (.pointer (some ⟨w.heap.size, 1, none⟩)) rfl rfl (by kernel_rfl) (by kernel_rfl) (by kernel_rfl) (fun _ _ _ h => h) rfl (by assumption) (by intro w9 hS9; obtain ⟨s, s0, s1, s2, s3, s4, s5, s6, s7, s8⟩ := hS9; go_simp) ?_
          simp only [List.setIfInBounds_toArray, List.set_cons_zero, List.set_cons_succ]
          refine take_yes 6 37 (.slice (some ⟨b, off, none⟩) ts.length cap) rfl rfl (by kernel_rfl) (by kernel_rfl) (by kernel_rfl) (fun _ _ _ h => h) rfl (by assumption) (by intro w9 hS9; obtain ⟨s, s0, s1, s2, s3, s4, s5, s6, s7, s8⟩ := hS9; go_simp) ?_
          simp only [List.setIfInBounds_toArray, List.set_cons_zero, List.set_cons_succ]
          refine take_yes 7 38 (.int .i64 k) rfl rfl (by kernel_rfl) (by kernel_rfl) (by kernel_rfl) (fun _ _ _ h => h) rfl (by assumption) (by intro w9 hS9; obtain ⟨s, s0, s1, s2, s3, s4, s5, s6, s7, s8⟩ := hS9; go_simp) ?_
          simp only [List.setIfInBounds_toArray, List.set_cons_zero, List.set_cons_succ]
          refine take_yes 8 39 (.slice (some ⟨b, off, none⟩) k cap) rfl rfl (by kernel_rfl) (by kernel_rfl) (by kernel_rfl) (fun _ _ _ h => h) rfl (by assumption) (by intro w9 hS9; obtain ⟨s, s0, s1, s2, s3, s4, s5, s6, s7, s8⟩ := hS9; go_simp) ?_
          simp only [List.setIfInBounds_toArray, List.set_cons_zero, List.set_cons_succ]
          refine take_yes 9 40 (.pointer (some ⟨wr.heap.size, 0, none⟩)) rfl rfl (by kernel_rfl) (by kernel_rfl) (by kernel_rfl) (fun _ _ _ h => h) rfl (by assumption) (by intro w9 hS9; obtain ⟨s, s0, s1, s2, s3, s4, s5, s6, s7, s8⟩ := hS9; go_simp) ?_
          simp only [List.setIfInBounds_toArray, List.set_cons_zero, List.set_cons_succ]
          refine take_yes 10 41 (.string t.name) rfl rfl (by kernel_rfl) (by kernel_rfl) (by kernel_rfl) (fun _ _ _ h => h) rfl (by assumption) (by intro w9 hS9; obtain ⟨s, s0, s1, s2, s3, s4, s5, s6, s7, s8⟩ := hS9; go_simp) ?_
          simp only [List.setIfInBounds_toArray, List.set_cons_zero, List.set_cons_succ]
          refine wpAnyH_ready (rs := [11]) (by kernel_rfl) (by decide) (AllReadyH.cons rfl (fun K hK => ?_) AllReadyH.nil)
          refine (if_pos rfl).mpr ?_
          go_wp2_with fail
          refine (unhide CH _ (fun j hj => (unhide HT j (by omega)).1.bel (unhide B2))).mono ?_
          rintro e x2 ⟨rfl, bel⟩
          have B3 := hide (below_on (unhide B2) bel)
          have BV3 := hide ((unhide BV2).trans (bel.mono (unhide BV2).size))
          refine hK.out _ _ ⟨cell_bel' hHeld.1 bel, hHeld.2.bel bel⟩ (fun hHeld => ?_)
          clear hK K bel
          refine take_yes 12 43 (.bool true) rfl rfl (by kernel_rfl) (by kernel_rfl) (by kernel_rfl) (fun _ _ _ h => h) rfl (by assumption) (by intro w9 hS9; obtain ⟨s, s0, s1, s2, s3, s4, s5, s6, s7, s8⟩ := hS9; go_simp) ?_
          simp only [List.setIfInBounds_toArray, List.set_cons_zero, List.set_cons_succ]
          refine wpAnyH_done (by kernel_rfl) ?_ _
          go_wp2
          go_ret
          exact ⟨ret_bool (unhide HF).symm, unhide B3⟩
        · have HP := hide (range_next hpre (show okAt ts k = true by rw [ok_parts, hok, hno]; rfl))
          rw [hno] at CH
          clear hok hno hpre
          generalize ts.getD k task0 = t at *
          have hkc : k ≤ cap := by omega
          have BW := hide (((unhide B').alloc (unhide B').size (.cells #[.string t.name, .int .i64 t.T, .int .i64 t.D, .int .i64 t.mode, .int .i64 t.Q, .int .i64 t.theta, .slice t.ao t.regs.length t.cap, .int .u64 t.ecb, .int .u64 t.ucb] 38)).drew)
          have BV := hide (((unhide B).alloc (unhide B).size (.cells #[.string t.name, .int .i64 t.T, .int .i64 t.D, .int .i64 t.mode, .int .i64 t.Q, .int .i64 t.theta, .slice t.ao t.regs.length t.cap, .int .u64 t.ecb, .int .u64 t.ucb] 38)).drew)
          go_wp2_with fail
          refine wp_region_held_drew (S := fun w9 => w9.cell? ⟨w.heap.size, 1, none⟩ = some (.slice (some ⟨b, off, none⟩) ts.length cap) ∧ Box w9 wr.heap.size t) (by kernel_rfl) ⟨cell_bel' c1 (((Below.refl _ _).alloc (Nat.le_refl _) _).drew), (box_new wr t 38).drew⟩ (fun hHeld => ?_)
          refine take_yes 0 31 (.agg #[.string t.name, .int .i64 t.T, .int .i64 t.D, .int .i64 t.mode, .int .i64 t.Q, .int .i64 t.theta, .slice t.ao t.regs.length t.cap, .int .u64 t.ecb, .int .u64 t.ucb]) rfl rfl (by kernel_rfl) (by kernel_rfl) (by kernel_rfl) (fun _ _ _ h => h) rfl (by assumption) (by intro w9 hS9; obtain ⟨s, s0, s1, s2, s3, s4, s5, s6, s7, s8⟩ := hS9; go_simp) ?_
          simp only [List.setIfInBounds_toArray, List.set_cons_zero, List.set_cons_succ]
          refine take_yes 1 32 (.int .i64 k) rfl rfl (by kernel_rfl) (by kernel_rfl) (by kernel_rfl) (fun _ _ _ h => h) rfl (by assumption) (by intro w9 hS9; obtain ⟨s, s0, s1, s2, s3, s4, s5, s6, s7, s8⟩ := hS9; go_simp) ?_
          simp only [List.setIfInBounds_toArray, List.set_cons_zero, List.set_cons_succ]
          refine wpAnyH_ready (rs := [2]) (by kernel_rfl) (by decide) (AllReadyH.cons rfl (fun K hK => ?_) AllReadyH.nil)
          refine (if_pos rfl).mpr ?_
          go_wp2_with fail
          refine (unhide CI _ (task_bel (unhide IN) (((Below.refl _ _).alloc (Nat.le_refl _) _).drew))).mono ?_
          rintro e x1 ⟨rfl, bel⟩
          have B2 := hide (below_on (unhide BW) bel)
          have BV2 := hide ((unhide BV).trans (bel.mono (unhide BV).size))
          refine hK.out _ _ ⟨cell_bel' hHeld.1 bel, hHeld.2.bel bel⟩ (fun hHeld => ?_)
          clear hK K bel
          refine take_yes 3 34 (.bool false) rfl rfl (by kernel_rfl) (by kernel_rfl) (by kernel_rfl) (fun _ _ _ h => h) rfl (by assumption) (by intro w9 hS9; obtain ⟨s, s0, s1, s2, s3, s4, s5, s6, s7, s8⟩ := hS9; go_simp) ?_
          simp only [List.setIfInBounds_toArray, List.set_cons_zero, List.set_cons_succ]
          refine take_yes 4 35 (.bool false) rfl rfl (by kernel_rfl) (by kernel_rfl) (by kernel_rfl) (fun _ _ _ h => h) rfl (by assumption) (by intro w9 hS9; obtain ⟨s, s0, s1, s2, s3, s4, s5, s6, s7, s8⟩ := hS9; go_simp) ?_
          simp only [List.setIfInBounds_toArray, List.set_cons_zero, List.set_cons_succ]
          refine take_yes 5 36 (.pointer (some ⟨w.heap.size, 1, none⟩)) rfl rfl (by kernel_rfl) (by kernel_rfl) (by kernel_rfl) (fun _ _ _ h => h) rfl (by assumption) (by intro w9 hS9; obtain ⟨s, s0, s1, s2, s3, s4, s5, s6, s7, s8⟩ := hS9; go_simp) ?_
          simp only [List.setIfInBounds_toArray, List.set_cons_zero, List.set_cons_succ]
          refine take_yes 6 37 (.slice (some ⟨b, off, none⟩) ts.length cap) rfl rfl (by kernel_rfl) (by kernel_rfl) (by kernel_rfl) (fun _ _ _ h => h) rfl (by assumption) (by intro w9 hS9; obtain ⟨s, s0, s1, s2, s3, s4, s5, s6, s7, s8⟩ := hS9; go_simp) ?_
          simp only [List.setIfInBounds_toArray, List.set_cons_zero, List.set_cons_succ]
          refine take_yes 7 38 (.int .i64 k) rfl rfl (by kernel_rfl) (by kernel_rfl) (by kernel_rfl) (fun _ _ _ h => h) rfl (by assumption) (by intro w9 hS9; obtain ⟨s, s0, s1, s2, s3, s4, s5, s6, s7, s8⟩ := hS9; go_simp) ?_
          simp only [List.setIfInBounds_toArray, List.set_cons_zero, List.set_cons_succ]
          refine take_yes 8 39 (.slice (some ⟨b, off, none⟩) k cap) rfl rfl (by kernel_rfl) (by kernel_rfl) (by kernel_rfl) (fun _ _ _ h => h) rfl (by assumption) (by intro w9 hS9; obtain ⟨s, s0, s1, s2, s3, s4, s5, s6, s7, s8⟩ := hS9; go_simp) ?_
          simp only [List.setIfInBounds_toArray, List.set_cons_zero, List.set_cons_succ]
          refine take_yes 9 40 (.pointer (some ⟨wr.heap.size, 0, none⟩)) rfl rfl (by kernel_rfl) (by kernel_rfl) (by kernel_rfl) (fun _ _ _ h => h) rfl (by assumption) (by intro w9 hS9; obtain ⟨s, s0, s1, s2, s3, s4, s5, s6, s7, s8⟩ := hS9; go_simp) ?_
          simp only [List.setIfInBounds_toArray, List.set_cons_zero, List.set_cons_succ]
          refine take_yes 10 41 (.string t.name) rfl rfl (by kernel_rfl) (by kernel_rfl) (by kernel_rfl) (fun _ _ _ h => h) rfl (by assumption) (by intro w9 hS9; obtain ⟨s, s0, s1, s2, s3, s4, s5, s6, s7, s8⟩ := hS9; go_simp) ?_
          simp only [List.setIfInBounds_toArray, List.set_cons_zero, List.set_cons_succ]
          refine wpAnyH_ready (rs := [11]) (by kernel_rfl) (by decide) (AllReadyH.cons rfl (fun K hK => ?_) AllReadyH.nil)
          refine (if_pos rfl).mpr ?_
          go_wp2_with fail
          refine (unhide CH _ (fun j hj => (unhide HT j (by omega)).1.bel (unhide B2))).mono ?_
          rintro e x2 ⟨rfl, bel⟩
          have B3 := hide (below_on (unhide B2) bel)
          have BV3 := hide ((unhide BV2).trans (bel.mono (unhide BV2).size))
          refine hK.out _ _ ⟨cell_bel' hHeld.1 bel, hHeld.2.bel bel⟩ (fun hHeld => ?_)
          clear hK K bel
          refine take_yes 12 43 (.bool false) rfl rfl (by kernel_rfl) (by kernel_rfl) (by kernel_rfl) (fun _ _ _ h => h) rfl (by assumption) (by intro w9 hS9; obtain ⟨s, s0, s1, s2, s3, s4, s5, s6, s7, s8⟩ := hS9; go_simp) ?_
          simp only [List.setIfInBounds_toArray, List.set_cons_zero, List.set_cons_succ]
          refine wpAnyH_done (by kernel_rfl) ?_ _
          go_wp2
          go_roundw
          case rel => exact ⟨k + 1, by omega, by go_num, unhide HP, unhide BV3⟩
          case measure => simp [intOf]; omega
    · have e : k = ts.length := by omega
      subst e
      have HF : Hid (ans = true) := by show ans = true; rw [← unhide HQ]; exact hpre
      clear hpre
      go_wp2
      go_ret
      exact ⟨ret_bool (unhide HF).symm, unhide B'⟩
theorem code_All : CAll := fun s w hs _ => code_AllG s w hs
end Go.Proofs.Ytndhjfpjhpnbaaa.Lex
