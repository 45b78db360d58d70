/- What Same of package task answers. -/
import Derived.Test.YtgccemnddambeaaTaskRef3
import Derived.Test.YtgccemnddambeaaTaskKnown
namespace Go.Proofs.Ytgccemnddambeaa.Lex
open Go.ChangeShapes Go.WideShapes Go.RowKit

set_option maxHeartbeats 800000 in
theorem equal_any (ao ao' : Option Addr) (cap cap' : Nat) (l l' : List Int) (w : World) (h : RegsIn w ao l) (h' : RegsIn w ao' l') (hl : l.length ≤ 9223372036854775807) :
    Calls Try.prog 34 #[.slice ao l.length cap, .slice ao' l'.length cap'] w fun e w' => e = .returned (.bool (l == l')) ∧ Below w.heap.size w w' := by
  by_cases hne : l.length = l'.length
  · have hb : ((l.length : Int) != l'.length) = false := by rw [hne]; simp
    generalize hans : (l == l') = ans
    have HQ := hide hans
    clear hans
    have H := hide h
    have H' := hide h'
    clear h h'
    generalize hn : l.length = n at *
    generalize hn' : l'.length = n' at *
    subst hne
    go_enter Try.func34, Try.ntmps34
    go_wp2
    go_loopw [13] (fun i wr => ∃ k : Nat, k ≤ n ∧ i = .int .i64 k ∧ l.take k = l'.take k ∧ ∃ m, wr = w.drewN m) (fun i _ => n - (intOf i).toNat)
    case atStart => exact ⟨0, Nat.zero_le _, rfl, rfl, 0, rfl⟩
    case round =>
      obtain ⟨k, hk, rfl, hpre, m, rfl⟩ := hrel
      by_cases hlt : k < n
      · obtain ⟨b, off, rfl, hc⟩ := unhide H (fun e => by rw [e] at hn; simp at hn; omega)
        obtain ⟨b', off', rfl, hc'⟩ := unhide H' (fun e => by rw [e] at hn'; simp at hn'; omega)
        have c := hc k (by omega)
        have c' := hc' k (by omega)
        clear hc hc'
        by_cases he : l.getD k 0 = l'.getD k 0
        · have HP := hide (take_same (by omega) (by omega) hpre he)
          have hx : (l.getD k 0 != l'.getD k 0) = false := by rw [he]; simp
          clear hpre he hn hn'
          generalize l.getD k 0 = x at c hx
          generalize l'.getD k 0 = y at c' hx
          go_wp2
          go_quiet (fail)
          go_wp2
          go_roundw
          case rel => exact ⟨k + 1, by omega, by go_num, unhide HP, _, rfl⟩
          case measure => simp [intOf]; omega
        · have HF : Hid (ans = false) := by show ans = false; rw [← unhide HQ]; exact beq_not (fun e => he (by rw [e]))
          have hx : (l.getD k 0 != l'.getD k 0) = true := by simpa using he
          clear hpre he hn hn'
          generalize l.getD k 0 = x at c hx
          generalize l'.getD k 0 = y at c' hx
          go_wp2
          go_quiet (fail)
          go_wp2
          go_ret
          exact ⟨ret_bool (unhide HF).symm, below_drewN (below_drewN (Below.refl _ _) _) _⟩
      · have HF : Hid (ans = true) := by
          show ans = true
          rw [← unhide HQ]
          rw [List.take_of_length_le (by omega), List.take_of_length_le (by omega)] at hpre
          rw [hpre]; simp
        clear hpre hn hn'
        go_wp2
        go_ret
        exact ⟨ret_bool (unhide HF).symm, below_drewN (Below.refl _ _) _⟩
  · have hf : (l == l') = false := beq_not (fun e => hne (by rw [e]))
    have hb : ((l.length : Int) != l'.length) = true := by simp; omega
    rw [hf]
    clear hf h h'
    go_enter Try.func34, Try.ntmps34
    go_wp2
    go_ret
    exact ⟨rfl, Below.refl _ _⟩

/- two tasks -/
theorem same_order (t t' : TaskV) : sameT t t' = ((t.name.toList == t'.name.toList) && ((t.T == t'.T) && ((t.D == t'.D) && ((t.mode == t'.mode) && ((t.Q == t'.Q) && ((t.theta == t'.theta) && ((t.regs == t'.regs) && ((t.ecb == t'.ecb) && (t.ucb == t'.ucb))))))))) := by
  rw [sameT, ByteArray.toList_eq, ByteArray.toList_eq]
  cases (t.regs == t'.regs) <;> cases (t.ecb == t'.ecb) <;> cases (t.ucb == t'.ucb) <;> rfl
set_option maxHeartbeats 6400000 in
theorem stask_any (t t' : TaskV) (w : World) (ht : TaskIn w t) (ht' : TaskIn w t') : Calls Try.prog 27 #[t.val, t'.val] w fun e w' => e = .returned (.bool (sameT t t')) ∧ Below w.heap.size w w' := by
  have CE := hide (fun w h h' => equal_any t.ao t'.ao t.cap t'.cap t.regs t'.regs w h h' (Nat.le_trans ht.len (by decide)))
  have HIN := hide ht.regs
  have HIN' := hide ht'.regs
  have l1 := ht.len
  have l2 := ht'.len
  clear ht ht'
  rw [same_order]
  cases h0 : (t.name.toList == t'.name.toList)
  · rw [Bool.false_and]
    go_enter Try.func27, Try.ntmps27
    rw [TaskV.val, TaskV.val, TaskV.cells, TaskV.cells]
    go_wp2
    go_ret
    exact ⟨rfl, ((Below.refl _ _).alloc (Nat.le_refl _) _).alloc (by simp) _⟩
  rw [Bool.true_and]
  cases h1 : (t.T == t'.T)
  · rw [Bool.false_and]
    go_enter Try.func27, Try.ntmps27
    rw [TaskV.val, TaskV.val, TaskV.cells, TaskV.cells]
    go_wp2
    go_ret
    exact ⟨rfl, ((Below.refl _ _).alloc (Nat.le_refl _) _).alloc (by simp) _⟩
  rw [Bool.true_and]
  cases h2 : (t.D == t'.D)
  · rw [Bool.false_and]
    go_enter Try.func27, Try.ntmps27
    rw [TaskV.val, TaskV.val, TaskV.cells, TaskV.cells]
    go_wp2
    go_ret
    exact ⟨rfl, ((Below.refl _ _).alloc (Nat.le_refl _) _).alloc (by simp) _⟩
  rw [Bool.true_and]
  cases h3 : (t.mode == t'.mode)
  · rw [Bool.false_and]
    go_enter Try.func27, Try.ntmps27
    rw [TaskV.val, TaskV.val, TaskV.cells, TaskV.cells]
    go_wp2
    go_ret
    exact ⟨rfl, ((Below.refl _ _).alloc (Nat.le_refl _) _).alloc (by simp) _⟩
  rw [Bool.true_and]
  cases h4 : (t.Q == t'.Q)
  · rw [Bool.false_and]
    go_enter Try.func27, Try.ntmps27
    rw [TaskV.val, TaskV.val, TaskV.cells, TaskV.cells]
    go_wp2
    go_ret
    exact ⟨rfl, ((Below.refl _ _).alloc (Nat.le_refl _) _).alloc (by simp) _⟩
  rw [Bool.true_and]
  cases h5 : (t.theta == t'.theta)
  · rw [Bool.false_and]
    go_enter Try.func27, Try.ntmps27
    rw [TaskV.val, TaskV.val, TaskV.cells, TaskV.cells]
    go_wp2
    go_ret
    exact ⟨rfl, ((Below.refl _ _).alloc (Nat.le_refl _) _).alloc (by simp) _⟩
  rw [Bool.true_and]
  cases h6 : (t.regs == t'.regs)
  · rw [h6] at CE
    rw [Bool.false_and]
    clear h6
    go_enter Try.func27, Try.ntmps27
    rw [TaskV.val, TaskV.val, TaskV.cells, TaskV.cells]
    go_wp2_with fail
    refine (unhide CE _ (regs_bel (unhide HIN) (((Below.refl _ _).alloc (Nat.le_refl _) _).alloc (by simp) _)) (regs_bel (unhide HIN') (((Below.refl _ _).alloc (Nat.le_refl _) _).alloc (by simp) _))).mono ?_
    rintro e w1 ⟨rfl, bel⟩
    have B := hide ((((Below.refl _ w).alloc (Nat.le_refl _) _).alloc (by simp) _).trans (bel.mono (by simp; omega)))
    clear bel
    go_wp2
    go_ret
    exact ⟨rfl, unhide B⟩
  rw [h6] at CE
  rw [Bool.true_and]
  clear h6
  cases h7 : (t.ecb == t'.ecb)
  · rw [Bool.false_and]
    go_enter Try.func27, Try.ntmps27
    rw [TaskV.val, TaskV.val, TaskV.cells, TaskV.cells]
    go_wp2_with fail
    refine (unhide CE _ (regs_bel (unhide HIN) (((Below.refl _ _).alloc (Nat.le_refl _) _).alloc (by simp) _)) (regs_bel (unhide HIN') (((Below.refl _ _).alloc (Nat.le_refl _) _).alloc (by simp) _))).mono ?_
    rintro e w1 ⟨rfl, bel⟩
    have B := hide ((((Below.refl _ w).alloc (Nat.le_refl _) _).alloc (by simp) _).trans (bel.mono (by simp; omega)))
    have d7 := cell_bel' (a := ⟨w.heap.size, 7, none⟩) (u := .int .u64 t.ecb) (by simp) bel
    have d8 := cell_bel' (a := ⟨w.heap.size, 8, none⟩) (u := .int .u64 t.ucb) (by simp) bel
    have e7 := cell_bel' (a := ⟨w.heap.size + 1, 7, none⟩) (u := .int .u64 t'.ecb) (by simp) bel
    have e8 := cell_bel' (a := ⟨w.heap.size + 1, 8, none⟩) (u := .int .u64 t'.ucb) (by simp) bel
    clear bel
    go_wp2
    go_ret
    exact ⟨rfl, unhide B⟩
  · rw [Bool.true_and]
    go_enter Try.func27, Try.ntmps27
    rw [TaskV.val, TaskV.val, TaskV.cells, TaskV.cells]
    go_wp2_with fail
    refine (unhide CE _ (regs_bel (unhide HIN) (((Below.refl _ _).alloc (Nat.le_refl _) _).alloc (by simp) _)) (regs_bel (unhide HIN') (((Below.refl _ _).alloc (Nat.le_refl _) _).alloc (by simp) _))).mono ?_
    rintro e w1 ⟨rfl, bel⟩
    have B := hide ((((Below.refl _ w).alloc (Nat.le_refl _) _).alloc (by simp) _).trans (bel.mono (by simp; omega)))
    have d7 := cell_bel' (a := ⟨w.heap.size, 7, none⟩) (u := .int .u64 t.ecb) (by simp) bel
    have d8 := cell_bel' (a := ⟨w.heap.size, 8, none⟩) (u := .int .u64 t.ucb) (by simp) bel
    have e7 := cell_bel' (a := ⟨w.heap.size + 1, 7, none⟩) (u := .int .u64 t'.ecb) (by simp) bel
    have e8 := cell_bel' (a := ⟨w.heap.size + 1, 8, none⟩) (u := .int .u64 t'.ucb) (by simp) bel
    clear bel
    go_wp2
    go_ret
    exact ⟨rfl, unhide B⟩

/- two rows of tasks -/
set_option maxHeartbeats 3200000 in
theorem efn_any (x y : SetV) (w : World) (hx : SetIn w x) (hy : SetIn w y) (h30 : x.ts.length ≤ 30) : Calls Try.prog 26 #[.slice x.ao x.ts.length x.cap, .slice y.ao y.ts.length y.cap, .func (.func 27) #[] #[]] w fun e w' => e = .returned (.bool (x.ts.length == y.ts.length && (List.range x.ts.length).all fun i => sameT (x.ts.getD i task0) (y.ts.getD i task0))) ∧ Below w.heap.size w w' := by
  have hx' := fun h => set_task hx h
  have hy' := fun h => set_task hy h
  have hyl := hy.len
  obtain ⟨rl, ao, cap, ts⟩ := x
  obtain ⟨rl', ao', cap', ts'⟩ := y
  simp only at hx' hy' h30 hyl ⊢
  clear hx hy
  generalize hans : (ts.length == ts'.length && (List.range ts.length).all fun i => sameT (ts.getD i task0) (ts'.getD i task0)) = ans
  have HQ := hide hans
  have HX := hide hx'
  have HY := hide hy'
  clear hans hx' hy'
  by_cases hne : ts.length = ts'.length
  · have hb : ((ts.length : Int) != ts'.length) = false := by rw [hne]; simp
    generalize hn : ts.length = n at *
    generalize hn' : ts'.length = n' at *
    subst hne
    have HN := hide hn
    have HN' := hide hn'
    clear hn hn'
    go_enter Try.func26, Try.ntmps26
    go_wp2
    go_loopw [17] (fun i wr => ∃ k : Nat, k ≤ n ∧ i = .int .i64 k ∧ ((List.range k).all fun i => sameT (ts.getD i task0) (ts'.getD i task0)) = true ∧ Below w.heap.size w wr) (fun i _ => n - (intOf i).toNat)
    case atStart => exact ⟨0, Nat.zero_le _, rfl, rfl, Below.refl _ _⟩
    case round =>
      obtain ⟨k, hk, rfl, hpre, hbel⟩ := hrel
      have B := hide hbel
      clear hbel
      by_cases hlt : k < n
      · obtain ⟨b, off, rfl, hT⟩ := unhide HX (fun e => by have := unhide HN; rw [e] at this; simp at this; omega)
        obtain ⟨b', off', rfl, hT'⟩ := unhide HY (fun e => by have := unhide HN'; rw [e] at this; simp at this; omega)
        obtain ⟨t0, t1, t2, t3, t4, t5, t6, t7, t8⟩ := (hT k hlt).1.bel (unhide B)
        obtain ⟨u0, u1, u2, u3, u4, u5, u6, u7, u8⟩ := (hT' k hlt).1.bel (unhide B)
        have IN := hide (task_bel (hT k hlt).2 (unhide B))
        have IN' := hide (task_bel (hT' k hlt).2 (unhide B))
        have CS := hide (fun w h h' => stask_any (ts.getD k task0) (ts'.getD k task0) w h h')
        have hb0 := World.block_lt_of_cell? wr _ t0
        have hb1 := World.block_lt_of_cell? wr _ u0
        clear hT hT'
        cases hq : sameT (ts.getD k task0) (ts'.getD k task0)
        · have HF : Hid (ans = false) := by show ans = false; rw [← unhide HQ, range_not hlt hq]; simp
          rw [hq] at CS
          clear hpre hq
          generalize ts.getD k task0 = t at *
          generalize ts'.getD k task0 = t' at *
          go_wp2_with fail
          refine (unhide CS _ (task_bel (unhide IN) (((Below.refl _ _).alloc (Nat.le_refl _) _).alloc (by simp) _)) (task_bel (unhide IN') (((Below.refl _ _).alloc (Nat.le_refl _) _).alloc (by simp) _))).mono ?_
          rintro e w1 ⟨rfl, bel⟩
          have B1 := hide ((((unhide B).alloc (unhide B).size _).alloc (by have := (unhide B).size; simp; omega) _).trans (bel.mono (by have := (unhide B).size; simp; omega)))
          clear bel
          go_wp2
          go_ret
          exact ⟨ret_bool (unhide HF).symm, unhide B1⟩
        · have HP := hide (range_next hpre hq)
          rw [hq] at CS
          clear hpre hq
          generalize ts.getD k task0 = t at *
          generalize ts'.getD k task0 = t' at *
          go_wp2_with fail
          refine (unhide CS _ (task_bel (unhide IN) (((Below.refl _ _).alloc (Nat.le_refl _) _).alloc (by simp) _)) (task_bel (unhide IN') (((Below.refl _ _).alloc (Nat.le_refl _) _).alloc (by simp) _))).mono ?_
          rintro e w1 ⟨rfl, bel⟩
          have B1 := hide ((((unhide B).alloc (unhide B).size _).alloc (by have := (unhide B).size; simp; omega) _).trans (bel.mono (by have := (unhide B).size; simp; omega)))
          clear bel
          go_wp2
          go_roundw
          case rel => exact ⟨k + 1, by omega, by go_num, unhide HP, unhide B1⟩
          case measure => simp [intOf]; omega
      · have e : k = n := by omega
        subst e
        have HF : Hid (ans = true) := by show ans = true; rw [← unhide HQ, hpre]; simp
        clear hpre
        go_wp2
        go_ret
        exact ⟨ret_bool (unhide HF).symm, unhide B⟩
  · have HF : Hid (ans = false) := by show ans = false; rw [← unhide HQ, beq_eq_false_iff_ne.2 hne]; rfl
    have hb : ((ts.length : Int) != ts'.length) = true := by simp; omega
    clear HX HY
    go_enter Try.func26, Try.ntmps26
    go_wp2
    go_ret
    exact ⟨ret_bool (unhide HF).symm, Below.refl _ _⟩
set_option maxHeartbeats 1600000 in
theorem code_Same : CSame := fun a b w ha hb h30 _ => by
  have CE := hide (fun w h h' => efn_any a b w h h' h30)
  have HA := hide ha
  have HB := hide hb
  clear ha hb
  rw [sameB]
  cases hr : (a.reload == b.reload)
  · rw [Bool.false_and]
    go_enter Try.func16, Try.ntmps16
    rw [SetV.val, SetV.val]
    go_wp2
    go_ret
    exact ⟨rfl, ((Below.refl _ _).alloc (Nat.le_refl _) _).alloc (by simp) _⟩
  · rw [Bool.true_and]
    go_enter Try.func16, Try.ntmps16
    rw [SetV.val, SetV.val]
    go_wp2_with fail
    refine (unhide CE _ (set_bel (unhide HA) (((Below.refl _ _).alloc (Nat.le_refl _) _).alloc (by simp) _)) (set_bel (unhide HB) (((Below.refl _ _).alloc (Nat.le_refl _) _).alloc (by simp) _))).mono ?_
    rintro e w1 ⟨rfl, bel⟩
    have B := hide ((((Below.refl _ w).alloc (Nat.le_refl _) _).alloc (by simp) _).trans (bel.mono (by simp; omega)))
    clear bel
    go_wp2
    go_ret
    exact ⟨rfl, unhide B⟩
end Go.Proofs.Ytgccemnddambeaa.Lex
