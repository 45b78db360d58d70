/- What package active answers. -/
import Derived.Test.YtndhjfpjhpnbaaaAgainCode
import Derived.Test.YtndhjfpjhpnbaaaActRef2
import Derived.Test.YtndhjfpjhpnbaaaFixCode
namespace Go.Proofs.Ytndhjfpjhpnbaaa.Lex
set_option maxRecDepth 100000
open Go.ChangeShapes Go.WideShapes Go.RowKit

/- may the set be, and has it the task? -/
theorem has11_any (s : SetV) (i : Int) (w : World) (hs : SetIn w s) (ha : allB s = true) : Calls Try.prog 46 #[s.val, .int .i64 i] w fun e w' => e = .returned (.bool (inI s i)) ∧ Below w.heap.size w w' := by
  have hlen := hs.len
  by_cases h0 : i < 0
  · rw [in_low h0]
    clear hs
    go_enter Try.func46, Try.ntmps46
    rw [SetV.val]
    go_wp2
    go_ret
    exact ⟨rfl, (Below.refl _ _).alloc (Nat.le_refl _) _⟩
  by_cases h1 : (s.ts.length : Int) ≤ i
  · rw [in_high h1]
    clear hs
    go_enter Try.func46, Try.ntmps46
    rw [SetV.val]
    go_wp2
    go_ret
    exact ⟨rfl, (Below.refl _ _).alloc (Nat.le_refl _) _⟩
  obtain ⟨k, rfl⟩ : ∃ k : Nat, i = k := ⟨i.toNat, by omega⟩
  have hk : k < s.ts.length := by omega
  have hk0 : (0 : Int) ≤ (k : Int) := by omega
  have hk1 : (k : Int) < (s.ts.length : Int) := by omega
  rw [in_nat hk]
  have CA := hide (fun w h => code_AllG s w h)
  rw [ha] at CA
  have HIN := hide hs
  clear hs h0 h1
  go_enter Try.func46, Try.ntmps46
  rw [SetV.val]
  go_wp2_with fail
  refine (unhide CA _ (set_bel (unhide HIN) ((Below.refl _ _).alloc (Nat.le_refl _) _))).mono ?_
  rintro e w1 ⟨rfl, bel⟩
  have B1 := hide (bel_box (Below.refl _ _) bel)
  clear bel
  go_wp2
  go_ret
  exact ⟨rfl, unhide B1⟩
/- a set in a cell of its own, and a task in one -/
structure YBox (w : World) (g : Nat) (u v : Value) (tb : Nat) (t : TaskV) : Prop where
  c0 : w.cell? ⟨g, 0, none⟩ = some u
  c1 : w.cell? ⟨g, 1, none⟩ = some v
  box : Box w tb t
theorem YBox.bel {w w' : World} {g tb : Nat} {u v : Value} {t : TaskV} (h : YBox w g u v tb t) (hb : Below w.heap.size w w') : YBox w' g u v tb t := ⟨cell_bel' h.c0 hb, cell_bel' h.c1 hb, h.box.bel hb⟩
theorem YBox.drew {w : World} {g tb : Nat} {u v : Value} {t : TaskV} (h : YBox w g u v tb t) : YBox w.drew g u v tb t := ⟨h.c0, h.c1, h.box.drew⟩
theorem box_block {w : World} {tb : Nat} {t : TaskV} {fr : Nat × Nat} (h : w.heap[tb]? = some (.cells #[.string t.name, .int .i64 t.T, .int .i64 t.D, .int .i64 t.mode, .int .i64 t.Q, .int .i64 t.theta, .slice t.ao t.regs.length t.cap, .int .u64 t.ecb, .int .u64 t.ucb] 38 fr)) : Box w tb t := by
  constructor <;> simp [World.cell?, h]
/- a row of loads grows: a task's block is another one -/
theorem apart_keep {w w' : World} {B n tb : Nat} {v : Value} {xs : List Value} {cs : Array Value} {fr : Nat × Nat} (h : w.ownsRow B 52 2 v n xs) (hg : w.grownBy w' v.ownBlock) (ht : w.heap[tb]? = some (.cells cs 38 fr)) : w'.heap[tb]? = some (.cells cs 38 fr) := by
  have hlt : tb < w.heap.size := (Array.getElem?_eq_some_iff.1 ht).1
  rw [hg.block tb hlt ?_]
  · exact ht
  · rcases h.2 with ⟨rfl, -⟩ | ⟨g, cap, cur, rfl, -, h3, -⟩
    · intro e; cases e
    · intro e
      have e' : tb = g := by
        first | exact (Option.some.inj e) | exact (Option.some.inj e).symm
      subst e'
      rw [ht] at h3
      simp only [Option.some.injEq, Obj.cells.injEq] at h3
      exact absurd h3.2.1 (by decide)
theorem step_append_apart {ops : Array Oper} {o : Oper} {a : Act} {w : World} {K : Act → World → Prop} {Q : Exit → Act → World → Prop} {E : Prop} (d : Tmp) (hd : o.dst = some d)
    (hg : o.guard = none) (s x : Operand) (hop : o.op = Op.call { callee := Callee.builtin Builtin.append, args := #[s, x], argTypes := #[44, 44] })
    (B : Nat) (v : Value) (n : Nat) (olds : List Value) (hs : a.eval s = v) (hown : w.ownsRow B 52 2 v n olds)
    (ad : Addr) (m c : Nat) (news : List Fix.LoadV) (hx : a.eval x = .slice (some ad) m c) (hn : news.length = m) (hc : ∀ j u, (Fix.lcells news)[j]? = some u → w.cell? (ad.add j) = some u)
    (b1 : n + m ≤ 1000000) (hb : B ≤ w.heap.size)
    (hK : ∀ v' w', w'.ownsRow B 52 2 v' (n + m) (olds ++ Fix.lcells news) → Below B w w' → w.grownBy w' v.ownBlock → K { a with tmps := a.tmps.setIfInBounds d v' } w') :
    if Region.wanted o (yielded ops a.tmps) = true then Oper.wp Try.prog o a w K Q else E := by
  obtain ⟨i0, hi, hz0, hz1, hz2⟩ := info_parts Fix.Try.info_load
  have hw : Region.wanted o (yielded ops a.tmps) = true := by simp [Region.wanted, hg]
  rw [if_pos hw]
  obtain ⟨v', w', hrun, r1, r2, _⟩ := run_append_own (P := Try.prog) w B 44 o.type 52 i0 (.agg #[.int .i64 0, .int .i64 0]) 2 16 (by kernel_rfl) hi hz0 hz1 hz2 rfl (by decide) v n olds hown ad m c (Fix.lcells news) (by rw [Fix.lcells_len, hn]) hc Fix.lcells_one (by unfold maxLen; omega) (by omega) hb
  unfold Oper.wp
  simp [execOp, hop, resolve, invoke, builtin, hs, hx, hrun, Result.andThen]
  have := hK v' w' r1 ((Below.refl _ _).grown r2 hb (fun j hj => (World.ownsRow.lt hown j hj).1)) r2
  rw [← put_some a v' hd] at this
  exact this
set_option maxHeartbeats 1600000 in
theorem whole_any (s : SetV) (k : Nat) (w : World) (hs : SetIn w s) (ha : allB s = true) (hk : k < s.ts.length) : Calls Try.prog 63 #[s.val, .int .i64 k] w fun e w' => e = .returned (.int .i64 (workZ (s.ts.getD k task0).regs + madeZ s k)) ∧ Below w.heap.size w w' := by
  have hu : ∀ t ∈ s.ts, U64 t.ecb ∧ U64 t.ucb := fun t ht => ⟨(hs.each t ht).ecb, (hs.each t ht).ucb⟩
  obtain ⟨hr, h8, -, hfit⟩ := all_fits ha hu
  have hin := in_nat hk
  have hwr := (task_time (hfit k hk).is).2
  have hmr := made_range hr (k : Int)
  have hare : Num.areB (workZ (s.ts.getD k task0).regs) (madeZ s k) = true := (Num.areB_iff _ _).2 ⟨⟨by omega, by omega⟩, hmr.1, by omega⟩
  have hadd : Num.addB (workZ (s.ts.getD k task0).regs) (madeZ s k) = true := by rw [Num.addB, hare, Bool.true_and, decide_eq_true_eq]; omega
  have CC := hide (fun w h => code_Cost s k w h ha (by simp only [I64]; omega))
  rw [costRe, costIm, hin, if_pos rfl, if_pos rfl, Int.toNat_natCast] at CC
  have CT := hide (fun w => (Cost.tot_any (Cost.ofRe (workZ (s.ts.getD k task0).regs) (madeZ s k)) (Cost.ofIm (workZ (s.ts.getD k task0).regs) (madeZ s k)) w).mono (fun e w' h => (⟨h.1, by rw [h.2]; exact Below.refl _ _⟩ : _ ∧ Below w.heap.size w w')))
  rw [Cost.ofRe_yes hare, Cost.ofIm_yes hare, Cost.totB_F hare, Cost.totV_F hare, Num.addV, hadd, if_pos rfl] at CT
  rw [Cost.ofRe_yes hare, Cost.ofIm_yes hare] at CC
  have HIN := hide hs
  clear hs ha hu hr h8 hfit hin hwr hmr hare hadd
  generalize madeZ s k = mz at *
  generalize workZ (s.ts.getD k task0).regs = wz at *
  generalize Cost.F wz = fx at *
  generalize Cost.F mz = fy at *
  generalize wz + mz = z at *
  obtain ⟨rl, ao, cap, ts⟩ := s
  go_enter Try.func63, Try.ntmps63
  rw [SetV.val]
  simp only
  go_wp2_with fail
  refine (unhide CC _ (set_bel (unhide HIN) ((Below.refl _ _).alloc (Nat.le_refl _) _))).mono ?_
  rintro e w1 ⟨rfl, bel⟩
  have B1 := hide (bel_box (Below.refl _ _) bel)
  clear bel
  go_wp2_with fail
  refine (unhide CT _).mono ?_
  rintro e w2 ⟨rfl, bel⟩
  have B2 := hide (below_on (unhide B1) bel)
  clear bel
  go_wp2
  go_ret
  exact ⟨rfl, unhide B2⟩
set_option maxHeartbeats 3200000 in
theorem aloads_own (s : SetV) (i : Int) (w : World) (hs : SetIn w s) (ha : allB s = true) : Calls Try.prog 48 #[s.val, .int .i64 i] w fun e w' => ∃ v, e = .returned v ∧ w'.ownsRow w.heap.size 52 2 v (loadsI s i).length (Fix.lcells (loadsI s i)) ∧ Below w.heap.size w w' := by
  have hlen := hs.len
  have hu : ∀ t ∈ s.ts, U64 t.ecb ∧ U64 t.ucb := fun t ht => ⟨(hs.each t ht).ecb, (hs.each t ht).ucb⟩
  obtain ⟨hr, h8, -, hfit⟩ := all_fits ha hu
  have h1 : 1 ≤ s.ts.length := by simp only [allB, Bool.and_eq_true, decide_eq_true_eq] at ha; exact ha.2.1
  have hne : s.ts ≠ [] := fun e => by rw [e] at h1; simp at h1
  obtain ⟨b, off, hao, ht⟩ := set_task hs hne
  have hbox := sbox_new w s 24
  have CH := hide (fun w h => has11_any s i w h ha)
  have HIN := hide hs
  have hcap0 := hs.fits
  by_cases hin : inI s i = true
  · rw [hin] at CH
    have hin' := hin
    simp only [inI, Bool.and_eq_true, decide_eq_true_eq] at hin'
    obtain ⟨k0, rfl⟩ : ∃ k0 : Nat, i = k0 := ⟨i.toNat, by omega⟩
    have hk0 : k0 < s.ts.length := by omega
    have HLI : Hid (loadsI s k0 = loadsTo s k0) := by show loadsI s k0 = _; rw [loadsI, if_pos hin]; rfl
    have HT := hide ht
    have HWK := hide (fun k (hk : k < s.ts.length) => task_time (hfit k hk).is)
    have HMD := hide (fun k : Nat => made_range hr (k : Int))
    have CW := hide (fun k (hk : k < s.ts.length) w h => whole_any s k w h ha hk)
    have HNX := hide (loads_next s)
    have HLE := hide (loads_len s)
    have HLZ : Hid (∀ k, loadZ s k = ⟨(s.ts.getD k task0).T, workZ (s.ts.getD k task0).regs + madeZ s k⟩) := fun k => rfl
    generalize loadsI s k0 = LI at *
    clear hu hfit ha hin hin' ht hs hr
    obtain ⟨rl, ao, cap, ts⟩ := s
    simp only at hao hbox hk0 hlen HT HWK CW h8 h1 hne HLZ hcap0
    subst hao
    have HBX := hide hbox
    clear hbox
    go_enter Try.func48, Try.ntmps48
    rw [SetV.val]
    simp only
    go_wp2_with fail
    refine (unhide CH _ (set_bel (unhide HIN) ((Below.refl _ _).alloc (Nat.le_refl _) _))).mono ?_
    rintro e w1 ⟨rfl, bel⟩
    have HB1 := hide ((unhide HBX).bel bel)
    have B1 := hide (bel_box (Below.refl _ _) bel)
    clear bel
    obtain ⟨c0, c1⟩ := unhide HB1
    simp only at c0 c1
    have hcap : (k0 : Int) ≤ (cap : Int) := by omega
    go_wp2
    go_loopw [5, 17] (fun v j wr => ∃ k : Nat, k ≤ k0 ∧ j = .int .i64 k ∧ wr.ownsRow w1.heap.size 52 2 v k (Fix.lcells (loadsTo ⟨rl, some ⟨b, off, none⟩, cap, ts⟩ k)) ∧ Below w1.heap.size w1 wr) (fun _ j _ => k0 - (intOf j).toNat)
    case atStart => exact ⟨0, Nat.zero_le _, rfl, World.ownsRow_nil _ _ _ _, Below.refl _ _⟩
    case round =>
      clear c0 c1
      obtain ⟨k, hk, rfl, hown, hbel⟩ := hrel
      have RK := hide hown
      have VK := hide hbel
      have BK := hide (below_on (unhide B1) hbel)
      have SB := hide ((unhide HB1).bel hbel)
      obtain ⟨c0, c1⟩ := unhide SB
      simp only at c0 c1
      clear hown hbel
      by_cases hlt : k < k0
      · have hkt : k < ts.length := by omega
        obtain ⟨hrow0, -⟩ := unhide HT k hkt
        have hw := unhide HWK k hkt
        have hm := unhide HMD k
        have CWk := hide (unhide CW k hkt)
        have hz := unhide HLZ k
        have hnx := unhide HNX k
        rw [hz] at hnx
        have HNXk := hide hnx
        have hrow := hrow0.bel (unhide BK)
        have HROW := hide hrow
        clear hrow0 hz hnx
        generalize workZ (ts.getD k task0).regs + madeZ ⟨rl, some ⟨b, off, none⟩, cap, ts⟩ k = cz at *
        generalize ts.getD k task0 = t at *
        have VB0 := hide ((unhide VK).alloc (unhide VK).size (.cells #[.string t.name, .int .i64 t.T, .int .i64 t.D, .int .i64 t.mode, .int .i64 t.Q, .int .i64 t.theta, .slice t.ao t.regs.length t.cap, .int .u64 t.ecb, .int .u64 t.ucb] 38))
        have T0 : Hid (Below (wr.alloc (.cells #[.string t.name, .int .i64 t.T, .int .i64 t.D, .int .i64 t.mode, .int .i64 t.Q, .int .i64 t.theta, .slice t.ao t.regs.length t.cap, .int .u64 t.ecb, .int .u64 t.ucb] 38)).heap.size (wr.alloc (.cells #[.string t.name, .int .i64 t.T, .int .i64 t.D, .int .i64 t.mode, .int .i64 t.Q, .int .i64 t.theta, .slice t.ao t.regs.length t.cap, .int .u64 t.ecb, .int .u64 t.ucb] 38)) (wr.alloc (.cells #[.string t.name, .int .i64 t.T, .int .i64 t.D, .int .i64 t.mode, .int .i64 t.Q, .int .i64 t.theta, .slice t.ao t.regs.length t.cap, .int .u64 t.ecb, .int .u64 t.ucb] 38))) := Below.refl _ _
        have AF : Hid (∀ W, Below (wr.alloc (.cells #[.string t.name, .int .i64 t.T, .int .i64 t.D, .int .i64 t.mode, .int .i64 t.Q, .int .i64 t.theta, .slice t.ao t.regs.length t.cap, .int .u64 t.ecb, .int .u64 t.ucb] 38)).heap.size (wr.alloc (.cells #[.string t.name, .int .i64 t.T, .int .i64 t.D, .int .i64 t.mode, .int .i64 t.Q, .int .i64 t.theta, .slice t.ao t.regs.length t.cap, .int .u64 t.ecb, .int .u64 t.ucb] 38)) W → W.heap[wr.heap.size]? = some (.cells #[.string t.name, .int .i64 t.T, .int .i64 t.D, .int .i64 t.mode, .int .i64 t.Q, .int .i64 t.theta, .slice t.ao t.regs.length t.cap, .int .u64 t.ecb, .int .u64 t.ucb] 38 (0, 0))) := hide (fun W h => by
          rw [h.block wr.heap.size (by simp)]
          exact heap_alloc_new wr (.cells #[.string t.name, .int .i64 t.T, .int .i64 t.D, .int .i64 t.mode, .int .i64 t.Q, .int .i64 t.theta, .slice t.ao t.regs.length t.cap, .int .u64 t.ecb, .int .u64 t.ucb] 38))
        have LT := hide (World.block_lt_of_cell? w1 _ (unhide HB1).c0)
        have B0 := hide ((unhide BK).alloc (unhide BK).size (.cells #[.string t.name, .int .i64 t.T, .int .i64 t.D, .int .i64 t.mode, .int .i64 t.Q, .int .i64 t.theta, .slice t.ao t.regs.length t.cap, .int .u64 t.ecb, .int .u64 t.ucb] 38))
        have R0 := hide (own_belG (own_belG (unhide RK) ((Below.refl _ _).alloc (Nat.le_refl _) (.cells #[.string t.name, .int .i64 t.T, .int .i64 t.D, .int .i64 t.mode, .int .i64 t.Q, .int .i64 t.theta, .slice t.ao t.regs.length t.cap, .int .u64 t.ecb, .int .u64 t.ucb] 38))) ((Below.refl _ _).drew))
        have XF : Hid (∀ W, Below (wr.alloc (.cells #[.string t.name, .int .i64 t.T, .int .i64 t.D, .int .i64 t.mode, .int .i64 t.Q, .int .i64 t.theta, .slice t.ao t.regs.length t.cap, .int .u64 t.ecb, .int .u64 t.ucb] 38)).heap.size (wr.alloc (.cells #[.string t.name, .int .i64 t.T, .int .i64 t.D, .int .i64 t.mode, .int .i64 t.Q, .int .i64 t.theta, .slice t.ao t.regs.length t.cap, .int .u64 t.ecb, .int .u64 t.ucb] 38)) W → YBox W w.heap.size (.int .i64 rl) (.slice (some ⟨b, off, none⟩) ts.length cap) wr.heap.size t) := hide (fun W h => by
          obtain ⟨q0, q1⟩ := (unhide SB).bel ((Below.refl _ _).alloc (Nat.le_refl _) (.cells #[.string t.name, .int .i64 t.T, .int .i64 t.D, .int .i64 t.mode, .int .i64 t.Q, .int .i64 t.theta, .slice t.ao t.regs.length t.cap, .int .u64 t.ecb, .int .u64 t.ucb] 38))
          exact ⟨cell_bel' q0 h, cell_bel' q1 h, box_block (unhide AF W h)⟩)
        have hbox := unhide XF _ (unhide T0)
        obtain ⟨t0, t1, t2, t3, t4, t5, t6, t7, t8⟩ := hrow
        have hk1 : (0 : Int) ≤ (k : Int) := by omega
        have hk2 : (k : Int) < (ts.length : Int) := by omega
        have hk3 : (k : Int) < (k0 : Int) := by omega
        have hk4 : (k0 : Int) < (ts.length : Int) := by omega
        go_wp2_with fail
        clear c0 c1 t0 t1 t2 t3 t4 t5 t6 t7 t8
        have D0 := hide (unhide B0).drew
        have VD := hide (unhide T0).drew
        refine wp_region_held_drew (S := (fun w9 => YBox w9 w.heap.size (.int .i64 rl) (.slice (some ⟨b, off, none⟩) ts.length cap) wr.heap.size t)) (by kernel_rfl) (hbox.drew) (fun hHeld => ?_)
        refine take_yes 0 22 (u5) rfl rfl (by kernel_rfl) (by kernel_rfl) (by kernel_rfl) (fun _ _ _ h => h) rfl (by assumption) (by intro w9 hS9; obtain ⟨s0, s1, ⟨t0, t1, t2, t3, t4, t5, t6, t7, t8⟩⟩ := hS9; go_simp) ?_
        simp only [List.setIfInBounds_toArray, List.set_cons_zero, List.set_cons_succ]
        refine take_yes 1 23 (.pointer (some ⟨wr.heap.size, 1, none⟩)) rfl rfl (by kernel_rfl) (by kernel_rfl) (by kernel_rfl) (fun _ _ _ h => h) rfl (by assumption) (by intro w9 hS9; obtain ⟨s0, s1, ⟨t0, t1, t2, t3, t4, t5, t6, t7, t8⟩⟩ := hS9; go_simp) ?_
        simp only [List.setIfInBounds_toArray, List.set_cons_zero, List.set_cons_succ]
        refine take_yes 2 24 (.int .i64 t.T) rfl rfl (by kernel_rfl) (by kernel_rfl) (by kernel_rfl) (fun _ _ _ h => h) rfl (by assumption) (by intro w9 hS9; obtain ⟨s0, s1, ⟨t0, t1, t2, t3, t4, t5, t6, t7, t8⟩⟩ := hS9; go_simp) ?_
        simp only [List.setIfInBounds_toArray, List.set_cons_zero, List.set_cons_succ]
        refine take_yes 3 25 (.agg #[.int .i64 rl, .slice (some ⟨b, off, none⟩) ts.length cap]) rfl rfl (by kernel_rfl) (by kernel_rfl) (by kernel_rfl) (fun _ _ _ h => h) rfl (by assumption) (by intro w9 hS9; obtain ⟨s0, s1, ⟨t0, t1, t2, t3, t4, t5, t6, t7, t8⟩⟩ := hS9; go_simp) ?_
        simp only [List.setIfInBounds_toArray, List.set_cons_zero, List.set_cons_succ]
        refine take_yes 4 26 (.int .i64 k) rfl rfl (by kernel_rfl) (by kernel_rfl) (by kernel_rfl) (fun _ _ _ h => h) rfl (by assumption) (by intro w9 hS9; obtain ⟨s0, s1, ⟨t0, t1, t2, t3, t4, t5, t6, t7, t8⟩⟩ := hS9; go_simp) ?_
        simp only [List.setIfInBounds_toArray, List.set_cons_zero, List.set_cons_succ]
        refine wpAnyH_ready (rs := [5]) (by kernel_rfl) (by decide) (AllReadyH.cons rfl (fun K hK => ?_) AllReadyH.nil)
        refine (if_pos rfl).mpr ?_
        go_wp2_with fail
        refine (unhide CWk (wr.alloc (.cells #[.string t.name, .int .i64 t.T, .int .i64 t.D, .int .i64 t.mode, .int .i64 t.Q, .int .i64 t.theta, .slice t.ao t.regs.length t.cap, .int .u64 t.ecb, .int .u64 t.ucb] 38)).drew (set_bel (unhide HIN) (unhide D0))).mono ?_
        rintro e x1 ⟨rfl, bel⟩
        have RA := hide (own_belG (unhide R0) bel)
        have N1 := hide (below_on (unhide D0) bel)
        have V1 := hide (below_on (unhide VD) bel)
        refine hK.out _ _ (hHeld.bel bel) (fun hHeld => ?_)
        clear hK K bel
        refine take_yes 6 28 (.agg #[.int .i64 t.T, .int .i64 cz]) rfl rfl (by kernel_rfl) (by kernel_rfl) (by kernel_rfl) (fun _ _ _ h => h) rfl (by assumption) (by intro w9 hS9; obtain ⟨s0, s1, ⟨t0, t1, t2, t3, t4, t5, t6, t7, t8⟩⟩ := hS9; go_simp) ?_
        simp only [List.setIfInBounds_toArray, List.set_cons_zero, List.set_cons_succ]
        refine wpAnyH_ready (rs := [7]) (by kernel_rfl) (by decide) (AllReadyH.cons rfl (fun K hK => ?_) AllReadyH.nil)
        go_simp
        refine hK.out _ _ (hHeld.bel ((Below.refl _ _).alloc (Nat.le_refl _) _)) (fun hHeld => ?_)
        clear hK K
        try simp only [List.setIfInBounds_toArray, List.set_cons_zero, List.set_cons_succ]
        have V8 := hide ((unhide V1).alloc (unhide V1).size (.cells #[.int .i64 t.T, .int .i64 cz] 52))
        have R8 := hide (own_belG (unhide RA) ((Below.refl _ _).alloc (Nat.le_refl _) (.cells #[.int .i64 t.T, .int .i64 cz] 52)))
        have P8 := hide (one_cells (w := x1) ⟨t.T, cz⟩)
        have Z8 : Hid (w1.heap.size ≤ (x1.alloc (.cells #[.int .i64 t.T, .int .i64 cz] 52)).heap.size) := hide (below_on (unhide VB0) (unhide V8)).size
        refine wpAnyH_ready (rs := [8]) (by kernel_rfl) (by decide) (AllReadyH.cons rfl (fun K hK => ?_) AllReadyH.nil)
        refine step_append_apart 30 rfl rfl _ _ rfl w1.heap.size _ k _ rfl (unhide R8) ⟨x1.heap.size, 0, none⟩ 1 1 [⟨t.T, cz⟩] rfl rfl (unhide P8) (by omega) (unhide Z8) ?_
        intro v1 W5 rr bb gg
        have V9 := hide ((below_on (unhide VB0) (unhide V8)).trans bb)
        have R9 := hide rr
        have hS : YBox W5 w.heap.size (.int .i64 rl) (.slice (some ⟨b, off, none⟩) ts.length cap) wr.heap.size t := ⟨(bb.cell (unhide LT)).trans hHeld.c0, (bb.cell (unhide LT)).trans hHeld.c1, box_block (apart_keep (unhide R8) gg (unhide AF _ (unhide V8)))⟩
        refine hK.out _ _ hS (fun hHeld => ?_)
        clear rr bb gg hS
        clear hK K
        try simp only [List.setIfInBounds_toArray, List.set_cons_zero, List.set_cons_succ]
        refine take_yes 9 5 (v1) rfl rfl (by kernel_rfl) (by kernel_rfl) (by kernel_rfl) (fun _ _ _ h => h) rfl (by assumption) (by intro w9 hS9; obtain ⟨s0, s1, ⟨t0, t1, t2, t3, t4, t5, t6, t7, t8⟩⟩ := hS9; go_simp) ?_
        simp only [List.setIfInBounds_toArray, List.set_cons_zero, List.set_cons_succ]
        refine wpAnyH_done (by kernel_rfl) ?_ _
        clear hHeld
        go_wp2
        go_roundw
        case rel => exact ⟨k + 1, by omega, by go_num, by rw [unhide HNXk, Fix.lcells_app]; exact unhide R9, unhide V9⟩
        case measure => simp [intOf]; omega
      · have e : k = k0 := by omega
        subst e
        go_wp2
        go_ret
        refine ⟨_, rfl, ?_, unhide BK⟩
        rw [unhide HLI, unhide HLE]
        have := unhide RK
        have hsz := (unhide B1).size
        exact ⟨this.1, this.2.imp id fun ⟨g, c, cur, e, hg, r⟩ => ⟨g, c, cur, e, by omega, r⟩⟩
  · have hin2 : inI s i = false := by simpa using hin
    rw [hin2] at CH
    have HLI : Hid (loadsI s i = []) := by show loadsI s i = _; rw [loadsI, if_neg hin]
    clear hin hin2 hu hfit ha ht hs hr hbox hao hne h1 hlen hcap0
    generalize loadsI s i = LI at *
    go_enter Try.func48, Try.ntmps48
    rw [SetV.val]
    go_wp2_with fail
    refine (unhide CH _ (set_bel (unhide HIN) ((Below.refl _ _).alloc (Nat.le_refl _) _))).mono ?_
    rintro e w1 ⟨rfl, bel⟩
    have B1 := hide (bel_box (Below.refl _ _) bel)
    clear bel
    go_wp2
    go_ret
    exact ⟨_, rfl, by rw [unhide HLI]; exact World.ownsRow_nil _ _ _ _, unhide B1⟩
theorem loads_oki {s : SetV} (ha : allB s = true) (hu : ∀ t ∈ s.ts, U64 t.ecb ∧ U64 t.ucb) (i : Int) : (∀ x ∈ loadsI s i, Fix.I64 x.T ∧ Fix.I64 x.C) ∧ (loadsI s i).length ≤ 9223372036854775807 := by
  obtain ⟨-, h8, -, -⟩ := all_fits ha hu
  rw [loadsI]
  split
  · rename_i h
    obtain ⟨k, rfl, hk⟩ := in_is h
    rw [Int.toNat_natCast]
    exact ⟨fun x hx => ok_i64 (loads_ok ha hu hk) x (List.mem_append.2 (.inl hx)), by rw [loads_len]; omega⟩
  · exact ⟨fun x hx => by simp at hx, by simp⟩
theorem code_ALoads : CALoads := fun s i w hs ha _ => by
  have hu : ∀ t ∈ s.ts, U64 t.ecb ∧ U64 t.ucb := fun t ht => ⟨(hs.each t ht).ecb, (hs.each t ht).ucb⟩
  obtain ⟨h1, h2⟩ := loads_oki ha hu i
  refine (aloads_own s i w hs ha).mono ?_
  rintro e w' ⟨v, rfl, ho, hb⟩
  obtain ⟨ao, cap, rfl, hl⟩ := Fix.loads_own ho h1 h2
  exact ⟨ao, cap, rfl, hl, hb⟩
end Go.Proofs.Ytndhjfpjhpnbaaa.Lex
