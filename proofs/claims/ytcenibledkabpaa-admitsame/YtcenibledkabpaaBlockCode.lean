/- What package block answers. -/
import Derived.Test.YtcenibledkabpaaAgainCode
import Derived.Test.YtcenibledkabpaaAgainRel
import Derived.Test.YtcenibledkabpaaBlockSpec
namespace Go.Proofs.Ytcenibledkabpaa.Lex
set_option maxRecDepth 100000
open Go.ChangeShapes Go.WideShapes Go.RowKit

theorem of_out9 {s : SetV} {low high : Int} (h : ¬ (0 ≤ high ∧ high < low ∧ low < s.ts.length)) : ofZ s low high = 0 := by rw [ofZ, if_neg h]
def longTo9 (l : List Int) (j : Nat) : Int := longZ (l.take j)
theorem long_next9 {l : List Int} {j : Nat} (h : j < l.length) : longTo9 l (j + 1) = max (longTo9 l j) (l.getD j 0) := by
  rw [longTo9, longTo9, longZ, longZ, List.take_succ_eq_append_getElem h, List.foldl_append]
  simp [List.getD, h]
theorem left_any (a b : Int) (w : World) (ha : 0 ≤ a ∧ a ≤ 1000000) (hb : 0 ≤ b ∧ b ≤ 1000000) : Calls Try.prog 53 #[.int .i64 a, .int .i64 b] w fun e w' => e = .returned (.int .i64 (a + b - 1)) ∧ w' = w := by
  have e1 : IntKind.i64.wrap (a + b) = a + b := i64_is _ (by omega)
  have e2 : IntKind.i64.wrap (a + b - 1) = a + b - 1 := i64_is _ (by omega)
  go_enter Try.func53, Try.ntmps53
  go_wp2
  go_ret
  exact ⟨rfl, rfl⟩
/- the longest region -/
theorem max9_any (ao : Option Addr) (cap : Nat) (l : List Int) (w : World) (h : RegsIn w ao l) (h1 : 1 ≤ l.length) (h8 : l.length ≤ 8) (hp : ∀ n ∈ l, 1 ≤ n) : Calls Try.prog 54 #[.slice ao l.length cap] w fun e w' => e = .returned (.int .i64 (longZ l)) ∧ w' = w := by
  obtain ⟨b, off, rfl, hc⟩ := h (fun e => by rw [e] at h1; simp at h1)
  have HC := hide hc
  have HX := hide (fun j (hj : j < l.length) => long_next9 hj)
  have hx0 : 1 ≤ l.getD 0 0 := hp _ (by rw [List.getD_eq_getElem?_getD, List.getElem?_eq_getElem (show 0 < l.length by omega)]; exact List.getElem_mem _)
  have HX1 : Hid (longTo9 l 1 = l.getD 0 0) := hide (by rw [long_next9 (by omega), show longTo9 l 0 = 0 from by simp [longTo9, longZ]]; omega)
  have HXN : Hid (longTo9 l l.length = longZ l) := hide (by rw [longTo9, List.take_length])
  have hcell0 := hc 0 (by omega)
  rw [Nat.add_zero] at hcell0
  generalize l.getD 0 0 = x0 at *
  generalize longZ l = lz at *
  generalize longTo9 l = lt at *
  have hl0 : (0 : Int) < (l.length : Int) := by omega
  have hl1 : ¬ ((l.length : Int) < 1) := by omega
  clear h hc hp hx0
  go_enter Try.func54, Try.ntmps54
  go_wp2
  go_loopw [3, 4] (fun u i wr => ∃ j : Nat, 1 ≤ j ∧ j ≤ l.length ∧ u = .int .i64 (lt j) ∧ i = .int .i64 j ∧ wr = w) (fun _ i _ => l.length - (intOf i).toNat)
  case atStart => exact ⟨1, Nat.le_refl _, h1, by rw [unhide HX1], rfl, rfl⟩
  case round =>
    obtain ⟨j, hj0, hj, rfl, rfl, rfl⟩ := hrel
    by_cases hlt : j < l.length
    · have hcell := unhide HC j hlt
      have HR : Hid ((if lt j < l.getD j 0 then l.getD j 0 else lt j) = lt (j + 1)) := hide (by
        rw [unhide HX j hlt]
        split <;> omega)
      generalize l.getD j 0 = x at *
      go_wp2
      go_roundw
      case rel => exact ⟨j + 1, by omega, by omega, by rw [← unhide HR], by go_num, by trivial⟩
      case measure => simp [intOf]; omega
    · have e : j = l.length := by omega
      subst e
      rw [unhide HXN]
      go_wp2
      go_ret
      exact ⟨rfl, rfl⟩
/- a task is laid into a block of its own -/
def cells9 (t : TaskV) : Array Value := #[.string t.name, .int .i64 t.T, .int .i64 t.D, .int .i64 t.mode, .int .i64 t.Q, .int .i64 t.theta, .slice t.ao t.regs.length t.cap, .int .u64 t.ecb, .int .u64 t.ucb]
def zero9 : Array Value := #[.string ⟨#[]⟩, .int .i64 0, .int .i64 0, .int .i64 0, .int .i64 0, .int .i64 0, .slice none 0 0, .int .u64 0, .int .u64 0]
theorem XBox.far {w : World} {g b o x j : Nat} {u v : Value} {t : TaskV} (h : XBox w g u v b o t) (h1 : g ≠ x) (h2 : b ≠ x) (z : Value) : XBox (w.setCell ⟨x, j, none⟩ z) g u v b o t := by
  have f : ∀ (p : Addr) (q : Value), p.block ≠ x → w.cell? p = some q → (w.setCell ⟨x, j, none⟩ z).cell? p = some q := fun p q hp hq => by
    rw [World.cell?_setCell_far _ _ _ _ (fun e => hp e.symm)]; exact hq
  exact ⟨f _ _ h1 h.c0, f _ _ h1 h.c1, ⟨f _ _ h2 h.row.c0, f _ _ h2 h.row.c1, f _ _ h2 h.row.c2, f _ _ h2 h.row.c3, f _ _ h2 h.row.c4, f _ _ h2 h.row.c5, f _ _ h2 h.row.c6, f _ _ h2 h.row.c7, f _ _ h2 h.row.c8⟩⟩
def put9 (w : World) (x : Nat) (t : TaskV) : World := ((((((((w.setCell ⟨x, 0, none⟩ (.string t.name)).setCell ⟨x, 1, none⟩ (.int .i64 t.T)).setCell ⟨x, 2, none⟩ (.int .i64 t.D)).setCell ⟨x, 3, none⟩ (.int .i64 t.mode)).setCell ⟨x, 4, none⟩ (.int .i64 t.Q)).setCell ⟨x, 5, none⟩ (.int .i64 t.theta)).setCell ⟨x, 6, none⟩ (.slice t.ao t.regs.length t.cap)).setCell ⟨x, 7, none⟩ (.int .u64 t.ecb)).setCell ⟨x, 8, none⟩ (.int .u64 t.ucb)
theorem put9_block {w : World} {x : Nat} {t : TaskV} {ty : TypeId} (h : w.heap[x]? = some (.cells zero9 ty (0, 0))) : (put9 w x t).heap[x]? = some (.cells (cells9 t) ty (0, 0)) := by
  have := block_set (j := 8) (u := .int .u64 t.ucb) (block_set (j := 7) (u := .int .u64 t.ecb) (block_set (j := 6) (u := .slice t.ao t.regs.length t.cap) (block_set (j := 5) (u := .int .i64 t.theta) (block_set (j := 4) (u := .int .i64 t.Q) (block_set (j := 3) (u := .int .i64 t.mode) (block_set (j := 2) (u := .int .i64 t.D) (block_set (j := 1) (u := .int .i64 t.T) (block_set (j := 0) (u := .string t.name) h))))))))
  exact this.trans (by simp [zero9, cells9])
theorem put9_bel {w0 w : World} {B x : Nat} {t : TaskV} (h : Below B w0 w) (hx : B ≤ x) : Below B w0 (put9 w x t) := by
  unfold put9
  exact ((((((((h.setCell (p := ⟨x, 0, none⟩) hx _).setCell (p := ⟨x, 1, none⟩) hx _).setCell (p := ⟨x, 2, none⟩) hx _).setCell (p := ⟨x, 3, none⟩) hx _).setCell (p := ⟨x, 4, none⟩) hx _).setCell (p := ⟨x, 5, none⟩) hx _).setCell (p := ⟨x, 6, none⟩) hx _).setCell (p := ⟨x, 7, none⟩) hx _).setCell (p := ⟨x, 8, none⟩) hx _
theorem XBox.put9 {w : World} {g b o x : Nat} {u v : Value} {t : TaskV} (h : XBox w g u v b o t) (h1 : g ≠ x) (h2 : b ≠ x) : XBox (put9 w x t) g u v b o t := by
  unfold Lex.put9
  exact ((((((((h.far h1 h2 _).far h1 h2 _).far h1 h2 _).far h1 h2 _).far h1 h2 _).far h1 h2 _).far h1 h2 _).far h1 h2 _).far h1 h2 _
set_option maxHeartbeats 3200000 in
theorem code_BOf : CBOf := fun s low high w hs ha hl hh => by
  have hlen := hs.len
  by_cases h0 : high < 0
  · rw [of_out9 (by omega)]
    clear hs
    go_enter Try.func38, Try.ntmps38
    rw [SetV.val]
    go_wp2
    go_ret
    exact ⟨rfl, (Below.refl _ _).alloc (Nat.le_refl _) _⟩
  by_cases h1 : low ≤ high
  · rw [of_out9 (by omega)]
    clear hs
    go_enter Try.func38, Try.ntmps38
    rw [SetV.val]
    go_wp2
    go_ret
    exact ⟨rfl, (Below.refl _ _).alloc (Nat.le_refl _) _⟩
  by_cases h2 : (s.ts.length : Int) ≤ low
  · rw [of_out9 (by omega)]
    clear hs
    go_enter Try.func38, Try.ntmps38
    rw [SetV.val]
    go_wp2
    go_ret
    exact ⟨rfl, (Below.refl _ _).alloc (Nat.le_refl _) _⟩
  obtain ⟨k, rfl⟩ : ∃ k : Nat, low = k := ⟨low.toNat, by omega⟩
  have hk : k < s.ts.length := by omega
  rw [ofZ, if_pos (by omega), Int.toNat_natCast]
  have hu : ∀ t ∈ s.ts, U64 t.ecb ∧ U64 t.ucb := fun t ht => ⟨(hs.each t ht).ecb, (hs.each t ht).ucb⟩
  obtain ⟨hr, h8, -, hfit⟩ := all_fits ha hu
  have hreg := is_regs8 (hfit k hk).is
  have hwr := work_range hreg
  have hor := own_range hr (k : Int)
  obtain ⟨r8, reach⟩ := regs_each hreg
  have hlw : longZ (s.ts.getD k task0).regs ≤ workZ (s.ts.getD k task0).regs := long_work (s.ts.getD k task0).regs 0 (by omega) (fun n hn => (reach n hn).1)
  have hl0 : 0 ≤ longZ (s.ts.getD k task0).regs := (long_from (s.ts.getD k task0).regs 0).1
  have hmd := (fits_parts (hfit k hk).is).2.2.2.2.2
  have r1 : 1 ≤ (s.ts.getD k task0).regs.length := (fits_parts (hfit k hk).is).2.1
  have CA := hide (fun w h => code_AllG s w h)
  rw [ha] at CA
  have CO := hide (fun w h => code_Own s k w h ha hl)
  have HIN := hide hs
  obtain ⟨b, off, hao, ht⟩ := set_task hs (fun e => by rw [e] at hk; simp at hk)
  obtain ⟨hrow, htin⟩ := ht k hk
  have HTI := hide htin
  have CW := hide (fun w h => code_Work (s.ts.getD k task0) w h hreg)
  have CM := hide (fun w (h : TaskIn w (s.ts.getD k task0)) => max9_any (s.ts.getD k task0).ao (s.ts.getD k task0).cap (s.ts.getD k task0).regs w h.regs r1 r8 (fun n hn => (reach n hn).1))
  rw [wayZ]
  generalize ownZ s k = ow at *
  have CL := hide (fun w => left_any (workZ (s.ts.getD k task0).regs) ow w ⟨by omega, by omega⟩ ⟨by omega, by omega⟩)
  have CN := hide (fun w => left_any (longZ (s.ts.getD k task0).regs) ow w ⟨by omega, by omega⟩ ⟨by omega, by omega⟩)
  generalize workZ (s.ts.getD k task0).regs = wk at *
  generalize longZ (s.ts.getD k task0).regs = lz at *
  obtain ⟨rl, ao, cap, ts⟩ := s
  simp only at hao hk h8 hrow htin hlen h2 HIN CO CW CM CL CN HTI CA ⊢
  subst hao
  generalize ts.getD k task0 = t at *
  have HA : ∃ ans : Int, (if t.mode = 0 then lz + ow - 1 else if t.mode = 1 then min t.Q (wk + ow - 1) else if t.theta ≤ high then wk + ow - 1 else 0) = ans := ⟨_, rfl⟩
  obtain ⟨ans, hans⟩ := HA
  rw [hans]
  have HANS := hide hans
  clear hans
  have hk0 : (0 : Int) ≤ (k : Int) := by omega
  have hk1 : (k : Int) < (ts.length : Int) := by omega
  have hbox0 : XBox (w.alloc (.cells #[.int .i64 rl, .slice (some ⟨b, off, none⟩) ts.length cap] 24)) w.heap.size (.int .i64 rl) (.slice (some ⟨b, off, none⟩) ts.length cap) b (off + k * 9) t := ⟨by simp, by simp, hrow.bel ((Below.refl _ _).alloc (Nat.le_refl _) _)⟩
  have HB := hide hbox0
  have hm2 : t.mode = 0 ∨ t.mode = 1 ∨ t.mode = 2 := by
    rw [modeB] at hmd
    by_cases h : t.mode = 0
    · exact .inl h
    · by_cases h1 : t.mode = 1
      · exact .inr (.inl h1)
      · by_cases h2 : t.mode = 2
        · exact .inr (.inr h2)
        · rw [if_neg h, if_neg h1, if_neg h2] at hmd; cases hmd
  have HM := hide hm2
  clear hmd hm2
  clear hs ha hu hr hfit hreg hrow htin ht hlw hl0 reach hbox0 hl hh
  go_enter Try.func38, Try.ntmps38
  rw [SetV.val]
  simp only
  go_wp2_with fail
  refine (unhide CA _ (set_bel (unhide HIN) ((Below.refl _ _).alloc (Nat.le_refl _) _))).mono ?_
  rintro e w1 ⟨rfl, bel⟩
  have BC := hide (bel_box (Below.refl _ _) bel).drew
  have hbox := ((unhide HB).bel bel).drew
  clear bel HB CA
  go_wp2_with fail
  refine Code.wp_mono (Q := fun e a' w' => e = .normal ∧ ∃ (tb : Nat), w'.heap[tb]? = some (.cells (cells9 t) 37 (0, 0)) ∧ Below w.heap.size w w' ∧ ∃ f : Nat → Value, a' = { tmps := #[f 0, .int .i64 k, .int .i64 high, f 3, f 4, f 5, f 6, .pointer (some ⟨tb, 0, none⟩), .int .i64 ow, f 9, f 10, f 11, f 12, f 13, f 14, f 15, f 16, f 17, f 18, f 19, f 20, f 21, f 22, f 23, f 24, f 25, f 26, f 27, f 28, f 29, f 30, f 31, f 32, f 33, f 34, f 35, f 36, f 37, f 38, f 39, f 40, f 41, f 42, f 43, f 44, f 45, f 46, f 47, f 48, f 49, f 50, f 51, f 52, f 53, f 54, f 55, f 56, f 57, f 58, f 59, f 60, f 61, f 62], defers := [] }) ?_ ?_
  rotate_left
  · refine wp_region_held_drew (S := fun w9 => XBox w9 w.heap.size (.int .i64 rl) (.slice (some ⟨b, off, none⟩) ts.length cap) b (off + k * 9) t) (by kernel_rfl) hbox (fun hHeld => ?_)
    clear hbox
    generalize w1.drew = W0 at *
    refine take_yes 0 29 (.pointer (some ⟨w.heap.size, 1, none⟩)) rfl rfl (by kernel_rfl) (by kernel_rfl) (by kernel_rfl) (fun _ _ _ h => nomatch h.1) rfl (by assumption) (by intro w9 hS9; obtain ⟨s0, s1, ⟨t0, t1, t2, t3, t4, t5, t6, t7, t8⟩⟩ := hS9; go_simp) ?_
    simp only [List.setIfInBounds_toArray, List.set_cons_zero, List.set_cons_succ]
    refine take_yes 1 30 (.slice (some ⟨b, off, none⟩) ts.length cap) rfl rfl (by kernel_rfl) (by kernel_rfl) (by kernel_rfl) (fun _ _ _ h => nomatch h.1) rfl (by assumption) (by intro w9 hS9; obtain ⟨s0, s1, ⟨t0, t1, t2, t3, t4, t5, t6, t7, t8⟩⟩ := hS9; go_simp) ?_
    simp only [List.setIfInBounds_toArray, List.set_cons_zero, List.set_cons_succ]
    refine take_yes 2 31 (.int .i64 k) rfl rfl (by kernel_rfl) (by kernel_rfl) (by kernel_rfl) (fun _ _ _ h => nomatch h.1) rfl (by assumption) (by intro w9 hS9; obtain ⟨s0, s1, ⟨t0, t1, t2, t3, t4, t5, t6, t7, t8⟩⟩ := hS9; go_simp) ?_
    simp only [List.setIfInBounds_toArray, List.set_cons_zero, List.set_cons_succ]
    refine take_yes 3 32 (.pointer (some ⟨b, off + k * 9, none⟩)) rfl rfl (by kernel_rfl) (by kernel_rfl) (by kernel_rfl) (fun _ _ _ h => nomatch h.1) rfl (by assumption) (by intro w9 hS9; obtain ⟨s0, s1, ⟨t0, t1, t2, t3, t4, t5, t6, t7, t8⟩⟩ := hS9; go_simp) ?_
    simp only [List.setIfInBounds_toArray, List.set_cons_zero, List.set_cons_succ]
    refine take_yes 4 33 (.agg #[.string t.name, .int .i64 t.T, .int .i64 t.D, .int .i64 t.mode, .int .i64 t.Q, .int .i64 t.theta, .slice t.ao t.regs.length t.cap, .int .u64 t.ecb, .int .u64 t.ucb]) rfl rfl (by kernel_rfl) (by kernel_rfl) (by kernel_rfl) (fun _ _ _ h => nomatch h.1) rfl (by assumption) (by intro w9 hS9; obtain ⟨s0, s1, ⟨t0, t1, t2, t3, t4, t5, t6, t7, t8⟩⟩ := hS9; go_simp) ?_
    simp only [List.setIfInBounds_toArray, List.set_cons_zero, List.set_cons_succ]
    refine take_yes 5 34 (.agg #[.int .i64 rl, .slice (some ⟨b, off, none⟩) ts.length cap]) rfl rfl (by kernel_rfl) (by kernel_rfl) (by kernel_rfl) (fun _ _ _ h => nomatch h.1) rfl (by assumption) (by intro w9 hS9; obtain ⟨s0, s1, ⟨t0, t1, t2, t3, t4, t5, t6, t7, t8⟩⟩ := hS9; go_simp) ?_
    simp only [List.setIfInBounds_toArray, List.set_cons_zero, List.set_cons_succ]
    refine take_yes 6 35 (.int .i64 k) rfl rfl (by kernel_rfl) (by kernel_rfl) (by kernel_rfl) (fun _ _ _ h => nomatch h.1) rfl (by assumption) (by intro w9 hS9; obtain ⟨s0, s1, ⟨t0, t1, t2, t3, t4, t5, t6, t7, t8⟩⟩ := hS9; go_simp) ?_
    simp only [List.setIfInBounds_toArray, List.set_cons_zero, List.set_cons_succ]
    refine wpAnyH_ready (rs := [7, 8]) (by kernel_rfl) (by decide) (AllReadyH.cons rfl (fun K hK => ?_) (AllReadyH.cons rfl (fun K hK => ?_) AllReadyH.nil))
    · refine (if_pos rfl).mpr ?_
      go_wp2_with fail
      refine (unhide CO _ (set_bel (unhide HIN) (unhide BC))).mono ?_
      rintro e W1 ⟨rfl, bel⟩
      have BC' := hide (below_on (unhide BC) bel)
      refine hK.out _ _ (hHeld.bel bel) (fun hHeld => ?_)
      clear hK K bel
      clear BC
      have BC := BC'
      clear BC'
      try simp only [List.setIfInBounds_toArray, List.set_cons_zero, List.set_cons_succ]
      refine wpAnyH_ready (rs := [8]) (by kernel_rfl) (by decide) (AllReadyH.cons rfl (fun K hK => ?_) AllReadyH.nil)
      have BC' := hide ((unhide BC).alloc (unhide BC).size (.cells #[.string ⟨#[]⟩, .int .i64 0, .int .i64 0, .int .i64 0, .int .i64 0, .int .i64 0, .slice none 0 0, .int .u64 0, .int .u64 0] 37))
      have AT := hide (heap_alloc_new W1 (.cells #[.string ⟨#[]⟩, .int .i64 0, .int .i64 0, .int .i64 0, .int .i64 0, .int .i64 0, .slice none 0 0, .int .u64 0, .int .u64 0] 37))
      have GT : Hid (w.heap.size < W1.heap.size) := hide (World.block_lt_of_cell? W1 _ hHeld.c0)
      have GB : Hid (b < W1.heap.size) := hide (World.block_lt_of_cell? W1 _ hHeld.row.c0)
      go_simp
      refine hK.out _ _ (hHeld.bel (al_bel W1 (.cells #[.string ⟨#[]⟩, .int .i64 0, .int .i64 0, .int .i64 0, .int .i64 0, .int .i64 0, .slice none 0 0, .int .u64 0, .int .u64 0] 37))) (fun hHeld => ?_)
      clear hK K
      clear BC
      have BC := BC'
      clear BC'
      try simp only [List.setIfInBounds_toArray, List.set_cons_zero, List.set_cons_succ]
      generalize hw : W1.alloc (.cells #[.string ⟨#[]⟩, .int .i64 0, .int .i64 0, .int .i64 0, .int .i64 0, .int .i64 0, .slice none 0 0, .int .u64 0, .int .u64 0] 37) = W2 at *
      clear hw
      generalize W1.heap.size = tb at *
      refine wpAnyH_ready (rs := [9]) (by kernel_rfl) (by decide) (AllReadyH.cons rfl (fun K hK => ?_) AllReadyH.nil)
      have z0 : W2.cell? ⟨tb, 0, none⟩ = some (.string ⟨#[]⟩) := cell_block (unhide AT)
      have z1 : W2.cell? ⟨tb, 1, none⟩ = some (.int .i64 0) := cell_block (unhide AT)
      have z2 : W2.cell? ⟨tb, 2, none⟩ = some (.int .i64 0) := cell_block (unhide AT)
      have z3 : W2.cell? ⟨tb, 3, none⟩ = some (.int .i64 0) := cell_block (unhide AT)
      have z4 : W2.cell? ⟨tb, 4, none⟩ = some (.int .i64 0) := cell_block (unhide AT)
      have z5 : W2.cell? ⟨tb, 5, none⟩ = some (.int .i64 0) := cell_block (unhide AT)
      have z6 : W2.cell? ⟨tb, 6, none⟩ = some (.slice none 0 0) := cell_block (unhide AT)
      have z7 : W2.cell? ⟨tb, 7, none⟩ = some (.int .u64 0) := cell_block (unhide AT)
      have z8 : W2.cell? ⟨tb, 8, none⟩ = some (.int .u64 0) := cell_block (unhide AT)
      have zf := fun j => frozen_block (j := j) (unhide AT)
      have BC' := hide (put9_bel (t := t) (unhide BC) (Nat.le_of_lt (unhide GT)))
      have AT' := hide (put9_block (t := t) (unhide AT))
      have hS := hHeld.put9 (Nat.ne_of_lt (unhide GT)) (Nat.ne_of_lt (unhide GB))
      unfold Lex.put9 at hS BC' AT'
      go_simp
      refine hK.out _ _ hS (fun hHeld => ?_)
      clear hK K zf hS z0 z1 z2 z3 z4 z5 z6 z7 z8
      try simp only [List.setIfInBounds_toArray, List.set_cons_zero, List.set_cons_succ]
      generalize hw : (((((((((W2.setCell ⟨tb, 0, none⟩ (.string t.name)).setCell ⟨tb, 1, none⟩ (.int .i64 t.T)).setCell ⟨tb, 2, none⟩ (.int .i64 t.D)).setCell ⟨tb, 3, none⟩ (.int .i64 t.mode)).setCell ⟨tb, 4, none⟩ (.int .i64 t.Q)).setCell ⟨tb, 5, none⟩ (.int .i64 t.theta)).setCell ⟨tb, 6, none⟩ (.slice t.ao t.regs.length t.cap)).setCell ⟨tb, 7, none⟩ (.int .u64 t.ecb)).setCell ⟨tb, 8, none⟩ (.int .u64 t.ucb)) = W9 at *
      clear hw
      refine take_yes 10 8 (.int .i64 ow) rfl rfl (by kernel_rfl) (by kernel_rfl) (by kernel_rfl) (fun _ _ _ h => nomatch h.1) rfl (by assumption) (by intro w9 hS9; obtain ⟨s0, s1, ⟨t0, t1, t2, t3, t4, t5, t6, t7, t8⟩⟩ := hS9; go_simp) ?_
      simp only [List.setIfInBounds_toArray, List.set_cons_zero, List.set_cons_succ]
      refine wpAnyH_done (by kernel_rfl) ?_ _
      exact ⟨rfl, tb, unhide AT', unhide BC', frame_at rfl⟩
    · have BC' := hide ((unhide BC).alloc (unhide BC).size (.cells #[.string ⟨#[]⟩, .int .i64 0, .int .i64 0, .int .i64 0, .int .i64 0, .int .i64 0, .slice none 0 0, .int .u64 0, .int .u64 0] 37))
      have AT := hide (heap_alloc_new W0 (.cells #[.string ⟨#[]⟩, .int .i64 0, .int .i64 0, .int .i64 0, .int .i64 0, .int .i64 0, .slice none 0 0, .int .u64 0, .int .u64 0] 37))
      have GT : Hid (w.heap.size < W0.heap.size) := hide (World.block_lt_of_cell? W0 _ hHeld.c0)
      have GB : Hid (b < W0.heap.size) := hide (World.block_lt_of_cell? W0 _ hHeld.row.c0)
      go_simp
      refine hK.out _ _ (hHeld.bel (al_bel W0 (.cells #[.string ⟨#[]⟩, .int .i64 0, .int .i64 0, .int .i64 0, .int .i64 0, .int .i64 0, .slice none 0 0, .int .u64 0, .int .u64 0] 37))) (fun hHeld => ?_)
      clear hK K
      clear BC
      have BC := BC'
      clear BC'
      try simp only [List.setIfInBounds_toArray, List.set_cons_zero, List.set_cons_succ]
      generalize hw : W0.alloc (.cells #[.string ⟨#[]⟩, .int .i64 0, .int .i64 0, .int .i64 0, .int .i64 0, .int .i64 0, .slice none 0 0, .int .u64 0, .int .u64 0] 37) = W1 at *
      clear hw
      generalize W0.heap.size = tb at *
      refine wpAnyH_ready (rs := [7]) (by kernel_rfl) (by decide) (AllReadyH.cons rfl (fun K hK => ?_) AllReadyH.nil)
      refine (if_pos rfl).mpr ?_
      go_wp2_with fail
      refine (unhide CO _ (set_bel (unhide HIN) (unhide BC))).mono ?_
      rintro e W2 ⟨rfl, bel⟩
      have BC' := hide (below_on (unhide BC) bel)
      have AT' := hide (blk_bel (unhide AT) bel)
      refine hK.out _ _ (hHeld.bel bel) (fun hHeld => ?_)
      clear hK K bel
      clear BC
      have BC := BC'
      clear BC'
      clear AT
      have AT := AT'
      clear AT'
      try simp only [List.setIfInBounds_toArray, List.set_cons_zero, List.set_cons_succ]
      refine wpAnyH_ready (rs := [9]) (by kernel_rfl) (by decide) (AllReadyH.cons rfl (fun K hK => ?_) AllReadyH.nil)
      have z0 : W2.cell? ⟨tb, 0, none⟩ = some (.string ⟨#[]⟩) := cell_block (unhide AT)
      have z1 : W2.cell? ⟨tb, 1, none⟩ = some (.int .i64 0) := cell_block (unhide AT)
      have z2 : W2.cell? ⟨tb, 2, none⟩ = some (.int .i64 0) := cell_block (unhide AT)
      have z3 : W2.cell? ⟨tb, 3, none⟩ = some (.int .i64 0) := cell_block (unhide AT)
      have z4 : W2.cell? ⟨tb, 4, none⟩ = some (.int .i64 0) := cell_block (unhide AT)
      have z5 : W2.cell? ⟨tb, 5, none⟩ = some (.int .i64 0) := cell_block (unhide AT)
      have z6 : W2.cell? ⟨tb, 6, none⟩ = some (.slice none 0 0) := cell_block (unhide AT)
      have z7 : W2.cell? ⟨tb, 7, none⟩ = some (.int .u64 0) := cell_block (unhide AT)
      have z8 : W2.cell? ⟨tb, 8, none⟩ = some (.int .u64 0) := cell_block (unhide AT)
      have zf := fun j => frozen_block (j := j) (unhide AT)
      have BC' := hide (put9_bel (t := t) (unhide BC) (Nat.le_of_lt (unhide GT)))
      have AT' := hide (put9_block (t := t) (unhide AT))
      have hS := hHeld.put9 (Nat.ne_of_lt (unhide GT)) (Nat.ne_of_lt (unhide GB))
      unfold Lex.put9 at hS BC' AT'
      go_simp
      refine hK.out _ _ hS (fun hHeld => ?_)
      clear hK K zf hS z0 z1 z2 z3 z4 z5 z6 z7 z8
      try simp only [List.setIfInBounds_toArray, List.set_cons_zero, List.set_cons_succ]
      generalize hw : (((((((((W2.setCell ⟨tb, 0, none⟩ (.string t.name)).setCell ⟨tb, 1, none⟩ (.int .i64 t.T)).setCell ⟨tb, 2, none⟩ (.int .i64 t.D)).setCell ⟨tb, 3, none⟩ (.int .i64 t.mode)).setCell ⟨tb, 4, none⟩ (.int .i64 t.Q)).setCell ⟨tb, 5, none⟩ (.int .i64 t.theta)).setCell ⟨tb, 6, none⟩ (.slice t.ao t.regs.length t.cap)).setCell ⟨tb, 7, none⟩ (.int .u64 t.ecb)).setCell ⟨tb, 8, none⟩ (.int .u64 t.ucb)) = W9 at *
      clear hw
      refine take_yes 10 8 (.int .i64 ow) rfl rfl (by kernel_rfl) (by kernel_rfl) (by kernel_rfl) (fun _ _ _ h => nomatch h.1) rfl (by assumption) (by intro w9 hS9; obtain ⟨s0, s1, ⟨t0, t1, t2, t3, t4, t5, t6, t7, t8⟩⟩ := hS9; go_simp) ?_
      simp only [List.setIfInBounds_toArray, List.set_cons_zero, List.set_cons_succ]
      refine wpAnyH_done (by kernel_rfl) ?_ _
      exact ⟨rfl, tb, unhide AT', unhide BC', frame_at rfl⟩
  clear BC hbox
  rintro e a4 w4 ⟨rfl, tb, hx, bel, f, rfl⟩
  have BC := hide bel
  have AT := hide hx
  have c0 : w4.cell? ⟨tb, 0, none⟩ = some (.string t.name) := cell_block hx
  have c1 : w4.cell? ⟨tb, 1, none⟩ = some (.int .i64 t.T) := cell_block hx
  have c2 : w4.cell? ⟨tb, 2, none⟩ = some (.int .i64 t.D) := cell_block hx
  have c3 : w4.cell? ⟨tb, 3, none⟩ = some (.int .i64 t.mode) := cell_block hx
  have c4 : w4.cell? ⟨tb, 4, none⟩ = some (.int .i64 t.Q) := cell_block hx
  have c5 : w4.cell? ⟨tb, 5, none⟩ = some (.int .i64 t.theta) := cell_block hx
  have c6 : w4.cell? ⟨tb, 6, none⟩ = some (.slice t.ao t.regs.length t.cap) := cell_block hx
  have c7 : w4.cell? ⟨tb, 7, none⟩ = some (.int .u64 t.ecb) := cell_block hx
  have c8 : w4.cell? ⟨tb, 8, none⟩ = some (.int .u64 t.ucb) := cell_block hx
  clear hx bel
  go_wp2_with fail
  refine (unhide CW _ (task_bel (unhide HTI) (unhide BC))).mono ?_
  rintro e w5 ⟨rfl, bel⟩
  have B5 := hide (below_on (unhide BC) bel)
  have d3 := cell_bel' c3 bel
  have d4 := cell_bel' c4 bel
  have d5 := cell_bel' c5 bel
  have d6 := cell_bel' c6 bel
  clear bel c0 c1 c2 c3 c4 c5 c6 c7 c8 AT
  go_wp2_with fail
  refine (unhide CL _).mono ?_
  rintro e w6 ⟨rfl, hw⟩
  rw [hw]
  clear hw w6
  rcases unhide HM with hm | hm | hm
  · rw [hm] at d3
    have HANS' : Hid (lz + ow - 1 = ans) := hide (by rw [← unhide HANS, if_pos hm])
    clear HANS HM hm
    go_wp2_with fail
    refine (unhide CM _ (task_bel (unhide HTI) (unhide B5))).mono ?_
    rintro e w6 ⟨rfl, hw⟩
    rw [hw]
    clear hw w6
    go_wp2_with fail
    refine (unhide CN _).mono ?_
    rintro e w6 ⟨rfl, hw⟩
    rw [hw]
    clear hw w6
    go_wp2
    go_ret
    obtain rfl := unhide HANS'
    exact ⟨rfl, unhide B5⟩
  · rw [hm] at d3
    by_cases hq : wk + ow - 1 < t.Q
    · have HANS' : Hid (wk + ow - 1 = ans) := hide (by
        have h := unhide HANS
        rw [if_neg (by omega), if_pos hm] at h
        omega)
      clear HANS HM hm
      go_wp2
      go_ret
      obtain rfl := unhide HANS'
      exact ⟨rfl, unhide B5⟩
    · have HANS' : Hid (t.Q = ans) := hide (by
        have h := unhide HANS
        rw [if_neg (by omega), if_pos hm] at h
        omega)
      clear HANS HM hm
      go_wp2
      go_ret
      obtain rfl := unhide HANS'
      exact ⟨rfl, unhide B5⟩
  · rw [hm] at d3
    by_cases hth : t.theta ≤ high
    · have HANS' : Hid (wk + ow - 1 = ans) := hide (by rw [← unhide HANS, if_neg (by omega), if_neg (by omega), if_pos hth])
      clear HANS HM hm
      go_wp2
      go_ret
      obtain rfl := unhide HANS'
      exact ⟨rfl, unhide B5⟩
    · have HANS' : Hid (0 = ans) := hide (by rw [← unhide HANS, if_neg (by omega), if_neg (by omega), if_neg hth])
      clear HANS HM hm
      go_wp2
      go_ret
      obtain rfl := unhide HANS'
      exact ⟨rfl, unhide B5⟩
set_option maxHeartbeats 1600000 in
theorem code_BMost : CBMost := fun s i w hs ha hi => by
  have hlen := hs.len
  have CO := hide (fun (l : Nat) (hl : l < s.ts.length) w h => code_BOf s l i w h ha (by unfold I64; omega) hi)
  have HIN := hide hs
  have HB := hide (sbox_new w s 24)
  have HX := hide (most_next s i)
  have HE : Hid (mostZ s i = mostTo s i s.ts.length) := rfl
  rw [unhide HE]
  obtain ⟨rl, ao, cap, ts⟩ := s
  simp only at hlen HX CO ⊢
  have HZ : Hid (mostTo ⟨rl, ao, cap, ts⟩ i 0 = 0) := rfl
  generalize mostTo ⟨rl, ao, cap, ts⟩ i = mt at *
  clear hs ha HE hi
  go_enter Try.func27, Try.ntmps27
  rw [SetV.val]
  simp only
  go_wp2
  go_loopw [5, 10] (fun u i' wr => ∃ j : Nat, j ≤ ts.length ∧ u = .int .i64 (mt j) ∧ i' = .int .i64 j ∧ Below (w.heap.size + 1) (w.alloc (.cells #[.int .i64 rl, .slice ao ts.length cap] 24)) wr) (fun _ i _ => ts.length - (intOf i).toNat)
  case atStart => exact ⟨0, Nat.zero_le _, by rw [unhide HZ], rfl, Below.refl _ _⟩
  case round =>
    obtain ⟨j, hj1, rfl, rfl, hb⟩ := hrel
    have B := hide (show Below (w.alloc (.cells #[.int .i64 rl, .slice ao ts.length cap] 24)).heap.size (w.alloc (.cells #[.int .i64 rl, .slice ao ts.length cap] 24)) wr by simpa using hb)
    have B0 := hide (below_on ((Below.refl w.heap.size w).alloc (Nat.le_refl _) (.cells #[.int .i64 rl, .slice ao ts.length cap] 24)) (unhide B))
    obtain ⟨c0, c1⟩ := (unhide HB).bel (unhide B)
    simp only at c0 c1
    clear hb
    by_cases hlt : j < ts.length
    · have CJ := hide (unhide CO j hlt)
      have HN := hide (unhide HX j)
      generalize ofZ ⟨rl, ao, cap, ts⟩ j i = x at *
      have HR : Hid ((if mt j < x then x else mt j) = mt (j + 1)) := hide (by
        rw [unhide HN]
        split <;> omega)
      go_wp2_with fail
      refine (unhide CJ _ (set_bel (unhide HIN) (unhide B0))).mono ?_
      rintro e w1 ⟨rfl, bel⟩
      have B1 := hide (below_on (unhide B) bel)
      clear bel
      go_wp2
      go_roundw
      case rel => exact ⟨j + 1, by omega, by rw [← unhide HR], by go_num, by simpa using unhide B1⟩
      case measure => simp [intOf]; omega
    · have e : j = ts.length := by omega
      subst e
      go_wp2
      go_ret
      exact ⟨rfl, unhide B0⟩
end Go.Proofs.Ytcenibledkabpaa.Lex
