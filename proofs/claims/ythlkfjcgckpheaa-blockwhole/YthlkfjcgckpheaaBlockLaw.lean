/- The laws of chapter 9, over what package block answers. -/
import Derived.Test.YthlkfjcgckpheaaBlockSpec
namespace Go.Proofs.Ythlkfjcgckpheaa.Lex
open Go.ChangeShapes Go.WideShapes Go.RowKit

theorem work_pos {l : List Int} (h1 : 1 ≤ l.length) (h : ∀ n ∈ l, 1 ≤ n ∧ n ≤ 10000) : 1 ≤ longZ l ∧ longZ l ≤ workZ l := by
  refine ⟨?_, long_work l 0 (by omega) (fun n hn => (h n hn).1)⟩
  match l, h1, h with
  | x :: l, _, h =>
    have h0 := (h x (List.mem_cons_self ..)).1
    have h1 := (long_from (x :: l) 0).2 x (List.mem_cons_self ..)
    show 1 ≤ (x :: l).foldl max 0
    omega
theorem way_range {t : TaskV} {p : Int} (hf : Fits t p) {own : Int} (ho : 0 ≤ own ∧ own ≤ 640000) (high : Int) : 0 ≤ wayZ t own high ∧ wayZ t own high ≤ workZ t.regs + own - 1 ∧ 0 ≤ workZ t.regs + own - 1 ∧ workZ t.regs + own - 1 ≤ 800000 := by
  obtain ⟨-, hr1, hr8, hre, -, hm⟩ := fits_parts hf.is
  obtain ⟨h1, h2⟩ := work_pos hr1 hre
  have h3 := work_bound t.regs hre
  have hw : 0 ≤ workZ t.regs + own - 1 ∧ workZ t.regs + own - 1 ≤ 800000 := by omega
  simp only [modeB] at hm
  unfold wayZ
  split
  · omega
  · rename_i h0
    rw [if_neg h0] at hm
    split
    · rename_i h0
      rw [if_pos h0] at hm
      simp only [inB, Bool.and_eq_true, decide_eq_true_eq] at hm
      omega
    · split <;> omega
theorem of_range {s : SetV} (ha : allB s = true) (hu : ∀ t ∈ s.ts, U64 t.ecb ∧ U64 t.ucb) {low high : Int} (h : 0 ≤ high ∧ high < low ∧ low < s.ts.length) : (0 ≤ ofZ s low high ∧ ofZ s low high ≤ wholeZ s low) ∧ ofZ s low high ≤ mostZ s high ∧ 0 ≤ wholeZ s low ∧ wholeZ s low ≤ 800000 := by
  obtain ⟨hr, h8, -, hfit⟩ := all_fits ha hu
  obtain ⟨k, rfl⟩ : ∃ k : Nat, low = k := ⟨low.toNat, by omega⟩
  have hk : k < s.ts.length := by omega
  have hw := way_range (hfit k hk) (own_range hr (k : Int)) high
  have e : ofZ s k high = wayZ (s.ts.getD k task0) (ownZ s k) high := by rw [ofZ, if_pos h]; rfl
  have e2 : wholeZ s k = workZ (s.ts.getD k task0).regs + ownZ s k - 1 := rfl
  refine ⟨?_, (most_ge s high s.ts.length).2 k hk, ?_⟩
  · rw [e, e2]; omega
  · rw [e2]; omega
theorem rwhole_any (s : SetV) (k : Nat) (w : World) (hs : SetIn w s) (ha : allB s = true) (hk : k < s.ts.length) : Calls Try.prog 8 #[s.val, .int .i64 k] w fun e w' => e = .returned (.int .i64 (wholeZ s k)) ∧ Below w.heap.size w w' := by
  have hu : ∀ t ∈ s.ts, U64 t.ecb ∧ U64 t.ucb := fun t ht => ⟨(hs.each t ht).ecb, (hs.each t ht).ucb⟩
  obtain ⟨hr, h8, -, hfit⟩ := all_fits ha hu
  have hreg := is_regs8 (hfit k hk).is
  have hwr := work_range hreg
  have hor := own_range hr (k : Int)
  have CW := hide (fun w h => rwork8_any s k w h hk hreg)
  have CO := hide (fun w h => rown_any s k w h hr)
  have HIN := hide hs
  have HE : Hid (wholeZ s k = workZ (s.ts.getD k task0).regs + ownZ s k - 1) := rfl
  have hbox := sbox_new w s 24
  clear hu hr hfit hreg ha hs
  generalize wholeZ s k = R at *
  generalize workZ (s.ts.getD k task0).regs = wk at *
  generalize ownZ s k = ow at *
  have e1 : IntKind.i64.wrap (wk + ow) = wk + ow := i64_is _ (by omega)
  have e2 : IntKind.i64.wrap (wk + ow - 1) = wk + ow - 1 := i64_is _ (by omega)
  obtain ⟨rl, ao, cap, ts⟩ := s
  simp only at hbox hk
  have B1 : Hid (Below w.heap.size w (w.alloc (.cells #[.int .i64 rl, .slice ao ts.length cap] 24))) := (Below.refl _ _).alloc (Nat.le_refl _) _
  go_enter Try.func8, Try.ntmps8
  rw [SetV.val]
  simp only
  have D0 := hide (unhide B1).drew
  go_wp2_with fail
  refine wp_region_held_drew (S := (fun w9 => SBox w9 w.heap.size ⟨rl, ao, cap, ts⟩)) (by kernel_rfl) (hbox.drew) (fun hHeld => ?_)
  refine take_yes 0 5 (.agg #[.int .i64 rl, .slice ao ts.length cap]) rfl rfl (by kernel_rfl) (by kernel_rfl) (by kernel_rfl) (fun _ _ _ h => h) rfl (by assumption) (by intro w9 hS9; obtain ⟨s0, s1⟩ := hS9; go_simp) ?_
  simp only [List.setIfInBounds_toArray, List.set_cons_zero, List.set_cons_succ]
  refine take_yes 1 6 (.int .i64 k) rfl rfl (by kernel_rfl) (by kernel_rfl) (by kernel_rfl) (fun _ _ _ h => h) rfl (by assumption) (by intro w9 hS9; obtain ⟨s0, s1⟩ := hS9; go_simp) ?_
  simp only [List.setIfInBounds_toArray, List.set_cons_zero, List.set_cons_succ]
  refine take_yes 3 8 (.agg #[.int .i64 rl, .slice ao ts.length cap]) rfl rfl (by kernel_rfl) (by kernel_rfl) (by kernel_rfl) (fun _ _ _ h => h) rfl (by assumption) (by intro w9 hS9; obtain ⟨s0, s1⟩ := hS9; go_simp) ?_
  simp only [List.setIfInBounds_toArray, List.set_cons_zero, List.set_cons_succ]
  refine take_yes 4 9 (.int .i64 k) rfl rfl (by kernel_rfl) (by kernel_rfl) (by kernel_rfl) (fun _ _ _ h => h) rfl (by assumption) (by intro w9 hS9; obtain ⟨s0, s1⟩ := hS9; go_simp) ?_
  simp only [List.setIfInBounds_toArray, List.set_cons_zero, List.set_cons_succ]
  refine wpAnyH_ready (rs := [2]) (by kernel_rfl) (by decide) (AllReadyH.cons rfl (fun K hK => ?_) AllReadyH.nil)
  refine (if_pos rfl).mpr ?_
  go_wp2_with fail
  refine (unhide CW (w.alloc (.cells #[.int .i64 rl, .slice ao ts.length cap] 24)).drew (set_bel (unhide HIN) (unhide D0))).mono ?_
  rintro e x1 ⟨rfl, bel⟩
  have N1 := hide (below_on (unhide D0) bel)
  refine hK.out _ _ (hHeld.bel bel) (fun hHeld => ?_)
  clear hK K bel
  refine wpAnyH_ready (rs := [5]) (by kernel_rfl) (by decide) (AllReadyH.cons rfl (fun K hK => ?_) AllReadyH.nil)
  refine (if_pos rfl).mpr ?_
  go_wp2_with fail
  refine (unhide CO x1 (set_bel (unhide HIN) (unhide N1))).mono ?_
  rintro e x2 ⟨rfl, bel⟩
  have N2 := hide (below_on (unhide N1) bel)
  refine hK.out _ _ (hHeld.bel bel) (fun hHeld => ?_)
  clear hK K bel
  refine take_yes 6 11 (.int .i64 (wk + ow)) rfl rfl (by kernel_rfl) (by kernel_rfl) (by kernel_rfl) (fun _ _ _ h => h) rfl (by assumption) (by intro w9 hS9; obtain ⟨s0, s1⟩ := hS9; go_simp) ?_
  simp only [List.setIfInBounds_toArray, List.set_cons_zero, List.set_cons_succ]
  refine take_yes 7 12 (.int .i64 (wk + ow - 1)) rfl rfl (by kernel_rfl) (by kernel_rfl) (by kernel_rfl) (fun _ _ _ h => h) rfl (by assumption) (by intro w9 hS9; obtain ⟨s0, s1⟩ := hS9; go_simp) ?_
  simp only [List.setIfInBounds_toArray, List.set_cons_zero, List.set_cons_succ]
  refine take_yes 8 4 (.int .i64 (wk + ow - 1)) rfl rfl (by kernel_rfl) (by kernel_rfl) (by kernel_rfl) (fun _ _ _ h => h) rfl (by assumption) (by intro w9 hS9; obtain ⟨s0, s1⟩ := hS9; go_simp) ?_
  simp only [List.setIfInBounds_toArray, List.set_cons_zero, List.set_cons_succ]
  refine wpAnyH_done (by kernel_rfl) ?_ _
  go_wp2
  go_ret
  exact ⟨by rw [unhide HE]; rfl, unhide N2⟩
/- the law's own set -/
def bT (g : Nat) (nm : UInt8) (l : List Int) : TaskV := ⟨⟨#[nm]⟩, 9, 9, 0, 0, 0, some ⟨g, 0, none⟩, l.length, 0, 0, l⟩
def bS (g : Nat) : SetV := ⟨0, some ⟨g + 1 + 1, 0, none⟩, 2, [bT g 97 [1], bT (g + 1) 98 [2, 5, 1]]⟩
theorem bS_all (g : Nat) : allB (bS g) = true := by show allB (bS 0) = true; decide +kernel
theorem bS_is (g : Nat) : ofZ (bS g) 1 0 = 4 ∧ mostZ (bS g) 0 = 4 ∧ mostZ (bS g) 1 = 0 := by show ofZ (bS 0) 1 0 = 4 ∧ mostZ (bS 0) 0 = 4 ∧ mostZ (bS 0) 1 = 0; decide +kernel
theorem bT_in {w : World} {g : Nat} {l : List Int} (hl : l.length ≤ 8) (h : ∀ j, j < l.length → w.cell? ⟨g, j, none⟩ = some (.int .i64 (l.getD j 0))) (hi : ∀ n ∈ l, I64 n) (nm : UInt8) : TaskIn w (bT g nm l) :=
  ⟨fun _ => ⟨g, 0, rfl, fun j hj => by rw [Nat.zero_add]; exact h j hj⟩, (fun e => by cases e), by show l.length ≤ _; omega, by simp [bT, ByteArray.size], by simp [I64, bT], by simp [I64, bT], by simp [I64, bT], by simp [I64, bT], by simp [I64, bT], by simp [U64, bT], by simp [U64, bT], hi⟩
theorem bS_in {w : World} {g : Nat} {ty : TypeId} {fr : Nat × Nat} (h : w.cell? ⟨g, 0, none⟩ = some (.int .i64 1)) (h0 : w.cell? ⟨g + 1, 0, none⟩ = some (.int .i64 2)) (h1 : w.cell? ⟨g + 1, 1, none⟩ = some (.int .i64 5)) (h2 : w.cell? ⟨g + 1, 2, none⟩ = some (.int .i64 1)) (hb : w.heap[g + 1 + 1]? = some (.cells ((bS g).ts.flatMap TaskV.cells).toArray ty fr)) : SetIn w (bS g) := by
  refine ⟨by simp [I64, bS], (fun e => by cases e), by simp [bS], by simp [bS], fun _ => ⟨g + 1 + 1, 0, rfl, fun j hj i hi => ?_⟩, fun t ht => ?_⟩
  · rw [Nat.zero_add, cell_block hb, List.getElem?_toArray]
    exact task_flat _ j hj i hi
  · simp only [bS, List.mem_cons, List.not_mem_nil, or_false] at ht
    rcases ht with rfl | rfl
    · refine bT_in (by decide) (fun j hj => ?_) (fun n hn => ?_) 97
      · have : j = 0 := by simp at hj; omega
        subst this; exact h
      · have : n = 1 := by simpa using hn
        subst this; simp [I64]
    · refine bT_in (by decide) (fun j hj => ?_) (fun n hn => ?_) 98
      · match j, hj with
        | 0, _ => exact h0
        | 1, _ => exact h1
        | 2, _ => exact h2
      · simp only [List.mem_cons, List.not_mem_nil, or_false] at hn
        rcases hn with rfl | rfl | rfl <;> simp [I64]
set_option maxHeartbeats 1600000 in
theorem bknown_any (hO : CBOf) (hM : CBMost) (w : World) : Calls Try.prog 10 #[] w fun e w' => e = .returned (.bool true) ∧ Below w.heap.size w w' := by
  obtain ⟨k0, k1, k2⟩ := bS_is w.heap.size
  have C0 := hide (fun W h => hO (bS w.heap.size) 1 0 W h (bS_all _) (by simp [I64]) (by simp [I64]))
  have C1 := hide (fun W h => hM (bS w.heap.size) 0 W h (bS_all _) (by simp [I64]))
  have C2 := hide (fun W h => hM (bS w.heap.size) 1 W h (bS_all _) (by simp [I64]))
  rw [k0] at C0
  rw [k1] at C1
  rw [k2] at C2
  clear hO hM k0 k1 k2
  have HW : Hid (∀ W0 W1 W2 W3 : World, W0 = w.alloc (.cells #[.int .i64 1] 2) → W1 = W0.alloc (.cells #[.int .i64 2, .int .i64 5, .int .i64 1] 2) → W2 = W1.alloc (.cells ((bS w.heap.size).ts.flatMap TaskV.cells).toArray 34) → W3 = W2.alloc (.cells #[.int .i64 0, .slice (some ⟨w.heap.size + 1 + 1, 0, none⟩) 2 2] 24) → Below w.heap.size w W3 ∧ SetIn W3 (bS w.heap.size) ∧ SBox W3 (w.heap.size + 1 + 1 + 1) (bS w.heap.size)) := by
    intro W0 W1 W2 W3 e0 e1 e2 e3
    have z0 : W0.heap.size = w.heap.size + 1 := by rw [e0]; simp
    have z1 : W1.heap.size = w.heap.size + 1 + 1 := by rw [e1]; simp [z0]
    have z2 : W2.heap.size = w.heap.size + 1 + 1 + 1 := by rw [e2]; simp [z1]
    have b0 : Below w.heap.size w W0 := by rw [e0]; exact (Below.refl _ _).alloc (Nat.le_refl _) _
    have b1 : Below W0.heap.size W0 W1 := by rw [e1]; exact (Below.refl _ _).alloc (Nat.le_refl _) _
    have b2 : Below W1.heap.size W1 W2 := by rw [e2]; exact (Below.refl _ _).alloc (Nat.le_refl _) _
    have b3 : Below W2.heap.size W2 W3 := by rw [e3]; exact (Below.refl _ _).alloc (Nat.le_refl _) _
    refine ⟨below_on (below_on (below_on b0 b1) b2) b3, set_bel ?_ b3, ?_⟩
    · have c0 : W0.cell? ⟨w.heap.size, 0, none⟩ = some (.int .i64 1) := by rw [e0]; simp
      have d0 : W1.cell? ⟨w.heap.size + 1, 0, none⟩ = some (.int .i64 2) := by rw [e1, ← z0]; simp
      have d1 : W1.cell? ⟨w.heap.size + 1, 1, none⟩ = some (.int .i64 5) := by rw [e1, ← z0]; simp
      have d2 : W1.cell? ⟨w.heap.size + 1, 2, none⟩ = some (.int .i64 1) := by rw [e1, ← z0]; simp
      refine bS_in (ty := 34) (fr := (0, 0)) (cell_bel' (cell_bel' c0 b1) b2) (cell_bel' d0 b2) (cell_bel' d1 b2) (cell_bel' d2 b2) ?_
      have := heap_alloc_new W1 (.cells ((bS w.heap.size).ts.flatMap TaskV.cells).toArray 34)
      rw [← e2, z1] at this
      exact this
    · have := sbox_new W2 (bS w.heap.size) 24
      rw [z2] at this
      rw [e3]
      exact this
  obtain ⟨b0, hin, hbx⟩ := unhide HW _ _ _ _ rfl rfl rfl rfl
  have B0 := hide b0
  have HIN := hide hin
  have HB := hide hbx
  clear b0 hin hbx HW
  go_enter Try.func10, Try.ntmps10
  go_wp2_with fail
  refine (unhide C0 _ (unhide HIN)).mono ?_
  rintro e w1 ⟨rfl, bel⟩
  have B1 := hide (below_on (unhide B0) bel)
  have H1 := hide (set_bel (unhide HIN) bel)
  have S1 := hide ((unhide HB).bel bel)
  obtain ⟨c0, c1⟩ := unhide S1
  simp only [bS, List.length_cons, List.length_nil] at c0 c1
  clear bel HIN HB B0
  go_wp2_with fail
  refine (unhide C1 _ (unhide H1)).mono ?_
  rintro e w2 ⟨rfl, bel⟩
  have B2 := hide (below_on (unhide B1) bel)
  have H2 := hide (set_bel (unhide H1) bel)
  obtain ⟨d0, d1⟩ := (unhide S1).bel bel
  simp only [bS, List.length_cons, List.length_nil] at d0 d1
  clear bel c0 c1
  go_wp2_with fail
  refine (unhide C2 _ (unhide H2)).mono ?_
  rintro e w3 ⟨rfl, bel⟩
  have B3 := hide (below_on (unhide B2) bel)
  clear bel
  go_wp2
  go_ret
  exact ⟨rfl, unhide B3⟩
set_option maxHeartbeats 3200000 in
theorem bwhole_law (hO : CBOf) (hM : CBMost) (s : SetV) (low high : Int) (w : World) (hs : SetIn w s) (hl : I64 low) (hh : I64 high) : Calls Try.prog 3 #[s.val, .int .i64 low, .int .i64 high] w fun e w' => e = .returned (.bool true) ∧ Below w.heap.size w w' := by
  have hlen := hs.len
  have CK := hide (fun w => bknown_any hO hM w)
  by_cases h10 : (10 : Int) < s.ts.length
  · go_enter Try.func3, Try.ntmps3
    rw [SetV.val]
    go_wp2
    go_ret
    exact ⟨rfl, (Below.refl _ _).alloc (Nat.le_refl _) _⟩
  have CA := hide (fun w h => rall_any s w h)
  cases hb : allB s
  · rw [hb] at CA
    clear hb
    go_enter Try.func3, Try.ntmps3
    rw [SetV.val]
    go_wp2_with fail
    refine (unhide CA _ (set_bel hs ((Below.refl _ _).alloc (Nat.le_refl _) _))).mono ?_
    rintro e w1 ⟨rfl, bel⟩
    have B1 := hide (bel_box (Below.refl _ _) bel)
    obtain ⟨c0, c1⟩ := (sbox_new w s 24).bel bel
    clear bel
    go_wp2
    go_ret
    exact ⟨rfl, unhide B1⟩
  rw [hb] at CA
  by_cases q0 : high < 0
  · clear hb
    go_enter Try.func3, Try.ntmps3
    rw [SetV.val]
    go_wp2_with fail
    refine (unhide CA _ (set_bel hs ((Below.refl _ _).alloc (Nat.le_refl _) _))).mono ?_
    rintro e w1 ⟨rfl, bel⟩
    have B1 := hide (bel_box (Below.refl _ _) bel)
    obtain ⟨c0, c1⟩ := (sbox_new w s 24).bel bel
    clear bel
    go_wp2
    go_ret
    exact ⟨rfl, unhide B1⟩
  by_cases q1 : low ≤ high
  · clear hb
    go_enter Try.func3, Try.ntmps3
    rw [SetV.val]
    go_wp2_with fail
    refine (unhide CA _ (set_bel hs ((Below.refl _ _).alloc (Nat.le_refl _) _))).mono ?_
    rintro e w1 ⟨rfl, bel⟩
    have B1 := hide (bel_box (Below.refl _ _) bel)
    obtain ⟨c0, c1⟩ := (sbox_new w s 24).bel bel
    clear bel
    go_wp2
    go_ret
    exact ⟨rfl, unhide B1⟩
  by_cases q2 : (s.ts.length : Int) ≤ low
  · clear hb
    go_enter Try.func3, Try.ntmps3
    rw [SetV.val]
    go_wp2_with fail
    refine (unhide CA _ (set_bel hs ((Below.refl _ _).alloc (Nat.le_refl _) _))).mono ?_
    rintro e w1 ⟨rfl, bel⟩
    have B1 := hide (bel_box (Below.refl _ _) bel)
    obtain ⟨c0, c1⟩ := (sbox_new w s 24).bel bel
    clear bel
    go_wp2
    go_ret
    exact ⟨rfl, unhide B1⟩
  have hu : ∀ t ∈ s.ts, U64 t.ecb ∧ U64 t.ucb := fun t ht => ⟨(hs.each t ht).ecb, (hs.each t ht).ucb⟩
  obtain ⟨⟨hn0, hn1⟩, hn2, hw0, hw1⟩ := of_range hb hu (low := low) (high := high) ⟨by omega, by omega, by omega⟩
  obtain ⟨k, rfl⟩ : ∃ k : Nat, low = k := ⟨low.toNat, by omega⟩
  have CO := hide (fun w h => hO s k high w h hb hl hh)
  have CM := hide (fun w h => hM s high w h hb hh)
  have CW := hide (fun w h => rwhole_any s k w h hb (by omega))
  have HIN := hide hs
  clear hb hu hO hM hs
  generalize ofZ s k high = n at *
  generalize wholeZ s k = wh at *
  generalize mostZ s high = mo at *
  go_enter Try.func3, Try.ntmps3
  rw [SetV.val]
  go_wp2_with fail
  refine (unhide CA _ (set_bel (unhide HIN) ((Below.refl _ _).alloc (Nat.le_refl _) _))).mono ?_
  rintro e w1 ⟨rfl, bel⟩
  have B1 := hide (bel_box (Below.refl _ _) bel)
  have X1 := hide ((sbox_new w s 24).bel bel)
  obtain ⟨c0, c1⟩ := unhide X1
  clear bel
  go_wp2_with fail
  refine (unhide CO _ (set_bel (unhide HIN) (unhide B1))).mono ?_
  rintro e w2 ⟨rfl, bel⟩
  have B2 := hide (below_on (unhide B1) bel)
  have X2 := hide ((unhide X1).bel bel)
  clear bel c0 c1
  obtain ⟨c0, c1⟩ := unhide X2
  go_wp2_with fail
  refine (unhide CW _ (set_bel (unhide HIN) (unhide B2))).mono ?_
  rintro e w3 ⟨rfl, bel⟩
  have B3 := hide (below_on (unhide B2) bel)
  have X3 := hide ((unhide X2).bel bel)
  clear bel c0 c1
  obtain ⟨c0, c1⟩ := unhide X3
  go_wp2_with fail
  refine (unhide CM _ (set_bel (unhide HIN) (unhide B3))).mono ?_
  rintro e w4 ⟨rfl, bel⟩
  have B4 := hide (below_on (unhide B3) bel)
  clear bel c0 c1
  go_wp2_with fail
  refine (unhide CK _).mono ?_
  rintro e w5 ⟨rfl, bel⟩
  have B5 := hide (below_on (unhide B4) bel)
  clear bel
  go_wp2
  go_ret
  exact ⟨rfl, unhide B5⟩
end Go.Proofs.Ythlkfjcgckpheaa.Lex
