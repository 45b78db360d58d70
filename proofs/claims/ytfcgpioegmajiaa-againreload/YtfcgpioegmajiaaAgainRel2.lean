/- The law of chapter 8 of how long one set takes: the walk. -/
import Derived.Test.YtfcgpioegmajiaaAgainRel
namespace Go.Proofs.Ytfcgpioegmajiaa.Lex
open Go.ChangeShapes Go.WideShapes Go.RowKit

theorem times_range {n x : Int} (hn : 0 ≤ n ∧ n ≤ 100) (hx : 0 ≤ x ∧ x ≤ 640000) : 0 ≤ n * x ∧ n * x ≤ 64000000 := by
  have h1 := Int.mul_nonneg hn.1 hx.1
  have h2 := Int.mul_le_mul hn.2 hx.2 hx.1 (by decide)
  omega
theorem areload_no (s : SetV) (n i : Int) (w : World) (hs : SetIn w s) (h : (10 : Int) < s.ts.length ∨ allB s = false ∨ n < 0 ∨ 100 < n) : Calls Try.prog 6 #[s.val, .int .i64 n, .int .i64 i] w fun e w' => e = .returned (.bool true) ∧ Below w.heap.size w w' := by
  have hlen := hs.len
  by_cases h10 : (10 : Int) < s.ts.length
  · clear h
    go_enter Try.func6, Try.ntmps6
    rw [SetV.val]
    go_wp2
    go_ret
    exact ⟨rfl, (Below.refl _ _).alloc (Nat.le_refl _) _⟩
  have CA := hide (fun w h => rall_any s w h)
  cases hb : allB s
  · rw [hb] at CA
    clear hb h
    go_enter Try.func6, Try.ntmps6
    rw [SetV.val]
    go_wp2_with fail
    refine (unhide CA _ (set_bel hs ((Below.refl _ _).alloc (Nat.le_refl _) _))).mono ?_
    rintro e w1 ⟨rfl, bel⟩
    have B1 := hide (bel_box (Below.refl _ _) bel)
    clear bel
    go_wp2
    go_ret
    exact ⟨rfl, unhide B1⟩
  rw [hb] at CA
  by_cases h0 : n < 0
  · clear hb h
    go_enter Try.func6, Try.ntmps6
    rw [SetV.val]
    go_wp2_with fail
    refine (unhide CA _ (set_bel hs ((Below.refl _ _).alloc (Nat.le_refl _) _))).mono ?_
    rintro e w1 ⟨rfl, bel⟩
    have B1 := hide (bel_box (Below.refl _ _) bel)
    clear bel
    go_wp2
    go_ret
    exact ⟨rfl, unhide B1⟩
  have h1 : 100 < n := by
    rcases h with h | h | h | h
    · exact absurd h h10
    · rw [hb] at h; cases h
    · exact absurd h h0
    · exact h
  clear hb h
  go_enter Try.func6, Try.ntmps6
  rw [SetV.val]
  go_wp2_with fail
  refine (unhide CA _ (set_bel hs ((Below.refl _ _).alloc (Nat.le_refl _) _))).mono ?_
  rintro e w1 ⟨rfl, bel⟩
  have B1 := hide (bel_box (Below.refl _ _) bel)
  clear bel
  go_wp2
  go_ret
  exact ⟨rfl, unhide B1⟩
set_option maxHeartbeats 12800000 in
theorem areload_yes (hO : COwn) (hM : CMade) (s : SetV) (n i : Int) (w : World) (hs : SetIn w s) (hi : I64 i) (hn : 0 ≤ n ∧ n ≤ 100) (h10 : s.ts.length ≤ 10) (hall : allB s = true) : Calls Try.prog 6 #[s.val, .int .i64 n, .int .i64 i] w fun e w' => e = .returned (.bool true) ∧ Below w.heap.size w w' := by
  have CK := hide (fun w => gknown_any hO hM w)
  have CA := hide (fun w h => rall_any s w h)
  rw [hall] at CA
  have CP := hide (fun w h => rput_any s w h (by omega))
  have HO := hide hO
  have HM := hide hM
  have HALL := hide hall
  have HIN := hide hs
  have HI := hide hi
  clear hO hM hall hs hi
  have h10' : ¬ (10 : Int) < s.ts.length := by omega
  have hn0 : ¬ n < 0 := by omega
  have hn1 : ¬ 100 < n := by omega
  go_enter Try.func6, Try.ntmps6
  rw [SetV.val]
  go_wp2_with fail
  refine (unhide CA _ (set_bel (unhide HIN) ((Below.refl _ _).alloc (Nat.le_refl _) _))).mono ?_
  rintro e w1 ⟨rfl, bel⟩
  have BC := hide (bel_box (Below.refl _ _) bel).drew
  have hbox := ((sbox_new w s 24).bel bel).drew
  obtain ⟨c0, c1⟩ := (sbox_new w s 24).bel bel
  clear bel CA
  go_wp2_with fail
  refine Code.wp_mono (Q := fun e a' w' => e = .normal ∧ ∃ (xb yb : Nat) (X Y : SetV), w'.heap[xb]? = some (.cells #[.int .i64 X.reload, .slice X.ao X.ts.length X.cap] 24 (0, 0)) ∧ w'.heap[yb]? = some (.cells #[.int .i64 Y.reload, .slice Y.ao Y.ts.length Y.cap] 24 (0, 0)) ∧ xb ≠ yb ∧ w.heap.size < xb ∧ w.heap.size < yb ∧ PIn w' w.heap.size s X ∧ PIn w' w.heap.size s Y ∧ Below w.heap.size w w' ∧ ∃ f : Nat → Value, a' = { tmps := #[f 0, .int .i64 n, .int .i64 i, .pointer (some ⟨w.heap.size, 0, none⟩), f 4, f 5, f 6, .pointer (some ⟨xb, 0, none⟩), .pointer (some ⟨yb, 0, none⟩), f 9, f 10, f 11, f 12, f 13, f 14, f 15, f 16, f 17, f 18, f 19, f 20, f 21, f 22, f 23, f 24, f 25, f 26, f 27, f 28, f 29, f 30, f 31, f 32, f 33, f 34, f 35, f 36, f 37, f 38, f 39, f 40, f 41, f 42, f 43, f 44, f 45, f 46, f 47, f 48, f 49, f 50, f 51, f 52, f 53, f 54, f 55], defers := [] }) ?_ ?_
  rotate_left
  · refine wp_region_held_drew (S := fun w9 => SBox w9 w.heap.size s) (by kernel_rfl) hbox (fun hHeld => ?_)
    clear hbox c0 c1
    generalize w1.drew = W0 at *
    refine take_yes 0 26 (.agg #[.int .i64 s.reload, .slice s.ao s.ts.length s.cap]) rfl rfl (by kernel_rfl) (by kernel_rfl) (by kernel_rfl) (fun _ _ _ h => nomatch h.1) rfl (by assumption) (by intro w9 hS9; obtain ⟨s0, s1⟩ := hS9; go_simp) ?_
    simp only [List.setIfInBounds_toArray, List.set_cons_zero, List.set_cons_succ]
    refine take_yes 2 28 (.agg #[.int .i64 s.reload, .slice s.ao s.ts.length s.cap]) rfl rfl (by kernel_rfl) (by kernel_rfl) (by kernel_rfl) (fun _ _ _ h => nomatch h.1) rfl (by assumption) (by intro w9 hS9; obtain ⟨s0, s1⟩ := hS9; go_simp) ?_
    simp only [List.setIfInBounds_toArray, List.set_cons_zero, List.set_cons_succ]
    refine wpAnyH_ready (rs := [1, 4, 5]) (by kernel_rfl) (by decide) (AllReadyH.cons rfl (fun K hK => ?_) (AllReadyH.cons rfl (fun K hK => ?_) (AllReadyH.cons rfl (fun K hK => ?_) AllReadyH.nil)))
    · refine (if_pos rfl).mpr ?_
      go_wp2_with fail
      refine (unhide CP _ (set_bel (unhide HIN) (unhide BC))).mono ?_
      rintro e W1 ⟨S9, rfl, hput⟩
      have bel := hput.below
      have BC' := hide (below_on (unhide BC) bel)
      have PX := hide (PIn.of hput (unhide BC).size)
      obtain ⟨xr, xa, xc, xts⟩ := S9
      rw [SetV.val]
      simp only
      refine hK.out _ _ (hHeld.bel bel) (fun hHeld => ?_)
      clear hK K bel hput
      clear BC
      have BC := BC'
      clear BC'
      try simp only [List.setIfInBounds_toArray, List.set_cons_zero, List.set_cons_succ]
      refine wpAnyH_ready (rs := [3, 4, 5]) (by kernel_rfl) (by decide) (AllReadyH.cons rfl (fun K hK => ?_) (AllReadyH.cons rfl (fun K hK => ?_) (AllReadyH.cons rfl (fun K hK => ?_) AllReadyH.nil)))
      · refine (if_pos rfl).mpr ?_
        go_wp2_with fail
        refine (unhide CP _ (set_bel (unhide HIN) (unhide BC))).mono ?_
        rintro e W2 ⟨S9, rfl, hput⟩
        have bel := hput.below
        have BC' := hide (below_on (unhide BC) bel)
        have PY := hide (PIn.of hput (unhide BC).size)
        have PX' := hide ((unhide PX).bel bel)
        obtain ⟨yr, ya, yc, yts⟩ := S9
        rw [SetV.val]
        simp only
        refine hK.out _ _ (hHeld.bel bel) (fun hHeld => ?_)
        clear hK K bel hput
        clear PX
        have PX := PX'
        clear PX'
        clear BC
        have BC := BC'
        clear BC'
        try simp only [List.setIfInBounds_toArray, List.set_cons_zero, List.set_cons_succ]
        refine wpAnyH_ready (rs := [4, 5]) (by kernel_rfl) (by decide) (AllReadyH.cons rfl (fun K hK => ?_) (AllReadyH.cons rfl (fun K hK => ?_) AllReadyH.nil))
        · have BC' := hide ((unhide BC).alloc (unhide BC).size (.cells #[.int .i64 0, .slice none 0 0] 24))
          have AX := hide (heap_alloc_new W2 (.cells #[.int .i64 0, .slice none 0 0] 24))
          have GX : Hid (w.heap.size < W2.heap.size) := hide (World.block_lt_of_cell? W2 _ hHeld.c0)
          have PX' := hide ((unhide PX).bel (al_bel W2 (.cells #[.int .i64 0, .slice none 0 0] 24)))
          have PY' := hide ((unhide PY).bel (al_bel W2 (.cells #[.int .i64 0, .slice none 0 0] 24)))
          go_simp
          refine hK.out _ _ (hHeld.bel (al_bel W2 (.cells #[.int .i64 0, .slice none 0 0] 24))) (fun hHeld => ?_)
          clear hK K
          clear PX
          have PX := PX'
          clear PX'
          clear PY
          have PY := PY'
          clear PY'
          clear BC
          have BC := BC'
          clear BC'
          try simp only [List.setIfInBounds_toArray, List.set_cons_zero, List.set_cons_succ]
          generalize hw : W2.alloc (.cells #[.int .i64 0, .slice none 0 0] 24) = W3 at *
          clear hw
          generalize W2.heap.size = xb at *
          refine wpAnyH_ready (rs := [5]) (by kernel_rfl) (by decide) (AllReadyH.cons rfl (fun K hK => ?_) AllReadyH.nil)
          have BC' := hide ((unhide BC).alloc (unhide BC).size (.cells #[.int .i64 0, .slice none 0 0] 24))
          have AY := hide (heap_alloc_new W3 (.cells #[.int .i64 0, .slice none 0 0] 24))
          have GY : Hid (w.heap.size < W3.heap.size) := hide (World.block_lt_of_cell? W3 _ hHeld.c0)
          have HNE : Hid (xb ≠ W3.heap.size) := hide (by have := blk_lt (unhide AX); omega)
          have AX' := hide (blk_bel (unhide AX) (al_bel W3 (.cells #[.int .i64 0, .slice none 0 0] 24)))
          have PX' := hide ((unhide PX).bel (al_bel W3 (.cells #[.int .i64 0, .slice none 0 0] 24)))
          have PY' := hide ((unhide PY).bel (al_bel W3 (.cells #[.int .i64 0, .slice none 0 0] 24)))
          go_simp
          refine hK.out _ _ (hHeld.bel (al_bel W3 (.cells #[.int .i64 0, .slice none 0 0] 24))) (fun hHeld => ?_)
          clear hK K
          clear AX
          have AX := AX'
          clear AX'
          clear PX
          have PX := PX'
          clear PX'
          clear PY
          have PY := PY'
          clear PY'
          clear BC
          have BC := BC'
          clear BC'
          try simp only [List.setIfInBounds_toArray, List.set_cons_zero, List.set_cons_succ]
          generalize hw : W3.alloc (.cells #[.int .i64 0, .slice none 0 0] 24) = W4 at *
          clear hw
          generalize W3.heap.size = yb at *
          refine wpAnyH_ready (rs := [6]) (by kernel_rfl) (by decide) (AllReadyH.cons rfl (fun K hK => ?_) AllReadyH.nil)
          have z0 : W4.cell? ⟨xb, 0, none⟩ = some (.int .i64 0) := cell_block (unhide AX)
          have z1 : W4.cell? ⟨xb, 1, none⟩ = some (.slice none 0 0) := cell_block (unhide AX)
          have zf := fun j => frozen_block (j := j) (unhide AX)
          have BC' := hide (((unhide BC).setCell (p := ⟨xb, 0, none⟩) (Nat.le_of_lt (unhide GX)) (.int .i64 xr)).setCell (p := ⟨xb, 1, none⟩) (Nat.le_of_lt (unhide GX)) (.slice xa xts.length xc))
          have AX' := hide (two_set (.int .i64 xr) (.slice xa xts.length xc) (unhide AX))
          have AY' := hide (far_set (j := 1) (.slice xa xts.length xc) (far_set (j := 0) (.int .i64 xr) (unhide AY) (unhide HNE)) (unhide HNE))
          have PX' := hide (((unhide PX).set (unhide AX) 0 (.int .i64 xr)).set (block_set (j := 0) (u := .int .i64 xr) (unhide AX)) 1 (.slice xa xts.length xc))
          have PY' := hide (((unhide PY).set (unhide AX) 0 (.int .i64 xr)).set (block_set (j := 0) (u := .int .i64 xr) (unhide AX)) 1 (.slice xa xts.length xc))
          have hS := (hHeld.far (x := xb) (j := 0) (Nat.ne_of_lt (unhide GX)) (.int .i64 xr)).far (x := xb) (j := 1) (Nat.ne_of_lt (unhide GX)) (.slice xa xts.length xc)
          go_simp
          refine hK.out _ _ hS (fun hHeld => ?_)
          clear hK K z0 z1 zf hS
          clear AX
          have AX := AX'
          clear AX'
          clear AY
          have AY := AY'
          clear AY'
          clear PX
          have PX := PX'
          clear PX'
          clear PY
          have PY := PY'
          clear PY'
          clear BC
          have BC := BC'
          clear BC'
          try simp only [List.setIfInBounds_toArray, List.set_cons_zero, List.set_cons_succ]
          generalize hw : (W4.setCell ⟨xb, 0, none⟩ (.int .i64 xr)).setCell ⟨xb, 1, none⟩ (.slice xa xts.length xc) = W5 at *
          clear hw
          refine wpAnyH_ready (rs := [7]) (by kernel_rfl) (by decide) (AllReadyH.cons rfl (fun K hK => ?_) AllReadyH.nil)
          have z0 : W5.cell? ⟨yb, 0, none⟩ = some (.int .i64 0) := cell_block (unhide AY)
          have z1 : W5.cell? ⟨yb, 1, none⟩ = some (.slice none 0 0) := cell_block (unhide AY)
          have zf := fun j => frozen_block (j := j) (unhide AY)
          have BC' := hide (((unhide BC).setCell (p := ⟨yb, 0, none⟩) (Nat.le_of_lt (unhide GY)) (.int .i64 yr)).setCell (p := ⟨yb, 1, none⟩) (Nat.le_of_lt (unhide GY)) (.slice ya yts.length yc))
          have AY' := hide (two_set (.int .i64 yr) (.slice ya yts.length yc) (unhide AY))
          have AX' := hide (far_set (j := 1) (.slice ya yts.length yc) (far_set (j := 0) (.int .i64 yr) (unhide AX) (unhide HNE).symm) (unhide HNE).symm)
          have PX' := hide (((unhide PX).set (unhide AY) 0 (.int .i64 yr)).set (block_set (j := 0) (u := .int .i64 yr) (unhide AY)) 1 (.slice ya yts.length yc))
          have PY' := hide (((unhide PY).set (unhide AY) 0 (.int .i64 yr)).set (block_set (j := 0) (u := .int .i64 yr) (unhide AY)) 1 (.slice ya yts.length yc))
          have hS := (hHeld.far (x := yb) (j := 0) (Nat.ne_of_lt (unhide GY)) (.int .i64 yr)).far (x := yb) (j := 1) (Nat.ne_of_lt (unhide GY)) (.slice ya yts.length yc)
          go_simp
          refine hK.out _ _ hS (fun hHeld => ?_)
          clear hK K z0 z1 zf hS
          clear AX
          have AX := AX'
          clear AX'
          clear AY
          have AY := AY'
          clear AY'
          clear PX
          have PX := PX'
          clear PX'
          clear PY
          have PY := PY'
          clear PY'
          clear BC
          have BC := BC'
          clear BC'
          try simp only [List.setIfInBounds_toArray, List.set_cons_zero, List.set_cons_succ]
          generalize hw : (W5.setCell ⟨yb, 0, none⟩ (.int .i64 yr)).setCell ⟨yb, 1, none⟩ (.slice ya yts.length yc) = W6 at *
          clear hw
          refine wpAnyH_done (by kernel_rfl) ?_ _
          exact ⟨rfl, xb, yb, ⟨xr, xa, xc, xts⟩, ⟨yr, ya, yc, yts⟩, unhide AX, unhide AY, unhide HNE, unhide GX, unhide GY, unhide PX, unhide PY, unhide BC, frame_at rfl⟩
        · have BC' := hide ((unhide BC).alloc (unhide BC).size (.cells #[.int .i64 0, .slice none 0 0] 24))
          have AY := hide (heap_alloc_new W2 (.cells #[.int .i64 0, .slice none 0 0] 24))
          have GY : Hid (w.heap.size < W2.heap.size) := hide (World.block_lt_of_cell? W2 _ hHeld.c0)
          have PX' := hide ((unhide PX).bel (al_bel W2 (.cells #[.int .i64 0, .slice none 0 0] 24)))
          have PY' := hide ((unhide PY).bel (al_bel W2 (.cells #[.int .i64 0, .slice none 0 0] 24)))
          go_simp
          refine hK.out _ _ (hHeld.bel (al_bel W2 (.cells #[.int .i64 0, .slice none 0 0] 24))) (fun hHeld => ?_)
          clear hK K
          clear PX
          have PX := PX'
          clear PX'
          clear PY
          have PY := PY'
          clear PY'
          clear BC
          have BC := BC'
          clear BC'
          try simp only [List.setIfInBounds_toArray, List.set_cons_zero, List.set_cons_succ]
          generalize hw : W2.alloc (.cells #[.int .i64 0, .slice none 0 0] 24) = W7 at *
          clear hw
          generalize W2.heap.size = yb at *
          refine wpAnyH_ready (rs := [4]) (by kernel_rfl) (by decide) (AllReadyH.cons rfl (fun K hK => ?_) AllReadyH.nil)
          have BC' := hide ((unhide BC).alloc (unhide BC).size (.cells #[.int .i64 0, .slice none 0 0] 24))
          have AX := hide (heap_alloc_new W7 (.cells #[.int .i64 0, .slice none 0 0] 24))
          have GX : Hid (w.heap.size < W7.heap.size) := hide (World.block_lt_of_cell? W7 _ hHeld.c0)
          have HNE : Hid (W7.heap.size ≠ yb) := hide (by have := blk_lt (unhide AY); omega)
          have AY' := hide (blk_bel (unhide AY) (al_bel W7 (.cells #[.int .i64 0, .slice none 0 0] 24)))
          have PX' := hide ((unhide PX).bel (al_bel W7 (.cells #[.int .i64 0, .slice none 0 0] 24)))
          have PY' := hide ((unhide PY).bel (al_bel W7 (.cells #[.int .i64 0, .slice none 0 0] 24)))
          go_simp
          refine hK.out _ _ (hHeld.bel (al_bel W7 (.cells #[.int .i64 0, .slice none 0 0] 24))) (fun hHeld => ?_)
          clear hK K
          clear AY
          have AY := AY'
          clear AY'
          clear PX
          have PX := PX'
          clear PX'
          clear PY
          have PY := PY'
          clear PY'
          clear BC
          have BC := BC'
          clear BC'
          try simp only [List.setIfInBounds_toArray, List.set_cons_zero, List.set_cons_succ]
          generalize hw : W7.alloc (.cells #[.int .i64 0, .slice none 0 0] 24) = W8 at *
          clear hw
          generalize W7.heap.size = xb at *
          refine wpAnyH_ready (rs := [6]) (by kernel_rfl) (by decide) (AllReadyH.cons rfl (fun K hK => ?_) AllReadyH.nil)
          have z0 : W8.cell? ⟨xb, 0, none⟩ = some (.int .i64 0) := cell_block (unhide AX)
          have z1 : W8.cell? ⟨xb, 1, none⟩ = some (.slice none 0 0) := cell_block (unhide AX)
          have zf := fun j => frozen_block (j := j) (unhide AX)
          have BC' := hide (((unhide BC).setCell (p := ⟨xb, 0, none⟩) (Nat.le_of_lt (unhide GX)) (.int .i64 xr)).setCell (p := ⟨xb, 1, none⟩) (Nat.le_of_lt (unhide GX)) (.slice xa xts.length xc))
          have AX' := hide (two_set (.int .i64 xr) (.slice xa xts.length xc) (unhide AX))
          have AY' := hide (far_set (j := 1) (.slice xa xts.length xc) (far_set (j := 0) (.int .i64 xr) (unhide AY) (unhide HNE)) (unhide HNE))
          have PX' := hide (((unhide PX).set (unhide AX) 0 (.int .i64 xr)).set (block_set (j := 0) (u := .int .i64 xr) (unhide AX)) 1 (.slice xa xts.length xc))
          have PY' := hide (((unhide PY).set (unhide AX) 0 (.int .i64 xr)).set (block_set (j := 0) (u := .int .i64 xr) (unhide AX)) 1 (.slice xa xts.length xc))
          have hS := (hHeld.far (x := xb) (j := 0) (Nat.ne_of_lt (unhide GX)) (.int .i64 xr)).far (x := xb) (j := 1) (Nat.ne_of_lt (unhide GX)) (.slice xa xts.length xc)
          go_simp
          refine hK.out _ _ hS (fun hHeld => ?_)
          clear hK K z0 z1 zf hS
          clear AX
          have AX := AX'
          clear AX'
          clear AY
          have AY := AY'
          clear AY'
          clear PX
          have PX := PX'
          clear PX'
          clear PY
          have PY := PY'
          clear PY'
          clear BC
          have BC := BC'
          clear BC'
          try simp only [List.setIfInBounds_toArray, List.set_cons_zero, List.set_cons_succ]
          generalize hw : (W8.setCell ⟨xb, 0, none⟩ (.int .i64 xr)).setCell ⟨xb, 1, none⟩ (.slice xa xts.length xc) = W9 at *
          clear hw
          refine wpAnyH_ready (rs := [7]) (by kernel_rfl) (by decide) (AllReadyH.cons rfl (fun K hK => ?_) AllReadyH.nil)
          have z0 : W9.cell? ⟨yb, 0, none⟩ = some (.int .i64 0) := cell_block (unhide AY)
          have z1 : W9.cell? ⟨yb, 1, none⟩ = some (.slice none 0 0) := cell_block (unhide AY)
          have zf := fun j => frozen_block (j := j) (unhide AY)
          have BC' := hide (((unhide BC).setCell (p := ⟨yb, 0, none⟩) (Nat.le_of_lt (unhide GY)) (.int .i64 yr)).setCell (p := ⟨yb, 1, none⟩) (Nat.le_of_lt (unhide GY)) (.slice ya yts.length yc))
          have AY' := hide (two_set (.int .i64 yr) (.slice ya yts.length yc) (unhide AY))
          have AX' := hide (far_set (j := 1) (.slice ya yts.length yc) (far_set (j := 0) (.int .i64 yr) (unhide AX) (unhide HNE).symm) (unhide HNE).symm)
          have PX' := hide (((unhide PX).set (unhide AY) 0 (.int .i64 yr)).set (block_set (j := 0) (u := .int .i64 yr) (unhide AY)) 1 (.slice ya yts.length yc))
          have PY' := hide (((unhide PY).set (unhide AY) 0 (.int .i64 yr)).set (block_set (j := 0) (u := .int .i64 yr) (unhide AY)) 1 (.slice ya yts.length yc))
          have hS := (hHeld.far (x := yb) (j := 0) (Nat.ne_of_lt (unhide GY)) (.int .i64 yr)).far (x := yb) (j := 1) (Nat.ne_of_lt (unhide GY)) (.slice ya yts.length yc)
          go_simp
          refine hK.out _ _ hS (fun hHeld => ?_)
          clear hK K z0 z1 zf hS
          clear AX
          have AX := AX'
          clear AX'
          clear AY
          have AY := AY'
          clear AY'
          clear PX
          have PX := PX'
          clear PX'
          clear PY
          have PY := PY'
          clear PY'
          clear BC
          have BC := BC'
          clear BC'
          try simp only [List.setIfInBounds_toArray, List.set_cons_zero, List.set_cons_succ]
          generalize hw : (W9.setCell ⟨yb, 0, none⟩ (.int .i64 yr)).setCell ⟨yb, 1, none⟩ (.slice ya yts.length yc) = W10 at *
          clear hw
          refine wpAnyH_done (by kernel_rfl) ?_ _
          exact ⟨rfl, xb, yb, ⟨xr, xa, xc, xts⟩, ⟨yr, ya, yc, yts⟩, unhide AX, unhide AY, unhide HNE, unhide GX, unhide GY, unhide PX, unhide PY, unhide BC, frame_at rfl⟩
      · have BC' := hide ((unhide BC).alloc (unhide BC).size (.cells #[.int .i64 0, .slice none 0 0] 24))
        have AX := hide (heap_alloc_new W1 (.cells #[.int .i64 0, .slice none 0 0] 24))
        have GX : Hid (w.heap.size < W1.heap.size) := hide (World.block_lt_of_cell? W1 _ hHeld.c0)
        have PX' := hide ((unhide PX).bel (al_bel W1 (.cells #[.int .i64 0, .slice none 0 0] 24)))
        go_simp
        refine hK.out _ _ (hHeld.bel (al_bel W1 (.cells #[.int .i64 0, .slice none 0 0] 24))) (fun hHeld => ?_)
        clear hK K
        clear PX
        have PX := PX'
        clear PX'
        clear BC
        have BC := BC'
        clear BC'
        try simp only [List.setIfInBounds_toArray, List.set_cons_zero, List.set_cons_succ]
        generalize hw : W1.alloc (.cells #[.int .i64 0, .slice none 0 0] 24) = W11 at *
        clear hw
        generalize W1.heap.size = xb at *
        refine wpAnyH_ready (rs := [3, 5]) (by kernel_rfl) (by decide) (AllReadyH.cons rfl (fun K hK => ?_) (AllReadyH.cons rfl (fun K hK => ?_) AllReadyH.nil))
        · refine (if_pos rfl).mpr ?_
          go_wp2_with fail
          refine (unhide CP _ (set_bel (unhide HIN) (unhide BC))).mono ?_
          rintro e W12 ⟨S9, rfl, hput⟩
          have bel := hput.below
          have BC' := hide (below_on (unhide BC) bel)
          have PY := hide (PIn.of hput (unhide BC).size)
          have AX' := hide (blk_bel (unhide AX) bel)
          have PX' := hide ((unhide PX).bel bel)
          obtain ⟨yr, ya, yc, yts⟩ := S9
          rw [SetV.val]
          simp only
          refine hK.out _ _ (hHeld.bel bel) (fun hHeld => ?_)
          clear hK K bel hput
          clear AX
          have AX := AX'
          clear AX'
          clear PX
          have PX := PX'
          clear PX'
          clear BC
          have BC := BC'
          clear BC'
          try simp only [List.setIfInBounds_toArray, List.set_cons_zero, List.set_cons_succ]
          refine wpAnyH_ready (rs := [5]) (by kernel_rfl) (by decide) (AllReadyH.cons rfl (fun K hK => ?_) AllReadyH.nil)
          have BC' := hide ((unhide BC).alloc (unhide BC).size (.cells #[.int .i64 0, .slice none 0 0] 24))
          have AY := hide (heap_alloc_new W12 (.cells #[.int .i64 0, .slice none 0 0] 24))
          have GY : Hid (w.heap.size < W12.heap.size) := hide (World.block_lt_of_cell? W12 _ hHeld.c0)
          have HNE : Hid (xb ≠ W12.heap.size) := hide (by have := blk_lt (unhide AX); omega)
          have AX' := hide (blk_bel (unhide AX) (al_bel W12 (.cells #[.int .i64 0, .slice none 0 0] 24)))
          have PX' := hide ((unhide PX).bel (al_bel W12 (.cells #[.int .i64 0, .slice none 0 0] 24)))
          have PY' := hide ((unhide PY).bel (al_bel W12 (.cells #[.int .i64 0, .slice none 0 0] 24)))
          go_simp
          refine hK.out _ _ (hHeld.bel (al_bel W12 (.cells #[.int .i64 0, .slice none 0 0] 24))) (fun hHeld => ?_)
          clear hK K
          clear AX
          have AX := AX'
          clear AX'
          clear PX
          have PX := PX'
          clear PX'
          clear PY
          have PY := PY'
          clear PY'
          clear BC
          have BC := BC'
          clear BC'
          try simp only [List.setIfInBounds_toArray, List.set_cons_zero, List.set_cons_succ]
          generalize hw : W12.alloc (.cells #[.int .i64 0, .slice none 0 0] 24) = W13 at *
          clear hw
          generalize W12.heap.size = yb at *
          refine wpAnyH_ready (rs := [6]) (by kernel_rfl) (by decide) (AllReadyH.cons rfl (fun K hK => ?_) AllReadyH.nil)
          have z0 : W13.cell? ⟨xb, 0, none⟩ = some (.int .i64 0) := cell_block (unhide AX)
          have z1 : W13.cell? ⟨xb, 1, none⟩ = some (.slice none 0 0) := cell_block (unhide AX)
          have zf := fun j => frozen_block (j := j) (unhide AX)
          have BC' := hide (((unhide BC).setCell (p := ⟨xb, 0, none⟩) (Nat.le_of_lt (unhide GX)) (.int .i64 xr)).setCell (p := ⟨xb, 1, none⟩) (Nat.le_of_lt (unhide GX)) (.slice xa xts.length xc))
          have AX' := hide (two_set (.int .i64 xr) (.slice xa xts.length xc) (unhide AX))
          have AY' := hide (far_set (j := 1) (.slice xa xts.length xc) (far_set (j := 0) (.int .i64 xr) (unhide AY) (unhide HNE)) (unhide HNE))
          have PX' := hide (((unhide PX).set (unhide AX) 0 (.int .i64 xr)).set (block_set (j := 0) (u := .int .i64 xr) (unhide AX)) 1 (.slice xa xts.length xc))
          have PY' := hide (((unhide PY).set (unhide AX) 0 (.int .i64 xr)).set (block_set (j := 0) (u := .int .i64 xr) (unhide AX)) 1 (.slice xa xts.length xc))
          have hS := (hHeld.far (x := xb) (j := 0) (Nat.ne_of_lt (unhide GX)) (.int .i64 xr)).far (x := xb) (j := 1) (Nat.ne_of_lt (unhide GX)) (.slice xa xts.length xc)
          go_simp
          refine hK.out _ _ hS (fun hHeld => ?_)
          clear hK K z0 z1 zf hS
          clear AX
          have AX := AX'
          clear AX'
          clear AY
          have AY := AY'
          clear AY'
          clear PX
          have PX := PX'
          clear PX'
          clear PY
          have PY := PY'
          clear PY'
          clear BC
          have BC := BC'
          clear BC'
          try simp only [List.setIfInBounds_toArray, List.set_cons_zero, List.set_cons_succ]
          generalize hw : (W13.setCell ⟨xb, 0, none⟩ (.int .i64 xr)).setCell ⟨xb, 1, none⟩ (.slice xa xts.length xc) = W14 at *
          clear hw
          refine wpAnyH_ready (rs := [7]) (by kernel_rfl) (by decide) (AllReadyH.cons rfl (fun K hK => ?_) AllReadyH.nil)
          have z0 : W14.cell? ⟨yb, 0, none⟩ = some (.int .i64 0) := cell_block (unhide AY)
          have z1 : W14.cell? ⟨yb, 1, none⟩ = some (.slice none 0 0) := cell_block (unhide AY)
          have zf := fun j => frozen_block (j := j) (unhide AY)
          have BC' := hide (((unhide BC).setCell (p := ⟨yb, 0, none⟩) (Nat.le_of_lt (unhide GY)) (.int .i64 yr)).setCell (p := ⟨yb, 1, none⟩) (Nat.le_of_lt (unhide GY)) (.slice ya yts.length yc))
          have AY' := hide (two_set (.int .i64 yr) (.slice ya yts.length yc) (unhide AY))
          have AX' := hide (far_set (j := 1) (.slice ya yts.length yc) (far_set (j := 0) (.int .i64 yr) (unhide AX) (unhide HNE).symm) (unhide HNE).symm)
          have PX' := hide (((unhide PX).set (unhide AY) 0 (.int .i64 yr)).set (block_set (j := 0) (u := .int .i64 yr) (unhide AY)) 1 (.slice ya yts.length yc))
          have PY' := hide (((unhide PY).set (unhide AY) 0 (.int .i64 yr)).set (block_set (j := 0) (u := .int .i64 yr) (unhide AY)) 1 (.slice ya yts.length yc))
          have hS := (hHeld.far (x := yb) (j := 0) (Nat.ne_of_lt (unhide GY)) (.int .i64 yr)).far (x := yb) (j := 1) (Nat.ne_of_lt (unhide GY)) (.slice ya yts.length yc)
          go_simp
          refine hK.out _ _ hS (fun hHeld => ?_)
          clear hK K z0 z1 zf hS
          clear AX
          have AX := AX'
          clear AX'
          clear AY
          have AY := AY'
          clear AY'
          clear PX
          have PX := PX'
          clear PX'
          clear PY
          have PY := PY'
          clear PY'
          clear BC
          have BC := BC'
          clear BC'
          try simp only [List.setIfInBounds_toArray, List.set_cons_zero, List.set_cons_succ]
          generalize hw : (W14.setCell ⟨yb, 0, none⟩ (.int .i64 yr)).setCell ⟨yb, 1, none⟩ (.slice ya yts.length yc) = W15 at *
          clear hw
          refine wpAnyH_done (by kernel_rfl) ?_ _
          exact ⟨rfl, xb, yb, ⟨xr, xa, xc, xts⟩, ⟨yr, ya, yc, yts⟩, unhide AX, unhide AY, unhide HNE, unhide GX, unhide GY, unhide PX, unhide PY, unhide BC, frame_at rfl⟩
        · have BC' := hide ((unhide BC).alloc (unhide BC).size (.cells #[.int .i64 0, .slice none 0 0] 24))
          have AY := hide (heap_alloc_new W11 (.cells #[.int .i64 0, .slice none 0 0] 24))
          have GY : Hid (w.heap.size < W11.heap.size) := hide (World.block_lt_of_cell? W11 _ hHeld.c0)
          have HNE : Hid (xb ≠ W11.heap.size) := hide (by have := blk_lt (unhide AX); omega)
          have AX' := hide (blk_bel (unhide AX) (al_bel W11 (.cells #[.int .i64 0, .slice none 0 0] 24)))
          have PX' := hide ((unhide PX).bel (al_bel W11 (.cells #[.int .i64 0, .slice none 0 0] 24)))
          go_simp
          refine hK.out _ _ (hHeld.bel (al_bel W11 (.cells #[.int .i64 0, .slice none 0 0] 24))) (fun hHeld => ?_)
          clear hK K
          clear AX
          have AX := AX'
          clear AX'
          clear PX
          have PX := PX'
          clear PX'
          clear BC
          have BC := BC'
          clear BC'
          try simp only [List.setIfInBounds_toArray, List.set_cons_zero, List.set_cons_succ]
          generalize hw : W11.alloc (.cells #[.int .i64 0, .slice none 0 0] 24) = W16 at *
          clear hw
          generalize W11.heap.size = yb at *
          refine wpAnyH_ready (rs := [3]) (by kernel_rfl) (by decide) (AllReadyH.cons rfl (fun K hK => ?_) AllReadyH.nil)
          refine (if_pos rfl).mpr ?_
          go_wp2_with fail
          refine (unhide CP _ (set_bel (unhide HIN) (unhide BC))).mono ?_
          rintro e W17 ⟨S9, rfl, hput⟩
          have bel := hput.below
          have BC' := hide (below_on (unhide BC) bel)
          have PY := hide (PIn.of hput (unhide BC).size)
          have AX' := hide (blk_bel (unhide AX) bel)
          have AY' := hide (blk_bel (unhide AY) bel)
          have PX' := hide ((unhide PX).bel bel)
          obtain ⟨yr, ya, yc, yts⟩ := S9
          rw [SetV.val]
          simp only
          refine hK.out _ _ (hHeld.bel bel) (fun hHeld => ?_)
          clear hK K bel hput
          clear AX
          have AX := AX'
          clear AX'
          clear AY
          have AY := AY'
          clear AY'
          clear PX
          have PX := PX'
          clear PX'
          clear BC
          have BC := BC'
          clear BC'
          try simp only [List.setIfInBounds_toArray, List.set_cons_zero, List.set_cons_succ]
          refine wpAnyH_ready (rs := [6]) (by kernel_rfl) (by decide) (AllReadyH.cons rfl (fun K hK => ?_) AllReadyH.nil)
          have z0 : W17.cell? ⟨xb, 0, none⟩ = some (.int .i64 0) := cell_block (unhide AX)
          have z1 : W17.cell? ⟨xb, 1, none⟩ = some (.slice none 0 0) := cell_block (unhide AX)
          have zf := fun j => frozen_block (j := j) (unhide AX)
          have BC' := hide (((unhide BC).setCell (p := ⟨xb, 0, none⟩) (Nat.le_of_lt (unhide GX)) (.int .i64 xr)).setCell (p := ⟨xb, 1, none⟩) (Nat.le_of_lt (unhide GX)) (.slice xa xts.length xc))
          have AX' := hide (two_set (.int .i64 xr) (.slice xa xts.length xc) (unhide AX))
          have AY' := hide (far_set (j := 1) (.slice xa xts.length xc) (far_set (j := 0) (.int .i64 xr) (unhide AY) (unhide HNE)) (unhide HNE))
          have PX' := hide (((unhide PX).set (unhide AX) 0 (.int .i64 xr)).set (block_set (j := 0) (u := .int .i64 xr) (unhide AX)) 1 (.slice xa xts.length xc))
          have PY' := hide (((unhide PY).set (unhide AX) 0 (.int .i64 xr)).set (block_set (j := 0) (u := .int .i64 xr) (unhide AX)) 1 (.slice xa xts.length xc))
          have hS := (hHeld.far (x := xb) (j := 0) (Nat.ne_of_lt (unhide GX)) (.int .i64 xr)).far (x := xb) (j := 1) (Nat.ne_of_lt (unhide GX)) (.slice xa xts.length xc)
          go_simp
          refine hK.out _ _ hS (fun hHeld => ?_)
          clear hK K z0 z1 zf hS
          clear AX
          have AX := AX'
          clear AX'
          clear AY
          have AY := AY'
          clear AY'
          clear PX
          have PX := PX'
          clear PX'
          clear PY
          have PY := PY'
          clear PY'
          clear BC
          have BC := BC'
          clear BC'
          try simp only [List.setIfInBounds_toArray, List.set_cons_zero, List.set_cons_succ]
          generalize hw : (W17.setCell ⟨xb, 0, none⟩ (.int .i64 xr)).setCell ⟨xb, 1, none⟩ (.slice xa xts.length xc) = W18 at *
          clear hw
          refine wpAnyH_ready (rs := [7]) (by kernel_rfl) (by decide) (AllReadyH.cons rfl (fun K hK => ?_) AllReadyH.nil)
          have z0 : W18.cell? ⟨yb, 0, none⟩ = some (.int .i64 0) := cell_block (unhide AY)
          have z1 : W18.cell? ⟨yb, 1, none⟩ = some (.slice none 0 0) := cell_block (unhide AY)
          have zf := fun j => frozen_block (j := j) (unhide AY)
          have BC' := hide (((unhide BC).setCell (p := ⟨yb, 0, none⟩) (Nat.le_of_lt (unhide GY)) (.int .i64 yr)).setCell (p := ⟨yb, 1, none⟩) (Nat.le_of_lt (unhide GY)) (.slice ya yts.length yc))
          have AY' := hide (two_set (.int .i64 yr) (.slice ya yts.length yc) (unhide AY))
          have AX' := hide (far_set (j := 1) (.slice ya yts.length yc) (far_set (j := 0) (.int .i64 yr) (unhide AX) (unhide HNE).symm) (unhide HNE).symm)
          have PX' := hide (((unhide PX).set (unhide AY) 0 (.int .i64 yr)).set (block_set (j := 0) (u := .int .i64 yr) (unhide AY)) 1 (.slice ya yts.length yc))
          have PY' := hide (((unhide PY).set (unhide AY) 0 (.int .i64 yr)).set (block_set (j := 0) (u := .int .i64 yr) (unhide AY)) 1 (.slice ya yts.length yc))
          have hS := (hHeld.far (x := yb) (j := 0) (Nat.ne_of_lt (unhide GY)) (.int .i64 yr)).far (x := yb) (j := 1) (Nat.ne_of_lt (unhide GY)) (.slice ya yts.length yc)
          go_simp
          refine hK.out _ _ hS (fun hHeld => ?_)
          clear hK K z0 z1 zf hS
          clear AX
          have AX := AX'
          clear AX'
          clear AY
          have AY := AY'
          clear AY'
          clear PX
          have PX := PX'
          clear PX'
          clear PY
          have PY := PY'
          clear PY'
          clear BC
          have BC := BC'
          clear BC'
          try simp only [List.setIfInBounds_toArray, List.set_cons_zero, List.set_cons_succ]
          generalize hw : (W18.setCell ⟨yb, 0, none⟩ (.int .i64 yr)).setCell ⟨yb, 1, none⟩ (.slice ya yts.length yc) = W19 at *
          clear hw
          refine wpAnyH_done (by kernel_rfl) ?_ _
          exact ⟨rfl, xb, yb, ⟨xr, xa, xc, xts⟩, ⟨yr, ya, yc, yts⟩, unhide AX, unhide AY, unhide HNE, unhide GX, unhide GY, unhide PX, unhide PY, unhide BC, frame_at rfl⟩
      · have BC' := hide ((unhide BC).alloc (unhide BC).size (.cells #[.int .i64 0, .slice none 0 0] 24))
        have AY := hide (heap_alloc_new W1 (.cells #[.int .i64 0, .slice none 0 0] 24))
        have GY : Hid (w.heap.size < W1.heap.size) := hide (World.block_lt_of_cell? W1 _ hHeld.c0)
        have PX' := hide ((unhide PX).bel (al_bel W1 (.cells #[.int .i64 0, .slice none 0 0] 24)))
        go_simp
        refine hK.out _ _ (hHeld.bel (al_bel W1 (.cells #[.int .i64 0, .slice none 0 0] 24))) (fun hHeld => ?_)
        clear hK K
        clear PX
        have PX := PX'
        clear PX'
        clear BC
        have BC := BC'
        clear BC'
        try simp only [List.setIfInBounds_toArray, List.set_cons_zero, List.set_cons_succ]
        generalize hw : W1.alloc (.cells #[.int .i64 0, .slice none 0 0] 24) = W20 at *
        clear hw
        generalize W1.heap.size = yb at *
        refine wpAnyH_ready (rs := [3, 4]) (by kernel_rfl) (by decide) (AllReadyH.cons rfl (fun K hK => ?_) (AllReadyH.cons rfl (fun K hK => ?_) AllReadyH.nil))
        · refine (if_pos rfl).mpr ?_
          go_wp2_with fail
          refine (unhide CP _ (set_bel (unhide HIN) (unhide BC))).mono ?_
          rintro e W21 ⟨S9, rfl, hput⟩
          have bel := hput.below
          have BC' := hide (below_on (unhide BC) bel)
          have PY := hide (PIn.of hput (unhide BC).size)
          have AY' := hide (blk_bel (unhide AY) bel)
          have PX' := hide ((unhide PX).bel bel)
          obtain ⟨yr, ya, yc, yts⟩ := S9
          rw [SetV.val]
          simp only
          refine hK.out _ _ (hHeld.bel bel) (fun hHeld => ?_)
          clear hK K bel hput
          clear AY
          have AY := AY'
          clear AY'
          clear PX
          have PX := PX'
          clear PX'
          clear BC
          have BC := BC'
          clear BC'
          try simp only [List.setIfInBounds_toArray, List.set_cons_zero, List.set_cons_succ]
          refine wpAnyH_ready (rs := [4]) (by kernel_rfl) (by decide) (AllReadyH.cons rfl (fun K hK => ?_) AllReadyH.nil)
          have BC' := hide ((unhide BC).alloc (unhide BC).size (.cells #[.int .i64 0, .slice none 0 0] 24))
          have AX := hide (heap_alloc_new W21 (.cells #[.int .i64 0, .slice none 0 0] 24))
          have GX : Hid (w.heap.size < W21.heap.size) := hide (World.block_lt_of_cell? W21 _ hHeld.c0)
          have HNE : Hid (W21.heap.size ≠ yb) := hide (by have := blk_lt (unhide AY); omega)
          have AY' := hide (blk_bel (unhide AY) (al_bel W21 (.cells #[.int .i64 0, .slice none 0 0] 24)))
          have PX' := hide ((unhide PX).bel (al_bel W21 (.cells #[.int .i64 0, .slice none 0 0] 24)))
          have PY' := hide ((unhide PY).bel (al_bel W21 (.cells #[.int .i64 0, .slice none 0 0] 24)))
          go_simp
          refine hK.out _ _ (hHeld.bel (al_bel W21 (.cells #[.int .i64 0, .slice none 0 0] 24))) (fun hHeld => ?_)
          clear hK K
          clear AY
          have AY := AY'
          clear AY'
          clear PX
          have PX := PX'
          clear PX'
          clear PY
          have PY := PY'
          clear PY'
          clear BC
          have BC := BC'
          clear BC'
          try simp only [List.setIfInBounds_toArray, List.set_cons_zero, List.set_cons_succ]
          generalize hw : W21.alloc (.cells #[.int .i64 0, .slice none 0 0] 24) = W22 at *
          clear hw
          generalize W21.heap.size = xb at *
          refine wpAnyH_ready (rs := [6]) (by kernel_rfl) (by decide) (AllReadyH.cons rfl (fun K hK => ?_) AllReadyH.nil)
          have z0 : W22.cell? ⟨xb, 0, none⟩ = some (.int .i64 0) := cell_block (unhide AX)
          have z1 : W22.cell? ⟨xb, 1, none⟩ = some (.slice none 0 0) := cell_block (unhide AX)
          have zf := fun j => frozen_block (j := j) (unhide AX)
          have BC' := hide (((unhide BC).setCell (p := ⟨xb, 0, none⟩) (Nat.le_of_lt (unhide GX)) (.int .i64 xr)).setCell (p := ⟨xb, 1, none⟩) (Nat.le_of_lt (unhide GX)) (.slice xa xts.length xc))
          have AX' := hide (two_set (.int .i64 xr) (.slice xa xts.length xc) (unhide AX))
          have AY' := hide (far_set (j := 1) (.slice xa xts.length xc) (far_set (j := 0) (.int .i64 xr) (unhide AY) (unhide HNE)) (unhide HNE))
          have PX' := hide (((unhide PX).set (unhide AX) 0 (.int .i64 xr)).set (block_set (j := 0) (u := .int .i64 xr) (unhide AX)) 1 (.slice xa xts.length xc))
          have PY' := hide (((unhide PY).set (unhide AX) 0 (.int .i64 xr)).set (block_set (j := 0) (u := .int .i64 xr) (unhide AX)) 1 (.slice xa xts.length xc))
          have hS := (hHeld.far (x := xb) (j := 0) (Nat.ne_of_lt (unhide GX)) (.int .i64 xr)).far (x := xb) (j := 1) (Nat.ne_of_lt (unhide GX)) (.slice xa xts.length xc)
          go_simp
          refine hK.out _ _ hS (fun hHeld => ?_)
          clear hK K z0 z1 zf hS
          clear AX
          have AX := AX'
          clear AX'
          clear AY
          have AY := AY'
          clear AY'
          clear PX
          have PX := PX'
          clear PX'
          clear PY
          have PY := PY'
          clear PY'
          clear BC
          have BC := BC'
          clear BC'
          try simp only [List.setIfInBounds_toArray, List.set_cons_zero, List.set_cons_succ]
          generalize hw : (W22.setCell ⟨xb, 0, none⟩ (.int .i64 xr)).setCell ⟨xb, 1, none⟩ (.slice xa xts.length xc) = W23 at *
          clear hw
          refine wpAnyH_ready (rs := [7]) (by kernel_rfl) (by decide) (AllReadyH.cons rfl (fun K hK => ?_) AllReadyH.nil)
          have z0 : W23.cell? ⟨yb, 0, none⟩ = some (.int .i64 0) := cell_block (unhide AY)
          have z1 : W23.cell? ⟨yb, 1, none⟩ = some (.slice none 0 0) := cell_block (unhide AY)
          have zf := fun j => frozen_block (j := j) (unhide AY)
          have BC' := hide (((unhide BC).setCell (p := ⟨yb, 0, none⟩) (Nat.le_of_lt (unhide GY)) (.int .i64 yr)).setCell (p := ⟨yb, 1, none⟩) (Nat.le_of_lt (unhide GY)) (.slice ya yts.length yc))
          have AY' := hide (two_set (.int .i64 yr) (.slice ya yts.length yc) (unhide AY))
          have AX' := hide (far_set (j := 1) (.slice ya yts.length yc) (far_set (j := 0) (.int .i64 yr) (unhide AX) (unhide HNE).symm) (unhide HNE).symm)
          have PX' := hide (((unhide PX).set (unhide AY) 0 (.int .i64 yr)).set (block_set (j := 0) (u := .int .i64 yr) (unhide AY)) 1 (.slice ya yts.length yc))
          have PY' := hide (((unhide PY).set (unhide AY) 0 (.int .i64 yr)).set (block_set (j := 0) (u := .int .i64 yr) (unhide AY)) 1 (.slice ya yts.length yc))
          have hS := (hHeld.far (x := yb) (j := 0) (Nat.ne_of_lt (unhide GY)) (.int .i64 yr)).far (x := yb) (j := 1) (Nat.ne_of_lt (unhide GY)) (.slice ya yts.length yc)
          go_simp
          refine hK.out _ _ hS (fun hHeld => ?_)
          clear hK K z0 z1 zf hS
          clear AX
          have AX := AX'
          clear AX'
          clear AY
          have AY := AY'
          clear AY'
          clear PX
          have PX := PX'
          clear PX'
          clear PY
          have PY := PY'
          clear PY'
          clear BC
          have BC := BC'
          clear BC'
          try simp only [List.setIfInBounds_toArray, List.set_cons_zero, List.set_cons_succ]
          generalize hw : (W23.setCell ⟨yb, 0, none⟩ (.int .i64 yr)).setCell ⟨yb, 1, none⟩ (.slice ya yts.length yc) = W24 at *
          clear hw
          refine wpAnyH_done (by kernel_rfl) ?_ _
          exact ⟨rfl, xb, yb, ⟨xr, xa, xc, xts⟩, ⟨yr, ya, yc, yts⟩, unhide AX, unhide AY, unhide HNE, unhide GX, unhide GY, unhide PX, unhide PY, unhide BC, frame_at rfl⟩
        · have BC' := hide ((unhide BC).alloc (unhide BC).size (.cells #[.int .i64 0, .slice none 0 0] 24))
          have AX := hide (heap_alloc_new W20 (.cells #[.int .i64 0, .slice none 0 0] 24))
          have GX : Hid (w.heap.size < W20.heap.size) := hide (World.block_lt_of_cell? W20 _ hHeld.c0)
          have HNE : Hid (W20.heap.size ≠ yb) := hide (by have := blk_lt (unhide AY); omega)
          have AY' := hide (blk_bel (unhide AY) (al_bel W20 (.cells #[.int .i64 0, .slice none 0 0] 24)))
          have PX' := hide ((unhide PX).bel (al_bel W20 (.cells #[.int .i64 0, .slice none 0 0] 24)))
          go_simp
          refine hK.out _ _ (hHeld.bel (al_bel W20 (.cells #[.int .i64 0, .slice none 0 0] 24))) (fun hHeld => ?_)
          clear hK K
          clear AY
          have AY := AY'
          clear AY'
          clear PX
          have PX := PX'
          clear PX'
          clear BC
          have BC := BC'
          clear BC'
          try simp only [List.setIfInBounds_toArray, List.set_cons_zero, List.set_cons_succ]
          generalize hw : W20.alloc (.cells #[.int .i64 0, .slice none 0 0] 24) = W25 at *
          clear hw
          generalize W20.heap.size = xb at *
          refine wpAnyH_ready (rs := [3]) (by kernel_rfl) (by decide) (AllReadyH.cons rfl (fun K hK => ?_) AllReadyH.nil)
          refine (if_pos rfl).mpr ?_
          go_wp2_with fail
          refine (unhide CP _ (set_bel (unhide HIN) (unhide BC))).mono ?_
          rintro e W26 ⟨S9, rfl, hput⟩
          have bel := hput.below
          have BC' := hide (below_on (unhide BC) bel)
          have PY := hide (PIn.of hput (unhide BC).size)
          have AX' := hide (blk_bel (unhide AX) bel)
          have AY' := hide (blk_bel (unhide AY) bel)
          have PX' := hide ((unhide PX).bel bel)
          obtain ⟨yr, ya, yc, yts⟩ := S9
          rw [SetV.val]
          simp only
          refine hK.out _ _ (hHeld.bel bel) (fun hHeld => ?_)
          clear hK K bel hput
          clear AX
          have AX := AX'
          clear AX'
          clear AY
          have AY := AY'
          clear AY'
          clear PX
          have PX := PX'
          clear PX'
          clear BC
          have BC := BC'
          clear BC'
          try simp only [List.setIfInBounds_toArray, List.set_cons_zero, List.set_cons_succ]
          refine wpAnyH_ready (rs := [6]) (by kernel_rfl) (by decide) (AllReadyH.cons rfl (fun K hK => ?_) AllReadyH.nil)
          have z0 : W26.cell? ⟨xb, 0, none⟩ = some (.int .i64 0) := cell_block (unhide AX)
          have z1 : W26.cell? ⟨xb, 1, none⟩ = some (.slice none 0 0) := cell_block (unhide AX)
          have zf := fun j => frozen_block (j := j) (unhide AX)
          have BC' := hide (((unhide BC).setCell (p := ⟨xb, 0, none⟩) (Nat.le_of_lt (unhide GX)) (.int .i64 xr)).setCell (p := ⟨xb, 1, none⟩) (Nat.le_of_lt (unhide GX)) (.slice xa xts.length xc))
          have AX' := hide (two_set (.int .i64 xr) (.slice xa xts.length xc) (unhide AX))
          have AY' := hide (far_set (j := 1) (.slice xa xts.length xc) (far_set (j := 0) (.int .i64 xr) (unhide AY) (unhide HNE)) (unhide HNE))
          have PX' := hide (((unhide PX).set (unhide AX) 0 (.int .i64 xr)).set (block_set (j := 0) (u := .int .i64 xr) (unhide AX)) 1 (.slice xa xts.length xc))
          have PY' := hide (((unhide PY).set (unhide AX) 0 (.int .i64 xr)).set (block_set (j := 0) (u := .int .i64 xr) (unhide AX)) 1 (.slice xa xts.length xc))
          have hS := (hHeld.far (x := xb) (j := 0) (Nat.ne_of_lt (unhide GX)) (.int .i64 xr)).far (x := xb) (j := 1) (Nat.ne_of_lt (unhide GX)) (.slice xa xts.length xc)
          go_simp
          refine hK.out _ _ hS (fun hHeld => ?_)
          clear hK K z0 z1 zf hS
          clear AX
          have AX := AX'
          clear AX'
          clear AY
          have AY := AY'
          clear AY'
          clear PX
          have PX := PX'
          clear PX'
          clear PY
          have PY := PY'
          clear PY'
          clear BC
          have BC := BC'
          clear BC'
          try simp only [List.setIfInBounds_toArray, List.set_cons_zero, List.set_cons_succ]
          generalize hw : (W26.setCell ⟨xb, 0, none⟩ (.int .i64 xr)).setCell ⟨xb, 1, none⟩ (.slice xa xts.length xc) = W27 at *
          clear hw
          refine wpAnyH_ready (rs := [7]) (by kernel_rfl) (by decide) (AllReadyH.cons rfl (fun K hK => ?_) AllReadyH.nil)
          have z0 : W27.cell? ⟨yb, 0, none⟩ = some (.int .i64 0) := cell_block (unhide AY)
          have z1 : W27.cell? ⟨yb, 1, none⟩ = some (.slice none 0 0) := cell_block (unhide AY)
          have zf := fun j => frozen_block (j := j) (unhide AY)
          have BC' := hide (((unhide BC).setCell (p := ⟨yb, 0, none⟩) (Nat.le_of_lt (unhide GY)) (.int .i64 yr)).setCell (p := ⟨yb, 1, none⟩) (Nat.le_of_lt (unhide GY)) (.slice ya yts.length yc))
          have AY' := hide (two_set (.int .i64 yr) (.slice ya yts.length yc) (unhide AY))
          have AX' := hide (far_set (j := 1) (.slice ya yts.length yc) (far_set (j := 0) (.int .i64 yr) (unhide AX) (unhide HNE).symm) (unhide HNE).symm)
          have PX' := hide (((unhide PX).set (unhide AY) 0 (.int .i64 yr)).set (block_set (j := 0) (u := .int .i64 yr) (unhide AY)) 1 (.slice ya yts.length yc))
          have PY' := hide (((unhide PY).set (unhide AY) 0 (.int .i64 yr)).set (block_set (j := 0) (u := .int .i64 yr) (unhide AY)) 1 (.slice ya yts.length yc))
          have hS := (hHeld.far (x := yb) (j := 0) (Nat.ne_of_lt (unhide GY)) (.int .i64 yr)).far (x := yb) (j := 1) (Nat.ne_of_lt (unhide GY)) (.slice ya yts.length yc)
          go_simp
          refine hK.out _ _ hS (fun hHeld => ?_)
          clear hK K z0 z1 zf hS
          clear AX
          have AX := AX'
          clear AX'
          clear AY
          have AY := AY'
          clear AY'
          clear PX
          have PX := PX'
          clear PX'
          clear PY
          have PY := PY'
          clear PY'
          clear BC
          have BC := BC'
          clear BC'
          try simp only [List.setIfInBounds_toArray, List.set_cons_zero, List.set_cons_succ]
          generalize hw : (W27.setCell ⟨yb, 0, none⟩ (.int .i64 yr)).setCell ⟨yb, 1, none⟩ (.slice ya yts.length yc) = W28 at *
          clear hw
          refine wpAnyH_done (by kernel_rfl) ?_ _
          exact ⟨rfl, xb, yb, ⟨xr, xa, xc, xts⟩, ⟨yr, ya, yc, yts⟩, unhide AX, unhide AY, unhide HNE, unhide GX, unhide GY, unhide PX, unhide PY, unhide BC, frame_at rfl⟩
    · have BC' := hide ((unhide BC).alloc (unhide BC).size (.cells #[.int .i64 0, .slice none 0 0] 24))
      have AX := hide (heap_alloc_new W0 (.cells #[.int .i64 0, .slice none 0 0] 24))
      have GX : Hid (w.heap.size < W0.heap.size) := hide (World.block_lt_of_cell? W0 _ hHeld.c0)
      go_simp
      refine hK.out _ _ (hHeld.bel (al_bel W0 (.cells #[.int .i64 0, .slice none 0 0] 24))) (fun hHeld => ?_)
      clear hK K
      clear BC
      have BC := BC'
      clear BC'
      try simp only [List.setIfInBounds_toArray, List.set_cons_zero, List.set_cons_succ]
      generalize hw : W0.alloc (.cells #[.int .i64 0, .slice none 0 0] 24) = W29 at *
      clear hw
      generalize W0.heap.size = xb at *
      refine wpAnyH_ready (rs := [1, 5]) (by kernel_rfl) (by decide) (AllReadyH.cons rfl (fun K hK => ?_) (AllReadyH.cons rfl (fun K hK => ?_) AllReadyH.nil))
      · refine (if_pos rfl).mpr ?_
        go_wp2_with fail
        refine (unhide CP _ (set_bel (unhide HIN) (unhide BC))).mono ?_
        rintro e W30 ⟨S9, rfl, hput⟩
        have bel := hput.below
        have BC' := hide (below_on (unhide BC) bel)
        have PX := hide (PIn.of hput (unhide BC).size)
        have AX' := hide (blk_bel (unhide AX) bel)
        obtain ⟨xr, xa, xc, xts⟩ := S9
        rw [SetV.val]
        simp only
        refine hK.out _ _ (hHeld.bel bel) (fun hHeld => ?_)
        clear hK K bel hput
        clear AX
        have AX := AX'
        clear AX'
        clear BC
        have BC := BC'
        clear BC'
        try simp only [List.setIfInBounds_toArray, List.set_cons_zero, List.set_cons_succ]
        refine wpAnyH_ready (rs := [3, 5]) (by kernel_rfl) (by decide) (AllReadyH.cons rfl (fun K hK => ?_) (AllReadyH.cons rfl (fun K hK => ?_) AllReadyH.nil))
        · refine (if_pos rfl).mpr ?_
          go_wp2_with fail
          refine (unhide CP _ (set_bel (unhide HIN) (unhide BC))).mono ?_
          rintro e W31 ⟨S9, rfl, hput⟩
          have bel := hput.below
          have BC' := hide (below_on (unhide BC) bel)
          have PY := hide (PIn.of hput (unhide BC).size)
          have AX' := hide (blk_bel (unhide AX) bel)
          have PX' := hide ((unhide PX).bel bel)
          obtain ⟨yr, ya, yc, yts⟩ := S9
          rw [SetV.val]
          simp only
          refine hK.out _ _ (hHeld.bel bel) (fun hHeld => ?_)
          clear hK K bel hput
          clear AX
          have AX := AX'
          clear AX'
          clear PX
          have PX := PX'
          clear PX'
          clear BC
          have BC := BC'
          clear BC'
          try simp only [List.setIfInBounds_toArray, List.set_cons_zero, List.set_cons_succ]
          refine wpAnyH_ready (rs := [5]) (by kernel_rfl) (by decide) (AllReadyH.cons rfl (fun K hK => ?_) AllReadyH.nil)
          have BC' := hide ((unhide BC).alloc (unhide BC).size (.cells #[.int .i64 0, .slice none 0 0] 24))
          have AY := hide (heap_alloc_new W31 (.cells #[.int .i64 0, .slice none 0 0] 24))
          have GY : Hid (w.heap.size < W31.heap.size) := hide (World.block_lt_of_cell? W31 _ hHeld.c0)
          have HNE : Hid (xb ≠ W31.heap.size) := hide (by have := blk_lt (unhide AX); omega)
          have AX' := hide (blk_bel (unhide AX) (al_bel W31 (.cells #[.int .i64 0, .slice none 0 0] 24)))
          have PX' := hide ((unhide PX).bel (al_bel W31 (.cells #[.int .i64 0, .slice none 0 0] 24)))
          have PY' := hide ((unhide PY).bel (al_bel W31 (.cells #[.int .i64 0, .slice none 0 0] 24)))
          go_simp
          refine hK.out _ _ (hHeld.bel (al_bel W31 (.cells #[.int .i64 0, .slice none 0 0] 24))) (fun hHeld => ?_)
          clear hK K
          clear AX
          have AX := AX'
          clear AX'
          clear PX
          have PX := PX'
          clear PX'
          clear PY
          have PY := PY'
          clear PY'
          clear BC
          have BC := BC'
          clear BC'
          try simp only [List.setIfInBounds_toArray, List.set_cons_zero, List.set_cons_succ]
          generalize hw : W31.alloc (.cells #[.int .i64 0, .slice none 0 0] 24) = W32 at *
          clear hw
          generalize W31.heap.size = yb at *
          refine wpAnyH_ready (rs := [6]) (by kernel_rfl) (by decide) (AllReadyH.cons rfl (fun K hK => ?_) AllReadyH.nil)
          have z0 : W32.cell? ⟨xb, 0, none⟩ = some (.int .i64 0) := cell_block (unhide AX)
          have z1 : W32.cell? ⟨xb, 1, none⟩ = some (.slice none 0 0) := cell_block (unhide AX)
          have zf := fun j => frozen_block (j := j) (unhide AX)
          have BC' := hide (((unhide BC).setCell (p := ⟨xb, 0, none⟩) (Nat.le_of_lt (unhide GX)) (.int .i64 xr)).setCell (p := ⟨xb, 1, none⟩) (Nat.le_of_lt (unhide GX)) (.slice xa xts.length xc))
          have AX' := hide (two_set (.int .i64 xr) (.slice xa xts.length xc) (unhide AX))
          have AY' := hide (far_set (j := 1) (.slice xa xts.length xc) (far_set (j := 0) (.int .i64 xr) (unhide AY) (unhide HNE)) (unhide HNE))
          have PX' := hide (((unhide PX).set (unhide AX) 0 (.int .i64 xr)).set (block_set (j := 0) (u := .int .i64 xr) (unhide AX)) 1 (.slice xa xts.length xc))
          have PY' := hide (((unhide PY).set (unhide AX) 0 (.int .i64 xr)).set (block_set (j := 0) (u := .int .i64 xr) (unhide AX)) 1 (.slice xa xts.length xc))
          have hS := (hHeld.far (x := xb) (j := 0) (Nat.ne_of_lt (unhide GX)) (.int .i64 xr)).far (x := xb) (j := 1) (Nat.ne_of_lt (unhide GX)) (.slice xa xts.length xc)
          go_simp
          refine hK.out _ _ hS (fun hHeld => ?_)
          clear hK K z0 z1 zf hS
          clear AX
          have AX := AX'
          clear AX'
          clear AY
          have AY := AY'
          clear AY'
          clear PX
          have PX := PX'
          clear PX'
          clear PY
          have PY := PY'
          clear PY'
          clear BC
          have BC := BC'
          clear BC'
          try simp only [List.setIfInBounds_toArray, List.set_cons_zero, List.set_cons_succ]
          generalize hw : (W32.setCell ⟨xb, 0, none⟩ (.int .i64 xr)).setCell ⟨xb, 1, none⟩ (.slice xa xts.length xc) = W33 at *
          clear hw
          refine wpAnyH_ready (rs := [7]) (by kernel_rfl) (by decide) (AllReadyH.cons rfl (fun K hK => ?_) AllReadyH.nil)
          have z0 : W33.cell? ⟨yb, 0, none⟩ = some (.int .i64 0) := cell_block (unhide AY)
          have z1 : W33.cell? ⟨yb, 1, none⟩ = some (.slice none 0 0) := cell_block (unhide AY)
          have zf := fun j => frozen_block (j := j) (unhide AY)
          have BC' := hide (((unhide BC).setCell (p := ⟨yb, 0, none⟩) (Nat.le_of_lt (unhide GY)) (.int .i64 yr)).setCell (p := ⟨yb, 1, none⟩) (Nat.le_of_lt (unhide GY)) (.slice ya yts.length yc))
          have AY' := hide (two_set (.int .i64 yr) (.slice ya yts.length yc) (unhide AY))
          have AX' := hide (far_set (j := 1) (.slice ya yts.length yc) (far_set (j := 0) (.int .i64 yr) (unhide AX) (unhide HNE).symm) (unhide HNE).symm)
          have PX' := hide (((unhide PX).set (unhide AY) 0 (.int .i64 yr)).set (block_set (j := 0) (u := .int .i64 yr) (unhide AY)) 1 (.slice ya yts.length yc))
          have PY' := hide (((unhide PY).set (unhide AY) 0 (.int .i64 yr)).set (block_set (j := 0) (u := .int .i64 yr) (unhide AY)) 1 (.slice ya yts.length yc))
          have hS := (hHeld.far (x := yb) (j := 0) (Nat.ne_of_lt (unhide GY)) (.int .i64 yr)).far (x := yb) (j := 1) (Nat.ne_of_lt (unhide GY)) (.slice ya yts.length yc)
          go_simp
          refine hK.out _ _ hS (fun hHeld => ?_)
          clear hK K z0 z1 zf hS
          clear AX
          have AX := AX'
          clear AX'
          clear AY
          have AY := AY'
          clear AY'
          clear PX
          have PX := PX'
          clear PX'
          clear PY
          have PY := PY'
          clear PY'
          clear BC
          have BC := BC'
          clear BC'
          try simp only [List.setIfInBounds_toArray, List.set_cons_zero, List.set_cons_succ]
          generalize hw : (W33.setCell ⟨yb, 0, none⟩ (.int .i64 yr)).setCell ⟨yb, 1, none⟩ (.slice ya yts.length yc) = W34 at *
          clear hw
          refine wpAnyH_done (by kernel_rfl) ?_ _
          exact ⟨rfl, xb, yb, ⟨xr, xa, xc, xts⟩, ⟨yr, ya, yc, yts⟩, unhide AX, unhide AY, unhide HNE, unhide GX, unhide GY, unhide PX, unhide PY, unhide BC, frame_at rfl⟩
        · have BC' := hide ((unhide BC).alloc (unhide BC).size (.cells #[.int .i64 0, .slice none 0 0] 24))
          have AY := hide (heap_alloc_new W30 (.cells #[.int .i64 0, .slice none 0 0] 24))
          have GY : Hid (w.heap.size < W30.heap.size) := hide (World.block_lt_of_cell? W30 _ hHeld.c0)
          have HNE : Hid (xb ≠ W30.heap.size) := hide (by have := blk_lt (unhide AX); omega)
          have AX' := hide (blk_bel (unhide AX) (al_bel W30 (.cells #[.int .i64 0, .slice none 0 0] 24)))
          have PX' := hide ((unhide PX).bel (al_bel W30 (.cells #[.int .i64 0, .slice none 0 0] 24)))
          go_simp
          refine hK.out _ _ (hHeld.bel (al_bel W30 (.cells #[.int .i64 0, .slice none 0 0] 24))) (fun hHeld => ?_)
          clear hK K
          clear AX
          have AX := AX'
          clear AX'
          clear PX
          have PX := PX'
          clear PX'
          clear BC
          have BC := BC'
          clear BC'
          try simp only [List.setIfInBounds_toArray, List.set_cons_zero, List.set_cons_succ]
          generalize hw : W30.alloc (.cells #[.int .i64 0, .slice none 0 0] 24) = W35 at *
          clear hw
          generalize W30.heap.size = yb at *
          refine wpAnyH_ready (rs := [3]) (by kernel_rfl) (by decide) (AllReadyH.cons rfl (fun K hK => ?_) AllReadyH.nil)
          refine (if_pos rfl).mpr ?_
          go_wp2_with fail
          refine (unhide CP _ (set_bel (unhide HIN) (unhide BC))).mono ?_
          rintro e W36 ⟨S9, rfl, hput⟩
          have bel := hput.below
          have BC' := hide (below_on (unhide BC) bel)
          have PY := hide (PIn.of hput (unhide BC).size)
          have AX' := hide (blk_bel (unhide AX) bel)
          have AY' := hide (blk_bel (unhide AY) bel)
          have PX' := hide ((unhide PX).bel bel)
          obtain ⟨yr, ya, yc, yts⟩ := S9
          rw [SetV.val]
          simp only
          refine hK.out _ _ (hHeld.bel bel) (fun hHeld => ?_)
          clear hK K bel hput
          clear AX
          have AX := AX'
          clear AX'
          clear AY
          have AY := AY'
          clear AY'
          clear PX
          have PX := PX'
          clear PX'
          clear BC
          have BC := BC'
          clear BC'
          try simp only [List.setIfInBounds_toArray, List.set_cons_zero, List.set_cons_succ]
          refine wpAnyH_ready (rs := [6]) (by kernel_rfl) (by decide) (AllReadyH.cons rfl (fun K hK => ?_) AllReadyH.nil)
          have z0 : W36.cell? ⟨xb, 0, none⟩ = some (.int .i64 0) := cell_block (unhide AX)
          have z1 : W36.cell? ⟨xb, 1, none⟩ = some (.slice none 0 0) := cell_block (unhide AX)
          have zf := fun j => frozen_block (j := j) (unhide AX)
          have BC' := hide (((unhide BC).setCell (p := ⟨xb, 0, none⟩) (Nat.le_of_lt (unhide GX)) (.int .i64 xr)).setCell (p := ⟨xb, 1, none⟩) (Nat.le_of_lt (unhide GX)) (.slice xa xts.length xc))
          have AX' := hide (two_set (.int .i64 xr) (.slice xa xts.length xc) (unhide AX))
          have AY' := hide (far_set (j := 1) (.slice xa xts.length xc) (far_set (j := 0) (.int .i64 xr) (unhide AY) (unhide HNE)) (unhide HNE))
          have PX' := hide (((unhide PX).set (unhide AX) 0 (.int .i64 xr)).set (block_set (j := 0) (u := .int .i64 xr) (unhide AX)) 1 (.slice xa xts.length xc))
          have PY' := hide (((unhide PY).set (unhide AX) 0 (.int .i64 xr)).set (block_set (j := 0) (u := .int .i64 xr) (unhide AX)) 1 (.slice xa xts.length xc))
          have hS := (hHeld.far (x := xb) (j := 0) (Nat.ne_of_lt (unhide GX)) (.int .i64 xr)).far (x := xb) (j := 1) (Nat.ne_of_lt (unhide GX)) (.slice xa xts.length xc)
          go_simp
          refine hK.out _ _ hS (fun hHeld => ?_)
          clear hK K z0 z1 zf hS
          clear AX
          have AX := AX'
          clear AX'
          clear AY
          have AY := AY'
          clear AY'
          clear PX
          have PX := PX'
          clear PX'
          clear PY
          have PY := PY'
          clear PY'
          clear BC
          have BC := BC'
          clear BC'
          try simp only [List.setIfInBounds_toArray, List.set_cons_zero, List.set_cons_succ]
          generalize hw : (W36.setCell ⟨xb, 0, none⟩ (.int .i64 xr)).setCell ⟨xb, 1, none⟩ (.slice xa xts.length xc) = W37 at *
          clear hw
          refine wpAnyH_ready (rs := [7]) (by kernel_rfl) (by decide) (AllReadyH.cons rfl (fun K hK => ?_) AllReadyH.nil)
          have z0 : W37.cell? ⟨yb, 0, none⟩ = some (.int .i64 0) := cell_block (unhide AY)
          have z1 : W37.cell? ⟨yb, 1, none⟩ = some (.slice none 0 0) := cell_block (unhide AY)
          have zf := fun j => frozen_block (j := j) (unhide AY)
          have BC' := hide (((unhide BC).setCell (p := ⟨yb, 0, none⟩) (Nat.le_of_lt (unhide GY)) (.int .i64 yr)).setCell (p := ⟨yb, 1, none⟩) (Nat.le_of_lt (unhide GY)) (.slice ya yts.length yc))
          have AY' := hide (two_set (.int .i64 yr) (.slice ya yts.length yc) (unhide AY))
          have AX' := hide (far_set (j := 1) (.slice ya yts.length yc) (far_set (j := 0) (.int .i64 yr) (unhide AX) (unhide HNE).symm) (unhide HNE).symm)
          have PX' := hide (((unhide PX).set (unhide AY) 0 (.int .i64 yr)).set (block_set (j := 0) (u := .int .i64 yr) (unhide AY)) 1 (.slice ya yts.length yc))
          have PY' := hide (((unhide PY).set (unhide AY) 0 (.int .i64 yr)).set (block_set (j := 0) (u := .int .i64 yr) (unhide AY)) 1 (.slice ya yts.length yc))
          have hS := (hHeld.far (x := yb) (j := 0) (Nat.ne_of_lt (unhide GY)) (.int .i64 yr)).far (x := yb) (j := 1) (Nat.ne_of_lt (unhide GY)) (.slice ya yts.length yc)
          go_simp
          refine hK.out _ _ hS (fun hHeld => ?_)
          clear hK K z0 z1 zf hS
          clear AX
          have AX := AX'
          clear AX'
          clear AY
          have AY := AY'
          clear AY'
          clear PX
          have PX := PX'
          clear PX'
          clear PY
          have PY := PY'
          clear PY'
          clear BC
          have BC := BC'
          clear BC'
          try simp only [List.setIfInBounds_toArray, List.set_cons_zero, List.set_cons_succ]
          generalize hw : (W37.setCell ⟨yb, 0, none⟩ (.int .i64 yr)).setCell ⟨yb, 1, none⟩ (.slice ya yts.length yc) = W38 at *
          clear hw
          refine wpAnyH_done (by kernel_rfl) ?_ _
          exact ⟨rfl, xb, yb, ⟨xr, xa, xc, xts⟩, ⟨yr, ya, yc, yts⟩, unhide AX, unhide AY, unhide HNE, unhide GX, unhide GY, unhide PX, unhide PY, unhide BC, frame_at rfl⟩
      · have BC' := hide ((unhide BC).alloc (unhide BC).size (.cells #[.int .i64 0, .slice none 0 0] 24))
        have AY := hide (heap_alloc_new W29 (.cells #[.int .i64 0, .slice none 0 0] 24))
        have GY : Hid (w.heap.size < W29.heap.size) := hide (World.block_lt_of_cell? W29 _ hHeld.c0)
        have HNE : Hid (xb ≠ W29.heap.size) := hide (by have := blk_lt (unhide AX); omega)
        have AX' := hide (blk_bel (unhide AX) (al_bel W29 (.cells #[.int .i64 0, .slice none 0 0] 24)))
        go_simp
        refine hK.out _ _ (hHeld.bel (al_bel W29 (.cells #[.int .i64 0, .slice none 0 0] 24))) (fun hHeld => ?_)
        clear hK K
        clear AX
        have AX := AX'
        clear AX'
        clear BC
        have BC := BC'
        clear BC'
        try simp only [List.setIfInBounds_toArray, List.set_cons_zero, List.set_cons_succ]
        generalize hw : W29.alloc (.cells #[.int .i64 0, .slice none 0 0] 24) = W39 at *
        clear hw
        generalize W29.heap.size = yb at *
        refine wpAnyH_ready (rs := [1]) (by kernel_rfl) (by decide) (AllReadyH.cons rfl (fun K hK => ?_) AllReadyH.nil)
        refine (if_pos rfl).mpr ?_
        go_wp2_with fail
        refine (unhide CP _ (set_bel (unhide HIN) (unhide BC))).mono ?_
        rintro e W40 ⟨S9, rfl, hput⟩
        have bel := hput.below
        have BC' := hide (below_on (unhide BC) bel)
        have PX := hide (PIn.of hput (unhide BC).size)
        have AX' := hide (blk_bel (unhide AX) bel)
        have AY' := hide (blk_bel (unhide AY) bel)
        obtain ⟨xr, xa, xc, xts⟩ := S9
        rw [SetV.val]
        simp only
        refine hK.out _ _ (hHeld.bel bel) (fun hHeld => ?_)
        clear hK K bel hput
        clear AX
        have AX := AX'
        clear AX'
        clear AY
        have AY := AY'
        clear AY'
        clear BC
        have BC := BC'
        clear BC'
        try simp only [List.setIfInBounds_toArray, List.set_cons_zero, List.set_cons_succ]
        refine wpAnyH_ready (rs := [3]) (by kernel_rfl) (by decide) (AllReadyH.cons rfl (fun K hK => ?_) AllReadyH.nil)
        refine (if_pos rfl).mpr ?_
        go_wp2_with fail
        refine (unhide CP _ (set_bel (unhide HIN) (unhide BC))).mono ?_
        rintro e W41 ⟨S9, rfl, hput⟩
        have bel := hput.below
        have BC' := hide (below_on (unhide BC) bel)
        have PY := hide (PIn.of hput (unhide BC).size)
        have AX' := hide (blk_bel (unhide AX) bel)
        have AY' := hide (blk_bel (unhide AY) bel)
        have PX' := hide ((unhide PX).bel bel)
        obtain ⟨yr, ya, yc, yts⟩ := S9
        rw [SetV.val]
        simp only
        refine hK.out _ _ (hHeld.bel bel) (fun hHeld => ?_)
        clear hK K bel hput
        clear AX
        have AX := AX'
        clear AX'
        clear AY
        have AY := AY'
        clear AY'
        clear PX
        have PX := PX'
        clear PX'
        clear BC
        have BC := BC'
        clear BC'
        try simp only [List.setIfInBounds_toArray, List.set_cons_zero, List.set_cons_succ]
        refine wpAnyH_ready (rs := [6]) (by kernel_rfl) (by decide) (AllReadyH.cons rfl (fun K hK => ?_) AllReadyH.nil)
        have z0 : W41.cell? ⟨xb, 0, none⟩ = some (.int .i64 0) := cell_block (unhide AX)
        have z1 : W41.cell? ⟨xb, 1, none⟩ = some (.slice none 0 0) := cell_block (unhide AX)
        have zf := fun j => frozen_block (j := j) (unhide AX)
        have BC' := hide (((unhide BC).setCell (p := ⟨xb, 0, none⟩) (Nat.le_of_lt (unhide GX)) (.int .i64 xr)).setCell (p := ⟨xb, 1, none⟩) (Nat.le_of_lt (unhide GX)) (.slice xa xts.length xc))
        have AX' := hide (two_set (.int .i64 xr) (.slice xa xts.length xc) (unhide AX))
        have AY' := hide (far_set (j := 1) (.slice xa xts.length xc) (far_set (j := 0) (.int .i64 xr) (unhide AY) (unhide HNE)) (unhide HNE))
        have PX' := hide (((unhide PX).set (unhide AX) 0 (.int .i64 xr)).set (block_set (j := 0) (u := .int .i64 xr) (unhide AX)) 1 (.slice xa xts.length xc))
        have PY' := hide (((unhide PY).set (unhide AX) 0 (.int .i64 xr)).set (block_set (j := 0) (u := .int .i64 xr) (unhide AX)) 1 (.slice xa xts.length xc))
        have hS := (hHeld.far (x := xb) (j := 0) (Nat.ne_of_lt (unhide GX)) (.int .i64 xr)).far (x := xb) (j := 1) (Nat.ne_of_lt (unhide GX)) (.slice xa xts.length xc)
        go_simp
        refine hK.out _ _ hS (fun hHeld => ?_)
        clear hK K z0 z1 zf hS
        clear AX
        have AX := AX'
        clear AX'
        clear AY
        have AY := AY'
        clear AY'
        clear PX
        have PX := PX'
        clear PX'
        clear PY
        have PY := PY'
        clear PY'
        clear BC
        have BC := BC'
        clear BC'
        try simp only [List.setIfInBounds_toArray, List.set_cons_zero, List.set_cons_succ]
        generalize hw : (W41.setCell ⟨xb, 0, none⟩ (.int .i64 xr)).setCell ⟨xb, 1, none⟩ (.slice xa xts.length xc) = W42 at *
        clear hw
        refine wpAnyH_ready (rs := [7]) (by kernel_rfl) (by decide) (AllReadyH.cons rfl (fun K hK => ?_) AllReadyH.nil)
        have z0 : W42.cell? ⟨yb, 0, none⟩ = some (.int .i64 0) := cell_block (unhide AY)
        have z1 : W42.cell? ⟨yb, 1, none⟩ = some (.slice none 0 0) := cell_block (unhide AY)
        have zf := fun j => frozen_block (j := j) (unhide AY)
        have BC' := hide (((unhide BC).setCell (p := ⟨yb, 0, none⟩) (Nat.le_of_lt (unhide GY)) (.int .i64 yr)).setCell (p := ⟨yb, 1, none⟩) (Nat.le_of_lt (unhide GY)) (.slice ya yts.length yc))
        have AY' := hide (two_set (.int .i64 yr) (.slice ya yts.length yc) (unhide AY))
        have AX' := hide (far_set (j := 1) (.slice ya yts.length yc) (far_set (j := 0) (.int .i64 yr) (unhide AX) (unhide HNE).symm) (unhide HNE).symm)
        have PX' := hide (((unhide PX).set (unhide AY) 0 (.int .i64 yr)).set (block_set (j := 0) (u := .int .i64 yr) (unhide AY)) 1 (.slice ya yts.length yc))
        have PY' := hide (((unhide PY).set (unhide AY) 0 (.int .i64 yr)).set (block_set (j := 0) (u := .int .i64 yr) (unhide AY)) 1 (.slice ya yts.length yc))
        have hS := (hHeld.far (x := yb) (j := 0) (Nat.ne_of_lt (unhide GY)) (.int .i64 yr)).far (x := yb) (j := 1) (Nat.ne_of_lt (unhide GY)) (.slice ya yts.length yc)
        go_simp
        refine hK.out _ _ hS (fun hHeld => ?_)
        clear hK K z0 z1 zf hS
        clear AX
        have AX := AX'
        clear AX'
        clear AY
        have AY := AY'
        clear AY'
        clear PX
        have PX := PX'
        clear PX'
        clear PY
        have PY := PY'
        clear PY'
        clear BC
        have BC := BC'
        clear BC'
        try simp only [List.setIfInBounds_toArray, List.set_cons_zero, List.set_cons_succ]
        generalize hw : (W42.setCell ⟨yb, 0, none⟩ (.int .i64 yr)).setCell ⟨yb, 1, none⟩ (.slice ya yts.length yc) = W43 at *
        clear hw
        refine wpAnyH_done (by kernel_rfl) ?_ _
        exact ⟨rfl, xb, yb, ⟨xr, xa, xc, xts⟩, ⟨yr, ya, yc, yts⟩, unhide AX, unhide AY, unhide HNE, unhide GX, unhide GY, unhide PX, unhide PY, unhide BC, frame_at rfl⟩
    · have BC' := hide ((unhide BC).alloc (unhide BC).size (.cells #[.int .i64 0, .slice none 0 0] 24))
      have AY := hide (heap_alloc_new W0 (.cells #[.int .i64 0, .slice none 0 0] 24))
      have GY : Hid (w.heap.size < W0.heap.size) := hide (World.block_lt_of_cell? W0 _ hHeld.c0)
      go_simp
      refine hK.out _ _ (hHeld.bel (al_bel W0 (.cells #[.int .i64 0, .slice none 0 0] 24))) (fun hHeld => ?_)
      clear hK K
      clear BC
      have BC := BC'
      clear BC'
      try simp only [List.setIfInBounds_toArray, List.set_cons_zero, List.set_cons_succ]
      generalize hw : W0.alloc (.cells #[.int .i64 0, .slice none 0 0] 24) = W44 at *
      clear hw
      generalize W0.heap.size = yb at *
      refine wpAnyH_ready (rs := [1, 4]) (by kernel_rfl) (by decide) (AllReadyH.cons rfl (fun K hK => ?_) (AllReadyH.cons rfl (fun K hK => ?_) AllReadyH.nil))
      · refine (if_pos rfl).mpr ?_
        go_wp2_with fail
        refine (unhide CP _ (set_bel (unhide HIN) (unhide BC))).mono ?_
        rintro e W45 ⟨S9, rfl, hput⟩
        have bel := hput.below
        have BC' := hide (below_on (unhide BC) bel)
        have PX := hide (PIn.of hput (unhide BC).size)
        have AY' := hide (blk_bel (unhide AY) bel)
        obtain ⟨xr, xa, xc, xts⟩ := S9
        rw [SetV.val]
        simp only
        refine hK.out _ _ (hHeld.bel bel) (fun hHeld => ?_)
        clear hK K bel hput
        clear AY
        have AY := AY'
        clear AY'
        clear BC
        have BC := BC'
        clear BC'
        try simp only [List.setIfInBounds_toArray, List.set_cons_zero, List.set_cons_succ]
        refine wpAnyH_ready (rs := [3, 4]) (by kernel_rfl) (by decide) (AllReadyH.cons rfl (fun K hK => ?_) (AllReadyH.cons rfl (fun K hK => ?_) AllReadyH.nil))
        · refine (if_pos rfl).mpr ?_
          go_wp2_with fail
          refine (unhide CP _ (set_bel (unhide HIN) (unhide BC))).mono ?_
          rintro e W46 ⟨S9, rfl, hput⟩
          have bel := hput.below
          have BC' := hide (below_on (unhide BC) bel)
          have PY := hide (PIn.of hput (unhide BC).size)
          have AY' := hide (blk_bel (unhide AY) bel)
          have PX' := hide ((unhide PX).bel bel)
          obtain ⟨yr, ya, yc, yts⟩ := S9
          rw [SetV.val]
          simp only
          refine hK.out _ _ (hHeld.bel bel) (fun hHeld => ?_)
          clear hK K bel hput
          clear AY
          have AY := AY'
          clear AY'
          clear PX
          have PX := PX'
          clear PX'
          clear BC
          have BC := BC'
          clear BC'
          try simp only [List.setIfInBounds_toArray, List.set_cons_zero, List.set_cons_succ]
          refine wpAnyH_ready (rs := [4]) (by kernel_rfl) (by decide) (AllReadyH.cons rfl (fun K hK => ?_) AllReadyH.nil)
          have BC' := hide ((unhide BC).alloc (unhide BC).size (.cells #[.int .i64 0, .slice none 0 0] 24))
          have AX := hide (heap_alloc_new W46 (.cells #[.int .i64 0, .slice none 0 0] 24))
          have GX : Hid (w.heap.size < W46.heap.size) := hide (World.block_lt_of_cell? W46 _ hHeld.c0)
          have HNE : Hid (W46.heap.size ≠ yb) := hide (by have := blk_lt (unhide AY); omega)
          have AY' := hide (blk_bel (unhide AY) (al_bel W46 (.cells #[.int .i64 0, .slice none 0 0] 24)))
          have PX' := hide ((unhide PX).bel (al_bel W46 (.cells #[.int .i64 0, .slice none 0 0] 24)))
          have PY' := hide ((unhide PY).bel (al_bel W46 (.cells #[.int .i64 0, .slice none 0 0] 24)))
          go_simp
          refine hK.out _ _ (hHeld.bel (al_bel W46 (.cells #[.int .i64 0, .slice none 0 0] 24))) (fun hHeld => ?_)
          clear hK K
          clear AY
          have AY := AY'
          clear AY'
          clear PX
          have PX := PX'
          clear PX'
          clear PY
          have PY := PY'
          clear PY'
          clear BC
          have BC := BC'
          clear BC'
          try simp only [List.setIfInBounds_toArray, List.set_cons_zero, List.set_cons_succ]
          generalize hw : W46.alloc (.cells #[.int .i64 0, .slice none 0 0] 24) = W47 at *
          clear hw
          generalize W46.heap.size = xb at *
          refine wpAnyH_ready (rs := [6]) (by kernel_rfl) (by decide) (AllReadyH.cons rfl (fun K hK => ?_) AllReadyH.nil)
          have z0 : W47.cell? ⟨xb, 0, none⟩ = some (.int .i64 0) := cell_block (unhide AX)
          have z1 : W47.cell? ⟨xb, 1, none⟩ = some (.slice none 0 0) := cell_block (unhide AX)
          have zf := fun j => frozen_block (j := j) (unhide AX)
          have BC' := hide (((unhide BC).setCell (p := ⟨xb, 0, none⟩) (Nat.le_of_lt (unhide GX)) (.int .i64 xr)).setCell (p := ⟨xb, 1, none⟩) (Nat.le_of_lt (unhide GX)) (.slice xa xts.length xc))
          have AX' := hide (two_set (.int .i64 xr) (.slice xa xts.length xc) (unhide AX))
          have AY' := hide (far_set (j := 1) (.slice xa xts.length xc) (far_set (j := 0) (.int .i64 xr) (unhide AY) (unhide HNE)) (unhide HNE))
          have PX' := hide (((unhide PX).set (unhide AX) 0 (.int .i64 xr)).set (block_set (j := 0) (u := .int .i64 xr) (unhide AX)) 1 (.slice xa xts.length xc))
          have PY' := hide (((unhide PY).set (unhide AX) 0 (.int .i64 xr)).set (block_set (j := 0) (u := .int .i64 xr) (unhide AX)) 1 (.slice xa xts.length xc))
          have hS := (hHeld.far (x := xb) (j := 0) (Nat.ne_of_lt (unhide GX)) (.int .i64 xr)).far (x := xb) (j := 1) (Nat.ne_of_lt (unhide GX)) (.slice xa xts.length xc)
          go_simp
          refine hK.out _ _ hS (fun hHeld => ?_)
          clear hK K z0 z1 zf hS
          clear AX
          have AX := AX'
          clear AX'
          clear AY
          have AY := AY'
          clear AY'
          clear PX
          have PX := PX'
          clear PX'
          clear PY
          have PY := PY'
          clear PY'
          clear BC
          have BC := BC'
          clear BC'
          try simp only [List.setIfInBounds_toArray, List.set_cons_zero, List.set_cons_succ]
          generalize hw : (W47.setCell ⟨xb, 0, none⟩ (.int .i64 xr)).setCell ⟨xb, 1, none⟩ (.slice xa xts.length xc) = W48 at *
          clear hw
          refine wpAnyH_ready (rs := [7]) (by kernel_rfl) (by decide) (AllReadyH.cons rfl (fun K hK => ?_) AllReadyH.nil)
          have z0 : W48.cell? ⟨yb, 0, none⟩ = some (.int .i64 0) := cell_block (unhide AY)
          have z1 : W48.cell? ⟨yb, 1, none⟩ = some (.slice none 0 0) := cell_block (unhide AY)
          have zf := fun j => frozen_block (j := j) (unhide AY)
          have BC' := hide (((unhide BC).setCell (p := ⟨yb, 0, none⟩) (Nat.le_of_lt (unhide GY)) (.int .i64 yr)).setCell (p := ⟨yb, 1, none⟩) (Nat.le_of_lt (unhide GY)) (.slice ya yts.length yc))
          have AY' := hide (two_set (.int .i64 yr) (.slice ya yts.length yc) (unhide AY))
          have AX' := hide (far_set (j := 1) (.slice ya yts.length yc) (far_set (j := 0) (.int .i64 yr) (unhide AX) (unhide HNE).symm) (unhide HNE).symm)
          have PX' := hide (((unhide PX).set (unhide AY) 0 (.int .i64 yr)).set (block_set (j := 0) (u := .int .i64 yr) (unhide AY)) 1 (.slice ya yts.length yc))
          have PY' := hide (((unhide PY).set (unhide AY) 0 (.int .i64 yr)).set (block_set (j := 0) (u := .int .i64 yr) (unhide AY)) 1 (.slice ya yts.length yc))
          have hS := (hHeld.far (x := yb) (j := 0) (Nat.ne_of_lt (unhide GY)) (.int .i64 yr)).far (x := yb) (j := 1) (Nat.ne_of_lt (unhide GY)) (.slice ya yts.length yc)
          go_simp
          refine hK.out _ _ hS (fun hHeld => ?_)
          clear hK K z0 z1 zf hS
          clear AX
          have AX := AX'
          clear AX'
          clear AY
          have AY := AY'
          clear AY'
          clear PX
          have PX := PX'
          clear PX'
          clear PY
          have PY := PY'
          clear PY'
          clear BC
          have BC := BC'
          clear BC'
          try simp only [List.setIfInBounds_toArray, List.set_cons_zero, List.set_cons_succ]
          generalize hw : (W48.setCell ⟨yb, 0, none⟩ (.int .i64 yr)).setCell ⟨yb, 1, none⟩ (.slice ya yts.length yc) = W49 at *
          clear hw
          refine wpAnyH_done (by kernel_rfl) ?_ _
          exact ⟨rfl, xb, yb, ⟨xr, xa, xc, xts⟩, ⟨yr, ya, yc, yts⟩, unhide AX, unhide AY, unhide HNE, unhide GX, unhide GY, unhide PX, unhide PY, unhide BC, frame_at rfl⟩
        · have BC' := hide ((unhide BC).alloc (unhide BC).size (.cells #[.int .i64 0, .slice none 0 0] 24))
          have AX := hide (heap_alloc_new W45 (.cells #[.int .i64 0, .slice none 0 0] 24))
          have GX : Hid (w.heap.size < W45.heap.size) := hide (World.block_lt_of_cell? W45 _ hHeld.c0)
          have HNE : Hid (W45.heap.size ≠ yb) := hide (by have := blk_lt (unhide AY); omega)
          have AY' := hide (blk_bel (unhide AY) (al_bel W45 (.cells #[.int .i64 0, .slice none 0 0] 24)))
          have PX' := hide ((unhide PX).bel (al_bel W45 (.cells #[.int .i64 0, .slice none 0 0] 24)))
          go_simp
          refine hK.out _ _ (hHeld.bel (al_bel W45 (.cells #[.int .i64 0, .slice none 0 0] 24))) (fun hHeld => ?_)
          clear hK K
          clear AY
          have AY := AY'
          clear AY'
          clear PX
          have PX := PX'
          clear PX'
          clear BC
          have BC := BC'
          clear BC'
          try simp only [List.setIfInBounds_toArray, List.set_cons_zero, List.set_cons_succ]
          generalize hw : W45.alloc (.cells #[.int .i64 0, .slice none 0 0] 24) = W50 at *
          clear hw
          generalize W45.heap.size = xb at *
          refine wpAnyH_ready (rs := [3]) (by kernel_rfl) (by decide) (AllReadyH.cons rfl (fun K hK => ?_) AllReadyH.nil)
          refine (if_pos rfl).mpr ?_
          go_wp2_with fail
          refine (unhide CP _ (set_bel (unhide HIN) (unhide BC))).mono ?_
          rintro e W51 ⟨S9, rfl, hput⟩
          have bel := hput.below
          have BC' := hide (below_on (unhide BC) bel)
          have PY := hide (PIn.of hput (unhide BC).size)
          have AX' := hide (blk_bel (unhide AX) bel)
          have AY' := hide (blk_bel (unhide AY) bel)
          have PX' := hide ((unhide PX).bel bel)
          obtain ⟨yr, ya, yc, yts⟩ := S9
          rw [SetV.val]
          simp only
          refine hK.out _ _ (hHeld.bel bel) (fun hHeld => ?_)
          clear hK K bel hput
          clear AX
          have AX := AX'
          clear AX'
          clear AY
          have AY := AY'
          clear AY'
          clear PX
          have PX := PX'
          clear PX'
          clear BC
          have BC := BC'
          clear BC'
          try simp only [List.setIfInBounds_toArray, List.set_cons_zero, List.set_cons_succ]
          refine wpAnyH_ready (rs := [6]) (by kernel_rfl) (by decide) (AllReadyH.cons rfl (fun K hK => ?_) AllReadyH.nil)
          have z0 : W51.cell? ⟨xb, 0, none⟩ = some (.int .i64 0) := cell_block (unhide AX)
          have z1 : W51.cell? ⟨xb, 1, none⟩ = some (.slice none 0 0) := cell_block (unhide AX)
          have zf := fun j => frozen_block (j := j) (unhide AX)
          have BC' := hide (((unhide BC).setCell (p := ⟨xb, 0, none⟩) (Nat.le_of_lt (unhide GX)) (.int .i64 xr)).setCell (p := ⟨xb, 1, none⟩) (Nat.le_of_lt (unhide GX)) (.slice xa xts.length xc))
          have AX' := hide (two_set (.int .i64 xr) (.slice xa xts.length xc) (unhide AX))
          have AY' := hide (far_set (j := 1) (.slice xa xts.length xc) (far_set (j := 0) (.int .i64 xr) (unhide AY) (unhide HNE)) (unhide HNE))
          have PX' := hide (((unhide PX).set (unhide AX) 0 (.int .i64 xr)).set (block_set (j := 0) (u := .int .i64 xr) (unhide AX)) 1 (.slice xa xts.length xc))
          have PY' := hide (((unhide PY).set (unhide AX) 0 (.int .i64 xr)).set (block_set (j := 0) (u := .int .i64 xr) (unhide AX)) 1 (.slice xa xts.length xc))
          have hS := (hHeld.far (x := xb) (j := 0) (Nat.ne_of_lt (unhide GX)) (.int .i64 xr)).far (x := xb) (j := 1) (Nat.ne_of_lt (unhide GX)) (.slice xa xts.length xc)
          go_simp
          refine hK.out _ _ hS (fun hHeld => ?_)
          clear hK K z0 z1 zf hS
          clear AX
          have AX := AX'
          clear AX'
          clear AY
          have AY := AY'
          clear AY'
          clear PX
          have PX := PX'
          clear PX'
          clear PY
          have PY := PY'
          clear PY'
          clear BC
          have BC := BC'
          clear BC'
          try simp only [List.setIfInBounds_toArray, List.set_cons_zero, List.set_cons_succ]
          generalize hw : (W51.setCell ⟨xb, 0, none⟩ (.int .i64 xr)).setCell ⟨xb, 1, none⟩ (.slice xa xts.length xc) = W52 at *
          clear hw
          refine wpAnyH_ready (rs := [7]) (by kernel_rfl) (by decide) (AllReadyH.cons rfl (fun K hK => ?_) AllReadyH.nil)
          have z0 : W52.cell? ⟨yb, 0, none⟩ = some (.int .i64 0) := cell_block (unhide AY)
          have z1 : W52.cell? ⟨yb, 1, none⟩ = some (.slice none 0 0) := cell_block (unhide AY)
          have zf := fun j => frozen_block (j := j) (unhide AY)
          have BC' := hide (((unhide BC).setCell (p := ⟨yb, 0, none⟩) (Nat.le_of_lt (unhide GY)) (.int .i64 yr)).setCell (p := ⟨yb, 1, none⟩) (Nat.le_of_lt (unhide GY)) (.slice ya yts.length yc))
          have AY' := hide (two_set (.int .i64 yr) (.slice ya yts.length yc) (unhide AY))
          have AX' := hide (far_set (j := 1) (.slice ya yts.length yc) (far_set (j := 0) (.int .i64 yr) (unhide AX) (unhide HNE).symm) (unhide HNE).symm)
          have PX' := hide (((unhide PX).set (unhide AY) 0 (.int .i64 yr)).set (block_set (j := 0) (u := .int .i64 yr) (unhide AY)) 1 (.slice ya yts.length yc))
          have PY' := hide (((unhide PY).set (unhide AY) 0 (.int .i64 yr)).set (block_set (j := 0) (u := .int .i64 yr) (unhide AY)) 1 (.slice ya yts.length yc))
          have hS := (hHeld.far (x := yb) (j := 0) (Nat.ne_of_lt (unhide GY)) (.int .i64 yr)).far (x := yb) (j := 1) (Nat.ne_of_lt (unhide GY)) (.slice ya yts.length yc)
          go_simp
          refine hK.out _ _ hS (fun hHeld => ?_)
          clear hK K z0 z1 zf hS
          clear AX
          have AX := AX'
          clear AX'
          clear AY
          have AY := AY'
          clear AY'
          clear PX
          have PX := PX'
          clear PX'
          clear PY
          have PY := PY'
          clear PY'
          clear BC
          have BC := BC'
          clear BC'
          try simp only [List.setIfInBounds_toArray, List.set_cons_zero, List.set_cons_succ]
          generalize hw : (W52.setCell ⟨yb, 0, none⟩ (.int .i64 yr)).setCell ⟨yb, 1, none⟩ (.slice ya yts.length yc) = W53 at *
          clear hw
          refine wpAnyH_done (by kernel_rfl) ?_ _
          exact ⟨rfl, xb, yb, ⟨xr, xa, xc, xts⟩, ⟨yr, ya, yc, yts⟩, unhide AX, unhide AY, unhide HNE, unhide GX, unhide GY, unhide PX, unhide PY, unhide BC, frame_at rfl⟩
      · have BC' := hide ((unhide BC).alloc (unhide BC).size (.cells #[.int .i64 0, .slice none 0 0] 24))
        have AX := hide (heap_alloc_new W44 (.cells #[.int .i64 0, .slice none 0 0] 24))
        have GX : Hid (w.heap.size < W44.heap.size) := hide (World.block_lt_of_cell? W44 _ hHeld.c0)
        have HNE : Hid (W44.heap.size ≠ yb) := hide (by have := blk_lt (unhide AY); omega)
        have AY' := hide (blk_bel (unhide AY) (al_bel W44 (.cells #[.int .i64 0, .slice none 0 0] 24)))
        go_simp
        refine hK.out _ _ (hHeld.bel (al_bel W44 (.cells #[.int .i64 0, .slice none 0 0] 24))) (fun hHeld => ?_)
        clear hK K
        clear AY
        have AY := AY'
        clear AY'
        clear BC
        have BC := BC'
        clear BC'
        try simp only [List.setIfInBounds_toArray, List.set_cons_zero, List.set_cons_succ]
        generalize hw : W44.alloc (.cells #[.int .i64 0, .slice none 0 0] 24) = W54 at *
        clear hw
        generalize W44.heap.size = xb at *
        refine wpAnyH_ready (rs := [1]) (by kernel_rfl) (by decide) (AllReadyH.cons rfl (fun K hK => ?_) AllReadyH.nil)
        refine (if_pos rfl).mpr ?_
        go_wp2_with fail
        refine (unhide CP _ (set_bel (unhide HIN) (unhide BC))).mono ?_
        rintro e W55 ⟨S9, rfl, hput⟩
        have bel := hput.below
        have BC' := hide (below_on (unhide BC) bel)
        have PX := hide (PIn.of hput (unhide BC).size)
        have AX' := hide (blk_bel (unhide AX) bel)
        have AY' := hide (blk_bel (unhide AY) bel)
        obtain ⟨xr, xa, xc, xts⟩ := S9
        rw [SetV.val]
        simp only
        refine hK.out _ _ (hHeld.bel bel) (fun hHeld => ?_)
        clear hK K bel hput
        clear AX
        have AX := AX'
        clear AX'
        clear AY
        have AY := AY'
        clear AY'
        clear BC
        have BC := BC'
        clear BC'
        try simp only [List.setIfInBounds_toArray, List.set_cons_zero, List.set_cons_succ]
        refine wpAnyH_ready (rs := [3]) (by kernel_rfl) (by decide) (AllReadyH.cons rfl (fun K hK => ?_) AllReadyH.nil)
        refine (if_pos rfl).mpr ?_
        go_wp2_with fail
        refine (unhide CP _ (set_bel (unhide HIN) (unhide BC))).mono ?_
        rintro e W56 ⟨S9, rfl, hput⟩
        have bel := hput.below
        have BC' := hide (below_on (unhide BC) bel)
        have PY := hide (PIn.of hput (unhide BC).size)
        have AX' := hide (blk_bel (unhide AX) bel)
        have AY' := hide (blk_bel (unhide AY) bel)
        have PX' := hide ((unhide PX).bel bel)
        obtain ⟨yr, ya, yc, yts⟩ := S9
        rw [SetV.val]
        simp only
        refine hK.out _ _ (hHeld.bel bel) (fun hHeld => ?_)
        clear hK K bel hput
        clear AX
        have AX := AX'
        clear AX'
        clear AY
        have AY := AY'
        clear AY'
        clear PX
        have PX := PX'
        clear PX'
        clear BC
        have BC := BC'
        clear BC'
        try simp only [List.setIfInBounds_toArray, List.set_cons_zero, List.set_cons_succ]
        refine wpAnyH_ready (rs := [6]) (by kernel_rfl) (by decide) (AllReadyH.cons rfl (fun K hK => ?_) AllReadyH.nil)
        have z0 : W56.cell? ⟨xb, 0, none⟩ = some (.int .i64 0) := cell_block (unhide AX)
        have z1 : W56.cell? ⟨xb, 1, none⟩ = some (.slice none 0 0) := cell_block (unhide AX)
        have zf := fun j => frozen_block (j := j) (unhide AX)
        have BC' := hide (((unhide BC).setCell (p := ⟨xb, 0, none⟩) (Nat.le_of_lt (unhide GX)) (.int .i64 xr)).setCell (p := ⟨xb, 1, none⟩) (Nat.le_of_lt (unhide GX)) (.slice xa xts.length xc))
        have AX' := hide (two_set (.int .i64 xr) (.slice xa xts.length xc) (unhide AX))
        have AY' := hide (far_set (j := 1) (.slice xa xts.length xc) (far_set (j := 0) (.int .i64 xr) (unhide AY) (unhide HNE)) (unhide HNE))
        have PX' := hide (((unhide PX).set (unhide AX) 0 (.int .i64 xr)).set (block_set (j := 0) (u := .int .i64 xr) (unhide AX)) 1 (.slice xa xts.length xc))
        have PY' := hide (((unhide PY).set (unhide AX) 0 (.int .i64 xr)).set (block_set (j := 0) (u := .int .i64 xr) (unhide AX)) 1 (.slice xa xts.length xc))
        have hS := (hHeld.far (x := xb) (j := 0) (Nat.ne_of_lt (unhide GX)) (.int .i64 xr)).far (x := xb) (j := 1) (Nat.ne_of_lt (unhide GX)) (.slice xa xts.length xc)
        go_simp
        refine hK.out _ _ hS (fun hHeld => ?_)
        clear hK K z0 z1 zf hS
        clear AX
        have AX := AX'
        clear AX'
        clear AY
        have AY := AY'
        clear AY'
        clear PX
        have PX := PX'
        clear PX'
        clear PY
        have PY := PY'
        clear PY'
        clear BC
        have BC := BC'
        clear BC'
        try simp only [List.setIfInBounds_toArray, List.set_cons_zero, List.set_cons_succ]
        generalize hw : (W56.setCell ⟨xb, 0, none⟩ (.int .i64 xr)).setCell ⟨xb, 1, none⟩ (.slice xa xts.length xc) = W57 at *
        clear hw
        refine wpAnyH_ready (rs := [7]) (by kernel_rfl) (by decide) (AllReadyH.cons rfl (fun K hK => ?_) AllReadyH.nil)
        have z0 : W57.cell? ⟨yb, 0, none⟩ = some (.int .i64 0) := cell_block (unhide AY)
        have z1 : W57.cell? ⟨yb, 1, none⟩ = some (.slice none 0 0) := cell_block (unhide AY)
        have zf := fun j => frozen_block (j := j) (unhide AY)
        have BC' := hide (((unhide BC).setCell (p := ⟨yb, 0, none⟩) (Nat.le_of_lt (unhide GY)) (.int .i64 yr)).setCell (p := ⟨yb, 1, none⟩) (Nat.le_of_lt (unhide GY)) (.slice ya yts.length yc))
        have AY' := hide (two_set (.int .i64 yr) (.slice ya yts.length yc) (unhide AY))
        have AX' := hide (far_set (j := 1) (.slice ya yts.length yc) (far_set (j := 0) (.int .i64 yr) (unhide AX) (unhide HNE).symm) (unhide HNE).symm)
        have PX' := hide (((unhide PX).set (unhide AY) 0 (.int .i64 yr)).set (block_set (j := 0) (u := .int .i64 yr) (unhide AY)) 1 (.slice ya yts.length yc))
        have PY' := hide (((unhide PY).set (unhide AY) 0 (.int .i64 yr)).set (block_set (j := 0) (u := .int .i64 yr) (unhide AY)) 1 (.slice ya yts.length yc))
        have hS := (hHeld.far (x := yb) (j := 0) (Nat.ne_of_lt (unhide GY)) (.int .i64 yr)).far (x := yb) (j := 1) (Nat.ne_of_lt (unhide GY)) (.slice ya yts.length yc)
        go_simp
        refine hK.out _ _ hS (fun hHeld => ?_)
        clear hK K z0 z1 zf hS
        clear AX
        have AX := AX'
        clear AX'
        clear AY
        have AY := AY'
        clear AY'
        clear PX
        have PX := PX'
        clear PX'
        clear PY
        have PY := PY'
        clear PY'
        clear BC
        have BC := BC'
        clear BC'
        try simp only [List.setIfInBounds_toArray, List.set_cons_zero, List.set_cons_succ]
        generalize hw : (W57.setCell ⟨yb, 0, none⟩ (.int .i64 yr)).setCell ⟨yb, 1, none⟩ (.slice ya yts.length yc) = W58 at *
        clear hw
        refine wpAnyH_done (by kernel_rfl) ?_ _
        exact ⟨rfl, xb, yb, ⟨xr, xa, xc, xts⟩, ⟨yr, ya, yc, yts⟩, unhide AX, unhide AY, unhide HNE, unhide GX, unhide GY, unhide PX, unhide PY, unhide BC, frame_at rfl⟩
  clear BC hbox c0 c1
  rintro e a4 w4 ⟨rfl, xb, yb, X, Y, hx, hy, hxy, hxg, hyg, pX, pY, bel, f, rfl⟩
  obtain ⟨t1, t2⟩ := reload_times (n := n) pX pY i
  have rX := own_range (s := ⟨1, X.ao, X.cap, X.ts⟩) (by simp) i
  have rM := made_range (s := ⟨1, X.ao, X.cap, X.ts⟩) (by simp) i
  have pX5 := ((pX.set hx 0 (.int .i64 1)).set (far_set (j := 0) (.int .i64 1) hy hxy) 0 (.int .i64 n))
  have pY5 := ((pY.set hx 0 (.int .i64 1)).set (far_set (j := 0) (.int .i64 1) hy hxy) 0 (.int .i64 n))
  have CX1 := hide (fun W (h : SetIn W ⟨1, X.ao, X.cap, X.ts⟩) => unhide HO ⟨1, X.ao, X.cap, X.ts⟩ i W h (pin_all pX (unhide HALL) (by decide)) (unhide HI))
  have CX2 := hide (fun W (h : SetIn W ⟨1, X.ao, X.cap, X.ts⟩) => unhide HM ⟨1, X.ao, X.cap, X.ts⟩ i W h (pin_all pX (unhide HALL) (by decide)) (unhide HI))
  have CY1 := hide (fun W (h : SetIn W ⟨n, Y.ao, Y.cap, Y.ts⟩) => unhide HO ⟨n, Y.ao, Y.cap, Y.ts⟩ i W h (pin_all pY (unhide HALL) (by omega)) (unhide HI))
  have CY2 := hide (fun W (h : SetIn W ⟨n, Y.ao, Y.cap, Y.ts⟩) => unhide HM ⟨n, Y.ao, Y.cap, Y.ts⟩ i W h (pin_all pY (unhide HALL) (by omega)) (unhide HI))
  rw [t1] at CY1
  rw [t2] at CY2
  have SX := hide (PIn.setIn (unhide HIN) pX5 (n := 1) (by simp [I64]))
  have SY := hide (PIn.setIn (unhide HIN) pY5 (n := n) (by unfold I64; omega))
  have B5 := hide ((bel.setCell (p := ⟨xb, 0, none⟩) (by show w.heap.size ≤ xb; omega) (.int .i64 1)).setCell (p := ⟨yb, 0, none⟩) (by show w.heap.size ≤ yb; omega) (.int .i64 n))
  have hx5 : ((w4.setCell ⟨xb, 0, none⟩ (.int .i64 1)).setCell ⟨yb, 0, none⟩ (.int .i64 n)).heap[xb]? = some (.cells #[.int .i64 1, .slice X.ao X.ts.length X.cap] 24 (0, 0)) := far_set _ (by simpa using block_set (j := 0) (u := .int .i64 1) hx) hxy.symm
  have hy5 : ((w4.setCell ⟨xb, 0, none⟩ (.int .i64 1)).setCell ⟨yb, 0, none⟩ (.int .i64 n)).heap[yb]? = some (.cells #[.int .i64 n, .slice Y.ao Y.ts.length Y.cap] 24 (0, 0)) := by simpa using block_set (j := 0) (u := .int .i64 n) (far_set (j := 0) (.int .i64 1) hy hxy)
  have hbox : TwoBox ((w4.setCell ⟨xb, 0, none⟩ (.int .i64 1)).setCell ⟨yb, 0, none⟩ (.int .i64 n)) xb yb (.int .i64 1) (.slice X.ao X.ts.length X.cap) (.int .i64 n) (.slice Y.ao Y.ts.length Y.cap) := ⟨cell_block hx5, cell_block hx5, cell_block hy5, cell_block hy5⟩
  have x0 : w4.cell? ⟨xb, 0, none⟩ = some (.int .i64 X.reload) := cell_block hx
  have y0 : w4.cell? ⟨yb, 0, none⟩ = some (.int .i64 Y.reload) := cell_block hy
  have fx := fun j => frozen_block (j := j) hx
  have fy := fun j => frozen_block (j := j) hy
  generalize ownZ ⟨1, X.ao, X.cap, X.ts⟩ i = ox at *
  generalize madeZ ⟨1, X.ao, X.cap, X.ts⟩ i = mx at *
  have z1 := times_range hn rX
  have z2 := times_range hn rM
  have hw1 := i64_is (n * ox) ⟨by omega, by omega⟩
  have hw2 := i64_is (n * mx) ⟨by omega, by omega⟩
  clear t1 t2 pX pY pX5 pY5 hx5 hy5 bel hx hy HO HM HALL HI HIN CP
  obtain ⟨xr, xa, xc, xts⟩ := X
  obtain ⟨yr, ya, yc, yts⟩ := Y
  simp only at CX1 CX2 CY1 CY2 SX SY hbox x0 y0
  have RB := hide hbox
  clear hbox
  go_wp2_with fail
  have hbox := unhide RB
  generalize hw5 : ((w4.setCell ⟨xb, 0, none⟩ (.int .i64 1)).setCell ⟨yb, 0, none⟩ (.int .i64 n)) = w5 at *
  clear hw5 x0 y0 fx fy
  have BR := hide (Below.refl w5.heap.size w5)
  have D0 := hide (unhide BR).drew
  have VD := hide (unhide B5).drew
  refine wp_region_held_drew (S := (fun w9 => TwoBox w9 xb yb (.int .i64 1) (.slice xa xts.length xc) (.int .i64 n) (.slice ya yts.length yc))) (by kernel_rfl) (hbox.drew) (fun hHeld => ?_)
  refine take_yes 0 33 (.agg #[.int .i64 n, .slice ya yts.length yc]) rfl rfl (by kernel_rfl) (by kernel_rfl) (by kernel_rfl) (fun _ _ _ h => h) rfl (by assumption) (by intro w9 hS9; obtain ⟨s0, s1, s2, s3⟩ := hS9; go_simp) ?_
  simp only [List.setIfInBounds_toArray, List.set_cons_zero, List.set_cons_succ]
  refine take_yes 1 34 (.int .i64 i) rfl rfl (by kernel_rfl) (by kernel_rfl) (by kernel_rfl) (fun _ _ _ h => h) rfl (by assumption) (by intro w9 hS9; obtain ⟨s0, s1, s2, s3⟩ := hS9; go_simp) ?_
  simp only [List.setIfInBounds_toArray, List.set_cons_zero, List.set_cons_succ]
  refine take_yes 3 36 (.int .i64 n) rfl rfl (by kernel_rfl) (by kernel_rfl) (by kernel_rfl) (fun _ _ _ h => h) rfl (by assumption) (by intro w9 hS9; obtain ⟨s0, s1, s2, s3⟩ := hS9; go_simp) ?_
  simp only [List.setIfInBounds_toArray, List.set_cons_zero, List.set_cons_succ]
  refine take_yes 4 37 (.agg #[.int .i64 1, .slice xa xts.length xc]) rfl rfl (by kernel_rfl) (by kernel_rfl) (by kernel_rfl) (fun _ _ _ h => h) rfl (by assumption) (by intro w9 hS9; obtain ⟨s0, s1, s2, s3⟩ := hS9; go_simp) ?_
  simp only [List.setIfInBounds_toArray, List.set_cons_zero, List.set_cons_succ]
  refine take_yes 5 38 (.int .i64 i) rfl rfl (by kernel_rfl) (by kernel_rfl) (by kernel_rfl) (fun _ _ _ h => h) rfl (by assumption) (by intro w9 hS9; obtain ⟨s0, s1, s2, s3⟩ := hS9; go_simp) ?_
  simp only [List.setIfInBounds_toArray, List.set_cons_zero, List.set_cons_succ]
  refine wpAnyH_ready (rs := [2]) (by kernel_rfl) (by decide) (AllReadyH.cons rfl (fun K hK => ?_) AllReadyH.nil)
  refine (if_pos rfl).mpr ?_
  go_wp2_with fail
  refine (unhide CY1 w5.drew (set_bel (unhide SY) (unhide D0))).mono ?_
  rintro e v1 ⟨rfl, bel⟩
  have N1 := hide (below_on (unhide D0) bel)
  have V1 := hide (below_on (unhide VD) bel)
  refine hK.out _ _ (hHeld.bel bel) (fun hHeld => ?_)
  clear hK K bel
  refine wpAnyH_ready (rs := [6]) (by kernel_rfl) (by decide) (AllReadyH.cons rfl (fun K hK => ?_) AllReadyH.nil)
  refine (if_pos rfl).mpr ?_
  go_wp2_with fail
  refine (unhide CX1 v1 (set_bel (unhide SX) (unhide N1))).mono ?_
  rintro e v2 ⟨rfl, bel⟩
  have N2 := hide (below_on (unhide N1) bel)
  have V2 := hide (below_on (unhide V1) bel)
  refine hK.out _ _ (hHeld.bel bel) (fun hHeld => ?_)
  clear hK K bel
  refine take_yes 7 40 (.int .i64 (n * ox)) rfl rfl (by kernel_rfl) (by kernel_rfl) (by kernel_rfl) (fun _ _ _ h => h) rfl (by assumption) (by intro w9 hS9; obtain ⟨s0, s1, s2, s3⟩ := hS9; go_simp) ?_
  simp only [List.setIfInBounds_toArray, List.set_cons_zero, List.set_cons_succ]
  refine take_yes 8 41 (.bool true) rfl rfl (by kernel_rfl) (by kernel_rfl) (by kernel_rfl) (fun _ _ _ h => h) rfl (by assumption) (by intro w9 hS9; obtain ⟨s0, s1, s2, s3⟩ := hS9; go_simp) ?_
  simp only [List.setIfInBounds_toArray, List.set_cons_zero, List.set_cons_succ]
  refine take_yes 9 42 (.bool true) rfl rfl (by kernel_rfl) (by kernel_rfl) (by kernel_rfl) (fun _ _ _ h => h) rfl (by assumption) (by intro w9 hS9; obtain ⟨s0, s1, s2, s3⟩ := hS9; go_simp) ?_
  simp only [List.setIfInBounds_toArray, List.set_cons_zero, List.set_cons_succ]
  refine take_yes 10 43 (.agg #[.int .i64 n, .slice ya yts.length yc]) rfl rfl (by kernel_rfl) (by kernel_rfl) (by kernel_rfl) (fun _ _ _ h => h) rfl (by assumption) (by intro w9 hS9; obtain ⟨s0, s1, s2, s3⟩ := hS9; go_simp) ?_
  simp only [List.setIfInBounds_toArray, List.set_cons_zero, List.set_cons_succ]
  refine take_yes 11 44 (.int .i64 i) rfl rfl (by kernel_rfl) (by kernel_rfl) (by kernel_rfl) (fun _ _ _ h => h) rfl (by assumption) (by intro w9 hS9; obtain ⟨s0, s1, s2, s3⟩ := hS9; go_simp) ?_
  simp only [List.setIfInBounds_toArray, List.set_cons_zero, List.set_cons_succ]
  refine take_yes 13 46 (.int .i64 n) rfl rfl (by kernel_rfl) (by kernel_rfl) (by kernel_rfl) (fun _ _ _ h => h) rfl (by assumption) (by intro w9 hS9; obtain ⟨s0, s1, s2, s3⟩ := hS9; go_simp) ?_
  simp only [List.setIfInBounds_toArray, List.set_cons_zero, List.set_cons_succ]
  refine take_yes 14 47 (.agg #[.int .i64 1, .slice xa xts.length xc]) rfl rfl (by kernel_rfl) (by kernel_rfl) (by kernel_rfl) (fun _ _ _ h => h) rfl (by assumption) (by intro w9 hS9; obtain ⟨s0, s1, s2, s3⟩ := hS9; go_simp) ?_
  simp only [List.setIfInBounds_toArray, List.set_cons_zero, List.set_cons_succ]
  refine take_yes 15 48 (.int .i64 i) rfl rfl (by kernel_rfl) (by kernel_rfl) (by kernel_rfl) (fun _ _ _ h => h) rfl (by assumption) (by intro w9 hS9; obtain ⟨s0, s1, s2, s3⟩ := hS9; go_simp) ?_
  simp only [List.setIfInBounds_toArray, List.set_cons_zero, List.set_cons_succ]
  refine wpAnyH_ready (rs := [12]) (by kernel_rfl) (by decide) (AllReadyH.cons rfl (fun K hK => ?_) AllReadyH.nil)
  refine (if_pos rfl).mpr ?_
  go_wp2_with fail
  refine (unhide CY2 v2 (set_bel (unhide SY) (unhide N2))).mono ?_
  rintro e v3 ⟨rfl, bel⟩
  have N3 := hide (below_on (unhide N2) bel)
  have V3 := hide (below_on (unhide V2) bel)
  refine hK.out _ _ (hHeld.bel bel) (fun hHeld => ?_)
  clear hK K bel
  refine wpAnyH_ready (rs := [16]) (by kernel_rfl) (by decide) (AllReadyH.cons rfl (fun K hK => ?_) AllReadyH.nil)
  refine (if_pos rfl).mpr ?_
  go_wp2_with fail
  refine (unhide CX2 v3 (set_bel (unhide SX) (unhide N3))).mono ?_
  rintro e v4 ⟨rfl, bel⟩
  have N4 := hide (below_on (unhide N3) bel)
  have V4 := hide (below_on (unhide V3) bel)
  refine hK.out _ _ (hHeld.bel bel) (fun hHeld => ?_)
  clear hK K bel
  refine take_yes 17 50 (.int .i64 (n * mx)) rfl rfl (by kernel_rfl) (by kernel_rfl) (by kernel_rfl) (fun _ _ _ h => h) rfl (by assumption) (by intro w9 hS9; obtain ⟨s0, s1, s2, s3⟩ := hS9; go_simp) ?_
  simp only [List.setIfInBounds_toArray, List.set_cons_zero, List.set_cons_succ]
  refine take_yes 18 51 (.bool true) rfl rfl (by kernel_rfl) (by kernel_rfl) (by kernel_rfl) (fun _ _ _ h => h) rfl (by assumption) (by intro w9 hS9; obtain ⟨s0, s1, s2, s3⟩ := hS9; go_simp) ?_
  simp only [List.setIfInBounds_toArray, List.set_cons_zero, List.set_cons_succ]
  refine take_yes 19 52 (.bool true) rfl rfl (by kernel_rfl) (by kernel_rfl) (by kernel_rfl) (fun _ _ _ h => h) rfl (by assumption) (by intro w9 hS9; obtain ⟨s0, s1, s2, s3⟩ := hS9; go_simp) ?_
  simp only [List.setIfInBounds_toArray, List.set_cons_zero, List.set_cons_succ]
  refine take_yes 20 53 (.bool true) rfl rfl (by kernel_rfl) (by kernel_rfl) (by kernel_rfl) (fun _ _ _ h => h) rfl (by assumption) (by intro w9 hS9; obtain ⟨s0, s1, s2, s3⟩ := hS9; go_simp) ?_
  simp only [List.setIfInBounds_toArray, List.set_cons_zero, List.set_cons_succ]
  refine wpAnyH_ready (rs := [21]) (by kernel_rfl) (by decide) (AllReadyH.cons rfl (fun K hK => ?_) AllReadyH.nil)
  refine (if_pos rfl).mpr ?_
  go_wp2_with fail
  refine (unhide CK v4).mono ?_
  rintro e v5 ⟨rfl, bel⟩
  have N5 := hide (below_on (unhide N4) bel)
  have V5 := hide (below_on (unhide V4) bel)
  refine hK.out _ _ (hHeld.bel bel) (fun hHeld => ?_)
  clear hK K bel
  refine take_yes 22 55 (.bool true) rfl rfl (by kernel_rfl) (by kernel_rfl) (by kernel_rfl) (fun _ _ _ h => h) rfl (by assumption) (by intro w9 hS9; obtain ⟨s0, s1, s2, s3⟩ := hS9; go_simp) ?_
  simp only [List.setIfInBounds_toArray, List.set_cons_zero, List.set_cons_succ]
  refine take_yes 23 6 (.bool true) rfl rfl (by kernel_rfl) (by kernel_rfl) (by kernel_rfl) (fun _ _ _ h => h) rfl (by assumption) (by intro w9 hS9; obtain ⟨s0, s1, s2, s3⟩ := hS9; go_simp) ?_
  simp only [List.setIfInBounds_toArray, List.set_cons_zero, List.set_cons_succ]
  refine wpAnyH_done (by kernel_rfl) ?_ _
  go_wp2
  go_ret
  exact ⟨rfl, unhide V5⟩
theorem areload_law (hO : COwn) (hM : CMade) (s : SetV) (n i : Int) (w : World) (hs : SetIn w s) (hi : I64 i) : Calls Try.prog 6 #[s.val, .int .i64 n, .int .i64 i] w fun e w' => e = .returned (.bool true) ∧ Below w.heap.size w w' := by
  by_cases h : (10 : Int) < s.ts.length ∨ allB s = false ∨ n < 0 ∨ 100 < n
  · exact areload_no s n i w hs h
  · have hall : allB s = true := by
      cases e : allB s
      · exact absurd (.inr (.inl e)) h
      · rfl
    exact areload_yes hO hM s n i w hs hi (by omega) (by omega) hall
end Go.Proofs.Ytfcgpioegmajiaa.Lex
