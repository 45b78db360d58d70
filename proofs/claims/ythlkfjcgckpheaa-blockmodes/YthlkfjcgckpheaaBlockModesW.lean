/- The laws of chapter 9, over what package block answers: one task in all modes. -/
import Derived.Test.YthlkfjcgckpheaaBlockHeld
import Derived.Test.YthlkfjcgckpheaaLexFlow
namespace Go.Proofs.Ythlkfjcgckpheaa.Lex
open Go.ChangeShapes Go.WideShapes Go.RowKit

theorem put_apart {W W' : World} {B : Nat} {s X Y : SetV} (h : PIn W B s X) (k : PutOf W W' s Y) (hne : 0 < s.ts.length) : X.ao ≠ Y.ao := by
  intro e
  rcases k.row.2 with ⟨e', h0⟩ | ⟨g, c, cur, e', hb, -⟩
  · rw [k.len] at h0; omega
  · have e1 : Y.ao = some ⟨g, 0, none⟩ := (Value.slice.inj e').1
    have := (World.ownsRow.lt h.row g (by rw [e, e1]; rfl)).2
    omega
theorem pin_at {W : World} {B : Nat} {s X : SetV} (h : PIn W B s X) (hne : 0 < s.ts.length) : ∃ g, X.ao = some ⟨g, 0, none⟩ := by
  rcases h.row.2 with ⟨e', h0⟩ | ⟨g, c, cur, e', -⟩
  · rw [h.len] at h0; omega
  · exact ⟨g, (Value.slice.inj e').1⟩
theorem is_mode {t : TaskV} {p m q th : Int} (h : isB t p = true) (hm : modeB m q th p = true) : isB { t with mode := m, Q := q, theta := th } p = true := by
  simp only [isB, Bool.and_eq_true] at h ⊢
  exact ⟨h.1, h.2.1, h.2.2.1, h.2.2.2.1, h.2.2.2.2.1, h.2.2.2.2.2.1, h.2.2.2.2.2.2.1, h.2.2.2.2.2.2.2.1, hm⟩
/- what the document says of such a set -/
theorem chg_of {s X : SetV} {W : World} {B k : Nat} {m q th high : Int} (hp : PIn W B s X) (hk : k < s.ts.length) (hh : 0 ≤ high ∧ high < k) :
    ofZ ⟨X.reload, X.ao, X.cap, X.ts.set k { X.ts.getD k task0 with mode := m, Q := q, theta := th }⟩ k high = wayZ { s.ts.getD k task0 with mode := m, Q := q, theta := th } (ownZ s k) high := by
  have hk' : k < X.ts.length := by rw [hp.len]; exact hk
  obtain ⟨ao, cap, hc⟩ := hp.copy k hk
  have e : ownZ ⟨X.reload, X.ao, X.cap, X.ts.set k { X.ts.getD k task0 with mode := m, Q := q, theta := th }⟩ k = ownZ s k := by
    rw [ownZ, ownZ, if_pos (in_nat (by simp only [List.length_set]; exact hk')), if_pos (in_nat hk)]
    simp only [Int.toNat_natCast]
    rw [set_at _ hk', hc, hp.reload]
  rw [ofZ, if_pos ⟨hh.1, hh.2, by simp only [List.length_set]; omega⟩, e]
  simp only [Int.toNat_natCast]
  rw [set_at _ hk', hc]
  rfl
set_option maxHeartbeats 6400000 in
theorem bmodes_law (hO : CBOf) (hM : CBMost) (s : SetV) (low high q theta : Int) (w : World) (hs : SetIn w s) (hl : I64 low) (hh : I64 high) (_ : I64 q) (_ : I64 theta) : Calls Try.prog 4 #[s.val, .int .i64 low, .int .i64 high, .int .i64 q, .int .i64 theta] w fun e w' => e = .returned (.bool true) ∧ Below w.heap.size w w' := by
  have hlen := hs.len
  have CK := hide (fun w => bknown_any hO hM w)
  by_cases h10 : (10 : Int) < s.ts.length
  · go_enter Try.func4, Try.ntmps4
    rw [SetV.val]
    go_wp2
    go_ret
    exact ⟨rfl, (Below.refl _ _).alloc (Nat.le_refl _) _⟩
  have CA := hide (fun w h => rall_any s w h)
  cases hb : allB s
  · rw [hb] at CA
    clear hb
    go_enter Try.func4, Try.ntmps4
    rw [SetV.val]
    go_wp2_with fail
    refine (unhide CA _ (set_bel hs ((Below.refl _ _).alloc (Nat.le_refl _) _))).mono ?_
    rintro e w1 ⟨rfl, bel⟩
    have B1 := hide (bel_box (Below.refl _ _) bel)
    obtain ⟨c0, c1⟩ := (sbox_new w s 24).bel bel
    clear bel
    go_wp2
    go_ret
    exact ⟨rfl, unhide B1⟩
  rw [hb] at CA
  by_cases q0 : high < 0
  · clear hb
    go_enter Try.func4, Try.ntmps4
    rw [SetV.val]
    go_wp2_with fail
    refine (unhide CA _ (set_bel hs ((Below.refl _ _).alloc (Nat.le_refl _) _))).mono ?_
    rintro e w1 ⟨rfl, bel⟩
    have B1 := hide (bel_box (Below.refl _ _) bel)
    obtain ⟨c0, c1⟩ := (sbox_new w s 24).bel bel
    clear bel
    go_wp2
    go_ret
    exact ⟨rfl, unhide B1⟩
  by_cases q1 : low ≤ high
  · clear hb
    go_enter Try.func4, Try.ntmps4
    rw [SetV.val]
    go_wp2_with fail
    refine (unhide CA _ (set_bel hs ((Below.refl _ _).alloc (Nat.le_refl _) _))).mono ?_
    rintro e w1 ⟨rfl, bel⟩
    have B1 := hide (bel_box (Below.refl _ _) bel)
    obtain ⟨c0, c1⟩ := (sbox_new w s 24).bel bel
    clear bel
    go_wp2
    go_ret
    exact ⟨rfl, unhide B1⟩
  by_cases q2 : (s.ts.length : Int) ≤ low
  · clear hb
    go_enter Try.func4, Try.ntmps4
    rw [SetV.val]
    go_wp2_with fail
    refine (unhide CA _ (set_bel hs ((Below.refl _ _).alloc (Nat.le_refl _) _))).mono ?_
    rintro e w1 ⟨rfl, bel⟩
    have B1 := hide (bel_box (Below.refl _ _) bel)
    obtain ⟨c0, c1⟩ := (sbox_new w s 24).bel bel
    clear bel
    go_wp2
    go_ret
    exact ⟨rfl, unhide B1⟩
  by_cases q3 : q < 0
  · clear hb
    go_enter Try.func4, Try.ntmps4
    rw [SetV.val]
    go_wp2_with fail
    refine (unhide CA _ (set_bel hs ((Below.refl _ _).alloc (Nat.le_refl _) _))).mono ?_
    rintro e w1 ⟨rfl, bel⟩
    have B1 := hide (bel_box (Below.refl _ _) bel)
    obtain ⟨c0, c1⟩ := (sbox_new w s 24).bel bel
    clear bel
    go_wp2
    go_ret
    exact ⟨rfl, unhide B1⟩
  by_cases q4 : 10000 < q
  · clear hb
    go_enter Try.func4, Try.ntmps4
    rw [SetV.val]
    go_wp2_with fail
    refine (unhide CA _ (set_bel hs ((Below.refl _ _).alloc (Nat.le_refl _) _))).mono ?_
    rintro e w1 ⟨rfl, bel⟩
    have B1 := hide (bel_box (Below.refl _ _) bel)
    obtain ⟨c0, c1⟩ := (sbox_new w s 24).bel bel
    clear bel
    go_wp2
    go_ret
    exact ⟨rfl, unhide B1⟩
  by_cases q5 : theta < 0
  · clear hb
    go_enter Try.func4, Try.ntmps4
    rw [SetV.val]
    go_wp2_with fail
    refine (unhide CA _ (set_bel hs ((Below.refl _ _).alloc (Nat.le_refl _) _))).mono ?_
    rintro e w1 ⟨rfl, bel⟩
    have B1 := hide (bel_box (Below.refl _ _) bel)
    obtain ⟨c0, c1⟩ := (sbox_new w s 24).bel bel
    clear bel
    go_wp2
    go_ret
    exact ⟨rfl, unhide B1⟩
  by_cases q6 : low < theta
  · clear hb
    go_enter Try.func4, Try.ntmps4
    rw [SetV.val]
    go_wp2_with fail
    refine (unhide CA _ (set_bel hs ((Below.refl _ _).alloc (Nat.le_refl _) _))).mono ?_
    rintro e w1 ⟨rfl, bel⟩
    have B1 := hide (bel_box (Below.refl _ _) bel)
    obtain ⟨c0, c1⟩ := (sbox_new w s 24).bel bel
    clear bel
    go_wp2
    go_ret
    exact ⟨rfl, unhide B1⟩
  obtain ⟨k, rfl⟩ : ∃ k : Nat, low = k := ⟨low.toNat, by omega⟩
  have hk : k < s.ts.length := by omega
  have hne0 : 0 < s.ts.length := by omega
  have hu : ∀ t ∈ s.ts, U64 t.ecb ∧ U64 t.ucb := fun t ht => ⟨(hs.each t ht).ecb, (hs.each t ht).ucb⟩
  obtain ⟨hr, h8, -, hfit⟩ := all_fits hb hu
  have hwr := (way_range (hfit k hk) (own_range hr (k : Int)) high).2.2
  have HE : Hid (wholeZ s k = workZ (s.ts.getD k task0).regs + ownZ s k - 1) := rfl
  have CP := hide (fun w h => rput_any s w h (by omega))
  have CW := hide (fun w h => rwhole_any s k w h hb hk)
  have HO := hide hO
  have HALL := hide hb
  have HIN := hide hs
  have HL := hide hl
  have HH := hide hh
  have HRR := hide hs.reload
  clear hO hM hb hs hl hh hu hfit
  go_enter Try.func4, Try.ntmps4
  rw [SetV.val]
  go_wp2_with fail
  refine (unhide CA _ (set_bel (unhide HIN) ((Below.refl _ _).alloc (Nat.le_refl _) _))).mono ?_
  rintro e w1 ⟨rfl, bel⟩
  have BC := hide (bel_box (Below.refl _ _) bel).drew
  have hbox := ((sbox_new w s 24).bel bel).drew
  obtain ⟨c0, c1⟩ := (sbox_new w s 24).bel bel
  clear bel CA
  go_wp2_with fail
  refine Code.wp_mono (Q := fun e a' w' => e = .normal ∧ ∃ (xb yb : Nat) (X Y : SetV), w'.heap[xb]? = some (.cells #[.int .i64 X.reload, .slice X.ao X.ts.length X.cap] 24 (0, 0)) ∧ w'.heap[yb]? = some (.cells #[.int .i64 Y.reload, .slice Y.ao Y.ts.length Y.cap] 24 (0, 0)) ∧ xb ≠ yb ∧ w.heap.size < xb ∧ w.heap.size < yb ∧ PIn w' (w.heap.size + 1) s X ∧ PIn w' (w.heap.size + 1) s Y ∧ X.ao ≠ Y.ao ∧ Below w.heap.size w w' ∧ SBox w' w.heap.size s ∧ ∃ f : Nat → Value, a' = { tmps := #[f 0, .int .i64 k, .int .i64 high, .int .i64 q, .int .i64 theta, .pointer (some ⟨w.heap.size, 0, none⟩), f 6, f 7, f 8, f 9, f 10, .pointer (some ⟨xb, 0, none⟩), .pointer (some ⟨yb, 0, none⟩), f 13, f 14, f 15, f 16, f 17, f 18, f 19, f 20, f 21, f 22, f 23, f 24, f 25, f 26, f 27, f 28, f 29, f 30, f 31, f 32, f 33, f 34, f 35, f 36, f 37, f 38, f 39, f 40, f 41, f 42, f 43, f 44, f 45, f 46, f 47, f 48, f 49, f 50, f 51, f 52, f 53, f 54, f 55, f 56, f 57, f 58, f 59, f 60, f 61, f 62, f 63, f 64, f 65, f 66, f 67, f 68, f 69, f 70, f 71, f 72, f 73, f 74, f 75, f 76, f 77, f 78, f 79, f 80, f 81, f 82, f 83, f 84, f 85, f 86, f 87, f 88, f 89, f 90, f 91, f 92, f 93, f 94, f 95, f 96, f 97, f 98, f 99, f 100, f 101, f 102, f 103, f 104, f 105, f 106, f 107, f 108, f 109, f 110, f 111, f 112, f 113, f 114, f 115, f 116, f 117, f 118], defers := [] }) ?_ ?_
  rotate_left
  · refine wp_region_held_drew (S := fun w9 => SBox w9 w.heap.size s) (by kernel_rfl) hbox (fun hHeld => ?_)
    clear hbox c0 c1
    generalize w1.drew = W0 at *
    refine take_yes 0 57 (.agg #[.int .i64 s.reload, .slice s.ao s.ts.length s.cap]) rfl rfl (by kernel_rfl) (by kernel_rfl) (by kernel_rfl) (fun _ _ _ h => nomatch h.1) rfl (by assumption) (by intro w9 hS9; obtain ⟨s0, s1⟩ := hS9; go_simp) ?_
    simp only [List.setIfInBounds_toArray, List.set_cons_zero, List.set_cons_succ]
    refine take_yes 2 59 (.agg #[.int .i64 s.reload, .slice s.ao s.ts.length s.cap]) rfl rfl (by kernel_rfl) (by kernel_rfl) (by kernel_rfl) (fun _ _ _ h => nomatch h.1) rfl (by assumption) (by intro w9 hS9; obtain ⟨s0, s1⟩ := hS9; go_simp) ?_
    simp only [List.setIfInBounds_toArray, List.set_cons_zero, List.set_cons_succ]
    refine wpAnyH_ready (rs := [1, 4, 5]) (by kernel_rfl) (by decide) (AllReadyH.cons rfl (fun K hK => ?_) (AllReadyH.cons rfl (fun K hK => ?_) (AllReadyH.cons rfl (fun K hK => ?_) AllReadyH.nil)))
    · refine (if_pos rfl).mpr ?_
      go_wp2_with fail
      refine (unhide CP _ (set_bel (unhide HIN) (unhide BC))).mono ?_
      rintro e W1 ⟨S9, rfl, hput⟩
      have bel := hput.below
      have BC' := hide (below_on (unhide BC) bel)
      have PX := hide (PIn.of (B := w.heap.size + 1) hput (by have := World.block_lt_of_cell? _ _ hHeld.c0; simp only at this; omega))
      obtain ⟨xr, xa, xc, xts⟩ := S9
      rw [SetV.val]
      simp only
      refine hK.out _ _ (hHeld.bel bel) (fun hHeld => ?_)
      clear hK K bel hput
      clear BC
      have BC := BC'
      clear BC'
      try simp only [List.setIfInBounds_toArray, List.set_cons_zero, List.set_cons_succ]
      refine wpAnyH_ready (rs := [3, 4, 5]) (by kernel_rfl) (by decide) (AllReadyH.cons rfl (fun K hK => ?_) (AllReadyH.cons rfl (fun K hK => ?_) (AllReadyH.cons rfl (fun K hK => ?_) AllReadyH.nil)))
      · refine (if_pos rfl).mpr ?_
        go_wp2_with fail
        refine (unhide CP _ (set_bel (unhide HIN) (unhide BC))).mono ?_
        rintro e W2 ⟨S9, rfl, hput⟩
        have bel := hput.below
        have BC' := hide (below_on (unhide BC) bel)
        have PY := hide (PIn.of (B := w.heap.size + 1) hput (by have := World.block_lt_of_cell? _ _ hHeld.c0; simp only at this; omega))
        have HD := hide (put_apart (unhide PX) hput hne0)
        have PX' := hide ((unhide PX).bel bel)
        obtain ⟨yr, ya, yc, yts⟩ := S9
        rw [SetV.val]
        simp only
        refine hK.out _ _ (hHeld.bel bel) (fun hHeld => ?_)
        clear hK K bel hput
        clear PX
        have PX := PX'
        clear PX'
        clear BC
        have BC := BC'
        clear BC'
        try simp only [List.setIfInBounds_toArray, List.set_cons_zero, List.set_cons_succ]
        refine wpAnyH_ready (rs := [4, 5]) (by kernel_rfl) (by decide) (AllReadyH.cons rfl (fun K hK => ?_) (AllReadyH.cons rfl (fun K hK => ?_) AllReadyH.nil))
        · have BC' := hide ((unhide BC).alloc (unhide BC).size (.cells #[.int .i64 0, .slice none 0 0] 24))
          have AX := hide (heap_alloc_new W2 (.cells #[.int .i64 0, .slice none 0 0] 24))
          have GX : Hid (w.heap.size < W2.heap.size) := hide (World.block_lt_of_cell? W2 _ hHeld.c0)
          have PX' := hide ((unhide PX).bel (al_bel W2 (.cells #[.int .i64 0, .slice none 0 0] 24)))
          have PY' := hide ((unhide PY).bel (al_bel W2 (.cells #[.int .i64 0, .slice none 0 0] 24)))
          go_simp
          refine hK.out _ _ (hHeld.bel (al_bel W2 (.cells #[.int .i64 0, .slice none 0 0] 24))) (fun hHeld => ?_)
          clear hK K
          clear PX
          have PX := PX'
          clear PX'
          clear PY
          have PY := PY'
          clear PY'
          clear BC
          have BC := BC'
          clear BC'
          try simp only [List.setIfInBounds_toArray, List.set_cons_zero, List.set_cons_succ]
          generalize hw : W2.alloc (.cells #[.int .i64 0, .slice none 0 0] 24) = W3 at *
          clear hw
          generalize W2.heap.size = xb at *
          refine wpAnyH_ready (rs := [5]) (by kernel_rfl) (by decide) (AllReadyH.cons rfl (fun K hK => ?_) AllReadyH.nil)
          have BC' := hide ((unhide BC).alloc (unhide BC).size (.cells #[.int .i64 0, .slice none 0 0] 24))
          have AY := hide (heap_alloc_new W3 (.cells #[.int .i64 0, .slice none 0 0] 24))
          have GY : Hid (w.heap.size < W3.heap.size) := hide (World.block_lt_of_cell? W3 _ hHeld.c0)
          have HNE : Hid (xb ≠ W3.heap.size) := hide (by have := blk_lt (unhide AX); omega)
          have AX' := hide (blk_bel (unhide AX) (al_bel W3 (.cells #[.int .i64 0, .slice none 0 0] 24)))
          have PX' := hide ((unhide PX).bel (al_bel W3 (.cells #[.int .i64 0, .slice none 0 0] 24)))
          have PY' := hide ((unhide PY).bel (al_bel W3 (.cells #[.int .i64 0, .slice none 0 0] 24)))
          go_simp
          refine hK.out _ _ (hHeld.bel (al_bel W3 (.cells #[.int .i64 0, .slice none 0 0] 24))) (fun hHeld => ?_)
          clear hK K
          clear AX
          have AX := AX'
          clear AX'
          clear PX
          have PX := PX'
          clear PX'
          clear PY
          have PY := PY'
          clear PY'
          clear BC
          have BC := BC'
          clear BC'
          try simp only [List.setIfInBounds_toArray, List.set_cons_zero, List.set_cons_succ]
          generalize hw : W3.alloc (.cells #[.int .i64 0, .slice none 0 0] 24) = W4 at *
          clear hw
          generalize W3.heap.size = yb at *
          refine wpAnyH_ready (rs := [6]) (by kernel_rfl) (by decide) (AllReadyH.cons rfl (fun K hK => ?_) AllReadyH.nil)
          have z0 : W4.cell? ⟨xb, 0, none⟩ = some (.int .i64 0) := cell_block (unhide AX)
          have z1 : W4.cell? ⟨xb, 1, none⟩ = some (.slice none 0 0) := cell_block (unhide AX)
          have zf := fun j => frozen_block (j := j) (unhide AX)
          have BC' := hide (((unhide BC).setCell (p := ⟨xb, 0, none⟩) (Nat.le_of_lt (unhide GX)) (.int .i64 xr)).setCell (p := ⟨xb, 1, none⟩) (Nat.le_of_lt (unhide GX)) (.slice xa xts.length xc))
          have AX' := hide (two_set (.int .i64 xr) (.slice xa xts.length xc) (unhide AX))
          have AY' := hide (far_set (j := 1) (.slice xa xts.length xc) (far_set (j := 0) (.int .i64 xr) (unhide AY) (unhide HNE)) (unhide HNE))
          have PX' := hide (((unhide PX).set (unhide AX) 0 (.int .i64 xr)).set (block_set (j := 0) (u := .int .i64 xr) (unhide AX)) 1 (.slice xa xts.length xc))
          have PY' := hide (((unhide PY).set (unhide AX) 0 (.int .i64 xr)).set (block_set (j := 0) (u := .int .i64 xr) (unhide AX)) 1 (.slice xa xts.length xc))
          have hS := (hHeld.far (x := xb) (j := 0) (Nat.ne_of_lt (unhide GX)) (.int .i64 xr)).far (x := xb) (j := 1) (Nat.ne_of_lt (unhide GX)) (.slice xa xts.length xc)
          go_simp
          refine hK.out _ _ hS (fun hHeld => ?_)
          clear hK K z0 z1 zf hS
          clear AX
          have AX := AX'
          clear AX'
          clear AY
          have AY := AY'
          clear AY'
          clear PX
          have PX := PX'
          clear PX'
          clear PY
          have PY := PY'
          clear PY'
          clear BC
          have BC := BC'
          clear BC'
          try simp only [List.setIfInBounds_toArray, List.set_cons_zero, List.set_cons_succ]
          generalize hw : (W4.setCell ⟨xb, 0, none⟩ (.int .i64 xr)).setCell ⟨xb, 1, none⟩ (.slice xa xts.length xc) = W5 at *
          clear hw
          refine wpAnyH_ready (rs := [7]) (by kernel_rfl) (by decide) (AllReadyH.cons rfl (fun K hK => ?_) AllReadyH.nil)
          have z0 : W5.cell? ⟨yb, 0, none⟩ = some (.int .i64 0) := cell_block (unhide AY)
          have z1 : W5.cell? ⟨yb, 1, none⟩ = some (.slice none 0 0) := cell_block (unhide AY)
          have zf := fun j => frozen_block (j := j) (unhide AY)
          have BC' := hide (((unhide BC).setCell (p := ⟨yb, 0, none⟩) (Nat.le_of_lt (unhide GY)) (.int .i64 yr)).setCell (p := ⟨yb, 1, none⟩) (Nat.le_of_lt (unhide GY)) (.slice ya yts.length yc))
          have AY' := hide (two_set (.int .i64 yr) (.slice ya yts.length yc) (unhide AY))
          have AX' := hide (far_set (j := 1) (.slice ya yts.length yc) (far_set (j := 0) (.int .i64 yr) (unhide AX) (unhide HNE).symm) (unhide HNE).symm)
          have PX' := hide (((unhide PX).set (unhide AY) 0 (.int .i64 yr)).set (block_set (j := 0) (u := .int .i64 yr) (unhide AY)) 1 (.slice ya yts.length yc))
          have PY' := hide (((unhide PY).set (unhide AY) 0 (.int .i64 yr)).set (block_set (j := 0) (u := .int .i64 yr) (unhide AY)) 1 (.slice ya yts.length yc))
          have hS := (hHeld.far (x := yb) (j := 0) (Nat.ne_of_lt (unhide GY)) (.int .i64 yr)).far (x := yb) (j := 1) (Nat.ne_of_lt (unhide GY)) (.slice ya yts.length yc)
          go_simp
          refine hK.out _ _ hS (fun hHeld => ?_)
          clear hK K z0 z1 zf hS
          clear AX
          have AX := AX'
          clear AX'
          clear AY
          have AY := AY'
          clear AY'
          clear PX
          have PX := PX'
          clear PX'
          clear PY
          have PY := PY'
          clear PY'
          clear BC
          have BC := BC'
          clear BC'
          try simp only [List.setIfInBounds_toArray, List.set_cons_zero, List.set_cons_succ]
          generalize hw : (W5.setCell ⟨yb, 0, none⟩ (.int .i64 yr)).setCell ⟨yb, 1, none⟩ (.slice ya yts.length yc) = W6 at *
          clear hw
          refine wpAnyH_done (by kernel_rfl) ?_ _
          exact ⟨rfl, xb, yb, ⟨xr, xa, xc, xts⟩, ⟨yr, ya, yc, yts⟩, unhide AX, unhide AY, unhide HNE, unhide GX, unhide GY, unhide PX, unhide PY, unhide HD, unhide BC, hHeld, frame_at rfl⟩
        · have BC' := hide ((unhide BC).alloc (unhide BC).size (.cells #[.int .i64 0, .slice none 0 0] 24))
          have AY := hide (heap_alloc_new W2 (.cells #[.int .i64 0, .slice none 0 0] 24))
          have GY : Hid (w.heap.size < W2.heap.size) := hide (World.block_lt_of_cell? W2 _ hHeld.c0)
          have PX' := hide ((unhide PX).bel (al_bel W2 (.cells #[.int .i64 0, .slice none 0 0] 24)))
          have PY' := hide ((unhide PY).bel (al_bel W2 (.cells #[.int .i64 0, .slice none 0 0] 24)))
          go_simp
          refine hK.out _ _ (hHeld.bel (al_bel W2 (.cells #[.int .i64 0, .slice none 0 0] 24))) (fun hHeld => ?_)
          clear hK K
          clear PX
          have PX := PX'
          clear PX'
          clear PY
          have PY := PY'
          clear PY'
          clear BC
          have BC := BC'
          clear BC'
          try simp only [List.setIfInBounds_toArray, List.set_cons_zero, List.set_cons_succ]
          generalize hw : W2.alloc (.cells #[.int .i64 0, .slice none 0 0] 24) = W7 at *
          clear hw
          generalize W2.heap.size = yb at *
          refine wpAnyH_ready (rs := [4]) (by kernel_rfl) (by decide) (AllReadyH.cons rfl (fun K hK => ?_) AllReadyH.nil)
          have BC' := hide ((unhide BC).alloc (unhide BC).size (.cells #[.int .i64 0, .slice none 0 0] 24))
          have AX := hide (heap_alloc_new W7 (.cells #[.int .i64 0, .slice none 0 0] 24))
          have GX : Hid (w.heap.size < W7.heap.size) := hide (World.block_lt_of_cell? W7 _ hHeld.c0)
          have HNE : Hid (W7.heap.size ≠ yb) := hide (by have := blk_lt (unhide AY); omega)
          have AY' := hide (blk_bel (unhide AY) (al_bel W7 (.cells #[.int .i64 0, .slice none 0 0] 24)))
          have PX' := hide ((unhide PX).bel (al_bel W7 (.cells #[.int .i64 0, .slice none 0 0] 24)))
          have PY' := hide ((unhide PY).bel (al_bel W7 (.cells #[.int .i64 0, .slice none 0 0] 24)))
          go_simp
          refine hK.out _ _ (hHeld.bel (al_bel W7 (.cells #[.int .i64 0, .slice none 0 0] 24))) (fun hHeld => ?_)
          clear hK K
          clear AY
          have AY := AY'
          clear AY'
          clear PX
          have PX := PX'
          clear PX'
          clear PY
          have PY := PY'
          clear PY'
          clear BC
          have BC := BC'
          clear BC'
          try simp only [List.setIfInBounds_toArray, List.set_cons_zero, List.set_cons_succ]
          generalize hw : W7.alloc (.cells #[.int .i64 0, .slice none 0 0] 24) = W8 at *
          clear hw
          generalize W7.heap.size = xb at *
          refine wpAnyH_ready (rs := [6]) (by kernel_rfl) (by decide) (AllReadyH.cons rfl (fun K hK => ?_) AllReadyH.nil)
          have z0 : W8.cell? ⟨xb, 0, none⟩ = some (.int .i64 0) := cell_block (unhide AX)
          have z1 : W8.cell? ⟨xb, 1, none⟩ = some (.slice none 0 0) := cell_block (unhide AX)
          have zf := fun j => frozen_block (j := j) (unhide AX)
          have BC' := hide (((unhide BC).setCell (p := ⟨xb, 0, none⟩) (Nat.le_of_lt (unhide GX)) (.int .i64 xr)).setCell (p := ⟨xb, 1, none⟩) (Nat.le_of_lt (unhide GX)) (.slice xa xts.length xc))
          have AX' := hide (two_set (.int .i64 xr) (.slice xa xts.length xc) (unhide AX))
          have AY' := hide (far_set (j := 1) (.slice xa xts.length xc) (far_set (j := 0) (.int .i64 xr) (unhide AY) (unhide HNE)) (unhide HNE))
          have PX' := hide (((unhide PX).set (unhide AX) 0 (.int .i64 xr)).set (block_set (j := 0) (u := .int .i64 xr) (unhide AX)) 1 (.slice xa xts.length xc))
          have PY' := hide (((unhide PY).set (unhide AX) 0 (.int .i64 xr)).set (block_set (j := 0) (u := .int .i64 xr) (unhide AX)) 1 (.slice xa xts.length xc))
          have hS := (hHeld.far (x := xb) (j := 0) (Nat.ne_of_lt (unhide GX)) (.int .i64 xr)).far (x := xb) (j := 1) (Nat.ne_of_lt (unhide GX)) (.slice xa xts.length xc)
          go_simp
          refine hK.out _ _ hS (fun hHeld => ?_)
          clear hK K z0 z1 zf hS
          clear AX
          have AX := AX'
          clear AX'
          clear AY
          have AY := AY'
          clear AY'
          clear PX
          have PX := PX'
          clear PX'
          clear PY
          have PY := PY'
          clear PY'
          clear BC
          have BC := BC'
          clear BC'
          try simp only [List.setIfInBounds_toArray, List.set_cons_zero, List.set_cons_succ]
          generalize hw : (W8.setCell ⟨xb, 0, none⟩ (.int .i64 xr)).setCell ⟨xb, 1, none⟩ (.slice xa xts.length xc) = W9 at *
          clear hw
          refine wpAnyH_ready (rs := [7]) (by kernel_rfl) (by decide) (AllReadyH.cons rfl (fun K hK => ?_) AllReadyH.nil)
          have z0 : W9.cell? ⟨yb, 0, none⟩ = some (.int .i64 0) := cell_block (unhide AY)
          have z1 : W9.cell? ⟨yb, 1, none⟩ = some (.slice none 0 0) := cell_block (unhide AY)
          have zf := fun j => frozen_block (j := j) (unhide AY)
          have BC' := hide (((unhide BC).setCell (p := ⟨yb, 0, none⟩) (Nat.le_of_lt (unhide GY)) (.int .i64 yr)).setCell (p := ⟨yb, 1, none⟩) (Nat.le_of_lt (unhide GY)) (.slice ya yts.length yc))
          have AY' := hide (two_set (.int .i64 yr) (.slice ya yts.length yc) (unhide AY))
          have AX' := hide (far_set (j := 1) (.slice ya yts.length yc) (far_set (j := 0) (.int .i64 yr) (unhide AX) (unhide HNE).symm) (unhide HNE).symm)
          have PX' := hide (((unhide PX).set (unhide AY) 0 (.int .i64 yr)).set (block_set (j := 0) (u := .int .i64 yr) (unhide AY)) 1 (.slice ya yts.length yc))
          have PY' := hide (((unhide PY).set (unhide AY) 0 (.int .i64 yr)).set (block_set (j := 0) (u := .int .i64 yr) (unhide AY)) 1 (.slice ya yts.length yc))
          have hS := (hHeld.far (x := yb) (j := 0) (Nat.ne_of_lt (unhide GY)) (.int .i64 yr)).far (x := yb) (j := 1) (Nat.ne_of_lt (unhide GY)) (.slice ya yts.length yc)
          go_simp
          refine hK.out _ _ hS (fun hHeld => ?_)
          clear hK K z0 z1 zf hS
          clear AX
          have AX := AX'
          clear AX'
          clear AY
          have AY := AY'
          clear AY'
          clear PX
          have PX := PX'
          clear PX'
          clear PY
          have PY := PY'
          clear PY'
          clear BC
          have BC := BC'
          clear BC'
          try simp only [List.setIfInBounds_toArray, List.set_cons_zero, List.set_cons_succ]
          generalize hw : (W9.setCell ⟨yb, 0, none⟩ (.int .i64 yr)).setCell ⟨yb, 1, none⟩ (.slice ya yts.length yc) = W10 at *
          clear hw
          refine wpAnyH_done (by kernel_rfl) ?_ _
          exact ⟨rfl, xb, yb, ⟨xr, xa, xc, xts⟩, ⟨yr, ya, yc, yts⟩, unhide AX, unhide AY, unhide HNE, unhide GX, unhide GY, unhide PX, unhide PY, unhide HD, unhide BC, hHeld, frame_at rfl⟩
      · have BC' := hide ((unhide BC).alloc (unhide BC).size (.cells #[.int .i64 0, .slice none 0 0] 24))
        have AX := hide (heap_alloc_new W1 (.cells #[.int .i64 0, .slice none 0 0] 24))
        have GX : Hid (w.heap.size < W1.heap.size) := hide (World.block_lt_of_cell? W1 _ hHeld.c0)
        have PX' := hide ((unhide PX).bel (al_bel W1 (.cells #[.int .i64 0, .slice none 0 0] 24)))
        go_simp
        refine hK.out _ _ (hHeld.bel (al_bel W1 (.cells #[.int .i64 0, .slice none 0 0] 24))) (fun hHeld => ?_)
        clear hK K
        clear PX
        have PX := PX'
        clear PX'
        clear BC
        have BC := BC'
        clear BC'
        try simp only [List.setIfInBounds_toArray, List.set_cons_zero, List.set_cons_succ]
        generalize hw : W1.alloc (.cells #[.int .i64 0, .slice none 0 0] 24) = W11 at *
        clear hw
        generalize W1.heap.size = xb at *
        refine wpAnyH_ready (rs := [3, 5]) (by kernel_rfl) (by decide) (AllReadyH.cons rfl (fun K hK => ?_) (AllReadyH.cons rfl (fun K hK => ?_) AllReadyH.nil))
        · refine (if_pos rfl).mpr ?_
          go_wp2_with fail
          refine (unhide CP _ (set_bel (unhide HIN) (unhide BC))).mono ?_
          rintro e W12 ⟨S9, rfl, hput⟩
          have bel := hput.below
          have BC' := hide (below_on (unhide BC) bel)
          have PY := hide (PIn.of (B := w.heap.size + 1) hput (by have := World.block_lt_of_cell? _ _ hHeld.c0; simp only at this; omega))
          have HD := hide (put_apart (unhide PX) hput hne0)
          have AX' := hide (blk_bel (unhide AX) bel)
          have PX' := hide ((unhide PX).bel bel)
          obtain ⟨yr, ya, yc, yts⟩ := S9
          rw [SetV.val]
          simp only
          refine hK.out _ _ (hHeld.bel bel) (fun hHeld => ?_)
          clear hK K bel hput
          clear AX
          have AX := AX'
          clear AX'
          clear PX
          have PX := PX'
          clear PX'
          clear BC
          have BC := BC'
          clear BC'
          try simp only [List.setIfInBounds_toArray, List.set_cons_zero, List.set_cons_succ]
          refine wpAnyH_ready (rs := [5]) (by kernel_rfl) (by decide) (AllReadyH.cons rfl (fun K hK => ?_) AllReadyH.nil)
          have BC' := hide ((unhide BC).alloc (unhide BC).size (.cells #[.int .i64 0, .slice none 0 0] 24))
          have AY := hide (heap_alloc_new W12 (.cells #[.int .i64 0, .slice none 0 0] 24))
          have GY : Hid (w.heap.size < W12.heap.size) := hide (World.block_lt_of_cell? W12 _ hHeld.c0)
          have HNE : Hid (xb ≠ W12.heap.size) := hide (by have := blk_lt (unhide AX); omega)
          have AX' := hide (blk_bel (unhide AX) (al_bel W12 (.cells #[.int .i64 0, .slice none 0 0] 24)))
          have PX' := hide ((unhide PX).bel (al_bel W12 (.cells #[.int .i64 0, .slice none 0 0] 24)))
          have PY' := hide ((unhide PY).bel (al_bel W12 (.cells #[.int .i64 0, .slice none 0 0] 24)))
          go_simp
          refine hK.out _ _ (hHeld.bel (al_bel W12 (.cells #[.int .i64 0, .slice none 0 0] 24))) (fun hHeld => ?_)
          clear hK K
          clear AX
          have AX := AX'
          clear AX'
          clear PX
          have PX := PX'
          clear PX'
          clear PY
          have PY := PY'
          clear PY'
          clear BC
          have BC := BC'
          clear BC'
          try simp only [List.setIfInBounds_toArray, List.set_cons_zero, List.set_cons_succ]
          generalize hw : W12.alloc (.cells #[.int .i64 0, .slice none 0 0] 24) = W13 at *
          clear hw
          generalize W12.heap.size = yb at *
          refine wpAnyH_ready (rs := [6]) (by kernel_rfl) (by decide) (AllReadyH.cons rfl (fun K hK => ?_) AllReadyH.nil)
          have z0 : W13.cell? ⟨xb, 0, none⟩ = some (.int .i64 0) := cell_block (unhide AX)
          have z1 : W13.cell? ⟨xb, 1, none⟩ = some (.slice none 0 0) := cell_block (unhide AX)
          have zf := fun j => frozen_block (j := j) (unhide AX)
          have BC' := hide (((unhide BC).setCell (p := ⟨xb, 0, none⟩) (Nat.le_of_lt (unhide GX)) (.int .i64 xr)).setCell (p := ⟨xb, 1, none⟩) (Nat.le_of_lt (unhide GX)) (.slice xa xts.length xc))
          have AX' := hide (two_set (.int .i64 xr) (.slice xa xts.length xc) (unhide AX))
          have AY' := hide (far_set (j := 1) (.slice xa xts.length xc) (far_set (j := 0) (.int .i64 xr) (unhide AY) (unhide HNE)) (unhide HNE))
          have PX' := hide (((unhide PX).set (unhide AX) 0 (.int .i64 xr)).set (block_set (j := 0) (u := .int .i64 xr) (unhide AX)) 1 (.slice xa xts.length xc))
          have PY' := hide (((unhide PY).set (unhide AX) 0 (.int .i64 xr)).set (block_set (j := 0) (u := .int .i64 xr) (unhide AX)) 1 (.slice xa xts.length xc))
          have hS := (hHeld.far (x := xb) (j := 0) (Nat.ne_of_lt (unhide GX)) (.int .i64 xr)).far (x := xb) (j := 1) (Nat.ne_of_lt (unhide GX)) (.slice xa xts.length xc)
          go_simp
          refine hK.out _ _ hS (fun hHeld => ?_)
          clear hK K z0 z1 zf hS
          clear AX
          have AX := AX'
          clear AX'
          clear AY
          have AY := AY'
          clear AY'
          clear PX
          have PX := PX'
          clear PX'
          clear PY
          have PY := PY'
          clear PY'
          clear BC
          have BC := BC'
          clear BC'
          try simp only [List.setIfInBounds_toArray, List.set_cons_zero, List.set_cons_succ]
          generalize hw : (W13.setCell ⟨xb, 0, none⟩ (.int .i64 xr)).setCell ⟨xb, 1, none⟩ (.slice xa xts.length xc) = W14 at *
          clear hw
          refine wpAnyH_ready (rs := [7]) (by kernel_rfl) (by decide) (AllReadyH.cons rfl (fun K hK => ?_) AllReadyH.nil)
          have z0 : W14.cell? ⟨yb, 0, none⟩ = some (.int .i64 0) := cell_block (unhide AY)
          have z1 : W14.cell? ⟨yb, 1, none⟩ = some (.slice none 0 0) := cell_block (unhide AY)
          have zf := fun j => frozen_block (j := j) (unhide AY)
          have BC' := hide (((unhide BC).setCell (p := ⟨yb, 0, none⟩) (Nat.le_of_lt (unhide GY)) (.int .i64 yr)).setCell (p := ⟨yb, 1, none⟩) (Nat.le_of_lt (unhide GY)) (.slice ya yts.length yc))
          have AY' := hide (two_set (.int .i64 yr) (.slice ya yts.length yc) (unhide AY))
          have AX' := hide (far_set (j := 1) (.slice ya yts.length yc) (far_set (j := 0) (.int .i64 yr) (unhide AX) (unhide HNE).symm) (unhide HNE).symm)
          have PX' := hide (((unhide PX).set (unhide AY) 0 (.int .i64 yr)).set (block_set (j := 0) (u := .int .i64 yr) (unhide AY)) 1 (.slice ya yts.length yc))
          have PY' := hide (((unhide PY).set (unhide AY) 0 (.int .i64 yr)).set (block_set (j := 0) (u := .int .i64 yr) (unhide AY)) 1 (.slice ya yts.length yc))
          have hS := (hHeld.far (x := yb) (j := 0) (Nat.ne_of_lt (unhide GY)) (.int .i64 yr)).far (x := yb) (j := 1) (Nat.ne_of_lt (unhide GY)) (.slice ya yts.length yc)
          go_simp
          refine hK.out _ _ hS (fun hHeld => ?_)
          clear hK K z0 z1 zf hS
          clear AX
          have AX := AX'
          clear AX'
          clear AY
          have AY := AY'
          clear AY'
          clear PX
          have PX := PX'
          clear PX'
          clear PY
          have PY := PY'
          clear PY'
          clear BC
          have BC := BC'
          clear BC'
          try simp only [List.setIfInBounds_toArray, List.set_cons_zero, List.set_cons_succ]
          generalize hw : (W14.setCell ⟨yb, 0, none⟩ (.int .i64 yr)).setCell ⟨yb, 1, none⟩ (.slice ya yts.length yc) = W15 at *
          clear hw
          refine wpAnyH_done (by kernel_rfl) ?_ _
          exact ⟨rfl, xb, yb, ⟨xr, xa, xc, xts⟩, ⟨yr, ya, yc, yts⟩, unhide AX, unhide AY, unhide HNE, unhide GX, unhide GY, unhide PX, unhide PY, unhide HD, unhide BC, hHeld, frame_at rfl⟩
        · have BC' := hide ((unhide BC).alloc (unhide BC).size (.cells #[.int .i64 0, .slice none 0 0] 24))
          have AY := hide (heap_alloc_new W11 (.cells #[.int .i64 0, .slice none 0 0] 24))
          have GY : Hid (w.heap.size < W11.heap.size) := hide (World.block_lt_of_cell? W11 _ hHeld.c0)
          have HNE : Hid (xb ≠ W11.heap.size) := hide (by have := blk_lt (unhide AX); omega)
          have AX' := hide (blk_bel (unhide AX) (al_bel W11 (.cells #[.int .i64 0, .slice none 0 0] 24)))
          have PX' := hide ((unhide PX).bel (al_bel W11 (.cells #[.int .i64 0, .slice none 0 0] 24)))
          go_simp
          refine hK.out _ _ (hHeld.bel (al_bel W11 (.cells #[.int .i64 0, .slice none 0 0] 24))) (fun hHeld => ?_)
          clear hK K
          clear AX
          have AX := AX'
          clear AX'
          clear PX
          have PX := PX'
          clear PX'
          clear BC
          have BC := BC'
          clear BC'
          try simp only [List.setIfInBounds_toArray, List.set_cons_zero, List.set_cons_succ]
          generalize hw : W11.alloc (.cells #[.int .i64 0, .slice none 0 0] 24) = W16 at *
          clear hw
          generalize W11.heap.size = yb at *
          refine wpAnyH_ready (rs := [3]) (by kernel_rfl) (by decide) (AllReadyH.cons rfl (fun K hK => ?_) AllReadyH.nil)
          refine (if_pos rfl).mpr ?_
          go_wp2_with fail
          refine (unhide CP _ (set_bel (unhide HIN) (unhide BC))).mono ?_
          rintro e W17 ⟨S9, rfl, hput⟩
          have bel := hput.below
          have BC' := hide (below_on (unhide BC) bel)
          have PY := hide (PIn.of (B := w.heap.size + 1) hput (by have := World.block_lt_of_cell? _ _ hHeld.c0; simp only at this; omega))
          have HD := hide (put_apart (unhide PX) hput hne0)
          have AX' := hide (blk_bel (unhide AX) bel)
          have AY' := hide (blk_bel (unhide AY) bel)
          have PX' := hide ((unhide PX).bel bel)
          obtain ⟨yr, ya, yc, yts⟩ := S9
          rw [SetV.val]
          simp only
          refine hK.out _ _ (hHeld.bel bel) (fun hHeld => ?_)
          clear hK K bel hput
          clear AX
          have AX := AX'
          clear AX'
          clear AY
          have AY := AY'
          clear AY'
          clear PX
          have PX := PX'
          clear PX'
          clear BC
          have BC := BC'
          clear BC'
          try simp only [List.setIfInBounds_toArray, List.set_cons_zero, List.set_cons_succ]
          refine wpAnyH_ready (rs := [6]) (by kernel_rfl) (by decide) (AllReadyH.cons rfl (fun K hK => ?_) AllReadyH.nil)
          have z0 : W17.cell? ⟨xb, 0, none⟩ = some (.int .i64 0) := cell_block (unhide AX)
          have z1 : W17.cell? ⟨xb, 1, none⟩ = some (.slice none 0 0) := cell_block (unhide AX)
          have zf := fun j => frozen_block (j := j) (unhide AX)
          have BC' := hide (((unhide BC).setCell (p := ⟨xb, 0, none⟩) (Nat.le_of_lt (unhide GX)) (.int .i64 xr)).setCell (p := ⟨xb, 1, none⟩) (Nat.le_of_lt (unhide GX)) (.slice xa xts.length xc))
          have AX' := hide (two_set (.int .i64 xr) (.slice xa xts.length xc) (unhide AX))
          have AY' := hide (far_set (j := 1) (.slice xa xts.length xc) (far_set (j := 0) (.int .i64 xr) (unhide AY) (unhide HNE)) (unhide HNE))
          have PX' := hide (((unhide PX).set (unhide AX) 0 (.int .i64 xr)).set (block_set (j := 0) (u := .int .i64 xr) (unhide AX)) 1 (.slice xa xts.length xc))
          have PY' := hide (((unhide PY).set (unhide AX) 0 (.int .i64 xr)).set (block_set (j := 0) (u := .int .i64 xr) (unhide AX)) 1 (.slice xa xts.length xc))
          have hS := (hHeld.far (x := xb) (j := 0) (Nat.ne_of_lt (unhide GX)) (.int .i64 xr)).far (x := xb) (j := 1) (Nat.ne_of_lt (unhide GX)) (.slice xa xts.length xc)
          go_simp
          refine hK.out _ _ hS (fun hHeld => ?_)
          clear hK K z0 z1 zf hS
          clear AX
          have AX := AX'
          clear AX'
          clear AY
          have AY := AY'
          clear AY'
          clear PX
          have PX := PX'
          clear PX'
          clear PY
          have PY := PY'
          clear PY'
          clear BC
          have BC := BC'
          clear BC'
          try simp only [List.setIfInBounds_toArray, List.set_cons_zero, List.set_cons_succ]
          generalize hw : (W17.setCell ⟨xb, 0, none⟩ (.int .i64 xr)).setCell ⟨xb, 1, none⟩ (.slice xa xts.length xc) = W18 at *
          clear hw
          refine wpAnyH_ready (rs := [7]) (by kernel_rfl) (by decide) (AllReadyH.cons rfl (fun K hK => ?_) AllReadyH.nil)
          have z0 : W18.cell? ⟨yb, 0, none⟩ = some (.int .i64 0) := cell_block (unhide AY)
          have z1 : W18.cell? ⟨yb, 1, none⟩ = some (.slice none 0 0) := cell_block (unhide AY)
          have zf := fun j => frozen_block (j := j) (unhide AY)
          have BC' := hide (((unhide BC).setCell (p := ⟨yb, 0, none⟩) (Nat.le_of_lt (unhide GY)) (.int .i64 yr)).setCell (p := ⟨yb, 1, none⟩) (Nat.le_of_lt (unhide GY)) (.slice ya yts.length yc))
          have AY' := hide (two_set (.int .i64 yr) (.slice ya yts.length yc) (unhide AY))
          have AX' := hide (far_set (j := 1) (.slice ya yts.length yc) (far_set (j := 0) (.int .i64 yr) (unhide AX) (unhide HNE).symm) (unhide HNE).symm)
          have PX' := hide (((unhide PX).set (unhide AY) 0 (.int .i64 yr)).set (block_set (j := 0) (u := .int .i64 yr) (unhide AY)) 1 (.slice ya yts.length yc))
          have PY' := hide (((unhide PY).set (unhide AY) 0 (.int .i64 yr)).set (block_set (j := 0) (u := .int .i64 yr) (unhide AY)) 1 (.slice ya yts.length yc))
          have hS := (hHeld.far (x := yb) (j := 0) (Nat.ne_of_lt (unhide GY)) (.int .i64 yr)).far (x := yb) (j := 1) (Nat.ne_of_lt (unhide GY)) (.slice ya yts.length yc)
          go_simp
          refine hK.out _ _ hS (fun hHeld => ?_)
          clear hK K z0 z1 zf hS
          clear AX
          have AX := AX'
          clear AX'
          clear AY
          have AY := AY'
          clear AY'
          clear PX
          have PX := PX'
          clear PX'
          clear PY
          have PY := PY'
          clear PY'
          clear BC
          have BC := BC'
          clear BC'
          try simp only [List.setIfInBounds_toArray, List.set_cons_zero, List.set_cons_succ]
          generalize hw : (W18.setCell ⟨yb, 0, none⟩ (.int .i64 yr)).setCell ⟨yb, 1, none⟩ (.slice ya yts.length yc) = W19 at *
          clear hw
          refine wpAnyH_done (by kernel_rfl) ?_ _
          exact ⟨rfl, xb, yb, ⟨xr, xa, xc, xts⟩, ⟨yr, ya, yc, yts⟩, unhide AX, unhide AY, unhide HNE, unhide GX, unhide GY, unhide PX, unhide PY, unhide HD, unhide BC, hHeld, frame_at rfl⟩
      · have BC' := hide ((unhide BC).alloc (unhide BC).size (.cells #[.int .i64 0, .slice none 0 0] 24))
        have AY := hide (heap_alloc_new W1 (.cells #[.int .i64 0, .slice none 0 0] 24))
        have GY : Hid (w.heap.size < W1.heap.size) := hide (World.block_lt_of_cell? W1 _ hHeld.c0)
        have PX' := hide ((unhide PX).bel (al_bel W1 (.cells #[.int .i64 0, .slice none 0 0] 24)))
        go_simp
        refine hK.out _ _ (hHeld.bel (al_bel W1 (.cells #[.int .i64 0, .slice none 0 0] 24))) (fun hHeld => ?_)
        clear hK K
        clear PX
        have PX := PX'
        clear PX'
        clear BC
        have BC := BC'
        clear BC'
        try simp only [List.setIfInBounds_toArray, List.set_cons_zero, List.set_cons_succ]
        generalize hw : W1.alloc (.cells #[.int .i64 0, .slice none 0 0] 24) = W20 at *
        clear hw
        generalize W1.heap.size = yb at *
        refine wpAnyH_ready (rs := [3, 4]) (by kernel_rfl) (by decide) (AllReadyH.cons rfl (fun K hK => ?_) (AllReadyH.cons rfl (fun K hK => ?_) AllReadyH.nil))
        · refine (if_pos rfl).mpr ?_
          go_wp2_with fail
          refine (unhide CP _ (set_bel (unhide HIN) (unhide BC))).mono ?_
          rintro e W21 ⟨S9, rfl, hput⟩
          have bel := hput.below
          have BC' := hide (below_on (unhide BC) bel)
          have PY := hide (PIn.of (B := w.heap.size + 1) hput (by have := World.block_lt_of_cell? _ _ hHeld.c0; simp only at this; omega))
          have HD := hide (put_apart (unhide PX) hput hne0)
          have AY' := hide (blk_bel (unhide AY) bel)
          have PX' := hide ((unhide PX).bel bel)
          obtain ⟨yr, ya, yc, yts⟩ := S9
          rw [SetV.val]
          simp only
          refine hK.out _ _ (hHeld.bel bel) (fun hHeld => ?_)
          clear hK K bel hput
          clear AY
          have AY := AY'
          clear AY'
          clear PX
          have PX := PX'
          clear PX'
          clear BC
          have BC := BC'
          clear BC'
          try simp only [List.setIfInBounds_toArray, List.set_cons_zero, List.set_cons_succ]
          refine wpAnyH_ready (rs := [4]) (by kernel_rfl) (by decide) (AllReadyH.cons rfl (fun K hK => ?_) AllReadyH.nil)
          have BC' := hide ((unhide BC).alloc (unhide BC).size (.cells #[.int .i64 0, .slice none 0 0] 24))
          have AX := hide (heap_alloc_new W21 (.cells #[.int .i64 0, .slice none 0 0] 24))
          have GX : Hid (w.heap.size < W21.heap.size) := hide (World.block_lt_of_cell? W21 _ hHeld.c0)
          have HNE : Hid (W21.heap.size ≠ yb) := hide (by have := blk_lt (unhide AY); omega)
          have AY' := hide (blk_bel (unhide AY) (al_bel W21 (.cells #[.int .i64 0, .slice none 0 0] 24)))
          have PX' := hide ((unhide PX).bel (al_bel W21 (.cells #[.int .i64 0, .slice none 0 0] 24)))
          have PY' := hide ((unhide PY).bel (al_bel W21 (.cells #[.int .i64 0, .slice none 0 0] 24)))
          go_simp
          refine hK.out _ _ (hHeld.bel (al_bel W21 (.cells #[.int .i64 0, .slice none 0 0] 24))) (fun hHeld => ?_)
          clear hK K
          clear AY
          have AY := AY'
          clear AY'
          clear PX
          have PX := PX'
          clear PX'
          clear PY
          have PY := PY'
          clear PY'
          clear BC
          have BC := BC'
          clear BC'
          try simp only [List.setIfInBounds_toArray, List.set_cons_zero, List.set_cons_succ]
          generalize hw : W21.alloc (.cells #[.int .i64 0, .slice none 0 0] 24) = W22 at *
          clear hw
          generalize W21.heap.size = xb at *
          refine wpAnyH_ready (rs := [6]) (by kernel_rfl) (by decide) (AllReadyH.cons rfl (fun K hK => ?_) AllReadyH.nil)
          have z0 : W22.cell? ⟨xb, 0, none⟩ = some (.int .i64 0) := cell_block (unhide AX)
          have z1 : W22.cell? ⟨xb, 1, none⟩ = some (.slice none 0 0) := cell_block (unhide AX)
          have zf := fun j => frozen_block (j := j) (unhide AX)
          have BC' := hide (((unhide BC).setCell (p := ⟨xb, 0, none⟩) (Nat.le_of_lt (unhide GX)) (.int .i64 xr)).setCell (p := ⟨xb, 1, none⟩) (Nat.le_of_lt (unhide GX)) (.slice xa xts.length xc))
          have AX' := hide (two_set (.int .i64 xr) (.slice xa xts.length xc) (unhide AX))
          have AY' := hide (far_set (j := 1) (.slice xa xts.length xc) (far_set (j := 0) (.int .i64 xr) (unhide AY) (unhide HNE)) (unhide HNE))
          have PX' := hide (((unhide PX).set (unhide AX) 0 (.int .i64 xr)).set (block_set (j := 0) (u := .int .i64 xr) (unhide AX)) 1 (.slice xa xts.length xc))
          have PY' := hide (((unhide PY).set (unhide AX) 0 (.int .i64 xr)).set (block_set (j := 0) (u := .int .i64 xr) (unhide AX)) 1 (.slice xa xts.length xc))
          have hS := (hHeld.far (x := xb) (j := 0) (Nat.ne_of_lt (unhide GX)) (.int .i64 xr)).far (x := xb) (j := 1) (Nat.ne_of_lt (unhide GX)) (.slice xa xts.length xc)
          go_simp
          refine hK.out _ _ hS (fun hHeld => ?_)
          clear hK K z0 z1 zf hS
          clear AX
          have AX := AX'
          clear AX'
          clear AY
          have AY := AY'
          clear AY'
          clear PX
          have PX := PX'
          clear PX'
          clear PY
          have PY := PY'
          clear PY'
          clear BC
          have BC := BC'
          clear BC'
          try simp only [List.setIfInBounds_toArray, List.set_cons_zero, List.set_cons_succ]
          generalize hw : (W22.setCell ⟨xb, 0, none⟩ (.int .i64 xr)).setCell ⟨xb, 1, none⟩ (.slice xa xts.length xc) = W23 at *
          clear hw
          refine wpAnyH_ready (rs := [7]) (by kernel_rfl) (by decide) (AllReadyH.cons rfl (fun K hK => ?_) AllReadyH.nil)
          have z0 : W23.cell? ⟨yb, 0, none⟩ = some (.int .i64 0) := cell_block (unhide AY)
          have z1 : W23.cell? ⟨yb, 1, none⟩ = some (.slice none 0 0) := cell_block (unhide AY)
          have zf := fun j => frozen_block (j := j) (unhide AY)
          have BC' := hide (((unhide BC).setCell (p := ⟨yb, 0, none⟩) (Nat.le_of_lt (unhide GY)) (.int .i64 yr)).setCell (p := ⟨yb, 1, none⟩) (Nat.le_of_lt (unhide GY)) (.slice ya yts.length yc))
          have AY' := hide (two_set (.int .i64 yr) (.slice ya yts.length yc) (unhide AY))
          have AX' := hide (far_set (j := 1) (.slice ya yts.length yc) (far_set (j := 0) (.int .i64 yr) (unhide AX) (unhide HNE).symm) (unhide HNE).symm)
          have PX' := hide (((unhide PX).set (unhide AY) 0 (.int .i64 yr)).set (block_set (j := 0) (u := .int .i64 yr) (unhide AY)) 1 (.slice ya yts.length yc))
          have PY' := hide (((unhide PY).set (unhide AY) 0 (.int .i64 yr)).set (block_set (j := 0) (u := .int .i64 yr) (unhide AY)) 1 (.slice ya yts.length yc))
          have hS := (hHeld.far (x := yb) (j := 0) (Nat.ne_of_lt (unhide GY)) (.int .i64 yr)).far (x := yb) (j := 1) (Nat.ne_of_lt (unhide GY)) (.slice ya yts.length yc)
          go_simp
          refine hK.out _ _ hS (fun hHeld => ?_)
          clear hK K z0 z1 zf hS
          clear AX
          have AX := AX'
          clear AX'
          clear AY
          have AY := AY'
          clear AY'
          clear PX
          have PX := PX'
          clear PX'
          clear PY
          have PY := PY'
          clear PY'
          clear BC
          have BC := BC'
          clear BC'
          try simp only [List.setIfInBounds_toArray, List.set_cons_zero, List.set_cons_succ]
          generalize hw : (W23.setCell ⟨yb, 0, none⟩ (.int .i64 yr)).setCell ⟨yb, 1, none⟩ (.slice ya yts.length yc) = W24 at *
          clear hw
          refine wpAnyH_done (by kernel_rfl) ?_ _
          exact ⟨rfl, xb, yb, ⟨xr, xa, xc, xts⟩, ⟨yr, ya, yc, yts⟩, unhide AX, unhide AY, unhide HNE, unhide GX, unhide GY, unhide PX, unhide PY, unhide HD, unhide BC, hHeld, frame_at rfl⟩
        · have BC' := hide ((unhide BC).alloc (unhide BC).size (.cells #[.int .i64 0, .slice none 0 0] 24))
          have AX := hide (heap_alloc_new W20 (.cells #[.int .i64 0, .slice none 0 0] 24))
          have GX : Hid (w.heap.size < W20.heap.size) := hide (World.block_lt_of_cell? W20 _ hHeld.c0)
          have HNE : Hid (W20.heap.size ≠ yb) := hide (by have := blk_lt (unhide AY); omega)
          have AY' := hide (blk_bel (unhide AY) (al_bel W20 (.cells #[.int .i64 0, .slice none 0 0] 24)))
          have PX' := hide ((unhide PX).bel (al_bel W20 (.cells #[.int .i64 0, .slice none 0 0] 24)))
          go_simp
          refine hK.out _ _ (hHeld.bel (al_bel W20 (.cells #[.int .i64 0, .slice none 0 0] 24))) (fun hHeld => ?_)
          clear hK K
          clear AY
          have AY := AY'
          clear AY'
          clear PX
          have PX := PX'
          clear PX'
          clear BC
          have BC := BC'
          clear BC'
          try simp only [List.setIfInBounds_toArray, List.set_cons_zero, List.set_cons_succ]
          generalize hw : W20.alloc (.cells #[.int .i64 0, .slice none 0 0] 24) = W25 at *
          clear hw
          generalize W20.heap.size = xb at *
          refine wpAnyH_ready (rs := [3]) (by kernel_rfl) (by decide) (AllReadyH.cons rfl (fun K hK => ?_) AllReadyH.nil)
          refine (if_pos rfl).mpr ?_
          go_wp2_with fail
          refine (unhide CP _ (set_bel (unhide HIN) (unhide BC))).mono ?_
          rintro e W26 ⟨S9, rfl, hput⟩
          have bel := hput.below
          have BC' := hide (below_on (unhide BC) bel)
          have PY := hide (PIn.of (B := w.heap.size + 1) hput (by have := World.block_lt_of_cell? _ _ hHeld.c0; simp only at this; omega))
          have HD := hide (put_apart (unhide PX) hput hne0)
          have AX' := hide (blk_bel (unhide AX) bel)
          have AY' := hide (blk_bel (unhide AY) bel)
          have PX' := hide ((unhide PX).bel bel)
          obtain ⟨yr, ya, yc, yts⟩ := S9
          rw [SetV.val]
          simp only
          refine hK.out _ _ (hHeld.bel bel) (fun hHeld => ?_)
          clear hK K bel hput
          clear AX
          have AX := AX'
          clear AX'
          clear AY
          have AY := AY'
          clear AY'
          clear PX
          have PX := PX'
          clear PX'
          clear BC
          have BC := BC'
          clear BC'
          try simp only [List.setIfInBounds_toArray, List.set_cons_zero, List.set_cons_succ]
          refine wpAnyH_ready (rs := [6]) (by kernel_rfl) (by decide) (AllReadyH.cons rfl (fun K hK => ?_) AllReadyH.nil)
          have z0 : W26.cell? ⟨xb, 0, none⟩ = some (.int .i64 0) := cell_block (unhide AX)
          have z1 : W26.cell? ⟨xb, 1, none⟩ = some (.slice none 0 0) := cell_block (unhide AX)
          have zf := fun j => frozen_block (j := j) (unhide AX)
          have BC' := hide (((unhide BC).setCell (p := ⟨xb, 0, none⟩) (Nat.le_of_lt (unhide GX)) (.int .i64 xr)).setCell (p := ⟨xb, 1, none⟩) (Nat.le_of_lt (unhide GX)) (.slice xa xts.length xc))
          have AX' := hide (two_set (.int .i64 xr) (.slice xa xts.length xc) (unhide AX))
          have AY' := hide (far_set (j := 1) (.slice xa xts.length xc) (far_set (j := 0) (.int .i64 xr) (unhide AY) (unhide HNE)) (unhide HNE))
          have PX' := hide (((unhide PX).set (unhide AX) 0 (.int .i64 xr)).set (block_set (j := 0) (u := .int .i64 xr) (unhide AX)) 1 (.slice xa xts.length xc))
          have PY' := hide (((unhide PY).set (unhide AX) 0 (.int .i64 xr)).set (block_set (j := 0) (u := .int .i64 xr) (unhide AX)) 1 (.slice xa xts.length xc))
          have hS := (hHeld.far (x := xb) (j := 0) (Nat.ne_of_lt (unhide GX)) (.int .i64 xr)).far (x := xb) (j := 1) (Nat.ne_of_lt (unhide GX)) (.slice xa xts.length xc)
          go_simp
          refine hK.out _ _ hS (fun hHeld => ?_)
          clear hK K z0 z1 zf hS
          clear AX
          have AX := AX'
          clear AX'
          clear AY
          have AY := AY'
          clear AY'
          clear PX
          have PX := PX'
          clear PX'
          clear PY
          have PY := PY'
          clear PY'
          clear BC
          have BC := BC'
          clear BC'
          try simp only [List.setIfInBounds_toArray, List.set_cons_zero, List.set_cons_succ]
          generalize hw : (W26.setCell ⟨xb, 0, none⟩ (.int .i64 xr)).setCell ⟨xb, 1, none⟩ (.slice xa xts.length xc) = W27 at *
          clear hw
          refine wpAnyH_ready (rs := [7]) (by kernel_rfl) (by decide) (AllReadyH.cons rfl (fun K hK => ?_) AllReadyH.nil)
          have z0 : W27.cell? ⟨yb, 0, none⟩ = some (.int .i64 0) := cell_block (unhide AY)
          have z1 : W27.cell? ⟨yb, 1, none⟩ = some (.slice none 0 0) := cell_block (unhide AY)
          have zf := fun j => frozen_block (j := j) (unhide AY)
          have BC' := hide (((unhide BC).setCell (p := ⟨yb, 0, none⟩) (Nat.le_of_lt (unhide GY)) (.int .i64 yr)).setCell (p := ⟨yb, 1, none⟩) (Nat.le_of_lt (unhide GY)) (.slice ya yts.length yc))
          have AY' := hide (two_set (.int .i64 yr) (.slice ya yts.length yc) (unhide AY))
          have AX' := hide (far_set (j := 1) (.slice ya yts.length yc) (far_set (j := 0) (.int .i64 yr) (unhide AX) (unhide HNE).symm) (unhide HNE).symm)
          have PX' := hide (((unhide PX).set (unhide AY) 0 (.int .i64 yr)).set (block_set (j := 0) (u := .int .i64 yr) (unhide AY)) 1 (.slice ya yts.length yc))
          have PY' := hide (((unhide PY).set (unhide AY) 0 (.int .i64 yr)).set (block_set (j := 0) (u := .int .i64 yr) (unhide AY)) 1 (.slice ya yts.length yc))
          have hS := (hHeld.far (x := yb) (j := 0) (Nat.ne_of_lt (unhide GY)) (.int .i64 yr)).far (x := yb) (j := 1) (Nat.ne_of_lt (unhide GY)) (.slice ya yts.length yc)
          go_simp
          refine hK.out _ _ hS (fun hHeld => ?_)
          clear hK K z0 z1 zf hS
          clear AX
          have AX := AX'
          clear AX'
          clear AY
          have AY := AY'
          clear AY'
          clear PX
          have PX := PX'
          clear PX'
          clear PY
          have PY := PY'
          clear PY'
          clear BC
          have BC := BC'
          clear BC'
          try simp only [List.setIfInBounds_toArray, List.set_cons_zero, List.set_cons_succ]
          generalize hw : (W27.setCell ⟨yb, 0, none⟩ (.int .i64 yr)).setCell ⟨yb, 1, none⟩ (.slice ya yts.length yc) = W28 at *
          clear hw
          refine wpAnyH_done (by kernel_rfl) ?_ _
          exact ⟨rfl, xb, yb, ⟨xr, xa, xc, xts⟩, ⟨yr, ya, yc, yts⟩, unhide AX, unhide AY, unhide HNE, unhide GX, unhide GY, unhide PX, unhide PY, unhide HD, unhide BC, hHeld, frame_at rfl⟩
    · have BC' := hide ((unhide BC).alloc (unhide BC).size (.cells #[.int .i64 0, .slice none 0 0] 24))
      have AX := hide (heap_alloc_new W0 (.cells #[.int .i64 0, .slice none 0 0] 24))
      have GX : Hid (w.heap.size < W0.heap.size) := hide (World.block_lt_of_cell? W0 _ hHeld.c0)
      go_simp
      refine hK.out _ _ (hHeld.bel (al_bel W0 (.cells #[.int .i64 0, .slice none 0 0] 24))) (fun hHeld => ?_)
      clear hK K
      clear BC
      have BC := BC'
      clear BC'
      try simp only [List.setIfInBounds_toArray, List.set_cons_zero, List.set_cons_succ]
      generalize hw : W0.alloc (.cells #[.int .i64 0, .slice none 0 0] 24) = W29 at *
      clear hw
      generalize W0.heap.size = xb at *
      refine wpAnyH_ready (rs := [1, 5]) (by kernel_rfl) (by decide) (AllReadyH.cons rfl (fun K hK => ?_) (AllReadyH.cons rfl (fun K hK => ?_) AllReadyH.nil))
      · refine (if_pos rfl).mpr ?_
        go_wp2_with fail
        refine (unhide CP _ (set_bel (unhide HIN) (unhide BC))).mono ?_
        rintro e W30 ⟨S9, rfl, hput⟩
        have bel := hput.below
        have BC' := hide (below_on (unhide BC) bel)
        have PX := hide (PIn.of (B := w.heap.size + 1) hput (by have := World.block_lt_of_cell? _ _ hHeld.c0; simp only at this; omega))
        have AX' := hide (blk_bel (unhide AX) bel)
        obtain ⟨xr, xa, xc, xts⟩ := S9
        rw [SetV.val]
        simp only
        refine hK.out _ _ (hHeld.bel bel) (fun hHeld => ?_)
        clear hK K bel hput
        clear AX
        have AX := AX'
        clear AX'
        clear BC
        have BC := BC'
        clear BC'
        try simp only [List.setIfInBounds_toArray, List.set_cons_zero, List.set_cons_succ]
        refine wpAnyH_ready (rs := [3, 5]) (by kernel_rfl) (by decide) (AllReadyH.cons rfl (fun K hK => ?_) (AllReadyH.cons rfl (fun K hK => ?_) AllReadyH.nil))
        · refine (if_pos rfl).mpr ?_
          go_wp2_with fail
          refine (unhide CP _ (set_bel (unhide HIN) (unhide BC))).mono ?_
          rintro e W31 ⟨S9, rfl, hput⟩
          have bel := hput.below
          have BC' := hide (below_on (unhide BC) bel)
          have PY := hide (PIn.of (B := w.heap.size + 1) hput (by have := World.block_lt_of_cell? _ _ hHeld.c0; simp only at this; omega))
          have HD := hide (put_apart (unhide PX) hput hne0)
          have AX' := hide (blk_bel (unhide AX) bel)
          have PX' := hide ((unhide PX).bel bel)
          obtain ⟨yr, ya, yc, yts⟩ := S9
          rw [SetV.val]
          simp only
          refine hK.out _ _ (hHeld.bel bel) (fun hHeld => ?_)
          clear hK K bel hput
          clear AX
          have AX := AX'
          clear AX'
          clear PX
          have PX := PX'
          clear PX'
          clear BC
          have BC := BC'
          clear BC'
          try simp only [List.setIfInBounds_toArray, List.set_cons_zero, List.set_cons_succ]
          refine wpAnyH_ready (rs := [5]) (by kernel_rfl) (by decide) (AllReadyH.cons rfl (fun K hK => ?_) AllReadyH.nil)
          have BC' := hide ((unhide BC).alloc (unhide BC).size (.cells #[.int .i64 0, .slice none 0 0] 24))
          have AY := hide (heap_alloc_new W31 (.cells #[.int .i64 0, .slice none 0 0] 24))
          have GY : Hid (w.heap.size < W31.heap.size) := hide (World.block_lt_of_cell? W31 _ hHeld.c0)
          have HNE : Hid (xb ≠ W31.heap.size) := hide (by have := blk_lt (unhide AX); omega)
          have AX' := hide (blk_bel (unhide AX) (al_bel W31 (.cells #[.int .i64 0, .slice none 0 0] 24)))
          have PX' := hide ((unhide PX).bel (al_bel W31 (.cells #[.int .i64 0, .slice none 0 0] 24)))
          have PY' := hide ((unhide PY).bel (al_bel W31 (.cells #[.int .i64 0, .slice none 0 0] 24)))
          go_simp
          refine hK.out _ _ (hHeld.bel (al_bel W31 (.cells #[.int .i64 0, .slice none 0 0] 24))) (fun hHeld => ?_)
          clear hK K
          clear AX
          have AX := AX'
          clear AX'
          clear PX
          have PX := PX'
          clear PX'
          clear PY
          have PY := PY'
          clear PY'
          clear BC
          have BC := BC'
          clear BC'
          try simp only [List.setIfInBounds_toArray, List.set_cons_zero, List.set_cons_succ]
          generalize hw : W31.alloc (.cells #[.int .i64 0, .slice none 0 0] 24) = W32 at *
          clear hw
          generalize W31.heap.size = yb at *
          refine wpAnyH_ready (rs := [6]) (by kernel_rfl) (by decide) (AllReadyH.cons rfl (fun K hK => ?_) AllReadyH.nil)
          have z0 : W32.cell? ⟨xb, 0, none⟩ = some (.int .i64 0) := cell_block (unhide AX)
          have z1 : W32.cell? ⟨xb, 1, none⟩ = some (.slice none 0 0) := cell_block (unhide AX)
          have zf := fun j => frozen_block (j := j) (unhide AX)
          have BC' := hide (((unhide BC).setCell (p := ⟨xb, 0, none⟩) (Nat.le_of_lt (unhide GX)) (.int .i64 xr)).setCell (p := ⟨xb, 1, none⟩) (Nat.le_of_lt (unhide GX)) (.slice xa xts.length xc))
          have AX' := hide (two_set (.int .i64 xr) (.slice xa xts.length xc) (unhide AX))
          have AY' := hide (far_set (j := 1) (.slice xa xts.length xc) (far_set (j := 0) (.int .i64 xr) (unhide AY) (unhide HNE)) (unhide HNE))
          have PX' := hide (((unhide PX).set (unhide AX) 0 (.int .i64 xr)).set (block_set (j := 0) (u := .int .i64 xr) (unhide AX)) 1 (.slice xa xts.length xc))
          have PY' := hide (((unhide PY).set (unhide AX) 0 (.int .i64 xr)).set (block_set (j := 0) (u := .int .i64 xr) (unhide AX)) 1 (.slice xa xts.length xc))
          have hS := (hHeld.far (x := xb) (j := 0) (Nat.ne_of_lt (unhide GX)) (.int .i64 xr)).far (x := xb) (j := 1) (Nat.ne_of_lt (unhide GX)) (.slice xa xts.length xc)
          go_simp
          refine hK.out _ _ hS (fun hHeld => ?_)
          clear hK K z0 z1 zf hS
          clear AX
          have AX := AX'
          clear AX'
          clear AY
          have AY := AY'
          clear AY'
          clear PX
          have PX := PX'
          clear PX'
          clear PY
          have PY := PY'
          clear PY'
          clear BC
          have BC := BC'
          clear BC'
          try simp only [List.setIfInBounds_toArray, List.set_cons_zero, List.set_cons_succ]
          generalize hw : (W32.setCell ⟨xb, 0, none⟩ (.int .i64 xr)).setCell ⟨xb, 1, none⟩ (.slice xa xts.length xc) = W33 at *
          clear hw
          refine wpAnyH_ready (rs := [7]) (by kernel_rfl) (by decide) (AllReadyH.cons rfl (fun K hK => ?_) AllReadyH.nil)
          have z0 : W33.cell? ⟨yb, 0, none⟩ = some (.int .i64 0) := cell_block (unhide AY)
          have z1 : W33.cell? ⟨yb, 1, none⟩ = some (.slice none 0 0) := cell_block (unhide AY)
          have zf := fun j => frozen_block (j := j) (unhide AY)
          have BC' := hide (((unhide BC).setCell (p := ⟨yb, 0, none⟩) (Nat.le_of_lt (unhide GY)) (.int .i64 yr)).setCell (p := ⟨yb, 1, none⟩) (Nat.le_of_lt (unhide GY)) (.slice ya yts.length yc))
          have AY' := hide (two_set (.int .i64 yr) (.slice ya yts.length yc) (unhide AY))
          have AX' := hide (far_set (j := 1) (.slice ya yts.length yc) (far_set (j := 0) (.int .i64 yr) (unhide AX) (unhide HNE).symm) (unhide HNE).symm)
          have PX' := hide (((unhide PX).set (unhide AY) 0 (.int .i64 yr)).set (block_set (j := 0) (u := .int .i64 yr) (unhide AY)) 1 (.slice ya yts.length yc))
          have PY' := hide (((unhide PY).set (unhide AY) 0 (.int .i64 yr)).set (block_set (j := 0) (u := .int .i64 yr) (unhide AY)) 1 (.slice ya yts.length yc))
          have hS := (hHeld.far (x := yb) (j := 0) (Nat.ne_of_lt (unhide GY)) (.int .i64 yr)).far (x := yb) (j := 1) (Nat.ne_of_lt (unhide GY)) (.slice ya yts.length yc)
          go_simp
          refine hK.out _ _ hS (fun hHeld => ?_)
          clear hK K z0 z1 zf hS
          clear AX
          have AX := AX'
          clear AX'
          clear AY
          have AY := AY'
          clear AY'
          clear PX
          have PX := PX'
          clear PX'
          clear PY
          have PY := PY'
          clear PY'
          clear BC
          have BC := BC'
          clear BC'
          try simp only [List.setIfInBounds_toArray, List.set_cons_zero, List.set_cons_succ]
          generalize hw : (W33.setCell ⟨yb, 0, none⟩ (.int .i64 yr)).setCell ⟨yb, 1, none⟩ (.slice ya yts.length yc) = W34 at *
          clear hw
          refine wpAnyH_done (by kernel_rfl) ?_ _
          exact ⟨rfl, xb, yb, ⟨xr, xa, xc, xts⟩, ⟨yr, ya, yc, yts⟩, unhide AX, unhide AY, unhide HNE, unhide GX, unhide GY, unhide PX, unhide PY, unhide HD, unhide BC, hHeld, frame_at rfl⟩
        · have BC' := hide ((unhide BC).alloc (unhide BC).size (.cells #[.int .i64 0, .slice none 0 0] 24))
          have AY := hide (heap_alloc_new W30 (.cells #[.int .i64 0, .slice none 0 0] 24))
          have GY : Hid (w.heap.size < W30.heap.size) := hide (World.block_lt_of_cell? W30 _ hHeld.c0)
          have HNE : Hid (xb ≠ W30.heap.size) := hide (by have := blk_lt (unhide AX); omega)
          have AX' := hide (blk_bel (unhide AX) (al_bel W30 (.cells #[.int .i64 0, .slice none 0 0] 24)))
          have PX' := hide ((unhide PX).bel (al_bel W30 (.cells #[.int .i64 0, .slice none 0 0] 24)))
          go_simp
          refine hK.out _ _ (hHeld.bel (al_bel W30 (.cells #[.int .i64 0, .slice none 0 0] 24))) (fun hHeld => ?_)
          clear hK K
          clear AX
          have AX := AX'
          clear AX'
          clear PX
          have PX := PX'
          clear PX'
          clear BC
          have BC := BC'
          clear BC'
          try simp only [List.setIfInBounds_toArray, List.set_cons_zero, List.set_cons_succ]
          generalize hw : W30.alloc (.cells #[.int .i64 0, .slice none 0 0] 24) = W35 at *
          clear hw
          generalize W30.heap.size = yb at *
          refine wpAnyH_ready (rs := [3]) (by kernel_rfl) (by decide) (AllReadyH.cons rfl (fun K hK => ?_) AllReadyH.nil)
          refine (if_pos rfl).mpr ?_
          go_wp2_with fail
          refine (unhide CP _ (set_bel (unhide HIN) (unhide BC))).mono ?_
          rintro e W36 ⟨S9, rfl, hput⟩
          have bel := hput.below
          have BC' := hide (below_on (unhide BC) bel)
          have PY := hide (PIn.of (B := w.heap.size + 1) hput (by have := World.block_lt_of_cell? _ _ hHeld.c0; simp only at this; omega))
          have HD := hide (put_apart (unhide PX) hput hne0)
          have AX' := hide (blk_bel (unhide AX) bel)
          have AY' := hide (blk_bel (unhide AY) bel)
          have PX' := hide ((unhide PX).bel bel)
          obtain ⟨yr, ya, yc, yts⟩ := S9
          rw [SetV.val]
          simp only
          refine hK.out _ _ (hHeld.bel bel) (fun hHeld => ?_)
          clear hK K bel hput
          clear AX
          have AX := AX'
          clear AX'
          clear AY
          have AY := AY'
          clear AY'
          clear PX
          have PX := PX'
          clear PX'
          clear BC
          have BC := BC'
          clear BC'
          try simp only [List.setIfInBounds_toArray, List.set_cons_zero, List.set_cons_succ]
          refine wpAnyH_ready (rs := [6]) (by kernel_rfl) (by decide) (AllReadyH.cons rfl (fun K hK => ?_) AllReadyH.nil)
          have z0 : W36.cell? ⟨xb, 0, none⟩ = some (.int .i64 0) := cell_block (unhide AX)
          have z1 : W36.cell? ⟨xb, 1, none⟩ = some (.slice none 0 0) := cell_block (unhide AX)
          have zf := fun j => frozen_block (j := j) (unhide AX)
          have BC' := hide (((unhide BC).setCell (p := ⟨xb, 0, none⟩) (Nat.le_of_lt (unhide GX)) (.int .i64 xr)).setCell (p := ⟨xb, 1, none⟩) (Nat.le_of_lt (unhide GX)) (.slice xa xts.length xc))
          have AX' := hide (two_set (.int .i64 xr) (.slice xa xts.length xc) (unhide AX))
          have AY' := hide (far_set (j := 1) (.slice xa xts.length xc) (far_set (j := 0) (.int .i64 xr) (unhide AY) (unhide HNE)) (unhide HNE))
          have PX' := hide (((unhide PX).set (unhide AX) 0 (.int .i64 xr)).set (block_set (j := 0) (u := .int .i64 xr) (unhide AX)) 1 (.slice xa xts.length xc))
          have PY' := hide (((unhide PY).set (unhide AX) 0 (.int .i64 xr)).set (block_set (j := 0) (u := .int .i64 xr) (unhide AX)) 1 (.slice xa xts.length xc))
          have hS := (hHeld.far (x := xb) (j := 0) (Nat.ne_of_lt (unhide GX)) (.int .i64 xr)).far (x := xb) (j := 1) (Nat.ne_of_lt (unhide GX)) (.slice xa xts.length xc)
          go_simp
          refine hK.out _ _ hS (fun hHeld => ?_)
          clear hK K z0 z1 zf hS
          clear AX
          have AX := AX'
          clear AX'
          clear AY
          have AY := AY'
          clear AY'
          clear PX
          have PX := PX'
          clear PX'
          clear PY
          have PY := PY'
          clear PY'
          clear BC
          have BC := BC'
          clear BC'
          try simp only [List.setIfInBounds_toArray, List.set_cons_zero, List.set_cons_succ]
          generalize hw : (W36.setCell ⟨xb, 0, none⟩ (.int .i64 xr)).setCell ⟨xb, 1, none⟩ (.slice xa xts.length xc) = W37 at *
          clear hw
          refine wpAnyH_ready (rs := [7]) (by kernel_rfl) (by decide) (AllReadyH.cons rfl (fun K hK => ?_) AllReadyH.nil)
          have z0 : W37.cell? ⟨yb, 0, none⟩ = some (.int .i64 0) := cell_block (unhide AY)
          have z1 : W37.cell? ⟨yb, 1, none⟩ = some (.slice none 0 0) := cell_block (unhide AY)
          have zf := fun j => frozen_block (j := j) (unhide AY)
          have BC' := hide (((unhide BC).setCell (p := ⟨yb, 0, none⟩) (Nat.le_of_lt (unhide GY)) (.int .i64 yr)).setCell (p := ⟨yb, 1, none⟩) (Nat.le_of_lt (unhide GY)) (.slice ya yts.length yc))
          have AY' := hide (two_set (.int .i64 yr) (.slice ya yts.length yc) (unhide AY))
          have AX' := hide (far_set (j := 1) (.slice ya yts.length yc) (far_set (j := 0) (.int .i64 yr) (unhide AX) (unhide HNE).symm) (unhide HNE).symm)
          have PX' := hide (((unhide PX).set (unhide AY) 0 (.int .i64 yr)).set (block_set (j := 0) (u := .int .i64 yr) (unhide AY)) 1 (.slice ya yts.length yc))
          have PY' := hide (((unhide PY).set (unhide AY) 0 (.int .i64 yr)).set (block_set (j := 0) (u := .int .i64 yr) (unhide AY)) 1 (.slice ya yts.length yc))
          have hS := (hHeld.far (x := yb) (j := 0) (Nat.ne_of_lt (unhide GY)) (.int .i64 yr)).far (x := yb) (j := 1) (Nat.ne_of_lt (unhide GY)) (.slice ya yts.length yc)
          go_simp
          refine hK.out _ _ hS (fun hHeld => ?_)
          clear hK K z0 z1 zf hS
          clear AX
          have AX := AX'
          clear AX'
          clear AY
          have AY := AY'
          clear AY'
          clear PX
          have PX := PX'
          clear PX'
          clear PY
          have PY := PY'
          clear PY'
          clear BC
          have BC := BC'
          clear BC'
          try simp only [List.setIfInBounds_toArray, List.set_cons_zero, List.set_cons_succ]
          generalize hw : (W37.setCell ⟨yb, 0, none⟩ (.int .i64 yr)).setCell ⟨yb, 1, none⟩ (.slice ya yts.length yc) = W38 at *
          clear hw
          refine wpAnyH_done (by kernel_rfl) ?_ _
          exact ⟨rfl, xb, yb, ⟨xr, xa, xc, xts⟩, ⟨yr, ya, yc, yts⟩, unhide AX, unhide AY, unhide HNE, unhide GX, unhide GY, unhide PX, unhide PY, unhide HD, unhide BC, hHeld, frame_at rfl⟩
      · have BC' := hide ((unhide BC).alloc (unhide BC).size (.cells #[.int .i64 0, .slice none 0 0] 24))
        have AY := hide (heap_alloc_new W29 (.cells #[.int .i64 0, .slice none 0 0] 24))
        have GY : Hid (w.heap.size < W29.heap.size) := hide (World.block_lt_of_cell? W29 _ hHeld.c0)
        have HNE : Hid (xb ≠ W29.heap.size) := hide (by have := blk_lt (unhide AX); omega)
        have AX' := hide (blk_bel (unhide AX) (al_bel W29 (.cells #[.int .i64 0, .slice none 0 0] 24)))
        go_simp
        refine hK.out _ _ (hHeld.bel (al_bel W29 (.cells #[.int .i64 0, .slice none 0 0] 24))) (fun hHeld => ?_)
        clear hK K
        clear AX
        have AX := AX'
        clear AX'
        clear BC
        have BC := BC'
        clear BC'
        try simp only [List.setIfInBounds_toArray, List.set_cons_zero, List.set_cons_succ]
        generalize hw : W29.alloc (.cells #[.int .i64 0, .slice none 0 0] 24) = W39 at *
        clear hw
        generalize W29.heap.size = yb at *
        refine wpAnyH_ready (rs := [1]) (by kernel_rfl) (by decide) (AllReadyH.cons rfl (fun K hK => ?_) AllReadyH.nil)
        refine (if_pos rfl).mpr ?_
        go_wp2_with fail
        refine (unhide CP _ (set_bel (unhide HIN) (unhide BC))).mono ?_
        rintro e W40 ⟨S9, rfl, hput⟩
        have bel := hput.below
        have BC' := hide (below_on (unhide BC) bel)
        have PX := hide (PIn.of (B := w.heap.size + 1) hput (by have := World.block_lt_of_cell? _ _ hHeld.c0; simp only at this; omega))
        have AX' := hide (blk_bel (unhide AX) bel)
        have AY' := hide (blk_bel (unhide AY) bel)
        obtain ⟨xr, xa, xc, xts⟩ := S9
        rw [SetV.val]
        simp only
        refine hK.out _ _ (hHeld.bel bel) (fun hHeld => ?_)
        clear hK K bel hput
        clear AX
        have AX := AX'
        clear AX'
        clear AY
        have AY := AY'
        clear AY'
        clear BC
        have BC := BC'
        clear BC'
        try simp only [List.setIfInBounds_toArray, List.set_cons_zero, List.set_cons_succ]
        refine wpAnyH_ready (rs := [3]) (by kernel_rfl) (by decide) (AllReadyH.cons rfl (fun K hK => ?_) AllReadyH.nil)
        refine (if_pos rfl).mpr ?_
        go_wp2_with fail
        refine (unhide CP _ (set_bel (unhide HIN) (unhide BC))).mono ?_
        rintro e W41 ⟨S9, rfl, hput⟩
        have bel := hput.below
        have BC' := hide (below_on (unhide BC) bel)
        have PY := hide (PIn.of (B := w.heap.size + 1) hput (by have := World.block_lt_of_cell? _ _ hHeld.c0; simp only at this; omega))
        have HD := hide (put_apart (unhide PX) hput hne0)
        have AX' := hide (blk_bel (unhide AX) bel)
        have AY' := hide (blk_bel (unhide AY) bel)
        have PX' := hide ((unhide PX).bel bel)
        obtain ⟨yr, ya, yc, yts⟩ := S9
        rw [SetV.val]
        simp only
        refine hK.out _ _ (hHeld.bel bel) (fun hHeld => ?_)
        clear hK K bel hput
        clear AX
        have AX := AX'
        clear AX'
        clear AY
        have AY := AY'
        clear AY'
        clear PX
        have PX := PX'
        clear PX'
        clear BC
        have BC := BC'
        clear BC'
        try simp only [List.setIfInBounds_toArray, List.set_cons_zero, List.set_cons_succ]
        refine wpAnyH_ready (rs := [6]) (by kernel_rfl) (by decide) (AllReadyH.cons rfl (fun K hK => ?_) AllReadyH.nil)
        have z0 : W41.cell? ⟨xb, 0, none⟩ = some (.int .i64 0) := cell_block (unhide AX)
        have z1 : W41.cell? ⟨xb, 1, none⟩ = some (.slice none 0 0) := cell_block (unhide AX)
        have zf := fun j => frozen_block (j := j) (unhide AX)
        have BC' := hide (((unhide BC).setCell (p := ⟨xb, 0, none⟩) (Nat.le_of_lt (unhide GX)) (.int .i64 xr)).setCell (p := ⟨xb, 1, none⟩) (Nat.le_of_lt (unhide GX)) (.slice xa xts.length xc))
        have AX' := hide (two_set (.int .i64 xr) (.slice xa xts.length xc) (unhide AX))
        have AY' := hide (far_set (j := 1) (.slice xa xts.length xc) (far_set (j := 0) (.int .i64 xr) (unhide AY) (unhide HNE)) (unhide HNE))
        have PX' := hide (((unhide PX).set (unhide AX) 0 (.int .i64 xr)).set (block_set (j := 0) (u := .int .i64 xr) (unhide AX)) 1 (.slice xa xts.length xc))
        have PY' := hide (((unhide PY).set (unhide AX) 0 (.int .i64 xr)).set (block_set (j := 0) (u := .int .i64 xr) (unhide AX)) 1 (.slice xa xts.length xc))
        have hS := (hHeld.far (x := xb) (j := 0) (Nat.ne_of_lt (unhide GX)) (.int .i64 xr)).far (x := xb) (j := 1) (Nat.ne_of_lt (unhide GX)) (.slice xa xts.length xc)
        go_simp
        refine hK.out _ _ hS (fun hHeld => ?_)
        clear hK K z0 z1 zf hS
        clear AX
        have AX := AX'
        clear AX'
        clear AY
        have AY := AY'
        clear AY'
        clear PX
        have PX := PX'
        clear PX'
        clear PY
        have PY := PY'
        clear PY'
        clear BC
        have BC := BC'
        clear BC'
        try simp only [List.setIfInBounds_toArray, List.set_cons_zero, List.set_cons_succ]
        generalize hw : (W41.setCell ⟨xb, 0, none⟩ (.int .i64 xr)).setCell ⟨xb, 1, none⟩ (.slice xa xts.length xc) = W42 at *
        clear hw
        refine wpAnyH_ready (rs := [7]) (by kernel_rfl) (by decide) (AllReadyH.cons rfl (fun K hK => ?_) AllReadyH.nil)
        have z0 : W42.cell? ⟨yb, 0, none⟩ = some (.int .i64 0) := cell_block (unhide AY)
        have z1 : W42.cell? ⟨yb, 1, none⟩ = some (.slice none 0 0) := cell_block (unhide AY)
        have zf := fun j => frozen_block (j := j) (unhide AY)
        have BC' := hide (((unhide BC).setCell (p := ⟨yb, 0, none⟩) (Nat.le_of_lt (unhide GY)) (.int .i64 yr)).setCell (p := ⟨yb, 1, none⟩) (Nat.le_of_lt (unhide GY)) (.slice ya yts.length yc))
        have AY' := hide (two_set (.int .i64 yr) (.slice ya yts.length yc) (unhide AY))
        have AX' := hide (far_set (j := 1) (.slice ya yts.length yc) (far_set (j := 0) (.int .i64 yr) (unhide AX) (unhide HNE).symm) (unhide HNE).symm)
        have PX' := hide (((unhide PX).set (unhide AY) 0 (.int .i64 yr)).set (block_set (j := 0) (u := .int .i64 yr) (unhide AY)) 1 (.slice ya yts.length yc))
        have PY' := hide (((unhide PY).set (unhide AY) 0 (.int .i64 yr)).set (block_set (j := 0) (u := .int .i64 yr) (unhide AY)) 1 (.slice ya yts.length yc))
        have hS := (hHeld.far (x := yb) (j := 0) (Nat.ne_of_lt (unhide GY)) (.int .i64 yr)).far (x := yb) (j := 1) (Nat.ne_of_lt (unhide GY)) (.slice ya yts.length yc)
        go_simp
        refine hK.out _ _ hS (fun hHeld => ?_)
        clear hK K z0 z1 zf hS
        clear AX
        have AX := AX'
        clear AX'
        clear AY
        have AY := AY'
        clear AY'
        clear PX
        have PX := PX'
        clear PX'
        clear PY
        have PY := PY'
        clear PY'
        clear BC
        have BC := BC'
        clear BC'
        try simp only [List.setIfInBounds_toArray, List.set_cons_zero, List.set_cons_succ]
        generalize hw : (W42.setCell ⟨yb, 0, none⟩ (.int .i64 yr)).setCell ⟨yb, 1, none⟩ (.slice ya yts.length yc) = W43 at *
        clear hw
        refine wpAnyH_done (by kernel_rfl) ?_ _
        exact ⟨rfl, xb, yb, ⟨xr, xa, xc, xts⟩, ⟨yr, ya, yc, yts⟩, unhide AX, unhide AY, unhide HNE, unhide GX, unhide GY, unhide PX, unhide PY, unhide HD, unhide BC, hHeld, frame_at rfl⟩
    · have BC' := hide ((unhide BC).alloc (unhide BC).size (.cells #[.int .i64 0, .slice none 0 0] 24))
      have AY := hide (heap_alloc_new W0 (.cells #[.int .i64 0, .slice none 0 0] 24))
      have GY : Hid (w.heap.size < W0.heap.size) := hide (World.block_lt_of_cell? W0 _ hHeld.c0)
      go_simp
      refine hK.out _ _ (hHeld.bel (al_bel W0 (.cells #[.int .i64 0, .slice none 0 0] 24))) (fun hHeld => ?_)
      clear hK K
      clear BC
      have BC := BC'
      clear BC'
      try simp only [List.setIfInBounds_toArray, List.set_cons_zero, List.set_cons_succ]
      generalize hw : W0.alloc (.cells #[.int .i64 0, .slice none 0 0] 24) = W44 at *
      clear hw
      generalize W0.heap.size = yb at *
      refine wpAnyH_ready (rs := [1, 4]) (by kernel_rfl) (by decide) (AllReadyH.cons rfl (fun K hK => ?_) (AllReadyH.cons rfl (fun K hK => ?_) AllReadyH.nil))
      · refine (if_pos rfl).mpr ?_
        go_wp2_with fail
        refine (unhide CP _ (set_bel (unhide HIN) (unhide BC))).mono ?_
        rintro e W45 ⟨S9, rfl, hput⟩
        have bel := hput.below
        have BC' := hide (below_on (unhide BC) bel)
        have PX := hide (PIn.of (B := w.heap.size + 1) hput (by have := World.block_lt_of_cell? _ _ hHeld.c0; simp only at this; omega))
        have AY' := hide (blk_bel (unhide AY) bel)
        obtain ⟨xr, xa, xc, xts⟩ := S9
        rw [SetV.val]
        simp only
        refine hK.out _ _ (hHeld.bel bel) (fun hHeld => ?_)
        clear hK K bel hput
        clear AY
        have AY := AY'
        clear AY'
        clear BC
        have BC := BC'
        clear BC'
        try simp only [List.setIfInBounds_toArray, List.set_cons_zero, List.set_cons_succ]
        refine wpAnyH_ready (rs := [3, 4]) (by kernel_rfl) (by decide) (AllReadyH.cons rfl (fun K hK => ?_) (AllReadyH.cons rfl (fun K hK => ?_) AllReadyH.nil))
        · refine (if_pos rfl).mpr ?_
          go_wp2_with fail
          refine (unhide CP _ (set_bel (unhide HIN) (unhide BC))).mono ?_
          rintro e W46 ⟨S9, rfl, hput⟩
          have bel := hput.below
          have BC' := hide (below_on (unhide BC) bel)
          have PY := hide (PIn.of (B := w.heap.size + 1) hput (by have := World.block_lt_of_cell? _ _ hHeld.c0; simp only at this; omega))
          have HD := hide (put_apart (unhide PX) hput hne0)
          have AY' := hide (blk_bel (unhide AY) bel)
          have PX' := hide ((unhide PX).bel bel)
          obtain ⟨yr, ya, yc, yts⟩ := S9
          rw [SetV.val]
          simp only
          refine hK.out _ _ (hHeld.bel bel) (fun hHeld => ?_)
          clear hK K bel hput
          clear AY
          have AY := AY'
          clear AY'
          clear PX
          have PX := PX'
          clear PX'
          clear BC
          have BC := BC'
          clear BC'
          try simp only [List.setIfInBounds_toArray, List.set_cons_zero, List.set_cons_succ]
          refine wpAnyH_ready (rs := [4]) (by kernel_rfl) (by decide) (AllReadyH.cons rfl (fun K hK => ?_) AllReadyH.nil)
          have BC' := hide ((unhide BC).alloc (unhide BC).size (.cells #[.int .i64 0, .slice none 0 0] 24))
          have AX := hide (heap_alloc_new W46 (.cells #[.int .i64 0, .slice none 0 0] 24))
          have GX : Hid (w.heap.size < W46.heap.size) := hide (World.block_lt_of_cell? W46 _ hHeld.c0)
          have HNE : Hid (W46.heap.size ≠ yb) := hide (by have := blk_lt (unhide AY); omega)
          have AY' := hide (blk_bel (unhide AY) (al_bel W46 (.cells #[.int .i64 0, .slice none 0 0] 24)))
          have PX' := hide ((unhide PX).bel (al_bel W46 (.cells #[.int .i64 0, .slice none 0 0] 24)))
          have PY' := hide ((unhide PY).bel (al_bel W46 (.cells #[.int .i64 0, .slice none 0 0] 24)))
          go_simp
          refine hK.out _ _ (hHeld.bel (al_bel W46 (.cells #[.int .i64 0, .slice none 0 0] 24))) (fun hHeld => ?_)
          clear hK K
          clear AY
          have AY := AY'
          clear AY'
          clear PX
          have PX := PX'
          clear PX'
          clear PY
          have PY := PY'
          clear PY'
          clear BC
          have BC := BC'
          clear BC'
          try simp only [List.setIfInBounds_toArray, List.set_cons_zero, List.set_cons_succ]
          generalize hw : W46.alloc (.cells #[.int .i64 0, .slice none 0 0] 24) = W47 at *
          clear hw
          generalize W46.heap.size = xb at *
          refine wpAnyH_ready (rs := [6]) (by kernel_rfl) (by decide) (AllReadyH.cons rfl (fun K hK => ?_) AllReadyH.nil)
          have z0 : W47.cell? ⟨xb, 0, none⟩ = some (.int .i64 0) := cell_block (unhide AX)
          have z1 : W47.cell? ⟨xb, 1, none⟩ = some (.slice none 0 0) := cell_block (unhide AX)
          have zf := fun j => frozen_block (j := j) (unhide AX)
          have BC' := hide (((unhide BC).setCell (p := ⟨xb, 0, none⟩) (Nat.le_of_lt (unhide GX)) (.int .i64 xr)).setCell (p := ⟨xb, 1, none⟩) (Nat.le_of_lt (unhide GX)) (.slice xa xts.length xc))
          have AX' := hide (two_set (.int .i64 xr) (.slice xa xts.length xc) (unhide AX))
          have AY' := hide (far_set (j := 1) (.slice xa xts.length xc) (far_set (j := 0) (.int .i64 xr) (unhide AY) (unhide HNE)) (unhide HNE))
          have PX' := hide (((unhide PX).set (unhide AX) 0 (.int .i64 xr)).set (block_set (j := 0) (u := .int .i64 xr) (unhide AX)) 1 (.slice xa xts.length xc))
          have PY' := hide (((unhide PY).set (unhide AX) 0 (.int .i64 xr)).set (block_set (j := 0) (u := .int .i64 xr) (unhide AX)) 1 (.slice xa xts.length xc))
          have hS := (hHeld.far (x := xb) (j := 0) (Nat.ne_of_lt (unhide GX)) (.int .i64 xr)).far (x := xb) (j := 1) (Nat.ne_of_lt (unhide GX)) (.slice xa xts.length xc)
          go_simp
          refine hK.out _ _ hS (fun hHeld => ?_)
          clear hK K z0 z1 zf hS
          clear AX
          have AX := AX'
          clear AX'
          clear AY
          have AY := AY'
          clear AY'
          clear PX
          have PX := PX'
          clear PX'
          clear PY
          have PY := PY'
          clear PY'
          clear BC
          have BC := BC'
          clear BC'
          try simp only [List.setIfInBounds_toArray, List.set_cons_zero, List.set_cons_succ]
          generalize hw : (W47.setCell ⟨xb, 0, none⟩ (.int .i64 xr)).setCell ⟨xb, 1, none⟩ (.slice xa xts.length xc) = W48 at *
          clear hw
          refine wpAnyH_ready (rs := [7]) (by kernel_rfl) (by decide) (AllReadyH.cons rfl (fun K hK => ?_) AllReadyH.nil)
          have z0 : W48.cell? ⟨yb, 0, none⟩ = some (.int .i64 0) := cell_block (unhide AY)
          have z1 : W48.cell? ⟨yb, 1, none⟩ = some (.slice none 0 0) := cell_block (unhide AY)
          have zf := fun j => frozen_block (j := j) (unhide AY)
          have BC' := hide (((unhide BC).setCell (p := ⟨yb, 0, none⟩) (Nat.le_of_lt (unhide GY)) (.int .i64 yr)).setCell (p := ⟨yb, 1, none⟩) (Nat.le_of_lt (unhide GY)) (.slice ya yts.length yc))
          have AY' := hide (two_set (.int .i64 yr) (.slice ya yts.length yc) (unhide AY))
          have AX' := hide (far_set (j := 1) (.slice ya yts.length yc) (far_set (j := 0) (.int .i64 yr) (unhide AX) (unhide HNE).symm) (unhide HNE).symm)
          have PX' := hide (((unhide PX).set (unhide AY) 0 (.int .i64 yr)).set (block_set (j := 0) (u := .int .i64 yr) (unhide AY)) 1 (.slice ya yts.length yc))
          have PY' := hide (((unhide PY).set (unhide AY) 0 (.int .i64 yr)).set (block_set (j := 0) (u := .int .i64 yr) (unhide AY)) 1 (.slice ya yts.length yc))
          have hS := (hHeld.far (x := yb) (j := 0) (Nat.ne_of_lt (unhide GY)) (.int .i64 yr)).far (x := yb) (j := 1) (Nat.ne_of_lt (unhide GY)) (.slice ya yts.length yc)
          go_simp
          refine hK.out _ _ hS (fun hHeld => ?_)
          clear hK K z0 z1 zf hS
          clear AX
          have AX := AX'
          clear AX'
          clear AY
          have AY := AY'
          clear AY'
          clear PX
          have PX := PX'
          clear PX'
          clear PY
          have PY := PY'
          clear PY'
          clear BC
          have BC := BC'
          clear BC'
          try simp only [List.setIfInBounds_toArray, List.set_cons_zero, List.set_cons_succ]
          generalize hw : (W48.setCell ⟨yb, 0, none⟩ (.int .i64 yr)).setCell ⟨yb, 1, none⟩ (.slice ya yts.length yc) = W49 at *
          clear hw
          refine wpAnyH_done (by kernel_rfl) ?_ _
          exact ⟨rfl, xb, yb, ⟨xr, xa, xc, xts⟩, ⟨yr, ya, yc, yts⟩, unhide AX, unhide AY, unhide HNE, unhide GX, unhide GY, unhide PX, unhide PY, unhide HD, unhide BC, hHeld, frame_at rfl⟩
        · have BC' := hide ((unhide BC).alloc (unhide BC).size (.cells #[.int .i64 0, .slice none 0 0] 24))
          have AX := hide (heap_alloc_new W45 (.cells #[.int .i64 0, .slice none 0 0] 24))
          have GX : Hid (w.heap.size < W45.heap.size) := hide (World.block_lt_of_cell? W45 _ hHeld.c0)
          have HNE : Hid (W45.heap.size ≠ yb) := hide (by have := blk_lt (unhide AY); omega)
          have AY' := hide (blk_bel (unhide AY) (al_bel W45 (.cells #[.int .i64 0, .slice none 0 0] 24)))
          have PX' := hide ((unhide PX).bel (al_bel W45 (.cells #[.int .i64 0, .slice none 0 0] 24)))
          go_simp
          refine hK.out _ _ (hHeld.bel (al_bel W45 (.cells #[.int .i64 0, .slice none 0 0] 24))) (fun hHeld => ?_)
          clear hK K
          clear AY
          have AY := AY'
          clear AY'
          clear PX
          have PX := PX'
          clear PX'
          clear BC
          have BC := BC'
          clear BC'
          try simp only [List.setIfInBounds_toArray, List.set_cons_zero, List.set_cons_succ]
          generalize hw : W45.alloc (.cells #[.int .i64 0, .slice none 0 0] 24) = W50 at *
          clear hw
          generalize W45.heap.size = xb at *
          refine wpAnyH_ready (rs := [3]) (by kernel_rfl) (by decide) (AllReadyH.cons rfl (fun K hK => ?_) AllReadyH.nil)
          refine (if_pos rfl).mpr ?_
          go_wp2_with fail
          refine (unhide CP _ (set_bel (unhide HIN) (unhide BC))).mono ?_
          rintro e W51 ⟨S9, rfl, hput⟩
          have bel := hput.below
          have BC' := hide (below_on (unhide BC) bel)
          have PY := hide (PIn.of (B := w.heap.size + 1) hput (by have := World.block_lt_of_cell? _ _ hHeld.c0; simp only at this; omega))
          have HD := hide (put_apart (unhide PX) hput hne0)
          have AX' := hide (blk_bel (unhide AX) bel)
          have AY' := hide (blk_bel (unhide AY) bel)
          have PX' := hide ((unhide PX).bel bel)
          obtain ⟨yr, ya, yc, yts⟩ := S9
          rw [SetV.val]
          simp only
          refine hK.out _ _ (hHeld.bel bel) (fun hHeld => ?_)
          clear hK K bel hput
          clear AX
          have AX := AX'
          clear AX'
          clear AY
          have AY := AY'
          clear AY'
          clear PX
          have PX := PX'
          clear PX'
          clear BC
          have BC := BC'
          clear BC'
          try simp only [List.setIfInBounds_toArray, List.set_cons_zero, List.set_cons_succ]
          refine wpAnyH_ready (rs := [6]) (by kernel_rfl) (by decide) (AllReadyH.cons rfl (fun K hK => ?_) AllReadyH.nil)
          have z0 : W51.cell? ⟨xb, 0, none⟩ = some (.int .i64 0) := cell_block (unhide AX)
          have z1 : W51.cell? ⟨xb, 1, none⟩ = some (.slice none 0 0) := cell_block (unhide AX)
          have zf := fun j => frozen_block (j := j) (unhide AX)
          have BC' := hide (((unhide BC).setCell (p := ⟨xb, 0, none⟩) (Nat.le_of_lt (unhide GX)) (.int .i64 xr)).setCell (p := ⟨xb, 1, none⟩) (Nat.le_of_lt (unhide GX)) (.slice xa xts.length xc))
          have AX' := hide (two_set (.int .i64 xr) (.slice xa xts.length xc) (unhide AX))
          have AY' := hide (far_set (j := 1) (.slice xa xts.length xc) (far_set (j := 0) (.int .i64 xr) (unhide AY) (unhide HNE)) (unhide HNE))
          have PX' := hide (((unhide PX).set (unhide AX) 0 (.int .i64 xr)).set (block_set (j := 0) (u := .int .i64 xr) (unhide AX)) 1 (.slice xa xts.length xc))
          have PY' := hide (((unhide PY).set (unhide AX) 0 (.int .i64 xr)).set (block_set (j := 0) (u := .int .i64 xr) (unhide AX)) 1 (.slice xa xts.length xc))
          have hS := (hHeld.far (x := xb) (j := 0) (Nat.ne_of_lt (unhide GX)) (.int .i64 xr)).far (x := xb) (j := 1) (Nat.ne_of_lt (unhide GX)) (.slice xa xts.length xc)
          go_simp
          refine hK.out _ _ hS (fun hHeld => ?_)
          clear hK K z0 z1 zf hS
          clear AX
          have AX := AX'
          clear AX'
          clear AY
          have AY := AY'
          clear AY'
          clear PX
          have PX := PX'
          clear PX'
          clear PY
          have PY := PY'
          clear PY'
          clear BC
          have BC := BC'
          clear BC'
          try simp only [List.setIfInBounds_toArray, List.set_cons_zero, List.set_cons_succ]
          generalize hw : (W51.setCell ⟨xb, 0, none⟩ (.int .i64 xr)).setCell ⟨xb, 1, none⟩ (.slice xa xts.length xc) = W52 at *
          clear hw
          refine wpAnyH_ready (rs := [7]) (by kernel_rfl) (by decide) (AllReadyH.cons rfl (fun K hK => ?_) AllReadyH.nil)
          have z0 : W52.cell? ⟨yb, 0, none⟩ = some (.int .i64 0) := cell_block (unhide AY)
          have z1 : W52.cell? ⟨yb, 1, none⟩ = some (.slice none 0 0) := cell_block (unhide AY)
          have zf := fun j => frozen_block (j := j) (unhide AY)
          have BC' := hide (((unhide BC).setCell (p := ⟨yb, 0, none⟩) (Nat.le_of_lt (unhide GY)) (.int .i64 yr)).setCell (p := ⟨yb, 1, none⟩) (Nat.le_of_lt (unhide GY)) (.slice ya yts.length yc))
          have AY' := hide (two_set (.int .i64 yr) (.slice ya yts.length yc) (unhide AY))
          have AX' := hide (far_set (j := 1) (.slice ya yts.length yc) (far_set (j := 0) (.int .i64 yr) (unhide AX) (unhide HNE).symm) (unhide HNE).symm)
          have PX' := hide (((unhide PX).set (unhide AY) 0 (.int .i64 yr)).set (block_set (j := 0) (u := .int .i64 yr) (unhide AY)) 1 (.slice ya yts.length yc))
          have PY' := hide (((unhide PY).set (unhide AY) 0 (.int .i64 yr)).set (block_set (j := 0) (u := .int .i64 yr) (unhide AY)) 1 (.slice ya yts.length yc))
          have hS := (hHeld.far (x := yb) (j := 0) (Nat.ne_of_lt (unhide GY)) (.int .i64 yr)).far (x := yb) (j := 1) (Nat.ne_of_lt (unhide GY)) (.slice ya yts.length yc)
          go_simp
          refine hK.out _ _ hS (fun hHeld => ?_)
          clear hK K z0 z1 zf hS
          clear AX
          have AX := AX'
          clear AX'
          clear AY
          have AY := AY'
          clear AY'
          clear PX
          have PX := PX'
          clear PX'
          clear PY
          have PY := PY'
          clear PY'
          clear BC
          have BC := BC'
          clear BC'
          try simp only [List.setIfInBounds_toArray, List.set_cons_zero, List.set_cons_succ]
          generalize hw : (W52.setCell ⟨yb, 0, none⟩ (.int .i64 yr)).setCell ⟨yb, 1, none⟩ (.slice ya yts.length yc) = W53 at *
          clear hw
          refine wpAnyH_done (by kernel_rfl) ?_ _
          exact ⟨rfl, xb, yb, ⟨xr, xa, xc, xts⟩, ⟨yr, ya, yc, yts⟩, unhide AX, unhide AY, unhide HNE, unhide GX, unhide GY, unhide PX, unhide PY, unhide HD, unhide BC, hHeld, frame_at rfl⟩
      · have BC' := hide ((unhide BC).alloc (unhide BC).size (.cells #[.int .i64 0, .slice none 0 0] 24))
        have AX := hide (heap_alloc_new W44 (.cells #[.int .i64 0, .slice none 0 0] 24))
        have GX : Hid (w.heap.size < W44.heap.size) := hide (World.block_lt_of_cell? W44 _ hHeld.c0)
        have HNE : Hid (W44.heap.size ≠ yb) := hide (by have := blk_lt (unhide AY); omega)
        have AY' := hide (blk_bel (unhide AY) (al_bel W44 (.cells #[.int .i64 0, .slice none 0 0] 24)))
        go_simp
        refine hK.out _ _ (hHeld.bel (al_bel W44 (.cells #[.int .i64 0, .slice none 0 0] 24))) (fun hHeld => ?_)
        clear hK K
        clear AY
        have AY := AY'
        clear AY'
        clear BC
        have BC := BC'
        clear BC'
        try simp only [List.setIfInBounds_toArray, List.set_cons_zero, List.set_cons_succ]
        generalize hw : W44.alloc (.cells #[.int .i64 0, .slice none 0 0] 24) = W54 at *
        clear hw
        generalize W44.heap.size = xb at *
        refine wpAnyH_ready (rs := [1]) (by kernel_rfl) (by decide) (AllReadyH.cons rfl (fun K hK => ?_) AllReadyH.nil)
        refine (if_pos rfl).mpr ?_
        go_wp2_with fail
        refine (unhide CP _ (set_bel (unhide HIN) (unhide BC))).mono ?_
        rintro e W55 ⟨S9, rfl, hput⟩
        have bel := hput.below
        have BC' := hide (below_on (unhide BC) bel)
        have PX := hide (PIn.of (B := w.heap.size + 1) hput (by have := World.block_lt_of_cell? _ _ hHeld.c0; simp only at this; omega))
        have AX' := hide (blk_bel (unhide AX) bel)
        have AY' := hide (blk_bel (unhide AY) bel)
        obtain ⟨xr, xa, xc, xts⟩ := S9
        rw [SetV.val]
        simp only
        refine hK.out _ _ (hHeld.bel bel) (fun hHeld => ?_)
        clear hK K bel hput
        clear AX
        have AX := AX'
        clear AX'
        clear AY
        have AY := AY'
        clear AY'
        clear BC
        have BC := BC'
        clear BC'
        try simp only [List.setIfInBounds_toArray, List.set_cons_zero, List.set_cons_succ]
        refine wpAnyH_ready (rs := [3]) (by kernel_rfl) (by decide) (AllReadyH.cons rfl (fun K hK => ?_) AllReadyH.nil)
        refine (if_pos rfl).mpr ?_
        go_wp2_with fail
        refine (unhide CP _ (set_bel (unhide HIN) (unhide BC))).mono ?_
        rintro e W56 ⟨S9, rfl, hput⟩
        have bel := hput.below
        have BC' := hide (below_on (unhide BC) bel)
        have PY := hide (PIn.of (B := w.heap.size + 1) hput (by have := World.block_lt_of_cell? _ _ hHeld.c0; simp only at this; omega))
        have HD := hide (put_apart (unhide PX) hput hne0)
        have AX' := hide (blk_bel (unhide AX) bel)
        have AY' := hide (blk_bel (unhide AY) bel)
        have PX' := hide ((unhide PX).bel bel)
        obtain ⟨yr, ya, yc, yts⟩ := S9
        rw [SetV.val]
        simp only
        refine hK.out _ _ (hHeld.bel bel) (fun hHeld => ?_)
        clear hK K bel hput
        clear AX
        have AX := AX'
        clear AX'
        clear AY
        have AY := AY'
        clear AY'
        clear PX
        have PX := PX'
        clear PX'
        clear BC
        have BC := BC'
        clear BC'
        try simp only [List.setIfInBounds_toArray, List.set_cons_zero, List.set_cons_succ]
        refine wpAnyH_ready (rs := [6]) (by kernel_rfl) (by decide) (AllReadyH.cons rfl (fun K hK => ?_) AllReadyH.nil)
        have z0 : W56.cell? ⟨xb, 0, none⟩ = some (.int .i64 0) := cell_block (unhide AX)
        have z1 : W56.cell? ⟨xb, 1, none⟩ = some (.slice none 0 0) := cell_block (unhide AX)
        have zf := fun j => frozen_block (j := j) (unhide AX)
        have BC' := hide (((unhide BC).setCell (p := ⟨xb, 0, none⟩) (Nat.le_of_lt (unhide GX)) (.int .i64 xr)).setCell (p := ⟨xb, 1, none⟩) (Nat.le_of_lt (unhide GX)) (.slice xa xts.length xc))
        have AX' := hide (two_set (.int .i64 xr) (.slice xa xts.length xc) (unhide AX))
        have AY' := hide (far_set (j := 1) (.slice xa xts.length xc) (far_set (j := 0) (.int .i64 xr) (unhide AY) (unhide HNE)) (unhide HNE))
        have PX' := hide (((unhide PX).set (unhide AX) 0 (.int .i64 xr)).set (block_set (j := 0) (u := .int .i64 xr) (unhide AX)) 1 (.slice xa xts.length xc))
        have PY' := hide (((unhide PY).set (unhide AX) 0 (.int .i64 xr)).set (block_set (j := 0) (u := .int .i64 xr) (unhide AX)) 1 (.slice xa xts.length xc))
        have hS := (hHeld.far (x := xb) (j := 0) (Nat.ne_of_lt (unhide GX)) (.int .i64 xr)).far (x := xb) (j := 1) (Nat.ne_of_lt (unhide GX)) (.slice xa xts.length xc)
        go_simp
        refine hK.out _ _ hS (fun hHeld => ?_)
        clear hK K z0 z1 zf hS
        clear AX
        have AX := AX'
        clear AX'
        clear AY
        have AY := AY'
        clear AY'
        clear PX
        have PX := PX'
        clear PX'
        clear PY
        have PY := PY'
        clear PY'
        clear BC
        have BC := BC'
        clear BC'
        try simp only [List.setIfInBounds_toArray, List.set_cons_zero, List.set_cons_succ]
        generalize hw : (W56.setCell ⟨xb, 0, none⟩ (.int .i64 xr)).setCell ⟨xb, 1, none⟩ (.slice xa xts.length xc) = W57 at *
        clear hw
        refine wpAnyH_ready (rs := [7]) (by kernel_rfl) (by decide) (AllReadyH.cons rfl (fun K hK => ?_) AllReadyH.nil)
        have z0 : W57.cell? ⟨yb, 0, none⟩ = some (.int .i64 0) := cell_block (unhide AY)
        have z1 : W57.cell? ⟨yb, 1, none⟩ = some (.slice none 0 0) := cell_block (unhide AY)
        have zf := fun j => frozen_block (j := j) (unhide AY)
        have BC' := hide (((unhide BC).setCell (p := ⟨yb, 0, none⟩) (Nat.le_of_lt (unhide GY)) (.int .i64 yr)).setCell (p := ⟨yb, 1, none⟩) (Nat.le_of_lt (unhide GY)) (.slice ya yts.length yc))
        have AY' := hide (two_set (.int .i64 yr) (.slice ya yts.length yc) (unhide AY))
        have AX' := hide (far_set (j := 1) (.slice ya yts.length yc) (far_set (j := 0) (.int .i64 yr) (unhide AX) (unhide HNE).symm) (unhide HNE).symm)
        have PX' := hide (((unhide PX).set (unhide AY) 0 (.int .i64 yr)).set (block_set (j := 0) (u := .int .i64 yr) (unhide AY)) 1 (.slice ya yts.length yc))
        have PY' := hide (((unhide PY).set (unhide AY) 0 (.int .i64 yr)).set (block_set (j := 0) (u := .int .i64 yr) (unhide AY)) 1 (.slice ya yts.length yc))
        have hS := (hHeld.far (x := yb) (j := 0) (Nat.ne_of_lt (unhide GY)) (.int .i64 yr)).far (x := yb) (j := 1) (Nat.ne_of_lt (unhide GY)) (.slice ya yts.length yc)
        go_simp
        refine hK.out _ _ hS (fun hHeld => ?_)
        clear hK K z0 z1 zf hS
        clear AX
        have AX := AX'
        clear AX'
        clear AY
        have AY := AY'
        clear AY'
        clear PX
        have PX := PX'
        clear PX'
        clear PY
        have PY := PY'
        clear PY'
        clear BC
        have BC := BC'
        clear BC'
        try simp only [List.setIfInBounds_toArray, List.set_cons_zero, List.set_cons_succ]
        generalize hw : (W57.setCell ⟨yb, 0, none⟩ (.int .i64 yr)).setCell ⟨yb, 1, none⟩ (.slice ya yts.length yc) = W58 at *
        clear hw
        refine wpAnyH_done (by kernel_rfl) ?_ _
        exact ⟨rfl, xb, yb, ⟨xr, xa, xc, xts⟩, ⟨yr, ya, yc, yts⟩, unhide AX, unhide AY, unhide HNE, unhide GX, unhide GY, unhide PX, unhide PY, unhide HD, unhide BC, hHeld, frame_at rfl⟩
  clear BC hbox c0 c1
  rintro e a4 w4 ⟨rfl, xb, yb, X, Y, hx, hy, hxy, hxg, hyg, pX, pY, hao, bel, hbox, f, rfl⟩
  have vX := chg_of (m := 1) (q := q) (th := 0) (high := high) pX hk ⟨by omega, by omega⟩
  have vY := chg_of (m := 2) (q := 0) (th := theta) (high := high) pY hk ⟨by omega, by omega⟩
  have aX := pin_all (n := X.reload) pX (unhide HALL) (by rw [pX.reload]; exact hr)
  have aY := pin_all (n := Y.reload) pY (unhide HALL) (by rw [pY.reload]; exact hr)
  have kX : k < X.ts.length := by rw [pX.len]; exact hk
  have kY : k < Y.ts.length := by rw [pY.len]; exact hk
  obtain ⟨gx, ex⟩ := pin_at pX hne0
  obtain ⟨gy, ey⟩ := pin_at pY hne0
  have hX := held_of (unhide HIN) pX
  have hY := held_of (unhide HIN) pY
  have lX := pX.len
  have lY := pY.len
  have rX : I64 X.reload := by rw [pX.reload]; exact unhide HRR
  have rY : I64 Y.reload := by rw [pY.reload]; exact unhide HRR
  obtain ⟨xr, xa, xc, xts⟩ := X
  obtain ⟨yr, ya, yc, yts⟩ := Y
  simp only at hx hy hao vX vY aX aY kX kY ex ey lX lY rX rY
  subst ex ey
  have AX := chg_all (t := { xts.getD k task0 with mode := 1, Q := q, theta := 0 }) aX kX rfl (fun h => is_mode h (by simp [modeB, inB]; omega))
  have AY := chg_all (t := { yts.getD k task0 with mode := 2, Q := 0, theta := theta }) aY kY rfl (fun h => is_mode h (by simp [modeB]; omega))
  have bm : BM w w4.drew s xb yb gx gy xr yr xc yc xts yts := BM.up ⟨hbox, hx, hy, hX, hY, fun e => hao (by rw [e]), bel⟩ ((Below.refl _ _).drew)
  have BM0 := hide bm
  obtain ⟨n, hn⟩ : ∃ n, n = s.ts.length := ⟨_, rfl⟩
  rw [← hn] at lX lY
  have RX : Hid (RowBox w4.drew xb gx n xc) := hide (by have := (unhide BM0).rowX; rw [lX] at this; exact this)
  have cx1 : w4.cell? ⟨xb, 1, none⟩ = some (.slice (some ⟨gx, 0, none⟩) n xc) := by have := cell_block (j := 1) hx; rw [lX] at this; exact this
  have kn : k < n := by omega
  have kn' : (k : Int) < n := by omega
  have k0 : (0 : Int) ≤ (k : Int) := by omega
  have hn10 : n ≤ 10 := by omega
  have HVX := hide vX
  have HVY := hide vY
  have HAX := hide AX
  have HAY := hide AY
  have HLX := hide lX
  have HLY := hide lY
  have HKX := hide kX
  have HKY := hide kY
  have HRX := hide rX
  have HRY := hide rY
  clear vX vY AX AY aX aY pX pY hX hY hx hy hao bel hbox bm lX lY kX kY rX rY hn
  go_wp2_with fail
  refine wp_region_held_drew (S := fun w9 => RowBox w9 xb gx n xc) (by kernel_rfl) (unhide RX) (fun hHeld => ?_)
  clear RX cx1
  generalize w4.drew = W0 at *
  refine take_yes 0 61 (.pointer (some ⟨xb, 1, none⟩)) rfl rfl (by kernel_rfl) (by kernel_rfl) (by kernel_rfl) (fun _ _ _ h => h) rfl (by assumption) (by intro w9 hS9; obtain ⟨s1, s2, s3⟩ := hS9; go_simp) ?_
  simp only [List.setIfInBounds_toArray, List.set_cons_zero, List.set_cons_succ]
  refine take_yes 1 62 (.slice (some ⟨gx, 0, none⟩) n xc) rfl rfl (by kernel_rfl) (by kernel_rfl) (by kernel_rfl) (fun _ _ _ h => h) rfl (by assumption) (by intro w9 hS9; obtain ⟨s1, s2, s3⟩ := hS9; go_simp) ?_
  simp only [List.setIfInBounds_toArray, List.set_cons_zero, List.set_cons_succ]
  refine take_yes 2 63 (.int .i64 k) rfl rfl (by kernel_rfl) (by kernel_rfl) (by kernel_rfl) (fun _ _ _ h => h) rfl (by assumption) (by intro w9 hS9; obtain ⟨s1, s2, s3⟩ := hS9; go_simp) ?_
  simp only [List.setIfInBounds_toArray, List.set_cons_zero, List.set_cons_succ]
  refine take_yes 3 64 (.pointer (some ⟨xb, 1, none⟩)) rfl rfl (by kernel_rfl) (by kernel_rfl) (by kernel_rfl) (fun _ _ _ h => h) rfl (by assumption) (by intro w9 hS9; obtain ⟨s1, s2, s3⟩ := hS9; go_simp) ?_
  simp only [List.setIfInBounds_toArray, List.set_cons_zero, List.set_cons_succ]
  refine take_yes 4 65 (.slice (some ⟨gx, 0, none⟩) n xc) rfl rfl (by kernel_rfl) (by kernel_rfl) (by kernel_rfl) (fun _ _ _ h => h) rfl (by assumption) (by intro w9 hS9; obtain ⟨s1, s2, s3⟩ := hS9; go_simp) ?_
  simp only [List.setIfInBounds_toArray, List.set_cons_zero, List.set_cons_succ]
  refine take_yes 5 66 (.int .i64 k) rfl rfl (by kernel_rfl) (by kernel_rfl) (by kernel_rfl) (fun _ _ _ h => h) rfl (by assumption) (by intro w9 hS9; obtain ⟨s1, s2, s3⟩ := hS9; go_simp) ?_
  simp only [List.setIfInBounds_toArray, List.set_cons_zero, List.set_cons_succ]
  refine take_yes 6 67 (.pointer (some ⟨xb, 1, none⟩)) rfl rfl (by kernel_rfl) (by kernel_rfl) (by kernel_rfl) (fun _ _ _ h => h) rfl (by assumption) (by intro w9 hS9; obtain ⟨s1, s2, s3⟩ := hS9; go_simp) ?_
  simp only [List.setIfInBounds_toArray, List.set_cons_zero, List.set_cons_succ]
  refine take_yes 7 68 (.slice (some ⟨gx, 0, none⟩) n xc) rfl rfl (by kernel_rfl) (by kernel_rfl) (by kernel_rfl) (fun _ _ _ h => h) rfl (by assumption) (by intro w9 hS9; obtain ⟨s1, s2, s3⟩ := hS9; go_simp) ?_
  simp only [List.setIfInBounds_toArray, List.set_cons_zero, List.set_cons_succ]
  refine take_yes 8 69 (.int .i64 k) rfl rfl (by kernel_rfl) (by kernel_rfl) (by kernel_rfl) (fun _ _ _ h => h) rfl (by assumption) (by intro w9 hS9; obtain ⟨s1, s2, s3⟩ := hS9; go_simp) ?_
  simp only [List.setIfInBounds_toArray, List.set_cons_zero, List.set_cons_succ]
  refine take_yes 9 70 (.int .i64 q) rfl rfl (by kernel_rfl) (by kernel_rfl) (by kernel_rfl) (fun _ _ _ h => h) rfl (by assumption) (by intro w9 hS9; obtain ⟨s1, s2, s3⟩ := hS9; go_simp) ?_
  simp only [List.setIfInBounds_toArray, List.set_cons_zero, List.set_cons_succ]
  refine take_yes 10 71 (.pointer (some ⟨gx, k * 9, none⟩)) rfl rfl (by kernel_rfl) (by kernel_rfl) (by kernel_rfl) (fun _ _ _ h => h) rfl (by assumption) (by intro w9 hS9; obtain ⟨s1, s2, s3⟩ := hS9; go_simp) ?_
  simp only [List.setIfInBounds_toArray, List.set_cons_zero, List.set_cons_succ]
  refine take_yes 11 72 (.pointer (some ⟨gx, k * 9 + 3, none⟩)) rfl rfl (by kernel_rfl) (by kernel_rfl) (by kernel_rfl) (fun _ _ _ h => h) rfl (by assumption) (by intro w9 hS9; obtain ⟨s1, s2, s3⟩ := hS9; go_simp) ?_
  simp only [List.setIfInBounds_toArray, List.set_cons_zero, List.set_cons_succ]
  refine wpAnyH_ready (rs := [12]) (by kernel_rfl) (by decide) (AllReadyH.cons rfl (fun K hK => ?_) AllReadyH.nil)
  obtain ⟨z, hz⟩ := hHeld.cell (j := k * 9 + 3) (by omega)
  have zf := hHeld.frozen (k * 9 + 3)
  have BMx1 := hide ((unhide BM0).setX (k := k) (unhide HKX) (rfl) (chg_mode _ (m := 1) (by unfold I64; omega)))
  go_simp
  refine hK.out _ _ (hHeld.set _ _) (fun hHeld => ?_)
  clear hK K
  try simp only [List.setIfInBounds_toArray, List.set_cons_zero, List.set_cons_succ]
  clear hz zf BM0
  generalize hw : W0.setCell ⟨gx, k * 9 + 3, none⟩ (.int .i64 1) = Wx1 at *
  clear hw
  refine take_yes 13 73 (.pointer (some ⟨gx, k * 9, none⟩)) rfl rfl (by kernel_rfl) (by kernel_rfl) (by kernel_rfl) (fun _ _ _ h => h) rfl (by assumption) (by intro w9 hS9; obtain ⟨s1, s2, s3⟩ := hS9; go_simp) ?_
  simp only [List.setIfInBounds_toArray, List.set_cons_zero, List.set_cons_succ]
  refine take_yes 14 74 (.pointer (some ⟨gx, k * 9 + 4, none⟩)) rfl rfl (by kernel_rfl) (by kernel_rfl) (by kernel_rfl) (fun _ _ _ h => h) rfl (by assumption) (by intro w9 hS9; obtain ⟨s1, s2, s3⟩ := hS9; go_simp) ?_
  simp only [List.setIfInBounds_toArray, List.set_cons_zero, List.set_cons_succ]
  refine wpAnyH_ready (rs := [15]) (by kernel_rfl) (by decide) (AllReadyH.cons rfl (fun K hK => ?_) AllReadyH.nil)
  obtain ⟨z, hz⟩ := hHeld.cell (j := k * 9 + 4) (by omega)
  have zf := hHeld.frozen (k * 9 + 4)
  have BMx2 := hide ((unhide BMx1).setX (k := k) ((by rw [List.length_set]; exact unhide HKX)) (set_at _ (unhide HKX)) (chg_Q _ (m := q) (by unfold I64; omega)))
  go_simp
  refine hK.out _ _ (hHeld.set _ _) (fun hHeld => ?_)
  clear hK K
  try simp only [List.setIfInBounds_toArray, List.set_cons_zero, List.set_cons_succ]
  clear hz zf BMx1
  generalize hw : Wx1.setCell ⟨gx, k * 9 + 4, none⟩ (.int .i64 q) = Wx2 at *
  clear hw
  refine take_yes 16 75 (.pointer (some ⟨gx, k * 9, none⟩)) rfl rfl (by kernel_rfl) (by kernel_rfl) (by kernel_rfl) (fun _ _ _ h => h) rfl (by assumption) (by intro w9 hS9; obtain ⟨s1, s2, s3⟩ := hS9; go_simp) ?_
  simp only [List.setIfInBounds_toArray, List.set_cons_zero, List.set_cons_succ]
  refine take_yes 17 76 (.pointer (some ⟨gx, k * 9 + 5, none⟩)) rfl rfl (by kernel_rfl) (by kernel_rfl) (by kernel_rfl) (fun _ _ _ h => h) rfl (by assumption) (by intro w9 hS9; obtain ⟨s1, s2, s3⟩ := hS9; go_simp) ?_
  simp only [List.setIfInBounds_toArray, List.set_cons_zero, List.set_cons_succ]
  refine wpAnyH_ready (rs := [18]) (by kernel_rfl) (by decide) (AllReadyH.cons rfl (fun K hK => ?_) AllReadyH.nil)
  obtain ⟨z, hz⟩ := hHeld.cell (j := k * 9 + 5) (by omega)
  have zf := hHeld.frozen (k * 9 + 5)
  have BMx3 := hide ((unhide BMx2).setX (k := k) ((by rw [List.length_set]; exact (by rw [List.length_set]; exact unhide HKX))) (set_at _ ((by rw [List.length_set]; exact unhide HKX))) (chg_theta _ (m := 0) (by unfold I64; omega)))
  go_simp
  refine hK.out _ _ (hHeld.set _ _) (fun hHeld => ?_)
  clear hK K
  try simp only [List.setIfInBounds_toArray, List.set_cons_zero, List.set_cons_succ]
  clear hz zf BMx2
  generalize hw : Wx2.setCell ⟨gx, k * 9 + 5, none⟩ (.int .i64 0) = Wx3 at *
  clear hw
  refine wpAnyH_done (by kernel_rfl) ?_ _
  have BM5 := hide ((unhide BMx3).up ((Below.refl _ _).drew))
  have RY : Hid (RowBox Wx3.drew yb gy n yc) := hide (by have := (unhide BM5).rowY; rw [unhide HLY] at this; exact this)
  have cy1 : Wx3.cell? ⟨yb, 1, none⟩ = some (.slice (some ⟨gy, 0, none⟩) n yc) := by have := cell_block (j := 1) (unhide BMx3).yx; rw [unhide HLY] at this; exact this
  clear hHeld BMx3
  go_wp2_with fail
  refine wp_region_held_drew (S := fun w9 => RowBox w9 yb gy n yc) (by kernel_rfl) (unhide RY) (fun hHeld => ?_)
  clear RY cy1
  generalize Wx3.drew = V0 at *
  refine take_yes 0 77 (.pointer (some ⟨yb, 1, none⟩)) rfl rfl (by kernel_rfl) (by kernel_rfl) (by kernel_rfl) (fun _ _ _ h => h) rfl (by assumption) (by intro w9 hS9; obtain ⟨s1, s2, s3⟩ := hS9; go_simp) ?_
  simp only [List.setIfInBounds_toArray, List.set_cons_zero, List.set_cons_succ]
  refine take_yes 1 78 (.slice (some ⟨gy, 0, none⟩) n yc) rfl rfl (by kernel_rfl) (by kernel_rfl) (by kernel_rfl) (fun _ _ _ h => h) rfl (by assumption) (by intro w9 hS9; obtain ⟨s1, s2, s3⟩ := hS9; go_simp) ?_
  simp only [List.setIfInBounds_toArray, List.set_cons_zero, List.set_cons_succ]
  refine take_yes 2 79 (.int .i64 k) rfl rfl (by kernel_rfl) (by kernel_rfl) (by kernel_rfl) (fun _ _ _ h => h) rfl (by assumption) (by intro w9 hS9; obtain ⟨s1, s2, s3⟩ := hS9; go_simp) ?_
  simp only [List.setIfInBounds_toArray, List.set_cons_zero, List.set_cons_succ]
  refine take_yes 3 80 (.pointer (some ⟨yb, 1, none⟩)) rfl rfl (by kernel_rfl) (by kernel_rfl) (by kernel_rfl) (fun _ _ _ h => h) rfl (by assumption) (by intro w9 hS9; obtain ⟨s1, s2, s3⟩ := hS9; go_simp) ?_
  simp only [List.setIfInBounds_toArray, List.set_cons_zero, List.set_cons_succ]
  refine take_yes 4 81 (.slice (some ⟨gy, 0, none⟩) n yc) rfl rfl (by kernel_rfl) (by kernel_rfl) (by kernel_rfl) (fun _ _ _ h => h) rfl (by assumption) (by intro w9 hS9; obtain ⟨s1, s2, s3⟩ := hS9; go_simp) ?_
  simp only [List.setIfInBounds_toArray, List.set_cons_zero, List.set_cons_succ]
  refine take_yes 5 82 (.int .i64 k) rfl rfl (by kernel_rfl) (by kernel_rfl) (by kernel_rfl) (fun _ _ _ h => h) rfl (by assumption) (by intro w9 hS9; obtain ⟨s1, s2, s3⟩ := hS9; go_simp) ?_
  simp only [List.setIfInBounds_toArray, List.set_cons_zero, List.set_cons_succ]
  refine take_yes 6 83 (.pointer (some ⟨yb, 1, none⟩)) rfl rfl (by kernel_rfl) (by kernel_rfl) (by kernel_rfl) (fun _ _ _ h => h) rfl (by assumption) (by intro w9 hS9; obtain ⟨s1, s2, s3⟩ := hS9; go_simp) ?_
  simp only [List.setIfInBounds_toArray, List.set_cons_zero, List.set_cons_succ]
  refine take_yes 7 84 (.slice (some ⟨gy, 0, none⟩) n yc) rfl rfl (by kernel_rfl) (by kernel_rfl) (by kernel_rfl) (fun _ _ _ h => h) rfl (by assumption) (by intro w9 hS9; obtain ⟨s1, s2, s3⟩ := hS9; go_simp) ?_
  simp only [List.setIfInBounds_toArray, List.set_cons_zero, List.set_cons_succ]
  refine take_yes 8 85 (.int .i64 k) rfl rfl (by kernel_rfl) (by kernel_rfl) (by kernel_rfl) (fun _ _ _ h => h) rfl (by assumption) (by intro w9 hS9; obtain ⟨s1, s2, s3⟩ := hS9; go_simp) ?_
  simp only [List.setIfInBounds_toArray, List.set_cons_zero, List.set_cons_succ]
  refine take_yes 9 86 (.int .i64 theta) rfl rfl (by kernel_rfl) (by kernel_rfl) (by kernel_rfl) (fun _ _ _ h => h) rfl (by assumption) (by intro w9 hS9; obtain ⟨s1, s2, s3⟩ := hS9; go_simp) ?_
  simp only [List.setIfInBounds_toArray, List.set_cons_zero, List.set_cons_succ]
  refine take_yes 10 87 (.pointer (some ⟨gy, k * 9, none⟩)) rfl rfl (by kernel_rfl) (by kernel_rfl) (by kernel_rfl) (fun _ _ _ h => h) rfl (by assumption) (by intro w9 hS9; obtain ⟨s1, s2, s3⟩ := hS9; go_simp) ?_
  simp only [List.setIfInBounds_toArray, List.set_cons_zero, List.set_cons_succ]
  refine take_yes 11 88 (.pointer (some ⟨gy, k * 9 + 3, none⟩)) rfl rfl (by kernel_rfl) (by kernel_rfl) (by kernel_rfl) (fun _ _ _ h => h) rfl (by assumption) (by intro w9 hS9; obtain ⟨s1, s2, s3⟩ := hS9; go_simp) ?_
  simp only [List.setIfInBounds_toArray, List.set_cons_zero, List.set_cons_succ]
  refine wpAnyH_ready (rs := [12]) (by kernel_rfl) (by decide) (AllReadyH.cons rfl (fun K hK => ?_) AllReadyH.nil)
  obtain ⟨z, hz⟩ := hHeld.cell (j := k * 9 + 3) (by omega)
  have zf := hHeld.frozen (k * 9 + 3)
  have BMy1 := hide ((unhide BM5).setY (k := k) (unhide HKY) (rfl) (chg_mode _ (m := 2) (by unfold I64; omega)))
  go_simp
  refine hK.out _ _ (hHeld.set _ _) (fun hHeld => ?_)
  clear hK K
  try simp only [List.setIfInBounds_toArray, List.set_cons_zero, List.set_cons_succ]
  clear hz zf BM5
  generalize hw : V0.setCell ⟨gy, k * 9 + 3, none⟩ (.int .i64 2) = Vy1 at *
  clear hw
  refine take_yes 13 89 (.pointer (some ⟨gy, k * 9, none⟩)) rfl rfl (by kernel_rfl) (by kernel_rfl) (by kernel_rfl) (fun _ _ _ h => h) rfl (by assumption) (by intro w9 hS9; obtain ⟨s1, s2, s3⟩ := hS9; go_simp) ?_
  simp only [List.setIfInBounds_toArray, List.set_cons_zero, List.set_cons_succ]
  refine take_yes 14 90 (.pointer (some ⟨gy, k * 9 + 4, none⟩)) rfl rfl (by kernel_rfl) (by kernel_rfl) (by kernel_rfl) (fun _ _ _ h => h) rfl (by assumption) (by intro w9 hS9; obtain ⟨s1, s2, s3⟩ := hS9; go_simp) ?_
  simp only [List.setIfInBounds_toArray, List.set_cons_zero, List.set_cons_succ]
  refine wpAnyH_ready (rs := [15]) (by kernel_rfl) (by decide) (AllReadyH.cons rfl (fun K hK => ?_) AllReadyH.nil)
  obtain ⟨z, hz⟩ := hHeld.cell (j := k * 9 + 4) (by omega)
  have zf := hHeld.frozen (k * 9 + 4)
  have BMy2 := hide ((unhide BMy1).setY (k := k) ((by rw [List.length_set]; exact unhide HKY)) (set_at _ (unhide HKY)) (chg_Q _ (m := 0) (by unfold I64; omega)))
  go_simp
  refine hK.out _ _ (hHeld.set _ _) (fun hHeld => ?_)
  clear hK K
  try simp only [List.setIfInBounds_toArray, List.set_cons_zero, List.set_cons_succ]
  clear hz zf BMy1
  generalize hw : Vy1.setCell ⟨gy, k * 9 + 4, none⟩ (.int .i64 0) = Vy2 at *
  clear hw
  refine take_yes 16 91 (.pointer (some ⟨gy, k * 9, none⟩)) rfl rfl (by kernel_rfl) (by kernel_rfl) (by kernel_rfl) (fun _ _ _ h => h) rfl (by assumption) (by intro w9 hS9; obtain ⟨s1, s2, s3⟩ := hS9; go_simp) ?_
  simp only [List.setIfInBounds_toArray, List.set_cons_zero, List.set_cons_succ]
  refine take_yes 17 92 (.pointer (some ⟨gy, k * 9 + 5, none⟩)) rfl rfl (by kernel_rfl) (by kernel_rfl) (by kernel_rfl) (fun _ _ _ h => h) rfl (by assumption) (by intro w9 hS9; obtain ⟨s1, s2, s3⟩ := hS9; go_simp) ?_
  simp only [List.setIfInBounds_toArray, List.set_cons_zero, List.set_cons_succ]
  refine wpAnyH_ready (rs := [18]) (by kernel_rfl) (by decide) (AllReadyH.cons rfl (fun K hK => ?_) AllReadyH.nil)
  obtain ⟨z, hz⟩ := hHeld.cell (j := k * 9 + 5) (by omega)
  have zf := hHeld.frozen (k * 9 + 5)
  have BMy3 := hide ((unhide BMy2).setY (k := k) ((by rw [List.length_set]; exact (by rw [List.length_set]; exact unhide HKY))) (set_at _ ((by rw [List.length_set]; exact unhide HKY))) (chg_theta _ (m := theta) (by unfold I64; omega)))
  go_simp
  refine hK.out _ _ (hHeld.set _ _) (fun hHeld => ?_)
  clear hK K
  try simp only [List.setIfInBounds_toArray, List.set_cons_zero, List.set_cons_succ]
  clear hz zf BMy2
  generalize hw : Vy2.setCell ⟨gy, k * 9 + 5, none⟩ (.int .i64 theta) = Vy3 at *
  clear hw
  refine wpAnyH_done (by kernel_rfl) ?_ _
  clear hHeld
  have B6 : Hid (BM w Vy3 s xb yb gx gy xr yr xc yc (xts.set k { xts.getD k task0 with mode := 1, Q := q, theta := 0 }) (yts.set k { yts.getD k task0 with mode := 2, Q := 0, theta := theta })) := hide (by
    have := unhide BMy3
    rw [List.set_set, List.set_set, List.set_set, List.set_set] at this
    exact this)
  clear BMy3
  have CX : Hid (∀ W, BM w W s xb yb gx gy xr yr xc yc (xts.set k { xts.getD k task0 with mode := 1, Q := q, theta := 0 }) (yts.set k { yts.getD k task0 with mode := 2, Q := 0, theta := theta }) → Calls Try.prog 7 #[.agg #[.int .i64 xr, .slice (some ⟨gx, 0, none⟩) n xc], .int .i64 k, .int .i64 high] W fun e w' => e = .returned (.int .i64 (min q (wholeZ s k))) ∧ Below W.heap.size W w') := hide (fun W h => by
    have c := unhide HO _ k high W (h.hx.setIn (unhide HRX) (by simp only [List.length_set]; rw [unhide HLX]; omega)) (unhide HAX) (unhide HL) (unhide HH)
    rw [unhide HVX, SetV.val] at c
    simp only [List.length_set] at c
    rw [unhide HLX] at c
    simpa [wayZ, wholeZ] using c)
  have CY : Hid (∀ W, BM w W s xb yb gx gy xr yr xc yc (xts.set k { xts.getD k task0 with mode := 1, Q := q, theta := 0 }) (yts.set k { yts.getD k task0 with mode := 2, Q := 0, theta := theta }) → Calls Try.prog 7 #[.agg #[.int .i64 yr, .slice (some ⟨gy, 0, none⟩) n yc], .int .i64 k, .int .i64 high] W fun e w' => e = .returned (.int .i64 (if theta ≤ high then wholeZ s k else 0)) ∧ Below W.heap.size W w') := hide (fun W h => by
    have c := unhide HO _ k high W (h.hy.setIn (unhide HRY) (by simp only [List.length_set]; rw [unhide HLY]; omega)) (unhide HAY) (unhide HL) (unhide HH)
    rw [unhide HVY, SetV.val] at c
    simp only [List.length_set] at c
    rw [unhide HLY] at c
    simpa [wayZ, wholeZ] using c)
  have CC : Hid (∀ W, BM w W s xb yb gx gy xr yr xc yc (xts.set k { xts.getD k task0 with mode := 1, Q := q, theta := 0 }) (yts.set k { yts.getD k task0 with mode := 2, Q := 0, theta := theta }) → (W.cell? ⟨w.heap.size, 0, none⟩ = some (.int .i64 s.reload) ∧ W.cell? ⟨w.heap.size, 1, none⟩ = some (.slice s.ao s.ts.length s.cap)) ∧ (W.cell? ⟨xb, 0, none⟩ = some (.int .i64 xr) ∧ W.cell? ⟨xb, 1, none⟩ = some (.slice (some ⟨gx, 0, none⟩) n xc)) ∧ (W.cell? ⟨yb, 0, none⟩ = some (.int .i64 yr) ∧ W.cell? ⟨yb, 1, none⟩ = some (.slice (some ⟨gy, 0, none⟩) n yc))) := hide (fun W h => by
    have h1 := h.bx
    have h2 := h.yx
    rw [List.length_set, unhide HLX] at h1
    rw [List.length_set, unhide HLY] at h2
    exact ⟨⟨h.box.c0, h.box.c1⟩, ⟨cell_block h1, cell_block h1⟩, ⟨cell_block h2, cell_block h2⟩⟩)
  have hw0 : 0 ≤ wholeZ s k ∧ wholeZ s k ≤ 800000 := by rw [unhide HE]; exact hwr
  clear HVX HVY HAX HAY HLX HLY HKX HKY HRX HRY HO HL HH HE hwr CP HALL HRR
  generalize (xts.set k { xts.getD k task0 with mode := 1, Q := q, theta := 0 }) = XF at *
  generalize (yts.set k { yts.getD k task0 with mode := 2, Q := 0, theta := theta }) = YF at *
  generalize wholeZ s k = wh at *
  by_cases hth : theta ≤ high
  · rw [if_pos hth] at CY
    by_cases hqw : q ≤ wh
    · rw [Int.min_eq_left hqw] at CX
      obtain ⟨⟨c0, c1⟩, ⟨x0, x1⟩, ⟨y0, y1⟩⟩ := unhide CC _ (unhide B6)
      go_wp2_with fail
      refine (unhide CW _ (set_bel (unhide HIN) (unhide B6).bel)).mono ?_
      rintro e v1 ⟨rfl, bel⟩
      have B7 := hide ((unhide B6).up bel)
      clear bel
      clear c0 c1 x0 x1 y0 y1
      obtain ⟨⟨c0, c1⟩, ⟨x0, x1⟩, ⟨y0, y1⟩⟩ := unhide CC _ (unhide B7)
      go_wp2_with fail
      refine (unhide CX _ (unhide B7)).mono ?_
      rintro e v2 ⟨rfl, bel⟩
      have B8 := hide ((unhide B7).up bel)
      clear bel
      clear c0 c1 x0 x1 y0 y1
      obtain ⟨⟨c0, c1⟩, ⟨x0, x1⟩, ⟨y0, y1⟩⟩ := unhide CC _ (unhide B8)
      go_wp2_with fail
      refine (unhide CY _ (unhide B8)).mono ?_
      rintro e v3 ⟨rfl, bel⟩
      have B9 := hide ((unhide B8).up bel)
      clear bel
      clear c0 c1 x0 x1 y0 y1
      obtain ⟨⟨c0, c1⟩, ⟨x0, x1⟩, ⟨y0, y1⟩⟩ := unhide CC _ (unhide B9)
      go_wp2_with fail
      refine (unhide CK _).mono ?_
      rintro e v4 ⟨rfl, bel⟩
      have B10 := hide ((unhide B9).up bel)
      clear bel
      clear c0 c1 x0 x1 y0 y1
      obtain ⟨⟨c0, c1⟩, ⟨x0, x1⟩, ⟨y0, y1⟩⟩ := unhide CC _ (unhide B10)
      clear c0 c1 x0 x1 y0 y1
      go_wp2
      go_ret
      exact ⟨rfl, (unhide B10).bel⟩
    · rw [Int.min_eq_right (by omega)] at CX
      obtain ⟨⟨c0, c1⟩, ⟨x0, x1⟩, ⟨y0, y1⟩⟩ := unhide CC _ (unhide B6)
      go_wp2_with fail
      refine (unhide CW _ (set_bel (unhide HIN) (unhide B6).bel)).mono ?_
      rintro e v1 ⟨rfl, bel⟩
      have B7 := hide ((unhide B6).up bel)
      clear bel
      clear c0 c1 x0 x1 y0 y1
      obtain ⟨⟨c0, c1⟩, ⟨x0, x1⟩, ⟨y0, y1⟩⟩ := unhide CC _ (unhide B7)
      go_wp2_with fail
      refine (unhide CX _ (unhide B7)).mono ?_
      rintro e v2 ⟨rfl, bel⟩
      have B8 := hide ((unhide B7).up bel)
      clear bel
      clear c0 c1 x0 x1 y0 y1
      obtain ⟨⟨c0, c1⟩, ⟨x0, x1⟩, ⟨y0, y1⟩⟩ := unhide CC _ (unhide B8)
      go_wp2_with fail
      refine (unhide CY _ (unhide B8)).mono ?_
      rintro e v3 ⟨rfl, bel⟩
      have B9 := hide ((unhide B8).up bel)
      clear bel
      clear c0 c1 x0 x1 y0 y1
      obtain ⟨⟨c0, c1⟩, ⟨x0, x1⟩, ⟨y0, y1⟩⟩ := unhide CC _ (unhide B9)
      go_wp2_with fail
      refine (unhide CK _).mono ?_
      rintro e v4 ⟨rfl, bel⟩
      have B10 := hide ((unhide B9).up bel)
      clear bel
      clear c0 c1 x0 x1 y0 y1
      obtain ⟨⟨c0, c1⟩, ⟨x0, x1⟩, ⟨y0, y1⟩⟩ := unhide CC _ (unhide B10)
      clear c0 c1 x0 x1 y0 y1
      go_wp2
      go_ret
      exact ⟨rfl, (unhide B10).bel⟩
  · rw [if_neg hth] at CY
    by_cases hqw : q ≤ wh
    · rw [Int.min_eq_left hqw] at CX
      obtain ⟨⟨c0, c1⟩, ⟨x0, x1⟩, ⟨y0, y1⟩⟩ := unhide CC _ (unhide B6)
      go_wp2_with fail
      refine (unhide CW _ (set_bel (unhide HIN) (unhide B6).bel)).mono ?_
      rintro e v1 ⟨rfl, bel⟩
      have B7 := hide ((unhide B6).up bel)
      clear bel
      clear c0 c1 x0 x1 y0 y1
      obtain ⟨⟨c0, c1⟩, ⟨x0, x1⟩, ⟨y0, y1⟩⟩ := unhide CC _ (unhide B7)
      go_wp2_with fail
      refine (unhide CX _ (unhide B7)).mono ?_
      rintro e v2 ⟨rfl, bel⟩
      have B8 := hide ((unhide B7).up bel)
      clear bel
      clear c0 c1 x0 x1 y0 y1
      obtain ⟨⟨c0, c1⟩, ⟨x0, x1⟩, ⟨y0, y1⟩⟩ := unhide CC _ (unhide B8)
      go_wp2_with fail
      refine (unhide CY _ (unhide B8)).mono ?_
      rintro e v3 ⟨rfl, bel⟩
      have B9 := hide ((unhide B8).up bel)
      clear bel
      clear c0 c1 x0 x1 y0 y1
      obtain ⟨⟨c0, c1⟩, ⟨x0, x1⟩, ⟨y0, y1⟩⟩ := unhide CC _ (unhide B9)
      go_wp2_with fail
      refine (unhide CK _).mono ?_
      rintro e v4 ⟨rfl, bel⟩
      have B10 := hide ((unhide B9).up bel)
      clear bel
      clear c0 c1 x0 x1 y0 y1
      obtain ⟨⟨c0, c1⟩, ⟨x0, x1⟩, ⟨y0, y1⟩⟩ := unhide CC _ (unhide B10)
      clear c0 c1 x0 x1 y0 y1
      go_wp2
      go_ret
      exact ⟨rfl, (unhide B10).bel⟩
    · rw [Int.min_eq_right (by omega)] at CX
      obtain ⟨⟨c0, c1⟩, ⟨x0, x1⟩, ⟨y0, y1⟩⟩ := unhide CC _ (unhide B6)
      go_wp2_with fail
      refine (unhide CW _ (set_bel (unhide HIN) (unhide B6).bel)).mono ?_
      rintro e v1 ⟨rfl, bel⟩
      have B7 := hide ((unhide B6).up bel)
      clear bel
      clear c0 c1 x0 x1 y0 y1
      obtain ⟨⟨c0, c1⟩, ⟨x0, x1⟩, ⟨y0, y1⟩⟩ := unhide CC _ (unhide B7)
      go_wp2_with fail
      refine (unhide CX _ (unhide B7)).mono ?_
      rintro e v2 ⟨rfl, bel⟩
      have B8 := hide ((unhide B7).up bel)
      clear bel
      clear c0 c1 x0 x1 y0 y1
      obtain ⟨⟨c0, c1⟩, ⟨x0, x1⟩, ⟨y0, y1⟩⟩ := unhide CC _ (unhide B8)
      go_wp2_with fail
      refine (unhide CY _ (unhide B8)).mono ?_
      rintro e v3 ⟨rfl, bel⟩
      have B9 := hide ((unhide B8).up bel)
      clear bel
      clear c0 c1 x0 x1 y0 y1
      obtain ⟨⟨c0, c1⟩, ⟨x0, x1⟩, ⟨y0, y1⟩⟩ := unhide CC _ (unhide B9)
      go_wp2_with fail
      refine (unhide CK _).mono ?_
      rintro e v4 ⟨rfl, bel⟩
      have B10 := hide ((unhide B9).up bel)
      clear bel
      clear c0 c1 x0 x1 y0 y1
      obtain ⟨⟨c0, c1⟩, ⟨x0, x1⟩, ⟨y0, y1⟩⟩ := unhide CC _ (unhide B10)
      clear c0 c1 x0 x1 y0 y1
      go_wp2
      go_ret
      exact ⟨rfl, (unhide B10).bel⟩
end Go.Proofs.Ythlkfjcgckpheaa.Lex
