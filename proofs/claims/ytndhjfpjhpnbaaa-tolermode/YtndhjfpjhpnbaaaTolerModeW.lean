/- The law of chapter 14 that modes do not matter, over what package toler answers. -/
import Derived.Test.YtndhjfpjhpnbaaaTolerLaw
import Derived.Test.YtndhjfpjhpnbaaaOneHeld
namespace Go.Proofs.Ytndhjfpjhpnbaaa.Lex
set_option maxRecDepth 100000
open Go.ChangeShapes Go.WideShapes Go.RowKit

set_option maxHeartbeats 6400000 in
theorem tmode_law (hO : CTOf) (s : SetV) (i j q : Int) (w : World) (hs : SetIn w s) (hi : I64 i) (_ : I64 j) (_ : I64 q) : Calls Try.prog 5 #[s.val, .int .i64 i, .int .i64 j, .int .i64 q] w fun e w' => e = .returned (.bool true) ∧ Below w.heap.size w w' := by
  have hlen := hs.len
  have CK := hide (fun w => tknown14_any hO w)
  have CM := hide (fun w h => rmay14_any s w h)
  have HIN := hide hs
  have HBX := hide (sbox_new w s 24)
  by_cases q0 : i < 0
  · skip
    clear hO hs
    obtain ⟨rl, ao, cap, ts⟩ := s
    simp only at hlen
    go_enter Try.func5, Try.ntmps5
    rw [SetV.val]
    simp only
    go_wp2_with fail
    refine (unhide CM _ (set_bel (unhide HIN) ((Below.refl _ _).alloc (Nat.le_refl _) _))).mono ?_
    rintro e w1 ⟨⟨o, rfl, ho'⟩, bel⟩
    have B1 := hide (bel_box (Below.refl _ _) bel)
    have X1 := hide ((unhide HBX).bel bel)
    obtain ⟨c0, c1⟩ := unhide X1
    simp only at c0 c1
    clear bel ho'
    cases o with
    | false =>
      go_wp2
      go_ret
      exact ⟨rfl, unhide B1⟩
    | true =>
      go_wp2
      go_ret
      exact ⟨rfl, unhide B1⟩
  by_cases q1 : (s.ts.length : Int) ≤ i
  · skip
    clear hO hs
    obtain ⟨rl, ao, cap, ts⟩ := s
    simp only at hlen
    go_enter Try.func5, Try.ntmps5
    rw [SetV.val]
    simp only
    go_wp2_with fail
    refine (unhide CM _ (set_bel (unhide HIN) ((Below.refl _ _).alloc (Nat.le_refl _) _))).mono ?_
    rintro e w1 ⟨⟨o, rfl, ho'⟩, bel⟩
    have B1 := hide (bel_box (Below.refl _ _) bel)
    have X1 := hide ((unhide HBX).bel bel)
    obtain ⟨c0, c1⟩ := unhide X1
    simp only at c0 c1
    clear bel ho'
    cases o with
    | false =>
      go_wp2
      go_ret
      exact ⟨rfl, unhide B1⟩
    | true =>
      go_wp2
      go_ret
      exact ⟨rfl, unhide B1⟩
  by_cases q2 : j < 0
  · skip
    clear hO hs
    obtain ⟨rl, ao, cap, ts⟩ := s
    simp only at hlen
    go_enter Try.func5, Try.ntmps5
    rw [SetV.val]
    simp only
    go_wp2_with fail
    refine (unhide CM _ (set_bel (unhide HIN) ((Below.refl _ _).alloc (Nat.le_refl _) _))).mono ?_
    rintro e w1 ⟨⟨o, rfl, ho'⟩, bel⟩
    have B1 := hide (bel_box (Below.refl _ _) bel)
    have X1 := hide ((unhide HBX).bel bel)
    obtain ⟨c0, c1⟩ := unhide X1
    simp only at c0 c1
    clear bel ho'
    cases o with
    | false =>
      go_wp2
      go_ret
      exact ⟨rfl, unhide B1⟩
    | true =>
      go_wp2
      go_ret
      exact ⟨rfl, unhide B1⟩
  by_cases q3 : (s.ts.length : Int) ≤ j
  · skip
    clear hO hs
    obtain ⟨rl, ao, cap, ts⟩ := s
    simp only at hlen
    go_enter Try.func5, Try.ntmps5
    rw [SetV.val]
    simp only
    go_wp2_with fail
    refine (unhide CM _ (set_bel (unhide HIN) ((Below.refl _ _).alloc (Nat.le_refl _) _))).mono ?_
    rintro e w1 ⟨⟨o, rfl, ho'⟩, bel⟩
    have B1 := hide (bel_box (Below.refl _ _) bel)
    have X1 := hide ((unhide HBX).bel bel)
    obtain ⟨c0, c1⟩ := unhide X1
    simp only at c0 c1
    clear bel ho'
    cases o with
    | false =>
      go_wp2
      go_ret
      exact ⟨rfl, unhide B1⟩
    | true =>
      go_wp2
      go_ret
      exact ⟨rfl, unhide B1⟩
  by_cases q4 : q < 0
  · skip
    clear hO hs
    obtain ⟨rl, ao, cap, ts⟩ := s
    simp only at hlen
    go_enter Try.func5, Try.ntmps5
    rw [SetV.val]
    simp only
    go_wp2_with fail
    refine (unhide CM _ (set_bel (unhide HIN) ((Below.refl _ _).alloc (Nat.le_refl _) _))).mono ?_
    rintro e w1 ⟨⟨o, rfl, ho'⟩, bel⟩
    have B1 := hide (bel_box (Below.refl _ _) bel)
    have X1 := hide ((unhide HBX).bel bel)
    obtain ⟨c0, c1⟩ := unhide X1
    simp only at c0 c1
    clear bel ho'
    cases o with
    | false =>
      go_wp2
      go_ret
      exact ⟨rfl, unhide B1⟩
    | true =>
      go_wp2
      go_ret
      exact ⟨rfl, unhide B1⟩
  by_cases q5 : 10000 < q
  · skip
    clear hO hs
    obtain ⟨rl, ao, cap, ts⟩ := s
    simp only at hlen
    go_enter Try.func5, Try.ntmps5
    rw [SetV.val]
    simp only
    go_wp2_with fail
    refine (unhide CM _ (set_bel (unhide HIN) ((Below.refl _ _).alloc (Nat.le_refl _) _))).mono ?_
    rintro e w1 ⟨⟨o, rfl, ho'⟩, bel⟩
    have B1 := hide (bel_box (Below.refl _ _) bel)
    have X1 := hide ((unhide HBX).bel bel)
    obtain ⟨c0, c1⟩ := unhide X1
    simp only at c0 c1
    clear bel ho'
    cases o with
    | false =>
      go_wp2
      go_ret
      exact ⟨rfl, unhide B1⟩
    | true =>
      go_wp2
      go_ret
      exact ⟨rfl, unhide B1⟩
  obtain ⟨ii, rfl⟩ : ∃ ii : Nat, i = ii := ⟨i.toNat, by omega⟩
  obtain ⟨k, rfl⟩ : ∃ k : Nat, j = k := ⟨j.toNat, by omega⟩
  have hii : ii < s.ts.length := by omega
  have hk : k < s.ts.length := by omega
  have hu : ∀ t ∈ s.ts, U64 t.ecb ∧ U64 t.ucb := fun t ht => ⟨(hs.each t ht).ecb, (hs.each t ht).ucb⟩
  have HREG := hide (fun hb => (all_fits hb hu).2.1)
  have C1 := hide (fun hb w h => hO s ii w h hb hi)
  have CP := hide (fun (h : s.ts.length ≤ 30) w hw => rput_any s w hw h)
  have HSM := hide (fun hb (x : SetV) (h1 : Easier x s) (h2 : Easier s x) (hax : allB x = true) hux => tol_same (k := ii) h1 h2 hb hu hax hux hii)
  have HR0 := hide (fun hb => (all_fits hb hu).1.1)
  have HOX := hide (fun (x : SetV) w h ha => hO x ii w h ha hi)
  have HSX := hide (fun (w w' : World) (X : SetV) (h : PutOf w w' s X) (hw : SetIn w s) => held_of hw (PIn.of (B := w.heap.size) h (Nat.le_refl _)))
  have HRI := hide hs.reload
  have hi0 : (0 : Int) ≤ (ii : Int) := by omega
  have hi1 : (ii : Int) < (s.ts.length : Int) := by omega
  have hk0 : (0 : Int) ≤ (k : Int) := by omega
  have hk1 : (k : Int) < (s.ts.length : Int) := by omega
  have hq0 : ¬ q < 0 := by omega
  have hq1 : ¬ 10000 < q := by omega
  clear hO hs hu q0 q1 q2 q3 q4 q5
  obtain ⟨rl, ao, cap, ts⟩ := s
  simp only at hlen hii hk HREG hi1 hk1 CP HRI HR0
  go_enter Try.func5, Try.ntmps5
  rw [SetV.val]
  simp only
  go_wp2_with fail
  refine (unhide CM _ (set_bel (unhide HIN) ((Below.refl _ _).alloc (Nat.le_refl _) _))).mono ?_
  rintro e w1 ⟨⟨o, rfl, ho'⟩, bel⟩
  have ho := hide ho'
  have B3 := hide (bel_box (Below.refl _ _) bel)
  have X3 := hide ((unhide HBX).bel bel)
  obtain ⟨c0, c1⟩ := unhide X3
  simp only at c0 c1
  clear bel ho'
  cases o with
  | false =>
    go_wp2
    go_ret
    exact ⟨rfl, unhide B3⟩
  | true =>
    have hall := (unhide ho rfl).2
    have h8 := unhide HREG hall
    have D1 := hide (unhide C1 hall)
    have HSM2 := hide (unhide HSM hall)
    have HR1 := hide (unhide HR0 hall)
    have CP2 := hide (unhide CP (by omega))
    have HALL := hide hall
    clear C1 HSM CP hall ho CM HREG HR0
    generalize hto : tolO ⟨rl, ao, cap, ts⟩ ii = to at *
    clear hto
    generalize hgv : tolV ⟨rl, ao, cap, ts⟩ ii = tv at *
    clear hgv
    go_wp2_with fail
    refine (unhide CP2 _ (set_bel (unhide HIN) (unhide B3))).mono ?_
    rintro e w4 ⟨s', rfl, hput⟩
    have hHX := unhide HSX _ _ _ hput (set_bel (unhide HIN) (unhide B3))
    have hAll := put_all hput
    have hcp := hput.copy
    have hrl := hput.reload
    have hbel := hput.below
    obtain ⟨rl', ao', xc, L⟩ := s'
    have hL : L.length = ts.length := hput.len
    simp only at hrl hcp
    subst hrl
    obtain ⟨gx, cur, rfl, hgh⟩ : ∃ ga cur, ao' = some ⟨ga, 0, none⟩ ∧ w4.heap[ga]? = some (.cells cur 38 (0, 0)) := by
      rcases hput.row.2 with ⟨-, h0⟩ | ⟨g, c, cur, e, h1, h2, h3, -⟩
      · simp only at h0; omega
      · exact ⟨g, cur, (Value.slice.inj e).1, h2⟩
    have hsz1 : w.heap.size < w1.heap.size := by have := World.block_lt_of_cell? w1 _ c0; simpa using this
    have bm : OM w (w4.alloc (.cells #[.int .i64 rl', .slice (some ⟨gx, 0, none⟩) L.length xc] 24)).drew ⟨rl', ao, cap, ts⟩ w4.heap.size gx rl' xc L := by
      refine OM.up (W := w4.alloc (.cells #[.int .i64 rl', .slice (some ⟨gx, 0, none⟩) L.length xc] 24)) ⟨((unhide X3).bel hbel).bel ((Below.refl _ _).alloc (Nat.le_refl _) _), heap_alloc_new w4 _, ?_, ((below_on (unhide B3) hbel).alloc (below_on (unhide B3) hbel).size _)⟩ ((Below.refl _ _).drew)
      have h1 : HeldS w4 (w.heap.size + 1) ⟨rl', some ⟨gx, 0, none⟩, xc, L⟩ := ⟨own_raise hHX.row (by omega), fun j hj => own_raise (hHX.own j hj) (by omega), hHX.each⟩
      exact h1.bel ((Below.refl _ _).alloc (Nat.le_refl _) _)
    have BM0 := hide bm
    rw [hL] at BM0
    have RX : Hid (RowBox (w4.alloc (.cells #[.int .i64 rl', .slice (some ⟨gx, 0, none⟩) ts.length xc] 24)).drew w4.heap.size gx ts.length xc) := hide (by have := (unhide BM0).rowX; rw [hL] at this; exact this)
    have HL := hide hL
    have HKX : Hid (k < L.length) := hide (by omega)
    have aX : Hid (allB ⟨rl', some ⟨gx, 0, none⟩, xc, L.set k (modedT (L.getD k task0) 1 q 0)⟩ = true) := hide (by
      refine chg_all (hAll.trans (unhide HALL)) (unhide HKX) rfl (fun h => is_mode3 h (by simp [modeB, inB]; omega))
      )
    have hAW := mode_alike (s := ⟨rl', ao, cap, ts⟩) (X := ⟨rl', some ⟨gx, 0, none⟩, xc, L⟩) (k := k) (m := 1) (q := q) (th := 0) rfl hL hcp
    have HAL := hide hAW.1
    have HWK := hide hAW.2
    clear hput hHX hAll hcp hbel hgh bm hAW HALL
    rw [SetV.val]
    simp only
    rw [hL]
    clear hL
    go_wp2_with fail
    refine wp_region_held_drew (S := fun w9 => RowBox w9 w4.heap.size gx ts.length xc) (by kernel_rfl) (unhide RX) (fun hHeld => ?_)
    clear RX
    generalize (w4.alloc (.cells #[.int .i64 rl', .slice (some ⟨gx, 0, none⟩) ts.length xc] 24)).drew = W0 at *
    refine take_yes 0 49 (.pointer (some ⟨w4.heap.size, 1, none⟩)) rfl rfl (by kernel_rfl) (by kernel_rfl) (by kernel_rfl) (fun _ _ _ h => h) rfl (by assumption) (by intro w9 hS9; obtain ⟨s1, s2, s3⟩ := hS9; go_simp) ?_
    simp only [List.setIfInBounds_toArray, List.set_cons_zero, List.set_cons_succ]
    refine take_yes 1 50 (.slice (some ⟨gx, 0, none⟩) ts.length xc) rfl rfl (by kernel_rfl) (by kernel_rfl) (by kernel_rfl) (fun _ _ _ h => h) rfl (by assumption) (by intro w9 hS9; obtain ⟨s1, s2, s3⟩ := hS9; go_simp) ?_
    simp only [List.setIfInBounds_toArray, List.set_cons_zero, List.set_cons_succ]
    refine take_yes 2 51 (.int .i64 k) rfl rfl (by kernel_rfl) (by kernel_rfl) (by kernel_rfl) (fun _ _ _ h => h) rfl (by assumption) (by intro w9 hS9; obtain ⟨s1, s2, s3⟩ := hS9; go_simp) ?_
    simp only [List.setIfInBounds_toArray, List.set_cons_zero, List.set_cons_succ]
    refine take_yes 3 52 (.pointer (some ⟨w4.heap.size, 1, none⟩)) rfl rfl (by kernel_rfl) (by kernel_rfl) (by kernel_rfl) (fun _ _ _ h => h) rfl (by assumption) (by intro w9 hS9; obtain ⟨s1, s2, s3⟩ := hS9; go_simp) ?_
    simp only [List.setIfInBounds_toArray, List.set_cons_zero, List.set_cons_succ]
    refine take_yes 4 53 (.slice (some ⟨gx, 0, none⟩) ts.length xc) rfl rfl (by kernel_rfl) (by kernel_rfl) (by kernel_rfl) (fun _ _ _ h => h) rfl (by assumption) (by intro w9 hS9; obtain ⟨s1, s2, s3⟩ := hS9; go_simp) ?_
    simp only [List.setIfInBounds_toArray, List.set_cons_zero, List.set_cons_succ]
    refine take_yes 5 54 (.int .i64 k) rfl rfl (by kernel_rfl) (by kernel_rfl) (by kernel_rfl) (fun _ _ _ h => h) rfl (by assumption) (by intro w9 hS9; obtain ⟨s1, s2, s3⟩ := hS9; go_simp) ?_
    simp only [List.setIfInBounds_toArray, List.set_cons_zero, List.set_cons_succ]
    refine take_yes 6 55 (.pointer (some ⟨w4.heap.size, 1, none⟩)) rfl rfl (by kernel_rfl) (by kernel_rfl) (by kernel_rfl) (fun _ _ _ h => h) rfl (by assumption) (by intro w9 hS9; obtain ⟨s1, s2, s3⟩ := hS9; go_simp) ?_
    simp only [List.setIfInBounds_toArray, List.set_cons_zero, List.set_cons_succ]
    refine take_yes 7 56 (.slice (some ⟨gx, 0, none⟩) ts.length xc) rfl rfl (by kernel_rfl) (by kernel_rfl) (by kernel_rfl) (fun _ _ _ h => h) rfl (by assumption) (by intro w9 hS9; obtain ⟨s1, s2, s3⟩ := hS9; go_simp) ?_
    simp only [List.setIfInBounds_toArray, List.set_cons_zero, List.set_cons_succ]
    refine take_yes 8 57 (.int .i64 k) rfl rfl (by kernel_rfl) (by kernel_rfl) (by kernel_rfl) (fun _ _ _ h => h) rfl (by assumption) (by intro w9 hS9; obtain ⟨s1, s2, s3⟩ := hS9; go_simp) ?_
    simp only [List.setIfInBounds_toArray, List.set_cons_zero, List.set_cons_succ]
    refine take_yes 9 58 (.int .i64 q) rfl rfl (by kernel_rfl) (by kernel_rfl) (by kernel_rfl) (fun _ _ _ h => h) rfl (by assumption) (by intro w9 hS9; obtain ⟨s1, s2, s3⟩ := hS9; go_simp) ?_
    simp only [List.setIfInBounds_toArray, List.set_cons_zero, List.set_cons_succ]
    refine take_yes 10 59 (.pointer (some ⟨gx, k * 9, none⟩)) rfl rfl (by kernel_rfl) (by kernel_rfl) (by kernel_rfl) (fun _ _ _ h => h) rfl (by assumption) (by intro w9 hS9; obtain ⟨s1, s2, s3⟩ := hS9; go_simp) ?_
    simp only [List.setIfInBounds_toArray, List.set_cons_zero, List.set_cons_succ]
    refine take_yes 11 60 (.pointer (some ⟨gx, k * 9 + 3, none⟩)) rfl rfl (by kernel_rfl) (by kernel_rfl) (by kernel_rfl) (fun _ _ _ h => h) rfl (by assumption) (by intro w9 hS9; obtain ⟨s1, s2, s3⟩ := hS9; go_simp) ?_
    simp only [List.setIfInBounds_toArray, List.set_cons_zero, List.set_cons_succ]
    refine wpAnyH_ready (rs := [12]) (by kernel_rfl) (by decide) (AllReadyH.cons rfl (fun K hK => ?_) AllReadyH.nil)
    obtain ⟨z, hz⟩ := hHeld.cell (j := k * 9 + 3) (by omega)
    have zf := hHeld.frozen (k * 9 + 3)
    have BMx1 := hide ((unhide BM0).setX (k := k) (unhide HKX) (rfl) (chg_mode _ (m := 1) (by unfold I64; omega)))
    go_simp
    refine hK.out _ _ (hHeld.set _ _) (fun hHeld => ?_)
    clear hK K
    try simp only [List.setIfInBounds_toArray, List.set_cons_zero, List.set_cons_succ]
    clear hz zf BM0
    generalize hw : W0.setCell ⟨gx, k * 9 + 3, none⟩ (.int .i64 1) = Wx1 at *
    clear hw
    refine take_yes 13 61 (.pointer (some ⟨gx, k * 9, none⟩)) rfl rfl (by kernel_rfl) (by kernel_rfl) (by kernel_rfl) (fun _ _ _ h => h) rfl (by assumption) (by intro w9 hS9; obtain ⟨s1, s2, s3⟩ := hS9; go_simp) ?_
    simp only [List.setIfInBounds_toArray, List.set_cons_zero, List.set_cons_succ]
    refine take_yes 14 62 (.pointer (some ⟨gx, k * 9 + 4, none⟩)) rfl rfl (by kernel_rfl) (by kernel_rfl) (by kernel_rfl) (fun _ _ _ h => h) rfl (by assumption) (by intro w9 hS9; obtain ⟨s1, s2, s3⟩ := hS9; go_simp) ?_
    simp only [List.setIfInBounds_toArray, List.set_cons_zero, List.set_cons_succ]
    refine wpAnyH_ready (rs := [15]) (by kernel_rfl) (by decide) (AllReadyH.cons rfl (fun K hK => ?_) AllReadyH.nil)
    obtain ⟨z, hz⟩ := hHeld.cell (j := k * 9 + 4) (by omega)
    have zf := hHeld.frozen (k * 9 + 4)
    have BMx2 := hide ((unhide BMx1).setX (k := k) ((by rw [List.length_set]; exact unhide HKX)) (set_at _ (unhide HKX)) (chg_Q _ (m := q) (by unfold I64; omega)))
    go_simp
    refine hK.out _ _ (hHeld.set _ _) (fun hHeld => ?_)
    clear hK K
    try simp only [List.setIfInBounds_toArray, List.set_cons_zero, List.set_cons_succ]
    clear hz zf BMx1
    generalize hw : Wx1.setCell ⟨gx, k * 9 + 4, none⟩ (.int .i64 q) = Wx2 at *
    clear hw
    refine take_yes 16 63 (.pointer (some ⟨gx, k * 9, none⟩)) rfl rfl (by kernel_rfl) (by kernel_rfl) (by kernel_rfl) (fun _ _ _ h => h) rfl (by assumption) (by intro w9 hS9; obtain ⟨s1, s2, s3⟩ := hS9; go_simp) ?_
    simp only [List.setIfInBounds_toArray, List.set_cons_zero, List.set_cons_succ]
    refine take_yes 17 64 (.pointer (some ⟨gx, k * 9 + 5, none⟩)) rfl rfl (by kernel_rfl) (by kernel_rfl) (by kernel_rfl) (fun _ _ _ h => h) rfl (by assumption) (by intro w9 hS9; obtain ⟨s1, s2, s3⟩ := hS9; go_simp) ?_
    simp only [List.setIfInBounds_toArray, List.set_cons_zero, List.set_cons_succ]
    refine wpAnyH_ready (rs := [18]) (by kernel_rfl) (by decide) (AllReadyH.cons rfl (fun K hK => ?_) AllReadyH.nil)
    obtain ⟨z, hz⟩ := hHeld.cell (j := k * 9 + 5) (by omega)
    have zf := hHeld.frozen (k * 9 + 5)
    have BMx3 := hide ((unhide BMx2).setX (k := k) ((by rw [List.length_set]; exact (by rw [List.length_set]; exact unhide HKX))) (set_at _ ((by rw [List.length_set]; exact unhide HKX))) (chg_theta _ (m := 0) (by unfold I64; omega)))
    go_simp
    refine hK.out _ _ (hHeld.set _ _) (fun hHeld => ?_)
    clear hK K
    try simp only [List.setIfInBounds_toArray, List.set_cons_zero, List.set_cons_succ]
    clear hz zf BMx2
    generalize hw : Wx2.setCell ⟨gx, k * 9 + 5, none⟩ (.int .i64 0) = Wx3 at *
    clear hw
    refine wpAnyH_done (by kernel_rfl) ?_ _
    clear hHeld
    have B6 : Hid (OM w Wx3 ⟨rl', ao, cap, ts⟩ w4.heap.size gx rl' xc (L.set k (modedT (L.getD k task0) 1 q 0))) := hide (by
      have := unhide BMx3
      rw [List.set_set, List.set_set] at this
      exact this)
    clear BMx3
    have HXIN : Hid (∀ W, OM w W ⟨rl', ao, cap, ts⟩ w4.heap.size gx rl' xc (L.set k (modedT (L.getD k task0) 1 q 0)) → SetIn W ⟨rl', some ⟨gx, 0, none⟩, xc, L.set k (modedT (L.getD k task0) 1 q 0)⟩) := hide (fun W h => h.hx.setIn (unhide HRI) (by simp only [List.length_set]; rw [unhide HL]; omega))
    have HXL : Hid ((L.set k (modedT (L.getD k task0) 1 q 0)).length = ts.length) := hide (by rw [List.length_set]; exact unhide HL)
    have hsame := unhide HSM2 ⟨rl', some ⟨gx, 0, none⟩, xc, L.set k (modedT (L.getD k task0) 1 q 0)⟩ (alike_easy (unhide HAL) (unhide HR1) (fun j hj => by show workZ ((L.set k _).getD j task0).regs ≤ _; rw [unhide HWK j hj]; exact Int.le_refl _)) (alike_easy (unhide HAL).symm (by show 0 ≤ rl'; exact unhide HR1) (fun j hj => by
      have hj' : j < ts.length := by
        have h1 : j < (L.set k (modedT (L.getD k task0) 1 q 0)).length := hj
        rw [unhide HXL] at h1; exact h1
      show _ ≤ workZ ((L.set k _).getD j task0).regs
      rw [unhide HWK j hj']; exact Int.le_refl _)) (unhide aX) (fun t ht => ⟨((unhide HXIN _ (unhide B6)).each t ht).ecb, ((unhide HXIN _ (unhide B6)).each t ht).ucb⟩)
    have CX := hide (fun W (h : OM w W ⟨rl', ao, cap, ts⟩ w4.heap.size gx rl' xc (L.set k (modedT (L.getD k task0) 1 q 0))) => unhide HOX ⟨rl', some ⟨gx, 0, none⟩, xc, L.set k (modedT (L.getD k task0) 1 q 0)⟩ W (unhide HXIN W h) (unhide aX))
    rw [hsame.1, hsame.2] at CX
    simp only [SetV.val] at CX
    rw [unhide HXL] at CX
    have CC : Hid (∀ W, OM w W ⟨rl', ao, cap, ts⟩ w4.heap.size gx rl' xc (L.set k (modedT (L.getD k task0) 1 q 0)) → (W.cell? ⟨w.heap.size, 0, none⟩ = some (.int .i64 rl') ∧ W.cell? ⟨w.heap.size, 1, none⟩ = some (.slice ao ts.length cap)) ∧ (W.cell? ⟨w4.heap.size, 0, none⟩ = some (.int .i64 rl') ∧ W.cell? ⟨w4.heap.size, 1, none⟩ = some (.slice (some ⟨gx, 0, none⟩) ts.length xc))) := hide (fun W h => by
      have h1 := h.bx
      rw [unhide HXL] at h1
      exact ⟨⟨h.box.c0, h.box.c1⟩, ⟨cell_block h1, cell_block h1⟩⟩)
    clear hsame HSM2 HR1 HAL HWK aX HOX HXIN HXL HL HKX HSX HRI X3 B3
    generalize (L.set k (modedT (L.getD k task0) 1 q 0)) = XF at *
    obtain ⟨⟨c0, c1⟩, ⟨x0, x1⟩⟩ := unhide CC _ (unhide B6)
    go_wp2_with fail
    refine (unhide D1 _ (set_bel (unhide HIN) (unhide B6).bel)).mono ?_
    rintro e v1 ⟨rfl, bel⟩
    have B7 := hide ((unhide B6).up bel)
    clear bel c0 c1 x0 x1
    obtain ⟨⟨c0, c1⟩, ⟨x0, x1⟩⟩ := unhide CC _ (unhide B7)
    go_wp2_with fail
    refine (unhide CX _ (unhide B7)).mono ?_
    rintro e v2 ⟨rfl, bel⟩
    have B8 := hide ((unhide B7).up bel)
    clear bel c0 c1 x0 x1
    go_wp2_with fail
    refine (unhide CK _).mono ?_
    rintro e v3 ⟨rfl, bel⟩
    have B9 := hide ((unhide B8).up bel)
    clear bel
    go_wp2
    go_ret
    exact ⟨rfl, (unhide B9).bel⟩
end Go.Proofs.Ytndhjfpjhpnbaaa.Lex
