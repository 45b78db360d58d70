/- The law RespTells. -/
import Derived.Test.YtcenibledkabpaaRespLaw
import Derived.Test.YtcenibledkabpaaBlockRef
namespace Go.Proofs.Ytcenibledkabpaa.Lex
set_option maxRecDepth 100000
open Go.ChangeShapes Go.WideShapes Go.RowKit

set_option maxHeartbeats 1600000 in
theorem rof12_any (s : SetV) (k : Nat) (w : World) (hs : SetIn w s) (ha : allB s = true) (hk : k < s.ts.length) : Calls Try.prog 23 #[s.val, .int .i64 k] w fun e w' => e = .returned (.tuple #[.int .i64 (withR s k (mostZ s k)), .int .i64 (withH s k (mostZ s k))]) ∧ Below w.heap.size w w' := by
  have hlen := hs.len
  have CM := hide (fun w h => rmost_any s k w h ha hk)
  have CW := hide (fun w h => rwith_any s k (mostZ s k) w h ha (by unfold I64; omega))
  have HIN := hide hs
  have hbox := sbox_new w s 24
  clear hs ha
  generalize withR s k (mostZ s k) = R1 at *
  generalize withH s k (mostZ s k) = H1 at *
  generalize mostZ s k = mz at *
  obtain ⟨rl, ao, cap, ts⟩ := s
  simp only at hbox hk hlen
  have B1 : Hid (Below w.heap.size w (w.alloc (.cells #[.int .i64 rl, .slice ao ts.length cap] 24))) := (Below.refl _ _).alloc (Nat.le_refl _) _
  go_enter Try.func23, Try.ntmps23
  rw [SetV.val]
  simp only
  have D0 := hide (unhide B1).drew
  go_wp2_with fail
  refine wp_region_held_drew (S := (fun w9 => SBox w9 w.heap.size ⟨rl, ao, cap, ts⟩)) (by kernel_rfl) (hbox.drew) (fun hHeld => ?_)
  refine take_yes 0 6 (.agg #[.int .i64 rl, .slice ao ts.length cap]) rfl rfl (by kernel_rfl) (by kernel_rfl) (by kernel_rfl) (fun _ _ _ h => h) rfl (by assumption) (by intro w9 hS9; obtain ⟨s0, s1⟩ := hS9; go_simp) ?_
  simp only [List.setIfInBounds_toArray, List.set_cons_zero, List.set_cons_succ]
  refine take_yes 1 7 (.int .i64 k) rfl rfl (by kernel_rfl) (by kernel_rfl) (by kernel_rfl) (fun _ _ _ h => h) rfl (by assumption) (by intro w9 hS9; obtain ⟨s0, s1⟩ := hS9; go_simp) ?_
  simp only [List.setIfInBounds_toArray, List.set_cons_zero, List.set_cons_succ]
  refine take_yes 2 8 (.agg #[.int .i64 rl, .slice ao ts.length cap]) rfl rfl (by kernel_rfl) (by kernel_rfl) (by kernel_rfl) (fun _ _ _ h => h) rfl (by assumption) (by intro w9 hS9; obtain ⟨s0, s1⟩ := hS9; go_simp) ?_
  simp only [List.setIfInBounds_toArray, List.set_cons_zero, List.set_cons_succ]
  refine take_yes 3 9 (.int .i64 k) rfl rfl (by kernel_rfl) (by kernel_rfl) (by kernel_rfl) (fun _ _ _ h => h) rfl (by assumption) (by intro w9 hS9; obtain ⟨s0, s1⟩ := hS9; go_simp) ?_
  simp only [List.setIfInBounds_toArray, List.set_cons_zero, List.set_cons_succ]
  refine wpAnyH_ready (rs := [4]) (by kernel_rfl) (by decide) (AllReadyH.cons rfl (fun K hK => ?_) AllReadyH.nil)
  refine (if_pos rfl).mpr ?_
  go_wp2_with fail
  refine (unhide CM (w.alloc (.cells #[.int .i64 rl, .slice ao ts.length cap] 24)).drew (set_bel (unhide HIN) (unhide D0))).mono ?_
  rintro e x1 ⟨rfl, bel⟩
  have N1 := hide (below_on (unhide D0) bel)
  refine hK.out _ _ (hHeld.bel bel) (fun hHeld => ?_)
  clear hK K bel
  refine wpAnyH_ready (rs := [5]) (by kernel_rfl) (by decide) (AllReadyH.cons rfl (fun K hK => ?_) AllReadyH.nil)
  refine (if_pos rfl).mpr ?_
  go_wp2_with fail
  refine (unhide CW x1 (set_bel (unhide HIN) (unhide N1))).mono ?_
  rintro e x2 ⟨rfl, bel⟩
  have N2 := hide (below_on (unhide N1) bel)
  refine hK.out _ _ (hHeld.bel bel) (fun hHeld => ?_)
  clear hK K bel
  refine take_yes 6 12 (.int .i64 R1) rfl rfl (by kernel_rfl) (by kernel_rfl) (by kernel_rfl) (fun _ _ _ h => h) rfl (by assumption) (by intro w9 hS9; obtain ⟨s0, s1⟩ := hS9; go_simp) ?_
  simp only [List.setIfInBounds_toArray, List.set_cons_zero, List.set_cons_succ]
  refine take_yes 7 13 (.int .i64 H1) rfl rfl (by kernel_rfl) (by kernel_rfl) (by kernel_rfl) (fun _ _ _ h => h) rfl (by assumption) (by intro w9 hS9; obtain ⟨s0, s1⟩ := hS9; go_simp) ?_
  simp only [List.setIfInBounds_toArray, List.set_cons_zero, List.set_cons_succ]
  refine take_yes 8 4 (.int .i64 R1) rfl rfl (by kernel_rfl) (by kernel_rfl) (by kernel_rfl) (fun _ _ _ h => h) rfl (by assumption) (by intro w9 hS9; obtain ⟨s0, s1⟩ := hS9; go_simp) ?_
  simp only [List.setIfInBounds_toArray, List.set_cons_zero, List.set_cons_succ]
  refine take_yes 9 5 (.int .i64 H1) rfl rfl (by kernel_rfl) (by kernel_rfl) (by kernel_rfl) (fun _ _ _ h => h) rfl (by assumption) (by intro w9 hS9; obtain ⟨s0, s1⟩ := hS9; go_simp) ?_
  simp only [List.setIfInBounds_toArray, List.set_cons_zero, List.set_cons_succ]
  refine wpAnyH_done (by kernel_rfl) ?_ _
  go_wp2
  go_ret2
  exact ⟨rfl, unhide N2⟩
theorem with_out {s : SetV} {i b : Int} (h : inI s i = false) : withR s i b = 0 ∧ withH s i b = 3 := by
  have hb : busyO s i b = none := by unfold busyO; rw [h]; rfl
  rw [withR, withH, hb]
  exact ⟨rfl, rfl⟩
end Go.Proofs.Ytcenibledkabpaa.Lex
