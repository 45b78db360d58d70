/- The reference's first task that may not be. -/
import Derived.Test.YtlfmnnngadnkpaaDoorParseP4
namespace Go.Proofs.YtlfmnnngadnkpaaDoor.Lex
open Go.ChangeShapes Go.WideShapes Go.RowKit

def oddZ : Option Nat → Int
  | some i => i
  | none => -1
set_option maxHeartbeats 3200000 in
theorem rodd_any (s : SetV) (w : World) (hs : SetIn w s) (hl5 : s.ts.length ≤ 5000) : Calls Tryd.prog 30 #[s.val] w fun e w' => e = .returned (.int .i64 (oddZ (oddOf s.ts))) ∧ Below w.heap.size w w' := by
  obtain ⟨rl, ao, cap, ts⟩ := s
  simp only at hl5
  by_cases hne : ts = []
  · subst hne
    rw [show oddOf [] = none from rfl, oddZ]
    clear hs
    go_enter Tryd.func30, Tryd.ntmps30
    rw [SetV.val]
    simp only [List.length_nil]
    go_wp2
    refine wp_loop_rounds 1 ?_
    rw [rounds_succ]
    go_wp2
    go_ret
    exact ⟨rfl, (Below.refl _ _).alloc (Nat.le_refl _) _⟩
  obtain ⟨b, off, hao, ht⟩ := set_task hs hne
  simp only at hao ht
  subst hao
  generalize hans : oddOf ts = ans
  have HQ := hide hans
  have HT := hide ht
  clear hans ht hs hne
  go_enter Tryd.func30, Tryd.ntmps30
  rw [SetV.val]
  simp only
  go_wp2
  go_loopw [3] (fun i wr => ∃ k : Nat, k ≤ ts.length ∧ i = .int .i64 k ∧ (List.range k).all (okAt ts) = true ∧ Below (w.alloc (.cells #[.int .i64 rl, .slice (some ⟨b, off, none⟩) ts.length cap] 24)).heap.size (w.alloc (.cells #[.int .i64 rl, .slice (some ⟨b, off, none⟩) ts.length cap] 24)) wr) (fun i _ => ts.length - (intOf i).toNat)
  case atStart => exact ⟨0, Nat.zero_le _, rfl, rfl, Below.refl _ _⟩
  case round =>
    obtain ⟨k, hk, rfl, hpre, hbel⟩ := hrel
    obtain ⟨c0, c1⟩ := boxed2 hbel
    have B := hide hbel
    have B' := hide (bel_box (Below.refl _ _) hbel)
    clear hbel
    by_cases hlt : k < ts.length
    · obtain ⟨t0, t1, t2, t3, t4, t5, t6, t7, t8⟩ := (unhide HT k hlt).1.bel (unhide B')
      have CI := hide (ris_any (ts.getD k task0) k wr (task_bel (unhide HT k hlt).2 (unhide B')))
      cases hok : isB (ts.getD k task0) k
      · have HF : Hid (ans = some k) := by show ans = some k; rw [← unhide HQ]; exact odd_at hpre hlt (by rw [okAt, hok]; rfl)
        rw [hok] at CI
        clear hok hpre
        generalize ts.getD k task0 = t at *
        obtain ⟨name, T, D, mode, Q, theta, ao, tcap, ecb, ucb, l⟩ := t
        simp only at t0 t1 t2 t3 t4 t5 t6 t7 t8
        go_wp2_with fail
        refine (unhide CI).mono ?_
        rintro e w1 ⟨rfl, bel⟩
        have B1 := hide ((unhide B').trans (bel.mono (unhide B').size))
        clear bel
        go_wp2
        go_ret
        exact ⟨by rw [unhide HF]; rfl, unhide B1⟩
      · rw [hok] at CI
        have HOK := hide hok
        have HPRE := hide hpre
        clear hok hpre
        generalize htk : ts.getD k task0 = t at t0 t1 t2 t3 t4 t5 t6 t7 t8 CI
        have HTK := hide htk
        obtain ⟨name, T, D, mode, Q, theta, ao, tcap, ecb, ucb, l⟩ := t
        simp only at t0 t1 t2 t3 t4 t5 t6 t7 t8
        clear htk
        go_wp2_with fail
        refine (unhide CI).mono ?_
        rintro e w1 ⟨rfl, bel⟩
        have B1 := hide ((unhide B).trans (bel.mono (unhide B).size))
        clear bel
        go_wp2
        go_loopw [4] (fun i wq => ∃ j : Nat, j ≤ k ∧ i = .int .i64 j ∧ (List.range j).all (fun q => !((ts.getD q task0).name.data.toList == (ts.getD k task0).name.data.toList)) = true ∧ Below (w.alloc (.cells #[.int .i64 rl, .slice (some ⟨b, off, none⟩) ts.length cap] 24)).heap.size (w.alloc (.cells #[.int .i64 rl, .slice (some ⟨b, off, none⟩) ts.length cap] 24)) wq) (fun i _ => k - (intOf i).toNat)
        case atStart => exact ⟨0, Nat.zero_le _, rfl, rfl, unhide B1⟩
        case round =>
          obtain ⟨j, hj, rfl, hno, hbel2⟩ := hrel
          obtain ⟨d0, d1⟩ := boxed2 hbel2
          have B2 := hide hbel2
          have B2' := hide (bel_box (Below.refl _ _) hbel2)
          clear hbel2
          by_cases hjk : j < k
          · have hjk' : (j : Int) < k := by omega
            have x0 := ((unhide HT j (by omega)).1.bel (unhide B2')).c0
            have y0 := ((unhide HT k hlt).1.bel (unhide B2')).c0
            cases hsame : ((ts.getD j task0).name.data.toList == (ts.getD k task0).name.data.toList)
            · have HNO := hide (range_next hno (by rw [hsame]; rfl))
              have hsm := hsame
              rw [← ByteArray.toList_eq, ← ByteArray.toList_eq] at hsm
              clear hno hsame
              obtain ⟨nj, hnj⟩ : ∃ n, n = (ts.getD j task0).name := ⟨_, rfl⟩
              obtain ⟨nk, hnk⟩ : ∃ n, n = (ts.getD k task0).name := ⟨_, rfl⟩
              rw [← hnj] at x0 hsm
              rw [← hnk] at y0 hsm
              clear hnj hnk
              go_wp2
              go_quiet (fail)
              go_wp2
              go_roundw
              case rel => exact ⟨j + 1, by omega, by go_num, unhide HNO, below_drewN (unhide B2) _⟩
              case measure => simp [intOf]; omega
            · have HF : Hid (ans = some k) := by show ans = some k; rw [← unhide HQ]; exact odd_at (unhide HPRE) hlt (by rw [okAt, range_not (k := j) hjk (by rw [hsame]; rfl), Bool.and_false])
              have hsm := hsame
              rw [← ByteArray.toList_eq, ← ByteArray.toList_eq] at hsm
              clear hno hsame
              obtain ⟨nj, hnj⟩ : ∃ n, n = (ts.getD j task0).name := ⟨_, rfl⟩
              obtain ⟨nk, hnk⟩ : ∃ n, n = (ts.getD k task0).name := ⟨_, rfl⟩
              rw [← hnj] at x0 hsm
              rw [← hnk] at y0 hsm
              clear hnj hnk
              go_wp2
              go_quiet (fail)
              go_wp2
              go_ret
              exact ⟨by rw [unhide HF]; rfl, below_drewN (unhide B2') _⟩
          · have e : j = k := by omega
            subst e
            have HOK2 := hide (range_next (unhide HPRE) (show okAt ts j = true by rw [okAt, unhide HOK, hno]; rfl))
            clear hno
            go_wp2
            go_roundw
            case rel => exact ⟨j + 1, by omega, by go_num, unhide HOK2, unhide B2⟩
            case measure => simp [intOf]; omega
    · have e : k = ts.length := by omega
      subst e
      have HF : Hid (ans = none) := by show ans = none; rw [← unhide HQ]; exact odd_none hpre
      clear hpre
      go_wp2
      go_ret
      exact ⟨by rw [unhide HF]; rfl, unhide B'⟩
end Go.Proofs.YtlfmnnngadnkpaaDoor.Lex
