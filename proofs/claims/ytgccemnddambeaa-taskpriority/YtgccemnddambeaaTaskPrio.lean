/- The law of chapter 5 of a task at a lower place, over what package task answers. -/
import Derived.Test.YtgccemnddambeaaTaskKnown
namespace Go.Proofs.Ytgccemnddambeaa.Lex
open Go.ChangeShapes Go.WideShapes Go.RowKit

theorem is_mode {t : TaskV} {p : Int} (h : isB t p = true) : modeB t.mode t.Q t.theta p = true ∧ ∀ q, isB t q = modeB t.mode t.Q t.theta q := by
  have e : ∀ q, isB t q = (nameB t.name.data.toList && (decide (1 ≤ t.regs.length) && (decide (t.regs.length ≤ 8) && (maskB t.ucb t.ecb && (t.regs.all (inB · 1 10000) && (decide (workZ t.regs ≤ t.D) && (decide (t.D ≤ t.T) && (decide (t.T ≤ 10000) && modeB t.mode t.Q t.theta q)))))))) := fun q => rfl
  rw [e p] at h
  simp only [Bool.and_eq_true] at h
  obtain ⟨h0, h1, h2, h3, h4, h5, h6, h7, h8⟩ := h
  refine ⟨h8, fun q => ?_⟩
  rw [e q, h0, h1, h2, h3, h4, h5, h6, h7]
  simp only [Bool.true_and]
theorem is_more {t : TaskV} {p q : Int} (h : isB t p = true) (hpq : p ≤ q) : isB t q = true := by
  obtain ⟨hm, he⟩ := is_mode h
  rw [he]
  unfold modeB at hm ⊢
  split
  · rename_i h0; rw [if_pos h0] at hm; exact hm
  · rename_i h0
    rw [if_neg h0] at hm
    split
    · rename_i h1; rw [if_pos h1] at hm; exact hm
    · rename_i h1
      rw [if_neg h1] at hm
      split
      · rename_i h2
        rw [if_pos h2] at hm
        simp only [Bool.and_eq_true, decide_eq_true_eq] at hm ⊢
        exact ⟨hm.1, by omega⟩
      · rename_i h2; rw [if_neg h2] at hm; exact hm
theorem is_less {t : TaskV} {p : Int} (h : isB t p = true) (h2 : t.mode = 2) : isB t (t.theta - 1) = false := by
  obtain ⟨-, he⟩ := is_mode h
  rw [he, modeB, if_neg (by omega), if_neg (by omega), if_pos h2, decide_eq_false (show ¬ t.theta ≤ t.theta - 1 by omega), Bool.and_false]
theorem theta_in {t : TaskV} {p : Int} (h : isB t p = true) (h2 : t.mode = 2) : 0 ≤ t.theta := by
  obtain ⟨hm, -⟩ := is_mode h
  rw [modeB, if_neg (by omega), if_neg (by omega), if_pos h2] at hm
  simp only [Bool.and_eq_true, decide_eq_true_eq] at hm
  exact hm.1.2
set_option maxHeartbeats 1600000 in
theorem tprio_law (hI : CIs) (hK : CWork) (t : TaskV) (p more : Int) (w : World) (ht : TaskIn w t) : Calls Try.prog 7 #[t.val, .int .i64 p, .int .i64 more] w fun e w' => e = .returned (.bool true) ∧ Below w.heap.size w w' := by
  have CK := hide (fun w => tknown_any hI hK w)
  have hlen := ht.len
  have htheta := ht.theta
  have CR := hide (fun w ht => ris_any t p w ht)
  by_cases hc : (20 : Int) < t.regs.length ∨ p < 0 ∨ 100 < p ∨ more < 0 ∨ 100 < more
  · clear hI hK CK CR
    rcases hc with hc | hc | hc | hc | hc
    all_goals
      go_enter Try.func7, Try.ntmps7
      rw [TaskV.val, TaskV.cells]
      go_wp2
      all_goals (go_ret; exact ⟨rfl, (Below.refl _ _).alloc (Nat.le_refl _) _⟩)
  · have h1 : ¬ (20 : Int) < t.regs.length := by omega
    have h2 : 0 ≤ p := by omega
    have h3 : p ≤ 100 := by omega
    have h4 : 0 ≤ more := by omega
    have h5 : more ≤ 100 := by omega
    clear hc
    cases hb : isB t p
    · rw [hb] at CR
      clear hI hK hb
      go_enter Try.func7, Try.ntmps7
      rw [TaskV.val, TaskV.cells]
      go_wp2_with fail
      refine (unhide CR _ (task_bel ht ((Below.refl _ _).alloc (Nat.le_refl _) _))).mono ?_
      rintro e w1 ⟨rfl, bel⟩
      have B1 := hide (bel_box (Below.refl _ _) bel)
      clear bel
      go_wp2
      go_ret
      exact ⟨rfl, unhide B1⟩
    · have CI := hide (fun w ht => hI t p w ht ⟨by omega, by omega⟩)
      have CJ := hide (fun w ht => hI t (p + more) w ht ⟨by omega, by omega⟩)
      rw [is_more hb (show p ≤ p + more by omega)] at CJ
      have CL : Hid (t.mode = 2 → ∀ w, TaskIn w t → Calls Try.prog 10 #[t.val, .int .i64 (t.theta - 1)] w fun e w' => e = .returned (.bool false) ∧ Below w.heap.size w w') := fun h2 w ht => by
        have := hI t (t.theta - 1) w ht ⟨by have := theta_in hb h2; omega, by have := ht.theta; unfold I64 at this; omega⟩
        rw [is_less hb h2] at this
        exact this
      have HTH := hide (theta_in hb)
      rw [hb] at CR CI
      clear hI hK hb
      go_enter Try.func7, Try.ntmps7
      rw [TaskV.val, TaskV.cells]
      go_wp2_with fail
      refine (unhide CR _ (task_bel ht ((Below.refl _ _).alloc (Nat.le_refl _) _))).mono ?_
      rintro e w1 ⟨rfl, bel⟩
      have B1 := hide (bel_box (Below.refl _ _) bel)
      have X1 := hide ((box_new w t 25).bel bel)
      obtain ⟨c0, c1, c2, c3, c4, c5, c6, c7, c8⟩ := unhide X1
      clear bel
      go_wp2_with fail
      refine (unhide CI _ (task_bel ht (unhide B1))).mono ?_
      rintro e w2 ⟨rfl, bel⟩
      have B2 := hide (below_on (unhide B1) bel)
      have X2 := hide ((unhide X1).bel bel)
      obtain ⟨d0, d1, d2, d3, d4, d5, d6, d7, d8⟩ := unhide X2
      clear bel c0 c1 c2 c3 c4 c5 c6 c7 c8
      go_wp2_with fail
      refine (unhide CJ _ (task_bel ht (unhide B2))).mono ?_
      rintro e w3 ⟨rfl, bel⟩
      have B3 := hide (below_on (unhide B2) bel)
      obtain ⟨c0, c1, c2, c3, c4, c5, c6, c7, c8⟩ := (unhide X2).bel bel
      clear bel d0 d1 d2 d3 d4 d5 d6 d7 d8
      by_cases hm : t.mode = 2
      · have hm' : (t.mode != 2) = false := by simpa using hm
        have hth := unhide HTH hm
        have hth2 := htheta.2
        have HM := hide hm
        clear hm
        go_wp2_with fail
        refine (unhide CL (unhide HM) _ (task_bel ht (unhide B3))).mono ?_
        rintro e w4 ⟨rfl, bel⟩
        have B4 := hide (below_on (unhide B3) bel)
        clear bel
        go_wp2_with fail
        refine (unhide CK _).mono ?_
        rintro e w5 ⟨rfl, bel⟩
        have B5 := hide (below_on (unhide B4) bel)
        clear bel
        go_wp2
        go_ret
        exact ⟨rfl, unhide B5⟩
      · have hm' : (t.mode != 2) = true := by simpa using hm
        go_wp2_with fail
        refine (unhide CK _).mono ?_
        rintro e w5 ⟨rfl, bel⟩
        have B5 := hide (below_on (unhide B3) bel)
        clear bel
        go_wp2
        go_ret
        exact ⟨rfl, unhide B5⟩
end Go.Proofs.Ytgccemnddambeaa.Lex
