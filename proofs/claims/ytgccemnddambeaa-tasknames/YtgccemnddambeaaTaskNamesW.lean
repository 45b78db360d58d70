/- The law of chapter 5 of names, over what package task answers. -/
import Derived.Test.YtgccemnddambeaaTaskNamesP
namespace Go.Proofs.Ytgccemnddambeaa.Lex
open Go.ChangeShapes Go.WideShapes Go.RowKit

set_option maxHeartbeats 3200000 in
theorem tnames_no (s : SetV) (i k : Int) (w : World) (hs : SetIn w s) (h : (10 : Int) < s.ts.length ∨ allB s = false ∨ i < 0 ∨ (s.ts.length : Int) ≤ i ∨ k < 0 ∨ (s.ts.length : Int) ≤ k) : Calls Try.prog 8 #[s.val, .int .i64 i, .int .i64 k] w fun e w' => e = .returned (.bool true) ∧ Below w.heap.size w w' := by
  have hlen := hs.len
  by_cases h10 : (10 : Int) < s.ts.length
  · clear h
    go_enter Try.func8, Try.ntmps8
    rw [SetV.val]
    go_wp2
    go_ret
    exact ⟨rfl, (Below.refl _ _).alloc (Nat.le_refl _) _⟩
  have CA := hide (fun w h => rall_any s w h)
  cases hb : allB s
  · rw [hb] at CA
    clear h hb
    go_enter Try.func8, Try.ntmps8
    rw [SetV.val]
    go_wp2_with fail
    refine (unhide CA _ (set_bel hs ((Below.refl _ _).alloc (Nat.le_refl _) _))).mono ?_
    rintro e w1 ⟨rfl, bel⟩
    have B1 := hide (bel_box (Below.refl _ _) bel)
    clear bel
    go_wp2
    go_ret
    exact ⟨rfl, unhide B1⟩
  · have h' : i < 0 ∨ (s.ts.length : Int) ≤ i ∨ k < 0 ∨ (s.ts.length : Int) ≤ k := by
      rcases h with h | h | h
      · exact absurd h h10
      · rw [hb] at h; cases h
      · exact h
    rw [hb] at CA
    clear h hb
    have H := hide h'
    clear h'
    go_enter Try.func8, Try.ntmps8
    rw [SetV.val]
    go_wp2_with fail
    refine (unhide CA _ (set_bel hs ((Below.refl _ _).alloc (Nat.le_refl _) _))).mono ?_
    rintro e w1 ⟨rfl, bel⟩
    have B1 := hide (bel_box (Below.refl _ _) bel)
    have hbox := (sbox_new w s 31).bel bel
    obtain ⟨c0, c1⟩ := hbox
    clear bel
    rcases unhide H with h | h | h | h
    all_goals
      go_wp2
      all_goals (go_ret; exact ⟨rfl, unhide B1⟩)
end Go.Proofs.Ytgccemnddambeaa.Lex
