/- The law of chapter 5 of two sets, over what package task answers. -/
import Derived.Test.YtgccemnddambeaaTaskPut
import Derived.Test.YtgccemnddambeaaTaskRef3
namespace Go.Proofs.Ytgccemnddambeaa.Lex
open Go.ChangeShapes Go.WideShapes Go.RowKit

structure SBoxes (w : World) (g : Nat) (a b : SetV) : Prop where
  left : SBox w g a
  right : SBox w (g + 1) b
theorem SBoxes.bel {w w' : World} {g : Nat} {a b : SetV} (h : SBoxes w g a b) (hb : Below w.heap.size w w') : SBoxes w' g a b := ⟨h.left.bel hb, h.right.bel hb⟩
theorem SBoxes.drew {w : World} {g : Nat} {a b : SetV} (h : SBoxes w g a b) : SBoxes w.drew g a b := ⟨h.left.drew, h.right.drew⟩
theorem sboxes_new (w : World) (a b : SetV) (ty : TypeId) : SBoxes ((w.alloc (.cells #[.int .i64 a.reload, .slice a.ao a.ts.length a.cap] ty)).alloc (.cells #[.int .i64 b.reload, .slice b.ao b.ts.length b.cap] ty)) w.heap.size a b :=
  ⟨(sbox_new w a ty).bel ((Below.refl _ _).alloc (Nat.le_refl _) _), by constructor <;> simp⟩
set_option maxHeartbeats 3200000 in
theorem tsame_law (hI : CIs) (hK : CWork) (hS : CSame) (a b : SetV) (w : World) (ha : SetIn w a) (hb : SetIn w b) : Calls Try.prog 5 #[a.val, b.val] w fun e w' => e = .returned (.bool true) ∧ Below w.heap.size w w' := by
  have CK := hide (fun w => tknown_any hI hK w)
  have hla := ha.len
  have hlb := hb.len
  by_cases h30 : 30 < a.ts.length
  · have h30' : (30 : Int) < a.ts.length := by omega
    go_enter Try.func5, Try.ntmps5
    rw [SetV.val, SetV.val]
    go_wp2
    go_ret
    exact ⟨rfl, ((Below.refl _ _).alloc (Nat.le_refl _) _).alloc (by simp) _⟩
  by_cases h30b : 30 < b.ts.length
  · have h30' : (30 : Int) < b.ts.length := by omega
    have h30a : ¬ (30 : Int) < a.ts.length := by omega
    go_enter Try.func5, Try.ntmps5
    rw [SetV.val, SetV.val]
    go_wp2
    go_ret
    exact ⟨rfl, ((Below.refl _ _).alloc (Nat.le_refl _) _).alloc (by simp) _⟩
  have h30a' : ¬ (30 : Int) < a.ts.length := by omega
  have h30b' : ¬ (30 : Int) < b.ts.length := by omega
  have CS := hide (fun w h1 h2 => hS a b w h1 h2 (by omega) (by omega))
  have CR := hide (fun w h1 h2 => rsame_any a b w h1 h2)
  have CP := hide (fun w h1 => rput_any a w h1 (by omega))
  have CT : Hid (∀ w w' a', PutOf w w' a a' → SetIn w a → Calls Try.prog 16 #[a.val, a'.val] w' fun e w'' => e = .returned (.bool true) ∧ Below w'.heap.size w' w'') := fun w w' a' hp h1 => by
    have := hS a a' w' (set_bel h1 hp.below) (put_in h1 hp) (by omega) (by rw [hp.len]; omega)
    rw [put_same hp] at this
    exact this
  clear hI hK hS
  have hbox := sboxes_new w a b 31
  have B1 := hide (((Below.refl _ w).alloc (Nat.le_refl _) (.cells #[.int .i64 a.reload, .slice a.ao a.ts.length a.cap] 31)).alloc (by simp) (.cells #[.int .i64 b.reload, .slice b.ao b.ts.length b.cap] 31)).drew
  cases hq : sameB a b
  · rw [hq] at CS CR
    clear hq
    go_enter Try.func5, Try.ntmps5
    rw [SetV.val, SetV.val]
    go_wp2_with fail
    refine wp_region_held_drew (S := (fun w9 => SBoxes w9 w.heap.size a b)) (by kernel_rfl) (hbox.drew) (fun hHeld => ?_)
    refine take_yes 0 15 (.agg #[.int .i64 a.reload, .slice a.ao a.ts.length a.cap]) rfl rfl (by kernel_rfl) (by kernel_rfl) (by kernel_rfl) (fun _ _ _ h => h) rfl (by assumption) (by intro w9 hS9; obtain ⟨⟨s0, s1⟩, ⟨s2, s3⟩⟩ := hS9; go_simp) ?_
    simp only [List.setIfInBounds_toArray, List.set_cons_zero, List.set_cons_succ]
    refine take_yes 1 16 (.agg #[.int .i64 b.reload, .slice b.ao b.ts.length b.cap]) rfl rfl (by kernel_rfl) (by kernel_rfl) (by kernel_rfl) (fun _ _ _ h => h) rfl (by assumption) (by intro w9 hS9; obtain ⟨⟨s0, s1⟩, ⟨s2, s3⟩⟩ := hS9; go_simp) ?_
    simp only [List.setIfInBounds_toArray, List.set_cons_zero, List.set_cons_succ]
    refine take_yes 3 18 (.agg #[.int .i64 a.reload, .slice a.ao a.ts.length a.cap]) rfl rfl (by kernel_rfl) (by kernel_rfl) (by kernel_rfl) (fun _ _ _ h => h) rfl (by assumption) (by intro w9 hS9; obtain ⟨⟨s0, s1⟩, ⟨s2, s3⟩⟩ := hS9; go_simp) ?_
    simp only [List.setIfInBounds_toArray, List.set_cons_zero, List.set_cons_succ]
    refine take_yes 4 19 (.agg #[.int .i64 b.reload, .slice b.ao b.ts.length b.cap]) rfl rfl (by kernel_rfl) (by kernel_rfl) (by kernel_rfl) (fun _ _ _ h => h) rfl (by assumption) (by intro w9 hS9; obtain ⟨⟨s0, s1⟩, ⟨s2, s3⟩⟩ := hS9; go_simp) ?_
    simp only [List.setIfInBounds_toArray, List.set_cons_zero, List.set_cons_succ]
    refine wpAnyH_ready (rs := [2]) (by kernel_rfl) (by decide) (AllReadyH.cons rfl (fun K hK => ?_) AllReadyH.nil)
    refine (if_pos rfl).mpr ?_
    go_wp2_with fail
    refine (unhide CS ((w.alloc (.cells #[.int .i64 a.reload, .slice a.ao a.ts.length a.cap] 31)).alloc (.cells #[.int .i64 b.reload, .slice b.ao b.ts.length b.cap] 31)).drew (set_bel ha (unhide B1)) (set_bel hb (unhide B1))).mono ?_
    rintro e x1 ⟨rfl, bel⟩
    have B2 := hide (below_on (unhide B1) bel)
    refine hK.out _ _ (hHeld.bel bel) (fun hHeld => ?_)
    clear hK K bel
    refine wpAnyH_ready (rs := [5]) (by kernel_rfl) (by decide) (AllReadyH.cons rfl (fun K hK => ?_) AllReadyH.nil)
    refine (if_pos rfl).mpr ?_
    go_wp2_with fail
    refine (unhide CR x1 (set_bel ha (unhide B2)) (set_bel hb (unhide B2))).mono ?_
    rintro e x2 ⟨rfl, bel⟩
    have B3 := hide (below_on (unhide B2) bel)
    refine hK.out _ _ (hHeld.bel bel) (fun hHeld => ?_)
    clear hK K bel
    refine take_yes 6 21 (.bool true) rfl rfl (by kernel_rfl) (by kernel_rfl) (by kernel_rfl) (fun _ _ _ h => h) rfl (by assumption) (by intro w9 hS9; obtain ⟨⟨s0, s1⟩, ⟨s2, s3⟩⟩ := hS9; go_simp) ?_
    simp only [List.setIfInBounds_toArray, List.set_cons_zero, List.set_cons_succ]
    refine take_yes 7 22 (.bool true) rfl rfl (by kernel_rfl) (by kernel_rfl) (by kernel_rfl) (fun _ _ _ h => h) rfl (by assumption) (by intro w9 hS9; obtain ⟨⟨s0, s1⟩, ⟨s2, s3⟩⟩ := hS9; go_simp) ?_
    simp only [List.setIfInBounds_toArray, List.set_cons_zero, List.set_cons_succ]
    refine take_yes 8 23 (.agg #[.int .i64 a.reload, .slice a.ao a.ts.length a.cap]) rfl rfl (by kernel_rfl) (by kernel_rfl) (by kernel_rfl) (fun _ _ _ h => h) rfl (by assumption) (by intro w9 hS9; obtain ⟨⟨s0, s1⟩, ⟨s2, s3⟩⟩ := hS9; go_simp) ?_
    simp only [List.setIfInBounds_toArray, List.set_cons_zero, List.set_cons_succ]
    refine take_yes 9 24 (.agg #[.int .i64 a.reload, .slice a.ao a.ts.length a.cap]) rfl rfl (by kernel_rfl) (by kernel_rfl) (by kernel_rfl) (fun _ _ _ h => h) rfl (by assumption) (by intro w9 hS9; obtain ⟨⟨s0, s1⟩, ⟨s2, s3⟩⟩ := hS9; go_simp) ?_
    simp only [List.setIfInBounds_toArray, List.set_cons_zero, List.set_cons_succ]
    refine wpAnyH_ready (rs := [10]) (by kernel_rfl) (by decide) (AllReadyH.cons rfl (fun K hK => ?_) AllReadyH.nil)
    refine (if_pos rfl).mpr ?_
    go_wp2_with fail
    refine (unhide CP x2 (set_bel ha (unhide B3))).mono ?_
    rintro e x3 ⟨a', rfl, hput⟩
    have bel := hput.below
    have HP := hide hput
    rw [SetV.val]
    clear hput
    have B4 := hide (below_on (unhide B3) bel)
    refine hK.out _ _ (hHeld.bel bel) (fun hHeld => ?_)
    clear hK K bel
    refine wpAnyH_ready (rs := [11]) (by kernel_rfl) (by decide) (AllReadyH.cons rfl (fun K hK => ?_) AllReadyH.nil)
    refine (if_pos rfl).mpr ?_
    go_wp2_with fail
    refine (unhide CT x2 x3 a' (unhide HP) (set_bel ha (unhide B3))).mono ?_
    rintro e x4 ⟨rfl, bel⟩
    have B5 := hide (below_on (unhide B4) bel)
    refine hK.out _ _ (hHeld.bel bel) (fun hHeld => ?_)
    clear hK K bel
    refine take_yes 12 27 (.bool true) rfl rfl (by kernel_rfl) (by kernel_rfl) (by kernel_rfl) (fun _ _ _ h => h) rfl (by assumption) (by intro w9 hS9; obtain ⟨⟨s0, s1⟩, ⟨s2, s3⟩⟩ := hS9; go_simp) ?_
    simp only [List.setIfInBounds_toArray, List.set_cons_zero, List.set_cons_succ]
    refine take_yes 13 28 (.bool true) rfl rfl (by kernel_rfl) (by kernel_rfl) (by kernel_rfl) (fun _ _ _ h => h) rfl (by assumption) (by intro w9 hS9; obtain ⟨⟨s0, s1⟩, ⟨s2, s3⟩⟩ := hS9; go_simp) ?_
    simp only [List.setIfInBounds_toArray, List.set_cons_zero, List.set_cons_succ]
    refine wpAnyH_ready (rs := [14]) (by kernel_rfl) (by decide) (AllReadyH.cons rfl (fun K hK => ?_) AllReadyH.nil)
    refine (if_pos rfl).mpr ?_
    go_wp2_with fail
    refine (unhide CK x4).mono ?_
    rintro e x5 ⟨rfl, bel⟩
    have B6 := hide (below_on (unhide B5) bel)
    refine hK.out _ _ (hHeld.bel bel) (fun hHeld => ?_)
    clear hK K bel
    refine take_yes 15 30 (.bool true) rfl rfl (by kernel_rfl) (by kernel_rfl) (by kernel_rfl) (fun _ _ _ h => h) rfl (by assumption) (by intro w9 hS9; obtain ⟨⟨s0, s1⟩, ⟨s2, s3⟩⟩ := hS9; go_simp) ?_
    simp only [List.setIfInBounds_toArray, List.set_cons_zero, List.set_cons_succ]
    refine take_yes 16 4 (.bool true) rfl rfl (by kernel_rfl) (by kernel_rfl) (by kernel_rfl) (fun _ _ _ h => h) rfl (by assumption) (by intro w9 hS9; obtain ⟨⟨s0, s1⟩, ⟨s2, s3⟩⟩ := hS9; go_simp) ?_
    simp only [List.setIfInBounds_toArray, List.set_cons_zero, List.set_cons_succ]
    refine wpAnyH_done (by kernel_rfl) ?_ _
    go_wp2
    go_ret
    exact ⟨rfl, unhide B6⟩
  · rw [hq] at CS CR
    clear hq
    go_enter Try.func5, Try.ntmps5
    rw [SetV.val, SetV.val]
    go_wp2_with fail
    refine wp_region_held_drew (S := (fun w9 => SBoxes w9 w.heap.size a b)) (by kernel_rfl) (hbox.drew) (fun hHeld => ?_)
    refine take_yes 0 15 (.agg #[.int .i64 a.reload, .slice a.ao a.ts.length a.cap]) rfl rfl (by kernel_rfl) (by kernel_rfl) (by kernel_rfl) (fun _ _ _ h => h) rfl (by assumption) (by intro w9 hS9; obtain ⟨⟨s0, s1⟩, ⟨s2, s3⟩⟩ := hS9; go_simp) ?_
    simp only [List.setIfInBounds_toArray, List.set_cons_zero, List.set_cons_succ]
    refine take_yes 1 16 (.agg #[.int .i64 b.reload, .slice b.ao b.ts.length b.cap]) rfl rfl (by kernel_rfl) (by kernel_rfl) (by kernel_rfl) (fun _ _ _ h => h) rfl (by assumption) (by intro w9 hS9; obtain ⟨⟨s0, s1⟩, ⟨s2, s3⟩⟩ := hS9; go_simp) ?_
    simp only [List.setIfInBounds_toArray, List.set_cons_zero, List.set_cons_succ]
    refine take_yes 3 18 (.agg #[.int .i64 a.reload, .slice a.ao a.ts.length a.cap]) rfl rfl (by kernel_rfl) (by kernel_rfl) (by kernel_rfl) (fun _ _ _ h => h) rfl (by assumption) (by intro w9 hS9; obtain ⟨⟨s0, s1⟩, ⟨s2, s3⟩⟩ := hS9; go_simp) ?_
    simp only [List.setIfInBounds_toArray, List.set_cons_zero, List.set_cons_succ]
    refine take_yes 4 19 (.agg #[.int .i64 b.reload, .slice b.ao b.ts.length b.cap]) rfl rfl (by kernel_rfl) (by kernel_rfl) (by kernel_rfl) (fun _ _ _ h => h) rfl (by assumption) (by intro w9 hS9; obtain ⟨⟨s0, s1⟩, ⟨s2, s3⟩⟩ := hS9; go_simp) ?_
    simp only [List.setIfInBounds_toArray, List.set_cons_zero, List.set_cons_succ]
    refine wpAnyH_ready (rs := [2]) (by kernel_rfl) (by decide) (AllReadyH.cons rfl (fun K hK => ?_) AllReadyH.nil)
    refine (if_pos rfl).mpr ?_
    go_wp2_with fail
    refine (unhide CS ((w.alloc (.cells #[.int .i64 a.reload, .slice a.ao a.ts.length a.cap] 31)).alloc (.cells #[.int .i64 b.reload, .slice b.ao b.ts.length b.cap] 31)).drew (set_bel ha (unhide B1)) (set_bel hb (unhide B1))).mono ?_
    rintro e x1 ⟨rfl, bel⟩
    have B2 := hide (below_on (unhide B1) bel)
    refine hK.out _ _ (hHeld.bel bel) (fun hHeld => ?_)
    clear hK K bel
    refine wpAnyH_ready (rs := [5]) (by kernel_rfl) (by decide) (AllReadyH.cons rfl (fun K hK => ?_) AllReadyH.nil)
    refine (if_pos rfl).mpr ?_
    go_wp2_with fail
    refine (unhide CR x1 (set_bel ha (unhide B2)) (set_bel hb (unhide B2))).mono ?_
    rintro e x2 ⟨rfl, bel⟩
    have B3 := hide (below_on (unhide B2) bel)
    refine hK.out _ _ (hHeld.bel bel) (fun hHeld => ?_)
    clear hK K bel
    refine take_yes 6 21 (.bool true) rfl rfl (by kernel_rfl) (by kernel_rfl) (by kernel_rfl) (fun _ _ _ h => h) rfl (by assumption) (by intro w9 hS9; obtain ⟨⟨s0, s1⟩, ⟨s2, s3⟩⟩ := hS9; go_simp) ?_
    simp only [List.setIfInBounds_toArray, List.set_cons_zero, List.set_cons_succ]
    refine take_yes 7 22 (.bool true) rfl rfl (by kernel_rfl) (by kernel_rfl) (by kernel_rfl) (fun _ _ _ h => h) rfl (by assumption) (by intro w9 hS9; obtain ⟨⟨s0, s1⟩, ⟨s2, s3⟩⟩ := hS9; go_simp) ?_
    simp only [List.setIfInBounds_toArray, List.set_cons_zero, List.set_cons_succ]
    refine take_yes 8 23 (.agg #[.int .i64 a.reload, .slice a.ao a.ts.length a.cap]) rfl rfl (by kernel_rfl) (by kernel_rfl) (by kernel_rfl) (fun _ _ _ h => h) rfl (by assumption) (by intro w9 hS9; obtain ⟨⟨s0, s1⟩, ⟨s2, s3⟩⟩ := hS9; go_simp) ?_
    simp only [List.setIfInBounds_toArray, List.set_cons_zero, List.set_cons_succ]
    refine take_yes 9 24 (.agg #[.int .i64 a.reload, .slice a.ao a.ts.length a.cap]) rfl rfl (by kernel_rfl) (by kernel_rfl) (by kernel_rfl) (fun _ _ _ h => h) rfl (by assumption) (by intro w9 hS9; obtain ⟨⟨s0, s1⟩, ⟨s2, s3⟩⟩ := hS9; go_simp) ?_
    simp only [List.setIfInBounds_toArray, List.set_cons_zero, List.set_cons_succ]
    refine wpAnyH_ready (rs := [10]) (by kernel_rfl) (by decide) (AllReadyH.cons rfl (fun K hK => ?_) AllReadyH.nil)
    refine (if_pos rfl).mpr ?_
    go_wp2_with fail
    refine (unhide CP x2 (set_bel ha (unhide B3))).mono ?_
    rintro e x3 ⟨a', rfl, hput⟩
    have bel := hput.below
    have HP := hide hput
    rw [SetV.val]
    clear hput
    have B4 := hide (below_on (unhide B3) bel)
    refine hK.out _ _ (hHeld.bel bel) (fun hHeld => ?_)
    clear hK K bel
    refine wpAnyH_ready (rs := [11]) (by kernel_rfl) (by decide) (AllReadyH.cons rfl (fun K hK => ?_) AllReadyH.nil)
    refine (if_pos rfl).mpr ?_
    go_wp2_with fail
    refine (unhide CT x2 x3 a' (unhide HP) (set_bel ha (unhide B3))).mono ?_
    rintro e x4 ⟨rfl, bel⟩
    have B5 := hide (below_on (unhide B4) bel)
    refine hK.out _ _ (hHeld.bel bel) (fun hHeld => ?_)
    clear hK K bel
    refine take_yes 12 27 (.bool true) rfl rfl (by kernel_rfl) (by kernel_rfl) (by kernel_rfl) (fun _ _ _ h => h) rfl (by assumption) (by intro w9 hS9; obtain ⟨⟨s0, s1⟩, ⟨s2, s3⟩⟩ := hS9; go_simp) ?_
    simp only [List.setIfInBounds_toArray, List.set_cons_zero, List.set_cons_succ]
    refine take_yes 13 28 (.bool true) rfl rfl (by kernel_rfl) (by kernel_rfl) (by kernel_rfl) (fun _ _ _ h => h) rfl (by assumption) (by intro w9 hS9; obtain ⟨⟨s0, s1⟩, ⟨s2, s3⟩⟩ := hS9; go_simp) ?_
    simp only [List.setIfInBounds_toArray, List.set_cons_zero, List.set_cons_succ]
    refine wpAnyH_ready (rs := [14]) (by kernel_rfl) (by decide) (AllReadyH.cons rfl (fun K hK => ?_) AllReadyH.nil)
    refine (if_pos rfl).mpr ?_
    go_wp2_with fail
    refine (unhide CK x4).mono ?_
    rintro e x5 ⟨rfl, bel⟩
    have B6 := hide (below_on (unhide B5) bel)
    refine hK.out _ _ (hHeld.bel bel) (fun hHeld => ?_)
    clear hK K bel
    refine take_yes 15 30 (.bool true) rfl rfl (by kernel_rfl) (by kernel_rfl) (by kernel_rfl) (fun _ _ _ h => h) rfl (by assumption) (by intro w9 hS9; obtain ⟨⟨s0, s1⟩, ⟨s2, s3⟩⟩ := hS9; go_simp) ?_
    simp only [List.setIfInBounds_toArray, List.set_cons_zero, List.set_cons_succ]
    refine take_yes 16 4 (.bool true) rfl rfl (by kernel_rfl) (by kernel_rfl) (by kernel_rfl) (fun _ _ _ h => h) rfl (by assumption) (by intro w9 hS9; obtain ⟨⟨s0, s1⟩, ⟨s2, s3⟩⟩ := hS9; go_simp) ?_
    simp only [List.setIfInBounds_toArray, List.set_cons_zero, List.set_cons_succ]
    refine wpAnyH_done (by kernel_rfl) ?_ _
    go_wp2
    go_ret
    exact ⟨rfl, unhide B6⟩
end Go.Proofs.Ytgccemnddambeaa.Lex
