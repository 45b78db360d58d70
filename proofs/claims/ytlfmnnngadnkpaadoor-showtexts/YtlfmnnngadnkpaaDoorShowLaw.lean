/- The laws of chapter 7, over what package show answers. -/
import Derived.Test.YtlfmnnngadnkpaaDoorParseLaw
import Derived.Test.YtlfmnnngadnkpaaDoorTaskSameW
import Derived.Lib.LaidTab
import Derived.Lib.ItoaNum
namespace Go.Proofs.YtlfmnnngadnkpaaDoor.Lex
open Go.ChangeShapes Go.WideShapes Go.RowKit

/- that the library's table of the powers of ten lies in a world as it was laid -/
def Pw (w : World) : Prop := Lib.TabIs Tryd.prog w "internal/strconv.uint64pow10" .u64 Lib.pow10Tab
theorem Pw.bel {w w' : World} (h : Pw w) (hb : Below w.heap.size w w') : Pw w' := by
  unfold Pw Lib.TabIs World.var? at h ⊢
  cases hg : Tryd.prog.globalNamed "internal/strconv.uint64pow10" with
  | none => rw [hg] at h; simp at h
  | some g =>
    rw [hg] at h
    simp only [Option.bind_some] at h ⊢
    have hlt : g < w.heap.size := by
      rcases Nat.lt_or_ge g w.heap.size with h' | h'
      · exact h'
      · simp [Array.getElem?_eq_none h'] at h
    rw [hb.block g hlt]
    exact h
/- what Task and Text of package show must be shown to answer -/
def CShowTask : Prop := ∀ (t : TaskV) (p : Int) (w : World), Pw w → TaskIn w t → Fits t p → p ≤ 10000 → Calls Tryd.prog 8 #[t.val] w fun e w' => e = .returned (.string (mkS (taskT t))) ∧ Below w.heap.size w w'
def CShowText : Prop := ∀ (s : SetV) (w : World), Pw w → SetIn w s → allB s = true → Calls Tryd.prog 10 #[s.val] w fun e w' => e = .returned (.string (mkS (textS s))) ∧ Below w.heap.size w w'
theorem known_fits (g : Nat) : Fits (plainT ⟨#[97]⟩ g 5) 0 := ⟨by show isB (plainT ⟨#[97]⟩ 0 5) 0 = true; decide +kernel, by simp [plainT, U64], by simp [plainT, U64], by decide⟩
theorem known_text (g : Nat) : taskT (plainT ⟨#[97]⟩ g 5) = [116, 97, 115, 107, 32, 97, 32, 112, 101, 114, 105, 111, 100, 32, 53, 32, 100, 101, 97, 100, 108, 105, 110, 101, 32, 53, 32, 102, 105, 120, 101, 100, 32, 114, 101, 103, 105, 111, 110, 115, 32, 50, 32, 49, 59] := by
  show taskT (plainT ⟨#[97]⟩ 0 5) = _
  decide +kernel
set_option maxHeartbeats 800000 in
theorem wknown_any (hT : CShowTask) (w : World) (hP : Pw w) : Calls Tryd.prog 12 #[] w fun e w' => e = .returned (.bool true) ∧ Below w.heap.size w w' := by
  have CT := hide (fun h => hT (plainT ⟨#[97]⟩ (w : World).heap.size 5) 0 (w.alloc (.cells #[.int .i64 2, .int .i64 1] 2)) (hP.bel ((Below.refl _ _).alloc (Nat.le_refl _) _)) h (known_fits _) (by decide))
  clear hT hP
  go_enter Tryd.func12, Tryd.ntmps12
  go_wp2_with fail
  refine (unhide CT (plain_in (by simp) (by simp) (by decide) (by simp [I64]))).mono ?_
  rintro e w1 ⟨rfl, bel⟩
  rw [known_text]
  have B := hide (bel_box (Below.refl _ _) bel)
  clear bel
  go_wp2
  go_ret
  exact ⟨ret_bool (by rw [toList_bl, bl_mkS]; rfl), unhide B⟩
/- a set's own cell, and one of its tasks -/
structure LBox (w : World) (g : Nat) (v : Value) (b o : Nat) (t : TaskV) : Prop where
  c1 : w.cell? ⟨g, 1, none⟩ = some v
  row : TaskAt w b o t
theorem LBox.bel {w w' : World} {g b o : Nat} {v : Value} {t : TaskV} (h : LBox w g v b o t) (hb : Below w.heap.size w w') : LBox w' g v b o t := ⟨cell_bel' h.c1 hb, h.row.bel hb⟩
theorem LBox.drew {w : World} {g b o : Nat} {v : Value} {t : TaskV} (h : LBox w g v b o t) : LBox w.drew g v b o t := h.bel ((Below.refl _ _).drew)
set_option maxHeartbeats 6400000 in
theorem stexts_law (hT : CShowTask) (hX : CShowText) (s : SetV) (w : World) (hs : SetIn w s) (hP : Pw w) : Calls Tryd.prog 3 #[s.val] w fun e w' => e = .returned (.bool true) ∧ Below w.heap.size w w' := by
  have hlen := hs.len
  have CK := hide (fun w' (hB : Below w.heap.size w w') => wknown_any hT w' (hP.bel hB))
  by_cases h10 : (10 : Int) < s.ts.length
  · go_enter Tryd.func3, Tryd.ntmps3
    rw [SetV.val]
    go_wp2
    go_ret
    exact ⟨rfl, (Below.refl _ _).alloc (Nat.le_refl _) _⟩
  have CA := hide (fun w h => rall_any s w h)
  cases hb : allB s
  · rw [hb] at CA
    clear hb
    go_enter Tryd.func3, Tryd.ntmps3
    rw [SetV.val]
    go_wp2_with fail
    refine (unhide CA _ (set_bel hs ((Below.refl _ _).alloc (Nat.le_refl _) _))).mono ?_
    rintro e w1 ⟨rfl, bel⟩
    have B1 := hide (bel_box (Below.refl _ _) bel)
    clear bel
    go_wp2
    go_ret
    exact ⟨rfl, unhide B1⟩
  rw [hb] at CA
  have hu : ∀ t ∈ s.ts, U64 t.ecb ∧ U64 t.ucb := fun t ht => ⟨(hs.each t ht).ecb, (hs.each t ht).ucb⟩
  have CX1 := hide (fun w' (hB : Below w.heap.size w w') h => hX s w' (hP.bel hB) h hb)
  have CX2 := hide (fun w h => rtext_any s w h hb)
  obtain ⟨-, h8, -, hfit⟩ := all_fits hb hu
  have hne : s.ts ≠ [] := fun e => by
    have : allB s = true := hb
    rw [allB, e] at this
    simp at this
  obtain ⟨b, off, hao, ht⟩ := set_task hs hne
  have HIN := hide hs
  have HT := hide ht
  have HFIT := hide hfit
  have HCT := hide hT
  have HP := hide hP
  clear hu hb hs ht hfit hX hT hP
  obtain ⟨rl, ao, cap, ts⟩ := s
  simp only at hao h8 hlen hne h10
  subst hao
  generalize mkS (textS ⟨rl, some ⟨b, off, none⟩, cap, ts⟩) = TX at *
  go_enter Tryd.func3, Tryd.ntmps3
  rw [SetV.val]
  simp only
  go_wp2_with fail
  refine (unhide CA _ (set_bel (unhide HIN) ((Below.refl _ _).alloc (Nat.le_refl _) _))).mono ?_
  rintro e w1 ⟨rfl, bel⟩
  have B1 := hide bel
  clear bel CA
  go_wp2
  go_loopw [3] (fun i wr => ∃ k : Nat, k ≤ ts.length ∧ i = .int .i64 k ∧ Below (w.alloc (.cells #[.int .i64 rl, .slice (some ⟨b, off, none⟩) ts.length cap] 24)).heap.size (w.alloc (.cells #[.int .i64 rl, .slice (some ⟨b, off, none⟩) ts.length cap] 24)) wr) (fun i _ => ts.length - (intOf i).toNat)
  case atStart => exact ⟨0, Nat.zero_le _, rfl, unhide B1⟩
  case round =>
    clear B1
    obtain ⟨k, hk, rfl, hbel⟩ := hrel
    obtain ⟨c0, c1⟩ := boxed2 hbel
    have B := hide hbel
    have B1 := hide (bel_box (Below.refl _ _) hbel)
    clear hbel
    by_cases hlt : k < ts.length
    · have hrow := (unhide HT k hlt).1.bel (unhide B1)
      have IN := hide (unhide HT k hlt).2
      have F := unhide HFIT k hlt
      have CT1 := hide (fun w' (hB : Below w.heap.size w w') h => unhide HCT (ts.getD k task0) k w' ((unhide HP).bel hB) h F (by omega))
      have CT2 := hide (fun w h => rtask_text (ts.getD k task0) k w h F (by omega))
      clear F
      generalize ts.getD k task0 = t at *
      generalize mkS (taskT t) = TT at *
      have hbox : LBox wr w.heap.size (.slice (some ⟨b, off, none⟩) ts.length cap) b (off + k * 9) t := ⟨c1, hrow⟩
      have hk0 : (0 : Int) ≤ (k : Int) := by omega
      have hk1 : (k : Int) < (ts.length : Int) := by omega
      clear hrow
      have D0 := hide (unhide B1).drew
      have VD := hide (unhide B).drew
      go_wp2_with fail
      refine wp_region_held_drew (S := (fun w9 => LBox w9 w.heap.size (.slice (some ⟨b, off, none⟩) ts.length cap) b (off + k * 9) t)) (by kernel_rfl) (hbox.drew) (fun hHeld => ?_)
      refine take_yes 0 20 (.pointer (some ⟨w.heap.size, 1, none⟩)) rfl rfl (by kernel_rfl) (by kernel_rfl) (by kernel_rfl) (fun _ _ _ h => h) rfl (by assumption) (by intro w9 hS9; obtain ⟨s1, ⟨s2, s3, s4, s5, s6, s7, s8, s9, s10⟩⟩ := hS9; go_simp) ?_
      simp only [List.setIfInBounds_toArray, List.set_cons_zero, List.set_cons_succ]
      refine take_yes 1 21 (.slice (some ⟨b, off, none⟩) ts.length cap) rfl rfl (by kernel_rfl) (by kernel_rfl) (by kernel_rfl) (fun _ _ _ h => h) rfl (by assumption) (by intro w9 hS9; obtain ⟨s1, ⟨s2, s3, s4, s5, s6, s7, s8, s9, s10⟩⟩ := hS9; go_simp) ?_
      simp only [List.setIfInBounds_toArray, List.set_cons_zero, List.set_cons_succ]
      refine take_yes 2 22 (.int .i64 k) rfl rfl (by kernel_rfl) (by kernel_rfl) (by kernel_rfl) (fun _ _ _ h => h) rfl (by assumption) (by intro w9 hS9; obtain ⟨s1, ⟨s2, s3, s4, s5, s6, s7, s8, s9, s10⟩⟩ := hS9; go_simp) ?_
      simp only [List.setIfInBounds_toArray, List.set_cons_zero, List.set_cons_succ]
      refine take_yes 3 23 (.pointer (some ⟨b, off + k * 9, none⟩)) rfl rfl (by kernel_rfl) (by kernel_rfl) (by kernel_rfl) (fun _ _ _ h => h) rfl (by assumption) (by intro w9 hS9; obtain ⟨s1, ⟨s2, s3, s4, s5, s6, s7, s8, s9, s10⟩⟩ := hS9; go_simp) ?_
      simp only [List.setIfInBounds_toArray, List.set_cons_zero, List.set_cons_succ]
      refine take_yes 4 24 (.agg #[.string t.name, .int .i64 t.T, .int .i64 t.D, .int .i64 t.mode, .int .i64 t.Q, .int .i64 t.theta, .slice t.ao t.regs.length t.cap, .int .u64 t.ecb, .int .u64 t.ucb]) rfl rfl (by kernel_rfl) (by kernel_rfl) (by kernel_rfl) (fun _ _ _ h => h) rfl (by assumption) (by intro w9 hS9; obtain ⟨s1, ⟨s2, s3, s4, s5, s6, s7, s8, s9, s10⟩⟩ := hS9; go_simp) ?_
      simp only [List.setIfInBounds_toArray, List.set_cons_zero, List.set_cons_succ]
      refine take_yes 6 26 (.pointer (some ⟨w.heap.size, 1, none⟩)) rfl rfl (by kernel_rfl) (by kernel_rfl) (by kernel_rfl) (fun _ _ _ h => h) rfl (by assumption) (by intro w9 hS9; obtain ⟨s1, ⟨s2, s3, s4, s5, s6, s7, s8, s9, s10⟩⟩ := hS9; go_simp) ?_
      simp only [List.setIfInBounds_toArray, List.set_cons_zero, List.set_cons_succ]
      refine take_yes 7 27 (.slice (some ⟨b, off, none⟩) ts.length cap) rfl rfl (by kernel_rfl) (by kernel_rfl) (by kernel_rfl) (fun _ _ _ h => h) rfl (by assumption) (by intro w9 hS9; obtain ⟨s1, ⟨s2, s3, s4, s5, s6, s7, s8, s9, s10⟩⟩ := hS9; go_simp) ?_
      simp only [List.setIfInBounds_toArray, List.set_cons_zero, List.set_cons_succ]
      refine take_yes 8 28 (.int .i64 k) rfl rfl (by kernel_rfl) (by kernel_rfl) (by kernel_rfl) (fun _ _ _ h => h) rfl (by assumption) (by intro w9 hS9; obtain ⟨s1, ⟨s2, s3, s4, s5, s6, s7, s8, s9, s10⟩⟩ := hS9; go_simp) ?_
      simp only [List.setIfInBounds_toArray, List.set_cons_zero, List.set_cons_succ]
      refine take_yes 9 29 (.pointer (some ⟨b, off + k * 9, none⟩)) rfl rfl (by kernel_rfl) (by kernel_rfl) (by kernel_rfl) (fun _ _ _ h => h) rfl (by assumption) (by intro w9 hS9; obtain ⟨s1, ⟨s2, s3, s4, s5, s6, s7, s8, s9, s10⟩⟩ := hS9; go_simp) ?_
      simp only [List.setIfInBounds_toArray, List.set_cons_zero, List.set_cons_succ]
      refine take_yes 10 30 (.agg #[.string t.name, .int .i64 t.T, .int .i64 t.D, .int .i64 t.mode, .int .i64 t.Q, .int .i64 t.theta, .slice t.ao t.regs.length t.cap, .int .u64 t.ecb, .int .u64 t.ucb]) rfl rfl (by kernel_rfl) (by kernel_rfl) (by kernel_rfl) (fun _ _ _ h => h) rfl (by assumption) (by intro w9 hS9; obtain ⟨s1, ⟨s2, s3, s4, s5, s6, s7, s8, s9, s10⟩⟩ := hS9; go_simp) ?_
      simp only [List.setIfInBounds_toArray, List.set_cons_zero, List.set_cons_succ]
      refine wpAnyH_ready (rs := [5]) (by kernel_rfl) (by decide) (AllReadyH.cons rfl (fun K hK => ?_) AllReadyH.nil)
      refine (if_pos rfl).mpr ?_
      go_wp2_with fail
      refine (unhide CT1 wr.drew (unhide D0) (task_bel (unhide IN) (unhide D0))).mono ?_
      rintro e x1 ⟨rfl, bel⟩
      have N1 := hide (below_on (unhide D0) bel)
      have V1 := hide (below_on (unhide VD) bel)
      refine hK.out _ _ (hHeld.bel bel) (fun hHeld => ?_)
      clear hK K bel
      refine wpAnyH_ready (rs := [11]) (by kernel_rfl) (by decide) (AllReadyH.cons rfl (fun K hK => ?_) AllReadyH.nil)
      refine (if_pos rfl).mpr ?_
      go_wp2_with fail
      refine (unhide CT2 x1 (task_bel (unhide IN) (unhide N1))).mono ?_
      rintro e x2 ⟨rfl, bel⟩
      have N2 := hide (below_on (unhide N1) bel)
      have V2 := hide (below_on (unhide V1) bel)
      refine hK.out _ _ (hHeld.bel bel) (fun hHeld => ?_)
      clear hK K bel
      refine take_yes 12 32 (.bool false) rfl rfl (by kernel_rfl) (by kernel_rfl) (by kernel_rfl) (fun _ _ _ h => h) rfl (by assumption) (by intro w9 hS9; obtain ⟨s1, ⟨s2, s3, s4, s5, s6, s7, s8, s9, s10⟩⟩ := hS9; go_simp) ?_
      simp only [List.setIfInBounds_toArray, List.set_cons_zero, List.set_cons_succ]
      refine wpAnyH_done (by kernel_rfl) ?_ _
      clear hHeld
      go_wp2
      go_roundw
      case rel => exact ⟨k + 1, by omega, by go_num, unhide V2⟩
      case measure => simp [intOf]; omega
    · have e : k = ts.length := by omega
      subst e
      have hbox : SBox wr w.heap.size ⟨rl, some ⟨b, off, none⟩, cap, ts⟩ := ⟨c0, c1⟩
      have D0 := hide (unhide B1).drew
      go_wp2_with fail
      refine wp_region_held_drew (S := (fun w9 => SBox w9 w.heap.size ⟨rl, some ⟨b, off, none⟩, cap, ts⟩)) (by kernel_rfl) (hbox.drew) (fun hHeld => ?_)
      refine take_yes 0 33 (.agg #[.int .i64 rl, .slice (some ⟨b, off, none⟩) ts.length cap]) rfl rfl (by kernel_rfl) (by kernel_rfl) (by kernel_rfl) (fun _ _ _ h => h) rfl (by assumption) (by intro w9 hS9; obtain ⟨s0, s1⟩ := hS9; go_simp) ?_
      simp only [List.setIfInBounds_toArray, List.set_cons_zero, List.set_cons_succ]
      refine take_yes 2 35 (.agg #[.int .i64 rl, .slice (some ⟨b, off, none⟩) ts.length cap]) rfl rfl (by kernel_rfl) (by kernel_rfl) (by kernel_rfl) (fun _ _ _ h => h) rfl (by assumption) (by intro w9 hS9; obtain ⟨s0, s1⟩ := hS9; go_simp) ?_
      simp only [List.setIfInBounds_toArray, List.set_cons_zero, List.set_cons_succ]
      refine wpAnyH_ready (rs := [1]) (by kernel_rfl) (by decide) (AllReadyH.cons rfl (fun K hK => ?_) AllReadyH.nil)
      refine (if_pos rfl).mpr ?_
      go_wp2_with fail
      refine (unhide CX1 wr.drew (unhide D0) (set_bel (unhide HIN) (unhide D0))).mono ?_
      rintro e x1 ⟨rfl, bel⟩
      have N1 := hide (below_on (unhide D0) bel)
      refine hK.out _ _ (hHeld.bel bel) (fun hHeld => ?_)
      clear hK K bel
      refine wpAnyH_ready (rs := [3]) (by kernel_rfl) (by decide) (AllReadyH.cons rfl (fun K hK => ?_) AllReadyH.nil)
      refine (if_pos rfl).mpr ?_
      go_wp2_with fail
      refine (unhide CX2 x1 (set_bel (unhide HIN) (unhide N1))).mono ?_
      rintro e x2 ⟨rfl, bel⟩
      have N2 := hide (below_on (unhide N1) bel)
      refine hK.out _ _ (hHeld.bel bel) (fun hHeld => ?_)
      clear hK K bel
      refine take_yes 4 37 (.bool true) rfl rfl (by kernel_rfl) (by kernel_rfl) (by kernel_rfl) (fun _ _ _ h => h) rfl (by assumption) (by intro w9 hS9; obtain ⟨s0, s1⟩ := hS9; go_simp) ?_
      simp only [List.setIfInBounds_toArray, List.set_cons_zero, List.set_cons_succ]
      refine take_yes 5 38 (.bool true) rfl rfl (by kernel_rfl) (by kernel_rfl) (by kernel_rfl) (fun _ _ _ h => h) rfl (by assumption) (by intro w9 hS9; obtain ⟨s0, s1⟩ := hS9; go_simp) ?_
      simp only [List.setIfInBounds_toArray, List.set_cons_zero, List.set_cons_succ]
      refine wpAnyH_ready (rs := [6]) (by kernel_rfl) (by decide) (AllReadyH.cons rfl (fun K hK => ?_) AllReadyH.nil)
      refine (if_pos rfl).mpr ?_
      go_wp2_with fail
      refine (unhide CK x2 (unhide N2)).mono ?_
      rintro e x3 ⟨rfl, bel⟩
      have N3 := hide (below_on (unhide N2) bel)
      refine hK.out _ _ (hHeld.bel bel) (fun hHeld => ?_)
      clear hK K bel
      refine take_yes 7 40 (.bool true) rfl rfl (by kernel_rfl) (by kernel_rfl) (by kernel_rfl) (fun _ _ _ h => h) rfl (by assumption) (by intro w9 hS9; obtain ⟨s0, s1⟩ := hS9; go_simp) ?_
      simp only [List.setIfInBounds_toArray, List.set_cons_zero, List.set_cons_succ]
      refine take_yes 8 2 (.bool true) rfl rfl (by kernel_rfl) (by kernel_rfl) (by kernel_rfl) (fun _ _ _ h => h) rfl (by assumption) (by intro w9 hS9; obtain ⟨s0, s1⟩ := hS9; go_simp) ?_
      simp only [List.setIfInBounds_toArray, List.set_cons_zero, List.set_cons_succ]
      refine wpAnyH_done (by kernel_rfl) ?_ _
      go_wp2
      go_ret
      exact ⟨rfl, unhide N3⟩
end Go.Proofs.YtlfmnnngadnkpaaDoor.Lex
