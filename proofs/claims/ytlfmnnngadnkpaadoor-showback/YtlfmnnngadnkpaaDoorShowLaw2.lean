/- The laws of chapter 7 of two sets, of lines, of a text that is parsed, over what package show answers. -/
import Derived.Test.YtlfmnnngadnkpaaDoorShowLaw
import Derived.Test.YtlfmnnngadnkpaaDoorParseP6
namespace Go.Proofs.YtlfmnnngadnkpaaDoor.Lex
open Go.ChangeShapes Go.WideShapes Go.RowKit

theorem same_parts {a b : SetV} (h : sameB a b = true) : a.reload = b.reload ∧ a.ts.map bareT = b.ts.map bareT := by
  simp only [sameB, Bool.and_eq_true, beq_iff_eq, List.all_eq_true, List.mem_range] at h
  obtain ⟨hr, hl, he⟩ := h
  refine ⟨hr, List.ext_getElem? fun j => ?_⟩
  rcases Nat.lt_or_ge j a.ts.length with hj | hj
  · have hjb : j < b.ts.length := by omega
    have key : ∀ x y : TaskV, sameT x y = true → bareT x = bareT y := fun x y e => by
      obtain ⟨⟨nx⟩, _, _, _, _, _, _, _, _, _, _⟩ := x
      obtain ⟨⟨ny⟩, _, _, _, _, _, _, _, _, _, _⟩ := y
      simp only [sameT, Bool.and_eq_true, beq_iff_eq] at e
      obtain ⟨e0, rfl, rfl, rfl, rfl, rfl, rfl, rfl, rfl⟩ := e
      have : nx = ny := Array.toList_inj.1 e0
      subst this; rfl
    have := key _ _ (he j hj)
    rw [List.getElem?_map, List.getElem?_map, List.getElem?_eq_getElem hj, List.getElem?_eq_getElem hjb]
    simp only [List.getD_eq_getElem?_getD, List.getElem?_eq_getElem hj, List.getElem?_eq_getElem hjb, Option.getD_some] at this
    simp [this]
  · rw [List.getElem?_eq_none (by simpa using hj), List.getElem?_eq_none (by simp; omega)]
theorem unlike {a b : SetV} (ha : allB a = true) (hb : allB b = true) (hua : ∀ t ∈ a.ts, U64 t.ecb ∧ U64 t.ucb) (hub : ∀ t ∈ b.ts, U64 t.ecb ∧ U64 t.ucb) : ((mkS (textS a)).toList == (mkS (textS b)).toList) = sameB a b := by
  rw [toList_bl, toList_bl, bl_mkS, bl_mkS]
  cases hs : sameB a b
  · rw [beq_eq_false_iff_ne]
    intro e
    obtain ⟨h1, h2⟩ := text_one ha hb hua hub e
    rw [same_bare h1 h2] at hs
    cases hs
  · obtain ⟨h1, h2⟩ := same_parts hs
    rw [text_bare h1 h2]; simp
set_option maxHeartbeats 3200000 in
theorem sunlike_law (hT : CShowTask) (hX : CShowText) (a b : SetV) (w : World) (ha : SetIn w a) (hb : SetIn w b) (hP : Pw w) : Calls Tryd.prog 5 #[a.val, b.val] w fun e w' => e = .returned (.bool true) ∧ Below w.heap.size w w' := by
  have CK := hide (fun w' (hB : Below w.heap.size w w') => wknown_any hT w' (hP.bel hB))
  have hla := ha.len
  have hlb := hb.len
  by_cases h10 : (10 : Int) < a.ts.length
  · go_enter Tryd.func5, Tryd.ntmps5
    rw [SetV.val, SetV.val]
    go_wp2
    go_ret
    exact ⟨rfl, ((Below.refl _ _).alloc (Nat.le_refl _) _).alloc (by simp) _⟩
  by_cases h10b : (10 : Int) < b.ts.length
  · go_enter Tryd.func5, Tryd.ntmps5
    rw [SetV.val, SetV.val]
    go_wp2
    go_ret
    exact ⟨rfl, ((Below.refl _ _).alloc (Nat.le_refl _) _).alloc (by simp) _⟩
  have CA := hide (fun w h => rall_any a w h)
  have CB := hide (fun w h => rall_any b w h)
  have HA := hide ha
  have HB := hide hb
  have hb0 := sboxes_new w a b 24
  have HX0 := hide hb0
  have B0 := hide (((Below.refl _ w).alloc (Nat.le_refl _) (.cells #[.int .i64 a.reload, .slice a.ao a.ts.length a.cap] 24)).alloc (by simp) (.cells #[.int .i64 b.reload, .slice b.ao b.ts.length b.cap] 24))
  cases hqa : allB a
  · rw [hqa] at CA
    clear hqa hb0
    go_enter Tryd.func5, Tryd.ntmps5
    rw [SetV.val, SetV.val]
    go_wp2_with fail
    refine (unhide CA _ (set_bel (unhide HA) (unhide B0))).mono ?_
    rintro e w1 ⟨rfl, bel⟩
    have B1 := hide (below_on (unhide B0) bel)
    clear bel
    go_wp2
    go_ret
    exact ⟨rfl, unhide B1⟩
  cases hqb : allB b
  · rw [hqa] at CA
    rw [hqb] at CB
    clear hqa hqb hb0
    go_enter Tryd.func5, Tryd.ntmps5
    rw [SetV.val, SetV.val]
    go_wp2_with fail
    refine (unhide CA _ (set_bel (unhide HA) (unhide B0))).mono ?_
    rintro e w1 ⟨rfl, bel⟩
    have B1 := hide (below_on (unhide B0) bel)
    obtain ⟨⟨s0, s1⟩, ⟨s2, s3⟩⟩ := (unhide HX0).bel bel
    clear bel
    go_wp2_with fail
    refine (unhide CB _ (set_bel (unhide HB) (unhide B1))).mono ?_
    rintro e w2 ⟨rfl, bel⟩
    have B2 := hide (below_on (unhide B1) bel)
    clear bel
    go_wp2
    go_ret
    exact ⟨rfl, unhide B2⟩
  rw [hqa] at CA
  rw [hqb] at CB
  have hua : ∀ t ∈ a.ts, U64 t.ecb ∧ U64 t.ucb := fun t ht => ⟨(ha.each t ht).ecb, (ha.each t ht).ucb⟩
  have hub : ∀ t ∈ b.ts, U64 t.ecb ∧ U64 t.ucb := fun t ht => ⟨(hb.each t ht).ecb, (hb.each t ht).ucb⟩
  have CX1 := hide (fun w' (hB : Below w.heap.size w w') h => hX a w' (hP.bel hB) h hqa)
  have CX2 := hide (fun w' (hB : Below w.heap.size w w') h => hX b w' (hP.bel hB) h hqb)
  have CS := hide (fun w h1 h2 => rsame_any a b w h1 h2)
  have HEQ := hide (unlike hqa hqb hua hub)
  clear hqa hqb hb0 hua hub hX hT hP ha hb
  generalize sameB a b = Q at *
  go_enter Tryd.func5, Tryd.ntmps5
  rw [SetV.val, SetV.val]
  go_wp2_with fail
  refine (unhide CA _ (set_bel (unhide HA) (unhide B0))).mono ?_
  rintro e w1 ⟨rfl, bel⟩
  have B1 := hide (below_on (unhide B0) bel)
  have HX1 := hide ((unhide HX0).bel bel)
  obtain ⟨⟨s0, s1⟩, ⟨s2, s3⟩⟩ := unhide HX1
  clear bel
  go_wp2_with fail
  refine (unhide CB _ (set_bel (unhide HB) (unhide B1))).mono ?_
  rintro e w2 ⟨rfl, bel⟩
  have B2 := hide (below_on (unhide B1) bel)
  have hbox := (unhide HX1).bel bel
  clear bel s0 s1 s2 s3
  have D0 := hide (unhide B2).drew
  go_wp2_with fail
  refine wp_region_held_drew (S := (fun w9 => SBoxes w9 w.heap.size a b)) (by kernel_rfl) (hbox.drew) (fun hHeld => ?_)
  refine take_yes 0 25 (.agg #[.int .i64 a.reload, .slice a.ao a.ts.length a.cap]) rfl rfl (by kernel_rfl) (by kernel_rfl) (by kernel_rfl) (fun _ _ _ h => h) rfl (by assumption) (by intro w9 hS9; obtain ⟨⟨s0, s1⟩, ⟨s2, s3⟩⟩ := hS9; go_simp) ?_
  simp only [List.setIfInBounds_toArray, List.set_cons_zero, List.set_cons_succ]
  refine take_yes 2 27 (.agg #[.int .i64 b.reload, .slice b.ao b.ts.length b.cap]) rfl rfl (by kernel_rfl) (by kernel_rfl) (by kernel_rfl) (fun _ _ _ h => h) rfl (by assumption) (by intro w9 hS9; obtain ⟨⟨s0, s1⟩, ⟨s2, s3⟩⟩ := hS9; go_simp) ?_
  simp only [List.setIfInBounds_toArray, List.set_cons_zero, List.set_cons_succ]
  refine take_yes 5 30 (.agg #[.int .i64 a.reload, .slice a.ao a.ts.length a.cap]) rfl rfl (by kernel_rfl) (by kernel_rfl) (by kernel_rfl) (fun _ _ _ h => h) rfl (by assumption) (by intro w9 hS9; obtain ⟨⟨s0, s1⟩, ⟨s2, s3⟩⟩ := hS9; go_simp) ?_
  simp only [List.setIfInBounds_toArray, List.set_cons_zero, List.set_cons_succ]
  refine take_yes 6 31 (.agg #[.int .i64 b.reload, .slice b.ao b.ts.length b.cap]) rfl rfl (by kernel_rfl) (by kernel_rfl) (by kernel_rfl) (fun _ _ _ h => h) rfl (by assumption) (by intro w9 hS9; obtain ⟨⟨s0, s1⟩, ⟨s2, s3⟩⟩ := hS9; go_simp) ?_
  simp only [List.setIfInBounds_toArray, List.set_cons_zero, List.set_cons_succ]
  refine wpAnyH_ready (rs := [1]) (by kernel_rfl) (by decide) (AllReadyH.cons rfl (fun K hK => ?_) AllReadyH.nil)
  refine (if_pos rfl).mpr ?_
  go_wp2_with fail
  refine (unhide CX1 w2.drew (unhide D0) (set_bel (unhide HA) (unhide D0))).mono ?_
  rintro e x1 ⟨rfl, bel⟩
  have N1 := hide (below_on (unhide D0) bel)
  refine hK.out _ _ (hHeld.bel bel) (fun hHeld => ?_)
  clear hK K bel
  refine wpAnyH_ready (rs := [3]) (by kernel_rfl) (by decide) (AllReadyH.cons rfl (fun K hK => ?_) AllReadyH.nil)
  refine (if_pos rfl).mpr ?_
  go_wp2_with fail
  refine (unhide CX2 x1 (unhide N1) (set_bel (unhide HB) (unhide N1))).mono ?_
  rintro e x2 ⟨rfl, bel⟩
  have N2 := hide (below_on (unhide N1) bel)
  refine hK.out _ _ (hHeld.bel bel) (fun hHeld => ?_)
  clear hK K bel
  refine take_yes 4 29 (.bool ((mkS (textS a)).toList == (mkS (textS b)).toList)) rfl rfl (by kernel_rfl) (by kernel_rfl) (by kernel_rfl) (fun _ _ _ h => h) rfl (by assumption) (by intro w9 hS9; obtain ⟨⟨s0, s1⟩, ⟨s2, s3⟩⟩ := hS9; go_simp) ?_
  simp only [List.setIfInBounds_toArray, List.set_cons_zero, List.set_cons_succ]
  refine wpAnyH_ready (rs := [7]) (by kernel_rfl) (by decide) (AllReadyH.cons rfl (fun K hK => ?_) AllReadyH.nil)
  refine (if_pos rfl).mpr ?_
  go_wp2_with fail
  refine (unhide CS x2 (set_bel (unhide HA) (unhide N2)) (set_bel (unhide HB) (unhide N2))).mono ?_
  rintro e x3 ⟨rfl, bel⟩
  have N3 := hide (below_on (unhide N2) bel)
  refine hK.out _ _ (hHeld.bel bel) (fun hHeld => ?_)
  clear hK K bel
  refine take_yes 8 33 (.bool true) rfl rfl (by kernel_rfl) (by kernel_rfl) (by kernel_rfl) (fun _ _ _ h => h) rfl (by assumption) (by intro w9 hS9; obtain ⟨⟨s0, s1⟩, ⟨s2, s3⟩⟩ := hS9; go_simp; rw [unhide HEQ]) ?_
  simp only [List.setIfInBounds_toArray, List.set_cons_zero, List.set_cons_succ]
  refine take_yes 9 34 (.bool true) rfl rfl (by kernel_rfl) (by kernel_rfl) (by kernel_rfl) (fun _ _ _ h => h) rfl (by assumption) (by intro w9 hS9; obtain ⟨⟨s0, s1⟩, ⟨s2, s3⟩⟩ := hS9; go_simp) ?_
  simp only [List.setIfInBounds_toArray, List.set_cons_zero, List.set_cons_succ]
  refine wpAnyH_ready (rs := [10]) (by kernel_rfl) (by decide) (AllReadyH.cons rfl (fun K hK => ?_) AllReadyH.nil)
  refine (if_pos rfl).mpr ?_
  go_wp2_with fail
  refine (unhide CK x3 (unhide N3)).mono ?_
  rintro e x4 ⟨rfl, bel⟩
  have N4 := hide (below_on (unhide N3) bel)
  refine hK.out _ _ (hHeld.bel bel) (fun hHeld => ?_)
  clear hK K bel
  refine take_yes 11 36 (.bool true) rfl rfl (by kernel_rfl) (by kernel_rfl) (by kernel_rfl) (fun _ _ _ h => h) rfl (by assumption) (by intro w9 hS9; obtain ⟨⟨s0, s1⟩, ⟨s2, s3⟩⟩ := hS9; go_simp) ?_
  simp only [List.setIfInBounds_toArray, List.set_cons_zero, List.set_cons_succ]
  refine take_yes 12 4 (.bool true) rfl rfl (by kernel_rfl) (by kernel_rfl) (by kernel_rfl) (fun _ _ _ h => h) rfl (by assumption) (by intro w9 hS9; obtain ⟨⟨s0, s1⟩, ⟨s2, s3⟩⟩ := hS9; go_simp) ?_
  simp only [List.setIfInBounds_toArray, List.set_cons_zero, List.set_cons_succ]
  refine wpAnyH_done (by kernel_rfl) ?_ _
  go_wp2
  go_ret
  exact ⟨rfl, unhide N4⟩
set_option maxHeartbeats 3200000 in
theorem sback_law (hT : CShowTask) (hX : CShowText) (s : SetV) (w : World) (hs : SetIn w s) (hP : Pw w) : Calls Tryd.prog 4 #[s.val] w fun e w' => e = .returned (.bool true) ∧ Below w.heap.size w w' := by
  have hlen := hs.len
  have CK := hide (fun w' (hB : Below w.heap.size w w') => wknown_any hT w' (hP.bel hB))
  by_cases h10 : (10 : Int) < s.ts.length
  · go_enter Tryd.func4, Tryd.ntmps4
    rw [SetV.val]
    go_wp2
    go_ret
    exact ⟨rfl, (Below.refl _ _).alloc (Nat.le_refl _) _⟩
  have CA := hide (fun w h => rall_any s w h)
  cases hb : allB s
  · rw [hb] at CA
    clear hb
    go_enter Tryd.func4, Tryd.ntmps4
    rw [SetV.val]
    go_wp2_with fail
    refine (unhide CA _ (set_bel hs ((Below.refl _ _).alloc (Nat.le_refl _) _))).mono ?_
    rintro e w1 ⟨rfl, bel⟩
    have B1 := hide (bel_box (Below.refl _ _) bel)
    clear bel
    go_wp2
    go_ret
    exact ⟨rfl, unhide B1⟩
  rw [hb] at CA
  have hu : ∀ t ∈ s.ts, U64 t.ecb ∧ U64 t.ucb := fun t ht => ⟨(hs.each t ht).ecb, (hs.each t ht).ucb⟩
  have CT := hide (fun w' (hB : Below w.heap.size w w') h => hX s w' (hP.bel hB) h hb)
  have CP := hide (fun w => rparse_any (mkS (textS s)) w)
  rw [bl_mkS] at CP
  have HIN := hide hs
  by_cases hl : 4000 < (textS s).length
  · rw [parse_long hl] at CP
    clear hu hs hb hX hT hP
    generalize mkS (textS s) = TX at *
    go_enter Tryd.func4, Tryd.ntmps4
    rw [SetV.val]
    go_wp2_with fail
    refine (unhide CA _ (set_bel (unhide HIN) ((Below.refl _ _).alloc (Nat.le_refl _) _))).mono ?_
    rintro e w1 ⟨rfl, bel⟩
    have B1 := hide (bel_box (Below.refl _ _) bel)
    have X1 := hide ((sbox_new w s 24).bel bel)
    obtain ⟨c0, c1⟩ := unhide X1
    clear bel
    go_wp2_with fail
    refine (unhide CT _ (unhide B1) (set_bel (unhide HIN) (unhide B1))).mono ?_
    rintro e w2 ⟨rfl, bel⟩
    have B2 := hide (below_on (unhide B1) bel)
    clear bel c0 c1
    go_wp2_with fail
    refine (unhide CP _).mono ?_
    rintro e w3 ⟨X, rfl, -, -, -, bel⟩
    rw [SetV.val]
    have B3 := hide (below_on (unhide B2) bel)
    clear bel
    go_wp2_with fail
    refine (unhide CK _ ((unhide B3).alloc (unhide B3).size _)).mono ?_
    rintro e w4 ⟨rfl, bel⟩
    have B4 := hide (((unhide B3).alloc (unhide B3).size _).trans (bel.mono (by have := (unhide B3).size; simp; omega)))
    clear bel
    go_wp2
    go_ret
    exact ⟨rfl, unhide B4⟩
  · rw [parse_text hb hu (by omega)] at CP
    have CS := hide (fun w X hx hs => (fun (h : sameB X s = true) => by rw [← h]; exact rsame_any X s w hx hs : sameB X s = true → Calls Tryd.prog 14 #[X.val, s.val] w fun e w' => e = .returned (.bool true) ∧ Below w.heap.size w w'))
    clear hu hs hb hX hT hP
    generalize mkS (textS s) = TX at *
    generalize (textS s).length = n at *
    go_enter Tryd.func4, Tryd.ntmps4
    rw [SetV.val]
    go_wp2_with fail
    refine (unhide CA _ (set_bel (unhide HIN) ((Below.refl _ _).alloc (Nat.le_refl _) _))).mono ?_
    rintro e w1 ⟨rfl, bel⟩
    have B1 := hide (bel_box (Below.refl _ _) bel)
    have X1 := hide ((sbox_new w s 24).bel bel)
    obtain ⟨c0, c1⟩ := unhide X1
    clear bel
    go_wp2_with fail
    refine (unhide CT _ (unhide B1) (set_bel (unhide HIN) (unhide B1))).mono ?_
    rintro e w2 ⟨rfl, bel⟩
    have B2 := hide (below_on (unhide B1) bel)
    have X2 := hide ((unhide X1).bel bel)
    clear bel c0 c1
    go_wp2_with fail
    refine (unhide CP _).mono ?_
    rintro e w3 ⟨X, rfl, xin, hxr, hxt, bel⟩
    rw [SetV.val]
    simp only
    have HS := hide (same_bare (X := X) (s := s) hxr hxt)
    have XIN := hide xin
    have B3 := hide (below_on (unhide B2) bel)
    have X3 := hide ((unhide X2).bel bel)
    obtain ⟨c0, c1⟩ := unhide X3
    have hlt := World.block_lt_of_cell? w3 _ c0
    simp only at hlt
    have hne : w.heap.size ≠ w3.heap.size := Nat.ne_of_lt hlt
    clear bel xin hxr hxt
    go_wp2_with fail
    refine (unhide CS _ X (set_bel (unhide XIN) ((Below.refl _ _).alloc (Nat.le_refl _) _)) (set_bel (unhide HIN) ((unhide B3).alloc (unhide B3).size _)) (unhide HS)).mono ?_
    rintro e w4 ⟨rfl, bel⟩
    have B4 := hide (((unhide B3).alloc (unhide B3).size _).trans (bel.mono (by have := (unhide B3).size; simp; omega)))
    clear bel c0 c1
    go_wp2_with fail
    refine (unhide CK _ (unhide B4)).mono ?_
    rintro e w5 ⟨rfl, bel⟩
    have B5 := hide (below_on (unhide B4) bel)
    clear bel
    go_wp2
    go_ret
    exact ⟨rfl, unhide B5⟩
/- its lines -/
def linesT (ts : List TaskV) (k : Nat) : List UInt8 := (ts.take k).flatMap fun t => taskT t ++ [10]
theorem lines_next (ts : List TaskV) (k : Nat) (h : k < ts.length) : linesT ts (k + 1) = linesT ts k ++ taskT (ts.getD k task0) ++ [10] := by
  rw [linesT, linesT, List.take_succ_eq_append_getElem h, List.flatMap_append]
  simp [List.getD, h]
set_option maxHeartbeats 6400000 in
theorem slines_law (hT : CShowTask) (hX : CShowText) (s : SetV) (w : World) (hs : SetIn w s) (hP : Pw w) : Calls Tryd.prog 6 #[s.val] w fun e w' => e = .returned (.bool true) ∧ Below w.heap.size w w' := by
  have hlen := hs.len
  have CK := hide (fun w' (hB : Below w.heap.size w w') => wknown_any hT w' (hP.bel hB))
  by_cases h10 : (10 : Int) < s.ts.length
  · go_enter Tryd.func6, Tryd.ntmps6
    rw [SetV.val]
    go_wp2
    go_ret
    exact ⟨rfl, (Below.refl _ _).alloc (Nat.le_refl _) _⟩
  have CA := hide (fun w h => rall_any s w h)
  cases hb : allB s
  · rw [hb] at CA
    clear hb
    go_enter Tryd.func6, Tryd.ntmps6
    rw [SetV.val]
    go_wp2_with fail
    refine (unhide CA _ (set_bel hs ((Below.refl _ _).alloc (Nat.le_refl _) _))).mono ?_
    rintro e w1 ⟨rfl, bel⟩
    have B1 := hide (bel_box (Below.refl _ _) bel)
    clear bel
    go_wp2
    go_ret
    exact ⟨rfl, unhide B1⟩
  rw [hb] at CA
  have hu : ∀ t ∈ s.ts, U64 t.ecb ∧ U64 t.ucb := fun t ht => ⟨(hs.each t ht).ecb, (hs.each t ht).ucb⟩
  have CX1 := hide (fun w' (hB : Below w.heap.size w w') h => hX s w' (hP.bel hB) h hb)
  obtain ⟨⟨hr0, hr1⟩, h8, -, hfit⟩ := all_fits hb hu
  have CD : Hid (∀ w : World, Calls Tryd.prog 15 #[.int .i64 s.reload] w fun e w' => e = .returned (.string (mkS (digs s.reload.toNat))) ∧ Below w.heap.size w w') := hide (fun w => by
    have := rdigits_any s.reload.toNat (by omega) w
    rw [Int.toNat_of_nonneg hr0] at this
    exact this)
  have hne : s.ts ≠ [] := fun e => by
    have : allB s = true := hb
    rw [allB, e] at this
    simp at this
  have HLL : Hid (∀ k, k ≤ s.ts.length → (linesT s.ts k).length ≤ 12000) := hide (fun k hk => by
    have := part_len ⟨hr0, hr1⟩ hfit h8 k hk
    rw [partT] at this
    simp only [List.length_append] at this
    have h2 : (linesT s.ts k).length ≤ 14 + k * 1201 := by rw [linesT]; omega
    omega)
  have HTL : Hid (∀ k, k < s.ts.length → (taskT (s.ts.getD k task0)).length ≤ 1200) := hide (fun k hk => task_len (hfit k hk) (by omega))
  have HDL := hide (digs_short (n := s.reload.toNat) (by omega))
  have HTX : Hid (textS s = wReload ++ [32] ++ digs s.reload.toNat ++ [59, 10] ++ linesT s.ts s.ts.length) := hide (by simp [textS, linesT])
  obtain ⟨b, off, hao, ht⟩ := set_task hs hne
  have HIN := hide hs
  have HT := hide ht
  have HFIT := hide hfit
  have HCT := hide hT
  have HP := hide hP
  clear hu hb hs ht hfit hX hT hP
  obtain ⟨rl, ao, cap, ts⟩ := s
  simp only at hao h8 hlen hne h10 hr0 hr1
  subst hao
  go_enter Tryd.func6, Tryd.ntmps6
  rw [SetV.val]
  simp only
  go_wp2_with fail
  refine (unhide CA _ (set_bel (unhide HIN) ((Below.refl _ _).alloc (Nat.le_refl _) _))).mono ?_
  rintro e w1 ⟨rfl, bel⟩
  have B1 := hide bel
  clear bel CA
  go_wp2
  go_loopw [3, 4] (fun u i wr => ∃ k : Nat, k ≤ ts.length ∧ i = .int .i64 k ∧ u = .string (mkS (linesT ts k)) ∧ Below (w.alloc (.cells #[.int .i64 rl, .slice (some ⟨b, off, none⟩) ts.length cap] 24)).heap.size (w.alloc (.cells #[.int .i64 rl, .slice (some ⟨b, off, none⟩) ts.length cap] 24)) wr) (fun _ i _ => ts.length - (intOf i).toNat)
  case atStart => exact ⟨0, Nat.zero_le _, rfl, rfl, unhide B1⟩
  case round =>
    clear B1
    obtain ⟨k, hk, rfl, rfl, hbel⟩ := hrel
    obtain ⟨c0, c1⟩ := boxed2 hbel
    have B := hide hbel
    have B1 := hide (bel_box (Below.refl _ _) hbel)
    clear hbel
    by_cases hlt : k < ts.length
    · obtain ⟨t0, t1, t2, t3, t4, t5, t6, t7, t8⟩ := (unhide HT k hlt).1.bel (unhide B1)
      have IN := hide (unhide HT k hlt).2
      have CT1 := hide (unhide HCT (ts.getD k task0) k wr ((unhide HP).bel (unhide B1)) (task_bel (unhide IN) (unhide B1)) (unhide HFIT k hlt) (by omega))
      have hl1 : (linesT ts k ++ taskT (ts.getD k task0)).length ≤ 13200 := by have := unhide HLL k hk; have := unhide HTL k hlt; simp only [List.length_append] at *; omega
      obtain ⟨A1, hA1, eA1, sA1⟩ := join2 (linesT ts k) (taskT (ts.getD k task0)) hl1
      obtain ⟨A2, hA2, eA2, sA2⟩ := join2 (linesT ts k ++ taskT (ts.getD k task0)) [10] (n := 13201) (by rw [List.length_append]; simp only [List.length_cons, List.length_nil]; omega)
      have E2 := hide (eA2.trans (by rw [← lines_next ts k hlt]))
      rw [← eA1] at hA2
      have hsz1 : (mkS (linesT ts k)).size ≤ 12000 := by rw [mkS_long]; exact unhide HLL k hk
      have hsz2 : (mkS (taskT (ts.getD k task0))).size ≤ 1200 := by rw [mkS_long]; exact unhide HTL k hlt
      have hA2' : A1 ++ ⟨#[10]⟩ = A2 := hA2
      clear eA1 eA2 hl1 hA2
      generalize mkS (linesT ts k) = L1 at *
      generalize mkS (taskT (ts.getD k task0)) = T1 at *
      generalize ts.getD k task0 = t at *
      go_wp2_with fail
      refine (unhide CT1).mono ?_
      rintro e w2 ⟨rfl, bel⟩
      have BV := hide (below_on (unhide B) bel)
      clear bel
      go_wp2
      go_roundw
      case rel => exact ⟨k + 1, by omega, by go_num, by rw [unhide E2], unhide BV⟩
      case measure => simp [intOf]; omega
    · have e : k = ts.length := by omega
      subst e
      have hbox : SBox wr w.heap.size ⟨rl, some ⟨b, off, none⟩, cap, ts⟩ := ⟨c0, c1⟩
      have hd5 := unhide HDL
      have hll := unhide HLL ts.length (Nat.le_refl _)
      obtain ⟨A1, hA1, eA1, sA1⟩ := join2 (wReload ++ [32]) (digs rl.toNat) (n := 12) (by rw [List.length_append]; simp only [wReload, List.length_append, List.length_cons, List.length_nil]; omega)
      obtain ⟨A2, hA2, eA2, sA2⟩ := join2 (wReload ++ [32] ++ digs rl.toNat) [59, 10] (n := 14) (by rw [List.length_append, List.length_append]; simp only [wReload, List.length_append, List.length_cons, List.length_nil]; omega)
      obtain ⟨A3, hA3, eA3, sA3⟩ := join2 (wReload ++ [32] ++ digs rl.toNat ++ [59, 10]) (linesT ts ts.length) (n := 12014) (by rw [List.length_append, List.length_append, List.length_append]; simp only [wReload, List.length_append, List.length_cons, List.length_nil]; omega)
      rw [← eA1] at hA2
      rw [← eA2] at hA3
      have hTX : mkS (textS ⟨rl, some ⟨b, off, none⟩, cap, ts⟩) = A3 := by rw [eA3, unhide HTX]
      rw [hTX] at CX1
      have hA1' : (⟨#[114, 101, 108, 111, 97, 100, 32]⟩ : ByteArray) ++ mkS (digs rl.toNat) = A1 := hA1
      have hA2' : A1 ++ (⟨#[59, 10]⟩ : ByteArray) = A2 := hA2
      have hsd : (mkS (digs rl.toNat)).size ≤ 5 := by rw [mkS_long]; exact hd5
      have hsl : (mkS (linesT ts ts.length)).size ≤ 12000 := by rw [mkS_long]; exact hll
      clear hA1 hA2 eA1 eA2 eA3 hTX hd5 hll HTX HLL HTL HDL
      generalize mkS (digs rl.toNat) = D1 at *
      generalize mkS (linesT ts ts.length) = L1 at *
      have D0 := hide (unhide B1).drew
      go_wp2_with fail
      refine wp_region_held_drew (S := (fun w9 => SBox w9 w.heap.size ⟨rl, some ⟨b, off, none⟩, cap, ts⟩)) (by kernel_rfl) (hbox.drew) (fun hHeld => ?_)
      refine take_yes 0 30 (.agg #[.int .i64 rl, .slice (some ⟨b, off, none⟩) ts.length cap]) rfl rfl (by kernel_rfl) (by kernel_rfl) (by kernel_rfl) (fun _ _ _ h => h) rfl (by assumption) (by intro w9 hS9; obtain ⟨s0, s1⟩ := hS9; go_simp) ?_
      simp only [List.setIfInBounds_toArray, List.set_cons_zero, List.set_cons_succ]
      refine take_yes 2 32 (.pointer (some ⟨w.heap.size, 0, none⟩)) rfl rfl (by kernel_rfl) (by kernel_rfl) (by kernel_rfl) (fun _ _ _ h => h) rfl (by assumption) (by intro w9 hS9; obtain ⟨s0, s1⟩ := hS9; go_simp) ?_
      simp only [List.setIfInBounds_toArray, List.set_cons_zero, List.set_cons_succ]
      refine take_yes 3 33 (.int .i64 rl) rfl rfl (by kernel_rfl) (by kernel_rfl) (by kernel_rfl) (fun _ _ _ h => h) rfl (by assumption) (by intro w9 hS9; obtain ⟨s0, s1⟩ := hS9; go_simp) ?_
      simp only [List.setIfInBounds_toArray, List.set_cons_zero, List.set_cons_succ]
      refine take_yes 7 37 (.string L1) rfl rfl (by kernel_rfl) (by kernel_rfl) (by kernel_rfl) (fun _ _ _ h => h) rfl (by assumption) (by intro w9 hS9; obtain ⟨s0, s1⟩ := hS9; go_simp) ?_
      simp only [List.setIfInBounds_toArray, List.set_cons_zero, List.set_cons_succ]
      refine wpAnyH_ready (rs := [1]) (by kernel_rfl) (by decide) (AllReadyH.cons rfl (fun K hK => ?_) AllReadyH.nil)
      refine (if_pos rfl).mpr ?_
      go_wp2_with fail
      refine (unhide CX1 wr.drew (unhide D0) (set_bel (unhide HIN) (unhide D0))).mono ?_
      rintro e x1 ⟨rfl, bel⟩
      have N1 := hide (below_on (unhide D0) bel)
      refine hK.out _ _ (hHeld.bel bel) (fun hHeld => ?_)
      clear hK K bel
      refine wpAnyH_ready (rs := [4]) (by kernel_rfl) (by decide) (AllReadyH.cons rfl (fun K hK => ?_) AllReadyH.nil)
      refine (if_pos rfl).mpr ?_
      go_wp2_with fail
      refine (unhide CD x1).mono ?_
      rintro e x2 ⟨rfl, bel⟩
      have N2 := hide (below_on (unhide N1) bel)
      refine hK.out _ _ (hHeld.bel bel) (fun hHeld => ?_)
      clear hK K bel
      refine take_yes 5 35 (.string A1) rfl rfl (by kernel_rfl) (by kernel_rfl) (by kernel_rfl) (fun _ _ _ h => h) rfl (by assumption) (by intro w9 hS9; obtain ⟨s0, s1⟩ := hS9; go_simp; omega) ?_
      simp only [List.setIfInBounds_toArray, List.set_cons_zero, List.set_cons_succ]
      refine take_yes 6 36 (.string A2) rfl rfl (by kernel_rfl) (by kernel_rfl) (by kernel_rfl) (fun _ _ _ h => h) rfl (by assumption) (by intro w9 hS9; obtain ⟨s0, s1⟩ := hS9; go_simp; omega) ?_
      simp only [List.setIfInBounds_toArray, List.set_cons_zero, List.set_cons_succ]
      refine take_yes 8 38 (.string A3) rfl rfl (by kernel_rfl) (by kernel_rfl) (by kernel_rfl) (fun _ _ _ h => h) rfl (by assumption) (by intro w9 hS9; obtain ⟨s0, s1⟩ := hS9; go_simp; omega) ?_
      simp only [List.setIfInBounds_toArray, List.set_cons_zero, List.set_cons_succ]
      refine take_yes 9 39 (.bool true) rfl rfl (by kernel_rfl) (by kernel_rfl) (by kernel_rfl) (fun _ _ _ h => h) rfl (by assumption) (by intro w9 hS9; obtain ⟨s0, s1⟩ := hS9; go_simp) ?_
      simp only [List.setIfInBounds_toArray, List.set_cons_zero, List.set_cons_succ]
      refine take_yes 10 40 (.bool true) rfl rfl (by kernel_rfl) (by kernel_rfl) (by kernel_rfl) (fun _ _ _ h => h) rfl (by assumption) (by intro w9 hS9; obtain ⟨s0, s1⟩ := hS9; go_simp) ?_
      simp only [List.setIfInBounds_toArray, List.set_cons_zero, List.set_cons_succ]
      refine wpAnyH_ready (rs := [11]) (by kernel_rfl) (by decide) (AllReadyH.cons rfl (fun K hK => ?_) AllReadyH.nil)
      refine (if_pos rfl).mpr ?_
      go_wp2_with fail
      refine (unhide CK x2 (unhide N2)).mono ?_
      rintro e x3 ⟨rfl, bel⟩
      have N3 := hide (below_on (unhide N2) bel)
      refine hK.out _ _ (hHeld.bel bel) (fun hHeld => ?_)
      clear hK K bel
      refine take_yes 12 42 (.bool true) rfl rfl (by kernel_rfl) (by kernel_rfl) (by kernel_rfl) (fun _ _ _ h => h) rfl (by assumption) (by intro w9 hS9; obtain ⟨s0, s1⟩ := hS9; go_simp) ?_
      simp only [List.setIfInBounds_toArray, List.set_cons_zero, List.set_cons_succ]
      refine take_yes 13 2 (.bool true) rfl rfl (by kernel_rfl) (by kernel_rfl) (by kernel_rfl) (fun _ _ _ h => h) rfl (by assumption) (by intro w9 hS9; obtain ⟨s0, s1⟩ := hS9; go_simp) ?_
      simp only [List.setIfInBounds_toArray, List.set_cons_zero, List.set_cons_succ]
      refine wpAnyH_done (by kernel_rfl) ?_ _
      go_wp2
      go_ret
      exact ⟨rfl, unhide N3⟩
end Go.Proofs.YtlfmnnngadnkpaaDoor.Lex
