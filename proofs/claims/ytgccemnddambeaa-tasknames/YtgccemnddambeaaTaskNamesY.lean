/- The law of chapter 5 of names, whole. -/
import Derived.Test.YtgccemnddambeaaTaskNamesW
namespace Go.Proofs.Ytgccemnddambeaa.Lex
open Go.ChangeShapes Go.WideShapes Go.RowKit

theorem named_in {w w2 w3 : World} {s : SetV} {rl' : Int} {g cap' : Nat} {L : List TaskV} {i k : Nat} (hs : SetIn w s) (hput : PutOf w w2 s ⟨rl', some ⟨g, 0, none⟩, cap', L⟩) (hb : Below w2.heap.size w2 w3) (hi : i < L.length) (hk : k < L.length) :
    SetIn (w3.setCell ⟨g, i * 9, none⟩ (.string (L.getD k task0).name)) ⟨rl', some ⟨g, 0, none⟩, cap', named L i k⟩ := by
  have hin := put_in hs hput
  have mem : ∀ j, j < L.length → L.getD j task0 ∈ L := fun j hj => by rw [List.getD_eq_getElem?_getD, List.getElem?_eq_getElem hj]; exact List.getElem_mem _
  have tin : ∀ j, j < L.length → TaskIn w2 (L.getD j task0) := fun j hj => hin.each _ (mem j hj)
  have row := own_belG hput.row hb
  simp only at row
  have own : ∀ j, j < L.length → OwnTask (w3.setCell ⟨g, i * 9, none⟩ (.string (L.getD k task0).name)) (w.heap.size + 3) (L.getD j task0) := fun j hj => by
    have o : OwnTask w3 (w.heap.size + 3) (L.getD j task0) := own_belG (hput.each _ (mem j hj)) hb
    refine ownsRow_setCell_other o ?_ _
    rcases own_apart (by decide) o row with h | h
    · rw [h]; simp
    · exact h
  have tin' : ∀ j, j < L.length → TaskIn (w3.setCell ⟨g, i * 9, none⟩ (.string (L.getD k task0).name)) (L.getD j task0) := fun j hj => { tin j hj with regs := regs_own (own j hj) }
  refine rows_in (B := w.heap.size + 3) hin.reload ?_ ?_ (fun t ht => ?_)
  · simp only [named_len]; exact hin.len
  · simp only [named_len, named_flat L hi]
    exact (row.stored (i * 9) _).1
  · obtain ⟨j, hj, rfl⟩ := List.getElem_of_mem ht
    have hl : j < L.length := by have h := hj; simp only [named_len] at h; exact h
    have e1 : (named L i k)[j]'(by rw [named_len]; exact hl) = (named L i k).getD j task0 := by simp [List.getD, named_len, hl]
    simp only
    rw [e1]
    by_cases e : j = i
    · subst e
      rw [named_at L hl]
      exact ⟨(tin' j hl).regs, (tin j hl).nil, (tin j hl).len, (tin k hk).name, (tin j hl).T, (tin j hl).D, (tin j hl).mode, (tin j hl).Q, (tin j hl).theta, (tin j hl).ecb, (tin j hl).ucb, (tin j hl).each⟩
    · rw [named_off L e]
      exact tin' j hl
set_option maxHeartbeats 6400000 in
theorem tnames_yes (hI : CIs) (hK : CWork) (hA : CAll) (hS : CSame) (s : SetV) (i k : Nat) (w : World) (hs : SetIn w s) (h10 : s.ts.length ≤ 10) (hall : allB s = true) (hi : i < s.ts.length) (hk : k < s.ts.length) : Calls Try.prog 8 #[s.val, .int .i64 i, .int .i64 k] w fun e w' => e = .returned (.bool true) ∧ Below w.heap.size w w' := by
  have CK := hide (fun w => tknown_any hI hK w)
  have CA := hide (fun w h => rall_any s w h)
  rw [hall] at CA
  have HA := hide hA
  have HS := hide hS
  have HALL := hide hall
  clear hI hK hA hS hall
  have h10' : ¬ (10 : Int) < s.ts.length := by omega
  have hi' : (i : Int) < s.ts.length := by omega
  have hk' : (k : Int) < s.ts.length := by omega
  go_enter Try.func8, Try.ntmps8
  rw [SetV.val]
  go_wp2_with fail
  refine (unhide CA _ (set_bel hs ((Below.refl _ _).alloc (Nat.le_refl _) _))).mono ?_
  rintro e w1 ⟨rfl, bel⟩
  have B1 := hide (bel_box (Below.refl _ _) bel)
  have X1 := hide ((sbox_new w s 31).bel bel)
  obtain ⟨c0, c1⟩ := unhide X1
  clear bel
  go_wp2_with fail
  refine (rput_any s w1 (set_bel hs (unhide B1)) (by omega)).mono ?_
  rintro e w2 ⟨s', rfl, hput⟩
  obtain ⟨rl', ao', cap', L⟩ := s'
  have hL : L.length = s.ts.length := hput.len
  obtain ⟨g, cur, rfl, hgB, hgh, hgc⟩ : ∃ g cur, ao' = some ⟨g, 0, none⟩ ∧ w1.heap.size + 3 ≤ g ∧ w2.heap[g]? = some (.cells cur 25 (0, 0)) ∧ L.length ≤ cap' := by
    rcases hput.row.2 with ⟨-, h0⟩ | ⟨g, c, cur, e, h1, h2, h3, -⟩
    · simp only at h0; omega
    · exact ⟨g, cur, (Value.slice.inj e).1, h1, h2, by rw [show cap' = c from (Value.slice.inj e).2.2]; exact h3⟩
  have hgl : g < w2.heap.size := by
    rcases Nat.lt_or_ge g w2.heap.size with l | l
    · exact l
    · rw [Array.getElem?_eq_none l] at hgh; cases hgh
  have HPUT := hide hput
  have HIN := hide hs
  have HL := hide hL
  have HC1 := hide (And.intro c0 c1)
  have iL : (i : Int) < L.length := by omega
  have kL : (k : Int) < L.length := by omega
  have hrow := hput.row
  simp only at hrow
  have name_at := hrow.cellAt (k * 9) (by omega)
  rw [show k * 9 = k * 9 + 0 from rfl, task_flat L k (by omega) 0 (by omega)] at name_at
  have hnm : w2.cell? ⟨g, k * 9, none⟩ = some (.string (L.getD k task0).name) := name_at
  obtain ⟨nm, hnmE⟩ : ∃ nm, nm = (L.getD k task0).name := ⟨_, rfl⟩
  rw [← hnmE] at hnm
  have HNE := hide hnmE
  obtain ⟨n, hn⟩ : ∃ n, n = L.length := ⟨_, rfl⟩
  have HN := hide hn
  have name_i := hrow.cellAt (i * 9) (by omega)
  rw [show i * 9 = i * 9 + 0 from rfl, task_flat L i (by omega) 0 (by omega)] at name_i
  obtain ⟨nm0, hni⟩ : ∃ nm0, w2.cell? ⟨g, i * 9, none⟩ = some (.string nm0) := ⟨_, name_i⟩
  rw [SetV.val]
  simp only
  rw [← hn]
  rw [← hn] at iL kL
  clear hput hs hL name_at name_i hrow c0 c1 hnmE hn
  have hne : g ≠ w2.heap.size := Nat.ne_of_lt hgl
  have BW : Hid (Below w2.heap.size w2 (w2.alloc (.cells #[.int .i64 rl', .slice (some ⟨g, 0, none⟩) n cap'] 31)).drew) := ((Below.refl _ _).alloc (Nat.le_refl _) _).drew
  have p1 : (w2.alloc (.cells #[.int .i64 rl', .slice (some ⟨g, 0, none⟩) n cap'] 31)).drew.cell? ⟨w2.heap.size, 1, none⟩ = some (.slice (some ⟨g, 0, none⟩) n cap') := by
    show (w2.alloc (.cells #[.int .i64 rl', .slice (some ⟨g, 0, none⟩) n cap'] 31)).cell? ⟨w2.heap.size, 1, none⟩ = _
    simp
  have p0 : (w2.alloc (.cells #[.int .i64 rl', .slice (some ⟨g, 0, none⟩) n cap'] 31)).drew.cell? ⟨w2.heap.size, 0, none⟩ = some (.int .i64 rl') := by
    show (w2.alloc (.cells #[.int .i64 rl', .slice (some ⟨g, 0, none⟩) n cap'] 31)).cell? ⟨w2.heap.size, 0, none⟩ = _
    simp
  have p2 := cell_bel' hnm (unhide BW)
  have p3 := cell_bel' hni (unhide BW)
  have hgh3 : (w2.alloc (.cells #[.int .i64 rl', .slice (some ⟨g, 0, none⟩) n cap'] 31)).drew.heap[g]? = some (.cells cur 25 (0, 0)) := by rw [(unhide BW).block g hgl]; exact hgh
  have fz : (w2.alloc (.cells #[.int .i64 rl', .slice (some ⟨g, 0, none⟩) n cap'] 31)).drew.frozen? ⟨g, i * 9, none⟩ = false := frozen_block hgh3
  go_wp2_with fail
  refine wp_region_held_drew (S := fun w9 => w9.cell? ⟨w2.heap.size, 1, none⟩ = some (.slice (some ⟨g, 0, none⟩) n cap') ∧ w9.cell? ⟨g, k * 9, none⟩ = some (.string nm)) (by kernel_rfl) ⟨p1, p2⟩ (fun hHeld => ?_)
  clear hnm hni
  generalize hw3 : (w2.alloc (.cells #[.int .i64 rl', .slice (some ⟨g, 0, none⟩) n cap'] 31)).drew = w3 at *
  clear hw3
  refine take_yes 0 41 (.pointer (some ⟨w2.heap.size, 1, none⟩)) rfl rfl (by kernel_rfl) (by kernel_rfl) (by kernel_rfl) (fun _ _ _ h => h) rfl (by assumption) (by intro w9 hS9; obtain ⟨s0, s1⟩ := hS9; go_simp) ?_
  simp only [List.setIfInBounds_toArray, List.set_cons_zero, List.set_cons_succ]
  refine take_yes 1 42 (.slice (some ⟨g, 0, none⟩) n cap') rfl rfl (by kernel_rfl) (by kernel_rfl) (by kernel_rfl) (fun _ _ _ h => h) rfl (by assumption) (by intro w9 hS9; obtain ⟨s0, s1⟩ := hS9; go_simp) ?_
  simp only [List.setIfInBounds_toArray, List.set_cons_zero, List.set_cons_succ]
  refine take_yes 2 43 (.int .i64 i) rfl rfl (by kernel_rfl) (by kernel_rfl) (by kernel_rfl) (fun _ _ _ h => h) rfl (by assumption) (by intro w9 hS9; obtain ⟨s0, s1⟩ := hS9; go_simp) ?_
  simp only [List.setIfInBounds_toArray, List.set_cons_zero, List.set_cons_succ]
  refine take_yes 3 44 (.pointer (some ⟨w2.heap.size, 1, none⟩)) rfl rfl (by kernel_rfl) (by kernel_rfl) (by kernel_rfl) (fun _ _ _ h => h) rfl (by assumption) (by intro w9 hS9; obtain ⟨s0, s1⟩ := hS9; go_simp) ?_
  simp only [List.setIfInBounds_toArray, List.set_cons_zero, List.set_cons_succ]
  refine take_yes 4 45 (.slice (some ⟨g, 0, none⟩) n cap') rfl rfl (by kernel_rfl) (by kernel_rfl) (by kernel_rfl) (fun _ _ _ h => h) rfl (by assumption) (by intro w9 hS9; obtain ⟨s0, s1⟩ := hS9; go_simp) ?_
  simp only [List.setIfInBounds_toArray, List.set_cons_zero, List.set_cons_succ]
  refine take_yes 5 46 (.int .i64 k) rfl rfl (by kernel_rfl) (by kernel_rfl) (by kernel_rfl) (fun _ _ _ h => h) rfl (by assumption) (by intro w9 hS9; obtain ⟨s0, s1⟩ := hS9; go_simp) ?_
  simp only [List.setIfInBounds_toArray, List.set_cons_zero, List.set_cons_succ]
  refine take_yes 6 47 (.pointer (some ⟨g, k * 9, none⟩)) rfl rfl (by kernel_rfl) (by kernel_rfl) (by kernel_rfl) (fun _ _ _ h => h) rfl (by assumption) (by intro w9 hS9; obtain ⟨s0, s1⟩ := hS9; go_simp) ?_
  simp only [List.setIfInBounds_toArray, List.set_cons_zero, List.set_cons_succ]
  refine take_yes 7 48 (.pointer (some ⟨g, k * 9, none⟩)) rfl rfl (by kernel_rfl) (by kernel_rfl) (by kernel_rfl) (fun _ _ _ h => h) rfl (by assumption) (by intro w9 hS9; obtain ⟨s0, s1⟩ := hS9; go_simp) ?_
  simp only [List.setIfInBounds_toArray, List.set_cons_zero, List.set_cons_succ]
  refine take_yes 8 49 (.string nm) rfl rfl (by kernel_rfl) (by kernel_rfl) (by kernel_rfl) (fun _ _ _ h => h) rfl (by assumption) (by intro w9 hS9; obtain ⟨s0, s1⟩ := hS9; go_simp) ?_
  simp only [List.setIfInBounds_toArray, List.set_cons_zero, List.set_cons_succ]
  refine take_yes 9 50 (.pointer (some ⟨g, i * 9, none⟩)) rfl rfl (by kernel_rfl) (by kernel_rfl) (by kernel_rfl) (fun _ _ _ h => h) rfl (by assumption) (by intro w9 hS9; obtain ⟨s0, s1⟩ := hS9; go_simp) ?_
  simp only [List.setIfInBounds_toArray, List.set_cons_zero, List.set_cons_succ]
  refine take_yes 10 51 (.pointer (some ⟨g, i * 9, none⟩)) rfl rfl (by kernel_rfl) (by kernel_rfl) (by kernel_rfl) (fun _ _ _ h => h) rfl (by assumption) (by intro w9 hS9; obtain ⟨s0, s1⟩ := hS9; go_simp) ?_
  simp only [List.setIfInBounds_toArray, List.set_cons_zero, List.set_cons_succ]
  refine wpAnyH_ready (rs := [11]) (by kernel_rfl) (by decide) (AllReadyH.cons rfl (fun K hK => ?_) AllReadyH.nil)
  refine (if_pos rfl).mpr ?_
  go_wp2_with fail
  have q2 : (w3.setCell ⟨g, i * 9, none⟩ (.string nm)).cell? ⟨g, k * 9, none⟩ = some (.string nm) := by
    rw [cell_block (block_set hgh3), Array.getElem?_setIfInBounds]
    rw [cell_block hgh3] at p2 p3
    split
    · rename_i e
      rw [if_pos (by
        rcases Nat.lt_or_ge (i * 9) cur.size with l | l
        · exact l
        · rw [Array.getElem?_eq_none l] at p3; cases p3)]
    · exact p2
  have q1 : (w3.setCell ⟨g, i * 9, none⟩ (.string nm)).cell? ⟨w2.heap.size, 1, none⟩ = some (.slice (some ⟨g, 0, none⟩) n cap') := by
    rw [World.cell?_setCell_far _ _ _ _ (fun e => hne e)]; exact p1
  have q0 : (w3.setCell ⟨g, i * 9, none⟩ (.string nm)).cell? ⟨w2.heap.size, 0, none⟩ = some (.int .i64 rl') := by
    rw [World.cell?_setCell_far _ _ _ _ (fun e => hne e)]; exact p0
  have B3 := hide ((below_on (unhide B1) (unhide HPUT).below).trans ((unhide BW).mono (below_on (unhide B1) (unhide HPUT).below).size))
  have B4 := hide ((unhide B3).setCell (p := ⟨g, i * 9, none⟩) (by have := (unhide B1).size; show w.heap.size ≤ g; omega) (.string nm))
  have B4' := hide (((unhide HPUT).below.trans ((unhide BW).mono (unhide HPUT).below.size)).setCell (p := ⟨g, i * 9, none⟩) (by show w1.heap.size ≤ g; omega) (.string nm))
  have X4 := hide ((unhide X1).bel (unhide B4'))
  have SIN : Hid (SetIn (w3.setCell ⟨g, i * 9, none⟩ (.string nm)) ⟨rl', some ⟨g, 0, none⟩, cap', named L i k⟩) := by
    have := named_in (i := i) (k := k) (set_bel (unhide HIN) (unhide B1)) (unhide HPUT) (unhide BW) (by rw [unhide HL]; exact hi) (by rw [unhide HL]; exact hk)
    rw [← unhide HNE] at this
    exact this
  obtain ⟨q, hq⟩ : ∃ q, ((i : Int) == (k : Int)) = q := ⟨_, rfl⟩
  have hq' : (i == k) = q := by rw [← hq, Bool.eq_iff_iff]; simp; omega
  have HA' : Hid (∀ w, SetIn w ⟨rl', some ⟨g, 0, none⟩, cap', named L i k⟩ → Calls Try.prog 14 #[.agg #[.int .i64 rl', .slice (some ⟨g, 0, none⟩) n cap']] w fun e w' => e = .returned (.bool q) ∧ Below w.heap.size w w') := fun w h => by
    have c := unhide HA ⟨rl', some ⟨g, 0, none⟩, cap', named L i k⟩ w h (by simp only [named_len]; have := unhide HL; omega)
    rw [show allB ⟨rl', some ⟨g, 0, none⟩, cap', named L i k⟩ = q from (names_all (unhide HPUT) (unhide HALL) hi hk).trans hq'] at c
    rw [show SetV.val ⟨rl', some ⟨g, 0, none⟩, cap', named L i k⟩ = .agg #[.int .i64 rl', .slice (some ⟨g, 0, none⟩) n cap'] by rw [SetV.val]; simp only [named_len]; rw [unhide HN]] at c
    exact c
  have HS' : Hid (∀ w, SetIn w ⟨rl', some ⟨g, 0, none⟩, cap', named L i k⟩ → SetIn w s → Calls Try.prog 16 #[.agg #[.int .i64 rl', .slice (some ⟨g, 0, none⟩) n cap'], s.val] w fun e w' => e = .returned (.bool q) ∧ Below w.heap.size w w') := fun w h h2 => by
    have c := unhide HS ⟨rl', some ⟨g, 0, none⟩, cap', named L i k⟩ s w h h2 (by simp only [named_len]; have := unhide HL; omega) (by omega)
    rw [show sameB ⟨rl', some ⟨g, 0, none⟩, cap', named L i k⟩ s = q from (names_same (unhide HPUT) (unhide HALL) hi hk).trans hq'] at c
    rw [show SetV.val ⟨rl', some ⟨g, 0, none⟩, cap', named L i k⟩ = .agg #[.int .i64 rl', .slice (some ⟨g, 0, none⟩) n cap'] by rw [SetV.val]; simp only [named_len]; rw [unhide HN]] at c
    exact c
  refine hK.out _ _ ⟨q1, q2⟩ (fun hHeld => ?_)
  clear hK K hHeld q2 p0 p1 p2 p3 fz hgh3 hgh hq'
  refine wpAnyH_done (by kernel_rfl) ?_ _
  generalize w3.setCell ⟨g, i * 9, none⟩ (.string nm) = w4 at *
  obtain ⟨c0, c1⟩ := unhide X4
  have X5 : Hid (SBox w4 w2.heap.size ⟨rl', some ⟨g, 0, none⟩, cap', L⟩) := ⟨q0, by rw [← unhide HN]; exact q1⟩
  go_wp2_with fail
  refine (unhide HA' _ (unhide SIN)).mono ?_
  rintro e w5 ⟨rfl, bel⟩
  have B5 := hide (below_on (unhide B4) bel)
  have SIN5 := hide (set_bel (unhide SIN) bel)
  have X6 := hide ((unhide X4).bel bel)
  have X7 := hide ((unhide X5).bel bel)
  clear bel c0 c1 q0 q1
  obtain ⟨c0, c1⟩ := unhide X6
  obtain ⟨q0, q1⟩ := unhide X7
  simp only at q0 q1
  rw [← unhide HN] at q1
  go_wp2_with fail
  refine (unhide HS' _ (unhide SIN5) (set_bel (unhide HIN) (unhide B5))).mono ?_
  rintro e w6 ⟨rfl, bel⟩
  have B6 := hide (below_on (unhide B5) bel)
  clear bel c0 c1 q0 q1
  go_wp2_with fail
  refine (unhide CK _).mono ?_
  rintro e w7 ⟨rfl, bel⟩
  have B7 := hide (below_on (unhide B6) bel)
  clear bel
  go_wp2
  go_ret
  exact ⟨rfl, unhide B7⟩
theorem tnames_law (hI : CIs) (hK : CWork) (hA : CAll) (hS : CSame) (s : SetV) (i k : Int) (w : World) (hs : SetIn w s) : Calls Try.prog 8 #[s.val, .int .i64 i, .int .i64 k] w fun e w' => e = .returned (.bool true) ∧ Below w.heap.size w w' := by
  by_cases h : (10 : Int) < s.ts.length ∨ allB s = false ∨ i < 0 ∨ (s.ts.length : Int) ≤ i ∨ k < 0 ∨ (s.ts.length : Int) ≤ k
  · exact tnames_no s i k w hs h
  · simp only [not_or] at h
    obtain ⟨h0, h1, h2, h3, h4, h5⟩ := h
    obtain ⟨i', rfl⟩ := Int.eq_ofNat_of_zero_le (show 0 ≤ i by omega)
    obtain ⟨k', rfl⟩ := Int.eq_ofNat_of_zero_le (show 0 ≤ k by omega)
    exact tnames_yes hI hK hA hS s i' k' w hs (by omega) (by simpa using h1) (by omega) (by omega)
end Go.Proofs.Ytgccemnddambeaa.Lex
