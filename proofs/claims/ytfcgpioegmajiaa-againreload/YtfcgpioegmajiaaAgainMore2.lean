/- The law of chapter 8 of more sets that are needed again, over what package again answers. -/
import Derived.Test.YtfcgpioegmajiaaAgainMoreP
import Derived.Test.YtfcgpioegmajiaaTaskNamesP
namespace Go.Proofs.Ytfcgpioegmajiaa.Lex
open Go.ChangeShapes Go.WideShapes Go.RowKit

structure TwoBox (w : World) (g h : Nat) (a b a' b' : Value) : Prop where
  c0 : w.cell? ⟨g, 0, none⟩ = some a
  c1 : w.cell? ⟨g, 1, none⟩ = some b
  d0 : w.cell? ⟨h, 0, none⟩ = some a'
  d1 : w.cell? ⟨h, 1, none⟩ = some b'
theorem TwoBox.bel {w w' : World} {g h : Nat} {a b a' b' : Value} (x : TwoBox w g h a b a' b') (hb : Below w.heap.size w w') : TwoBox w' g h a b a' b' := ⟨cell_bel' x.c0 hb, cell_bel' x.c1 hb, cell_bel' x.d0 hb, cell_bel' x.d1 hb⟩
theorem TwoBox.drew {w : World} {g h : Nat} {a b a' b' : Value} (x : TwoBox w g h a b a' b') : TwoBox w.drew g h a b a' b' := ⟨x.c0, x.c1, x.d0, x.d1⟩
theorem amore_no (s : SetV) (k m : Int) (w : World) (hs : SetIn w s) (h : (10 : Int) < s.ts.length ∨ allB s = false ∨ k < 0 ∨ (s.ts.length : Int) ≤ k) : Calls Try.prog 5 #[s.val, .int .i64 k, .int .u64 m] w fun e w' => e = .returned (.bool true) ∧ Below w.heap.size w w' := by
  have hlen := hs.len
  by_cases h10 : (10 : Int) < s.ts.length
  · clear h
    go_enter Try.func5, Try.ntmps5
    rw [SetV.val]
    go_wp2
    go_ret
    exact ⟨rfl, (Below.refl _ _).alloc (Nat.le_refl _) _⟩
  have CA := hide (fun w h => rall_any s w h)
  cases hb : allB s
  · rw [hb] at CA
    clear hb h
    go_enter Try.func5, Try.ntmps5
    rw [SetV.val]
    go_wp2_with fail
    refine (unhide CA _ (set_bel hs ((Below.refl _ _).alloc (Nat.le_refl _) _))).mono ?_
    rintro e w1 ⟨rfl, bel⟩
    have B1 := hide (bel_box (Below.refl _ _) bel)
    clear bel
    go_wp2
    go_ret
    exact ⟨rfl, unhide B1⟩
  rw [hb] at CA
  by_cases h0 : k < 0
  · clear hb h
    go_enter Try.func5, Try.ntmps5
    rw [SetV.val]
    go_wp2_with fail
    refine (unhide CA _ (set_bel hs ((Below.refl _ _).alloc (Nat.le_refl _) _))).mono ?_
    rintro e w1 ⟨rfl, bel⟩
    have B1 := hide (bel_box (Below.refl _ _) bel)
    clear bel
    go_wp2
    go_ret
    exact ⟨rfl, unhide B1⟩
  have h1 : (s.ts.length : Int) ≤ k := by
    rcases h with h | h | h | h
    · exact absurd h h10
    · rw [hb] at h; cases h
    · exact absurd h h0
    · exact h
  clear hb h
  go_enter Try.func5, Try.ntmps5
  rw [SetV.val]
  go_wp2_with fail
  refine (unhide CA _ (set_bel hs ((Below.refl _ _).alloc (Nat.le_refl _) _))).mono ?_
  rintro e w1 ⟨rfl, bel⟩
  have B1 := hide (bel_box (Below.refl _ _) bel)
  obtain ⟨c0, c1⟩ := (sbox_new w s 24).bel bel
  clear bel
  go_wp2
  go_ret
  exact ⟨rfl, unhide B1⟩
set_option maxHeartbeats 6400000 in
theorem amore_yes (hO : COwn) (hM : CMade) (s : SetV) (k m : Nat) (w : World) (hs : SetIn w s) (hm : m < 18446744073709551616) (h10 : s.ts.length ≤ 10) (hall : allB s = true) (hk : k < s.ts.length) : Calls Try.prog 5 #[s.val, .int .i64 k, .int .u64 m] w fun e w' => e = .returned (.bool true) ∧ Below w.heap.size w w' := by
  have CK := hide (fun w => gknown_any hO hM w)
  have CA := hide (fun w h => rall_any s w h)
  rw [hall] at CA
  have HO := hide hO
  have HM := hide hM
  have HALL := hide hall
  have HR := hide (all_fits hall (fun t ht => ⟨(hs.each t ht).ecb, (hs.each t ht).ucb⟩)).1
  clear hO hM hall
  have h10' : ¬ (10 : Int) < s.ts.length := by omega
  have hk' : (k : Int) < s.ts.length := by omega
  go_enter Try.func5, Try.ntmps5
  rw [SetV.val]
  go_wp2_with fail
  refine (unhide CA _ (set_bel hs ((Below.refl _ _).alloc (Nat.le_refl _) _))).mono ?_
  rintro e w1 ⟨rfl, bel⟩
  have B1 := hide (bel_box (Below.refl _ _) bel)
  have X1 := hide ((sbox_new w s 24).bel bel)
  obtain ⟨c0, c1⟩ := unhide X1
  clear bel CA
  go_wp2_with fail
  refine (rput_any s w1 (set_bel hs (unhide B1)) (by omega)).mono ?_
  rintro e w2 ⟨s', rfl, hput⟩
  obtain ⟨rl', ao', cap', L⟩ := s'
  have hL : L.length = s.ts.length := hput.len
  obtain ⟨g, cur, rfl, hgB, hgh, hgc⟩ : ∃ g cur, ao' = some ⟨g, 0, none⟩ ∧ w1.heap.size + 3 ≤ g ∧ w2.heap[g]? = some (.cells cur 37 (0, 0)) ∧ L.length ≤ cap' := by
    rcases hput.row.2 with ⟨-, h0⟩ | ⟨g, c, cur, e, h1, h2, h3, -⟩
    · simp only at h0; omega
    · exact ⟨g, cur, (Value.slice.inj e).1, h1, h2, by rw [show cap' = c from (Value.slice.inj e).2.2]; exact h3⟩
  have hgl : g < w2.heap.size := by
    rcases Nat.lt_or_ge g w2.heap.size with l | l
    · exact l
    · rw [Array.getElem?_eq_none l] at hgh; cases hgh
  have hkL : k < L.length := by omega
  have hin2 := put_in (set_bel hs (unhide B1)) hput
  have memk : L.getD k task0 ∈ L := by rw [List.getD_eq_getElem?_getD, List.getElem?_eq_getElem hkL]; exact List.getElem_mem _
  have tk := hin2.each _ memk
  obtain ⟨u, hu, hu1⟩ := u64_nat tk.ucb
  obtain ⟨e, he, he1⟩ := u64_nat tk.ecb
  have hrow := hput.row
  simp only at hrow
  have au := hrow.cellAt (k * 9 + 8) (by omega)
  rw [task_flat L k hkL 8 (by omega)] at au
  have hau : w2.cell? ⟨g, k * 9 + 8, none⟩ = some (.int .u64 u) := by rw [au, ← hu]; rfl
  have ae := hrow.cellAt (k * 9 + 7) (by omega)
  rw [task_flat L k hkL 7 (by omega)] at ae
  have hae : w2.cell? ⟨g, k * 9 + 7, none⟩ = some (.int .u64 e) := by rw [ae, ← he]; rfl
  have hall' : allB ⟨rl', some ⟨g, 0, none⟩, cap', L⟩ = true := (put_all hput).trans (unhide HALL)
  have hmask : maskB u e = true := by
    have h1 := (all_fits hall' (fun t ht => ⟨(hin2.each t ht).ecb, (hin2.each t ht).ucb⟩)).2.2.2 k hkL
    have h2 := h1.is
    simp only [isB, Bool.and_eq_true] at h2
    have h3 := h2.2.2.2.1
    rw [hu, he] at h3
    exact h3
  have hme : m &&& e < 18446744073709551616 := Nat.lt_of_le_of_lt Nat.and_le_left hm
  have hand := bits_and_u64_nat m e hm he1
  have hor := bits_or_u64_nat u (m &&& e) hu1 hme
  have hvlt : u ||| (m &&& e) < 18446744073709551616 := Nat.or_lt_two_pow (n := 64) hu1 hme
  have hallX : allB ⟨rl', some ⟨g, 0, none⟩, cap', moreT L k ((u ||| (m &&& e) : Nat) : Int)⟩ = true := more_all (s := ⟨rl', some ⟨g, 0, none⟩, cap', L⟩) hall' hkL (by show maskB _ (L.getD k task0).ecb = true; rw [he]; exact mask_more hu1 he1 hm hmask)
  have hcopy : ∀ j, j < s.ts.length → (L.getD j task0).ecb = (s.ts.getD j task0).ecb ∧ (L.getD j task0).ucb = (s.ts.getD j task0).ucb := fun j hj => by
    obtain ⟨a, c, e⟩ := hput.copy j hj
    simp only at e
    rw [e]; exact ⟨rfl, rfl⟩
  have hgrow : ∀ i : Int, madeZ s i ≤ madeZ ⟨rl', some ⟨g, 0, none⟩, cap', moreT L k ((u ||| (m &&& e) : Nat) : Int)⟩ i ∧ ownZ s i ≤ ownZ ⟨rl', some ⟨g, 0, none⟩, cap', moreT L k ((u ||| (m &&& e) : Nat) : Int)⟩ i := fun i => by
    refine made_more (x := ⟨rl', some ⟨g, 0, none⟩, cap', moreT L k ((u ||| (m &&& e) : Nat) : Int)⟩) hput.reload (unhide HR).1 (by simp only [more_len]; omega) (fun j => ?_) (fun j hj => ?_) i
    · simp only
      by_cases ej : j = k
      · subst ej; rw [more_at _ _ hkL]; exact (hcopy j hk).1
      · rw [more_off _ _ ej]
        rcases Nat.lt_or_ge j s.ts.length with h | h
        · exact (hcopy j h).1
        · simp [List.getD, List.getElem?_eq_none (show L.length ≤ j by omega), List.getElem?_eq_none h]
    · simp only
      by_cases ej : j = k
      · subst ej
        refine ⟨m &&& e, ?_⟩
        rw [more_at _ _ hkL, ← (hcopy j hk).2, hu]
        simp
      · refine ⟨0, ?_⟩
        rw [more_off _ _ ej, (hcopy j hj).2]; simp
  have HPUT := hide hput
  have HIN := hide hs
  have HL := hide hL
  have HGROW := hide hgrow
  have HALLX := hide hallX
  obtain ⟨n, hn⟩ : ∃ n, n = L.length := ⟨_, rfl⟩
  have HN := hide hn
  have kL : (k : Int) < n := by omega
  have hk0 : (0 : Int) ≤ (k : Int) := by omega
  have hn10 : n ≤ 10 := by omega
  rw [SetV.val]
  simp only
  rw [← hn]
  have hne : g ≠ w2.heap.size := Nat.ne_of_lt hgl
  have hw2 : w.heap.size < w2.heap.size := by have := hput.below.size; have := World.block_lt_of_cell? w1 _ c0; simp only at this; omega
  have BW : Hid (Below w2.heap.size w2 (w2.alloc (.cells #[.int .i64 rl', .slice (some ⟨g, 0, none⟩) n cap'] 24)).drew) := ((Below.refl _ _).alloc (Nat.le_refl _) _).drew
  have p1 : (w2.alloc (.cells #[.int .i64 rl', .slice (some ⟨g, 0, none⟩) n cap'] 24)).drew.cell? ⟨w2.heap.size, 1, none⟩ = some (.slice (some ⟨g, 0, none⟩) n cap') := by
    show (w2.alloc (.cells #[.int .i64 rl', .slice (some ⟨g, 0, none⟩) n cap'] 24)).cell? ⟨w2.heap.size, 1, none⟩ = _
    simp
  have p0 : (w2.alloc (.cells #[.int .i64 rl', .slice (some ⟨g, 0, none⟩) n cap'] 24)).drew.cell? ⟨w2.heap.size, 0, none⟩ = some (.int .i64 rl') := by
    show (w2.alloc (.cells #[.int .i64 rl', .slice (some ⟨g, 0, none⟩) n cap'] 24)).cell? ⟨w2.heap.size, 0, none⟩ = _
    simp
  have pu := cell_bel' hau (unhide BW)
  have pe := cell_bel' hae (unhide BW)
  have hgh3 : (w2.alloc (.cells #[.int .i64 rl', .slice (some ⟨g, 0, none⟩) n cap'] 24)).drew.heap[g]? = some (.cells cur 37 (0, 0)) := by rw [(unhide BW).block g hgl]; exact hgh
  have fz : (w2.alloc (.cells #[.int .i64 rl', .slice (some ⟨g, 0, none⟩) n cap'] 24)).drew.frozen? ⟨g, k * 9 + 8, none⟩ = false := frozen_block hgh3
  clear hput hs hL hrow au ae hu he tk memk hin2 hall' hmask hcopy hgrow hallX hn hme hau hae c0 c1 hkL
  generalize hv : u ||| (m &&& e) = v at *
  generalize hmeq : m &&& e = me at *
  clear hv hmeq
  go_wp2_with fail
  refine wp_region_held_drew (S := fun w9 => w9.cell? ⟨w2.heap.size, 1, none⟩ = some (.slice (some ⟨g, 0, none⟩) n cap') ∧ w9.cell? ⟨g, k * 9 + 7, none⟩ = some (.int .u64 e)) (by kernel_rfl) ⟨p1, pe⟩ (fun hHeld => ?_)
  generalize hw3 : (w2.alloc (.cells #[.int .i64 rl', .slice (some ⟨g, 0, none⟩) n cap'] 24)).drew = w3 at *
  clear hw3
  refine take_yes 0 31 (.pointer (some ⟨w2.heap.size, 1, none⟩)) rfl rfl (by kernel_rfl) (by kernel_rfl) (by kernel_rfl) (fun _ _ _ h => h) rfl (by assumption) (by intro w9 hS9; obtain ⟨s1, s7⟩ := hS9; go_simp) ?_
  simp only [List.setIfInBounds_toArray, List.set_cons_zero, List.set_cons_succ]
  refine take_yes 1 32 (.slice (some ⟨g, 0, none⟩) n cap') rfl rfl (by kernel_rfl) (by kernel_rfl) (by kernel_rfl) (fun _ _ _ h => h) rfl (by assumption) (by intro w9 hS9; obtain ⟨s1, s7⟩ := hS9; go_simp) ?_
  simp only [List.setIfInBounds_toArray, List.set_cons_zero, List.set_cons_succ]
  refine take_yes 2 33 (.int .i64 k) rfl rfl (by kernel_rfl) (by kernel_rfl) (by kernel_rfl) (fun _ _ _ h => h) rfl (by assumption) (by intro w9 hS9; obtain ⟨s1, s7⟩ := hS9; go_simp) ?_
  simp only [List.setIfInBounds_toArray, List.set_cons_zero, List.set_cons_succ]
  refine take_yes 3 34 (.pointer (some ⟨w2.heap.size, 1, none⟩)) rfl rfl (by kernel_rfl) (by kernel_rfl) (by kernel_rfl) (fun _ _ _ h => h) rfl (by assumption) (by intro w9 hS9; obtain ⟨s1, s7⟩ := hS9; go_simp) ?_
  simp only [List.setIfInBounds_toArray, List.set_cons_zero, List.set_cons_succ]
  refine take_yes 4 35 (.slice (some ⟨g, 0, none⟩) n cap') rfl rfl (by kernel_rfl) (by kernel_rfl) (by kernel_rfl) (fun _ _ _ h => h) rfl (by assumption) (by intro w9 hS9; obtain ⟨s1, s7⟩ := hS9; go_simp) ?_
  simp only [List.setIfInBounds_toArray, List.set_cons_zero, List.set_cons_succ]
  refine take_yes 5 36 (.int .i64 k) rfl rfl (by kernel_rfl) (by kernel_rfl) (by kernel_rfl) (fun _ _ _ h => h) rfl (by assumption) (by intro w9 hS9; obtain ⟨s1, s7⟩ := hS9; go_simp) ?_
  simp only [List.setIfInBounds_toArray, List.set_cons_zero, List.set_cons_succ]
  refine take_yes 6 37 (.pointer (some ⟨g, k * 9, none⟩)) rfl rfl (by kernel_rfl) (by kernel_rfl) (by kernel_rfl) (fun _ _ _ h => h) rfl (by assumption) (by intro w9 hS9; obtain ⟨s1, s7⟩ := hS9; go_simp) ?_
  simp only [List.setIfInBounds_toArray, List.set_cons_zero, List.set_cons_succ]
  refine take_yes 7 38 (.pointer (some ⟨g, k * 9 + 8, none⟩)) rfl rfl (by kernel_rfl) (by kernel_rfl) (by kernel_rfl) (fun _ _ _ h => h) rfl (by assumption) (by intro w9 hS9; obtain ⟨s1, s7⟩ := hS9; go_simp) ?_
  simp only [List.setIfInBounds_toArray, List.set_cons_zero, List.set_cons_succ]
  refine take_yes 9 40 (.int .u64 (m : Nat)) rfl rfl (by kernel_rfl) (by kernel_rfl) (by kernel_rfl) (fun _ _ _ h => h) rfl (by assumption) (by intro w9 hS9; obtain ⟨s1, s7⟩ := hS9; go_simp) ?_
  simp only [List.setIfInBounds_toArray, List.set_cons_zero, List.set_cons_succ]
  refine take_yes 10 41 (.pointer (some ⟨w2.heap.size, 1, none⟩)) rfl rfl (by kernel_rfl) (by kernel_rfl) (by kernel_rfl) (fun _ _ _ h => h) rfl (by assumption) (by intro w9 hS9; obtain ⟨s1, s7⟩ := hS9; go_simp) ?_
  simp only [List.setIfInBounds_toArray, List.set_cons_zero, List.set_cons_succ]
  refine take_yes 11 42 (.slice (some ⟨g, 0, none⟩) n cap') rfl rfl (by kernel_rfl) (by kernel_rfl) (by kernel_rfl) (fun _ _ _ h => h) rfl (by assumption) (by intro w9 hS9; obtain ⟨s1, s7⟩ := hS9; go_simp) ?_
  simp only [List.setIfInBounds_toArray, List.set_cons_zero, List.set_cons_succ]
  refine take_yes 12 43 (.int .i64 k) rfl rfl (by kernel_rfl) (by kernel_rfl) (by kernel_rfl) (fun _ _ _ h => h) rfl (by assumption) (by intro w9 hS9; obtain ⟨s1, s7⟩ := hS9; go_simp) ?_
  simp only [List.setIfInBounds_toArray, List.set_cons_zero, List.set_cons_succ]
  refine take_yes 13 44 (.pointer (some ⟨g, k * 9, none⟩)) rfl rfl (by kernel_rfl) (by kernel_rfl) (by kernel_rfl) (fun _ _ _ h => h) rfl (by assumption) (by intro w9 hS9; obtain ⟨s1, s7⟩ := hS9; go_simp) ?_
  simp only [List.setIfInBounds_toArray, List.set_cons_zero, List.set_cons_succ]
  refine take_yes 14 45 (.pointer (some ⟨g, k * 9 + 7, none⟩)) rfl rfl (by kernel_rfl) (by kernel_rfl) (by kernel_rfl) (fun _ _ _ h => h) rfl (by assumption) (by intro w9 hS9; obtain ⟨s1, s7⟩ := hS9; go_simp) ?_
  simp only [List.setIfInBounds_toArray, List.set_cons_zero, List.set_cons_succ]
  refine take_yes 15 46 (.int .u64 (e : Nat)) rfl rfl (by kernel_rfl) (by kernel_rfl) (by kernel_rfl) (fun _ _ _ h => h) rfl (by assumption) (by intro w9 hS9; obtain ⟨s1, s7⟩ := hS9; go_simp) ?_
  simp only [List.setIfInBounds_toArray, List.set_cons_zero, List.set_cons_succ]
  refine take_yes 16 47 (.int .u64 (me : Nat)) rfl rfl (by kernel_rfl) (by kernel_rfl) (by kernel_rfl) (fun _ _ _ h => h) rfl (by assumption) (by intro w9 hS9; obtain ⟨s1, s7⟩ := hS9; go_simp) ?_
  simp only [List.setIfInBounds_toArray, List.set_cons_zero, List.set_cons_succ]
  refine wpAnyH_ready (rs := [8]) (by kernel_rfl) (by decide) (AllReadyH.cons rfl (fun K hK => ?_) AllReadyH.nil)
  go_simp
  refine hK.out _ _ (hHeld) (fun hHeld => ?_)
  clear hK K
  try simp only [List.setIfInBounds_toArray, List.set_cons_zero, List.set_cons_succ]
  refine take_yes 17 48 (.int .u64 (v : Nat)) rfl rfl (by kernel_rfl) (by kernel_rfl) (by kernel_rfl) (fun _ _ _ h => h) rfl (by assumption) (by intro w9 hS9; obtain ⟨s1, s7⟩ := hS9; go_simp) ?_
  simp only [List.setIfInBounds_toArray, List.set_cons_zero, List.set_cons_succ]
  refine take_yes 18 49 (.pointer (some ⟨g, k * 9, none⟩)) rfl rfl (by kernel_rfl) (by kernel_rfl) (by kernel_rfl) (fun _ _ _ h => h) rfl (by assumption) (by intro w9 hS9; obtain ⟨s1, s7⟩ := hS9; go_simp) ?_
  simp only [List.setIfInBounds_toArray, List.set_cons_zero, List.set_cons_succ]
  refine take_yes 19 50 (.pointer (some ⟨g, k * 9 + 8, none⟩)) rfl rfl (by kernel_rfl) (by kernel_rfl) (by kernel_rfl) (fun _ _ _ h => h) rfl (by assumption) (by intro w9 hS9; obtain ⟨s1, s7⟩ := hS9; go_simp) ?_
  simp only [List.setIfInBounds_toArray, List.set_cons_zero, List.set_cons_succ]
  refine wpAnyH_ready (rs := [20]) (by kernel_rfl) (by decide) (AllReadyH.cons rfl (fun K hK => ?_) AllReadyH.nil)
  have q1 : (w3.setCell ⟨g, k * 9 + 8, none⟩ (.int .u64 (v : Nat))).cell? ⟨w2.heap.size, 1, none⟩ = some (.slice (some ⟨g, 0, none⟩) n cap') := by rw [World.cell?_setCell_far _ _ _ _ (fun e => hne e)]; exact p1
  have q7 : (w3.setCell ⟨g, k * 9 + 8, none⟩ (.int .u64 (v : Nat))).cell? ⟨g, k * 9 + 7, none⟩ = some (.int .u64 (e : Nat)) := by rw [World.cell?_setCell_other _ _ _ _ (by simp)]; exact pe
  go_simp
  refine hK.out _ _ (⟨q1, q7⟩) (fun hHeld => ?_)
  clear hK K
  try simp only [List.setIfInBounds_toArray, List.set_cons_zero, List.set_cons_succ]
  refine wpAnyH_done (by kernel_rfl) ?_ _
  have B3 := hide ((below_on (unhide B1) (unhide HPUT).below).trans ((unhide BW).mono (below_on (unhide B1) (unhide HPUT).below).size))
  have B4 := hide ((unhide B3).setCell (p := ⟨g, k * 9 + 8, none⟩) (by have := (unhide B1).size; show w.heap.size ≤ g; omega) (.int .u64 (v : Nat)))
  have B4' := hide (((unhide HPUT).below.trans ((unhide BW).mono (unhide HPUT).below.size)).setCell (p := ⟨g, k * 9 + 8, none⟩) (by show w1.heap.size ≤ g; omega) (.int .u64 (v : Nat)))
  have X4 := (unhide X1).bel (unhide B4')
  have SIN := hide (more_in (i := k) (v := ((v : Nat) : Int)) (set_bel (unhide HIN) (unhide B1)) (unhide HPUT) (unhide BW) (by rw [unhide HL]; exact hk) (by unfold U64; omega))
  have q0 : (w3.setCell ⟨g, k * 9 + 8, none⟩ (.int .u64 (v : Nat))).cell? ⟨w2.heap.size, 0, none⟩ = some (.int .i64 rl') := by
    rw [World.cell?_setCell_far _ _ _ _ (fun e => hne e)]; exact p0
  have hb4 : TwoBox (w3.setCell ⟨g, k * 9 + 8, none⟩ (.int .u64 (v : Nat))) w.heap.size w2.heap.size (.int .i64 s.reload) (.slice s.ao s.ts.length s.cap) (.int .i64 rl') (.slice (some ⟨g, 0, none⟩) n cap') := ⟨X4.c0, X4.c1, q0, hHeld.1⟩
  have SIN4 := hide (set_bel (unhide HIN) (unhide B4))
  have HB4 := hide hb4
  have CXM : Hid (∀ (j : Nat) (W : World), j ≤ 100 → SetIn W ⟨rl', some ⟨g, 0, none⟩, cap', moreT L k ((v : Nat) : Int)⟩ → Calls Try.prog 14 #[.agg #[.int .i64 rl', .slice (some ⟨g, 0, none⟩) n cap'], .int .i64 j] W fun e w' => e = .returned (.int .i64 (madeZ ⟨rl', some ⟨g, 0, none⟩, cap', moreT L k ((v : Nat) : Int)⟩ j)) ∧ Below W.heap.size W w') := hide (fun j W hj h => by
    have c := unhide HM ⟨rl', some ⟨g, 0, none⟩, cap', moreT L k ((v : Nat) : Int)⟩ j W h (unhide HALLX) (by unfold I64; omega)
    rw [SetV.val, more_len, ← unhide HN] at c
    exact c)
  have CXO : Hid (∀ (j : Nat) (W : World), j ≤ 100 → SetIn W ⟨rl', some ⟨g, 0, none⟩, cap', moreT L k ((v : Nat) : Int)⟩ → Calls Try.prog 12 #[.agg #[.int .i64 rl', .slice (some ⟨g, 0, none⟩) n cap'], .int .i64 j] W fun e w' => e = .returned (.int .i64 (ownZ ⟨rl', some ⟨g, 0, none⟩, cap', moreT L k ((v : Nat) : Int)⟩ j)) ∧ Below W.heap.size W w') := hide (fun j W hj h => by
    have c := unhide HO ⟨rl', some ⟨g, 0, none⟩, cap', moreT L k ((v : Nat) : Int)⟩ j W h (unhide HALLX) (by unfold I64; omega)
    rw [SetV.val, more_len, ← unhide HN] at c
    exact c)
  have CSM := hide (fun (j : Nat) (W : World) (hj : j ≤ 100) h => unhide HM s j W h (unhide HALL) (by unfold I64; omega))
  have CSO := hide (fun (j : Nat) (W : World) (hj : j ≤ 100) h => unhide HO s j W h (unhide HALL) (by unfold I64; omega))
  generalize moreT L k ((v : Nat) : Int) = L' at *
  generalize hw4 : w3.setCell ⟨g, k * 9 + 8, none⟩ (.int .u64 (v : Nat)) = w4 at *
  clear hw4 X4 q0 hb4 hHeld p0 p1 pu pe hgh3 fz BW B3 B4' X1 HN HL
  obtain ⟨rl, ao, cap, ts⟩ := s
  simp only at h10 h10' hk hk' HB4
  go_wp2
  go_loopw [8] (fun i wr => ∃ j : Nat, j ≤ ts.length ∧ i = .int .i64 j ∧ Below w4.heap.size w4 wr) (fun i _ => ts.length - (intOf i).toNat)
  case atStart => exact ⟨0, Nat.zero_le _, rfl, Below.refl _ _⟩
  case round =>
    obtain ⟨j, hj, rfl, hbel⟩ := hrel
    have hbox := (unhide HB4).bel hbel
    obtain ⟨f0, f1, f2, f3⟩ := (unhide HB4).bel hbel
    have BB := hide hbel
    have B5 := hide (below_on (unhide B4) hbel)
    have XI := hide (set_bel (unhide SIN) hbel)
    have SI := hide (set_bel (unhide SIN4) hbel)
    clear hbel
    by_cases hlt : j < ts.length
    · have hG := unhide HGROW (j : Int)
      have CX1 := hide (fun W h => unhide CXM j W (by omega) h)
      have CX2 := hide (fun W h => unhide CXO j W (by omega) h)
      have CS1 := hide (fun W h => unhide CSM j W (by omega) h)
      have CS2 := hide (fun W h => unhide CSO j W (by omega) h)
      generalize madeZ ⟨rl', some ⟨g, 0, none⟩, cap', L'⟩ j = mx at *
      generalize ownZ ⟨rl', some ⟨g, 0, none⟩, cap', L'⟩ j = ox at *
      generalize madeZ ⟨rl, ao, cap, ts⟩ j = ms at *
      generalize ownZ ⟨rl, ao, cap, ts⟩ j = os at *
      have hg1 : ¬ mx < ms := by omega
      have hg2 : ¬ ox < os := by omega
      clear hG
      have BR := hide (Below.refl wr.heap.size wr)
      have D0 := hide (unhide BR).drew
      have VD := hide (unhide BB).drew
      go_wp2_with fail
      refine wp_region_held_drew (S := (fun w9 => TwoBox w9 w.heap.size w2.heap.size (.int .i64 rl) (.slice ao ts.length cap) (.int .i64 rl') (.slice (some ⟨g, 0, none⟩) n cap'))) (by kernel_rfl) (hbox.drew) (fun hHeld => ?_)
      refine take_yes 0 58 (.agg #[.int .i64 rl', .slice (some ⟨g, 0, none⟩) n cap']) rfl rfl (by kernel_rfl) (by kernel_rfl) (by kernel_rfl) (fun _ _ _ h => h) rfl (by assumption) (by intro w9 hS9; obtain ⟨s0, s1, s2, s3⟩ := hS9; go_simp) ?_
      simp only [List.setIfInBounds_toArray, List.set_cons_zero, List.set_cons_succ]
      refine take_yes 1 59 (.int .i64 j) rfl rfl (by kernel_rfl) (by kernel_rfl) (by kernel_rfl) (fun _ _ _ h => h) rfl (by assumption) (by intro w9 hS9; obtain ⟨s0, s1, s2, s3⟩ := hS9; go_simp) ?_
      simp only [List.setIfInBounds_toArray, List.set_cons_zero, List.set_cons_succ]
      refine take_yes 3 61 (.agg #[.int .i64 rl, .slice ao ts.length cap]) rfl rfl (by kernel_rfl) (by kernel_rfl) (by kernel_rfl) (fun _ _ _ h => h) rfl (by assumption) (by intro w9 hS9; obtain ⟨s0, s1, s2, s3⟩ := hS9; go_simp) ?_
      simp only [List.setIfInBounds_toArray, List.set_cons_zero, List.set_cons_succ]
      refine take_yes 4 62 (.int .i64 j) rfl rfl (by kernel_rfl) (by kernel_rfl) (by kernel_rfl) (fun _ _ _ h => h) rfl (by assumption) (by intro w9 hS9; obtain ⟨s0, s1, s2, s3⟩ := hS9; go_simp) ?_
      simp only [List.setIfInBounds_toArray, List.set_cons_zero, List.set_cons_succ]
      refine wpAnyH_ready (rs := [2]) (by kernel_rfl) (by decide) (AllReadyH.cons rfl (fun K hK => ?_) AllReadyH.nil)
      refine (if_pos rfl).mpr ?_
      go_wp2_with fail
      refine (unhide CX1 wr.drew (set_bel (unhide XI) (unhide D0))).mono ?_
      rintro e y1 ⟨rfl, bel⟩
      have N1 := hide (below_on (unhide D0) bel)
      have V1 := hide (below_on (unhide VD) bel)
      refine hK.out _ _ (hHeld.bel bel) (fun hHeld => ?_)
      clear hK K bel
      refine wpAnyH_ready (rs := [5]) (by kernel_rfl) (by decide) (AllReadyH.cons rfl (fun K hK => ?_) AllReadyH.nil)
      refine (if_pos rfl).mpr ?_
      go_wp2_with fail
      refine (unhide CS1 y1 (set_bel (unhide SI) (unhide N1))).mono ?_
      rintro e y2 ⟨rfl, bel⟩
      have N2 := hide (below_on (unhide N1) bel)
      have V2 := hide (below_on (unhide V1) bel)
      refine hK.out _ _ (hHeld.bel bel) (fun hHeld => ?_)
      clear hK K bel
      refine take_yes 6 64 (.bool false) rfl rfl (by kernel_rfl) (by kernel_rfl) (by kernel_rfl) (fun _ _ _ h => h) rfl (by assumption) (by intro w9 hS9; obtain ⟨s0, s1, s2, s3⟩ := hS9; go_simp) ?_
      simp only [List.setIfInBounds_toArray, List.set_cons_zero, List.set_cons_succ]
      refine take_yes 7 65 (.bool false) rfl rfl (by kernel_rfl) (by kernel_rfl) (by kernel_rfl) (fun _ _ _ h => h) rfl (by assumption) (by intro w9 hS9; obtain ⟨s0, s1, s2, s3⟩ := hS9; go_simp) ?_
      simp only [List.setIfInBounds_toArray, List.set_cons_zero, List.set_cons_succ]
      refine take_yes 8 66 (.agg #[.int .i64 rl', .slice (some ⟨g, 0, none⟩) n cap']) rfl rfl (by kernel_rfl) (by kernel_rfl) (by kernel_rfl) (fun _ _ _ h => h) rfl (by assumption) (by intro w9 hS9; obtain ⟨s0, s1, s2, s3⟩ := hS9; go_simp) ?_
      simp only [List.setIfInBounds_toArray, List.set_cons_zero, List.set_cons_succ]
      refine take_yes 9 67 (.int .i64 j) rfl rfl (by kernel_rfl) (by kernel_rfl) (by kernel_rfl) (fun _ _ _ h => h) rfl (by assumption) (by intro w9 hS9; obtain ⟨s0, s1, s2, s3⟩ := hS9; go_simp) ?_
      simp only [List.setIfInBounds_toArray, List.set_cons_zero, List.set_cons_succ]
      refine take_yes 11 69 (.agg #[.int .i64 rl, .slice ao ts.length cap]) rfl rfl (by kernel_rfl) (by kernel_rfl) (by kernel_rfl) (fun _ _ _ h => h) rfl (by assumption) (by intro w9 hS9; obtain ⟨s0, s1, s2, s3⟩ := hS9; go_simp) ?_
      simp only [List.setIfInBounds_toArray, List.set_cons_zero, List.set_cons_succ]
      refine take_yes 12 70 (.int .i64 j) rfl rfl (by kernel_rfl) (by kernel_rfl) (by kernel_rfl) (fun _ _ _ h => h) rfl (by assumption) (by intro w9 hS9; obtain ⟨s0, s1, s2, s3⟩ := hS9; go_simp) ?_
      simp only [List.setIfInBounds_toArray, List.set_cons_zero, List.set_cons_succ]
      refine wpAnyH_ready (rs := [10]) (by kernel_rfl) (by decide) (AllReadyH.cons rfl (fun K hK => ?_) AllReadyH.nil)
      refine (if_pos rfl).mpr ?_
      go_wp2_with fail
      refine (unhide CX2 y2 (set_bel (unhide XI) (unhide N2))).mono ?_
      rintro e y3 ⟨rfl, bel⟩
      have N3 := hide (below_on (unhide N2) bel)
      have V3 := hide (below_on (unhide V2) bel)
      refine hK.out _ _ (hHeld.bel bel) (fun hHeld => ?_)
      clear hK K bel
      refine wpAnyH_ready (rs := [13]) (by kernel_rfl) (by decide) (AllReadyH.cons rfl (fun K hK => ?_) AllReadyH.nil)
      refine (if_pos rfl).mpr ?_
      go_wp2_with fail
      refine (unhide CS2 y3 (set_bel (unhide SI) (unhide N3))).mono ?_
      rintro e y4 ⟨rfl, bel⟩
      have N4 := hide (below_on (unhide N3) bel)
      have V4 := hide (below_on (unhide V3) bel)
      refine hK.out _ _ (hHeld.bel bel) (fun hHeld => ?_)
      clear hK K bel
      refine take_yes 14 72 (.bool false) rfl rfl (by kernel_rfl) (by kernel_rfl) (by kernel_rfl) (fun _ _ _ h => h) rfl (by assumption) (by intro w9 hS9; obtain ⟨s0, s1, s2, s3⟩ := hS9; go_simp) ?_
      simp only [List.setIfInBounds_toArray, List.set_cons_zero, List.set_cons_succ]
      refine take_yes 15 73 (.bool false) rfl rfl (by kernel_rfl) (by kernel_rfl) (by kernel_rfl) (fun _ _ _ h => h) rfl (by assumption) (by intro w9 hS9; obtain ⟨s0, s1, s2, s3⟩ := hS9; go_simp) ?_
      simp only [List.setIfInBounds_toArray, List.set_cons_zero, List.set_cons_succ]
      refine wpAnyH_done (by kernel_rfl) ?_ _
      clear hHeld
      go_wp2
      go_roundw
      case rel => exact ⟨j + 1, by omega, by go_num, unhide V4⟩
      case measure => simp [intOf]; omega
    · have ej : j = ts.length := by omega
      subst ej
      go_wp2_with fail
      refine (unhide CK _).mono ?_
      rintro e w5 ⟨rfl, bel⟩
      have B6 := hide (below_on (unhide B5) bel)
      clear bel
      go_wp2
      go_ret
      exact ⟨rfl, unhide B6⟩
theorem amore_law (hO : COwn) (hM : CMade) (s : SetV) (k m : Int) (w : World) (hs : SetIn w s) (hk : I64 k) (hm : U64 m) : Calls Try.prog 5 #[s.val, .int .i64 k, .int .u64 m] w fun e w' => e = .returned (.bool true) ∧ Below w.heap.size w w' := by
  by_cases h : (10 : Int) < s.ts.length ∨ allB s = false ∨ k < 0 ∨ (s.ts.length : Int) ≤ k
  · exact amore_no s k m w hs h
  · obtain ⟨n, rfl, hn⟩ := u64_nat hm
    obtain ⟨j, rfl⟩ : ∃ j : Nat, k = j := ⟨k.toNat, by omega⟩
    have hall : allB s = true := by
      cases e : allB s
      · exact absurd (.inr (.inl e)) h
      · rfl
    exact amore_yes hO hM s j n w hs hn (by omega) hall (by omega)
end Go.Proofs.Ytfcgpioegmajiaa.Lex
