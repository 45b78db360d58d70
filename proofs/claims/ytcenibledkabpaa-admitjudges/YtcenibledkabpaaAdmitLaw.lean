/- The laws of chapter 13: the law's own set, which sets are looked at, AdmitJudges. -/
import Derived.Test.YtcenibledkabpaaAdmitRef
import Derived.Test.YtcenibledkabpaaRespThree
namespace Go.Proofs.Ytcenibledkabpaa.Lex
set_option maxRecDepth 100000
open Go.ChangeShapes Go.WideShapes Go.RowKit

theorem lstN (N : Nat) (b n : Int) (l : List Fix.LoadV) (h0 : 1 ≤ n ∧ n ≤ N) (hN : N ≤ 1000) (h1 : Fix.sumZ b l n = n) (h2 : ∀ k : Fin N, 1 ≤ (k.val : Int) → (k.val : Int) < n → (k.val : Int) < Fix.sumZ b l k.val) : Fix.IsLeast (Fix.sumZ b l) (some n) :=
  ⟨⟨h0.1, by omega⟩, h1, fun w g1 g2 => by
    have := h2 ⟨w.toNat, by omega⟩ (by show (1 : Int) ≤ ((w.toNat : Nat) : Int); omega) (by show ((w.toNat : Nat) : Int) < n; omega)
    simpa [Int.toNat_of_nonneg (show 0 ≤ w by omega)] using this⟩
def jS (g : Nat) : SetV := ⟨0, some ⟨g + 2, 0, none⟩, 2, [rT g 97 4 [2], rT (g + 1) 98 6 [3]]⟩
theorem jS_all (g : Nat) : allB (jS g) = true := by show allB (jS 0) = true; decide +kernel
theorem jS_in {w : World} {g : Nat} {ty : TypeId} {fr : Nat × Nat} (h0 : w.cell? ⟨g, 0, none⟩ = some (.int .i64 2)) (h1 : w.cell? ⟨g + 1, 0, none⟩ = some (.int .i64 3)) (hb : w.heap[g + 2]? = some (.cells ((jS g).ts.flatMap TaskV.cells).toArray ty fr)) : SetIn w (jS g) := by
  refine ⟨by simp [I64, jS], (fun e => by cases e), by simp [jS], by simp [jS], fun _ => ⟨g + 2, 0, rfl, fun j hj i hi => ?_⟩, fun t ht => ?_⟩
  · rw [Nat.zero_add, cell_block hb, List.getElem?_toArray]
    exact task_flat _ j hj i hi
  · simp only [jS, List.mem_cons, List.not_mem_nil, or_false] at ht
    rcases ht with rfl | rfl
    · refine rT_in (by omega) (by simp) (by simp) (fun j hj => ?_)
      have : j = 0 := by simp at hj; omega
      subst this; exact h0
    · refine rT_in (by omega) (by simp) (by simp) (fun j hj => ?_)
      have : j = 0 := by simp at hj; omega
      subst this; exact h1
theorem jS_most (g : Nat) : mostZ (jS g) 0 = 2 ∧ mostZ (jS g) 1 = 0 := by show mostZ (jS 0) 0 = 2 ∧ mostZ (jS 0) 1 = 0; decide +kernel
theorem jS_loads (g : Nat) : loadsTo (jS g) 0 = [] ∧ loadsTo (jS g) 1 = [⟨4, 2⟩] ∧ allL (jS g) 0 = [⟨4, 2⟩] ∧ allL (jS g) 1 = [⟨4, 2⟩, ⟨6, 3⟩] := by
  show loadsTo (jS 0) 0 = [] ∧ loadsTo (jS 0) 1 = [⟨4, 2⟩] ∧ allL (jS 0) 0 = [⟨4, 2⟩] ∧ allL (jS 0) 1 = [⟨4, 2⟩, ⟨6, 3⟩]
  exact ⟨rfl, rfl, rfl, rfl⟩
theorem jS_judge (g : Nat) : judgeH (jS g) = 2 ∧ judgeT (jS g) = 1 := by
  obtain ⟨m0, m1⟩ := jS_most g
  obtain ⟨l0, l1, a0, a1⟩ := jS_loads g
  have h0 : hAt (jS g) 0 = 1 := by
    rw [hAt, show ((0 : Nat) : Int) = 0 from rfl, m0]
    exact (resp_first (s := jS g) (k := 0) (b := 2) (L := 4) (d := 4) (by simp [jS]) (by rw [a0]; decide) (by rw [a0]; exact lstN 10 _ _ _ (by decide) (by decide) (by decide) (by decide)) (by show (Fix.ceilZ 4 4).toNat = 1; decide) (by rw [l0]; show Fix.IsLeast (Fix.sumZ (2 + workZ [2]) []) (some 4); exact lstN 10 _ _ _ (by decide) (by decide) (by decide) (by decide)) (by show (4 : Int) ≤ 4; decide)).2
  have hb : busyO (jS g) ((1 : Nat) : Int) 0 = some 12 := by
    unfold busyO
    rw [in_nat (by simp [jS]), Int.toNat_natCast, a1, show Fix.mayB 0 [⟨4, 2⟩, ⟨6, 3⟩] = true by decide]
    exact leastO_some (lstN 20 _ _ _ (by decide) (by decide) (by decide) (by decide))
  have hd : doneZ (jS g) 1 0 0 = 7 := by
    unfold doneZ
    rw [l1]
    show Fix.valO (leastO (Fix.sumZ 3 [⟨4, 2⟩])) = 7
    rw [leastO_some (lstN 10 3 7 [⟨4, 2⟩] (by decide) (by decide) (by decide) (by decide))]
    rfl
  have hR : 7 ≤ withR (jS g) ((1 : Nat) : Int) 0 := by
    rw [withR, hb]
    simp only [Int.toNat_natCast]
    have hc : (Fix.ceilZ 12 ((jS g).ts.getD 1 task0).T).toNat = 2 := by show (Fix.ceilZ 12 6).toNat = 2; decide
    rw [hc]
    have := (resp_ge (jS g) 1 0 2).2 0 (by omega)
    rw [hd] at this
    have e : ((0 : Nat) : Int) * ((jS g).ts.getD 1 task0).T = 0 := by simp
    omega
  have h1 : hAt (jS g) 1 = 2 := by
    rw [hAt, show ((1 : Nat) : Int) = 1 from rfl, m1]
    show withH (jS g) ((1 : Nat) : Int) 0 = 2
    rw [withH, hb]
    simp only [Int.toNat_natCast]
    rw [if_neg]
    show ¬ (withR (jS g) ((1 : Nat) : Int) 0 ≤ 6)
    omega
  have hf : badTo (jS g) (jS g).ts.length = some 1 := bad_first (bad_none.2 (fun k hk => by
    have : k = 0 := by omega
    subst this; exact h0)) (by rw [h1]; decide) (by simp [jS])
  obtain ⟨e1, e2, -⟩ := judge_bad hf
  exact ⟨by rw [e1, h1], by rw [e2]; rfl⟩
set_option maxHeartbeats 1600000 in
theorem jknown_any (hJ : CJudge) (w : World) : Calls Try.prog 12 #[] w fun e w' => e = .returned (.bool true) ∧ Below w.heap.size w w' := by
  have C0 := hide (fun W h => hJ (jS w.heap.size) W h (jS_all _))
  rw [(jS_judge _).1, (jS_judge _).2] at C0
  clear hJ
  have HW : Hid (∀ W0 W1 W2 W3 : World, W0 = w.alloc (.cells #[.int .i64 2] 2) → W1 = W0.alloc (.cells #[.int .i64 3] 2) → W2 = W1.alloc (.cells ((jS w.heap.size).ts.flatMap TaskV.cells).toArray 37) → W3 = W2.alloc (.cells #[.int .i64 0, .slice (some ⟨w.heap.size + 1 + 1, 0, none⟩) 2 2] 24) → Below w.heap.size w W3 ∧ SetIn W3 (jS w.heap.size)) := by
    intro W0 W1 W2 W3 e0 e1 e2 e3
    have z0 : W0.heap.size = w.heap.size + 1 := by rw [e0]; simp
    have z1 : W1.heap.size = w.heap.size + 2 := by rw [e1]; simp [z0]
    have b0 : Below w.heap.size w W0 := by rw [e0]; exact (Below.refl _ _).alloc (Nat.le_refl _) _
    have b1 : Below W0.heap.size W0 W1 := by rw [e1]; exact (Below.refl _ _).alloc (Nat.le_refl _) _
    have b2 : Below W1.heap.size W1 W2 := by rw [e2]; exact (Below.refl _ _).alloc (Nat.le_refl _) _
    have b3 : Below W2.heap.size W2 W3 := by rw [e3]; exact (Below.refl _ _).alloc (Nat.le_refl _) _
    refine ⟨below_on (below_on (below_on b0 b1) b2) b3, set_bel ?_ b3⟩
    have c0 : W0.cell? ⟨w.heap.size, 0, none⟩ = some (.int .i64 2) := by rw [e0]; simp
    have c1 : W1.cell? ⟨w.heap.size + 1, 0, none⟩ = some (.int .i64 3) := by rw [e1, ← z0]; simp
    refine jS_in (ty := 37) (fr := (0, 0)) (cell_bel' (cell_bel' c0 b1) b2) (cell_bel' c1 b2) ?_
    have := heap_alloc_new W1 (.cells ((jS w.heap.size).ts.flatMap TaskV.cells).toArray 37)
    rw [← e2, z1] at this
    exact this
  obtain ⟨b0, hin⟩ := unhide HW _ _ _ _ rfl rfl rfl rfl
  have B0 := hide b0
  have HIN := hide hin
  clear b0 hin HW
  go_enter Try.func12, Try.ntmps12
  go_wp2_with fail
  refine (unhide C0 _ (unhide HIN)).mono ?_
  rintro e w1 ⟨v, rfl, ⟨h1, h2, -⟩, -, bel⟩
  have B1 := hide (below_on (unhide B0) bel)
  clear bel HIN B0
  obtain ⟨vh, vt, vao, vcap, vr⟩ := v
  simp only at h1 h2
  subst h1
  subst h2
  rw [VerdV.val]
  simp only
  go_wp2
  go_ret
  exact ⟨rfl, (unhide B1).alloc (unhide B1).size _⟩
set_option maxHeartbeats 1600000 in
theorem rmay13_any (s : SetV) (w : World) (hs : SetIn w s) : Calls Try.prog 8 #[s.val] w fun e w' => ∃ o, e = .returned (.bool o) ∧ (o = true → s.ts.length ≤ 10) ∧ Below w.heap.size w w' := by
  have hlen := hs.len
  have HR := hide (fun (j : Nat) (hj : j < s.ts.length) => (by
    obtain ⟨b, off, e, h⟩ := set_task hs (fun e => by rw [e] at hj; simp at hj)
    exact ⟨b, off, e, (h j hj).1⟩ : ∃ b off, s.ao = some ⟨b, off, none⟩ ∧ TaskAt w b (off + j * 9) (s.ts.getD j task0)))
  clear hs
  obtain ⟨rl, ao, cap, ts⟩ := s
  simp only at hlen HR ⊢
  have B1 := hide ((Below.refl w.heap.size w).alloc (Nat.le_refl _) (.cells #[.int .i64 rl, .slice ao ts.length cap] 24))
  go_enter Try.func8, Try.ntmps8
  rw [SetV.val]
  simp only
  go_wp2
  go_loopw [3] (fun i wr => ∃ k : Nat, k ≤ ts.length ∧ i = .int .i64 k ∧ wr = w.alloc (.cells #[.int .i64 rl, .slice ao ts.length cap] 24)) (fun i _ => ts.length - (intOf i).toNat)
  case atStart => exact ⟨0, Nat.zero_le _, rfl, rfl⟩
  case round =>
    obtain ⟨k, hk, rfl, rfl⟩ := hrel
    by_cases hlt : k < ts.length
    · obtain ⟨b, off, rfl, hrow⟩ := unhide HR k hlt
      have t1 := (hrow.bel (unhide B1)).c1
      clear hrow
      generalize (ts.getD k task0).T = T at *
      by_cases h3 : T < 3
      · go_wp2
        go_ret
        exact ⟨false, rfl, fun h => (by cases h), unhide B1⟩
      · go_wp2
        go_roundw
        case rel => exact ⟨k + 1, by omega, by go_num, trivial⟩
        case measure => simp [intOf]; omega
    · have e : k = ts.length := by omega
      subst e
      go_wp2
      go_ret
      exact ⟨decide ((ts.length : Int) ≤ 10), rfl, fun h => by have := of_decide_eq_true h; omega, unhide B1⟩
theorem same_yes {a b : VerdV} {x y : Int} {l : List Int} (h : a.how = x ∧ a.task = y ∧ a.r = l) (h' : b.how = x ∧ b.task = y ∧ b.r = l) : sameV a b = true := by
  obtain ⟨h1, h2, h3⟩ := h
  obtain ⟨g1, g2, g3⟩ := h'
  simp [sameV, h1, h2, h3, g1, g2, g3]
set_option maxHeartbeats 3200000 in
theorem ajudges_law (hJ : CJudge) (hN : CJudgeNo) (hS : CVSame) (s : SetV) (w : World) (hs : SetIn w s) : Calls Try.prog 3 #[s.val] w fun e w' => e = .returned (.bool true) ∧ Below w.heap.size w w' := by
  have CK := hide (fun w => jknown_any hJ w)
  have CM := hide (fun w h => rmay13_any s w h)
  have CA := hide (fun w h => rall_any s w h)
  have HIN := hide hs
  have HBX := hide (sbox_new w s 24)
  clear hs
  cases hb : allB s
  · rw [hb] at CA
    have CJ := hide (fun w h => hN s w h hb)
    have CS := hide (fun (v : VerdV) (h : v.how = 0 ∧ v.task = 0 ∧ v.r = []) W (hv : VerdIn W v) => hS v ⟨0, 0, none, 0, []⟩ W hv ⟨fun h => absurd rfl h, fun _ => ⟨rfl, rfl⟩, by simp, by simp [I64], by simp [I64], fun n hn => by simp at hn⟩ (by rw [h.2.2]; simp) (by simp))
    clear hb hJ hN hS
    obtain ⟨rl, ao, cap, ts⟩ := s
    go_enter Try.func3, Try.ntmps3
    rw [SetV.val]
    simp only
    go_wp2_with fail
    refine (unhide CM _ (set_bel (unhide HIN) ((Below.refl _ _).alloc (Nat.le_refl _) _))).mono ?_
    rintro e w1 ⟨o, rfl, ho, bel⟩
    have B1 := hide (bel_box (Below.refl _ _) bel)
    have X1 := hide ((unhide HBX).bel bel)
    obtain ⟨c0, c1⟩ := unhide X1
    clear bel ho
    cases o with
    | false =>
      go_wp2
      go_ret
      exact ⟨rfl, unhide B1⟩
    | true =>
      go_wp2_with fail
      refine (unhide CJ _ (set_bel (unhide HIN) (unhide B1))).mono ?_
      rintro e w2 ⟨v, rfl, hv, hvin, bel⟩
      have B2 := hide (below_on (unhide B1) bel)
      have X2 := hide ((unhide X1).bel bel)
      have HV := hide hv
      have HVI := hide hvin
      clear c0 c1 bel hv hvin
      have B3 := hide ((unhide B2).alloc (unhide B2).size (.cells #[.int .i64 v.how, .int .i64 v.task, .slice v.ao v.r.length v.cap] 28))
      have Y3 := hide (vbox_new w2 v 28)
      have V3 := hide ((Below.refl w2.heap.size w2).alloc (Nat.le_refl _) (.cells #[.int .i64 v.how, .int .i64 v.task, .slice v.ao v.r.length v.cap] 28))
      have X3 := hide ((unhide X2).bel (unhide V3))
      obtain ⟨c0, c1⟩ := unhide X2
      have hg := World.block_lt_of_cell? w2 _ c0
      simp only at hg
      have hne : w.heap.size ≠ w2.heap.size := Nat.ne_of_lt hg
      rw [VerdV.val]
      go_wp2_with fail
      refine (unhide CA _ (set_bel (unhide HIN) (unhide B3))).mono ?_
      rintro e w4 ⟨rfl, bel⟩
      have B4 := hide (below_on (unhide B3) bel)
      have V4 := hide (below_on (unhide V3) bel)
      obtain ⟨d0, d1, d2⟩ := (unhide Y3).bel bel
      clear bel c0 c1
      go_wp2_with fail
      refine (unhide CS v (unhide HV) _ (verd_bel (unhide HVI) (unhide V4))).mono ?_
      rintro e w5 ⟨rfl, bel⟩
      rw [same_yes (unhide HV) ⟨rfl, rfl, rfl⟩]
      have B5 := hide (below_on (unhide B4) bel)
      clear bel
      go_wp2_with fail
      refine (unhide CK _).mono ?_
      rintro e w6 ⟨rfl, bel⟩
      have B6 := hide (below_on (unhide B5) bel)
      clear bel
      go_wp2
      go_ret
      exact ⟨rfl, unhide B6⟩
  · rw [hb] at CA
    have CJ := hide (fun w h => hJ s w h hb)
    have CR := hide (fun w h => rjudge_any s w h hb)
    clear hb hJ hN hS
    generalize judgeH s = jh at *
    generalize judgeT s = jt at *
    generalize judgeR s = jr at *
    have CS := hide (fun (v v2 : VerdV) (h : v.how = jh ∧ v.task = jt ∧ v.r = jr) (h2 : v2.how = jh ∧ v2.task = jt ∧ v2.r = jr) W (hv : VerdIn W v) (hv2 : VerdIn W v2) => (rvsame_any v v2 W hv hv2).mono (fun e w' q => (⟨by rw [q.1, same_yes h h2], q.2⟩ : e = .returned (.bool true) ∧ Below W.heap.size W w')))
    obtain ⟨rl, ao, cap, ts⟩ := s
    go_enter Try.func3, Try.ntmps3
    rw [SetV.val]
    simp only
    go_wp2_with fail
    refine (unhide CM _ (set_bel (unhide HIN) ((Below.refl _ _).alloc (Nat.le_refl _) _))).mono ?_
    rintro e w1 ⟨o, rfl, ho, bel⟩
    have B1 := hide (bel_box (Below.refl _ _) bel)
    have X1 := hide ((unhide HBX).bel bel)
    obtain ⟨c0, c1⟩ := unhide X1
    clear bel ho
    cases o with
    | false =>
      go_wp2
      go_ret
      exact ⟨rfl, unhide B1⟩
    | true =>
      go_wp2_with fail
      refine (unhide CJ _ (set_bel (unhide HIN) (unhide B1))).mono ?_
      rintro e w2 ⟨v, rfl, hv, hvin, bel⟩
      have B2 := hide (below_on (unhide B1) bel)
      have X2 := hide ((unhide X1).bel bel)
      have HV := hide hv
      have HVI := hide hvin
      clear c0 c1 bel hv hvin
      have B3 := hide ((unhide B2).alloc (unhide B2).size (.cells #[.int .i64 v.how, .int .i64 v.task, .slice v.ao v.r.length v.cap] 28))
      have Y3 := hide (vbox_new w2 v 28)
      have V3 := hide ((Below.refl w2.heap.size w2).alloc (Nat.le_refl _) (.cells #[.int .i64 v.how, .int .i64 v.task, .slice v.ao v.r.length v.cap] 28))
      have X3 := hide ((unhide X2).bel (unhide V3))
      obtain ⟨c0, c1⟩ := unhide X2
      have hg := World.block_lt_of_cell? w2 _ c0
      simp only at hg
      have hne : w.heap.size ≠ w2.heap.size := Nat.ne_of_lt hg
      rw [VerdV.val]
      go_wp2_with fail
      refine (unhide CA _ (set_bel (unhide HIN) (unhide B3))).mono ?_
      rintro e w4 ⟨rfl, bel⟩
      have B4 := hide (below_on (unhide B3) bel)
      have V4 := hide (below_on (unhide V3) bel)
      have X4 := hide ((unhide X3).bel bel)
      have Y4 := hide ((unhide Y3).bel bel)
      clear bel c0 c1
      have D0 := hide (unhide B4).drew
      have VD := hide (unhide V4).drew
      go_wp2_with fail
      refine wp_region_held_drew (S := (fun w9 => SBox w9 w.heap.size ⟨rl, ao, cap, ts⟩ ∧ VBox w9 w2.heap.size v)) (by kernel_rfl) (⟨(unhide X4).drew, (unhide Y4).drew⟩) (fun hHeld => ?_)
      refine take_yes 0 26 (.int .i64 0) rfl rfl (by kernel_rfl) (by kernel_rfl) (by kernel_rfl) (fun _ _ _ h => h) rfl (by assumption) (by intro w9 hS9; obtain ⟨⟨s0, s1⟩, ⟨t0, t1, t2⟩⟩ := hS9; go_simp) ?_
      simp only [List.setIfInBounds_toArray, List.set_cons_zero, List.set_cons_succ]
      refine take_yes 1 27 (.bool true) rfl rfl (by kernel_rfl) (by kernel_rfl) (by kernel_rfl) (fun _ _ _ h => h) rfl (by assumption) (by intro w9 hS9; obtain ⟨⟨s0, s1⟩, ⟨t0, t1, t2⟩⟩ := hS9; go_simp) ?_
      simp only [List.setIfInBounds_toArray, List.set_cons_zero, List.set_cons_succ]
      refine take_yes 2 28 (.bool true) rfl rfl (by kernel_rfl) (by kernel_rfl) (by kernel_rfl) (fun _ _ _ h => h) rfl (by assumption) (by intro w9 hS9; obtain ⟨⟨s0, s1⟩, ⟨t0, t1, t2⟩⟩ := hS9; go_simp) ?_
      simp only [List.setIfInBounds_toArray, List.set_cons_zero, List.set_cons_succ]
      refine take_yes 3 29 (.agg #[.int .i64 v.how, .int .i64 v.task, .slice v.ao v.r.length v.cap]) rfl rfl (by kernel_rfl) (by kernel_rfl) (by kernel_rfl) (fun _ _ _ h => h) rfl (by assumption) (by intro w9 hS9; obtain ⟨⟨s0, s1⟩, ⟨t0, t1, t2⟩⟩ := hS9; go_simp) ?_
      simp only [List.setIfInBounds_toArray, List.set_cons_zero, List.set_cons_succ]
      refine take_yes 4 30 (.agg #[.int .i64 rl, .slice ao ts.length cap]) rfl rfl (by kernel_rfl) (by kernel_rfl) (by kernel_rfl) (fun _ _ _ h => h) rfl (by assumption) (by intro w9 hS9; obtain ⟨⟨s0, s1⟩, ⟨t0, t1, t2⟩⟩ := hS9; go_simp) ?_
      simp only [List.setIfInBounds_toArray, List.set_cons_zero, List.set_cons_succ]
      refine wpAnyH_ready (rs := [5]) (by kernel_rfl) (by decide) (AllReadyH.cons rfl (fun K hK => ?_) AllReadyH.nil)
      refine (if_pos rfl).mpr ?_
      go_wp2_with fail
      refine (unhide CR w4.drew (set_bel (unhide HIN) (unhide D0))).mono ?_
      rintro e x1 ⟨v2, rfl, hv2, hvin2, bel⟩
      have HV2 := hide hv2
      have HVI2 := hide hvin2
      clear hv2 hvin2
      have N1 := hide (below_on (unhide D0) bel)
      have V1 := hide (below_on (unhide VD) bel)
      refine hK.out _ _ (⟨hHeld.1.bel bel, hHeld.2.bel bel⟩) (fun hHeld => ?_)
      clear hK K bel
      refine wpAnyH_ready (rs := [6]) (by kernel_rfl) (by decide) (AllReadyH.cons rfl (fun K hK => ?_) AllReadyH.nil)
      refine (if_pos rfl).mpr ?_
      go_wp2_with fail
      refine (unhide CS v v2 (unhide HV) (unhide HV2) x1 (verd_bel (unhide HVI) (unhide V1)) (unhide HVI2)).mono ?_
      rintro e x2 ⟨rfl, bel⟩
      have N2 := hide (below_on (unhide N1) bel)
      have V2 := hide (below_on (unhide V1) bel)
      refine hK.out _ _ (⟨hHeld.1.bel bel, hHeld.2.bel bel⟩) (fun hHeld => ?_)
      clear hK K bel
      refine take_yes 7 33 (.bool true) rfl rfl (by kernel_rfl) (by kernel_rfl) (by kernel_rfl) (fun _ _ _ h => h) rfl (by assumption) (by intro w9 hS9; obtain ⟨⟨s0, s1⟩, ⟨t0, t1, t2⟩⟩ := hS9; go_simp) ?_
      simp only [List.setIfInBounds_toArray, List.set_cons_zero, List.set_cons_succ]
      refine take_yes 8 34 (.bool true) rfl rfl (by kernel_rfl) (by kernel_rfl) (by kernel_rfl) (fun _ _ _ h => h) rfl (by assumption) (by intro w9 hS9; obtain ⟨⟨s0, s1⟩, ⟨t0, t1, t2⟩⟩ := hS9; go_simp) ?_
      simp only [List.setIfInBounds_toArray, List.set_cons_zero, List.set_cons_succ]
      refine wpAnyH_ready (rs := [9]) (by kernel_rfl) (by decide) (AllReadyH.cons rfl (fun K hK => ?_) AllReadyH.nil)
      refine (if_pos rfl).mpr ?_
      go_wp2_with fail
      refine (unhide CK x2).mono ?_
      rintro e x3 ⟨rfl, bel⟩
      have N3 := hide (below_on (unhide N2) bel)
      have V3 := hide (below_on (unhide V2) bel)
      refine hK.out _ _ (⟨hHeld.1.bel bel, hHeld.2.bel bel⟩) (fun hHeld => ?_)
      clear hK K bel
      refine take_yes 10 36 (.bool true) rfl rfl (by kernel_rfl) (by kernel_rfl) (by kernel_rfl) (fun _ _ _ h => h) rfl (by assumption) (by intro w9 hS9; obtain ⟨⟨s0, s1⟩, ⟨t0, t1, t2⟩⟩ := hS9; go_simp) ?_
      simp only [List.setIfInBounds_toArray, List.set_cons_zero, List.set_cons_succ]
      refine take_yes 11 2 (.bool true) rfl rfl (by kernel_rfl) (by kernel_rfl) (by kernel_rfl) (fun _ _ _ h => h) rfl (by assumption) (by intro w9 hS9; obtain ⟨⟨s0, s1⟩, ⟨t0, t1, t2⟩⟩ := hS9; go_simp) ?_
      simp only [List.setIfInBounds_toArray, List.set_cons_zero, List.set_cons_succ]
      refine wpAnyH_done (by kernel_rfl) ?_ _
      go_wp2
      go_ret
      exact ⟨rfl, unhide N3⟩
end Go.Proofs.Ytcenibledkabpaa.Lex
