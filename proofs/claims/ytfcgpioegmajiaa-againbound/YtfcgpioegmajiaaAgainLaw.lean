/- The laws of chapter 8, over what package again answers. -/
import Derived.Test.YtfcgpioegmajiaaAgainRef
import Derived.Test.YtfcgpioegmajiaaParsePure3
namespace Go.Proofs.Ytfcgpioegmajiaa.Lex
open Go.ChangeShapes Go.WideShapes Go.RowKit

/- what package again must be shown to answer -/
def COwn : Prop := ∀ (s : SetV) (i : Int) (w : World), SetIn w s → allB s = true → I64 i → Calls Try.prog 12 #[s.val, .int .i64 i] w fun e w' => e = .returned (.int .i64 (ownZ s i)) ∧ Below w.heap.size w w'
def CMade : Prop := ∀ (s : SetV) (i : Int) (w : World), SetIn w s → allB s = true → I64 i → Calls Try.prog 14 #[s.val, .int .i64 i] w fun e w' => e = .returned (.int .i64 (madeZ s i)) ∧ Below w.heap.size w w'
def costRe (s : SetV) (i : Int) : Nat := if inI s i then Cost.ofRe (workZ (s.ts.getD i.toNat task0).regs) (madeZ s i) else 0
def costIm (s : SetV) (i : Int) : Nat := if inI s i then Cost.ofIm (workZ (s.ts.getD i.toNat task0).regs) (madeZ s i) else 0
def CCost : Prop := ∀ (s : SetV) (i : Int) (w : World), SetIn w s → allB s = true → I64 i → Calls Try.prog 8 #[s.val, .int .i64 i] w fun e w' => e = .returned (.tuple #[.complex .f64 (costRe s i) (costIm s i), .bool (inI s i)]) ∧ Below w.heap.size w w'
/- the law's own set -/
def kT (g : Nat) (nm : UInt8) (e u : Int) : TaskV := ⟨⟨#[nm]⟩, 9, 9, 0, 0, 0, some ⟨g, 0, none⟩, 1, e, u, [1]⟩
def kS (g : Nat) : SetV := ⟨2, some ⟨g + 1, 0, none⟩, 3, [kT g 97 14 0, kT g 98 4 4, kT g 99 24 24]⟩
theorem kS_all (g : Nat) : allB (kS g) = true := by show allB (kS 0) = true; decide +kernel
theorem kS_is (g : Nat) : madeZ (kS g) 0 = 4 ∧ ownZ (kS g) 2 = 4 ∧ madeZ (kS g) 2 = 0 := by show madeZ (kS 0) 0 = 4 ∧ ownZ (kS 0) 2 = 4 ∧ madeZ (kS 0) 2 = 0; decide +kernel
theorem kT_in {w : World} {g : Nat} (h : w.cell? ⟨g, 0, none⟩ = some (.int .i64 1)) (nm : UInt8) {e u : Int} (he : U64 e) (hu : U64 u) : TaskIn w (kT g nm e u) :=
  ⟨fun _ => ⟨g, 0, rfl, fun j hj => by
      have : j = 0 := by simp [kT] at hj; omega
      subst this; exact h⟩, (fun e => by cases e), by simp [kT], by simp [kT, ByteArray.size], by simp [I64, kT], by simp [I64, kT], by simp [I64, kT], by simp [I64, kT], by simp [I64, kT], he, hu, fun n hn => by
      have : n = 1 := by simpa [kT] using hn
      subst this; simp [I64]⟩
theorem kS_in {w : World} {g : Nat} {ty : TypeId} {fr : Nat × Nat} (h : w.cell? ⟨g, 0, none⟩ = some (.int .i64 1)) (hb : w.heap[g + 1]? = some (.cells ((kS g).ts.flatMap TaskV.cells).toArray ty fr)) : SetIn w (kS g) := by
  refine ⟨by simp [I64, kS], (fun e => by cases e), by simp [kS], by simp [kS], fun _ => ⟨g + 1, 0, rfl, fun j hj i hi => ?_⟩, fun t ht => ?_⟩
  · rw [Nat.zero_add, cell_block hb, List.getElem?_toArray]
    exact task_flat _ j hj i hi
  · simp only [kS, List.mem_cons, List.not_mem_nil, or_false] at ht
    rcases ht with rfl | rfl | rfl
    · exact kT_in h 97 (by simp [U64]) (by simp [U64])
    · exact kT_in h 98 (by simp [U64]) (by simp [U64])
    · exact kT_in h 99 (by simp [U64]) (by simp [U64])
set_option maxHeartbeats 1600000 in
theorem gknown_any (hO : COwn) (hM : CMade) (w : World) : Calls Try.prog 15 #[] w fun e w' => e = .returned (.bool true) ∧ Below w.heap.size w w' := by
  obtain ⟨k0, k1, k2⟩ := kS_is w.heap.size
  have C0 := hide (fun W h => hM (kS w.heap.size) 0 W h (kS_all _) (by simp [I64]))
  have C1 := hide (fun W h => hO (kS w.heap.size) 2 W h (kS_all _) (by simp [I64]))
  have C2 := hide (fun W h => hM (kS w.heap.size) 2 W h (kS_all _) (by simp [I64]))
  rw [k0] at C0
  rw [k1] at C1
  rw [k2] at C2
  clear hO hM k0 k1 k2
  have B0 := hide ((((Below.refl w.heap.size w).alloc (Nat.le_refl _) (.cells #[.int .i64 1] 2)).alloc (by simp) (.cells ((kS w.heap.size).ts.flatMap TaskV.cells).toArray 37)).alloc (by simp; omega) (.cells #[.int .i64 2, .slice (some ⟨w.heap.size + 1, 0, none⟩) 3 3] 24))
  have HIN : Hid (SetIn ((((w.alloc (.cells #[.int .i64 1] 2)).alloc (.cells ((kS w.heap.size).ts.flatMap TaskV.cells).toArray 37)).alloc (.cells #[.int .i64 2, .slice (some ⟨w.heap.size + 1, 0, none⟩) 3 3] 24))) (kS w.heap.size)) := hide (by
    refine set_bel (w := (w.alloc (.cells #[.int .i64 1] 2)).alloc (.cells ((kS w.heap.size).ts.flatMap TaskV.cells).toArray 37)) (kS_in (ty := 37) (fr := (0, 0)) (by simp) ?_) ((Below.refl _ _).alloc (Nat.le_refl _) _)
    have := heap_alloc_new (w.alloc (.cells #[.int .i64 1] 2)) (.cells ((kS w.heap.size).ts.flatMap TaskV.cells).toArray 37)
    simpa using this)
  have HB : Hid (SBox ((((w.alloc (.cells #[.int .i64 1] 2)).alloc (.cells ((kS w.heap.size).ts.flatMap TaskV.cells).toArray 37)).alloc (.cells #[.int .i64 2, .slice (some ⟨w.heap.size + 1, 0, none⟩) 3 3] 24))) (w.heap.size + 1 + 1) (kS w.heap.size)) := hide (by
    have := sbox_new ((w.alloc (.cells #[.int .i64 1] 2)).alloc (.cells ((kS w.heap.size).ts.flatMap TaskV.cells).toArray 37)) (kS w.heap.size) 24
    have e : ((w.alloc (.cells #[.int .i64 1] 2)).alloc (.cells ((kS w.heap.size).ts.flatMap TaskV.cells).toArray 37)).heap.size = w.heap.size + 1 + 1 := by simp
    rw [e] at this
    exact this)
  go_enter Try.func15, Try.ntmps15
  go_wp2_with fail
  refine (unhide C0 _ (unhide HIN)).mono ?_
  rintro e w1 ⟨rfl, bel⟩
  have B1 := hide (below_on (unhide B0) bel)
  have H1 := hide (set_bel (unhide HIN) bel)
  have S1 := hide ((unhide HB).bel bel)
  obtain ⟨c0, c1⟩ := unhide S1
  simp only [kS, List.length_cons, List.length_nil] at c0 c1
  clear bel HIN HB B0
  go_wp2_with fail
  refine (unhide C1 _ (unhide H1)).mono ?_
  rintro e w2 ⟨rfl, bel⟩
  have B2 := hide (below_on (unhide B1) bel)
  have H2 := hide (set_bel (unhide H1) bel)
  obtain ⟨d0, d1⟩ := (unhide S1).bel bel
  simp only [kS, List.length_cons, List.length_nil] at d0 d1
  clear bel c0 c1
  go_wp2_with fail
  refine (unhide C2 _ (unhide H2)).mono ?_
  rintro e w3 ⟨rfl, bel⟩
  have B3 := hide (below_on (unhide B2) bel)
  clear bel
  go_wp2
  go_ret
  exact ⟨rfl, unhide B3⟩
theorem rwork8_any (s : SetV) (k : Nat) (w : World) (hs : SetIn w s) (hk : k < s.ts.length) (hr : regsB (s.ts.getD k task0).regs = true) : Calls Try.prog 10 #[s.val, .int .i64 k] w fun e w' => e = .returned (.int .i64 (workZ (s.ts.getD k task0).regs)) ∧ Below w.heap.size w w' := by
  have hlen := hs.len
  obtain ⟨b, off, hao, ht⟩ := set_task hs (fun e => by rw [e] at hk; simp at hk)
  obtain ⟨hrow, hin⟩ := ht k hk
  have B0 := hide ((Below.refl w.heap.size w).alloc (Nat.le_refl _) (.cells #[.int .i64 s.reload, .slice s.ao s.ts.length s.cap] 24))
  have CW := hide (fun w h => rwork_any (s.ts.getD k task0) w h hr)
  have HR := hide hin.regs
  obtain ⟨t0, t1, t2, t3, t4, t5, t6, t7, t8⟩ := hrow.bel (unhide B0)
  obtain ⟨rl, ao, cap, ts⟩ := s
  simp only at hao hk hlen hr CW HR t0 t1 t2 t3 t4 t5 t6 t7 t8 B0
  subst hao
  clear hs ht hrow hin
  generalize ts.getD k task0 = t at *
  obtain ⟨name, T, D, mode, Q, theta, ao, tcap, ecb, ucb, l⟩ := t
  simp only at t0 t1 t2 t3 t4 t5 t6 t7 t8
  go_enter Try.func10, Try.ntmps10
  rw [SetV.val]
  simp only
  go_wp2_with fail
  refine (unhide CW _ (regs_bel (unhide HR) (unhide B0))).mono ?_
  rintro e w1 ⟨rfl, bel⟩
  have B1 := hide (below_on (unhide B0) bel)
  clear bel
  go_wp2
  go_ret
  exact ⟨rfl, unhide B1⟩
theorem is_regs8 {t : TaskV} {p : Int} (h : isB t p = true) : regsB t.regs = true := by
  simp only [isB, Bool.and_eq_true] at h
  simp only [regsB, Bool.and_eq_true]
  exact ⟨h.2.2.1, h.2.2.2.2.1⟩
theorem refl_zero : (FloatKind.f64.format.order 0 0 == some .eq) = true := Cost.order_refl Cost.rep_zero
theorem made_range {s : SetV} (hr : 0 ≤ s.reload ∧ s.reload ≤ 10000) (i : Int) : 0 ≤ madeZ s i ∧ madeZ s i ≤ 640000 := by
  rw [madeZ]
  split
  · have hc := pc_le64 (belN s.ts i.toNat s.ts.length &&& (s.ts.getD i.toNat task0).ecb.toNat)
    generalize popN (belN s.ts i.toNat s.ts.length &&& (s.ts.getD i.toNat task0).ecb.toNat) = c at *
    have h1 := Int.mul_nonneg hr.1 (show (0 : Int) ≤ (c : Nat) by omega)
    have h2 := Int.mul_le_mul hr.2 (show ((c : Nat) : Int) ≤ 64 by omega) (by omega) (by decide)
    omega
  · omega
theorem own_range {s : SetV} (hr : 0 ≤ s.reload ∧ s.reload ≤ 10000) (i : Int) : 0 ≤ ownZ s i ∧ ownZ s i ≤ 640000 := by
  rw [ownZ]
  split
  · have hc := pc_le64 (s.ts.getD i.toNat task0).ucb.toNat
    generalize popN (s.ts.getD i.toNat task0).ucb.toNat = c at *
    have h1 := Int.mul_nonneg hr.1 (show (0 : Int) ≤ (c : Nat) by omega)
    have h2 := Int.mul_le_mul hr.2 (show ((c : Nat) : Int) ≤ 64 by omega) (by omega) (by decide)
    omega
  · omega
theorem work_range {l : List Int} (h : regsB l = true) : 0 ≤ workZ l ∧ workZ l ≤ 80000 := by
  obtain ⟨h8, he⟩ := regs_each h
  have := work_bound l he
  omega
set_option maxHeartbeats 3200000 in
theorem atells_law (hO : COwn) (hM : CMade) (hC : CCost) (s : SetV) (i : Int) (w : World) (hs : SetIn w s) (hi : I64 i) : Calls Try.prog 3 #[s.val, .int .i64 i] w fun e w' => e = .returned (.bool true) ∧ Below w.heap.size w w' := by
  have hlen := hs.len
  have CK := hide (fun w => gknown_any hO hM w)
  by_cases h10 : (10 : Int) < s.ts.length
  · go_enter Try.func3, Try.ntmps3
    rw [SetV.val]
    go_wp2
    go_ret
    exact ⟨rfl, (Below.refl _ _).alloc (Nat.le_refl _) _⟩
  have CA := hide (fun w h => rall_any s w h)
  cases hb : allB s
  · rw [hb] at CA
    clear hb
    go_enter Try.func3, Try.ntmps3
    rw [SetV.val]
    go_wp2_with fail
    refine (unhide CA _ (set_bel hs ((Below.refl _ _).alloc (Nat.le_refl _) _))).mono ?_
    rintro e w1 ⟨rfl, bel⟩
    have B1 := hide (bel_box (Below.refl _ _) bel)
    clear bel
    go_wp2
    go_ret
    exact ⟨rfl, unhide B1⟩
  rw [hb] at CA
  have hu : ∀ t ∈ s.ts, U64 t.ecb ∧ U64 t.ucb := fun t ht => ⟨(hs.each t ht).ecb, (hs.each t ht).ucb⟩
  obtain ⟨hr, h8, -, hfit⟩ := all_fits hb hu
  have CO1 := hide (fun w h => hO s i w h hb hi)
  have CM1 := hide (fun w h => hM s i w h hb hi)
  have CC1 := hide (fun w h => hC s i w h hb hi)
  have CO2 := hide (fun w h => rown_any s i w h hr)
  have CM2 := hide (fun w h => rmade_any s i w h hr)
  have HIN := hide hs
  have kz := refl_zero
  cases hin : inI s i
  · rw [hin] at CC1
    have e1 : costRe s i = 0 := by rw [costRe, hin]; rfl
    have e2 : costIm s i = 0 := by rw [costIm, hin]; rfl
    rw [e1, e2] at CC1
    generalize ownZ s i = o1 at *
    generalize madeZ s i = m1 at *
    have hout : i < 0 ∨ (s.ts.length : Int) ≤ i := by
      rcases Int.lt_or_le i 0 with h | h
      · exact .inl h
      · rcases Int.lt_or_le i s.ts.length with h' | h'
        · simp [inI, h, h'] at hin
        · exact .inr h'
    clear hin e1 e2 hu hb hfit hs hO hM hC
    obtain ⟨rl, ao, cap, ts⟩ := s
    simp only at hlen h10 h8 hout hr
    go_enter Try.func3, Try.ntmps3
    rw [SetV.val]
    simp only
    go_wp2_with fail
    refine (unhide CA _ (set_bel (unhide HIN) ((Below.refl _ _).alloc (Nat.le_refl _) _))).mono ?_
    rintro e w1 ⟨rfl, bel⟩
    have X1 := hide ((sbox_new w ⟨rl, ao, cap, ts⟩ 24).bel bel)
    have B1 := hide (bel_box (Below.refl _ _) bel)
    obtain ⟨c0, c1⟩ := unhide X1
    simp only at c0 c1
    clear bel
    go_wp2_with fail
    refine (unhide CC1 _ (set_bel (unhide HIN) (unhide B1))).mono ?_
    rintro e w2 ⟨rfl, bel⟩
    have hbox := (unhide X1).bel bel
    have B2 := hide (below_on (unhide B1) bel)
    obtain ⟨d0, d1⟩ := hbox
    simp only at d0 d1
    have hbox := (unhide X1).bel bel
    clear bel c0 c1
    rcases hout with hout | hout
    · skip
      have D0 := hide (unhide B2).drew
      go_wp2_with fail
      refine wp_region_held_drew (S := (fun w9 => SBox w9 w.heap.size ⟨rl, ao, cap, ts⟩)) (by kernel_rfl) (hbox.drew) (fun hHeld => ?_)
      refine take_yes 0 44 (.agg #[.int .i64 rl, .slice ao ts.length cap]) rfl rfl (by kernel_rfl) (by kernel_rfl) (by kernel_rfl) (fun _ _ _ h => h) rfl (by assumption) (by intro w9 hS9; obtain ⟨s0, s1⟩ := hS9; go_simp) ?_
      simp only [List.setIfInBounds_toArray, List.set_cons_zero, List.set_cons_succ]
      refine take_yes 1 45 (.int .i64 i) rfl rfl (by kernel_rfl) (by kernel_rfl) (by kernel_rfl) (fun _ _ _ h => h) rfl (by assumption) (by intro w9 hS9; obtain ⟨s0, s1⟩ := hS9; go_simp) ?_
      simp only [List.setIfInBounds_toArray, List.set_cons_zero, List.set_cons_succ]
      refine take_yes 3 47 (.agg #[.int .i64 rl, .slice ao ts.length cap]) rfl rfl (by kernel_rfl) (by kernel_rfl) (by kernel_rfl) (fun _ _ _ h => h) rfl (by assumption) (by intro w9 hS9; obtain ⟨s0, s1⟩ := hS9; go_simp) ?_
      simp only [List.setIfInBounds_toArray, List.set_cons_zero, List.set_cons_succ]
      refine take_yes 4 48 (.int .i64 i) rfl rfl (by kernel_rfl) (by kernel_rfl) (by kernel_rfl) (fun _ _ _ h => h) rfl (by assumption) (by intro w9 hS9; obtain ⟨s0, s1⟩ := hS9; go_simp) ?_
      simp only [List.setIfInBounds_toArray, List.set_cons_zero, List.set_cons_succ]
      refine wpAnyH_ready (rs := [2]) (by kernel_rfl) (by decide) (AllReadyH.cons rfl (fun K hK => ?_) AllReadyH.nil)
      refine (if_pos rfl).mpr ?_
      go_wp2_with fail
      refine (unhide CO1 w2.drew (set_bel (unhide HIN) (unhide D0))).mono ?_
      rintro e y1 ⟨rfl, bel⟩
      have N1 := hide (below_on (unhide D0) bel)
      refine hK.out _ _ (hHeld.bel bel) (fun hHeld => ?_)
      clear hK K bel
      refine wpAnyH_ready (rs := [5]) (by kernel_rfl) (by decide) (AllReadyH.cons rfl (fun K hK => ?_) AllReadyH.nil)
      refine (if_pos rfl).mpr ?_
      go_wp2_with fail
      refine (unhide CO2 y1 (set_bel (unhide HIN) (unhide N1))).mono ?_
      rintro e y2 ⟨rfl, bel⟩
      have N2 := hide (below_on (unhide N1) bel)
      refine hK.out _ _ (hHeld.bel bel) (fun hHeld => ?_)
      clear hK K bel
      refine take_yes 6 50 (.bool true) rfl rfl (by kernel_rfl) (by kernel_rfl) (by kernel_rfl) (fun _ _ _ h => h) rfl (by assumption) (by intro w9 hS9; obtain ⟨s0, s1⟩ := hS9; go_simp) ?_
      simp only [List.setIfInBounds_toArray, List.set_cons_zero, List.set_cons_succ]
      refine take_yes 7 51 (.bool true) rfl rfl (by kernel_rfl) (by kernel_rfl) (by kernel_rfl) (fun _ _ _ h => h) rfl (by assumption) (by intro w9 hS9; obtain ⟨s0, s1⟩ := hS9; go_simp) ?_
      simp only [List.setIfInBounds_toArray, List.set_cons_zero, List.set_cons_succ]
      refine take_yes 8 52 (.agg #[.int .i64 rl, .slice ao ts.length cap]) rfl rfl (by kernel_rfl) (by kernel_rfl) (by kernel_rfl) (fun _ _ _ h => h) rfl (by assumption) (by intro w9 hS9; obtain ⟨s0, s1⟩ := hS9; go_simp) ?_
      simp only [List.setIfInBounds_toArray, List.set_cons_zero, List.set_cons_succ]
      refine take_yes 9 53 (.int .i64 i) rfl rfl (by kernel_rfl) (by kernel_rfl) (by kernel_rfl) (fun _ _ _ h => h) rfl (by assumption) (by intro w9 hS9; obtain ⟨s0, s1⟩ := hS9; go_simp) ?_
      simp only [List.setIfInBounds_toArray, List.set_cons_zero, List.set_cons_succ]
      refine take_yes 11 55 (.agg #[.int .i64 rl, .slice ao ts.length cap]) rfl rfl (by kernel_rfl) (by kernel_rfl) (by kernel_rfl) (fun _ _ _ h => h) rfl (by assumption) (by intro w9 hS9; obtain ⟨s0, s1⟩ := hS9; go_simp) ?_
      simp only [List.setIfInBounds_toArray, List.set_cons_zero, List.set_cons_succ]
      refine take_yes 12 56 (.int .i64 i) rfl rfl (by kernel_rfl) (by kernel_rfl) (by kernel_rfl) (fun _ _ _ h => h) rfl (by assumption) (by intro w9 hS9; obtain ⟨s0, s1⟩ := hS9; go_simp) ?_
      simp only [List.setIfInBounds_toArray, List.set_cons_zero, List.set_cons_succ]
      refine wpAnyH_ready (rs := [10]) (by kernel_rfl) (by decide) (AllReadyH.cons rfl (fun K hK => ?_) AllReadyH.nil)
      refine (if_pos rfl).mpr ?_
      go_wp2_with fail
      refine (unhide CM1 y2 (set_bel (unhide HIN) (unhide N2))).mono ?_
      rintro e y3 ⟨rfl, bel⟩
      have N3 := hide (below_on (unhide N2) bel)
      refine hK.out _ _ (hHeld.bel bel) (fun hHeld => ?_)
      clear hK K bel
      refine wpAnyH_ready (rs := [13]) (by kernel_rfl) (by decide) (AllReadyH.cons rfl (fun K hK => ?_) AllReadyH.nil)
      refine (if_pos rfl).mpr ?_
      go_wp2_with fail
      refine (unhide CM2 y3 (set_bel (unhide HIN) (unhide N3))).mono ?_
      rintro e y4 ⟨rfl, bel⟩
      have N4 := hide (below_on (unhide N3) bel)
      refine hK.out _ _ (hHeld.bel bel) (fun hHeld => ?_)
      clear hK K bel
      refine take_yes 14 58 (.bool true) rfl rfl (by kernel_rfl) (by kernel_rfl) (by kernel_rfl) (fun _ _ _ h => h) rfl (by assumption) (by intro w9 hS9; obtain ⟨s0, s1⟩ := hS9; go_simp) ?_
      simp only [List.setIfInBounds_toArray, List.set_cons_zero, List.set_cons_succ]
      refine take_yes 15 59 (.bool true) rfl rfl (by kernel_rfl) (by kernel_rfl) (by kernel_rfl) (fun _ _ _ h => h) rfl (by assumption) (by intro w9 hS9; obtain ⟨s0, s1⟩ := hS9; go_simp) ?_
      simp only [List.setIfInBounds_toArray, List.set_cons_zero, List.set_cons_succ]
      refine take_yes 16 60 (.bool true) rfl rfl (by kernel_rfl) (by kernel_rfl) (by kernel_rfl) (fun _ _ _ h => h) rfl (by assumption) (by intro w9 hS9; obtain ⟨s0, s1⟩ := hS9; go_simp) ?_
      simp only [List.setIfInBounds_toArray, List.set_cons_zero, List.set_cons_succ]
      refine take_yes 17 61 (.complex .f64 0 0) rfl rfl (by kernel_rfl) (by kernel_rfl) (by kernel_rfl) (fun _ _ _ h => h) rfl (by assumption) (by intro w9 hS9; obtain ⟨s0, s1⟩ := hS9; go_simp) ?_
      simp only [List.setIfInBounds_toArray, List.set_cons_zero, List.set_cons_succ]
      refine take_yes 18 62 (.complex .f64 0 0) rfl rfl (by kernel_rfl) (by kernel_rfl) (by kernel_rfl) (fun _ _ _ h => h) rfl (by assumption) (by intro w9 hS9; obtain ⟨s0, s1⟩ := hS9; go_simp) ?_
      simp only [List.setIfInBounds_toArray, List.set_cons_zero, List.set_cons_succ]
      refine take_yes 19 63 (.bool true) rfl rfl (by kernel_rfl) (by kernel_rfl) (by kernel_rfl) (fun _ _ _ h => h) rfl (by assumption) (by intro w9 hS9; obtain ⟨s0, s1⟩ := hS9; go_simp) ?_
      simp only [List.setIfInBounds_toArray, List.set_cons_zero, List.set_cons_succ]
      refine take_yes 20 64 (.bool true) rfl rfl (by kernel_rfl) (by kernel_rfl) (by kernel_rfl) (fun _ _ _ h => h) rfl (by assumption) (by intro w9 hS9; obtain ⟨s0, s1⟩ := hS9; go_simp) ?_
      simp only [List.setIfInBounds_toArray, List.set_cons_zero, List.set_cons_succ]
      refine take_yes 21 65 (.bool true) rfl rfl (by kernel_rfl) (by kernel_rfl) (by kernel_rfl) (fun _ _ _ h => h) rfl (by assumption) (by intro w9 hS9; obtain ⟨s0, s1⟩ := hS9; go_simp) ?_
      simp only [List.setIfInBounds_toArray, List.set_cons_zero, List.set_cons_succ]
      refine take_yes 22 66 (.bool false) rfl rfl (by kernel_rfl) (by kernel_rfl) (by kernel_rfl) (fun _ _ _ h => h) rfl (by assumption) (by intro w9 hS9; obtain ⟨s0, s1⟩ := hS9; go_simp) ?_
      simp only [List.setIfInBounds_toArray, List.set_cons_zero, List.set_cons_succ]
      refine take_yes 23 67 (.bool false) rfl rfl (by kernel_rfl) (by kernel_rfl) (by kernel_rfl) (fun _ _ _ h => h) rfl (by assumption) (by intro w9 hS9; obtain ⟨s0, s1⟩ := hS9; go_simp) ?_
      simp only [List.setIfInBounds_toArray, List.set_cons_zero, List.set_cons_succ]
      refine take_yes 24 68 (.bool true) rfl rfl (by kernel_rfl) (by kernel_rfl) (by kernel_rfl) (fun _ _ _ h => h) rfl (by assumption) (by intro w9 hS9; obtain ⟨s0, s1⟩ := hS9; go_simp) ?_
      simp only [List.setIfInBounds_toArray, List.set_cons_zero, List.set_cons_succ]
      refine take_yes 25 69 (.bool true) rfl rfl (by kernel_rfl) (by kernel_rfl) (by kernel_rfl) (fun _ _ _ h => h) rfl (by assumption) (by intro w9 hS9; obtain ⟨s0, s1⟩ := hS9; go_simp) ?_
      simp only [List.setIfInBounds_toArray, List.set_cons_zero, List.set_cons_succ]
      refine take_yes 26 70 (.bool true) rfl rfl (by kernel_rfl) (by kernel_rfl) (by kernel_rfl) (fun _ _ _ h => h) rfl (by assumption) (by intro w9 hS9; obtain ⟨s0, s1⟩ := hS9; go_simp) ?_
      simp only [List.setIfInBounds_toArray, List.set_cons_zero, List.set_cons_succ]
      refine wpAnyH_ready (rs := [27]) (by kernel_rfl) (by decide) (AllReadyH.cons rfl (fun K hK => ?_) AllReadyH.nil)
      refine (if_pos rfl).mpr ?_
      go_wp2_with fail
      refine (unhide CK y4).mono ?_
      rintro e y5 ⟨rfl, bel⟩
      have N5 := hide (below_on (unhide N4) bel)
      refine hK.out _ _ (hHeld.bel bel) (fun hHeld => ?_)
      clear hK K bel
      refine take_yes 28 72 (.bool true) rfl rfl (by kernel_rfl) (by kernel_rfl) (by kernel_rfl) (fun _ _ _ h => h) rfl (by assumption) (by intro w9 hS9; obtain ⟨s0, s1⟩ := hS9; go_simp) ?_
      simp only [List.setIfInBounds_toArray, List.set_cons_zero, List.set_cons_succ]
      refine take_yes 29 4 (.bool true) rfl rfl (by kernel_rfl) (by kernel_rfl) (by kernel_rfl) (fun _ _ _ h => h) rfl (by assumption) (by intro w9 hS9; obtain ⟨s0, s1⟩ := hS9; go_simp) ?_
      simp only [List.setIfInBounds_toArray, List.set_cons_zero, List.set_cons_succ]
      refine wpAnyH_done (by kernel_rfl) ?_ _
      go_wp2
      go_ret
      exact ⟨rfl, unhide N5⟩
    · skip
      have D0 := hide (unhide B2).drew
      go_wp2_with fail
      refine wp_region_held_drew (S := (fun w9 => SBox w9 w.heap.size ⟨rl, ao, cap, ts⟩)) (by kernel_rfl) (hbox.drew) (fun hHeld => ?_)
      refine take_yes 0 44 (.agg #[.int .i64 rl, .slice ao ts.length cap]) rfl rfl (by kernel_rfl) (by kernel_rfl) (by kernel_rfl) (fun _ _ _ h => h) rfl (by assumption) (by intro w9 hS9; obtain ⟨s0, s1⟩ := hS9; go_simp) ?_
      simp only [List.setIfInBounds_toArray, List.set_cons_zero, List.set_cons_succ]
      refine take_yes 1 45 (.int .i64 i) rfl rfl (by kernel_rfl) (by kernel_rfl) (by kernel_rfl) (fun _ _ _ h => h) rfl (by assumption) (by intro w9 hS9; obtain ⟨s0, s1⟩ := hS9; go_simp) ?_
      simp only [List.setIfInBounds_toArray, List.set_cons_zero, List.set_cons_succ]
      refine take_yes 3 47 (.agg #[.int .i64 rl, .slice ao ts.length cap]) rfl rfl (by kernel_rfl) (by kernel_rfl) (by kernel_rfl) (fun _ _ _ h => h) rfl (by assumption) (by intro w9 hS9; obtain ⟨s0, s1⟩ := hS9; go_simp) ?_
      simp only [List.setIfInBounds_toArray, List.set_cons_zero, List.set_cons_succ]
      refine take_yes 4 48 (.int .i64 i) rfl rfl (by kernel_rfl) (by kernel_rfl) (by kernel_rfl) (fun _ _ _ h => h) rfl (by assumption) (by intro w9 hS9; obtain ⟨s0, s1⟩ := hS9; go_simp) ?_
      simp only [List.setIfInBounds_toArray, List.set_cons_zero, List.set_cons_succ]
      refine wpAnyH_ready (rs := [2]) (by kernel_rfl) (by decide) (AllReadyH.cons rfl (fun K hK => ?_) AllReadyH.nil)
      refine (if_pos rfl).mpr ?_
      go_wp2_with fail
      refine (unhide CO1 w2.drew (set_bel (unhide HIN) (unhide D0))).mono ?_
      rintro e y1 ⟨rfl, bel⟩
      have N1 := hide (below_on (unhide D0) bel)
      refine hK.out _ _ (hHeld.bel bel) (fun hHeld => ?_)
      clear hK K bel
      refine wpAnyH_ready (rs := [5]) (by kernel_rfl) (by decide) (AllReadyH.cons rfl (fun K hK => ?_) AllReadyH.nil)
      refine (if_pos rfl).mpr ?_
      go_wp2_with fail
      refine (unhide CO2 y1 (set_bel (unhide HIN) (unhide N1))).mono ?_
      rintro e y2 ⟨rfl, bel⟩
      have N2 := hide (below_on (unhide N1) bel)
      refine hK.out _ _ (hHeld.bel bel) (fun hHeld => ?_)
      clear hK K bel
      refine take_yes 6 50 (.bool true) rfl rfl (by kernel_rfl) (by kernel_rfl) (by kernel_rfl) (fun _ _ _ h => h) rfl (by assumption) (by intro w9 hS9; obtain ⟨s0, s1⟩ := hS9; go_simp) ?_
      simp only [List.setIfInBounds_toArray, List.set_cons_zero, List.set_cons_succ]
      refine take_yes 7 51 (.bool true) rfl rfl (by kernel_rfl) (by kernel_rfl) (by kernel_rfl) (fun _ _ _ h => h) rfl (by assumption) (by intro w9 hS9; obtain ⟨s0, s1⟩ := hS9; go_simp) ?_
      simp only [List.setIfInBounds_toArray, List.set_cons_zero, List.set_cons_succ]
      refine take_yes 8 52 (.agg #[.int .i64 rl, .slice ao ts.length cap]) rfl rfl (by kernel_rfl) (by kernel_rfl) (by kernel_rfl) (fun _ _ _ h => h) rfl (by assumption) (by intro w9 hS9; obtain ⟨s0, s1⟩ := hS9; go_simp) ?_
      simp only [List.setIfInBounds_toArray, List.set_cons_zero, List.set_cons_succ]
      refine take_yes 9 53 (.int .i64 i) rfl rfl (by kernel_rfl) (by kernel_rfl) (by kernel_rfl) (fun _ _ _ h => h) rfl (by assumption) (by intro w9 hS9; obtain ⟨s0, s1⟩ := hS9; go_simp) ?_
      simp only [List.setIfInBounds_toArray, List.set_cons_zero, List.set_cons_succ]
      refine take_yes 11 55 (.agg #[.int .i64 rl, .slice ao ts.length cap]) rfl rfl (by kernel_rfl) (by kernel_rfl) (by kernel_rfl) (fun _ _ _ h => h) rfl (by assumption) (by intro w9 hS9; obtain ⟨s0, s1⟩ := hS9; go_simp) ?_
      simp only [List.setIfInBounds_toArray, List.set_cons_zero, List.set_cons_succ]
      refine take_yes 12 56 (.int .i64 i) rfl rfl (by kernel_rfl) (by kernel_rfl) (by kernel_rfl) (fun _ _ _ h => h) rfl (by assumption) (by intro w9 hS9; obtain ⟨s0, s1⟩ := hS9; go_simp) ?_
      simp only [List.setIfInBounds_toArray, List.set_cons_zero, List.set_cons_succ]
      refine wpAnyH_ready (rs := [10]) (by kernel_rfl) (by decide) (AllReadyH.cons rfl (fun K hK => ?_) AllReadyH.nil)
      refine (if_pos rfl).mpr ?_
      go_wp2_with fail
      refine (unhide CM1 y2 (set_bel (unhide HIN) (unhide N2))).mono ?_
      rintro e y3 ⟨rfl, bel⟩
      have N3 := hide (below_on (unhide N2) bel)
      refine hK.out _ _ (hHeld.bel bel) (fun hHeld => ?_)
      clear hK K bel
      refine wpAnyH_ready (rs := [13]) (by kernel_rfl) (by decide) (AllReadyH.cons rfl (fun K hK => ?_) AllReadyH.nil)
      refine (if_pos rfl).mpr ?_
      go_wp2_with fail
      refine (unhide CM2 y3 (set_bel (unhide HIN) (unhide N3))).mono ?_
      rintro e y4 ⟨rfl, bel⟩
      have N4 := hide (below_on (unhide N3) bel)
      refine hK.out _ _ (hHeld.bel bel) (fun hHeld => ?_)
      clear hK K bel
      refine take_yes 14 58 (.bool true) rfl rfl (by kernel_rfl) (by kernel_rfl) (by kernel_rfl) (fun _ _ _ h => h) rfl (by assumption) (by intro w9 hS9; obtain ⟨s0, s1⟩ := hS9; go_simp) ?_
      simp only [List.setIfInBounds_toArray, List.set_cons_zero, List.set_cons_succ]
      refine take_yes 15 59 (.bool true) rfl rfl (by kernel_rfl) (by kernel_rfl) (by kernel_rfl) (fun _ _ _ h => h) rfl (by assumption) (by intro w9 hS9; obtain ⟨s0, s1⟩ := hS9; go_simp) ?_
      simp only [List.setIfInBounds_toArray, List.set_cons_zero, List.set_cons_succ]
      refine take_yes 16 60 (.bool true) rfl rfl (by kernel_rfl) (by kernel_rfl) (by kernel_rfl) (fun _ _ _ h => h) rfl (by assumption) (by intro w9 hS9; obtain ⟨s0, s1⟩ := hS9; go_simp) ?_
      simp only [List.setIfInBounds_toArray, List.set_cons_zero, List.set_cons_succ]
      refine take_yes 17 61 (.complex .f64 0 0) rfl rfl (by kernel_rfl) (by kernel_rfl) (by kernel_rfl) (fun _ _ _ h => h) rfl (by assumption) (by intro w9 hS9; obtain ⟨s0, s1⟩ := hS9; go_simp) ?_
      simp only [List.setIfInBounds_toArray, List.set_cons_zero, List.set_cons_succ]
      refine take_yes 18 62 (.complex .f64 0 0) rfl rfl (by kernel_rfl) (by kernel_rfl) (by kernel_rfl) (fun _ _ _ h => h) rfl (by assumption) (by intro w9 hS9; obtain ⟨s0, s1⟩ := hS9; go_simp) ?_
      simp only [List.setIfInBounds_toArray, List.set_cons_zero, List.set_cons_succ]
      refine take_yes 19 63 (.bool true) rfl rfl (by kernel_rfl) (by kernel_rfl) (by kernel_rfl) (fun _ _ _ h => h) rfl (by assumption) (by intro w9 hS9; obtain ⟨s0, s1⟩ := hS9; go_simp) ?_
      simp only [List.setIfInBounds_toArray, List.set_cons_zero, List.set_cons_succ]
      refine take_yes 20 64 (.bool true) rfl rfl (by kernel_rfl) (by kernel_rfl) (by kernel_rfl) (fun _ _ _ h => h) rfl (by assumption) (by intro w9 hS9; obtain ⟨s0, s1⟩ := hS9; go_simp) ?_
      simp only [List.setIfInBounds_toArray, List.set_cons_zero, List.set_cons_succ]
      refine take_yes 21 65 (.bool true) rfl rfl (by kernel_rfl) (by kernel_rfl) (by kernel_rfl) (fun _ _ _ h => h) rfl (by assumption) (by intro w9 hS9; obtain ⟨s0, s1⟩ := hS9; go_simp) ?_
      simp only [List.setIfInBounds_toArray, List.set_cons_zero, List.set_cons_succ]
      refine take_yes 22 66 (.bool false) rfl rfl (by kernel_rfl) (by kernel_rfl) (by kernel_rfl) (fun _ _ _ h => h) rfl (by assumption) (by intro w9 hS9; obtain ⟨s0, s1⟩ := hS9; go_simp) ?_
      simp only [List.setIfInBounds_toArray, List.set_cons_zero, List.set_cons_succ]
      refine take_yes 23 67 (.bool false) rfl rfl (by kernel_rfl) (by kernel_rfl) (by kernel_rfl) (fun _ _ _ h => h) rfl (by assumption) (by intro w9 hS9; obtain ⟨s0, s1⟩ := hS9; go_simp) ?_
      simp only [List.setIfInBounds_toArray, List.set_cons_zero, List.set_cons_succ]
      refine take_yes 24 68 (.bool true) rfl rfl (by kernel_rfl) (by kernel_rfl) (by kernel_rfl) (fun _ _ _ h => h) rfl (by assumption) (by intro w9 hS9; obtain ⟨s0, s1⟩ := hS9; go_simp) ?_
      simp only [List.setIfInBounds_toArray, List.set_cons_zero, List.set_cons_succ]
      refine take_yes 25 69 (.bool true) rfl rfl (by kernel_rfl) (by kernel_rfl) (by kernel_rfl) (fun _ _ _ h => h) rfl (by assumption) (by intro w9 hS9; obtain ⟨s0, s1⟩ := hS9; go_simp) ?_
      simp only [List.setIfInBounds_toArray, List.set_cons_zero, List.set_cons_succ]
      refine take_yes 26 70 (.bool true) rfl rfl (by kernel_rfl) (by kernel_rfl) (by kernel_rfl) (fun _ _ _ h => h) rfl (by assumption) (by intro w9 hS9; obtain ⟨s0, s1⟩ := hS9; go_simp) ?_
      simp only [List.setIfInBounds_toArray, List.set_cons_zero, List.set_cons_succ]
      refine wpAnyH_ready (rs := [27]) (by kernel_rfl) (by decide) (AllReadyH.cons rfl (fun K hK => ?_) AllReadyH.nil)
      refine (if_pos rfl).mpr ?_
      go_wp2_with fail
      refine (unhide CK y4).mono ?_
      rintro e y5 ⟨rfl, bel⟩
      have N5 := hide (below_on (unhide N4) bel)
      refine hK.out _ _ (hHeld.bel bel) (fun hHeld => ?_)
      clear hK K bel
      refine take_yes 28 72 (.bool true) rfl rfl (by kernel_rfl) (by kernel_rfl) (by kernel_rfl) (fun _ _ _ h => h) rfl (by assumption) (by intro w9 hS9; obtain ⟨s0, s1⟩ := hS9; go_simp) ?_
      simp only [List.setIfInBounds_toArray, List.set_cons_zero, List.set_cons_succ]
      refine take_yes 29 4 (.bool true) rfl rfl (by kernel_rfl) (by kernel_rfl) (by kernel_rfl) (fun _ _ _ h => h) rfl (by assumption) (by intro w9 hS9; obtain ⟨s0, s1⟩ := hS9; go_simp) ?_
      simp only [List.setIfInBounds_toArray, List.set_cons_zero, List.set_cons_succ]
      refine wpAnyH_done (by kernel_rfl) ?_ _
      go_wp2
      go_ret
      exact ⟨rfl, unhide N5⟩
  · obtain ⟨k, rfl⟩ : ∃ k : Nat, i = k := ⟨i.toNat, by simp [inI] at hin; omega⟩
    have hk : k < s.ts.length := by simp [inI] at hin; omega
    have hreg := is_regs8 (hfit k hk).is
    have CW := hide (fun w h => rwork8_any s k w h hk hreg)
    have hwr := work_range hreg
    have hmr := made_range hr (k : Int)
    have hare : Num.areB (workZ (s.ts.getD k task0).regs) (madeZ s k) = true := (Num.areB_iff _ _).2 ⟨⟨hwr.1, by omega⟩, hmr.1, by omega⟩
    have CF := hide (fun w => Cost.rof_any (workZ (s.ts.getD k task0).regs) (madeZ s k) w)
    rw [hare, Cost.ofRe_yes hare, Cost.ofIm_yes hare] at CF
    have e1 : costRe s k = Cost.F (workZ (s.ts.getD k task0).regs) := by rw [costRe, hin]; simp only [if_true, Int.toNat_natCast]; exact Cost.ofRe_yes hare
    have e2 : costIm s k = Cost.F (madeZ s k) := by rw [costIm, hin]; simp only [if_true, Int.toNat_natCast]; exact Cost.ofIm_yes hare
    rw [hin, e1, e2] at CC1
    have k5 := Cost.order_refl (Cost.read_F (workZ (s.ts.getD k task0).regs) (by omega))
    have k6 := Cost.order_refl (Cost.read_F (madeZ s k) (by omega))
    generalize ownZ s k = o1 at *
    generalize workZ (s.ts.getD k task0).regs = wk at *
    generalize madeZ s k = m1 at *
    generalize Cost.F wk = fx at *
    generalize Cost.F m1 = fy at *
    clear hin e1 e2 hu hb hfit hs hO hM hC hare hreg
    have CF' : Hid (∀ w : World, Calls Try.prog 9 #[.int .i64 wk, .int .i64 m1] w fun e w' => e = .returned (.tuple #[.complex .f64 fx fy, .bool true]) ∧ Below w.heap.size w w') := hide (fun w => (unhide CF w).mono (fun e w' h => ⟨h.1, by rw [h.2]; exact Below.refl _ _⟩))
    clear CF
    obtain ⟨rl, ao, cap, ts⟩ := s
    simp only at hlen h10 h8 hk hr
    have hk0 : (0 : Int) ≤ (k : Int) := by omega
    have hk1 : (k : Int) < (ts.length : Int) := by omega
    go_enter Try.func3, Try.ntmps3
    rw [SetV.val]
    simp only
    go_wp2_with fail
    refine (unhide CA _ (set_bel (unhide HIN) ((Below.refl _ _).alloc (Nat.le_refl _) _))).mono ?_
    rintro e w1 ⟨rfl, bel⟩
    have X1 := hide ((sbox_new w ⟨rl, ao, cap, ts⟩ 24).bel bel)
    have B1 := hide (bel_box (Below.refl _ _) bel)
    obtain ⟨c0, c1⟩ := unhide X1
    simp only at c0 c1
    clear bel
    go_wp2_with fail
    refine (unhide CC1 _ (set_bel (unhide HIN) (unhide B1))).mono ?_
    rintro e w2 ⟨rfl, bel⟩
    have B2 := hide (below_on (unhide B1) bel)
    have hbox := (unhide X1).bel bel
    obtain ⟨d0, d1⟩ := (unhide X1).bel bel
    simp only at d0 d1
    clear bel c0 c1
    have D0 := hide (unhide B2).drew
    go_wp2_with fail
    refine wp_region_held_drew (S := (fun w9 => SBox w9 w.heap.size ⟨rl, ao, cap, ts⟩)) (by kernel_rfl) (hbox.drew) (fun hHeld => ?_)
    refine take_yes 0 35 (.agg #[.int .i64 rl, .slice ao ts.length cap]) rfl rfl (by kernel_rfl) (by kernel_rfl) (by kernel_rfl) (fun _ _ _ h => h) rfl (by assumption) (by intro w9 hS9; obtain ⟨s0, s1⟩ := hS9; go_simp) ?_
    simp only [List.setIfInBounds_toArray, List.set_cons_zero, List.set_cons_succ]
    refine take_yes 1 36 (.int .i64 k) rfl rfl (by kernel_rfl) (by kernel_rfl) (by kernel_rfl) (fun _ _ _ h => h) rfl (by assumption) (by intro w9 hS9; obtain ⟨s0, s1⟩ := hS9; go_simp) ?_
    simp only [List.setIfInBounds_toArray, List.set_cons_zero, List.set_cons_succ]
    refine take_yes 3 38 (.agg #[.int .i64 rl, .slice ao ts.length cap]) rfl rfl (by kernel_rfl) (by kernel_rfl) (by kernel_rfl) (fun _ _ _ h => h) rfl (by assumption) (by intro w9 hS9; obtain ⟨s0, s1⟩ := hS9; go_simp) ?_
    simp only [List.setIfInBounds_toArray, List.set_cons_zero, List.set_cons_succ]
    refine take_yes 4 39 (.int .i64 k) rfl rfl (by kernel_rfl) (by kernel_rfl) (by kernel_rfl) (fun _ _ _ h => h) rfl (by assumption) (by intro w9 hS9; obtain ⟨s0, s1⟩ := hS9; go_simp) ?_
    simp only [List.setIfInBounds_toArray, List.set_cons_zero, List.set_cons_succ]
    refine wpAnyH_ready (rs := [2]) (by kernel_rfl) (by decide) (AllReadyH.cons rfl (fun K hK => ?_) AllReadyH.nil)
    refine (if_pos rfl).mpr ?_
    go_wp2_with fail
    refine (unhide CW w2.drew (set_bel (unhide HIN) (unhide D0))).mono ?_
    rintro e x1 ⟨rfl, bel⟩
    have N1 := hide (below_on (unhide D0) bel)
    refine hK.out _ _ (hHeld.bel bel) (fun hHeld => ?_)
    clear hK K bel
    refine wpAnyH_ready (rs := [5]) (by kernel_rfl) (by decide) (AllReadyH.cons rfl (fun K hK => ?_) AllReadyH.nil)
    refine (if_pos rfl).mpr ?_
    go_wp2_with fail
    refine (unhide CM2 x1 (set_bel (unhide HIN) (unhide N1))).mono ?_
    rintro e x2 ⟨rfl, bel⟩
    have N2 := hide (below_on (unhide N1) bel)
    refine hK.out _ _ (hHeld.bel bel) (fun hHeld => ?_)
    clear hK K bel
    refine wpAnyH_ready (rs := [6]) (by kernel_rfl) (by decide) (AllReadyH.cons rfl (fun K hK => ?_) AllReadyH.nil)
    refine (if_pos rfl).mpr ?_
    go_wp2_with fail
    refine (unhide CF' x2).mono ?_
    rintro e x3 ⟨rfl, bel⟩
    have N3 := hide (below_on (unhide N2) bel)
    refine hK.out _ _ (hHeld.bel bel) (fun hHeld => ?_)
    clear hK K bel
    refine take_yes 7 34 (.tuple #[.complex .f64 fx fy, .bool true]) rfl rfl (by kernel_rfl) (by kernel_rfl) (by kernel_rfl) (fun _ _ _ h => h) rfl (by assumption) (by intro w9 hS9; obtain ⟨s0, s1⟩ := hS9; go_simp) ?_
    simp only [List.setIfInBounds_toArray, List.set_cons_zero, List.set_cons_succ]
    refine take_yes 8 42 (.complex .f64 fx fy) rfl rfl (by kernel_rfl) (by kernel_rfl) (by kernel_rfl) (fun _ _ _ h => h) rfl (by assumption) (by intro w9 hS9; obtain ⟨s0, s1⟩ := hS9; go_simp) ?_
    simp only [List.setIfInBounds_toArray, List.set_cons_zero, List.set_cons_succ]
    refine take_yes 9 43 (.bool true) rfl rfl (by kernel_rfl) (by kernel_rfl) (by kernel_rfl) (fun _ _ _ h => h) rfl (by assumption) (by intro w9 hS9; obtain ⟨s0, s1⟩ := hS9; go_simp) ?_
    simp only [List.setIfInBounds_toArray, List.set_cons_zero, List.set_cons_succ]
    refine take_yes 10 8 (.complex .f64 fx fy) rfl rfl (by kernel_rfl) (by kernel_rfl) (by kernel_rfl) (fun _ _ _ h => h) rfl (by assumption) (by intro w9 hS9; obtain ⟨s0, s1⟩ := hS9; go_simp) ?_
    simp only [List.setIfInBounds_toArray, List.set_cons_zero, List.set_cons_succ]
    refine wpAnyH_done (by kernel_rfl) ?_ _
    have B9 := hide (unhide N3)
    have hbox9 := hHeld
    clear hHeld hbox d0 d1
    have D0 := hide (unhide B9).drew
    go_wp2_with fail
    refine wp_region_held_drew (S := (fun w9 => SBox w9 w.heap.size ⟨rl, ao, cap, ts⟩)) (by kernel_rfl) (hbox9.drew) (fun hHeld => ?_)
    refine take_yes 0 44 (.agg #[.int .i64 rl, .slice ao ts.length cap]) rfl rfl (by kernel_rfl) (by kernel_rfl) (by kernel_rfl) (fun _ _ _ h => h) rfl (by assumption) (by intro w9 hS9; obtain ⟨s0, s1⟩ := hS9; go_simp) ?_
    simp only [List.setIfInBounds_toArray, List.set_cons_zero, List.set_cons_succ]
    refine take_yes 1 45 (.int .i64 k) rfl rfl (by kernel_rfl) (by kernel_rfl) (by kernel_rfl) (fun _ _ _ h => h) rfl (by assumption) (by intro w9 hS9; obtain ⟨s0, s1⟩ := hS9; go_simp) ?_
    simp only [List.setIfInBounds_toArray, List.set_cons_zero, List.set_cons_succ]
    refine take_yes 3 47 (.agg #[.int .i64 rl, .slice ao ts.length cap]) rfl rfl (by kernel_rfl) (by kernel_rfl) (by kernel_rfl) (fun _ _ _ h => h) rfl (by assumption) (by intro w9 hS9; obtain ⟨s0, s1⟩ := hS9; go_simp) ?_
    simp only [List.setIfInBounds_toArray, List.set_cons_zero, List.set_cons_succ]
    refine take_yes 4 48 (.int .i64 k) rfl rfl (by kernel_rfl) (by kernel_rfl) (by kernel_rfl) (fun _ _ _ h => h) rfl (by assumption) (by intro w9 hS9; obtain ⟨s0, s1⟩ := hS9; go_simp) ?_
    simp only [List.setIfInBounds_toArray, List.set_cons_zero, List.set_cons_succ]
    refine wpAnyH_ready (rs := [2]) (by kernel_rfl) (by decide) (AllReadyH.cons rfl (fun K hK => ?_) AllReadyH.nil)
    refine (if_pos rfl).mpr ?_
    go_wp2_with fail
    refine (unhide CO1 x3.drew (set_bel (unhide HIN) (unhide D0))).mono ?_
    rintro e y1 ⟨rfl, bel⟩
    have N1 := hide (below_on (unhide D0) bel)
    refine hK.out _ _ (hHeld.bel bel) (fun hHeld => ?_)
    clear hK K bel
    refine wpAnyH_ready (rs := [5]) (by kernel_rfl) (by decide) (AllReadyH.cons rfl (fun K hK => ?_) AllReadyH.nil)
    refine (if_pos rfl).mpr ?_
    go_wp2_with fail
    refine (unhide CO2 y1 (set_bel (unhide HIN) (unhide N1))).mono ?_
    rintro e y2 ⟨rfl, bel⟩
    have N2 := hide (below_on (unhide N1) bel)
    refine hK.out _ _ (hHeld.bel bel) (fun hHeld => ?_)
    clear hK K bel
    refine take_yes 6 50 (.bool true) rfl rfl (by kernel_rfl) (by kernel_rfl) (by kernel_rfl) (fun _ _ _ h => h) rfl (by assumption) (by intro w9 hS9; obtain ⟨s0, s1⟩ := hS9; go_simp) ?_
    simp only [List.setIfInBounds_toArray, List.set_cons_zero, List.set_cons_succ]
    refine take_yes 7 51 (.bool true) rfl rfl (by kernel_rfl) (by kernel_rfl) (by kernel_rfl) (fun _ _ _ h => h) rfl (by assumption) (by intro w9 hS9; obtain ⟨s0, s1⟩ := hS9; go_simp) ?_
    simp only [List.setIfInBounds_toArray, List.set_cons_zero, List.set_cons_succ]
    refine take_yes 8 52 (.agg #[.int .i64 rl, .slice ao ts.length cap]) rfl rfl (by kernel_rfl) (by kernel_rfl) (by kernel_rfl) (fun _ _ _ h => h) rfl (by assumption) (by intro w9 hS9; obtain ⟨s0, s1⟩ := hS9; go_simp) ?_
    simp only [List.setIfInBounds_toArray, List.set_cons_zero, List.set_cons_succ]
    refine take_yes 9 53 (.int .i64 k) rfl rfl (by kernel_rfl) (by kernel_rfl) (by kernel_rfl) (fun _ _ _ h => h) rfl (by assumption) (by intro w9 hS9; obtain ⟨s0, s1⟩ := hS9; go_simp) ?_
    simp only [List.setIfInBounds_toArray, List.set_cons_zero, List.set_cons_succ]
    refine take_yes 11 55 (.agg #[.int .i64 rl, .slice ao ts.length cap]) rfl rfl (by kernel_rfl) (by kernel_rfl) (by kernel_rfl) (fun _ _ _ h => h) rfl (by assumption) (by intro w9 hS9; obtain ⟨s0, s1⟩ := hS9; go_simp) ?_
    simp only [List.setIfInBounds_toArray, List.set_cons_zero, List.set_cons_succ]
    refine take_yes 12 56 (.int .i64 k) rfl rfl (by kernel_rfl) (by kernel_rfl) (by kernel_rfl) (fun _ _ _ h => h) rfl (by assumption) (by intro w9 hS9; obtain ⟨s0, s1⟩ := hS9; go_simp) ?_
    simp only [List.setIfInBounds_toArray, List.set_cons_zero, List.set_cons_succ]
    refine wpAnyH_ready (rs := [10]) (by kernel_rfl) (by decide) (AllReadyH.cons rfl (fun K hK => ?_) AllReadyH.nil)
    refine (if_pos rfl).mpr ?_
    go_wp2_with fail
    refine (unhide CM1 y2 (set_bel (unhide HIN) (unhide N2))).mono ?_
    rintro e y3 ⟨rfl, bel⟩
    have N3 := hide (below_on (unhide N2) bel)
    refine hK.out _ _ (hHeld.bel bel) (fun hHeld => ?_)
    clear hK K bel
    refine wpAnyH_ready (rs := [13]) (by kernel_rfl) (by decide) (AllReadyH.cons rfl (fun K hK => ?_) AllReadyH.nil)
    refine (if_pos rfl).mpr ?_
    go_wp2_with fail
    refine (unhide CM2 y3 (set_bel (unhide HIN) (unhide N3))).mono ?_
    rintro e y4 ⟨rfl, bel⟩
    have N4 := hide (below_on (unhide N3) bel)
    refine hK.out _ _ (hHeld.bel bel) (fun hHeld => ?_)
    clear hK K bel
    refine take_yes 14 58 (.bool true) rfl rfl (by kernel_rfl) (by kernel_rfl) (by kernel_rfl) (fun _ _ _ h => h) rfl (by assumption) (by intro w9 hS9; obtain ⟨s0, s1⟩ := hS9; go_simp) ?_
    simp only [List.setIfInBounds_toArray, List.set_cons_zero, List.set_cons_succ]
    refine take_yes 15 59 (.bool true) rfl rfl (by kernel_rfl) (by kernel_rfl) (by kernel_rfl) (fun _ _ _ h => h) rfl (by assumption) (by intro w9 hS9; obtain ⟨s0, s1⟩ := hS9; go_simp) ?_
    simp only [List.setIfInBounds_toArray, List.set_cons_zero, List.set_cons_succ]
    refine take_yes 16 60 (.bool true) rfl rfl (by kernel_rfl) (by kernel_rfl) (by kernel_rfl) (fun _ _ _ h => h) rfl (by assumption) (by intro w9 hS9; obtain ⟨s0, s1⟩ := hS9; go_simp) ?_
    simp only [List.setIfInBounds_toArray, List.set_cons_zero, List.set_cons_succ]
    refine take_yes 17 61 (.complex .f64 fx fy) rfl rfl (by kernel_rfl) (by kernel_rfl) (by kernel_rfl) (fun _ _ _ h => h) rfl (by assumption) (by intro w9 hS9; obtain ⟨s0, s1⟩ := hS9; go_simp) ?_
    simp only [List.setIfInBounds_toArray, List.set_cons_zero, List.set_cons_succ]
    refine take_yes 18 62 (.complex .f64 fx fy) rfl rfl (by kernel_rfl) (by kernel_rfl) (by kernel_rfl) (fun _ _ _ h => h) rfl (by assumption) (by intro w9 hS9; obtain ⟨s0, s1⟩ := hS9; go_simp) ?_
    simp only [List.setIfInBounds_toArray, List.set_cons_zero, List.set_cons_succ]
    refine take_yes 19 63 (.bool true) rfl rfl (by kernel_rfl) (by kernel_rfl) (by kernel_rfl) (fun _ _ _ h => h) rfl (by assumption) (by intro w9 hS9; obtain ⟨s0, s1⟩ := hS9; go_simp) ?_
    simp only [List.setIfInBounds_toArray, List.set_cons_zero, List.set_cons_succ]
    refine take_yes 20 64 (.bool true) rfl rfl (by kernel_rfl) (by kernel_rfl) (by kernel_rfl) (fun _ _ _ h => h) rfl (by assumption) (by intro w9 hS9; obtain ⟨s0, s1⟩ := hS9; go_simp) ?_
    simp only [List.setIfInBounds_toArray, List.set_cons_zero, List.set_cons_succ]
    refine take_yes 21 65 (.bool true) rfl rfl (by kernel_rfl) (by kernel_rfl) (by kernel_rfl) (fun _ _ _ h => h) rfl (by assumption) (by intro w9 hS9; obtain ⟨s0, s1⟩ := hS9; go_simp) ?_
    simp only [List.setIfInBounds_toArray, List.set_cons_zero, List.set_cons_succ]
    refine take_yes 22 66 (.bool true) rfl rfl (by kernel_rfl) (by kernel_rfl) (by kernel_rfl) (fun _ _ _ h => h) rfl (by assumption) (by intro w9 hS9; obtain ⟨s0, s1⟩ := hS9; go_simp) ?_
    simp only [List.setIfInBounds_toArray, List.set_cons_zero, List.set_cons_succ]
    refine take_yes 23 67 (.bool true) rfl rfl (by kernel_rfl) (by kernel_rfl) (by kernel_rfl) (fun _ _ _ h => h) rfl (by assumption) (by intro w9 hS9; obtain ⟨s0, s1⟩ := hS9; go_simp) ?_
    simp only [List.setIfInBounds_toArray, List.set_cons_zero, List.set_cons_succ]
    refine take_yes 24 68 (.bool true) rfl rfl (by kernel_rfl) (by kernel_rfl) (by kernel_rfl) (fun _ _ _ h => h) rfl (by assumption) (by intro w9 hS9; obtain ⟨s0, s1⟩ := hS9; go_simp) ?_
    simp only [List.setIfInBounds_toArray, List.set_cons_zero, List.set_cons_succ]
    refine take_yes 25 69 (.bool true) rfl rfl (by kernel_rfl) (by kernel_rfl) (by kernel_rfl) (fun _ _ _ h => h) rfl (by assumption) (by intro w9 hS9; obtain ⟨s0, s1⟩ := hS9; go_simp) ?_
    simp only [List.setIfInBounds_toArray, List.set_cons_zero, List.set_cons_succ]
    refine take_yes 26 70 (.bool true) rfl rfl (by kernel_rfl) (by kernel_rfl) (by kernel_rfl) (fun _ _ _ h => h) rfl (by assumption) (by intro w9 hS9; obtain ⟨s0, s1⟩ := hS9; go_simp) ?_
    simp only [List.setIfInBounds_toArray, List.set_cons_zero, List.set_cons_succ]
    refine wpAnyH_ready (rs := [27]) (by kernel_rfl) (by decide) (AllReadyH.cons rfl (fun K hK => ?_) AllReadyH.nil)
    refine (if_pos rfl).mpr ?_
    go_wp2_with fail
    refine (unhide CK y4).mono ?_
    rintro e y5 ⟨rfl, bel⟩
    have N5 := hide (below_on (unhide N4) bel)
    refine hK.out _ _ (hHeld.bel bel) (fun hHeld => ?_)
    clear hK K bel
    refine take_yes 28 72 (.bool true) rfl rfl (by kernel_rfl) (by kernel_rfl) (by kernel_rfl) (fun _ _ _ h => h) rfl (by assumption) (by intro w9 hS9; obtain ⟨s0, s1⟩ := hS9; go_simp) ?_
    simp only [List.setIfInBounds_toArray, List.set_cons_zero, List.set_cons_succ]
    refine take_yes 29 4 (.bool true) rfl rfl (by kernel_rfl) (by kernel_rfl) (by kernel_rfl) (fun _ _ _ h => h) rfl (by assumption) (by intro w9 hS9; obtain ⟨s0, s1⟩ := hS9; go_simp) ?_
    simp only [List.setIfInBounds_toArray, List.set_cons_zero, List.set_cons_succ]
    refine wpAnyH_done (by kernel_rfl) ?_ _
    go_wp2
    go_ret
    exact ⟨rfl, unhide N5⟩
end Go.Proofs.Ytfcgpioegmajiaa.Lex
