/- The laws of chapter 14: the law's own set, which sets are looked at, TolerTells, TolerEdge. -/
import Derived.Test.YtndhjfpjhpnbaaaTolerRef
import Derived.Test.YtndhjfpjhpnbaaaAdmitLaw
namespace Go.Proofs.Ytndhjfpjhpnbaaa.Lex
set_option maxRecDepth 100000
open Go.ChangeShapes Go.WideShapes Go.RowKit

theorem tol_at {s : SetV} {k : Nat} (ha : allB s = true) (hu : ∀ t ∈ s.ts, U64 t.ecb ∧ U64 t.ucb) (hk : k < s.ts.length) {b : Int} (h0 : 0 ≤ b) (h1 : withH s k b = 1) (h2 : withH s k (b + 1) ≠ 1) : tolO s k = true ∧ tolV s k = b := by
  have down : ∀ c, 0 ≤ c → c ≤ b → withH s k c = 1 := fun c g0 g1 => easy_with (Easier.refl s) ha hu ha hu hk ⟨g0, g1⟩ h1
  have ho : tolO s k = true := by
    cases c : tolO s k with
    | true => rfl
    | false => exact absurd (down 0 (Int.le_refl _) h0) (tol_zero hk c).2
  obtain ⟨⟨g0, -⟩, g1, g2⟩ := tol_edge ha hu hk ho
  refine ⟨ho, ?_⟩
  rcases Int.lt_trichotomy (tolV s k) b with c | c | c
  · exact absurd (down _ (by omega) (by omega)) g2
  · exact c
  · exact absurd (g1 (b + 1) (by omega) (by omega)) h2
theorem aS_u (g : Nat) : ∀ t ∈ (aS g).ts, U64 t.ecb ∧ U64 t.ucb := fun t ht => by
  have : t = aT g := by simpa [aS] using ht
  subst this
  exact ⟨by simp [U64, aT], by simp [U64, aT]⟩
theorem aS_tol (g : Nat) : tolO (aS g) 0 = true ∧ tolV (aS g) 0 = 3 := by
  have hk : 0 < (aS g).ts.length := by simp [aS]
  have a0 := aS_all0 g
  have l0 : loadsTo (aS g) 0 = [] := rfl
  refine tol_at (s := aS g) (k := 0) (aS_all g) (aS_u g) hk (b := 3) (by decide) ?_ ?_
  · exact (resp_first (s := aS g) (k := 0) (b := 3) (L := 5) (d := 5) hk (by rw [a0]; decide) (by rw [a0]; exact lstN 10 _ _ _ (by decide) (by decide) (by decide) (by decide)) (by show (Fix.ceilZ 5 5).toNat = 1; decide) (by rw [l0]; show Fix.IsLeast (Fix.sumZ (3 + 2) []) (some 5); exact lstN 10 _ _ _ (by decide) (by decide) (by decide) (by decide)) (by show (5 : Int) ≤ 5; decide)).2
  · intro h
    obtain ⟨L, hB, hR⟩ := with_busy h
    have h1 := (with_work (aS_all g) (aS_u g) hk hB).2.1
    have e1 : workZ ((aS g).ts.getD 0 task0).regs = 2 := rfl
    have e2 : ((aS g).ts.getD 0 task0).D = 5 := rfl
    omega
theorem aS_tol1 (g : Nat) : tolO (aS g) 1 = false ∧ tolV (aS g) 1 = 0 := tolO_out (in_high (by simp [aS]))
set_option maxHeartbeats 1600000 in
theorem tknown14_any (hO : CTOf) (w : World) : Calls Try.prog 12 #[] w fun e w' => e = .returned (.bool true) ∧ Below w.heap.size w w' := by
  have C0 := hide (fun W h => hO (aS w.heap.size) 0 W h (aS_all _) (by simp [I64]))
  have C1 := hide (fun W h => hO (aS w.heap.size) 1 W h (aS_all _) (by simp [I64]))
  rw [(aS_tol _).1, (aS_tol _).2] at C0
  rw [(aS_tol1 _).1, (aS_tol1 _).2] at C1
  clear hO
  have HW : Hid (∀ W0 W1 W2 : World, W0 = w.alloc (.cells #[.int .i64 2] 2) → W1 = W0.alloc (.cells ((aS w.heap.size).ts.flatMap TaskV.cells).toArray 38) → W2 = W1.alloc (.cells #[.int .i64 0, .slice (some ⟨w.heap.size + 1, 0, none⟩) 1 1] 24) → Below w.heap.size w W2 ∧ SetIn W2 (aS w.heap.size) ∧ SBox W2 (w.heap.size + 1 + 1) (aS w.heap.size)) := by
    intro W0 W1 W2 e0 e1 e2
    have z0 : W0.heap.size = w.heap.size + 1 := by rw [e0]; simp
    have z1 : W1.heap.size = w.heap.size + 1 + 1 := by rw [e1]; simp [z0]
    have b0 : Below w.heap.size w W0 := by rw [e0]; exact (Below.refl _ _).alloc (Nat.le_refl _) _
    have b1 : Below W0.heap.size W0 W1 := by rw [e1]; exact (Below.refl _ _).alloc (Nat.le_refl _) _
    have b2 : Below W1.heap.size W1 W2 := by rw [e2]; exact (Below.refl _ _).alloc (Nat.le_refl _) _
    refine ⟨below_on (below_on b0 b1) b2, set_bel ?_ b2, ?_⟩
    · have c0 : W0.cell? ⟨w.heap.size, 0, none⟩ = some (.int .i64 2) := by rw [e0]; simp
      refine aS_in (ty := 38) (fr := (0, 0)) (cell_bel' c0 b1) ?_
      have := heap_alloc_new W0 (.cells ((aS w.heap.size).ts.flatMap TaskV.cells).toArray 38)
      rw [← e1, z0] at this
      exact this
    · have := sbox_new W1 (aS w.heap.size) 24
      rw [z1] at this
      rw [e2]
      exact this
  obtain ⟨b0, hin, hbx⟩ := unhide HW _ _ _ rfl rfl rfl
  have B0 := hide b0
  have HIN := hide hin
  have HB := hide hbx
  clear b0 hin hbx HW
  go_enter Try.func12, Try.ntmps12
  go_wp2_with fail
  refine (unhide C0 _ (unhide HIN)).mono ?_
  rintro e w1 ⟨rfl, bel⟩
  have B1 := hide (below_on (unhide B0) bel)
  have H1 := hide (set_bel (unhide HIN) bel)
  have S1 := hide ((unhide HB).bel bel)
  obtain ⟨c0, c1⟩ := unhide S1
  simp only [aS, List.length_cons, List.length_nil] at c0 c1
  clear bel HIN HB B0
  go_wp2_with fail
  refine (unhide C1 _ (unhide H1)).mono ?_
  rintro e w2 ⟨rfl, bel⟩
  have B2 := hide (below_on (unhide B1) bel)
  clear bel c0 c1
  go_wp2
  go_ret
  exact ⟨rfl, unhide B2⟩
/- what a law's 'may' answers -/
def MayP (s : SetV) (e : Ending) : Prop := ∃ o, e = .returned (.bool o) ∧ (o = true → s.ts.length ≤ 10 ∧ allB s = true)
theorem may_no (s : SetV) : MayP s (.returned (.bool false)) := ⟨false, rfl, fun h => by cases h⟩
theorem may_yes {s : SetV} (h : s.ts.length ≤ 10) (ha : allB s = true) : MayP s (.returned (.bool true)) := ⟨true, rfl, fun _ => ⟨h, ha⟩⟩
set_option maxHeartbeats 1600000 in
theorem rmay14_any (s : SetV) (w : World) (hs : SetIn w s) : Calls Try.prog 7 #[s.val] w fun e w' => MayP s e ∧ Below w.heap.size w w' := by
  have hlen := hs.len
  have HR := hide (fun (j : Nat) (hj : j < s.ts.length) => (by
    obtain ⟨b, off, e, h⟩ := set_task hs (fun e => by rw [e] at hj; simp at hj)
    exact ⟨b, off, e, (h j hj).1⟩ : ∃ b off, s.ao = some ⟨b, off, none⟩ ∧ TaskAt w b (off + j * 9) (s.ts.getD j task0)))
  have CA := hide (fun w h => rall_any s w h)
  have HIN := hide hs
  have HBX := hide (sbox_new w s 24)
  clear hs
  by_cases h10 : (10 : Int) < s.ts.length
  · have HN := hide (may_no s)
    obtain ⟨rl, ao, cap, ts⟩ := s
    simp only at hlen h10
    have B1 := hide ((Below.refl w.heap.size w).alloc (Nat.le_refl _) (.cells #[.int .i64 rl, .slice ao ts.length cap] 24))
    go_enter Try.func7, Try.ntmps7
    rw [SetV.val]
    simp only
    go_wp2
    go_ret
    exact ⟨unhide HN, unhide B1⟩
  have HN := hide (may_no s)
  cases hall : allB s
  · rw [hall] at CA
    clear hall
    obtain ⟨rl, ao, cap, ts⟩ := s
    simp only at hlen h10
    go_enter Try.func7, Try.ntmps7
    rw [SetV.val]
    simp only
    go_wp2_with fail
    refine (unhide CA _ (set_bel (unhide HIN) ((Below.refl _ _).alloc (Nat.le_refl _) _))).mono ?_
    rintro e w1 ⟨rfl, bel⟩
    have B2 := hide (bel_box (Below.refl _ _) bel)
    clear bel
    go_wp2
    go_ret
    exact ⟨unhide HN, unhide B2⟩
  rw [hall] at CA
  have HY := hide (may_yes (s := s) (by omega) hall)
  clear hall
  obtain ⟨rl, ao, cap, ts⟩ := s
  simp only at hlen h10 HR
  go_enter Try.func7, Try.ntmps7
  rw [SetV.val]
  simp only
  go_wp2_with fail
  refine (unhide CA _ (set_bel (unhide HIN) ((Below.refl _ _).alloc (Nat.le_refl _) _))).mono ?_
  rintro e w1 ⟨rfl, bel⟩
  have B2 := hide (bel_box (Below.refl _ _) bel)
  have X2 := hide ((unhide HBX).bel bel)
  obtain ⟨c0, c1⟩ := unhide X2
  simp only at c0 c1
  clear bel
  go_wp2
  go_loopw [3] (fun i wr => ∃ k : Nat, k ≤ ts.length ∧ i = .int .i64 k ∧ wr = w1) (fun i _ => ts.length - (intOf i).toNat)
  case atStart => exact ⟨0, Nat.zero_le _, rfl, rfl⟩
  case round =>
    obtain ⟨k, hk, rfl, rfl⟩ := hrel
    by_cases hlt : k < ts.length
    · obtain ⟨b, off, rfl, hrow⟩ := unhide HR k hlt
      obtain ⟨t0, t1, t2, t3, t4, t5, t6, t7, t8⟩ := hrow.bel (unhide B2)
      clear hrow t0 t3 t4 t5 t6 t7 t8
      generalize (ts.getD k task0).T = T at *
      generalize (ts.getD k task0).D = D at *
      by_cases h3 : T < 3
      · go_wp2
        go_ret
        exact ⟨unhide HN, unhide B2⟩
      by_cases h300 : 300 < D
      · go_wp2
        go_ret
        exact ⟨unhide HN, unhide B2⟩
      · go_wp2
        go_roundw
        case rel => exact ⟨k + 1, by omega, by go_num, trivial⟩
        case measure => simp [intOf]; omega
    · have e : k = ts.length := by omega
      subst e
      go_wp2
      go_ret
      exact ⟨unhide HY, unhide B2⟩
set_option maxHeartbeats 3200000 in
theorem ttells14_law (hO : CTOf) (hA : CTAll) (s : SetV) (i : Int) (w : World) (hs : SetIn w s) (hi : I64 i) : Calls Try.prog 3 #[s.val, .int .i64 i] w fun e w' => e = .returned (.bool true) ∧ Below w.heap.size w w' := by
  have hlen := hs.len
  have CK := hide (fun w => tknown14_any hO w)
  have CM := hide (fun w h => rmay14_any s w h)
  have C1 := hide (fun ha w h => hA s w h ha)
  have C2 := hide (fun ha w h => rtall_any s w h ha)
  have C3 := hide (fun ha w h => hO s i w h ha hi)
  have C4 := hide (fun ha (k : Nat) (hk : k < s.ts.length) w h => rtol_any s k w h ha hk)
  have HTL : Hid (allB s = true → (tolL s).length ≤ 8) := hide (fun ha => by
    obtain ⟨-, h8, -, -⟩ := all_fits ha (fun t ht => ⟨(hs.each t ht).ecb, (hs.each t ht).ucb⟩)
    rw [tolL]
    split
    · simpa using h8
    · simp)
  have HOUT : Hid (inI s i = false → tolO s i = false ∧ tolV s i = 0) := hide (fun h => tolO_out h)
  have HIN := hide hs
  have HBX := hide (sbox_new w s 24)
  clear hs hO hA
  generalize tolL s = tl at *
  generalize tolA s = ta at *
  obtain ⟨rl, ao, cap, ts⟩ := s
  simp only at hlen
  go_enter Try.func3, Try.ntmps3
  rw [SetV.val]
  simp only
  go_wp2_with fail
  refine (unhide CM _ (set_bel (unhide HIN) ((Below.refl _ _).alloc (Nat.le_refl _) _))).mono ?_
  rintro e w1 ⟨⟨o, rfl, ho'⟩, bel⟩
  have ho := hide ho'
  clear ho'
  have B1 := hide (bel_box (Below.refl _ _) bel)
  have X1 := hide ((unhide HBX).bel bel)
  obtain ⟨c0, c1⟩ := unhide X1
  clear bel
  cases o with
  | false =>
    go_wp2
    go_ret
    exact ⟨rfl, unhide B1⟩
  | true =>
    obtain ⟨h10, hall⟩ := unhide ho rfl
    have D1 := hide (unhide C1 hall)
    have D2 := hide (unhide C2 hall)
    have D3 := hide (unhide C3 hall)
    have D4 := hide (unhide C4 hall)
    have h8 := unhide HTL hall
    clear C1 C2 C3 C4 HTL hall ho CM
    go_wp2_with fail
    refine (unhide D1 _ (set_bel (unhide HIN) (unhide B1))).mono ?_
    rintro e w2 ⟨a1, p1, rfl, r1, bel⟩
    have B2 := hide (below_on (unhide B1) bel)
    have X2 := hide ((unhide X1).bel bel)
    have R1 := hide r1
    clear bel r1 c0 c1
    obtain ⟨c0, c1⟩ := unhide X2
    go_wp2_with fail
    refine (unhide D2 _ (set_bel (unhide HIN) (unhide B2))).mono ?_
    rintro e w3 ⟨a2, p2, rfl, r2, bel⟩
    have B3 := hide (below_on (unhide B2) bel)
    have X3 := hide ((unhide X2).bel bel)
    have R2 := hide r2
    have R1' := hide (regs_bel (unhide R1) bel)
    clear bel r2 c0 c1
    obtain ⟨c0, c1⟩ := unhide X3
    have CN := hide (rnums_any a1 a2 p1 p2 tl tl w3 (unhide R1') (unhide R2) (by omega))
    rw [show (tl == tl) = true by simp] at CN
    go_wp2_with fail
    refine (unhide CN).mono ?_
    rintro e w4 ⟨rfl, bel⟩
    have B4 := hide (below_on (unhide B3) bel)
    have X4 := hide ((unhide X3).bel bel)
    clear bel c0 c1 CN
    obtain ⟨c0, c1⟩ := unhide X4
    by_cases hin : 0 ≤ i ∧ i < ts.length
    · obtain ⟨k, rfl⟩ : ∃ k : Nat, i = k := ⟨i.toNat, by omega⟩
      have hk : k < ts.length := by omega
      have D5 := hide (unhide D4 k hk)
      clear HOUT
      generalize tolV ⟨rl, ao, cap, ts⟩ k = tv at *
      generalize tolO ⟨rl, ao, cap, ts⟩ k = to at *
      go_wp2_with fail
      refine (unhide D3 _ (set_bel (unhide HIN) (unhide B4))).mono ?_
      rintro e w5 ⟨rfl, bel⟩
      have B5 := hide (below_on (unhide B4) bel)
      have X5 := hide ((unhide X4).bel bel)
      clear bel c0 c1
      obtain ⟨c0, c1⟩ := unhide X5
      go_wp2_with fail
      refine (unhide D5 _ (set_bel (unhide HIN) (unhide B5))).mono ?_
      rintro e w6 ⟨rfl, bel⟩
      have B6 := hide (below_on (unhide B5) bel)
      clear bel c0 c1
      go_wp2_with fail
      refine (unhide CK _).mono ?_
      rintro e w7 ⟨rfl, bel⟩
      have B7 := hide (below_on (unhide B6) bel)
      clear bel
      go_wp2
      go_ret
      exact ⟨rfl, unhide B7⟩
    · have e1 : inI (⟨rl, ao, cap, ts⟩ : SetV) i = false := by
        rcases Int.lt_or_le i 0 with l | l
        · exact in_low l
        · exact in_high (by show (ts.length : Int) ≤ i; omega)
      obtain ⟨y1, y2⟩ := unhide HOUT e1
      rw [y1, y2] at D3
      clear HOUT e1 y1 y2 D4
      by_cases i0 : i < 0
      · go_wp2_with fail
        refine (unhide D3 _ (set_bel (unhide HIN) (unhide B4))).mono ?_
        rintro e w5 ⟨rfl, bel⟩
        have B5 := hide (below_on (unhide B4) bel)
        clear bel c0 c1
        go_wp2_with fail
        refine (unhide CK _).mono ?_
        rintro e w6 ⟨rfl, bel⟩
        have B6 := hide (below_on (unhide B5) bel)
        clear bel
        go_wp2
        go_ret
        exact ⟨rfl, unhide B6⟩
      · have i1 : (ts.length : Int) ≤ i := by omega
        go_wp2_with fail
        refine (unhide D3 _ (set_bel (unhide HIN) (unhide B4))).mono ?_
        rintro e w5 ⟨rfl, bel⟩
        have B5 := hide (below_on (unhide B4) bel)
        clear bel c0 c1
        go_wp2_with fail
        refine (unhide CK _).mono ?_
        rintro e w6 ⟨rfl, bel⟩
        have B6 := hide (below_on (unhide B5) bel)
        clear bel
        go_wp2
        go_ret
        exact ⟨rfl, unhide B6⟩
end Go.Proofs.Ytndhjfpjhpnbaaa.Lex
