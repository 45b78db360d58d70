/- The law of chapter 14 of what is just borne, over what package toler answers. -/
import Derived.Test.YtndhjfpjhpnbaaaTolerLaw
namespace Go.Proofs.Ytndhjfpjhpnbaaa.Lex
set_option maxRecDepth 100000
open Go.ChangeShapes Go.WideShapes Go.RowKit

set_option maxHeartbeats 3200000 in
theorem tedge_law (hO : CTOf) (s : SetV) (i less : Int) (w : World) (hs : SetIn w s) (hi : I64 i) (_ : I64 less) : Calls Try.prog 4 #[s.val, .int .i64 i, .int .i64 less] w fun e w' => e = .returned (.bool true) ∧ Below w.heap.size w w' := by
  have hlen := hs.len
  have CK := hide (fun w => tknown14_any hO w)
  have CM := hide (fun w h => rmay14_any s w h)
  have HIN := hide hs
  have HBX := hide (sbox_new w s 24)
  by_cases hin : ¬ (0 ≤ i ∧ i < s.ts.length)
  · clear hO hs
    obtain ⟨rl, ao, cap, ts⟩ := s
    simp only at hin hlen
    go_enter Try.func4, Try.ntmps4
    rw [SetV.val]
    simp only
    go_wp2_with fail
    refine (unhide CM _ (set_bel (unhide HIN) ((Below.refl _ _).alloc (Nat.le_refl _) _))).mono ?_
    rintro e w1 ⟨⟨o, rfl, ho'⟩, bel⟩
    have B1 := hide (bel_box (Below.refl _ _) bel)
    have X1 := hide ((unhide HBX).bel bel)
    obtain ⟨c0, c1⟩ := unhide X1
    simp only at c0 c1
    clear bel ho'
    cases o with
    | false =>
      go_wp2
      go_ret
      exact ⟨rfl, unhide B1⟩
    | true =>
      by_cases i0 : i < 0
      · go_wp2
        go_ret
        exact ⟨rfl, unhide B1⟩
      · have i1 : (ts.length : Int) ≤ i := by omega
        go_wp2
        go_ret
        exact ⟨rfl, unhide B1⟩
  obtain ⟨k, rfl⟩ : ∃ k : Nat, i = k := ⟨i.toNat, by omega⟩
  have hk : k < s.ts.length := by omega
  have hu : ∀ t ∈ s.ts, U64 t.ecb ∧ U64 t.ucb := fun t ht => ⟨(hs.each t ht).ecb, (hs.each t ht).ucb⟩
  have C3 := hide (fun ha w h => hO s k w h ha hi)
  have CW := hide (fun ha (b : Int) w h => rwith_any s k b w h ha hi)
  have HE := hide (fun ha h => tol_edge (s := s) (k := k) ha hu hk h)
  have HZ := hide (fun h => tol_zero (s := s) (k := k) hk h)
  obtain ⟨b, off, hao, ht⟩ := set_task hs (fun e => by rw [e] at hk; simp at hk)
  have HROW := hide (ht k hk).1
  have HD := hide (fun ha => (show (s.ts.getD k task0).D ≤ 10000 from by
    obtain ⟨-, -, -, hfit⟩ := all_fits ha hu
    obtain ⟨-, -, -, -, ⟨hD, hDT, hT⟩, -⟩ := fits_parts (hfit k hk).is
    omega))
  clear hO hs hu ht hin
  have hi0 : (0 : Int) ≤ (k : Int) := by omega
  have hi1 : (k : Int) < (s.ts.length : Int) := by omega
  obtain ⟨rl, ao, cap, ts⟩ := s
  simp only at hlen hk hao HROW HD hi1
  subst hao
  generalize hgt : ts.getD k task0 = t at *
  clear hgt
  go_enter Try.func4, Try.ntmps4
  rw [SetV.val]
  simp only
  go_wp2_with fail
  refine (unhide CM _ (set_bel (unhide HIN) ((Below.refl _ _).alloc (Nat.le_refl _) _))).mono ?_
  rintro e w1 ⟨⟨o, rfl, ho'⟩, bel⟩
  have ho := hide ho'
  have B1 := hide (bel_box (Below.refl _ _) bel)
  have X1 := hide ((unhide HBX).bel bel)
  obtain ⟨c0, c1⟩ := unhide X1
  simp only at c0 c1
  clear bel ho'
  cases o with
  | false =>
    go_wp2
    go_ret
    exact ⟨rfl, unhide B1⟩
  | true =>
    have hall := (unhide ho rfl).2
    have D3 := hide (unhide C3 hall)
    have DW := hide (unhide CW hall)
    have E1 := hide (unhide HE hall)
    have hD := unhide HD hall
    clear C3 CW HE HD hall ho CM
    generalize hto : tolO ⟨rl, some ⟨b, off, none⟩, cap, ts⟩ k = to at *
    clear hto
    generalize hgv : tolV ⟨rl, some ⟨b, off, none⟩, cap, ts⟩ k = tv at *
    clear hgv
    go_wp2_with fail
    refine (unhide D3 _ (set_bel (unhide HIN) (unhide B1))).mono ?_
    rintro e w2 ⟨rfl, bel⟩
    have B2 := hide (below_on (unhide B1) bel)
    have X2 := hide ((unhide X1).bel bel)
    clear bel c0 c1
    obtain ⟨c0, c1⟩ := unhide X2
    simp only at c0 c1
    cases to with
    | false =>
      obtain ⟨z1, z2⟩ := unhide HZ rfl
      subst z1
      have z3 : (withH ⟨rl, some ⟨b, off, none⟩, cap, ts⟩ k 0 != 1) = true := by simpa using z2
      have DW0 := hide (unhide DW 0)
      generalize withH ⟨rl, some ⟨b, off, none⟩, cap, ts⟩ k 0 = h0 at *
      generalize withR ⟨rl, some ⟨b, off, none⟩, cap, ts⟩ k 0 = r0 at *
      clear HZ E1
      go_wp2_with fail
      refine (unhide DW0 _ (set_bel (unhide HIN) (unhide B2))).mono ?_
      rintro e w3 ⟨rfl, bel⟩
      have B3 := hide (below_on (unhide B2) bel)
      clear bel c0 c1
      go_wp2_with fail
      refine (unhide CK _).mono ?_
      rintro e w4 ⟨rfl, bel⟩
      have B4 := hide (below_on (unhide B3) bel)
      clear bel
      go_wp2
      go_ret
      exact ⟨rfl, unhide B4⟩
    | true =>
      obtain ⟨⟨g0, g1⟩, g2, g3⟩ := unhide E1 rfl
      have q1 := g2 tv g0 (Int.le_refl _)
      have DW0 := hide (unhide DW tv)
      have DW1 := hide (unhide DW (tv + 1))
      have DWD : Hid (∀ d, 0 ≤ d → d ≤ tv → ∀ w', SetIn w' ⟨rl, some ⟨b, off, none⟩, cap, ts⟩ → Calls Try.prog 14 #[SetV.val ⟨rl, some ⟨b, off, none⟩, cap, ts⟩, .int .i64 k, .int .i64 d] w' fun e w'' => e = .returned (.tuple #[.int .i64 (withR ⟨rl, some ⟨b, off, none⟩, cap, ts⟩ k d), .int .i64 1]) ∧ Below w'.heap.size w' w'') := hide (fun d d0 d1 w' h => by
        have := unhide DW d w' h
        rw [g2 d d0 d1] at this
        exact this)
      rw [q1] at DW0
      generalize withH ⟨rl, some ⟨b, off, none⟩, cap, ts⟩ k (tv + 1) = h1 at *
      clear HZ E1 g2 q1 DW
      have e1 : IntKind.i64.wrap (tv + 1) = tv + 1 := i64_is _ (by omega)
      go_wp2_with fail
      refine (unhide DW0 _ (set_bel (unhide HIN) (unhide B2))).mono ?_
      rintro e w3 ⟨rfl, bel⟩
      have B3 := hide (below_on (unhide B2) bel)
      have X3 := hide ((unhide X2).bel bel)
      clear bel c0 c1
      obtain ⟨c0, c1⟩ := unhide X3
      simp only at c0 c1
      go_wp2_with fail
      refine (unhide DW1 _ (set_bel (unhide HIN) (unhide B3))).mono ?_
      rintro e w4 ⟨rfl, bel⟩
      have B4 := hide (below_on (unhide B3) bel)
      have X4 := hide ((unhide X3).bel bel)
      clear bel c0 c1
      obtain ⟨c0, c1⟩ := unhide X4
      simp only at c0 c1
      obtain ⟨d, hd0, hd1, hdd⟩ : ∃ d, 0 ≤ d ∧ d ≤ tv ∧ ((less < 0 ∧ d = tv) ∨ (0 ≤ less ∧ less ≤ tv ∧ d = tv - less) ∨ (tv < less ∧ 0 ≤ less ∧ d = 0)) := by
        rcases Int.lt_or_le less 0 with l | l
        · exact ⟨tv, g0, Int.le_refl _, .inl ⟨l, rfl⟩⟩
        · rcases Int.lt_or_le tv less with m | m
          · exact ⟨0, Int.le_refl _, g0, .inr (.inr ⟨m, l, rfl⟩)⟩
          · exact ⟨tv - less, by omega, by omega, .inr (.inl ⟨l, m, rfl⟩)⟩
      have D5 := hide (unhide DWD d hd0 hd1)
      clear DWD
      rcases hdd with ⟨l, e⟩ | ⟨l, m, e⟩ | ⟨m, l, e⟩
      · subst e
        have e2 : IntKind.i64.wrap (d - 0) = d := (i64_is _ (by omega)).trans (by omega)
        go_wp2_with fail
        refine (unhide D5 _ (set_bel (unhide HIN) (unhide B4))).mono ?_
        rintro e w5 ⟨rfl, bel⟩
        have B5 := hide (below_on (unhide B4) bel)
        have X5 := hide ((unhide X4).bel bel)
        clear bel c0 c1 D5
        obtain ⟨c0, c1⟩ := unhide X5
        simp only at c0 c1
        obtain ⟨t0, t1, t2, t3, t4, t5, t6, t7, t8⟩ := (unhide HROW).bel (unhide B5)
        clear t0 t1 t3 t4 t5 t6 t7 t8
        have g4 : (h1 != 1) = true := by simpa using g3
        go_wp2_with fail
        refine (unhide CK _).mono ?_
        rintro e w6 ⟨rfl, bel⟩
        have B6 := hide (below_on (unhide B5) bel)
        clear bel c0 c1
        go_wp2
        go_ret
        exact ⟨rfl, unhide B6⟩
      · subst e
        have e2 : IntKind.i64.wrap (tv - less) = tv - less := i64_is _ (by omega)
        go_wp2_with fail
        refine (unhide D5 _ (set_bel (unhide HIN) (unhide B4))).mono ?_
        rintro e w5 ⟨rfl, bel⟩
        have B5 := hide (below_on (unhide B4) bel)
        have X5 := hide ((unhide X4).bel bel)
        clear bel c0 c1 D5
        obtain ⟨c0, c1⟩ := unhide X5
        simp only at c0 c1
        obtain ⟨t0, t1, t2, t3, t4, t5, t6, t7, t8⟩ := (unhide HROW).bel (unhide B5)
        clear t0 t1 t3 t4 t5 t6 t7 t8
        have g4 : (h1 != 1) = true := by simpa using g3
        go_wp2_with fail
        refine (unhide CK _).mono ?_
        rintro e w6 ⟨rfl, bel⟩
        have B6 := hide (below_on (unhide B5) bel)
        clear bel c0 c1
        go_wp2
        go_ret
        exact ⟨rfl, unhide B6⟩
      · subst e
        have e2 : IntKind.i64.wrap (tv - tv) = 0 := (i64_is _ (by omega)).trans (by omega)
        go_wp2_with fail
        refine (unhide D5 _ (set_bel (unhide HIN) (unhide B4))).mono ?_
        rintro e w5 ⟨rfl, bel⟩
        have B5 := hide (below_on (unhide B4) bel)
        have X5 := hide ((unhide X4).bel bel)
        clear bel c0 c1 D5
        obtain ⟨c0, c1⟩ := unhide X5
        simp only at c0 c1
        obtain ⟨t0, t1, t2, t3, t4, t5, t6, t7, t8⟩ := (unhide HROW).bel (unhide B5)
        clear t0 t1 t3 t4 t5 t6 t7 t8
        have g4 : (h1 != 1) = true := by simpa using g3
        go_wp2_with fail
        refine (unhide CK _).mono ?_
        rintro e w6 ⟨rfl, bel⟩
        have B6 := hide (below_on (unhide B5) bel)
        clear bel c0 c1
        go_wp2
        go_ret
        exact ⟨rfl, unhide B6⟩
end Go.Proofs.Ytndhjfpjhpnbaaa.Lex
