/- The laws of chapter 12, over what package resp answers: its work and the blocking, how long it is busy. -/
import Derived.Test.YtmnbnldldilniaaRespLaw3
namespace Go.Proofs.Ytmnbnldldilniaa.Lex
open Go.ChangeShapes Go.WideShapes Go.RowKit

set_option maxHeartbeats 3200000 in
theorem rbusy_law (hW : CWith) (hO : CROf) (hA : CAOf) (s : SetV) (i b : Int) (w : World) (hs : SetIn w s) (hi : I64 i) (hb0 : I64 b) : Calls Try.prog 6 #[s.val, .int .i64 i, .int .i64 b] w fun e w' => e = .returned (.bool true) ∧ Below w.heap.size w w' := by
  have hlen := hs.len
  have CK := hide (fun w => zknown_any hO w)
  have CM := hide (fun w h => rmay12_any s w h)
  have hu : ∀ t ∈ s.ts, U64 t.ecb ∧ U64 t.ucb := fun t ht => ⟨(hs.each t ht).ecb, (hs.each t ht).ucb⟩
  have C1 := hide (fun hb w h => hW s i b w h hb hi hb0)
  have C2 := hide (fun hb w h => hA s i b w h hb hi hb0)
  have HU := hide hu
  have HIN := hide hs
  have HBX := hide (sbox_new w s 24)
  clear hu hs hi
  go_enter Try.func6, Try.ntmps6
  rw [SetV.val]
  go_wp2_with fail
  refine (unhide CM _ (set_bel (unhide HIN) ((Below.refl _ _).alloc (Nat.le_refl _) _))).mono ?_
  rintro e w1 ⟨o, rfl, ho, bel⟩
  have B1 := hide (bel_box (Below.refl _ _) bel)
  have X1 := hide ((unhide HBX).bel bel)
  obtain ⟨c0, c1⟩ := unhide X1
  have HO := hide ho
  clear bel ho
  cases o with
  | false =>
    go_wp2
    go_ret
    exact ⟨rfl, unhide B1⟩
  | true =>
    by_cases q0 : i < 0
    · go_wp2
      go_ret
      exact ⟨rfl, unhide B1⟩
    by_cases q1 : (s.ts.length : Int) ≤ i
    · go_wp2
      go_ret
      exact ⟨rfl, unhide B1⟩
    have hb := (unhide HO rfl).1
    obtain ⟨k, rfl⟩ : ∃ k : Nat, i = k := ⟨i.toNat, by omega⟩
    have hk : k < s.ts.length := by omega
    have C1' := hide (unhide C1 hb)
    have C2' := hide (unhide C2 hb)
    cases hB : busyO s k b with
    | none =>
      have e1 : withH s k b = 3 := with_three.2 hB
      rw [e1] at C1'
      have HB := hide hB
      clear hB e1 C1 C2 HO hb0 hb
      generalize withR s k b = R at *
      go_wp2_with fail
      refine (unhide C1' _ (set_bel (unhide HIN) (unhide B1))).mono ?_
      rintro e w2 ⟨rfl, bel⟩
      have B2 := hide (below_on (unhide B1) bel)
      have X2 := hide ((unhide X1).bel bel)
      clear bel c0 c1
      obtain ⟨c0, c1⟩ := unhide X2
      go_wp2_with fail
      refine (unhide C2' _ (set_bel (unhide HIN) (unhide B2))).mono ?_
      rintro e w3 ⟨hp, bel⟩
      obtain rfl := ofp_busy hp
      rw [unhide HB]
      have B3 := hide (below_on (unhide B2) bel)
      clear bel hp c0 c1
      simp only [Fix.valO, Option.getD_none, Option.isSome_none]
      go_wp2_with fail
      refine (unhide CK _).mono ?_
      rintro e w9 ⟨rfl, bel⟩
      have B9 := hide (below_on (unhide B3) bel)
      clear bel
      go_wp2
      go_ret
      exact ⟨rfl, unhide B9⟩
    | some L =>
      obtain ⟨-, -, g2, g3⟩ := with_work hb (unhide HU) hk hB
      have h3 : withH s k b ≠ 3 := by rw [g3]; split <;> decide
      have HB := hide hB
      clear hB g3 C1 C2 HO hb0 hb
      generalize withR s k b = R at *
      generalize withH s k b = H at *
      have h3' : (H == 3) = false := beq_eq_false_iff_ne.2 h3
      go_wp2_with fail
      refine (unhide C1' _ (set_bel (unhide HIN) (unhide B1))).mono ?_
      rintro e w2 ⟨rfl, bel⟩
      have B2 := hide (below_on (unhide B1) bel)
      have X2 := hide ((unhide X1).bel bel)
      clear bel c0 c1
      obtain ⟨c0, c1⟩ := unhide X2
      go_wp2_with fail
      refine (unhide C2' _ (set_bel (unhide HIN) (unhide B2))).mono ?_
      rintro e w3 ⟨hp, bel⟩
      obtain rfl := ofp_busy hp
      rw [unhide HB]
      have B3 := hide (below_on (unhide B2) bel)
      clear bel hp c0 c1
      simp only [Fix.valO, Option.getD_some, Option.isSome_some]
      go_wp2_with fail
      refine (unhide CK _).mono ?_
      rintro e w9 ⟨rfl, bel⟩
      have B9 := hide (below_on (unhide B3) bel)
      clear bel
      go_wp2
      go_ret
      exact ⟨rfl, unhide B9⟩
set_option maxHeartbeats 3200000 in
theorem rwork_law (hW : CWith) (hO : CROf) (s : SetV) (i b : Int) (w : World) (hs : SetIn w s) (hi : I64 i) (hb0 : I64 b) : Calls Try.prog 5 #[s.val, .int .i64 i, .int .i64 b] w fun e w' => e = .returned (.bool true) ∧ Below w.heap.size w w' := by
  have hlen := hs.len
  have CK := hide (fun w => zknown_any hO w)
  have CM := hide (fun w h => rmay12_any s w h)
  have hu : ∀ t ∈ s.ts, U64 t.ecb ∧ U64 t.ucb := fun t ht => ⟨(hs.each t ht).ecb, (hs.each t ht).ucb⟩
  have C1 := hide (fun hb w h => hW s i b w h hb hi hb0)
  have HU := hide hu
  have HIN := hide hs
  have HBX := hide (sbox_new w s 24)
  clear hu hs hi
  go_enter Try.func5, Try.ntmps5
  rw [SetV.val]
  go_wp2_with fail
  refine (unhide CM _ (set_bel (unhide HIN) ((Below.refl _ _).alloc (Nat.le_refl _) _))).mono ?_
  rintro e w1 ⟨o, rfl, ho, bel⟩
  have B1 := hide (bel_box (Below.refl _ _) bel)
  have X1 := hide ((unhide HBX).bel bel)
  obtain ⟨c0, c1⟩ := unhide X1
  have HO := hide ho
  clear bel ho
  cases o with
  | false =>
    go_wp2
    go_ret
    exact ⟨rfl, unhide B1⟩
  | true =>
    by_cases q0 : i < 0
    · go_wp2
      go_ret
      exact ⟨rfl, unhide B1⟩
    by_cases q1 : (s.ts.length : Int) ≤ i
    · go_wp2
      go_ret
      exact ⟨rfl, unhide B1⟩
    by_cases q2 : b < 0
    · go_wp2
      go_ret
      exact ⟨rfl, unhide B1⟩
    have hb := (unhide HO rfl).1
    obtain ⟨k, rfl⟩ : ∃ k : Nat, i = k := ⟨i.toNat, by omega⟩
    have hk : k < s.ts.length := by omega
    have C1' := hide (unhide C1 hb)
    have hne : s.ts ≠ [] := fun e => by rw [e] at hk; simp at hk
    obtain ⟨sb, so, hao, ht⟩ := set_task (unhide HIN) hne
    have HROW := hide (ht k hk).1
    have HAO := hide hao
    clear hao
    obtain ⟨hr, h8, -, hfit⟩ := all_fits hb (unhide HU)
    have htt := (task_time (hfit k hk).is).2
    have CW := hide (fun w h => rwork8_any s k w h hk (is_regs8 (hfit k hk).is))
    clear ht hr hfit
    cases hB : busyO s k b with
    | none =>
      have e1 : withH s k b = 3 := with_three.2 hB
      rw [e1] at C1'
      clear hB e1 C1 HO hb0 hb
      generalize withR s k b = R at *
      go_wp2_with fail
      refine (unhide C1' _ (set_bel (unhide HIN) (unhide B1))).mono ?_
      rintro e w2 ⟨rfl, bel⟩
      have B2 := hide (below_on (unhide B1) bel)
      have X2 := hide ((unhide X1).bel bel)
      clear bel c0 c1
      obtain ⟨c0, c1⟩ := unhide X2
      clear c0 c1
      go_wp2_with fail
      refine (unhide CK _).mono ?_
      rintro e w9 ⟨rfl, bel⟩
      have B9 := hide (below_on (unhide B2) bel)
      clear bel
      go_wp2
      go_ret
      exact ⟨rfl, unhide B9⟩
    | some L =>
      obtain ⟨⟨g00, g01⟩, g1, -, g3⟩ := with_work hb (unhide HU) hk hB
      clear hB
      by_cases hD : withR s k b ≤ (s.ts.getD k task0).D
      · have hD0 := hD
        have e1 : withH s k b = 1 := by rw [g3, if_pos hD]
        rw [e1] at C1'
        clear e1 g3 C1 HO hb0 hb
        generalize withR s k b = R at *
        generalize workZ (s.ts.getD k task0).regs = wk at *
        have w0 : IntKind.i64.wrap (b + wk) = b + wk := i64_is _ (by omega)
        go_wp2_with fail
        refine (unhide C1' _ (set_bel (unhide HIN) (unhide B1))).mono ?_
        rintro e w2 ⟨rfl, bel⟩
        have B2 := hide (below_on (unhide B1) bel)
        have X2 := hide ((unhide X1).bel bel)
        clear bel c0 c1
        obtain ⟨c0, c1⟩ := unhide X2
        go_wp2_with fail
        refine (unhide CW _ (set_bel (unhide HIN) (unhide B2))).mono ?_
        rintro e w3 ⟨rfl, bel⟩
        have B3 := hide (below_on (unhide B2) bel)
        have X3 := hide ((unhide X2).bel bel)
        clear bel c0 c1
        obtain ⟨c0, c1⟩ := unhide X3
        obtain ⟨-, -, t2, -, -, -, -, -, -⟩ := (unhide HROW).bel (unhide B3)
        rw [unhide HAO] at c1
        generalize s.ts.getD k task0 = t at *
        have hk1 : (0 : Int) ≤ (k : Int) := by omega
        have hk2 : (k : Int) < (s.ts.length : Int) := by omega
        go_wp2_with fail
        refine (unhide CK _).mono ?_
        rintro e w9 ⟨rfl, bel⟩
        have B9 := hide (below_on (unhide B3) bel)
        clear bel
        go_wp2
        go_ret
        exact ⟨rfl, unhide B9⟩
      · have hD0 := hD
        have e1 : withH s k b = 2 := by rw [g3, if_neg hD]
        rw [e1] at C1'
        clear e1 g3 C1 HO hb0 hb
        generalize withR s k b = R at *
        generalize workZ (s.ts.getD k task0).regs = wk at *
        have w0 : IntKind.i64.wrap (b + wk) = b + wk := i64_is _ (by omega)
        go_wp2_with fail
        refine (unhide C1' _ (set_bel (unhide HIN) (unhide B1))).mono ?_
        rintro e w2 ⟨rfl, bel⟩
        have B2 := hide (below_on (unhide B1) bel)
        have X2 := hide ((unhide X1).bel bel)
        clear bel c0 c1
        obtain ⟨c0, c1⟩ := unhide X2
        go_wp2_with fail
        refine (unhide CW _ (set_bel (unhide HIN) (unhide B2))).mono ?_
        rintro e w3 ⟨rfl, bel⟩
        have B3 := hide (below_on (unhide B2) bel)
        have X3 := hide ((unhide X2).bel bel)
        clear bel c0 c1
        obtain ⟨c0, c1⟩ := unhide X3
        obtain ⟨-, -, t2, -, -, -, -, -, -⟩ := (unhide HROW).bel (unhide B3)
        rw [unhide HAO] at c1
        generalize s.ts.getD k task0 = t at *
        have hk1 : (0 : Int) ≤ (k : Int) := by omega
        have hk2 : (k : Int) < (s.ts.length : Int) := by omega
        go_wp2_with fail
        refine (unhide CK _).mono ?_
        rintro e w9 ⟨rfl, bel⟩
        have B9 := hide (below_on (unhide B3) bel)
        clear bel
        go_wp2
        go_ret
        exact ⟨rfl, unhide B9⟩
end Go.Proofs.Ytmnbnldldilniaa.Lex
