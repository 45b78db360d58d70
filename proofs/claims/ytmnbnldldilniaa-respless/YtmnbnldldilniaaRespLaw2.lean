/- The laws of chapter 12, over what package resp answers: less blocking. -/
import Derived.Test.YtmnbnldldilniaaRespLaw
namespace Go.Proofs.Ytmnbnldldilniaa.Lex
open Go.ChangeShapes Go.WideShapes Go.RowKit

theorem with_three {s : SetV} {i b : Int} : withH s i b = 3 ↔ busyO s i b = none := by
  rw [withH]
  cases busyO s i b with
  | none => simp
  | some L => simp only [reduceCtorEq, iff_false]; split <;> decide
theorem with_less {s : SetV} (ha : allB s = true) (hu : ∀ t ∈ s.ts, U64 t.ecb ∧ U64 t.ucb) {i b less : Int} (h0 : 0 ≤ less ∧ less ≤ b) (h : withH s i b ≠ 3) : withH s i (b - less) ≠ 3 ∧ withR s i (b - less) ≤ withR s i b := by
  cases hB : busyO s i b with
  | none => exact absurd (with_three.2 hB) h
  | some L =>
    have hin := busy_in hB
    simp only [inI, Bool.and_eq_true, decide_eq_true_eq] at hin
    obtain ⟨k, rfl⟩ : ∃ k : Nat, i = k := ⟨i.toNat, by omega⟩
    obtain ⟨L', hB', hle⟩ := resp_less ha hu (by omega) h0 hB
    refine ⟨fun e => ?_, hle⟩
    rw [with_three.1 e] at hB'
    cases hB'
set_option maxHeartbeats 1600000 in
theorem rless_law (hW : CWith) (hO : CROf) (s : SetV) (i b less : Int) (w : World) (hs : SetIn w s) (hi : I64 i) (hb0 : I64 b) (_ : I64 less) : Calls Try.prog 4 #[s.val, .int .i64 i, .int .i64 b, .int .i64 less] w fun e w' => e = .returned (.bool true) ∧ Below w.heap.size w w' := by
  have hlen := hs.len
  have CK := hide (fun w => zknown_any hO w)
  have CM := hide (fun w h => rmay12_any s w h)
  have hu : ∀ t ∈ s.ts, U64 t.ecb ∧ U64 t.ucb := fun t ht => ⟨(hs.each t ht).ecb, (hs.each t ht).ucb⟩
  have C1 := hide (fun hb w h => hW s i b w h hb hi hb0)
  have C2 := hide (fun hb (h0 : 0 ≤ less ∧ less ≤ b) w h => hW s i (b - less) w h hb hi (by unfold I64 at *; omega))
  have HF := hide (fun hb h0 h => with_less (i := i) (b := b) (less := less) hb hu h0 h)
  have HIN := hide hs
  clear hO hW hu hs hi
  generalize withR s i (b - less) = R2 at *
  generalize withH s i (b - less) = H2 at *
  generalize withR s i b = R1 at *
  generalize withH s i b = H1 at *
  go_enter Try.func4, Try.ntmps4
  rw [SetV.val]
  go_wp2_with fail
  refine (unhide CM _ (set_bel (unhide HIN) ((Below.refl _ _).alloc (Nat.le_refl _) _))).mono ?_
  rintro e w1 ⟨o, rfl, ho, bel⟩
  have B1 := hide (bel_box (Below.refl _ _) bel)
  have X1 := hide ((sbox_new w s 24).bel bel)
  obtain ⟨c0, c1⟩ := unhide X1
  have HO := hide ho
  clear bel ho
  cases o with
  | false =>
    go_wp2
    go_ret
    exact ⟨rfl, unhide B1⟩
  | true =>
    by_cases l0 : less < 0
    · go_wp2
      go_ret
      exact ⟨rfl, unhide B1⟩
    by_cases l1 : b < less
    · go_wp2
      go_ret
      exact ⟨rfl, unhide B1⟩
    have hb := (unhide HO rfl).1
    have e1 : IntKind.i64.wrap (b - less) = b - less := i64_is _ (by unfold I64 at *; omega)
    have C1' := hide (unhide C1 hb)
    have C2' := hide (unhide C2 hb ⟨by omega, by omega⟩)
    have hf := unhide HF hb ⟨by omega, by omega⟩
    have HFF := hide hf
    clear hb C1 C2 hf HF HO hb0
    go_wp2_with fail
    refine (unhide C1' _ (set_bel (unhide HIN) (unhide B1))).mono ?_
    rintro e w2 ⟨rfl, bel⟩
    have B2 := hide (below_on (unhide B1) bel)
    have X2 := hide ((unhide X1).bel bel)
    clear bel c0 c1
    obtain ⟨c0, c1⟩ := unhide X2
    go_wp2_with fail
    refine (unhide C2' _ (set_bel (unhide HIN) (unhide B2))).mono ?_
    rintro e w3 ⟨rfl, bel⟩
    have B3 := hide (below_on (unhide B2) bel)
    clear bel c0 c1
    by_cases h3 : H1 = 3
    · subst h3
      clear HFF
      go_wp2_with fail
      refine (unhide CK _).mono ?_
      rintro e w4 ⟨rfl, bel⟩
      have B4 := hide (below_on (unhide B3) bel)
      clear bel
      go_wp2
      go_ret
      exact ⟨rfl, unhide B4⟩
    · obtain ⟨g1, g2⟩ := unhide HFF h3
      have h3' : (H1 == 3) = false := beq_eq_false_iff_ne.2 h3
      have g1' : (H2 == 3) = false := beq_eq_false_iff_ne.2 g1
      have g1'' : (H2 != 3) = true := by simpa using g1
      go_wp2_with fail
      refine (unhide CK _).mono ?_
      rintro e w4 ⟨rfl, bel⟩
      have B4 := hide (below_on (unhide B3) bel)
      clear bel
      go_wp2
      go_ret
      exact ⟨rfl, unhide B4⟩
end Go.Proofs.Ytmnbnldldilniaa.Lex
