/- The laws of chapter 10, over what package fix answers: no lesser time. -/
import Derived.Test.YthojadjddhmmjaaFixLaw
namespace Go.Proofs.Ythojadjddhmmjaa.Fix
open Go.ChangeShapes Go.WideShapes Go.RowKit

theorem sum_yes {base : Int} {l : List LoadV} {u : Int} (hm : mayB base l = true) (h : 0 ≤ u ∧ u ≤ 1000000) : sumO base l u = true := by rw [sumO, hm, decide_eq_true h.1, decide_eq_true h.2]; rfl
theorem least_may {base : Int} {l : List LoadV} {n : Int} (h : if mayB base l then IsLeast (sumZ base l) (some n) else some n = none) : mayB base l = true ∧ IsLeast (sumZ base l) (some n) := by
  cases hm : mayB base l with
  | false => rw [hm] at h; cases h
  | true => rw [hm] at h; exact ⟨rfl, h⟩
set_option maxHeartbeats 1600000 in
theorem fnone_law (hS : CFSum) (hL : CFLeast) (base : Int) (ao : Option Addr) (cap : Nat) (l : List LoadV) (u : Int) (w : World) (hl : LoadsIn w ao l) (hb : I64 base) (hu : I64 u) : Calls Try.prog 5 #[.int .i64 base, .slice ao l.length cap, .int .i64 u] w fun e w' => e = .returned (.bool true) ∧ Below w.heap.size w w' := by
  have hlen := hl.len
  by_cases h : (20 : Int) < l.length
  · go_enter Try.func5, Try.ntmps5
    go_wp2
    go_ret
    exact ⟨rfl, Below.refl _ _⟩
  have CS := hide (hL base ao cap l w hl hb)
  have CF := hide (fun u W h hu => hS base ao cap l u W h hb hu)
  have CK := hide (fun W => fknown_any hL W)
  have HL := hide hl
  have HU := hide hu
  clear hL hS hl hb hu
  go_enter Try.func5, Try.ntmps5
  go_wp2_with fail
  refine (unhide CS).mono ?_
  rintro e w1 ⟨⟨r, hr, rfl⟩, bel⟩
  have B1 := hide bel
  clear bel
  cases r with
  | none =>
    clear hr
    simp only [valO, Option.getD_none, Option.isSome_none]
    go_wp2_with fail
    refine (unhide CK _).mono ?_
    rintro e w3 ⟨rfl, bel⟩
    have B3 := hide (below_on (unhide B1) bel)
    clear bel
    go_wp2
    go_ret
    exact ⟨rfl, unhide B3⟩
  | some n =>
    obtain ⟨hm, hn⟩ := least_may hr
    simp only [valO, Option.getD_some, Option.isSome_some]
    obtain ⟨⟨n1, n2⟩, hf, hp⟩ := hn
    have CN := hide (unhide CF n w1 ((unhide HL).bel (unhide B1)) (by unfold I64; omega))
    rw [sum_yes hm ⟨by omega, n2⟩, if_pos rfl, hf] at CN
    have HM := hide hm
    have HPP := hide hp
    clear hr hf hp hm
    go_wp2_with fail
    refine (unhide CN).mono ?_
    rintro e w2 ⟨rfl, bel⟩
    have B2 := hide (below_on (unhide B1) bel)
    clear bel CN
    by_cases u1 : u < 1
    · go_wp2_with fail
      refine (unhide CK _).mono ?_
      rintro e w3 ⟨rfl, bel⟩
      have B3 := hide (below_on (unhide B2) bel)
      clear bel
      go_wp2
      go_ret
      exact ⟨rfl, unhide B3⟩
    by_cases u2 : n ≤ u
    · go_wp2_with fail
      refine (unhide CK _).mono ?_
      rintro e w3 ⟨rfl, bel⟩
      have B3 := hide (below_on (unhide B2) bel)
      clear bel
      go_wp2
      go_ret
      exact ⟨rfl, unhide B3⟩
    have CU := hide (unhide CF u w2 ((unhide HL).bel (unhide B2)) (unhide HU))
    rw [sum_yes (unhide HM) ⟨by omega, by omega⟩, if_pos rfl] at CU
    have hlt := unhide HPP u (by omega) (by omega)
    generalize sumZ base l u = v at *
    go_wp2_with fail
    refine (unhide CU).mono ?_
    rintro e w3 ⟨rfl, bel⟩
    have B3 := hide (below_on (unhide B2) bel)
    clear bel
    go_wp2_with fail
    refine (unhide CK _).mono ?_
    rintro e w4 ⟨rfl, bel⟩
    have B4 := hide (below_on (unhide B3) bel)
    clear bel
    go_wp2
    go_ret
    exact ⟨rfl, unhide B4⟩
end Go.Proofs.Ythojadjddhmmjaa.Fix
