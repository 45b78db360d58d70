/- The laws of chapter 10, over what package fix answers. -/
import Derived.Test.YthojadjddhmmjaaFixRef
namespace Go.Proofs.Ythojadjddhmmjaa.Fix
open Go.ChangeShapes Go.WideShapes Go.RowKit

/- what package fix must be shown to answer -/
def CFSum : Prop := ∀ (base : Int) (ao : Option Addr) (cap : Nat) (l : List LoadV) (u : Int) (w : World), LoadsIn w ao l → I64 base → I64 u → Calls Try.prog 8 #[.int .i64 base, .slice ao l.length cap, .int .i64 u] w fun e w' => e = .returned (.tuple #[.int .i64 (if sumO base l u then sumZ base l u else 0), .bool (sumO base l u)]) ∧ Below w.heap.size w w'
def CFLeast : Prop := ∀ (base : Int) (ao : Option Addr) (cap : Nat) (l : List LoadV) (w : World), LoadsIn w ao l → I64 base → Calls Try.prog 11 #[.int .i64 base, .slice ao l.length cap] w fun e w' => LeastP base l e ∧ Below w.heap.size w w'
theorem leastP_is {base : Int} {l : List LoadV} {e : Ending} (h : LeastP base l e) {r : Option Int} (k : if mayB base l then IsLeast (sumZ base l) r else r = none) : e = .returned (.tuple #[.int .i64 (valO r), .bool r.isSome]) := by
  obtain ⟨q, hq, rfl⟩ := h
  cases hm : mayB base l with
  | false => rw [hm] at hq k; rw [show q = none from hq, show r = none from k]
  | true => rw [hm] at hq k; rw [least_one (show IsLeast _ q from hq) (show IsLeast _ r from k)]
theorem one_in {w : World} {g : Nat} {t c : Int} (ht : I64 t) (hc : I64 c) (h0 : w.cell? ⟨g, 0, none⟩ = some (.int .i64 t)) (h1 : w.cell? ⟨g, 1, none⟩ = some (.int .i64 c)) : LoadsIn w (some ⟨g, 0, none⟩) [⟨t, c⟩] :=
  ⟨fun _ => ⟨g, 0, rfl, fun j hj => by
    have : j = 0 := by simp at hj; omega
    subst this
    exact ⟨h0, h1⟩⟩, by simp, fun x hx => by
    have : x = ⟨t, c⟩ := by simpa using hx
    subst this; exact ⟨ht, hc⟩⟩
theorem known_least : IsLeast (sumZ 3 [⟨4, 1⟩]) (some 4) := by
  refine ⟨by decide, by decide, fun w h1 h2 => ?_⟩
  have hc : ceilZ w 4 = 1 := by unfold ceilZ; omega
  have e : sumZ 3 [⟨4, 1⟩] w = 3 + ceilZ w 4 * 1 := rfl
  rw [e, hc]; omega
theorem fknown_any (hL : CFLeast) (w : World) : Calls Try.prog 10 #[] w fun e w' => e = .returned (.bool true) ∧ Below w.heap.size w w' := by
  have CL := hide (fun W h => hL 3 (some ⟨w.heap.size, 0, none⟩) 1 [⟨4, 1⟩] W h (by simp [I64]))
  have HB := hide ((Below.refl w.heap.size w).alloc (Nat.le_refl _) (.cells #[.int .i64 4, .int .i64 1] 31))
  clear hL
  go_enter Try.func10, Try.ntmps10
  go_wp2_with fail
  refine (unhide CL _ (one_in (by simp [I64]) (by simp [I64]) (by simp) (by simp))).mono ?_
  rintro e w1 ⟨hp, bel⟩
  obtain rfl := leastP_is hp (r := some 4) (by rw [if_pos (by decide)]; exact known_least)
  have B1 := hide ((unhide HB).trans (bel.mono (by simp)))
  clear bel hp
  simp only [valO, Option.getD_some, Option.isSome_some]
  go_wp2
  go_ret
  exact ⟨rfl, unhide B1⟩
theorem fsums_law (hS : CFSum) (hL : CFLeast) (base : Int) (ao : Option Addr) (cap : Nat) (l : List LoadV) (u : Int) (w : World) (hl : LoadsIn w ao l) (hb : I64 base) (hu : I64 u) : Calls Try.prog 3 #[.int .i64 base, .slice ao l.length cap, .int .i64 u] w fun e w' => e = .returned (.bool true) ∧ Below w.heap.size w w' := by
  have hlen := hl.len
  by_cases h : (100 : Int) < l.length
  · go_enter Try.func3, Try.ntmps3
    go_wp2
    go_ret
    exact ⟨rfl, Below.refl _ _⟩
  have CS := hide (hS base ao cap l u w hl hb hu)
  have CR := hide (fun W h => rSum_any base ao cap l u W h)
  have CK := hide (fun W => fknown_any hL W)
  have HL := hide hl
  clear hS hL hl
  generalize (if sumO base l u then sumZ base l u else 0) = v at *
  generalize sumO base l u = o at *
  go_enter Try.func3, Try.ntmps3
  go_wp2_with fail
  refine (unhide CS).mono ?_
  rintro e w1 ⟨rfl, bel⟩
  have B1 := hide bel
  clear bel
  go_wp2_with fail
  refine (unhide CR _ ((unhide HL).bel (unhide B1))).mono ?_
  rintro e w2 ⟨rfl, bel⟩
  have B2 := hide (below_on (unhide B1) bel)
  clear bel
  go_wp2_with fail
  refine (unhide CK _).mono ?_
  rintro e w3 ⟨rfl, bel⟩
  have B3 := hide (below_on (unhide B2) bel)
  clear bel
  go_wp2
  go_ret
  exact ⟨rfl, unhide B3⟩
theorem fleast_law (hL : CFLeast) (base : Int) (ao : Option Addr) (cap : Nat) (l : List LoadV) (w : World) (hl : LoadsIn w ao l) (hb : I64 base) : Calls Try.prog 4 #[.int .i64 base, .slice ao l.length cap] w fun e w' => e = .returned (.bool true) ∧ Below w.heap.size w w' := by
  have hlen := hl.len
  by_cases h : (100 : Int) < l.length
  · go_enter Try.func4, Try.ntmps4
    go_wp2
    go_ret
    exact ⟨rfl, Below.refl _ _⟩
  have CS := hide (hL base ao cap l w hl hb)
  have CR := hide (fun W h => rLeast_any base ao cap l W h)
  have CK := hide (fun W => fknown_any hL W)
  have HL := hide hl
  clear hL hl
  go_enter Try.func4, Try.ntmps4
  go_wp2_with fail
  refine (unhide CS).mono ?_
  rintro e w1 ⟨⟨r, hr, rfl⟩, bel⟩
  have B1 := hide bel
  have HR := hide (fun e => leastP_is (e := e) (r := r) (base := base) (l := l))
  have HQ := hide hr
  clear bel hr
  generalize valO r = v at *
  generalize r.isSome = o at *
  go_wp2_with fail
  refine (unhide CR _ ((unhide HL).bel (unhide B1))).mono ?_
  rintro e w2 ⟨hp, bel⟩
  obtain rfl := unhide HR e hp (unhide HQ)
  have B2 := hide (below_on (unhide B1) bel)
  clear bel hp HR HQ
  go_wp2_with fail
  refine (unhide CK _).mono ?_
  rintro e w3 ⟨rfl, bel⟩
  have B3 := hide (below_on (unhide B2) bel)
  clear bel
  go_wp2
  go_ret
  exact ⟨rfl, unhide B3⟩
end Go.Proofs.Ythojadjddhmmjaa.Fix
