/- What package fix answers: for all numbers and all rows of loads. -/
import Derived.Test.YtndhjfpjhpnbaaaFixLaw
import Derived.Test.YtndhjfpjhpnbaaaNum
import Derived.Test.YtndhjfpjhpnbaaaLexFlow
namespace Go.Proofs.Ytndhjfpjhpnbaaa.Fix
set_option maxRecDepth 100000
open Go.ChangeShapes Go.WideShapes Go.RowKit

def fromB (a n : Int) : Bool := decide (a ≤ n) && decide (n ≤ 1000000)
theorem isFrom_any (a n : Int) (w : World) : Calls Try.prog 68 #[.int .i64 a, .int .i64 n] w fun e w' => e = .returned (.bool (fromB a n)) ∧ w' = w := by
  by_cases h0 : a ≤ n
  · by_cases h1 : n ≤ 1000000
    · have H : Hid (fromB a n = true) := hide (by simp [fromB, h0, h1])
      go_enter Try.func68, Try.ntmps68
      go_wp2
      go_ret
      exact ⟨Num.ret_bool (unhide H).symm, rfl⟩
    · have H : Hid (fromB a n = false) := hide (by simp [fromB]; omega)
      go_enter Try.func68, Try.ntmps68
      go_wp2
      go_ret
      exact ⟨Num.ret_bool (unhide H).symm, rfl⟩
  · have H : Hid (fromB a n = false) := hide (by simp [fromB]; omega)
    go_enter Try.func68, Try.ntmps68
    go_wp2
    go_ret
    exact ⟨Num.ret_bool (unhide H).symm, rfl⟩
theorem may_from (base : Int) (l : List LoadV) : mayB base l = (fromB 0 base && (decide (l.length ≤ 64) && l.all loadB)) := by simp [mayB, fromB, Bool.and_assoc]
theorem load_from (x : LoadV) : loadB x = (fromB 1 x.T && fromB 0 x.C) := by simp [loadB, fromB, Bool.and_assoc]
theorem ceil_same {u t : Int} (hu : 0 ≤ u ∧ u ≤ 1000000) (ht : 1 ≤ t ∧ t ≤ 1000000) : Num.ceilV u t = ceilZ u t := by
  have hd : Num.divB u t = true := by simp [Num.divB, Num.areB, Num.isB]; omega
  rw [Num.ceilV, if_pos hd, ceilZ]
  have e : t * (u / t) + u % t = u := Int.mul_ediv_add_emod u t
  have h0 := Int.emod_nonneg u (show t ≠ 0 by omega)
  have h1 := Int.emod_lt_of_pos u (show 0 < t by omega)
  have e2 : u + t - 1 = (u % t + t - 1) + t * (u / t) := by omega
  rw [e2, Int.add_mul_ediv_left _ _ (by omega)]
  by_cases hm : u % t = 0
  · rw [if_pos hm, hm, Int.ediv_eq_zero_of_lt (show (0 : Int) ≤ 0 + t - 1 by omega) (by omega)]; omega
  · rw [if_neg hm, show u % t + t - 1 = (u % t - 1) + t * 1 by omega, Int.add_mul_ediv_left _ _ (by omega), Int.ediv_eq_zero_of_lt (show (0 : Int) ≤ u % t - 1 by omega) (by omega)]; omega
set_option maxHeartbeats 1600000 in
theorem may_any (base : Int) (ao : Option Addr) (cap : Nat) (l : List LoadV) (w : World) (hl : LoadsIn w ao l) : Calls Try.prog 61 #[.int .i64 base, .slice ao l.length cap] w fun e w' => e = .returned (.bool (mayB base l)) ∧ Below w.heap.size w w' := by
  have hlen := hl.len
  have HL := hide hl
  have hE := may_from base l
  have CF := hide (fun a n w => isFrom_any a n w)
  have C0 := hide (isFrom_any 0 base w)
  clear hl
  cases h0 : fromB 0 base
  · rw [h0] at hE C0
    have HE := hide hE
    clear hE h0 HL
    go_enter Try.func61, Try.ntmps61
    go_wp2_with fail
    refine (unhide C0).mono ?_
    rintro e w1 ⟨rfl, hw⟩
    rw [hw]; clear hw w1
    go_wp2
    go_ret
    exact ⟨by rw [unhide HE]; rfl, Below.refl _ _⟩
  rw [h0] at hE C0
  by_cases h2 : (64 : Int) < l.length
  · rw [decide_eq_false (p := l.length ≤ 64) (by omega)] at hE
    have HE := hide hE
    clear hE h0 HL
    go_enter Try.func61, Try.ntmps61
    go_wp2_with fail
    refine (unhide C0).mono ?_
    rintro e w1 ⟨rfl, hw⟩
    rw [hw]; clear hw w1
    go_wp2
    go_ret
    exact ⟨by rw [unhide HE]; rfl, Below.refl _ _⟩
  rw [decide_eq_true (p := l.length ≤ 64) (by omega)] at hE
  have HT : Hid (mayB base l = l.all loadB) := hide (by rw [hE]; rfl)
  clear hE h0
  generalize mayB base l = R at *
  go_enter Try.func61, Try.ntmps61
  go_wp2_with fail
  refine (unhide C0).mono ?_
  rintro e w1 ⟨rfl, hw⟩
  rw [hw]; clear hw w1
  go_wp2
  go_loopw [17] (fun i wr => ∃ k : Nat, k ≤ l.length ∧ i = .int .i64 k ∧ (l.take k).all loadB = true ∧ Below w.heap.size w wr) (fun i _ => l.length - (intOf i).toNat)
  case atStart => exact ⟨0, Nat.zero_le _, rfl, rfl, Below.refl _ _⟩
  case round =>
    obtain ⟨k, hk, rfl, ha, hbel⟩ := hrel
    have B1 := hide hbel
    have LK := hide ((unhide HL).bel hbel)
    clear hbel
    by_cases hlt : k < l.length
    · obtain ⟨b, off, rfl, hc⟩ := (unhide LK).row (fun e => by rw [e] at hlt; simp at hlt)
      obtain ⟨t0, t1⟩ := hc k hlt
      have hs := all_take l k hlt
      have hno := fun h => all_no (l := l) (k := k) hlt h
      have hld := load_from (l.getD k load0)
      rw [ha] at hs
      have HS := hide hs
      have HN := hide hno
      clear hs hno hc ha
      generalize l.getD k load0 = x at *
      obtain ⟨T, C⟩ := x
      simp only at t0 t1 hld
      have BA := hide ((unhide B1).alloc (unhide B1).size (.cells #[.int .i64 T, .int .i64 C] 52))
      have CT := hide (fun w => isFrom_any 1 T w)
      have CC := hide (fun w => isFrom_any 0 C w)
      cases g0 : fromB 1 T
      · rw [g0] at hld CT
        have HLD := hide hld
        clear hld g0
        go_wp2_with fail
        refine (unhide CT _).mono ?_
        rintro e w1 ⟨rfl, hw⟩
        rw [hw]; clear hw w1
        go_wp2
        go_ret
        exact ⟨by rw [unhide HT, unhide HN (unhide HLD)]; rfl, unhide BA⟩
      cases g1 : fromB 0 C
      · rw [g0, g1] at hld
        rw [g0] at CT
        rw [g1] at CC
        have HLD := hide hld
        clear hld g0 g1
        go_wp2_with fail
        refine (unhide CT _).mono ?_
        rintro e w1 ⟨rfl, hw⟩
        rw [hw]; clear hw w1
        go_wp2_with fail
        refine (unhide CC _).mono ?_
        rintro e w1 ⟨rfl, hw⟩
        rw [hw]; clear hw w1
        go_wp2
        go_ret
        exact ⟨by rw [unhide HT, unhide HN (unhide HLD)]; rfl, unhide BA⟩
      rw [g0, g1] at hld
      rw [g0] at CT
      rw [g1] at CC
      have HY : Hid ((l.take (k + 1)).all loadB = true) := hide (by rw [unhide HS, hld]; rfl)
      clear hld g0 g1 HS HN
      go_wp2_with fail
      refine (unhide CT _).mono ?_
      rintro e w1 ⟨rfl, hw⟩
      rw [hw]; clear hw w1
      go_wp2_with fail
      refine (unhide CC _).mono ?_
      rintro e w1 ⟨rfl, hw⟩
      rw [hw]; clear hw w1
      go_wp2
      go_roundw
      case rel => exact ⟨k + 1, by omega, by go_num, unhide HY, unhide BA⟩
      case measure => simp [intOf]; omega
    · have e : k = l.length := by omega
      subst e
      rw [List.take_length] at ha
      go_wp2
      go_ret
      exact ⟨by rw [unhide HT, ha]; rfl, unhide B1⟩
set_option maxHeartbeats 1600000 in
theorem sum_any (base : Int) (ao : Option Addr) (cap : Nat) (l : List LoadV) (u : Int) (w : World) (hl : LoadsIn w ao l) (hm : mayB base l = true) (hu : 0 ≤ u ∧ u ≤ 1000000) : Calls Try.prog 62 #[.int .i64 base, .slice ao l.length cap, .int .i64 u] w fun e w' => e = .returned (.int .i64 (sumZ base l u)) ∧ Below w.heap.size w w' := by
  have hlen := hl.len
  have HL := hide hl
  obtain ⟨hb, h64, hok⟩ := may_parts hm
  have HO := hide hok
  have HS := hide (fun k => sum_range (l.take k) base u (fun x hx => hok x (List.mem_of_mem_take hx)) hu)
  clear hl hm hok
  go_enter Try.func62, Try.ntmps62
  go_wp2
  go_loopw [0, 13] (fun v i wr => ∃ k : Nat, k ≤ l.length ∧ i = .int .i64 k ∧ v = .int .i64 (sumZ base (l.take k) u) ∧ Below w.heap.size w wr) (fun _ i _ => l.length - (intOf i).toNat)
  case atStart => exact ⟨0, Nat.zero_le _, rfl, rfl, Below.refl _ _⟩
  case round =>
    obtain ⟨k, hk, rfl, rfl, hbel⟩ := hrel
    have B1 := hide hbel
    have LK := hide ((unhide HL).bel hbel)
    clear hbel
    by_cases hlt : k < l.length
    · obtain ⟨b, off, rfl, hc⟩ := (unhide LK).row (fun e => by rw [e] at hlt; simp at hlt)
      obtain ⟨t0, t1⟩ := hc k hlt
      have hx := unhide HO _ (load_in hlt)
      have hs := unhide HS k
      have hkl : ((l.take k).length : Int) ≤ 64 := by rw [List.length_take]; omega
      have hnx : sumZ base (l.take (k + 1)) u = sumZ base (l.take k) u + (l.getD k load0).C * ceilZ u (l.getD k load0).T := by rw [load_take l k hlt, sum_snoc, Int.mul_comm]; rfl
      have CC := hide (fun w => Num.ceil_any u (l.getD k load0).T w)
      rw [ceil_same hu hx.1] at CC
      have ha := add_range hx hu
      have ha2 : addZ u (l.getD k load0) = (l.getD k load0).C * ceilZ u (l.getD k load0).T := Int.mul_comm ..
      have HNX := hide hnx
      rw [ha2] at ha
      clear hnx hc ha2
      generalize sumZ base (l.take k) u = V at *
      generalize ((l.take k).length : Int) = q9 at *
      generalize l.getD k load0 = x at *
      obtain ⟨T, C⟩ := x
      simp only at t0 t1 hx ha CC HNX
      generalize ceilZ u T = Q at *
      generalize Num.divB u T = D at *
      have e3 : IntKind.i64.wrap (C * Q) = C * Q := i64_is _ (by omega)
      have e4 : IntKind.i64.wrap (V + C * Q) = V + C * Q := i64_is _ (by omega)
      have BA := hide ((unhide B1).alloc (unhide B1).size (.cells #[.int .i64 T, .int .i64 C] 52))
      clear hx hs ha
      go_wp2_with fail
      refine (unhide CC _).mono ?_
      rintro e w1 ⟨rfl, hw⟩
      rw [hw]; clear hw w1
      go_wp2
      go_roundw
      case rel => exact ⟨k + 1, by omega, by go_num, by rw [unhide HNX], unhide BA⟩
      case measure => simp [intOf]; omega
    · have e : k = l.length := by omega
      subst e
      rw [List.take_length]
      go_wp2
      go_ret
      exact ⟨rfl, unhide B1⟩
theorem sum_o {base : Int} {l : List LoadV} {u : Int} : sumO base l u = (mayB base l && fromB 0 u) := rfl
/- at the label: what comes is known, and is no more than Top -/
def AtL (base : Int) (ao : Option Addr) (cap : Nat) (l : List LoadV) (w : World) (k : Nat) (a' : Act) (w' : World) : Prop := k = 0 ∧ ∃ c : Int, c ≤ 1000000 ∧ Come (sumZ base l) c ∧ Below w.heap.size w w' ∧ ∃ f : Nat → Value, a' = { tmps := #[.int .i64 base, .slice ao l.length cap, f 2, f 3, .int .i64 0, .bool false, f 6, .int .i64 c, f 8, f 9, f 10, f 11, f 12, f 13, f 14, f 15, f 16, f 17, f 18, f 19, f 20, f 21, f 22, f 23, f 24, f 25, f 26, f 27], defers := [] }
def MeaL (_ : Nat) (a : Act) (_ : World) : Nat := (1000001 - intOf (a.tmps.getD 7 undef)).toNat
set_option maxHeartbeats 1600000 in
theorem code_Least : CFLeast := fun base ao cap l w hl hb => by
  have CM := hide (may_any base ao cap l w hl)
  cases hm : mayB base l
  · rw [hm] at CM
    have HM := hide hm
    clear hm hl
    go_enter Try.func47, Try.ntmps47
    go_wp2
    refine wp_scope_straight ?_
    go_wp2_with fail
    refine (unhide CM).mono ?_
    rintro e w1 ⟨rfl, bel⟩
    have B1 := hide bel
    clear bel
    go_wp2
    (try simp only [Exit.noGoto])
    go_ret2
    exact ⟨least_not (unhide HM), unhide B1⟩
  rw [hm] at CM
  obtain ⟨hb0, h64, hok⟩ := may_parts hm
  have CS := hide (fun u (h : 0 ≤ u ∧ u ≤ 1000000) W (hW : Below w.heap.size w W) => sum_any base ao cap l u W (hl.bel hW) hm h)
  have HOK := hide hok
  have HM := hide hm
  have HB := hide hb0.1
  clear hm hok hl hb0
  go_enter Try.func47, Try.ntmps47
  go_wp2
  refine Lex.wp_scope_labels 0 (AtL base ao cap l w) MeaL rfl ?_ ?_
  · rintro k a' wr ⟨rfl, u, hT, hc, hbel, f, rfl⟩
    refine ⟨_, rfl, ?_⟩
    have HC := hide hc
    have BK := hide hbel
    have hu1 := hc.low
    clear hc hbel
    have CU := hide (unhide CS u ⟨by omega, hT⟩ wr (unhide BK))
    have hr := sum_range l base u (unhide HOK) ⟨by omega, hT⟩
    have HD := hide (fun h => come_down (unhide HOK) (unhide HB) (unhide HC) h)
    have HNX := hide (fun h => come_next (unhide HOK) (unhide HC) h)
    have HIS := hide (fun h => come_is (unhide HC) h hT)
    generalize sumZ base l u = n at *
    by_cases c0 : n = u
    · have HJ := hide (unhide HIS c0)
      clear HIS HD HNX
      subst c0
      go_wp2_with fail
      refine (unhide CU).mono ?_
      rintro e w2 ⟨rfl, bel⟩
      have B2 := hide (below_on (unhide BK) bel)
      clear bel
      go_wp2
      simp only [Lex.Jumps]
      go_ret2
      exact ⟨least_at (unhide HM) (unhide HJ), unhide B2⟩
    by_cases c1 : n < u
    · have HJ := hide (unhide HD c1)
      clear HIS HD HNX
      go_wp2_with fail
      refine (unhide CU).mono ?_
      rintro e w2 ⟨rfl, bel⟩
      have B2 := hide (below_on (unhide BK) bel)
      clear bel
      go_wp2
      simp only [Lex.Jumps]
      go_ret2
      exact ⟨least_none (unhide HM) (unhide HJ), unhide B2⟩
    have HJ := hide (unhide HNX (by omega))
    clear HIS HD HNX
    by_cases c2 : n ≤ 1000000
    · go_wp2_with fail
      refine (unhide CU).mono ?_
      rintro e w2 ⟨rfl, bel⟩
      have B2 := hide (below_on (unhide BK) bel)
      clear bel
      go_wp2
      go_step3
      show _ ∧ _
      refine ⟨⟨rfl, n, c2, unhide HJ, unhide B2, Lex.frame_at rfl⟩, ?_⟩
      simp [MeaL, intOf]; omega
    · go_wp2_with fail
      refine (unhide CU).mono ?_
      rintro e w2 ⟨rfl, bel⟩
      have B2 := hide (below_on (unhide BK) bel)
      clear bel
      go_wp2
      simp only [Lex.Jumps]
      go_ret2
      exact ⟨least_none (unhide HM) (come_none (unhide HJ) (by omega)), unhide B2⟩
  · intro hp
    go_wp2_with fail
    refine (unhide CM).mono ?_
    rintro e w1 ⟨rfl, bel⟩
    have B1 := hide bel
    clear bel
    go_wp2
    go_step3
    rename_i hK
    refine hK _ _ ?_
    refine hp _ _ ⟨rfl, 1, by decide, come_one _, unhide B1, Lex.frame_at rfl⟩
end Go.Proofs.Ytndhjfpjhpnbaaa.Fix
