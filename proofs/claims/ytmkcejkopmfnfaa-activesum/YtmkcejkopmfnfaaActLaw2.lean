/- The laws of chapter 11, over what package active answers. -/
import Derived.Test.YtmkcejkopmfnfaaActLaw
namespace Go.Proofs.Ytmkcejkopmfnfaa.Lex
open Go.ChangeShapes Go.WideShapes Go.RowKit

theorem all_sum (s : SetV) (k : Nat) (b w : Int) : Fix.sumZ b (allL s k) w = Fix.sumZ b (loadsTo s k) w + Fix.addZ w (ownL s k) := Fix.sum_snoc _ _ _ _
theorem add_low {w : Int} {x : Fix.LoadV} (hT : 1 ≤ x.T) (hC : 0 ≤ x.C) (hw : 1 ≤ w) : x.C ≤ Fix.addZ w x := by
  have h1 := Fix.ceil_mono (v := 1) hT hw
  rw [Fix.ceil_one hT] at h1
  have := Int.mul_le_mul_of_nonneg_right h1 hC
  rw [Int.one_mul] at this
  exact this
theorem act_low {s : SetV} {k : Nat} (ok : Fix.OkL (allL s k)) (b : Int) {w : Int} (hw : 1 ≤ w) : b + workZ (s.ts.getD k task0).regs ≤ Fix.sumZ b (allL s k) w := by
  have ho := ok (ownL s k) (by rw [allL]; simp)
  have h1 := add_low ho.1.1 ho.2.1 hw
  have h2 := Fix.sum_low (loadsTo s k) b w (fun x hx => ok x (List.mem_append_left _ hx)) (by omega)
  rw [all_sum]
  have : (ownL s k).C = workZ (s.ts.getD k task0).regs := rfl
  omega
theorem act_less {s : SetV} (ha : allB s = true) (hu : ∀ t ∈ s.ts, U64 t.ecb ∧ U64 t.ucb) {i b less n : Int} {r : Option Int} (h0 : 0 ≤ less ∧ less ≤ b) (hn : inI s i = true ∧ Fix.mayB b (allL s i.toNat) = true ∧ Fix.IsLeast (Fix.sumZ b (allL s i.toNat)) (some n)) (h : OfP s i (b - less) (.returned (.tuple #[.int .i64 (Fix.valO r), .bool r.isSome]))) : ∃ m, r = some m ∧ m ≤ n := by
  obtain ⟨hin, hm, hl⟩ := hn
  have hin' := hin
  simp only [inI, Bool.and_eq_true, decide_eq_true_eq] at hin'
  have hk : i.toNat < s.ts.length := by omega
  have ok := loads_ok ha hu hk
  obtain ⟨hr, h8, -, hfit⟩ := all_fits ha hu
  have hw := (task_time (hfit _ hk).is).2
  obtain ⟨hb, h64, -⟩ := Fix.may_parts hm
  have hm' : Fix.mayB (b - less) (allL s i.toNat) = true := Fix.may_of ⟨by omega, by omega⟩ h64 ok
  have hg : ∀ w, 1 ≤ w → Fix.sumZ (b - less) (allL s i.toNat) w ≤ Fix.sumZ b (allL s i.toNat) w := fun w _ => Fix.sum_mono _ _ _ w w ok (by omega) (Int.le_refl _)
  obtain ⟨m, hm2⟩ := Fix.least_some hl (fun v w hv => Fix.sum_mono _ _ _ v w ok (Int.le_refl _) hv) (by have := act_low ok (b - less) (w := 1) (by decide); omega) hg
  unfold OfP at h
  rw [if_pos hin] at h
  have e := Fix.leastP_is h (r := some m) (by rw [if_pos hm']; exact hm2)
  simp only [Ending.returned.injEq, Value.tuple.injEq, Array.mk.injEq, List.cons.injEq, Value.int.injEq, Value.bool.injEq, true_and, and_true] at e
  refine ⟨m, ?_, Fix.least_le hl hm2 hg⟩
  cases r with
  | none => simp at e
  | some q => have e1 : q = m := e.1; rw [e1]
theorem act_down {s : SetV} (ha : allB s = true) (hu : ∀ t ∈ s.ts, U64 t.ecb ∧ U64 t.ucb) {k : Nat} {n : Int} {r : Option Int} (hk : k + 1 < s.ts.length) (hn : Fix.mayB 0 (allL s (k + 1)) = true ∧ Fix.IsLeast (Fix.sumZ 0 (allL s (k + 1))) (some n)) (h : OfP s k 0 (.returned (.tuple #[.int .i64 (Fix.valO r), .bool r.isSome]))) : ∃ m, r = some m ∧ m ≤ n := by
  obtain ⟨hm, hl⟩ := hn
  have ok := loads_ok ha hu hk
  have ok0 := loads_ok ha hu (show k < s.ts.length by omega)
  obtain ⟨hr, h8, -, hfit⟩ := all_fits ha hu
  have hw := (task_time (hfit k (by omega)).is)
  have hmd := made_range hr (k : Int)
  have hm' : Fix.mayB 0 (allL s k) = true := Fix.may_of ⟨by decide, by decide⟩ (by rw [all_len]; omega) ok0
  have hg : ∀ w, 1 ≤ w → Fix.sumZ 0 (allL s k) w ≤ Fix.sumZ 0 (allL s (k + 1)) w := fun w hw1 => by
    rw [all_sum, all_sum, loads_next, Fix.sum_snoc]
    have ho := ok (ownL s (k + 1)) (by rw [allL]; simp)
    have a1 := add_low ho.1.1 ho.2.1 hw1
    have a2 : Fix.addZ w (ownL s k) ≤ Fix.addZ w (loadZ s k) := Int.mul_le_mul_of_nonneg_left (by show workZ _ ≤ workZ _ + madeZ _ _; omega) (Fix.ceil_range hw.1.1 (by omega)).1
    omega
  obtain ⟨m, hm2⟩ := Fix.least_some hl (fun v w hv => Fix.sum_mono _ _ _ v w ok0 (Int.le_refl _) hv) (by have := act_low ok0 0 (w := 1) (by decide); omega) hg
  unfold OfP at h
  rw [if_pos (in_nat (by omega))] at h
  have e := Fix.leastP_is h (r := some m) (by simp only [Int.toNat_natCast]; rw [if_pos hm']; exact hm2)
  simp only [Ending.returned.injEq, Value.tuple.injEq, Array.mk.injEq, List.cons.injEq, Value.int.injEq, Value.bool.injEq, true_and, and_true] at e
  refine ⟨m, ?_, Fix.least_le hl hm2 hg⟩
  cases r with
  | none => simp at e
  | some q => have e1 : q = m := e.1; rw [e1]
set_option maxHeartbeats 1600000 in
theorem actless_law (hL : CALoads) (hO : CAOf) (s : SetV) (i b less : Int) (w : World) (hs : SetIn w s) (hi : I64 i) (hb0 : I64 b) (_ : I64 less) : Calls Try.prog 4 #[s.val, .int .i64 i, .int .i64 b, .int .i64 less] w fun e w' => e = .returned (.bool true) ∧ Below w.heap.size w w' := by
  have hlen := hs.len
  have CK := hide (fun w => aknown_any hL hO w)
  by_cases h10 : (10 : Int) < s.ts.length
  · go_enter Try.func4, Try.ntmps4
    rw [SetV.val]
    go_wp2
    go_ret
    exact ⟨rfl, (Below.refl _ _).alloc (Nat.le_refl _) _⟩
  have CA := hide (fun w h => rall_any s w h)
  cases hb : allB s
  · rw [hb] at CA
    clear hb
    go_enter Try.func4, Try.ntmps4
    rw [SetV.val]
    go_wp2_with fail
    refine (unhide CA _ (set_bel hs ((Below.refl _ _).alloc (Nat.le_refl _) _))).mono ?_
    rintro e w1 ⟨rfl, bel⟩
    have B1 := hide (bel_box (Below.refl _ _) bel)
    obtain ⟨c0, c1⟩ := (sbox_new w s 24).bel bel
    clear bel
    go_wp2
    go_ret
    exact ⟨rfl, unhide B1⟩
  rw [hb] at CA
  by_cases q0 : less < 0
  · clear hb
    go_enter Try.func4, Try.ntmps4
    rw [SetV.val]
    go_wp2_with fail
    refine (unhide CA _ (set_bel hs ((Below.refl _ _).alloc (Nat.le_refl _) _))).mono ?_
    rintro e w1 ⟨rfl, bel⟩
    have B1 := hide (bel_box (Below.refl _ _) bel)
    obtain ⟨c0, c1⟩ := (sbox_new w s 24).bel bel
    clear bel
    go_wp2
    go_ret
    exact ⟨rfl, unhide B1⟩
  by_cases q1 : b < less
  · clear hb
    go_enter Try.func4, Try.ntmps4
    rw [SetV.val]
    go_wp2_with fail
    refine (unhide CA _ (set_bel hs ((Below.refl _ _).alloc (Nat.le_refl _) _))).mono ?_
    rintro e w1 ⟨rfl, bel⟩
    have B1 := hide (bel_box (Below.refl _ _) bel)
    obtain ⟨c0, c1⟩ := (sbox_new w s 24).bel bel
    clear bel
    go_wp2
    go_ret
    exact ⟨rfl, unhide B1⟩
  have hu : ∀ t ∈ s.ts, U64 t.ecb ∧ U64 t.ucb := fun t ht => ⟨(hs.each t ht).ecb, (hs.each t ht).ucb⟩
  have C1 := hide (fun w h => hO s i b w h hb hi hb0)
  have C2 := hide (fun w h => hO s i (b - less) w h hb hi (by unfold I64 at *; omega))
  have e1 : IntKind.i64.wrap (b - less) = b - less := i64_is _ (by unfold I64 at *; omega)
  have HF := hide (fun n r (hn : _) h => act_less (i := i) (b := b) (less := less) (r := r) (n := n) hb hu ⟨by omega, by omega⟩ hn h)
  have HIN := hide hs
  clear hO hL hb hu hs hb0 hi
  go_enter Try.func4, Try.ntmps4
  rw [SetV.val]
  go_wp2_with fail
  refine (unhide CA _ (set_bel (unhide HIN) ((Below.refl _ _).alloc (Nat.le_refl _) _))).mono ?_
  rintro e w1 ⟨rfl, bel⟩
  have B1 := hide (bel_box (Below.refl _ _) bel)
  have X1 := hide ((sbox_new w s 24).bel bel)
  obtain ⟨c0, c1⟩ := unhide X1
  clear bel
  go_wp2_with fail
  refine (unhide C1 _ (set_bel (unhide HIN) (unhide B1))).mono ?_
  rintro e w2 ⟨hp, bel⟩
  obtain ⟨r, rfl, -, hr⟩ := ofp_form hp
  have HR := hide hr
  have B2 := hide (below_on (unhide B1) bel)
  have X2 := hide ((unhide X1).bel bel)
  clear bel c0 c1 hp hr
  obtain ⟨c0, c1⟩ := unhide X2
  obtain ⟨vr, hvr⟩ : ∃ v, v = Fix.valO r := ⟨_, rfl⟩
  obtain ⟨sr, hsr⟩ : ∃ v, v = r.isSome := ⟨_, rfl⟩
  have HVR := hide hvr
  have HSR := hide hsr
  rw [← hvr, ← hsr]
  clear hvr hsr
  go_wp2_with fail
  refine (unhide C2 _ (set_bel (unhide HIN) (unhide B2))).mono ?_
  rintro e w3 ⟨hp, bel⟩
  obtain ⟨r', rfl, hp', -⟩ := ofp_form hp
  have B3 := hide (below_on (unhide B2) bel)
  have HQ := hide hp'
  clear bel c0 c1 hp hp'
  cases r with
  | none =>
    obtain rfl : vr = 0 := unhide HVR
    obtain rfl : sr = false := unhide HSR
    clear HQ HF HR HVR HSR
    generalize Fix.valO r' = v2 at *
    generalize r'.isSome = s2 at *
    go_wp2_with fail
    refine (unhide CK _).mono ?_
    rintro e w4 ⟨rfl, bel⟩
    have B4 := hide (below_on (unhide B3) bel)
    clear bel
    go_wp2
    go_ret
    exact ⟨rfl, unhide B4⟩
  | some n =>
    obtain ⟨m, rfl, hmn⟩ := unhide HF n r' (unhide HR n rfl) (unhide HQ)
    obtain rfl : vr = n := unhide HVR
    obtain rfl : sr = true := unhide HSR
    simp only [Fix.valO, Option.getD_some, Option.isSome_some]
    go_wp2_with fail
    refine (unhide CK _).mono ?_
    rintro e w4 ⟨rfl, bel⟩
    have B4 := hide (below_on (unhide B3) bel)
    clear bel
    go_wp2
    go_ret
    exact ⟨rfl, unhide B4⟩
set_option maxHeartbeats 1600000 in
theorem actdown_law (hL : CALoads) (hO : CAOf) (s : SetV) (i : Int) (w : World) (hs : SetIn w s) (hi : I64 i) : Calls Try.prog 5 #[s.val, .int .i64 i] w fun e w' => e = .returned (.bool true) ∧ Below w.heap.size w w' := by
  have hlen := hs.len
  have CK := hide (fun w => aknown_any hL hO w)
  by_cases h10 : (10 : Int) < s.ts.length
  · go_enter Try.func5, Try.ntmps5
    rw [SetV.val]
    go_wp2
    go_ret
    exact ⟨rfl, (Below.refl _ _).alloc (Nat.le_refl _) _⟩
  have CA := hide (fun w h => rall_any s w h)
  cases hb : allB s
  · rw [hb] at CA
    clear hb
    go_enter Try.func5, Try.ntmps5
    rw [SetV.val]
    go_wp2_with fail
    refine (unhide CA _ (set_bel hs ((Below.refl _ _).alloc (Nat.le_refl _) _))).mono ?_
    rintro e w1 ⟨rfl, bel⟩
    have B1 := hide (bel_box (Below.refl _ _) bel)
    obtain ⟨c0, c1⟩ := (sbox_new w s 24).bel bel
    clear bel
    go_wp2
    go_ret
    exact ⟨rfl, unhide B1⟩
  rw [hb] at CA
  by_cases q0 : i < 1
  · clear hb
    go_enter Try.func5, Try.ntmps5
    rw [SetV.val]
    go_wp2_with fail
    refine (unhide CA _ (set_bel hs ((Below.refl _ _).alloc (Nat.le_refl _) _))).mono ?_
    rintro e w1 ⟨rfl, bel⟩
    have B1 := hide (bel_box (Below.refl _ _) bel)
    obtain ⟨c0, c1⟩ := (sbox_new w s 24).bel bel
    clear bel
    go_wp2
    go_ret
    exact ⟨rfl, unhide B1⟩
  by_cases q1 : (s.ts.length : Int) ≤ i
  · clear hb
    go_enter Try.func5, Try.ntmps5
    rw [SetV.val]
    go_wp2_with fail
    refine (unhide CA _ (set_bel hs ((Below.refl _ _).alloc (Nat.le_refl _) _))).mono ?_
    rintro e w1 ⟨rfl, bel⟩
    have B1 := hide (bel_box (Below.refl _ _) bel)
    obtain ⟨c0, c1⟩ := (sbox_new w s 24).bel bel
    clear bel
    go_wp2
    go_ret
    exact ⟨rfl, unhide B1⟩
  have hu : ∀ t ∈ s.ts, U64 t.ecb ∧ U64 t.ucb := fun t ht => ⟨(hs.each t ht).ecb, (hs.each t ht).ucb⟩
  obtain ⟨k, rfl⟩ : ∃ k : Nat, i = ((k + 1 : Nat) : Int) := ⟨(i - 1).toNat, by omega⟩
  have C1 := hide (fun w h => hO s ((k + 1 : Nat) : Int) 0 w h hb hi (by simp [I64]))
  have C2 := hide (fun w h => hO s (k : Int) 0 w h hb (by unfold I64; omega) (by simp [I64]))
  have e1 : IntKind.i64.wrap (((k + 1 : Nat) : Int) - 1) = (k : Int) := by rw [show ((k + 1 : Nat) : Int) - 1 = (k : Int) by omega]; exact i64_is _ (by omega)
  have HF := hide (fun n r (hn : _) h => act_down (r := r) (n := n) (k := k) hb hu (by omega) hn h)
  have HIN := hide hs
  clear hO hL hb hu hs hi
  obtain ⟨K, hK⟩ : ∃ K : Int, K = ((k + 1 : Nat) : Int) := ⟨_, rfl⟩
  have HK : Hid (K.toNat = k + 1) := by show K.toNat = k + 1; omega
  have k1 : ¬ K < 1 := by omega
  have k2 : ¬ (s.ts.length : Int) ≤ K := by omega
  rw [← hK] at e1 C1 ⊢
  clear hK q0 q1
  go_enter Try.func5, Try.ntmps5
  rw [SetV.val]
  go_wp2_with fail
  refine (unhide CA _ (set_bel (unhide HIN) ((Below.refl _ _).alloc (Nat.le_refl _) _))).mono ?_
  rintro e w1 ⟨rfl, bel⟩
  have B1 := hide (bel_box (Below.refl _ _) bel)
  have X1 := hide ((sbox_new w s 24).bel bel)
  obtain ⟨c0, c1⟩ := unhide X1
  clear bel
  go_wp2_with fail
  refine (unhide C1 _ (set_bel (unhide HIN) (unhide B1))).mono ?_
  rintro e w2 ⟨hp, bel⟩
  obtain ⟨r, rfl, -, hr⟩ := ofp_form hp
  rw [unhide HK] at hr
  have HR := hide hr
  have B2 := hide (below_on (unhide B1) bel)
  have X2 := hide ((unhide X1).bel bel)
  clear bel c0 c1 hp hr
  obtain ⟨c0, c1⟩ := unhide X2
  obtain ⟨vr, hvr⟩ : ∃ v, v = Fix.valO r := ⟨_, rfl⟩
  obtain ⟨sr, hsr⟩ : ∃ v, v = r.isSome := ⟨_, rfl⟩
  have HVR := hide hvr
  have HSR := hide hsr
  rw [← hvr, ← hsr]
  clear hvr hsr
  go_wp2_with fail
  refine (unhide C2 _ (set_bel (unhide HIN) (unhide B2))).mono ?_
  rintro e w3 ⟨hp, bel⟩
  obtain ⟨r', rfl, hp', -⟩ := ofp_form hp
  have B3 := hide (below_on (unhide B2) bel)
  have HQ := hide hp'
  clear bel c0 c1 hp hp'
  cases r with
  | none =>
    obtain rfl : vr = 0 := unhide HVR
    obtain rfl : sr = false := unhide HSR
    clear HQ HF HR HVR HSR
    generalize Fix.valO r' = v2 at *
    generalize r'.isSome = s2 at *
    go_wp2_with fail
    refine (unhide CK _).mono ?_
    rintro e w4 ⟨rfl, bel⟩
    have B4 := hide (below_on (unhide B3) bel)
    clear bel
    go_wp2
    go_ret
    exact ⟨rfl, unhide B4⟩
  | some n =>
    obtain ⟨m, rfl, hmn⟩ := unhide HF n r' (unhide HR n rfl).2 (unhide HQ)
    obtain rfl : vr = n := unhide HVR
    obtain rfl : sr = true := unhide HSR
    simp only [Fix.valO, Option.getD_some, Option.isSome_some]
    go_wp2_with fail
    refine (unhide CK _).mono ?_
    rintro e w4 ⟨rfl, bel⟩
    have B4 := hide (below_on (unhide B3) bel)
    clear bel
    go_wp2
    go_ret
    exact ⟨rfl, unhide B4⟩
end Go.Proofs.Ytmkcejkopmfnfaa.Lex
