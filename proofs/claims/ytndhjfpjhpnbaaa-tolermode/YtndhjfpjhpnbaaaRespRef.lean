/- Chapter 12: what the document's own functions answer: With. -/
import Derived.Test.YtndhjfpjhpnbaaaRespSpec
namespace Go.Proofs.Ytndhjfpjhpnbaaa.Lex
set_option maxRecDepth 100000
open Go.ChangeShapes Go.WideShapes Go.RowKit

noncomputable def withH (s : SetV) (i b : Int) : Int := match busyO s i b with
  | none => 3
  | some _ => if withR s i b ≤ (s.ts.getD i.toNat task0).D then 1 else 2
theorem busy_in {s : SetV} {i b L : Int} (h : busyO s i b = some L) : inI s i = true := by
  unfold busyO at h
  cases hin : inI s i with
  | true => rfl
  | false => rw [hin] at h; simp at h
set_option maxHeartbeats 6400000 in
theorem rwith_any (s : SetV) (i bl : Int) (w : World) (hs : SetIn w s) (ha : allB s = true) (hi : I64 i) : Calls Try.prog 14 #[s.val, .int .i64 i, .int .i64 bl] w fun e w' => e = .returned (.tuple #[.int .i64 (withR s i bl), .int .i64 (withH s i bl)]) ∧ Below w.heap.size w w' := by
  have hlen := hs.len
  have C1 := hide (fun w h => rof_any s i bl w h ha hi)
  have hu : ∀ t ∈ s.ts, U64 t.ecb ∧ U64 t.ucb := fun t ht => ⟨(hs.each t ht).ecb, (hs.each t ht).ucb⟩
  have HIN := hide hs
  cases hB : busyO s i bl with
  | none =>
    have e1 : withR s i bl = 0 := by rw [withR, hB]
    have e2 : withH s i bl = 3 := by rw [withH, hB]
    have HB := hide hB
    rw [e1, e2]
    clear e1 e2 hB hu ha hs hi
    go_enter Try.func14, Try.ntmps14
    rw [SetV.val]
    go_wp2_with fail
    refine (unhide C1 _ (set_bel (unhide HIN) ((Below.refl _ _).alloc (Nat.le_refl _) _))).mono ?_
    rintro e w1 ⟨hp, bel⟩
    obtain rfl := ofp_busy hp
    rw [unhide HB]
    have B1 := hide (bel_box (Below.refl _ _) bel)
    clear bel hp
    simp only [Fix.valO, Option.getD_none, Option.isSome_none]
    go_wp2
    go_ret2
    exact ⟨rfl, unhide B1⟩
  | some L =>
    have hin := busy_in hB
    have hin' := hin
    simp only [inI, Bool.and_eq_true, decide_eq_true_eq] at hin'
    obtain ⟨k, rfl⟩ : ∃ k : Nat, i = k := ⟨i.toNat, by omega⟩
    have hk : k < s.ts.length := by omega
    obtain ⟨hr, h8, -, hfit⟩ := all_fits ha hu
    obtain ⟨hm, hl⟩ := busy_parts ha hu hk hB
    obtain ⟨hbl, -, -⟩ := Fix.may_parts hm
    have htt := task_time (hfit k hk).is
    have hne : s.ts ≠ [] := fun e => by rw [e] at hk; simp at hk
    obtain ⟨b, off, hao, ht⟩ := set_task hs hne
    obtain ⟨hrow, -⟩ := ht k hk
    have hLI : loadsI s k = loadsTo s k := by rw [loadsI, in_nat hk]; rfl
    have CL := hide (fun w h => rloads_any s k w h ha hi)
    rw [hLI] at CL
    have CW := hide (fun w h => rwork8_any s k w h hk (is_regs8 (hfit k hk).is))
    have HD := hide (fun (q : Nat) (hq : (q : Int) * (s.ts.getD k task0).T < L) => done_is ha hu hk hB hq)
    have HOK := hide (fun x hx => ok_i64 (loads_ok ha hu hk) x (List.mem_append_left _ hx) : ∀ x ∈ loadsTo s k, Fix.I64 x.T ∧ Fix.I64 x.C)
    have HLL := hide (loads_len s k)
    have HNX := hide (resp_next s k bl)
    have HDZ : Hid (∀ q, doneZ s k bl q = Fix.valO (leastO (Fix.sumZ (bl + (q + 1) * workZ (s.ts.getD k task0).regs) (loadsTo s k)))) := fun q => rfl
    have HB := hide hB
    have eR : withR s k bl = respTo s k bl (Fix.ceilZ L (s.ts.getD k task0).T).toNat := by rw [withR, hB]; rfl
    have eH : withH s k bl = if respTo s k bl (Fix.ceilZ L (s.ts.getD k task0).T).toNat ≤ (s.ts.getD k task0).D then 1 else 2 := by rw [withH, hB]; simp only [eR]; rfl
    have HLE := hide (fun m => resp_le (s := s) (k := k) (b := bl) (x := L) (by have := hl.1.1; omega) m)
    have HGE := hide (fun m => (resp_ge s k bl m).1)
    rw [eR, eH]
    have hL1 := hl.1
    clear hB hin hin' hfit hm hl hu ha hi hr ht hLI eR eH hs
    obtain ⟨rl, ao, cap, ts⟩ := s
    simp only at hao hk hlen h8 hne HD HDZ CW hrow HLL HNX HLE HGE HOK ⊢
    subst hao
    have HROW := hide hrow
    have HBX := hide (sbox_new w ⟨rl, some ⟨b, off, none⟩, cap, ts⟩ 24)
    clear hrow
    have HR0 : Hid (respTo ⟨rl, some ⟨b, off, none⟩, cap, ts⟩ k bl 0 = 0) := rfl
    generalize respTo ⟨rl, some ⟨b, off, none⟩, cap, ts⟩ k bl = RT at *
    generalize doneZ ⟨rl, some ⟨b, off, none⟩, cap, ts⟩ k bl = DZ at *
    generalize loadsTo ⟨rl, some ⟨b, off, none⟩, cap, ts⟩ k = LT at *
    generalize workZ (ts.getD k task0).regs = wk at *
    generalize ts.getD k task0 = t at *
    obtain ⟨M, hM⟩ : ∃ M, M = (Fix.ceilZ L t.T).toNat := ⟨_, rfl⟩
    have HM : Hid (∀ q : Nat, q < M ↔ (q : Int) * t.T < L) := fun q => by
      rw [← ceil_iff htt.1.1, hM]
      omega
    rw [← hM]
    clear hM
    obtain ⟨HW, hHW⟩ : ∃ HW : Int, HW = if RT M ≤ t.D then 1 else 2 := ⟨_, rfl⟩
    rw [← hHW]
    have HHW := hide hHW
    clear hHW
    obtain ⟨⟨tT1, tT2⟩, wk1, wk2⟩ := htt
    obtain ⟨L1, L2⟩ := hL1
    obtain ⟨b1, b2⟩ := hbl
    have hk1 : (0 : Int) ≤ (k : Int) := by omega
    have hk2 : (k : Int) < (ts.length : Int) := by omega
    go_enter Try.func14, Try.ntmps14
    rw [SetV.val]
    simp only
    go_wp2_with fail
    refine (unhide C1 _ (set_bel (unhide HIN) ((Below.refl _ _).alloc (Nat.le_refl _) _))).mono ?_
    rintro e w1 ⟨hp, bel⟩
    obtain rfl := ofp_busy hp
    rw [unhide HB]
    have B1 := hide (bel_box (Below.refl _ _) bel)
    have X1 := hide ((unhide HBX).bel bel)
    obtain ⟨c0, c1⟩ := unhide X1
    obtain ⟨t0, t1, t2, t3, t4, t5, t6, t7, t8⟩ := (unhide HROW).bel (unhide B1)
    simp only at c0 c1
    have hlt1 := World.block_lt_of_cell? w1 _ c0
    simp only at hlt1
    have hne1 : w.heap.size ≠ w1.heap.size := Nat.ne_of_lt hlt1
    clear bel hp HB
    simp only [Fix.valO, Option.getD_some, Option.isSome_some]
    go_wp2_with fail
    refine (unhide CL _ (set_bel (unhide HIN) ((unhide B1).alloc (unhide B1).size _))).mono ?_
    rintro e w2 ⟨v, rfl, ow, bel⟩
    obtain ⟨ao2, cap2, rfl, hla⟩ := Fix.loads_own ow (unhide HOK) (by rw [unhide HLL]; omega)
    have HLA := hide hla
    have B2 := hide (((unhide B1).alloc (unhide B1).size _).trans (bel.mono (by have := (unhide B1).size; simp; omega)))
    have X2 := hide (((unhide X1).bel ((Below.refl _ _).alloc (Nat.le_refl _) _)).bel bel)
    have T2 := hide ((box_new w1 t 38).bel bel)
    clear bel ow hla c0 c1 t0 t1 t2 t3 t4 t5 t6 t7 t8 CL C1
    go_wp2
    go_loopw [12, 13] (fun r q wr => ∃ m : Nat, m ≤ M ∧ r = .int .i64 (RT m) ∧ q = .int .i64 m ∧ Below w2.heap.size w2 wr) (fun _ q _ => M - (intOf q).toNat)
    case atStart => exact ⟨0, Nat.zero_le _, by rw [unhide HR0], rfl, Below.refl _ _⟩
    case round =>
      obtain ⟨m, hm, rfl, rfl, hbel⟩ := hrel
      have VK := hide hbel
      have BK := hide (below_on (unhide B2) hbel)
      have X3 := hide ((unhide X2).bel hbel)
      obtain ⟨c0, c1⟩ := unhide X3
      obtain ⟨-, t1, t2, -, -, -, -, -, -⟩ := (unhide T2).bel hbel
      simp only at c0 c1
      clear hbel
      by_cases hlt : m < M
      · have hq := (unhide HM m).1 hlt
        obtain ⟨dm, -, dL, db⟩ := unhide HD m hq
        have hT0 : 0 ≤ (m : Int) * t.T := Int.mul_nonneg (by omega) (by omega)
        have hmw : 0 ≤ ((m : Int) + 1) * wk := Int.mul_nonneg (by omega) (by omega)
        have hDZ := unhide HDZ m
        have hnx := unhide HNX m
        have mM : (m : Int) ≤ (m : Int) * t.T := by
          have := Int.mul_le_mul_of_nonneg_left tT1 (show (0 : Int) ≤ (m : Int) by omega)
          omega
        have e1 : IntKind.i64.wrap ((m : Int) * t.T) = (m : Int) * t.T := i64_is _ (by omega)
        have e2 : IntKind.i64.wrap ((m : Int) + 1) = (m : Int) + 1 := i64_is _ (by omega)
        have e3 : IntKind.i64.wrap (((m : Int) + 1) * wk) = ((m : Int) + 1) * wk := i64_is _ (by omega)
        have e4 : IntKind.i64.wrap (bl + ((m : Int) + 1) * wk) = bl + ((m : Int) + 1) * wk := i64_is _ (by omega)
        have e5 : IntKind.i64.wrap (DZ m - (m : Int) * t.T) = DZ m - (m : Int) * t.T := i64_is _ (by omega)
        have HDM := hide dm
        have HDZm := hide hDZ
        have HNXm := hide hnx
        clear hDZ hnx dm dL db mM
        go_wp2_with fail
        refine (unhide CW _ (set_bel (unhide HIN) (unhide BK))).mono ?_
        rintro e w3 ⟨rfl, bel⟩
        have V3 := hide (below_on (unhide VK) bel)
        have B3 := hide (below_on (unhide BK) bel)
        clear bel c0 c1 t1 t2
        go_wp2_with fail
        refine (Fix.rLeast_any _ ao2 cap2 LT w3 ((unhide HLA).bel (unhide V3))).mono ?_
        rintro e w4 ⟨hp, bel⟩
        obtain rfl := leastP_fun (unhide HDM) hp
        rw [← unhide HDZm]
        generalize (leastO (Fix.sumZ (bl + ((m : Int) + 1) * wk) LT)).isSome = so at *
        have V4 := hide (below_on (unhide V3) bel)
        obtain ⟨-, t1, -, -, -, -, -, -, -⟩ := (unhide T2).bel (unhide V4)
        clear bel hp
        have HR : Hid ((if RT m < DZ m - (m : Int) * t.T then DZ m - (m : Int) * t.T else RT m) = RT (m + 1)) := by
          show _ = RT (m + 1)
          rw [unhide HNXm]
          split <;> omega
        go_wp2
        go_roundw
        case rel => exact ⟨m + 1, by omega, by rw [← unhide HR], by go_num, unhide V4⟩
        case measure => simp [intOf]; omega
      · have e : m = M := by omega
        subst e
        have hq : ¬ (m : Int) * t.T < L := fun h => absurd ((unhide HM m).2 h) (by omega)
        have hup : (m : Int) * t.T ≤ L + t.T := by
          rcases Nat.eq_zero_or_pos m with z | z
          · subst z; omega
          · obtain ⟨j, rfl⟩ : ∃ j, m = j + 1 := ⟨m - 1, by omega⟩
            have := (unhide HM j).1 (by omega)
            rw [show ((j + 1 : Nat) : Int) * t.T = (j : Int) * t.T + t.T by rw [Int.natCast_add, Int.add_mul]; simp]
            omega
        have e1 : IntKind.i64.wrap ((m : Int) * t.T) = (m : Int) * t.T := i64_is _ (by omega)
        by_cases hD : RT m ≤ t.D
        · have HO : Hid (HW = 1) := by show HW = 1; rw [unhide HHW, if_pos hD]
          go_wp2
          go_ret2
          exact ⟨by rw [unhide HO]; rfl, unhide BK⟩
        · have HO : Hid (HW = 2) := by show HW = 2; rw [unhide HHW, if_neg hD]
          go_wp2
          go_ret2
          exact ⟨by rw [unhide HO]; rfl, unhide BK⟩
end Go.Proofs.Ytndhjfpjhpnbaaa.Lex
