/- What package toler answers. -/
import Derived.Test.YtndhjfpjhpnbaaaRespCode
import Derived.Test.YtndhjfpjhpnbaaaTaskCodeB
import Derived.Test.YtndhjfpjhpnbaaaTolerRef
import Derived.Deep.OwnRows
namespace Go.Proofs.Ytndhjfpjhpnbaaa.Lex
set_option maxRecDepth 100000
open Go.ChangeShapes Go.WideShapes Go.RowKit

set_option maxHeartbeats 1600000 in
theorem bears_any (s : SetV) (i b : Int) (w : World) (hs : SetIn w s) (ha : allB s = true) (hi : I64 i) (hb : I64 b) : Calls Try.prog 18 #[s.val, .int .i64 i, .int .i64 b] w fun e w' => e = .returned (.bool (decide (withH s i b = 1))) ∧ Below w.heap.size w w' := by
  have CW := hide (fun w h => code_With s i b w h ha hi hb)
  have HIN := hide hs
  have B1 := hide ((Below.refl w.heap.size w).alloc (Nat.le_refl _) (.cells #[.int .i64 s.reload, .slice s.ao s.ts.length s.cap] 24))
  clear hs ha
  generalize withR s i b = R at *
  generalize withH s i b = H at *
  go_enter Try.func18, Try.ntmps18
  rw [SetV.val]
  go_wp2_with fail
  refine (unhide CW _ (set_bel (unhide HIN) (unhide B1))).mono ?_
  rintro e w1 ⟨rfl, bel⟩
  have B2 := hide (below_on (unhide B1) bel)
  clear bel
  go_wp2
  go_ret
  exact ⟨by by_cases h : H = 1 <;> simp [h], unhide B2⟩
theorem with_in {s : SetV} {i b : Int} (h : withH s i b = 1) : inI s i = true := by
  cases hB : busyO s i b with
  | none => rw [withH, hB] at h; simp at h
  | some L => exact busy_in hB
theorem over_not {s : SetV} {k : Nat} (ha : allB s = true) (hu : ∀ t ∈ s.ts, U64 t.ecb ∧ U64 t.ucb) (hk : k < s.ts.length) {b : Int} (hb : (s.ts.getD k task0).D < b) : withH s k b ≠ 1 := fun h1 => by
  obtain ⟨-, -, -, hfit⟩ := all_fits ha hu
  have hw := task_time (hfit k hk).is
  obtain ⟨L, hB, hR⟩ := with_busy h1
  have := (with_work ha hu hk hB).2.1
  omega
theorem none_is {s : SetV} {i : Int} (ha : allB s = true) (hu : ∀ t ∈ s.ts, U64 t.ecb ∧ U64 t.ucb) (h : withH s i 0 ≠ 1) : tolV s i = 0 ∧ tolO s i = false := by
  cases hin : inI s i with
  | false => exact ⟨(tolO_out hin).2, (tolO_out hin).1⟩
  | true =>
    have hin' := hin
    simp only [inI, Bool.and_eq_true, decide_eq_true_eq] at hin'
    obtain ⟨k, rfl⟩ : ∃ k : Nat, i = k := ⟨i.toNat, by omega⟩
    have hk : k < s.ts.length := by omega
    obtain ⟨-, -, -, hfit⟩ := all_fits ha hu
    obtain ⟨-, -, -, -, ⟨hD, -, -⟩, -⟩ := fits_parts (hfit k hk).is
    have := tol_stop (s := s) (k := k) (n := 0) hk (by omega) (by omega) (fun m hm => by omega) (fun _ => h)
    exact ⟨this.1.symm, this.2.symm⟩
theorem edge_is {s : SetV} {k : Nat} (ha : allB s = true) (hu : ∀ t ∈ s.ts, U64 t.ecb ∧ U64 t.ucb) (hk : k < s.ts.length) {m : Int} (h0 : 0 ≤ m ∧ m ≤ (s.ts.getD k task0).D) (h1 : withH s k m = 1) (h2 : withH s k (m + 1) ≠ 1) : m = tolV s k ∧ true = tolO s k := by
  obtain ⟨n, rfl⟩ : ∃ n : Nat, m = n := ⟨m.toNat, by omega⟩
  have := tol_stop (s := s) (k := k) (n := n + 1) hk (by omega) (by omega) (fun b hb => easy_with (Easier.refl s) ha hu ha hu hk ⟨by omega, by omega⟩ h1) (fun _ => by
    rw [Int.natCast_add]; exact h2)
  rw [Int.natCast_add, show (n : Int) + ((1 : Nat) : Int) - 1 = n by omega, if_neg (by omega), decide_eq_true (by omega)] at this
  exact this
set_option maxHeartbeats 3200000 in
theorem code_TOf : CTOf := fun s i w hs ha hi => by
  have hu : ∀ t ∈ s.ts, U64 t.ecb ∧ U64 t.ucb := fun t ht => ⟨(hs.each t ht).ecb, (hs.each t ht).ucb⟩
  have CB := hide (fun (b : Int) w h => fun (hb : I64 b) => bears_any s i b w h ha hi hb)
  have HIN := hide hs
  by_cases h0 : withH s i 0 = 1
  case neg =>
    have HN := hide (none_is ha hu h0)
    have C0 := hide (fun w h => unhide CB 0 w h (by simp [I64]))
    rw [decide_eq_false h0] at C0
    have B1 := hide ((Below.refl w.heap.size w).alloc (Nat.le_refl _) (.cells #[.int .i64 s.reload, .slice s.ao s.ts.length s.cap] 24))
    clear hs ha hu CB h0
    generalize tolV s i = tv at *
    generalize tolO s i = tb at *
    go_enter Try.func11, Try.ntmps11
    rw [SetV.val]
    go_wp2_with fail
    refine (unhide C0 _ (set_bel (unhide HIN) (unhide B1))).mono ?_
    rintro e w1 ⟨rfl, bel⟩
    have B2 := hide (below_on (unhide B1) bel)
    clear bel
    go_wp2
    go_ret2
    exact ⟨by rw [(unhide HN).1, (unhide HN).2]; rfl, unhide B2⟩
  have hin := with_in h0
  simp only [inI, Bool.and_eq_true, decide_eq_true_eq] at hin
  obtain ⟨k, rfl⟩ : ∃ k : Nat, i = k := ⟨i.toNat, by omega⟩
  have hk : k < s.ts.length := by omega
  obtain ⟨hr, h8, -, hfit⟩ := all_fits ha hu
  obtain ⟨-, -, -, -, ⟨hD, hDT, hT⟩, -⟩ := fits_parts (hfit k hk).is
  have htt := task_time (hfit k hk).is
  have hne : s.ts ≠ [] := fun e => by rw [e] at hk; simp at hk
  obtain ⟨b, off, hao, ht⟩ := set_task hs hne
  obtain ⟨hrow, -⟩ := ht k hk
  have hlen := hs.len
  have C0 := hide (fun w h => unhide CB 0 w h (by simp [I64]))
  rw [decide_eq_true h0] at C0
  have HE := hide (fun (m : Int) h1 h2 h3 => edge_is (m := m) ha hu hk h1 h2 h3)
  have HO := hide (over_not ha hu hk (b := (s.ts.getD k task0).D + 1) (by omega))
  have HZ := hide h0
  clear hs ha hu h0 ht hin hfit
  generalize tolV s (k : Nat) = tv at *
  generalize tolO s (k : Nat) = tb at *
  generalize hH : (fun b : Int => withH s k b) = H at *
  replace CB : Hid (∀ (b : Int) (w : World), SetIn w s → I64 b → Calls Try.prog 18 #[s.val, .int .i64 k, .int .i64 b] w fun e w' => e = .returned (.bool (decide (H b = 1))) ∧ Below w.heap.size w w') := by rw [← hH]; exact CB
  replace HE : Hid (∀ m : Int, 0 ≤ m ∧ m ≤ (s.ts.getD k task0).D → H m = 1 → H (m + 1) ≠ 1 → m = tv ∧ true = tb) := by rw [← hH]; exact HE
  replace HO : Hid (H ((s.ts.getD k task0).D + 1) ≠ 1) := by rw [← hH]; exact HO
  replace HZ : Hid (H 0 = 1) := by rw [← hH]; exact HZ
  clear hH
  obtain ⟨rl, ao, cap, ts⟩ := s
  simp only at hao hk hlen h8 hne hrow hD hDT hT htt ⊢
  subst hao
  have HROW := hide hrow
  have HBX := hide (sbox_new w ⟨rl, some ⟨b, off, none⟩, cap, ts⟩ 24)
  have B1 := hide ((Below.refl w.heap.size w).alloc (Nat.le_refl _) (.cells #[.int .i64 rl, .slice (some ⟨b, off, none⟩) ts.length cap] 24))
  clear hrow
  generalize ts.getD k task0 = t at *
  have hk1 : (0 : Int) ≤ (k : Int) := by omega
  have hk2 : (k : Int) < (ts.length : Int) := by omega
  have hDw : IntKind.i64.wrap (t.D + 1) = t.D + 1 := i64_is _ (by omega)
  go_enter Try.func11, Try.ntmps11
  rw [SetV.val]
  simp only
  go_wp2_with fail
  refine (unhide C0 _ (set_bel (unhide HIN) (unhide B1))).mono ?_
  rintro e w1 ⟨rfl, bel⟩
  have B2 := hide (below_on (unhide B1) bel)
  have X2 := hide ((unhide HBX).bel bel)
  obtain ⟨d0, d1⟩ := (unhide HBX).bel bel
  obtain ⟨t0, t1, t2, t3, t4, t5, t6, t7, t8⟩ := (unhide HROW).bel (unhide B2)
  simp only at d0 d1
  clear bel t0 t1 t3 t4 t5 t6 t7 t8
  have B2' := hide (unhide B2).drew
  have X2' := hide (show SBox w1.drew w.heap.size ⟨rl, some ⟨b, off, none⟩, cap, ts⟩ from (unhide X2).drew)
  go_wp2_with fail
  go_region_held3 (fun w' => w'.cell? ⟨w.heap.size, 1, none⟩ = some (.slice (some ⟨b, off, none⟩) ts.length cap) ∧ w'.cell? ⟨b, off + k * 9 + 2, none⟩ = some (.int .i64 t.D)) (go_keep) (fail)
  clear d0 d1 t2
  go_wp2
  go_loopw [6, 7] (fun u v wr => ∃ m o : Int, 0 ≤ m ∧ m < o ∧ o ≤ t.D + 1 ∧ H m = 1 ∧ H o ≠ 1 ∧ u = .int .i64 m ∧ v = .int .i64 o ∧ Below w1.drew.heap.size w1.drew wr) (fun u v _ => (intOf v - intOf u).toNat)
  case atStart => exact ⟨0, t.D + 1, by omega, by omega, by omega, unhide HZ, unhide HO, rfl, rfl, Below.refl _ _⟩
  case round =>
    obtain ⟨m, o, hm0, hmo, hoD, h1, h2, rfl, rfl, hbel⟩ := hrel
    have VK := hide hbel
    have BK := hide (below_on (unhide B2') hbel)
    obtain ⟨d0, d1⟩ := (unhide X2').bel hbel
    simp only at d0 d1
    clear hbel
    have e1 : IntKind.i64.wrap (o - m) = o - m := i64_is _ (by omega)
    by_cases hlt : 1 < o - m
    · have e2 : (o - m).tdiv 2 = (o - m) / 2 := Int.tdiv_eq_ediv_of_nonneg (by omega)
      have e3 : IntKind.i64.wrap ((o - m) / 2) = (o - m) / 2 := i64_is _ (by omega)
      have e4 : IntKind.i64.wrap (m + (o - m) / 2) = m + (o - m) / 2 := i64_is _ (by omega)
      have CK := hide (fun w h => unhide CB (m + (o - m) / 2) w h ⟨by omega, by omega⟩)
      go_wp2_with fail
      refine (unhide CK _ (set_bel (unhide HIN) (unhide BK))).mono ?_
      rintro e w3 ⟨rfl, bel⟩
      have V3 := hide (below_on (unhide VK) bel)
      clear bel
      by_cases hh : H (m + (o - m) / 2) = 1
      · rw [decide_eq_true hh]
        go_wp2
        go_roundw
        case rel => exact ⟨m + (o - m) / 2, o, by omega, by omega, by omega, hh, h2, rfl, rfl, unhide V3⟩
        case measure => simp only [intOf]; omega
      · rw [decide_eq_false hh]
        go_wp2
        go_roundw
        case rel => exact ⟨m, m + (o - m) / 2, by omega, by omega, by omega, h1, hh, rfl, rfl, unhide V3⟩
        case measure => simp only [intOf]; omega
    · have ho : o = m + 1 := by omega
      subst ho
      have HJ := hide (unhide HE m ⟨by omega, by omega⟩ h1 h2)
      go_wp2
      go_ret2
      exact ⟨by rw [← (unhide HJ).1, ← (unhide HJ).2]; rfl, unhide BK⟩
/- behind k rounds: what the first k bear lies in a row that the call made, the rest is 0 -/
structure TAll (w : World) (s : SetV) (g k : Nat) (wr : World) : Prop where
  row : wr.rowIs g 2 s.ts.length (fun j => if j < k then .int .i64 (tolV s (j : Nat)) else .int .i64 0)
  box : SBox wr w.heap.size s
  far : w.heap.size + 1 ≤ g
  below : Below w.heap.size w wr
theorem TAll.bel {w wr w1 : World} {s : SetV} {g k : Nat} (inv : TAll w s g k wr) (bel : Below wr.heap.size wr w1) : TAll w s g k w1 :=
  ⟨inv.row.of_block (bel.block _ inv.row.lt), inv.box.bel bel, inv.far, below_on inv.below bel⟩
theorem TAll.next {w wr : World} {s : SetV} {g k : Nat} (inv : TAll w s g k wr) : TAll w s g (k + 1) (wr.setCell ⟨g, k, none⟩ (.int .i64 (tolV s (k : Nat)))) := by
  have hf := inv.far
  refine ⟨(inv.row.set k _).congr ?_, ?_, hf, inv.below.setCell (p := ⟨g, k, none⟩) (by show w.heap.size ≤ g; omega) _⟩
  · intro j hj
    by_cases e : j = k
    · subst e
      simp
    · simp only [if_neg e]
      by_cases l : j < k
      · rw [if_pos l, if_pos (by omega)]
      · rw [if_neg l, if_neg (by omega)]
  · obtain ⟨c0, c1⟩ := inv.box
    have he : (wr.setCell ⟨g, k, none⟩ (.int .i64 (tolV s (k : Nat)))).heap[w.heap.size]? = wr.heap[w.heap.size]? := heap_setCell_other _ _ _ _ (by show w.heap.size ≠ g; omega)
    exact ⟨by rw [World.cell?_of_block he]; exact c0, by rw [World.cell?_of_block he]; exact c1⟩
theorem TAll.regs {w wr : World} {s : SetV} {g : Nat} (inv : TAll w s g s.ts.length wr) : RegsIn wr (some ⟨g, 0, none⟩) ((List.range s.ts.length).map (fun k => tolV s (k : Nat))) := fun _ => by
  refine ⟨g, 0, rfl, fun j hj => ?_⟩
  have hj' : j < s.ts.length := by simpa using hj
  have := inv.row.cell hj'
  rw [if_pos hj'] at this
  rw [Nat.zero_add, this]
  simp [List.getD, hj']
theorem TAll.start {w w1 : World} {s : SetV} (h1 : Below (w.heap.size + 1) (w.alloc (.cells #[.int .i64 s.reload, .slice s.ao s.ts.length s.cap] 24)) w1)
    (hz : w.heap.size + 1 ≤ w1.heap.size) : TAll w s w1.heap.size 0 (w1.alloc (.cells (madeCells #[.int .i64 0] s.ts.length) 2)) := by
  have hb1 : Below w.heap.size w w1 := ((Below.refl _ w).alloc (Nat.le_refl _) _).trans (h1.mono (by omega))
  refine ⟨(World.rowIs_made w1 (.int .i64 0) s.ts.length 2).congr (fun i _ => by simp), ?_, hz, hb1.alloc (by omega) _⟩
  exact ((sbox_new w s 24).bel (by simpa using h1)).bel ((Below.refl _ w1).alloc (Nat.le_refl _) _)
theorem all_yes {s : SetV} (h : ∀ j < s.ts.length, tolO s (j : Nat) = true) : tolA s = true ∧ tolL s = (List.range s.ts.length).map (fun k => tolV s (k : Nat)) := by
  have e : tolA s = true := List.all_eq_true.2 fun j hj => h j (List.mem_range.1 hj)
  exact ⟨e, by rw [tolL, e]; rfl⟩
theorem all_no {s : SetV} {k : Nat} (hk : k < s.ts.length) (h : tolO s (k : Nat) = false) : tolA s = false ∧ tolL s = [] := by
  have e : tolA s = false := by
    cases c : tolA s with
    | false => rfl
    | true => have := List.all_eq_true.1 c k (List.mem_range.2 hk); rw [h] at this; cases this
  exact ⟨e, by rw [tolL, e]; rfl⟩
set_option maxHeartbeats 3200000 in
theorem code_TAll : CTAll := fun s w hs ha => by
  have hu : ∀ t ∈ s.ts, U64 t.ecb ∧ U64 t.ucb := fun t ht => ⟨(hs.each t ht).ecb, (hs.each t ht).ucb⟩
  obtain ⟨-, h8, -, -⟩ := all_fits ha hu
  have CA := hide (fun w h => code_AllG s w h)
  rw [ha] at CA
  have CO := hide (fun (k : Nat) (hk : k < s.ts.length) w h => code_TOf s k w h ha (show I64 (k : Int) by unfold I64; omega))
  have HIN := hide hs
  have HY := hide (fun h => all_yes (s := s) h)
  have HNO := hide (fun (k : Nat) hk h => all_no (s := s) (k := k) hk h)
  clear hs ha hu
  have hmk := run_make_row' (P := Try.prog) 26 2 (.int .i64 0) 8 rfl Try.info_i64 rfl .i64 .i64 s.ts.length (by omega) (by omega)
  have B1 := hide ((Below.refl w.heap.size w).alloc (Nat.le_refl _) (.cells #[.int .i64 s.reload, .slice s.ao s.ts.length s.cap] 24))
  have X1 := hide (sbox_new w s 24)
  go_enter Try.func8, Try.ntmps8
  rw [SetV.val]
  go_wp2_with fail
  refine (unhide CA _ (set_bel (unhide HIN) (unhide B1))).mono ?_
  rintro e w1 ⟨rfl, bel⟩
  have hz1 := bel.size
  simp at hz1
  have ST := hide (TAll.start (w := w) (w1 := w1) (s := s) (bel.mono (by simp)) (by omega))
  obtain ⟨c0, c1⟩ := (unhide X1).bel bel
  have hg0 : w.heap.size < w1.heap.size := by omega
  clear bel
  go_wp2
  go_loopw [18] (fun i wr => ∃ k : Nat, k ≤ s.ts.length ∧ i = .int .i64 k ∧ (∀ j < k, tolO s (j : Nat) = true) ∧ TAll w s w1.heap.size k wr) (fun i _ => s.ts.length - (intOf i).toNat)
  case atStart => exact ⟨0, Nat.zero_le _, rfl, fun j hj => by omega, unhide ST⟩
  case round =>
    obtain ⟨k, hk, rfl, hall, inv⟩ := hrel
    clear c0 c1 ST
    obtain ⟨x0, x1⟩ := inv.box
    by_cases hlt : k < s.ts.length
    · have CK := hide (unhide CO k hlt)
      have INV := hide inv
      have HALL := hide hall
      have HNK := hide (unhide HNO k hlt)
      clear inv hall
      go_wp2_with fail
      refine (unhide CK _ (set_bel (unhide HIN) (unhide INV).below)).mono ?_
      rintro e w3 ⟨rfl, bel⟩
      have INV1 := hide ((unhide INV).bel bel)
      clear bel INV x0 x1
      cases hh : tolO s (k : Nat) with
      | true =>
        have HA1 : Hid (∀ j < k + 1, tolO s (j : Nat) = true) := fun j hj => by
          rcases Nat.lt_or_ge j k with l | l
          · exact unhide HALL j l
          · rw [show j = k by omega]; exact hh
        have NX := hide (unhide INV1).next
        have rc := (unhide INV1).row.cell hlt
        have rf := (unhide INV1).row.frozen k
        clear hh
        generalize tolV s (k : Nat) = rk at *
        go_wp2
        go_roundw
        case rel => exact ⟨k + 1, by omega, by go_num, unhide HA1, unhide NX⟩
        case measure => simp [intOf]; omega
      | false =>
        have HB := hide (unhide HNK hh)
        generalize tolV s (k : Nat) = rk at *
        go_wp2
        go_ret2
        exact ⟨none, 0, by rw [(unhide HB).1, (unhide HB).2]; rfl, by rw [(unhide HB).2]; intro h; simp at h, (unhide INV1).below⟩
    · have e : k = s.ts.length := by omega
      subst e
      have HJ := hide (unhide HY hall)
      have INV := hide inv
      clear inv hall
      go_wp2
      go_ret2
      refine ⟨some ⟨w1.heap.size, 0, none⟩, s.ts.length, ?_, ?_, (unhide INV).below⟩
      · rw [(unhide HJ).1, (unhide HJ).2]; simp
      · rw [(unhide HJ).2]; exact (unhide INV).regs
end Go.Proofs.Ytndhjfpjhpnbaaa.Lex
