/- The reference of chapter 8: what it answers, as plain functions. -/
import Derived.Test.YtndhjfpjhpnbaaaTaskSameW
import Derived.Test.YtndhjfpjhpnbaaaBitsList
import Derived.Test.YtndhjfpjhpnbaaaCost
namespace Go.Proofs.Ytndhjfpjhpnbaaa.Lex
set_option maxRecDepth 100000
open Go.ChangeShapes Go.WideShapes Go.RowKit

/- the document's answers -/
def popN (n : Nat) : Nat := (Bits.bl n).length
theorem i64_is (n : Int) (h : -9223372036854775808 ≤ n ∧ n ≤ 9223372036854775807) : IntKind.i64.wrap n = n := by rw [IntKind.wrap_i64]; omega
def belN (ts : List TaskV) (j n : Nat) : Nat := ((ts.take n).drop (j + 1)).foldl (fun a t => a ||| t.ucb.toNat) 0
def inI (s : SetV) (i : Int) : Bool := decide (0 ≤ i) && decide (i < s.ts.length)
def ownZ (s : SetV) (i : Int) : Int := if inI s i then s.reload * (popN (s.ts.getD i.toNat task0).ucb.toNat : Nat) else 0
def madeZ (s : SetV) (j : Int) : Int := if inI s j then s.reload * (popN (belN s.ts j.toNat s.ts.length &&& (s.ts.getD j.toNat task0).ecb.toNat) : Nat) else 0
theorem in_nat {s : SetV} {k : Nat} (h : k < s.ts.length) : inI s k = true := by simp [inI]; omega
theorem in_low {s : SetV} {i : Int} (h : i < 0) : inI s i = false := by simp [inI]; omega
theorem in_high {s : SetV} {i : Int} (h : (s.ts.length : Int) ≤ i) : inI s i = false := by simp [inI]; omega
theorem bel_start (ts : List TaskV) (j : Nat) : belN ts j (j + 1) = 0 := by
  rw [belN, List.drop_eq_nil_of_le (by simp; omega)]; rfl
theorem bel_next (ts : List TaskV) {j k : Nat} (hj : j + 1 ≤ k) (hk : k < ts.length) : belN ts j (k + 1) = belN ts j k ||| (ts.getD k task0).ucb.toNat := by
  rw [belN, belN, List.take_succ_eq_append_getElem hk, List.drop_append_of_le_length (by simp; omega), List.foldl_append]
  simp [List.getD, hk]
theorem or_fold_lt (l : List TaskV) (h : ∀ t ∈ l, U64 t.ucb) : ∀ a, a < 18446744073709551616 → l.foldl (fun a t => a ||| t.ucb.toNat) a < 18446744073709551616 := by
  induction l with
  | nil => intro a ha; exact ha
  | cons t r ih =>
    intro a ha
    refine ih (fun u hu => h u (List.mem_cons_of_mem _ hu)) _ ?_
    have := h t (List.mem_cons_self ..)
    unfold U64 at this
    exact Nat.or_lt_two_pow (n := 64) ha (by omega)
theorem bel_lt (ts : List TaskV) (h : ∀ t ∈ ts, U64 t.ucb) (j n : Nat) : belN ts j n < 18446744073709551616 :=
  or_fold_lt _ (fun t ht => h t (List.mem_of_mem_take (List.mem_of_mem_drop ht))) 0 (by decide)
/- how many -/
theorem rcount_any (x : Int) (w : World) (hx : U64 x) : Calls Try.prog 40 #[.int .u64 x] w fun e w' => e = .returned (.int .i64 (popN x.toNat : Nat)) ∧ Below w.heap.size w w' := by
  unfold U64 at hx
  have CL := hide (Bits.rlist_any x w hx.1 (by omega))
  have HL : Hid ((Bits.il x.toNat).length = popN x.toNat) := hide (by rw [Bits.il_len, popN, Bits.len_bl])
  generalize popN x.toNat = c at *
  generalize Bits.il x.toNat = l at *
  go_enter Try.func40, Try.ntmps40
  go_wp2_with fail
  refine (unhide CL).mono ?_
  rintro e w1 ⟨v, rfl, hown, bel⟩
  rw [unhide HL] at hown
  obtain ⟨a, cap, rfl⟩ : ∃ a cap, v = .slice a c cap := by
    rcases hown.2 with ⟨e, h0⟩ | ⟨g, cap, cur, e, -⟩
    · exact ⟨_, _, by rw [h0]; exact e⟩
    · exact ⟨_, _, e⟩
  have B := hide bel
  clear hown bel
  go_wp2
  go_ret
  exact ⟨rfl, unhide B⟩
/- a set's own cell, and one of its tasks -/
structure XBox (w : World) (g : Nat) (u v : Value) (b o : Nat) (t : TaskV) : Prop where
  c0 : w.cell? ⟨g, 0, none⟩ = some u
  c1 : w.cell? ⟨g, 1, none⟩ = some v
  row : TaskAt w b o t
theorem XBox.bel {w w' : World} {g b o : Nat} {u v : Value} {t : TaskV} (h : XBox w g u v b o t) (hb : Below w.heap.size w w') : XBox w' g u v b o t := ⟨cell_bel' h.c0 hb, cell_bel' h.c1 hb, h.row.bel hb⟩
theorem XBox.drew {w : World} {g b o : Nat} {u v : Value} {t : TaskV} (h : XBox w g u v b o t) : XBox w.drew g u v b o t := h.bel ((Below.refl _ _).drew)
theorem pc_le64 (n : Nat) : popN n ≤ 64 := by rw [popN, Bits.len_bl]; exact Bits.pc_le 64 n
theorem u64_nat {x : Int} (h : U64 x) : ∃ n : Nat, x = n ∧ n < 18446744073709551616 := by unfold U64 at h; exact ⟨x.toNat, by omega, by omega⟩
set_option maxHeartbeats 3200000 in
theorem rmade_any (s : SetV) (i : Int) (w : World) (hs : SetIn w s) (hr : 0 ≤ s.reload ∧ s.reload ≤ 10000) : Calls Try.prog 28 #[s.val, .int .i64 i] w fun e w' => e = .returned (.int .i64 (madeZ s i)) ∧ Below w.heap.size w w' := by
  have hlen := hs.len
  by_cases h0 : i < 0
  · rw [madeZ, in_low h0]
    clear hs
    go_enter Try.func28, Try.ntmps28
    rw [SetV.val]
    go_wp2
    go_ret
    exact ⟨rfl, (Below.refl _ _).alloc (Nat.le_refl _) _⟩
  by_cases h1 : (s.ts.length : Int) ≤ i
  · rw [madeZ, in_high h1]
    clear hs
    go_enter Try.func28, Try.ntmps28
    rw [SetV.val]
    go_wp2
    go_ret
    exact ⟨rfl, (Below.refl _ _).alloc (Nat.le_refl _) _⟩
  obtain ⟨k, rfl⟩ : ∃ k : Nat, i = k := ⟨i.toNat, by omega⟩
  have hk : k < s.ts.length := by omega
  rw [madeZ, in_nat hk]
  obtain ⟨b, off, hao, ht⟩ := set_task hs (fun e => by rw [e] at hk; simp at hk)
  have hlt := bel_lt s.ts (fun t ht => (hs.each t ht).ucb)
  have HT := hide ht
  obtain ⟨rl, ao, cap, ts⟩ := s
  simp only at hao hk hr hlen h1 hlt
  subst hao
  simp only [Int.toNat_natCast, if_true]
  clear ht hs
  have hkw := i64_is ((k : Int) + 1) ⟨by omega, by omega⟩
  generalize hans : (rl * (popN (belN ts k ts.length &&& (ts.getD k task0).ecb.toNat) : Nat) : Int) = ans
  have HANS := hide hans
  have HLT := hide hlt
  clear hans hlt
  go_enter Try.func28, Try.ntmps28
  rw [SetV.val]
  simp only
  go_wp2
  go_loopw [5, 6] (fun u i wr => ∃ j : Nat, k + 1 ≤ j ∧ j ≤ ts.length ∧ i = .int .i64 j ∧ u = .int .u64 (belN ts k j : Nat) ∧ wr = w.alloc (.cells #[.int .i64 rl, .slice (some ⟨b, off, none⟩) ts.length cap] 24)) (fun _ i _ => ts.length - (intOf i).toNat)
  case atStart => exact ⟨k + 1, Nat.le_refl _, by omega, by go_num, by rw [bel_start]; rfl, rfl⟩
  case round =>
    obtain ⟨j, hj0, hj1, rfl, rfl, rfl⟩ := hrel
    have B1 := hide ((Below.refl w.heap.size w).alloc (Nat.le_refl _) (.cells #[.int .i64 rl, .slice (some ⟨b, off, none⟩) ts.length cap] 24))
    by_cases hlt : j < ts.length
    · obtain ⟨hrow, hin⟩ := unhide HT j hlt
      have t8 := (hrow.bel (unhide B1)).c8
      obtain ⟨u, hu, hu1⟩ := u64_nat hin.ucb
      have HN := hide (bel_next ts hj0 hlt)
      have hl := unhide HLT k j
      rw [hu] at t8
      have HN' : Hid (belN ts k (j + 1) = belN ts k j ||| u) := hide (by rw [unhide HN, hu]; simp)
      have hor := bits_or_u64_nat (belN ts k j) u hl hu1
      clear hrow hin hu HN
      generalize belN ts k j = m at *
      go_wp2
      go_roundw
      case rel => exact ⟨j + 1, by omega, by omega, by go_num, by rw [unhide HN'], trivial⟩
      case measure => simp [intOf]; omega
    · have e : j = ts.length := by omega
      subst e
      obtain ⟨hrow, hin⟩ := unhide HT k hk
      have hrow' := hrow.bel (unhide B1)
      have hl := unhide HLT k ts.length
      obtain ⟨u, hu, hu1⟩ := u64_nat hin.ecb
      have hmu : (belN ts k ts.length &&& (ts.getD k task0).ecb.toNat) = belN ts k ts.length &&& u := by rw [hu]; simp
      have hand := bits_and_u64_nat (belN ts k ts.length) u hl hu1
      have hlt2 : belN ts k ts.length &&& u < 18446744073709551616 := Nat.lt_of_le_of_lt Nat.and_le_left hl
      have CC := hide (fun w => rcount_any ((belN ts k ts.length &&& u : Nat) : Int) w (by unfold U64; omega))
      have hc := pc_le64 (belN ts k ts.length &&& u)
      have hA := unhide HANS
      rw [hmu] at hA
      have hbox : XBox (w.alloc (.cells #[.int .i64 rl, .slice (some ⟨b, off, none⟩) ts.length cap] 24)) w.heap.size (.int .i64 rl) (.slice (some ⟨b, off, none⟩) ts.length cap) b (off + k * 9) (ts.getD k task0) := ⟨by simp, by simp, hrow'⟩
      rw [Int.toNat_natCast] at CC
      clear hrow hrow' hin hmu hlt2 HANS HLT HT
      generalize belN ts k ts.length &&& u = mu at *
      generalize belN ts k ts.length = m at *
      have hm0 : 0 ≤ rl * (popN mu : Nat) := Int.mul_nonneg hr.1 (by omega)
      have hm1 : rl * (popN mu : Nat) ≤ 640000 := by
        have := Int.mul_le_mul hr.2 (show ((popN mu : Nat) : Int) ≤ 64 by omega) (by omega) (by decide)
        omega
      generalize popN mu = c at *
      have hw := i64_is (rl * (c : Nat)) ⟨by omega, by omega⟩
      generalize ts.getD k task0 = t at *
      have hk0 : (0 : Int) ≤ (k : Int) := by omega
      have hk1 : (k : Int) < (ts.length : Int) := by omega
      subst hA
      have D0 := hide (unhide B1).drew
      go_wp2_with fail
      refine wp_region_held_drew (S := (fun w9 => XBox w9 w.heap.size (.int .i64 rl) (.slice (some ⟨b, off, none⟩) ts.length cap) b (off + k * 9) t)) (by kernel_rfl) (hbox.drew) (fun hHeld => ?_)
      refine take_yes 0 33 (.pointer (some ⟨w.heap.size, 0, none⟩)) rfl rfl (by kernel_rfl) (by kernel_rfl) (by kernel_rfl) (fun _ _ _ h => h) rfl (by assumption) (by intro w9 hS9; obtain ⟨s0, s1, ⟨t0, t1, t2, t3, t4, t5, t6, t7, t8⟩⟩ := hS9; go_simp) ?_
      simp only [List.setIfInBounds_toArray, List.set_cons_zero, List.set_cons_succ]
      refine take_yes 1 34 (.int .i64 rl) rfl rfl (by kernel_rfl) (by kernel_rfl) (by kernel_rfl) (fun _ _ _ h => h) rfl (by assumption) (by intro w9 hS9; obtain ⟨s0, s1, ⟨t0, t1, t2, t3, t4, t5, t6, t7, t8⟩⟩ := hS9; go_simp) ?_
      simp only [List.setIfInBounds_toArray, List.set_cons_zero, List.set_cons_succ]
      refine take_yes 2 35 (.int .u64 (m : Nat)) rfl rfl (by kernel_rfl) (by kernel_rfl) (by kernel_rfl) (fun _ _ _ h => h) rfl (by assumption) (by intro w9 hS9; obtain ⟨s0, s1, ⟨t0, t1, t2, t3, t4, t5, t6, t7, t8⟩⟩ := hS9; go_simp) ?_
      simp only [List.setIfInBounds_toArray, List.set_cons_zero, List.set_cons_succ]
      refine take_yes 3 36 (.pointer (some ⟨w.heap.size, 1, none⟩)) rfl rfl (by kernel_rfl) (by kernel_rfl) (by kernel_rfl) (fun _ _ _ h => h) rfl (by assumption) (by intro w9 hS9; obtain ⟨s0, s1, ⟨t0, t1, t2, t3, t4, t5, t6, t7, t8⟩⟩ := hS9; go_simp) ?_
      simp only [List.setIfInBounds_toArray, List.set_cons_zero, List.set_cons_succ]
      refine take_yes 4 37 (.slice (some ⟨b, off, none⟩) ts.length cap) rfl rfl (by kernel_rfl) (by kernel_rfl) (by kernel_rfl) (fun _ _ _ h => h) rfl (by assumption) (by intro w9 hS9; obtain ⟨s0, s1, ⟨t0, t1, t2, t3, t4, t5, t6, t7, t8⟩⟩ := hS9; go_simp) ?_
      simp only [List.setIfInBounds_toArray, List.set_cons_zero, List.set_cons_succ]
      refine take_yes 5 38 (.int .i64 k) rfl rfl (by kernel_rfl) (by kernel_rfl) (by kernel_rfl) (fun _ _ _ h => h) rfl (by assumption) (by intro w9 hS9; obtain ⟨s0, s1, ⟨t0, t1, t2, t3, t4, t5, t6, t7, t8⟩⟩ := hS9; go_simp) ?_
      simp only [List.setIfInBounds_toArray, List.set_cons_zero, List.set_cons_succ]
      refine take_yes 6 39 (.pointer (some ⟨b, off + k * 9, none⟩)) rfl rfl (by kernel_rfl) (by kernel_rfl) (by kernel_rfl) (fun _ _ _ h => h) rfl (by assumption) (by intro w9 hS9; obtain ⟨s0, s1, ⟨t0, t1, t2, t3, t4, t5, t6, t7, t8⟩⟩ := hS9; go_simp) ?_
      simp only [List.setIfInBounds_toArray, List.set_cons_zero, List.set_cons_succ]
      refine take_yes 7 40 (.pointer (some ⟨b, off + k * 9 + 7, none⟩)) rfl rfl (by kernel_rfl) (by kernel_rfl) (by kernel_rfl) (fun _ _ _ h => h) rfl (by assumption) (by intro w9 hS9; obtain ⟨s0, s1, ⟨t0, t1, t2, t3, t4, t5, t6, t7, t8⟩⟩ := hS9; go_simp) ?_
      simp only [List.setIfInBounds_toArray, List.set_cons_zero, List.set_cons_succ]
      refine take_yes 8 41 (.int .u64 (u : Nat)) rfl rfl (by kernel_rfl) (by kernel_rfl) (by kernel_rfl) (fun _ _ _ h => h) rfl (by assumption) (by intro w9 hS9; obtain ⟨s0, s1, ⟨t0, t1, t2, t3, t4, t5, t6, t7, t8⟩⟩ := hS9; go_simp) ?_
      simp only [List.setIfInBounds_toArray, List.set_cons_zero, List.set_cons_succ]
      refine take_yes 9 42 (.int .u64 (mu : Nat)) rfl rfl (by kernel_rfl) (by kernel_rfl) (by kernel_rfl) (fun _ _ _ h => h) rfl (by assumption) (by intro w9 hS9; obtain ⟨s0, s1, ⟨t0, t1, t2, t3, t4, t5, t6, t7, t8⟩⟩ := hS9; rw [hu] at t7; go_simp) ?_
      simp only [List.setIfInBounds_toArray, List.set_cons_zero, List.set_cons_succ]
      refine wpAnyH_ready (rs := [10]) (by kernel_rfl) (by decide) (AllReadyH.cons rfl (fun K hK => ?_) AllReadyH.nil)
      refine (if_pos rfl).mpr ?_
      go_wp2_with fail
      refine (unhide CC (w.alloc (.cells #[.int .i64 rl, .slice (some ⟨b, off, none⟩) ts.length cap] 24)).drew).mono ?_
      rintro e x1 ⟨rfl, bel⟩
      have N1 := hide (below_on (unhide D0) bel)
      refine hK.out _ _ (hHeld.bel bel) (fun hHeld => ?_)
      clear hK K bel
      refine take_yes 11 44 (.int .i64 (rl * (c : Nat))) rfl rfl (by kernel_rfl) (by kernel_rfl) (by kernel_rfl) (fun _ _ _ h => h) rfl (by assumption) (by intro w9 hS9; obtain ⟨s0, s1, ⟨t0, t1, t2, t3, t4, t5, t6, t7, t8⟩⟩ := hS9; go_simp) ?_
      simp only [List.setIfInBounds_toArray, List.set_cons_zero, List.set_cons_succ]
      refine take_yes 12 4 (.int .i64 (rl * (c : Nat))) rfl rfl (by kernel_rfl) (by kernel_rfl) (by kernel_rfl) (fun _ _ _ h => h) rfl (by assumption) (by intro w9 hS9; obtain ⟨s0, s1, ⟨t0, t1, t2, t3, t4, t5, t6, t7, t8⟩⟩ := hS9; go_simp) ?_
      simp only [List.setIfInBounds_toArray, List.set_cons_zero, List.set_cons_succ]
      refine wpAnyH_done (by kernel_rfl) ?_ _
      go_wp2
      go_ret
      exact ⟨rfl, unhide N1⟩
end Go.Proofs.Ytndhjfpjhpnbaaa.Lex
