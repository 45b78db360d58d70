/- What Is and Work of package task answer. -/
import Derived.Test.YtndhjfpjhpnbaaaTaskKnown
import Derived.Test.YtndhjfpjhpnbaaaLexCode
namespace Go.Proofs.Ytndhjfpjhpnbaaa.Lex
set_option maxRecDepth 100000
open Go.ChangeShapes Go.WideShapes Go.RowKit

/- a name is a text whose first token is a Name and the whole text -/
theorem oneOf_name {l : List UInt8} {t : Tok} {m : Nat} (h : oneOf l = some (t, m)) (hk : t.kind = 1) : ∃ c r, l = c :: r ∧ smallC c = true ∧ t.text = l.takeWhile nameC ∧ m = t.text.length ∧ m ≤ 12 ∧ ∃ r', t.text = c :: r' := by
  cases l with
  | nil => simp [oneOf] at h
  | cons c r =>
    simp only [oneOf] at h
    split at h
    · cases h; simp at hk
    · split at h
      · split at h
        · cases h
        · cases h; simp at hk
      · split at h
        · rename_i hs
          have hn : nameC c = true := by simp [nameC, hs]
          split at h
          · cases h; simp at hk
          · split at h
            · cases h
            · rename_i hle
              cases h
              refine ⟨c, r, rfl, hs, rfl, rfl, by omega, r.takeWhile nameC, ?_⟩
              simp [hn]
        · cases h
theorem toks_name : ∀ (f : Nat) (note : Bool) (i : Nat) (l : List UInt8) (L : List Tok), toks f note i l = .ok L → ∀ t ∈ L, t.kind = 1 → ∃ c r, t.text = c :: r ∧ smallC c = true := by
  intro f
  induction f with
  | zero => intro note i l L h; cases h; intro t ht; cases ht
  | succ f ih =>
    intro note i l L h
    cases l with
    | nil => cases h; intro t ht; cases ht
    | cons c r =>
      simp only [toks] at h
      split at h
      · exact ih _ _ _ _ h
      · split at h
        · exact ih _ _ _ _ h
        · cases ho : oneOf (c :: r) with
          | none => rw [ho] at h; cases h
          | some p =>
            obtain ⟨t, m⟩ := p
            rw [ho] at h
            simp only at h
            cases hr : toks f false (i + m) ((c :: r).drop m) with
            | error k => rw [hr] at h; cases h
            | ok L' =>
              rw [hr] at h
              cases h
              intro u hu hk
              rcases List.mem_cons.1 hu with rfl | hu
              · obtain ⟨c', r', e, hs, -, -, -, r2, e2⟩ := oneOf_name ho hk
                exact ⟨c', r2, e2, hs⟩
              · exact ih _ _ _ _ hr u hu hk
theorem take_whole {p : UInt8 → Bool} {l : List UInt8} : (l.takeWhile p).length = l.length ↔ l.takeWhile p = l :=
  ⟨fun h => (List.takeWhile_sublist p).eq_of_length h, fun h => by rw [h]⟩
theorem name_toks (l : List UInt8) : ((tokens l).err ≠ 0 ∧ nameB l = false) ∨ ((tokens l).err = 0 ∧ ∃ t r, (tokens l).toks = t :: r ∧ nameB l = (t.kind == 1 && t.text == l)) := by
  cases l with
  | nil => exact .inr ⟨rfl, ⟨4, [], 0, 0⟩, [], rfl, rfl⟩
  | cons c r =>
    by_cases h4 : 4000 < (c :: r).length
    · refine .inl ⟨by simp only [tokens]; rw [if_pos h4]; simp, ?_⟩
      rw [Bool.eq_false_iff]
      intro h
      simp only [nameB, Bool.and_eq_true] at h
      cases ho : oneOf (c :: r) with
      | none => rw [ho] at h; simp at h
      | some p =>
        obtain ⟨t, m⟩ := p
        rw [ho] at h
        simp only [Bool.and_eq_true, beq_iff_eq] at h
        obtain ⟨-, -, -, -, -, -, h12, -⟩ := oneOf_name ho h.2.2
        omega
    · have ht : tokens (c :: r) = match toksA false 0 (c :: r) with
        | .error i => ⟨[], i, 2⟩
        | .ok L => ⟨L ++ [⟨4, [], 0, (c :: r).length⟩], (c :: r).length, 0⟩ := by rw [tokens, if_neg h4]; cases toksA false 0 (c :: r) <;> rfl
      cases hs : smallC c
      · have hn : nameB (c :: r) = false := by simp only [nameB, hs, Bool.false_and]
        rw [hn]
        cases hA : toksA false 0 (c :: r) with
        | error i => rw [hA] at ht; rw [ht]; exact .inl ⟨by simp, rfl⟩
        | ok L =>
          rw [hA] at ht; rw [ht]
          refine .inr ⟨rfl, ?_⟩
          cases L with
          | nil => exact ⟨_, _, rfl, rfl⟩
          | cons t L' =>
            refine ⟨t, L' ++ [⟨4, [], 0, (c :: r).length⟩], rfl, ?_⟩
            symm
            rw [Bool.eq_false_iff]
            intro h
            simp only [Bool.and_eq_true, beq_iff_eq] at h
            obtain ⟨c', r', e, hs'⟩ := toks_name _ _ _ _ _ hA t (List.mem_cons_self ..) h.1
            rw [h.2] at e
            cases e
            rw [hs] at hs'; cases hs'
      · have hc : 97 ≤ c.toNat ∧ c.toNat ≤ 122 := by simpa [smallC] using hs
        have hA := toksA_cons false 0 c r
        have e1 : (false || c.toNat == 35) = false := by simp; omega
        have e2 : (c.toNat == 32 || c.toNat == 10) = false := by simp; omega
        rw [e1, e2] at hA
        simp only [Bool.false_eq_true, if_false] at hA
        cases ho : oneOf (c :: r) with
        | none =>
          rw [ho] at hA
          simp only at hA
          rw [hA] at ht; rw [ht]
          exact .inl ⟨by simp, by simp only [nameB, hs, ho]; rfl⟩
        | some p =>
          obtain ⟨t, m⟩ := p
          rw [ho] at hA
          simp only at hA
          have hn : nameB (c :: r) = (m == (c :: r).length && t.kind == 1) := by simp only [nameB, hs, ho, Bool.true_and]
          have hq : (m == (c :: r).length && t.kind == 1) = (t.kind == 1 && t.text == (c :: r)) := by
            by_cases hk : t.kind = 1
            · obtain ⟨-, -, -, -, htx, hm, -, -⟩ := oneOf_name ho hk
              rw [hk, hm, htx]
              rw [Bool.eq_iff_iff]
              simp only [Bool.and_eq_true, beq_iff_eq, and_true, true_and, take_whole]
            · rw [beq_eq_false_iff_ne.2 hk]; simp
          rw [hn]
          cases hr : toksA false (0 + m) ((c :: r).drop m) with
          | error i =>
            rw [hr] at hA
            rw [hA] at ht; rw [ht]
            refine .inl ⟨by simp [Except.map], ?_⟩
            rw [Bool.eq_false_iff]
            intro h
            simp only [Bool.and_eq_true, beq_iff_eq] at h
            rw [h.1, List.drop_length] at hr
            cases hr
          | ok L =>
            rw [hr] at hA
            rw [hA] at ht; rw [ht]
            exact .inr ⟨rfl, { t with pos := ((0 : Nat) : Int) }, L ++ [⟨4, [], 0, (c :: r).length⟩], rfl, hq⟩
theorem text_whole (s : ByteArray) (t : List UInt8) : ((mkS t).toList == s.toList) = (t == bl s) := by
  rw [ByteArray.toList_eq, ByteArray.toList_eq]; rfl
set_option maxHeartbeats 800000 in
theorem isname_any (s : ByteArray) (w : World) : Calls Try.prog 33 #[.string s] w fun e w' => e = .returned (.bool (nameB (bl s))) ∧ Below w.heap.size w w' := by
  have CT := hide (fun w => code_T s w)
  rcases name_toks (bl s) with ⟨he, hn⟩ | ⟨he, t, r, ht, hn⟩
  · rw [hn]
    have he' : ((tokens (bl s)).err == 0) = false := beq_eq_false_iff_ne.2 he
    clear hn he
    go_enter Try.func33, Try.ntmps33
    go_wp2_with fail
    refine (unhide CT _).mono ?_
    rintro e w1 ⟨v, rfl, own, bel⟩
    have B := hide bel
    clear bel own
    generalize (tokens (bl s)).err = E at *
    generalize (tokens (bl s)).pos = P at *
    go_wp2
    go_ret
    exact ⟨rfl, unhide B⟩
  · have HN := hide hn
    clear hn
    go_enter Try.func33, Try.ntmps33
    go_wp2_with fail
    refine (unhide CT _).mono ?_
    rintro e w1 ⟨v, rfl, own, bel⟩
    have B := hide bel
    clear bel
    obtain ⟨ao, cap, rfl, hrow⟩ := trow_of_own own
    obtain ⟨b, off, rfl, hc⟩ := hrow (by rw [ht]; simp)
    have c := hc 0 (by rw [ht]; simp)
    rw [he, ht]
    rw [ht] at c
    simp only [List.getD_cons_zero, Nat.zero_mul, Nat.add_zero] at c
    obtain ⟨c0, c1, -, -⟩ := c
    generalize (tokens (bl s)).pos = P at *
    simp only [List.length_cons]
    clear hc hrow own ht he
    have hx := text_whole s t.text
    cases hk : (t.kind == 1)
    · have HF : Hid (nameB (bl s) = false) := by show nameB (bl s) = false; rw [unhide HN, hk]; rfl
      go_wp2
      go_ret
      exact ⟨ret_bool (unhide HF).symm, unhide B⟩
    · have HF : Hid (nameB (bl s) = (t.text == bl s)) := by show nameB (bl s) = _; rw [unhide HN, hk]; rfl
      go_wp2
      go_ret
      exact ⟨ret_bool (unhide HF).symm, unhide B⟩

/- the work of a task -/
set_option maxHeartbeats 400000 in
theorem code_Work : CWork := fun t w ht hr => by
  have ht := ht.regs
  obtain ⟨name, T, D, mode, Q, theta, ao, cap, ecb, ucb, l⟩ := t
  obtain ⟨h8, heach⟩ := regs_each hr
  simp only at ht h8 heach ⊢
  have hcell : ∀ j, j < l.length → ∃ b off, ao = some ⟨b, off, none⟩ ∧ b < w.heap.size ∧ w.cell? ⟨b, off + j, none⟩ = some (.int .i64 (l.getD j 0)) := fun j hj => by
    obtain ⟨b, off, e, h⟩ := ht (fun e => by rw [e] at hj; simp at hj)
    exact ⟨b, off, e, World.block_lt_of_cell? w _ (h j hj), h j hj⟩
  have HC := hide hcell
  have HE := hide heach
  clear ht hcell heach hr
  go_enter Try.func44, Try.ntmps44
  rw [TaskV.val, TaskV.cells]
  simp only
  go_wp2
  go_loop [3, 9] (fun v i => ∃ k : Nat, k ≤ l.length ∧ i = .int .i64 k ∧ v = .int .i64 (workZ (l.take k))) (fun _ i => l.length - (intOf i).toNat)
  case atStart => exact ⟨0, Nat.zero_le _, rfl, rfl⟩
  case round =>
    obtain ⟨k, hk, rfl, rfl⟩ := hrel
    by_cases hlt : k < l.length
    · obtain ⟨b, off, rfl, hb, hc⟩ := unhide HC k hlt
      have hw := work_take l k hlt
      have hbd := work_bound (l.take k) (fun n hn => unhide HE n (List.mem_of_mem_take hn))
      have hn : 1 ≤ l.getD k 0 ∧ l.getD k 0 ≤ 10000 := unhide HE _ (getD_mem hlt)
      have hl : (l.take k).length ≤ 8 := by rw [List.length_take]; omega
      have HK := hide hw
      clear hw
      generalize workZ (l.take k) = V at *
      generalize l.getD k 0 = n at *
      generalize (l.take k).length = q at *
      obtain ⟨n0, n1⟩ := hn
      obtain ⟨v0, v1⟩ := hbd
      have hne : b ≠ w.heap.size := Nat.ne_of_lt hb
      go_wp2
      go_round
      case rel => exact ⟨k + 1, by omega, by go_num, by rw [unhide HK]⟩
      case measure => simp [intOf]; omega
    · have e : l.take k = l := List.take_of_length_le (by omega)
      rw [e]
      go_wp2
      go_ret
      exact ⟨rfl, (Below.refl _ _).alloc (Nat.le_refl _) _⟩

/- its times -/
def timedB (t : TaskV) : Bool := decide (1 ≤ t.regs.length) && (decide (t.regs.length ≤ 8) && (t.regs.all (inB · 1 10000) && (decide (workZ t.regs ≤ t.D) && (decide (t.D ≤ t.T) && decide (t.T ≤ 10000)))))
set_option maxHeartbeats 12800000 in
theorem timed_any (t : TaskV) (w : World) (ht : TaskIn w t) : Calls Try.prog 34 #[t.val] w fun e w' => e = .returned (.bool (timedB t)) ∧ Below w.heap.size w w' := by
  have hlen := ht.len
  have HIN := hide ht
  generalize hans : timedB t = ans
  have HQ := hide hans
  clear hans ht
  obtain ⟨name, T, D, mode, Q, theta, ao, cap, ecb, ucb, l⟩ := t
  simp only at hlen
  by_cases h1 : l.length < 1
  · have HF : Hid (ans = false) := by show ans = false; rw [← unhide HQ]; simp [timedB]; omega
    go_enter Try.func34, Try.ntmps34
    rw [TaskV.val, TaskV.cells]
    simp only
    go_wp2
    go_ret
    exact ⟨ret_bool (unhide HF).symm, (Below.refl _ _).alloc (Nat.le_refl _) _⟩
  by_cases h8 : 8 < l.length
  · have HF : Hid (ans = false) := by show ans = false; rw [← unhide HQ]; simp [timedB]; omega
    go_enter Try.func34, Try.ntmps34
    rw [TaskV.val, TaskV.cells]
    simp only
    go_wp2
    go_ret
    exact ⟨ret_bool (unhide HF).symm, (Below.refl _ _).alloc (Nat.le_refl _) _⟩
  obtain ⟨b, off, hao, hcc⟩ := (unhide HIN).regs (fun e => by simp only at e; rw [e] at h1; simp at h1)
  simp only at hao hcc
  subst hao
  have HC := hide hcc
  have hb : b < w.heap.size := World.block_lt_of_cell? w _ (hcc 0 (by omega))
  have hne : b ≠ w.heap.size := Nat.ne_of_lt hb
  clear hcc
  go_enter Try.func34, Try.ntmps34
  rw [TaskV.val, TaskV.cells]
  simp only
  go_wp2
  go_loop [18] (fun i => ∃ k : Nat, k ≤ l.length ∧ i = .int .i64 k ∧ (l.take k).all (inB · 1 10000) = true) (fun i => l.length - (intOf i).toNat)
  case atStart => exact ⟨0, Nat.zero_le _, rfl, rfl⟩
  case round =>
    obtain ⟨k, hk, rfl, hall⟩ := hrel
    by_cases hlt : k < l.length
    · have hc := unhide HC k hlt
      cases hq : inB (l.getD k 0) 1 10000
      · have HF : Hid (ans = false) := by show ans = false; rw [← unhide HQ, timedB]; simp only; rw [all_not (p := (inB · 1 10000)) hlt hq]; simp
        clear hall
        generalize l.getD k 0 = n at *
        by_cases hn : n < 1
        · clear hq
          go_wp2
          go_ret
          exact ⟨ret_bool (unhide HF).symm, (Below.refl _ _).alloc (Nat.le_refl _) _⟩
        · have hn2 : 10000 < n := by
            simp only [inB, Bool.and_eq_false_iff, decide_eq_false_iff_not] at hq
            omega
          clear hq
          go_wp2
          go_ret
          exact ⟨ret_bool (unhide HF).symm, (Below.refl _ _).alloc (Nat.le_refl _) _⟩
      · have HA := hide (all_next hlt hall hq)
        clear hall
        generalize l.getD k 0 = n at *
        have hn : 1 ≤ n ∧ n ≤ 10000 := by simpa [inB] using hq
        obtain ⟨hn1, hn2⟩ := hn
        clear hq
        go_wp2
        go_round
        case rel => exact ⟨k + 1, by omega, by go_num, unhide HA⟩
        case measure => simp [intOf]; omega
    · have e : l.take k = l := List.take_of_length_le (by omega)
      rw [e] at hall
      have HR : Hid (regsB l = true) := by show regsB l = true; rw [regsB, hall, decide_eq_true (show l.length ≤ 8 by omega)]; rfl
      have HQ2 : Hid ((decide (workZ l ≤ D) && (decide (D ≤ T) && decide (T ≤ 10000))) = ans) := by
        show _ = ans
        rw [← unhide HQ, timedB]
        simp only
        rw [hall, decide_eq_true (show l.length ≤ 8 by omega), decide_eq_true (show 1 ≤ l.length by omega)]
        rfl
      have CW := hide (fun w h => code_Work ⟨name, T, D, mode, Q, theta, some ⟨b, off, none⟩, cap, ecb, ucb, l⟩ w h (unhide HR))
      simp only at CW
      have HB1 : Hid (Below w.heap.size w (w.alloc (.cells #[.string name, .int .i64 T, .int .i64 D, .int .i64 mode, .int .i64 Q, .int .i64 theta, .slice (some ⟨b, off, none⟩) l.length cap, .int .u64 ecb, .int .u64 ucb] 38)).drew) := ((Below.refl _ _).alloc (Nat.le_refl _) _).drew
      have hbox := (box_new w ⟨name, T, D, mode, Q, theta, some ⟨b, off, none⟩, cap, ecb, ucb, l⟩ 38).drew
      clear hall e hne HC
      go_wp2_with fail
      clear hlt hk h1 h8
      generalize workZ l = W at *
      by_cases hd : W ≤ D
      · by_cases ht : D ≤ T
        · by_cases hm : T ≤ 10000
          · have HF : Hid (ans = true) := by show ans = true; rw [← unhide HQ2, decide_eq_true hd, decide_eq_true ht, decide_eq_true hm]; rfl
            have x1 : decide (W ≤ D) = true := by simp; omega
            have x2 : decide (D ≤ T) = true := by simp; omega
            have x3 : decide (T ≤ 10000) = true := by simp; omega
            clear hd ht hm
            refine wp_region_held_drew (S := fun w9 => Box w9 w.heap.size ⟨name, T, D, mode, Q, theta, some ⟨b, off, none⟩, cap, ecb, ucb, l⟩) (by kernel_rfl) hbox (fun hHeld => ?_)
            refine take_yes 0 29 (.agg #[.string name, .int .i64 T, .int .i64 D, .int .i64 mode, .int .i64 Q, .int .i64 theta, .slice (some ⟨b, off, none⟩) l.length cap, .int .u64 ecb, .int .u64 ucb]) rfl rfl (by kernel_rfl) (by kernel_rfl) (by kernel_rfl) (fun _ _ _ h => h) rfl (by assumption) (by intro w9 hS9; obtain ⟨s0, s1, s2, s3, s4, s5, s6, s7, s8⟩ := hS9; simp only at s0 s1 s2 s3 s4 s5 s6 s7 s8; go_simp) ?_
            simp only [List.setIfInBounds_toArray, List.set_cons_zero, List.set_cons_succ]
            refine take_yes 2 31 (.pointer (some ⟨w.heap.size, 2, none⟩)) rfl rfl (by kernel_rfl) (by kernel_rfl) (by kernel_rfl) (fun _ _ _ h => h) rfl (by assumption) (by intro w9 hS9; obtain ⟨s0, s1, s2, s3, s4, s5, s6, s7, s8⟩ := hS9; simp only at s0 s1 s2 s3 s4 s5 s6 s7 s8; go_simp) ?_
            simp only [List.setIfInBounds_toArray, List.set_cons_zero, List.set_cons_succ]
            refine take_yes 3 32 (.int .i64 D) rfl rfl (by kernel_rfl) (by kernel_rfl) (by kernel_rfl) (fun _ _ _ h => h) rfl (by assumption) (by intro w9 hS9; obtain ⟨s0, s1, s2, s3, s4, s5, s6, s7, s8⟩ := hS9; simp only at s0 s1 s2 s3 s4 s5 s6 s7 s8; go_simp) ?_
            simp only [List.setIfInBounds_toArray, List.set_cons_zero, List.set_cons_succ]
            refine wpAnyH_ready (rs := [1]) (by kernel_rfl) (by decide) (AllReadyH.cons rfl (fun K hK => ?_) AllReadyH.nil)
            refine (if_pos rfl).mpr ?_
            go_wp2_with fail
            refine (unhide CW _ (task_bel (unhide HIN) (unhide HB1))).mono ?_
            rintro e w2 ⟨rfl, bel⟩
            have B2 := hide (below_on (unhide HB1) bel)
            refine hK.out _ _ (hHeld.bel bel) (fun hHeld => ?_)
            clear hK K bel
            refine take_yes 4 33 (.bool true) rfl rfl (by kernel_rfl) (by kernel_rfl) (by kernel_rfl) (fun _ _ _ h => h) rfl (by assumption) (by intro w9 hS9; obtain ⟨s0, s1, s2, s3, s4, s5, s6, s7, s8⟩ := hS9; simp only at s0 s1 s2 s3 s4 s5 s6 s7 s8; go_simp) ?_
            simp only [List.setIfInBounds_toArray, List.set_cons_zero, List.set_cons_succ]
            refine take_yes 5 34 (.bool true) rfl rfl (by kernel_rfl) (by kernel_rfl) (by kernel_rfl) (fun _ _ _ h => h) rfl (by assumption) (by intro w9 hS9; obtain ⟨s0, s1, s2, s3, s4, s5, s6, s7, s8⟩ := hS9; simp only at s0 s1 s2 s3 s4 s5 s6 s7 s8; go_simp) ?_
            simp only [List.setIfInBounds_toArray, List.set_cons_zero, List.set_cons_succ]
            refine take_yes 6 35 (.pointer (some ⟨w.heap.size, 2, none⟩)) rfl rfl (by kernel_rfl) (by kernel_rfl) (by kernel_rfl) (fun _ _ _ h => h) rfl (by assumption) (by intro w9 hS9; obtain ⟨s0, s1, s2, s3, s4, s5, s6, s7, s8⟩ := hS9; simp only at s0 s1 s2 s3 s4 s5 s6 s7 s8; go_simp) ?_
            simp only [List.setIfInBounds_toArray, List.set_cons_zero, List.set_cons_succ]
            refine take_yes 7 36 (.int .i64 D) rfl rfl (by kernel_rfl) (by kernel_rfl) (by kernel_rfl) (fun _ _ _ h => h) rfl (by assumption) (by intro w9 hS9; obtain ⟨s0, s1, s2, s3, s4, s5, s6, s7, s8⟩ := hS9; simp only at s0 s1 s2 s3 s4 s5 s6 s7 s8; go_simp) ?_
            simp only [List.setIfInBounds_toArray, List.set_cons_zero, List.set_cons_succ]
            refine take_yes 8 37 (.pointer (some ⟨w.heap.size, 1, none⟩)) rfl rfl (by kernel_rfl) (by kernel_rfl) (by kernel_rfl) (fun _ _ _ h => h) rfl (by assumption) (by intro w9 hS9; obtain ⟨s0, s1, s2, s3, s4, s5, s6, s7, s8⟩ := hS9; simp only at s0 s1 s2 s3 s4 s5 s6 s7 s8; go_simp) ?_
            simp only [List.setIfInBounds_toArray, List.set_cons_zero, List.set_cons_succ]
            refine take_yes 9 38 (.int .i64 T) rfl rfl (by kernel_rfl) (by kernel_rfl) (by kernel_rfl) (fun _ _ _ h => h) rfl (by assumption) (by intro w9 hS9; obtain ⟨s0, s1, s2, s3, s4, s5, s6, s7, s8⟩ := hS9; simp only at s0 s1 s2 s3 s4 s5 s6 s7 s8; go_simp) ?_
            simp only [List.setIfInBounds_toArray, List.set_cons_zero, List.set_cons_succ]
            refine take_yes 10 39 (.bool true) rfl rfl (by kernel_rfl) (by kernel_rfl) (by kernel_rfl) (fun _ _ _ h => h) rfl (by assumption) (by intro w9 hS9; obtain ⟨s0, s1, s2, s3, s4, s5, s6, s7, s8⟩ := hS9; simp only at s0 s1 s2 s3 s4 s5 s6 s7 s8; go_simp) ?_
            simp only [List.setIfInBounds_toArray, List.set_cons_zero, List.set_cons_succ]
            refine take_yes 11 40 (.bool true) rfl rfl (by kernel_rfl) (by kernel_rfl) (by kernel_rfl) (fun _ _ _ h => h) rfl (by assumption) (by intro w9 hS9; obtain ⟨s0, s1, s2, s3, s4, s5, s6, s7, s8⟩ := hS9; simp only at s0 s1 s2 s3 s4 s5 s6 s7 s8; go_simp) ?_
            simp only [List.setIfInBounds_toArray, List.set_cons_zero, List.set_cons_succ]
            refine take_yes 12 41 (.bool true) rfl rfl (by kernel_rfl) (by kernel_rfl) (by kernel_rfl) (fun _ _ _ h => h) rfl (by assumption) (by intro w9 hS9; obtain ⟨s0, s1, s2, s3, s4, s5, s6, s7, s8⟩ := hS9; simp only at s0 s1 s2 s3 s4 s5 s6 s7 s8; go_simp) ?_
            simp only [List.setIfInBounds_toArray, List.set_cons_zero, List.set_cons_succ]
            refine take_yes 13 42 (.pointer (some ⟨w.heap.size, 1, none⟩)) rfl rfl (by kernel_rfl) (by kernel_rfl) (by kernel_rfl) (fun _ _ _ h => h) rfl (by assumption) (by intro w9 hS9; obtain ⟨s0, s1, s2, s3, s4, s5, s6, s7, s8⟩ := hS9; simp only at s0 s1 s2 s3 s4 s5 s6 s7 s8; go_simp) ?_
            simp only [List.setIfInBounds_toArray, List.set_cons_zero, List.set_cons_succ]
            refine take_yes 14 43 (.int .i64 T) rfl rfl (by kernel_rfl) (by kernel_rfl) (by kernel_rfl) (fun _ _ _ h => h) rfl (by assumption) (by intro w9 hS9; obtain ⟨s0, s1, s2, s3, s4, s5, s6, s7, s8⟩ := hS9; simp only at s0 s1 s2 s3 s4 s5 s6 s7 s8; go_simp) ?_
            simp only [List.setIfInBounds_toArray, List.set_cons_zero, List.set_cons_succ]
            refine take_yes 15 44 (.bool true) rfl rfl (by kernel_rfl) (by kernel_rfl) (by kernel_rfl) (fun _ _ _ h => h) rfl (by assumption) (by intro w9 hS9; obtain ⟨s0, s1, s2, s3, s4, s5, s6, s7, s8⟩ := hS9; simp only at s0 s1 s2 s3 s4 s5 s6 s7 s8; go_simp) ?_
            simp only [List.setIfInBounds_toArray, List.set_cons_zero, List.set_cons_succ]
            refine take_yes 16 45 (.bool true) rfl rfl (by kernel_rfl) (by kernel_rfl) (by kernel_rfl) (fun _ _ _ h => h) rfl (by assumption) (by intro w9 hS9; obtain ⟨s0, s1, s2, s3, s4, s5, s6, s7, s8⟩ := hS9; simp only at s0 s1 s2 s3 s4 s5 s6 s7 s8; go_simp) ?_
            simp only [List.setIfInBounds_toArray, List.set_cons_zero, List.set_cons_succ]
            refine take_yes 17 2 (.bool true) rfl rfl (by kernel_rfl) (by kernel_rfl) (by kernel_rfl) (fun _ _ _ h => h) rfl (by assumption) (by intro w9 hS9; obtain ⟨s0, s1, s2, s3, s4, s5, s6, s7, s8⟩ := hS9; simp only at s0 s1 s2 s3 s4 s5 s6 s7 s8; go_simp) ?_
            simp only [List.setIfInBounds_toArray, List.set_cons_zero, List.set_cons_succ]
            refine wpAnyH_done (by kernel_rfl) ?_ _
            go_wp2
            go_ret
            exact ⟨ret_bool (unhide HF).symm, unhide B2⟩
          · have HF : Hid (ans = false) := by show ans = false; rw [← unhide HQ2, decide_eq_true hd, decide_eq_true ht, decide_eq_false hm]; rfl
            have x1 : decide (W ≤ D) = true := by simp; omega
            have x2 : decide (D ≤ T) = true := by simp; omega
            have x3 : decide (T ≤ 10000) = false := by simp; omega
            clear hd ht hm
            refine wp_region_held_drew (S := fun w9 => Box w9 w.heap.size ⟨name, T, D, mode, Q, theta, some ⟨b, off, none⟩, cap, ecb, ucb, l⟩) (by kernel_rfl) hbox (fun hHeld => ?_)
            refine take_yes 0 29 (.agg #[.string name, .int .i64 T, .int .i64 D, .int .i64 mode, .int .i64 Q, .int .i64 theta, .slice (some ⟨b, off, none⟩) l.length cap, .int .u64 ecb, .int .u64 ucb]) rfl rfl (by kernel_rfl) (by kernel_rfl) (by kernel_rfl) (fun _ _ _ h => h) rfl (by assumption) (by intro w9 hS9; obtain ⟨s0, s1, s2, s3, s4, s5, s6, s7, s8⟩ := hS9; simp only at s0 s1 s2 s3 s4 s5 s6 s7 s8; go_simp) ?_
            simp only [List.setIfInBounds_toArray, List.set_cons_zero, List.set_cons_succ]
            refine take_yes 2 31 (.pointer (some ⟨w.heap.size, 2, none⟩)) rfl rfl (by kernel_rfl) (by kernel_rfl) (by kernel_rfl) (fun _ _ _ h => h) rfl (by assumption) (by intro w9 hS9; obtain ⟨s0, s1, s2, s3, s4, s5, s6, s7, s8⟩ := hS9; simp only at s0 s1 s2 s3 s4 s5 s6 s7 s8; go_simp) ?_
            simp only [List.setIfInBounds_toArray, List.set_cons_zero, List.set_cons_succ]
            refine take_yes 3 32 (.int .i64 D) rfl rfl (by kernel_rfl) (by kernel_rfl) (by kernel_rfl) (fun _ _ _ h => h) rfl (by assumption) (by intro w9 hS9; obtain ⟨s0, s1, s2, s3, s4, s5, s6, s7, s8⟩ := hS9; simp only at s0 s1 s2 s3 s4 s5 s6 s7 s8; go_simp) ?_
            simp only [List.setIfInBounds_toArray, List.set_cons_zero, List.set_cons_succ]
            refine wpAnyH_ready (rs := [1]) (by kernel_rfl) (by decide) (AllReadyH.cons rfl (fun K hK => ?_) AllReadyH.nil)
            refine (if_pos rfl).mpr ?_
            go_wp2_with fail
            refine (unhide CW _ (task_bel (unhide HIN) (unhide HB1))).mono ?_
            rintro e w2 ⟨rfl, bel⟩
            have B2 := hide (below_on (unhide HB1) bel)
            refine hK.out _ _ (hHeld.bel bel) (fun hHeld => ?_)
            clear hK K bel
            refine take_yes 4 33 (.bool true) rfl rfl (by kernel_rfl) (by kernel_rfl) (by kernel_rfl) (fun _ _ _ h => h) rfl (by assumption) (by intro w9 hS9; obtain ⟨s0, s1, s2, s3, s4, s5, s6, s7, s8⟩ := hS9; simp only at s0 s1 s2 s3 s4 s5 s6 s7 s8; go_simp) ?_
            simp only [List.setIfInBounds_toArray, List.set_cons_zero, List.set_cons_succ]
            refine take_yes 5 34 (.bool true) rfl rfl (by kernel_rfl) (by kernel_rfl) (by kernel_rfl) (fun _ _ _ h => h) rfl (by assumption) (by intro w9 hS9; obtain ⟨s0, s1, s2, s3, s4, s5, s6, s7, s8⟩ := hS9; simp only at s0 s1 s2 s3 s4 s5 s6 s7 s8; go_simp) ?_
            simp only [List.setIfInBounds_toArray, List.set_cons_zero, List.set_cons_succ]
            refine take_yes 6 35 (.pointer (some ⟨w.heap.size, 2, none⟩)) rfl rfl (by kernel_rfl) (by kernel_rfl) (by kernel_rfl) (fun _ _ _ h => h) rfl (by assumption) (by intro w9 hS9; obtain ⟨s0, s1, s2, s3, s4, s5, s6, s7, s8⟩ := hS9; simp only at s0 s1 s2 s3 s4 s5 s6 s7 s8; go_simp) ?_
            simp only [List.setIfInBounds_toArray, List.set_cons_zero, List.set_cons_succ]
            refine take_yes 7 36 (.int .i64 D) rfl rfl (by kernel_rfl) (by kernel_rfl) (by kernel_rfl) (fun _ _ _ h => h) rfl (by assumption) (by intro w9 hS9; obtain ⟨s0, s1, s2, s3, s4, s5, s6, s7, s8⟩ := hS9; simp only at s0 s1 s2 s3 s4 s5 s6 s7 s8; go_simp) ?_
            simp only [List.setIfInBounds_toArray, List.set_cons_zero, List.set_cons_succ]
            refine take_yes 8 37 (.pointer (some ⟨w.heap.size, 1, none⟩)) rfl rfl (by kernel_rfl) (by kernel_rfl) (by kernel_rfl) (fun _ _ _ h => h) rfl (by assumption) (by intro w9 hS9; obtain ⟨s0, s1, s2, s3, s4, s5, s6, s7, s8⟩ := hS9; simp only at s0 s1 s2 s3 s4 s5 s6 s7 s8; go_simp) ?_
            simp only [List.setIfInBounds_toArray, List.set_cons_zero, List.set_cons_succ]
            refine take_yes 9 38 (.int .i64 T) rfl rfl (by kernel_rfl) (by kernel_rfl) (by kernel_rfl) (fun _ _ _ h => h) rfl (by assumption) (by intro w9 hS9; obtain ⟨s0, s1, s2, s3, s4, s5, s6, s7, s8⟩ := hS9; simp only at s0 s1 s2 s3 s4 s5 s6 s7 s8; go_simp) ?_
            simp only [List.setIfInBounds_toArray, List.set_cons_zero, List.set_cons_succ]
            refine take_yes 10 39 (.bool true) rfl rfl (by kernel_rfl) (by kernel_rfl) (by kernel_rfl) (fun _ _ _ h => h) rfl (by assumption) (by intro w9 hS9; obtain ⟨s0, s1, s2, s3, s4, s5, s6, s7, s8⟩ := hS9; simp only at s0 s1 s2 s3 s4 s5 s6 s7 s8; go_simp) ?_
            simp only [List.setIfInBounds_toArray, List.set_cons_zero, List.set_cons_succ]
            refine take_yes 11 40 (.bool true) rfl rfl (by kernel_rfl) (by kernel_rfl) (by kernel_rfl) (fun _ _ _ h => h) rfl (by assumption) (by intro w9 hS9; obtain ⟨s0, s1, s2, s3, s4, s5, s6, s7, s8⟩ := hS9; simp only at s0 s1 s2 s3 s4 s5 s6 s7 s8; go_simp) ?_
            simp only [List.setIfInBounds_toArray, List.set_cons_zero, List.set_cons_succ]
            refine take_yes 12 41 (.bool true) rfl rfl (by kernel_rfl) (by kernel_rfl) (by kernel_rfl) (fun _ _ _ h => h) rfl (by assumption) (by intro w9 hS9; obtain ⟨s0, s1, s2, s3, s4, s5, s6, s7, s8⟩ := hS9; simp only at s0 s1 s2 s3 s4 s5 s6 s7 s8; go_simp) ?_
            simp only [List.setIfInBounds_toArray, List.set_cons_zero, List.set_cons_succ]
            refine take_yes 13 42 (.pointer (some ⟨w.heap.size, 1, none⟩)) rfl rfl (by kernel_rfl) (by kernel_rfl) (by kernel_rfl) (fun _ _ _ h => h) rfl (by assumption) (by intro w9 hS9; obtain ⟨s0, s1, s2, s3, s4, s5, s6, s7, s8⟩ := hS9; simp only at s0 s1 s2 s3 s4 s5 s6 s7 s8; go_simp) ?_
            simp only [List.setIfInBounds_toArray, List.set_cons_zero, List.set_cons_succ]
            refine take_yes 14 43 (.int .i64 T) rfl rfl (by kernel_rfl) (by kernel_rfl) (by kernel_rfl) (fun _ _ _ h => h) rfl (by assumption) (by intro w9 hS9; obtain ⟨s0, s1, s2, s3, s4, s5, s6, s7, s8⟩ := hS9; simp only at s0 s1 s2 s3 s4 s5 s6 s7 s8; go_simp) ?_
            simp only [List.setIfInBounds_toArray, List.set_cons_zero, List.set_cons_succ]
            refine take_yes 15 44 (.bool false) rfl rfl (by kernel_rfl) (by kernel_rfl) (by kernel_rfl) (fun _ _ _ h => h) rfl (by assumption) (by intro w9 hS9; obtain ⟨s0, s1, s2, s3, s4, s5, s6, s7, s8⟩ := hS9; simp only at s0 s1 s2 s3 s4 s5 s6 s7 s8; go_simp) ?_
            simp only [List.setIfInBounds_toArray, List.set_cons_zero, List.set_cons_succ]
            refine take_yes 16 45 (.bool false) rfl rfl (by kernel_rfl) (by kernel_rfl) (by kernel_rfl) (fun _ _ _ h => h) rfl (by assumption) (by intro w9 hS9; obtain ⟨s0, s1, s2, s3, s4, s5, s6, s7, s8⟩ := hS9; simp only at s0 s1 s2 s3 s4 s5 s6 s7 s8; go_simp) ?_
            simp only [List.setIfInBounds_toArray, List.set_cons_zero, List.set_cons_succ]
            refine take_yes 17 2 (.bool false) rfl rfl (by kernel_rfl) (by kernel_rfl) (by kernel_rfl) (fun _ _ _ h => h) rfl (by assumption) (by intro w9 hS9; obtain ⟨s0, s1, s2, s3, s4, s5, s6, s7, s8⟩ := hS9; simp only at s0 s1 s2 s3 s4 s5 s6 s7 s8; go_simp) ?_
            simp only [List.setIfInBounds_toArray, List.set_cons_zero, List.set_cons_succ]
            refine wpAnyH_done (by kernel_rfl) ?_ _
            go_wp2
            go_ret
            exact ⟨ret_bool (unhide HF).symm, unhide B2⟩
        · have HF : Hid (ans = false) := by show ans = false; rw [← unhide HQ2, decide_eq_true hd, decide_eq_false ht]; rfl
          have x1 : decide (W ≤ D) = true := by simp; omega
          have x2 : decide (D ≤ T) = false := by simp; omega
          clear hd ht
          refine wp_region_held_drew (S := fun w9 => Box w9 w.heap.size ⟨name, T, D, mode, Q, theta, some ⟨b, off, none⟩, cap, ecb, ucb, l⟩) (by kernel_rfl) hbox (fun hHeld => ?_)
          refine take_yes 0 29 (.agg #[.string name, .int .i64 T, .int .i64 D, .int .i64 mode, .int .i64 Q, .int .i64 theta, .slice (some ⟨b, off, none⟩) l.length cap, .int .u64 ecb, .int .u64 ucb]) rfl rfl (by kernel_rfl) (by kernel_rfl) (by kernel_rfl) (fun _ _ _ h => h) rfl (by assumption) (by intro w9 hS9; obtain ⟨s0, s1, s2, s3, s4, s5, s6, s7, s8⟩ := hS9; simp only at s0 s1 s2 s3 s4 s5 s6 s7 s8; go_simp) ?_
          simp only [List.setIfInBounds_toArray, List.set_cons_zero, List.set_cons_succ]
          refine take_yes 2 31 (.pointer (some ⟨w.heap.size, 2, none⟩)) rfl rfl (by kernel_rfl) (by kernel_rfl) (by kernel_rfl) (fun _ _ _ h => h) rfl (by assumption) (by intro w9 hS9; obtain ⟨s0, s1, s2, s3, s4, s5, s6, s7, s8⟩ := hS9; simp only at s0 s1 s2 s3 s4 s5 s6 s7 s8; go_simp) ?_
          simp only [List.setIfInBounds_toArray, List.set_cons_zero, List.set_cons_succ]
          refine take_yes 3 32 (.int .i64 D) rfl rfl (by kernel_rfl) (by kernel_rfl) (by kernel_rfl) (fun _ _ _ h => h) rfl (by assumption) (by intro w9 hS9; obtain ⟨s0, s1, s2, s3, s4, s5, s6, s7, s8⟩ := hS9; simp only at s0 s1 s2 s3 s4 s5 s6 s7 s8; go_simp) ?_
          simp only [List.setIfInBounds_toArray, List.set_cons_zero, List.set_cons_succ]
          refine wpAnyH_ready (rs := [1]) (by kernel_rfl) (by decide) (AllReadyH.cons rfl (fun K hK => ?_) AllReadyH.nil)
          refine (if_pos rfl).mpr ?_
          go_wp2_with fail
          refine (unhide CW _ (task_bel (unhide HIN) (unhide HB1))).mono ?_
          rintro e w2 ⟨rfl, bel⟩
          have B2 := hide (below_on (unhide HB1) bel)
          refine hK.out _ _ (hHeld.bel bel) (fun hHeld => ?_)
          clear hK K bel
          refine take_yes 4 33 (.bool true) rfl rfl (by kernel_rfl) (by kernel_rfl) (by kernel_rfl) (fun _ _ _ h => h) rfl (by assumption) (by intro w9 hS9; obtain ⟨s0, s1, s2, s3, s4, s5, s6, s7, s8⟩ := hS9; simp only at s0 s1 s2 s3 s4 s5 s6 s7 s8; go_simp) ?_
          simp only [List.setIfInBounds_toArray, List.set_cons_zero, List.set_cons_succ]
          refine take_yes 5 34 (.bool true) rfl rfl (by kernel_rfl) (by kernel_rfl) (by kernel_rfl) (fun _ _ _ h => h) rfl (by assumption) (by intro w9 hS9; obtain ⟨s0, s1, s2, s3, s4, s5, s6, s7, s8⟩ := hS9; simp only at s0 s1 s2 s3 s4 s5 s6 s7 s8; go_simp) ?_
          simp only [List.setIfInBounds_toArray, List.set_cons_zero, List.set_cons_succ]
          refine take_yes 6 35 (.pointer (some ⟨w.heap.size, 2, none⟩)) rfl rfl (by kernel_rfl) (by kernel_rfl) (by kernel_rfl) (fun _ _ _ h => h) rfl (by assumption) (by intro w9 hS9; obtain ⟨s0, s1, s2, s3, s4, s5, s6, s7, s8⟩ := hS9; simp only at s0 s1 s2 s3 s4 s5 s6 s7 s8; go_simp) ?_
          simp only [List.setIfInBounds_toArray, List.set_cons_zero, List.set_cons_succ]
          refine take_yes 7 36 (.int .i64 D) rfl rfl (by kernel_rfl) (by kernel_rfl) (by kernel_rfl) (fun _ _ _ h => h) rfl (by assumption) (by intro w9 hS9; obtain ⟨s0, s1, s2, s3, s4, s5, s6, s7, s8⟩ := hS9; simp only at s0 s1 s2 s3 s4 s5 s6 s7 s8; go_simp) ?_
          simp only [List.setIfInBounds_toArray, List.set_cons_zero, List.set_cons_succ]
          refine take_yes 8 37 (.pointer (some ⟨w.heap.size, 1, none⟩)) rfl rfl (by kernel_rfl) (by kernel_rfl) (by kernel_rfl) (fun _ _ _ h => h) rfl (by assumption) (by intro w9 hS9; obtain ⟨s0, s1, s2, s3, s4, s5, s6, s7, s8⟩ := hS9; simp only at s0 s1 s2 s3 s4 s5 s6 s7 s8; go_simp) ?_
          simp only [List.setIfInBounds_toArray, List.set_cons_zero, List.set_cons_succ]
          refine take_yes 9 38 (.int .i64 T) rfl rfl (by kernel_rfl) (by kernel_rfl) (by kernel_rfl) (fun _ _ _ h => h) rfl (by assumption) (by intro w9 hS9; obtain ⟨s0, s1, s2, s3, s4, s5, s6, s7, s8⟩ := hS9; simp only at s0 s1 s2 s3 s4 s5 s6 s7 s8; go_simp) ?_
          simp only [List.setIfInBounds_toArray, List.set_cons_zero, List.set_cons_succ]
          refine take_yes 10 39 (.bool false) rfl rfl (by kernel_rfl) (by kernel_rfl) (by kernel_rfl) (fun _ _ _ h => h) rfl (by assumption) (by intro w9 hS9; obtain ⟨s0, s1, s2, s3, s4, s5, s6, s7, s8⟩ := hS9; simp only at s0 s1 s2 s3 s4 s5 s6 s7 s8; go_simp) ?_
          simp only [List.setIfInBounds_toArray, List.set_cons_zero, List.set_cons_succ]
          refine take_yes 11 40 (.bool false) rfl rfl (by kernel_rfl) (by kernel_rfl) (by kernel_rfl) (fun _ _ _ h => h) rfl (by assumption) (by intro w9 hS9; obtain ⟨s0, s1, s2, s3, s4, s5, s6, s7, s8⟩ := hS9; simp only at s0 s1 s2 s3 s4 s5 s6 s7 s8; go_simp) ?_
          simp only [List.setIfInBounds_toArray, List.set_cons_zero, List.set_cons_succ]
          refine take_yes 12 41 (.bool false) rfl rfl (by kernel_rfl) (by kernel_rfl) (by kernel_rfl) (fun _ _ _ h => h) rfl (by assumption) (by intro w9 hS9; obtain ⟨s0, s1, s2, s3, s4, s5, s6, s7, s8⟩ := hS9; simp only at s0 s1 s2 s3 s4 s5 s6 s7 s8; go_simp) ?_
          simp only [List.setIfInBounds_toArray, List.set_cons_zero, List.set_cons_succ]
          refine take_no 13 42 rfl rfl (by kernel_rfl) (by kernel_rfl) (by kernel_rfl) (fun _ _ _ h => h) rfl (by assumption) ?_
          simp only [List.setIfInBounds_toArray, List.set_cons_zero, List.set_cons_succ]
          refine take_no 14 43 rfl rfl (by kernel_rfl) (by kernel_rfl) (by kernel_rfl) (fun _ _ _ h => h) rfl (by assumption) ?_
          simp only [List.setIfInBounds_toArray, List.set_cons_zero, List.set_cons_succ]
          refine take_no 15 44 rfl rfl (by kernel_rfl) (by kernel_rfl) (by kernel_rfl) (fun _ _ _ h => h) rfl (by assumption) ?_
          simp only [List.setIfInBounds_toArray, List.set_cons_zero, List.set_cons_succ]
          refine take_yes 16 45 (.bool false) rfl rfl (by kernel_rfl) (by kernel_rfl) (by kernel_rfl) (fun _ _ _ h => h) rfl (by assumption) (by intro w9 hS9; obtain ⟨s0, s1, s2, s3, s4, s5, s6, s7, s8⟩ := hS9; simp only at s0 s1 s2 s3 s4 s5 s6 s7 s8; go_simp) ?_
          simp only [List.setIfInBounds_toArray, List.set_cons_zero, List.set_cons_succ]
          refine take_yes 17 2 (.bool false) rfl rfl (by kernel_rfl) (by kernel_rfl) (by kernel_rfl) (fun _ _ _ h => h) rfl (by assumption) (by intro w9 hS9; obtain ⟨s0, s1, s2, s3, s4, s5, s6, s7, s8⟩ := hS9; simp only at s0 s1 s2 s3 s4 s5 s6 s7 s8; go_simp) ?_
          simp only [List.setIfInBounds_toArray, List.set_cons_zero, List.set_cons_succ]
          refine wpAnyH_done (by kernel_rfl) ?_ _
          go_wp2
          go_ret
          exact ⟨ret_bool (unhide HF).symm, unhide B2⟩
      · have HF : Hid (ans = false) := by show ans = false; rw [← unhide HQ2, decide_eq_false hd]; rfl
        have x1 : decide (W ≤ D) = false := by simp; omega
        clear hd
        refine wp_region_held_drew (S := fun w9 => Box w9 w.heap.size ⟨name, T, D, mode, Q, theta, some ⟨b, off, none⟩, cap, ecb, ucb, l⟩) (by kernel_rfl) hbox (fun hHeld => ?_)
        refine take_yes 0 29 (.agg #[.string name, .int .i64 T, .int .i64 D, .int .i64 mode, .int .i64 Q, .int .i64 theta, .slice (some ⟨b, off, none⟩) l.length cap, .int .u64 ecb, .int .u64 ucb]) rfl rfl (by kernel_rfl) (by kernel_rfl) (by kernel_rfl) (fun _ _ _ h => h) rfl (by assumption) (by intro w9 hS9; obtain ⟨s0, s1, s2, s3, s4, s5, s6, s7, s8⟩ := hS9; simp only at s0 s1 s2 s3 s4 s5 s6 s7 s8; go_simp) ?_
        simp only [List.setIfInBounds_toArray, List.set_cons_zero, List.set_cons_succ]
        refine take_yes 2 31 (.pointer (some ⟨w.heap.size, 2, none⟩)) rfl rfl (by kernel_rfl) (by kernel_rfl) (by kernel_rfl) (fun _ _ _ h => h) rfl (by assumption) (by intro w9 hS9; obtain ⟨s0, s1, s2, s3, s4, s5, s6, s7, s8⟩ := hS9; simp only at s0 s1 s2 s3 s4 s5 s6 s7 s8; go_simp) ?_
        simp only [List.setIfInBounds_toArray, List.set_cons_zero, List.set_cons_succ]
        refine take_yes 3 32 (.int .i64 D) rfl rfl (by kernel_rfl) (by kernel_rfl) (by kernel_rfl) (fun _ _ _ h => h) rfl (by assumption) (by intro w9 hS9; obtain ⟨s0, s1, s2, s3, s4, s5, s6, s7, s8⟩ := hS9; simp only at s0 s1 s2 s3 s4 s5 s6 s7 s8; go_simp) ?_
        simp only [List.setIfInBounds_toArray, List.set_cons_zero, List.set_cons_succ]
        refine wpAnyH_ready (rs := [1]) (by kernel_rfl) (by decide) (AllReadyH.cons rfl (fun K hK => ?_) AllReadyH.nil)
        refine (if_pos rfl).mpr ?_
        go_wp2_with fail
        refine (unhide CW _ (task_bel (unhide HIN) (unhide HB1))).mono ?_
        rintro e w2 ⟨rfl, bel⟩
        have B2 := hide (below_on (unhide HB1) bel)
        refine hK.out _ _ (hHeld.bel bel) (fun hHeld => ?_)
        clear hK K bel
        refine take_yes 4 33 (.bool false) rfl rfl (by kernel_rfl) (by kernel_rfl) (by kernel_rfl) (fun _ _ _ h => h) rfl (by assumption) (by intro w9 hS9; obtain ⟨s0, s1, s2, s3, s4, s5, s6, s7, s8⟩ := hS9; simp only at s0 s1 s2 s3 s4 s5 s6 s7 s8; go_simp) ?_
        simp only [List.setIfInBounds_toArray, List.set_cons_zero, List.set_cons_succ]
        refine take_yes 5 34 (.bool false) rfl rfl (by kernel_rfl) (by kernel_rfl) (by kernel_rfl) (fun _ _ _ h => h) rfl (by assumption) (by intro w9 hS9; obtain ⟨s0, s1, s2, s3, s4, s5, s6, s7, s8⟩ := hS9; simp only at s0 s1 s2 s3 s4 s5 s6 s7 s8; go_simp) ?_
        simp only [List.setIfInBounds_toArray, List.set_cons_zero, List.set_cons_succ]
        refine take_no 6 35 rfl rfl (by kernel_rfl) (by kernel_rfl) (by kernel_rfl) (fun _ _ _ h => h) rfl (by assumption) ?_
        simp only [List.setIfInBounds_toArray, List.set_cons_zero, List.set_cons_succ]
        refine take_no 7 36 rfl rfl (by kernel_rfl) (by kernel_rfl) (by kernel_rfl) (fun _ _ _ h => h) rfl (by assumption) ?_
        simp only [List.setIfInBounds_toArray, List.set_cons_zero, List.set_cons_succ]
        refine take_no 8 37 rfl rfl (by kernel_rfl) (by kernel_rfl) (by kernel_rfl) (fun _ _ _ h => h) rfl (by assumption) ?_
        simp only [List.setIfInBounds_toArray, List.set_cons_zero, List.set_cons_succ]
        refine take_no 9 38 rfl rfl (by kernel_rfl) (by kernel_rfl) (by kernel_rfl) (fun _ _ _ h => h) rfl (by assumption) ?_
        simp only [List.setIfInBounds_toArray, List.set_cons_zero, List.set_cons_succ]
        refine take_no 10 39 rfl rfl (by kernel_rfl) (by kernel_rfl) (by kernel_rfl) (fun _ _ _ h => h) rfl (by assumption) ?_
        simp only [List.setIfInBounds_toArray, List.set_cons_zero, List.set_cons_succ]
        refine take_yes 11 40 (.bool false) rfl rfl (by kernel_rfl) (by kernel_rfl) (by kernel_rfl) (fun _ _ _ h => h) rfl (by assumption) (by intro w9 hS9; obtain ⟨s0, s1, s2, s3, s4, s5, s6, s7, s8⟩ := hS9; simp only at s0 s1 s2 s3 s4 s5 s6 s7 s8; go_simp) ?_
        simp only [List.setIfInBounds_toArray, List.set_cons_zero, List.set_cons_succ]
        refine take_yes 12 41 (.bool false) rfl rfl (by kernel_rfl) (by kernel_rfl) (by kernel_rfl) (fun _ _ _ h => h) rfl (by assumption) (by intro w9 hS9; obtain ⟨s0, s1, s2, s3, s4, s5, s6, s7, s8⟩ := hS9; simp only at s0 s1 s2 s3 s4 s5 s6 s7 s8; go_simp) ?_
        simp only [List.setIfInBounds_toArray, List.set_cons_zero, List.set_cons_succ]
        refine take_no 13 42 rfl rfl (by kernel_rfl) (by kernel_rfl) (by kernel_rfl) (fun _ _ _ h => h) rfl (by assumption) ?_
        simp only [List.setIfInBounds_toArray, List.set_cons_zero, List.set_cons_succ]
        refine take_no 14 43 rfl rfl (by kernel_rfl) (by kernel_rfl) (by kernel_rfl) (fun _ _ _ h => h) rfl (by assumption) ?_
        simp only [List.setIfInBounds_toArray, List.set_cons_zero, List.set_cons_succ]
        refine take_no 15 44 rfl rfl (by kernel_rfl) (by kernel_rfl) (by kernel_rfl) (fun _ _ _ h => h) rfl (by assumption) ?_
        simp only [List.setIfInBounds_toArray, List.set_cons_zero, List.set_cons_succ]
        refine take_yes 16 45 (.bool false) rfl rfl (by kernel_rfl) (by kernel_rfl) (by kernel_rfl) (fun _ _ _ h => h) rfl (by assumption) (by intro w9 hS9; obtain ⟨s0, s1, s2, s3, s4, s5, s6, s7, s8⟩ := hS9; simp only at s0 s1 s2 s3 s4 s5 s6 s7 s8; go_simp) ?_
        simp only [List.setIfInBounds_toArray, List.set_cons_zero, List.set_cons_succ]
        refine take_yes 17 2 (.bool false) rfl rfl (by kernel_rfl) (by kernel_rfl) (by kernel_rfl) (fun _ _ _ h => h) rfl (by assumption) (by intro w9 hS9; obtain ⟨s0, s1, s2, s3, s4, s5, s6, s7, s8⟩ := hS9; simp only at s0 s1 s2 s3 s4 s5 s6 s7 s8; go_simp) ?_
        simp only [List.setIfInBounds_toArray, List.set_cons_zero, List.set_cons_succ]
        refine wpAnyH_done (by kernel_rfl) ?_ _
        go_wp2
        go_ret
        exact ⟨ret_bool (unhide HF).symm, unhide B2⟩

/- its mode -/
set_option maxHeartbeats 1600000 in
theorem mode_any (t : TaskV) (p : Int) (w : World) : Calls Try.prog 35 #[t.val, .int .i64 p] w fun e w' => e = .returned (.bool (modeB t.mode t.Q t.theta p)) ∧ Below w.heap.size w w' := by
  obtain ⟨name, T, D, mode, Q, theta, ao, cap, ecb, ucb, l⟩ := t
  simp only
  cases h0 : (mode == 0)
  · cases h1 : (mode == 1)
    · cases h2 : (mode == 2)
      · go_enter Try.func35, Try.ntmps35
        rw [TaskV.val, TaskV.cells]
        simp only
        go_wp2
        go_ret
        exact ⟨ret_bool (mode_3 Q theta p h0 h1 h2), (Below.refl _ _).alloc (Nat.le_refl _) _⟩
      · by_cases hq : Q = 0
        · have hq' : (Q == 0) = true := by simpa using hq
          by_cases ht : 0 ≤ theta
          · have ht' : decide ((0 : Int) ≤ theta) = true := decide_eq_true ht
            have HF := hide (mode_2a p h0 h1 h2 hq ht)
            clear hq ht
            go_enter Try.func35, Try.ntmps35
            rw [TaskV.val, TaskV.cells]
            simp only
            go_wp2
            go_ret
            exact ⟨ret_bool (unhide HF), (Below.refl _ _).alloc (Nat.le_refl _) _⟩
          · have ht' : decide ((0 : Int) ≤ theta) = false := decide_eq_false ht
            have HF := hide (mode_2b (theta := theta) p h0 h1 h2 hq (by omega))
            clear hq ht
            go_enter Try.func35, Try.ntmps35
            rw [TaskV.val, TaskV.cells]
            simp only
            go_wp2
            go_ret
            exact ⟨ret_bool (unhide HF), (Below.refl _ _).alloc (Nat.le_refl _) _⟩
        · have hq' : (Q == 0) = false := by simpa using hq
          have HF := hide (mode_2c theta p h0 h1 h2 hq)
          clear hq
          go_enter Try.func35, Try.ntmps35
          rw [TaskV.val, TaskV.cells]
          simp only
          go_wp2
          go_ret
          exact ⟨ret_bool (unhide HF), (Below.refl _ _).alloc (Nat.le_refl _) _⟩
    · by_cases hq : inB Q 0 10000 = true
      · have hq' : 0 ≤ Q ∧ Q ≤ 10000 := by simpa [inB] using hq
        have HF := hide (mode_1a theta p h0 h1 hq)
        obtain ⟨q0, q1⟩ := hq'
        clear hq
        go_enter Try.func35, Try.ntmps35
        rw [TaskV.val, TaskV.cells]
        simp only
        go_wp2
        go_ret
        exact ⟨ret_bool (unhide HF), (Below.refl _ _).alloc (Nat.le_refl _) _⟩
      · have HF := hide (mode_1b theta p h0 h1 hq)
        by_cases q0 : 0 ≤ Q
        · have q1 : ¬ Q ≤ 10000 := fun q1 => hq (by simp [inB, q0, q1])
          clear hq
          go_enter Try.func35, Try.ntmps35
          rw [TaskV.val, TaskV.cells]
          simp only
          go_wp2
          go_ret
          exact ⟨ret_bool (unhide HF), (Below.refl _ _).alloc (Nat.le_refl _) _⟩
        · clear hq
          go_enter Try.func35, Try.ntmps35
          rw [TaskV.val, TaskV.cells]
          simp only
          go_wp2
          go_ret
          exact ⟨ret_bool (unhide HF), (Below.refl _ _).alloc (Nat.le_refl _) _⟩
  · by_cases hq : Q = 0
    · have hq' : (Q == 0) = true := by simpa using hq
      have HF := hide (mode_0a theta p h0 hq)
      clear hq
      go_enter Try.func35, Try.ntmps35
      rw [TaskV.val, TaskV.cells]
      simp only
      go_wp2
      go_ret
      exact ⟨ret_bool (unhide HF), (Below.refl _ _).alloc (Nat.le_refl _) _⟩
    · have hq' : (Q == 0) = false := by simpa using hq
      have HF := hide (mode_0b theta p h0 hq)
      clear hq
      go_enter Try.func35, Try.ntmps35
      rw [TaskV.val, TaskV.cells]
      simp only
      go_wp2
      go_ret
      exact ⟨ret_bool (unhide HF), (Below.refl _ _).alloc (Nat.le_refl _) _⟩

/- a task -/
theorem is_parts (t : TaskV) (p : Int) : isB t p = (nameB (bl t.name) && (timedB t && (modeB t.mode t.Q t.theta p && maskB t.ucb t.ecb))) := by
  show (nameB (bl t.name) && _) = _
  rw [timedB]
  cases nameB (bl t.name) <;> cases decide (1 ≤ t.regs.length) <;> cases decide (t.regs.length ≤ 8) <;> cases maskB t.ucb t.ecb <;> cases t.regs.all (inB · 1 10000) <;> cases decide (workZ t.regs ≤ t.D) <;> cases decide (t.D ≤ t.T) <;> cases decide (t.T ≤ 10000) <;> cases modeB t.mode t.Q t.theta p <;> rfl
set_option maxHeartbeats 1600000 in
theorem code_Is : CIs := fun t p w ht _ => by
  have CN := hide (fun w => isname_any t.name w)
  have CT := hide (fun w h => timed_any t w h)
  have CM := hide (fun w => mode_any t p w)
  rw [is_parts]
  have HIN := hide ht
  clear ht
  cases hn : nameB (bl t.name)
  · rw [hn] at CN
    rw [Bool.false_and]
    clear hn
    go_enter Try.func25, Try.ntmps25
    rw [TaskV.val, TaskV.cells]
    go_wp2_with fail
    refine (unhide CN _).mono ?_
    rintro e w1 ⟨rfl, bel⟩
    have B := hide (bel_box (Below.refl _ _) bel)
    clear bel
    go_wp2
    go_ret
    exact ⟨rfl, unhide B⟩
  rw [hn] at CN
  rw [Bool.true_and]
  clear hn
  cases hn : timedB t
  · rw [hn] at CT
    rw [Bool.false_and]
    clear hn
    go_enter Try.func25, Try.ntmps25
    rw [TaskV.val, TaskV.cells]
    go_wp2_with fail
    refine (unhide CN _).mono ?_
    rintro e w1 ⟨rfl, bel⟩
    have B1 := hide (bel_box (Below.refl _ _) bel)
    have X1 := hide ((box_new w t 38).bel bel)
    clear bel
    obtain ⟨c0, c1, c2, c3, c4, c5, c6, c7, c8⟩ := unhide X1
    go_wp2_with fail
    refine (unhide CT _ (task_bel (unhide HIN) (unhide B1))).mono ?_
    rintro e w2 ⟨rfl, bel⟩
    have B2 := hide (below_on (unhide B1) bel)
    have X2 := hide ((unhide X1).bel bel)
    clear bel c0 c1 c2 c3 c4 c5 c6 c7 c8
    obtain ⟨c0, c1, c2, c3, c4, c5, c6, c7, c8⟩ := unhide X2
    go_wp2
    go_ret
    exact ⟨rfl, unhide B2⟩
  rw [hn] at CT
  rw [Bool.true_and]
  clear hn
  cases hn : modeB t.mode t.Q t.theta p
  · rw [hn] at CM
    rw [Bool.false_and]
    clear hn
    go_enter Try.func25, Try.ntmps25
    rw [TaskV.val, TaskV.cells]
    go_wp2_with fail
    refine (unhide CN _).mono ?_
    rintro e w1 ⟨rfl, bel⟩
    have B1 := hide (bel_box (Below.refl _ _) bel)
    have X1 := hide ((box_new w t 38).bel bel)
    clear bel
    obtain ⟨c0, c1, c2, c3, c4, c5, c6, c7, c8⟩ := unhide X1
    go_wp2_with fail
    refine (unhide CT _ (task_bel (unhide HIN) (unhide B1))).mono ?_
    rintro e w2 ⟨rfl, bel⟩
    have B2 := hide (below_on (unhide B1) bel)
    have X2 := hide ((unhide X1).bel bel)
    clear bel c0 c1 c2 c3 c4 c5 c6 c7 c8
    obtain ⟨c0, c1, c2, c3, c4, c5, c6, c7, c8⟩ := unhide X2
    go_wp2_with fail
    refine (unhide CM _).mono ?_
    rintro e w3 ⟨rfl, bel⟩
    have B3 := hide (below_on (unhide B2) bel)
    have X3 := hide ((unhide X2).bel bel)
    clear bel c0 c1 c2 c3 c4 c5 c6 c7 c8
    obtain ⟨c0, c1, c2, c3, c4, c5, c6, c7, c8⟩ := unhide X3
    go_wp2
    go_ret
    exact ⟨rfl, unhide B3⟩
  · rw [hn] at CM
    rw [Bool.true_and]
    clear hn
    generalize hans : maskB t.ucb t.ecb = ans
    have HQ : Hid ((bits .andNot .u64 t.ucb t.ecb == 0) = ans) := hans
    clear hans
    go_enter Try.func25, Try.ntmps25
    rw [TaskV.val, TaskV.cells]
    go_wp2_with fail
    refine (unhide CN _).mono ?_
    rintro e w1 ⟨rfl, bel⟩
    have B1 := hide (bel_box (Below.refl _ _) bel)
    have X1 := hide ((box_new w t 38).bel bel)
    clear bel
    obtain ⟨c0, c1, c2, c3, c4, c5, c6, c7, c8⟩ := unhide X1
    go_wp2_with fail
    refine (unhide CT _ (task_bel (unhide HIN) (unhide B1))).mono ?_
    rintro e w2 ⟨rfl, bel⟩
    have B2 := hide (below_on (unhide B1) bel)
    have X2 := hide ((unhide X1).bel bel)
    clear bel c0 c1 c2 c3 c4 c5 c6 c7 c8
    obtain ⟨c0, c1, c2, c3, c4, c5, c6, c7, c8⟩ := unhide X2
    go_wp2_with fail
    refine (unhide CM _).mono ?_
    rintro e w3 ⟨rfl, bel⟩
    have B3 := hide (below_on (unhide B2) bel)
    have X3 := hide ((unhide X2).bel bel)
    clear bel c0 c1 c2 c3 c4 c5 c6 c7 c8
    obtain ⟨c0, c1, c2, c3, c4, c5, c6, c7, c8⟩ := unhide X3
    go_wp2
    go_ret
    exact ⟨ret_bool (unhide HQ), unhide B3⟩
end Go.Proofs.Ytndhjfpjhpnbaaa.Lex
