/- What the references of chapter 5 answer: a set; two sets. -/
import Derived.Test.YtndhjfpjhpnbaaaTaskRef
namespace Go.Proofs.Ytndhjfpjhpnbaaa.Lex
set_option maxRecDepth 100000
open Go.ChangeShapes Go.WideShapes Go.RowKit

theorem range_next {p : Nat → Bool} {k : Nat} (h : (List.range k).all p = true) (hp : p k = true) : (List.range (k + 1)).all p = true := by
  rw [List.range_succ, List.all_append, h]; simp [hp]
theorem range_not {p : Nat → Bool} {k n : Nat} (hk : k < n) (hp : p k = false) : (List.range n).all p = false := by
  rw [List.all_eq_false]; exact ⟨k, List.mem_range.2 hk, by rw [hp]; simp⟩
theorem below_drewN {B : Nat} {a w : World} (h : Below B a w) (n : Nat) : Below B a (w.drewN n) := h.trans ⟨rfl, rfl, rfl, Nat.le_refl _, fun _ _ => rfl⟩
theorem boxed2 {w w1 : World} {a0 a1 : Value} {ty : TypeId} (h : Below (w.alloc (.cells #[a0, a1] ty)).heap.size (w.alloc (.cells #[a0, a1] ty)) w1) : w1.cell? ⟨w.heap.size, 0, none⟩ = some a0 ∧ w1.cell? ⟨w.heap.size, 1, none⟩ = some a1 :=
  ⟨boxed h 0 _ rfl, boxed h 1 _ rfl⟩
theorem task_bel {w w' : World} {t : TaskV} (h : TaskIn w t) (hb : Below w.heap.size w w') : TaskIn w' t := { h with regs := regs_bel h.regs hb }
/- the cells of one task of a row -/
structure TaskAt (w : World) (b o : Nat) (t : TaskV) : Prop where
  c0 : w.cell? ⟨b, o, none⟩ = some (.string t.name)
  c1 : w.cell? ⟨b, o + 1, none⟩ = some (.int .i64 t.T)
  c2 : w.cell? ⟨b, o + 2, none⟩ = some (.int .i64 t.D)
  c3 : w.cell? ⟨b, o + 3, none⟩ = some (.int .i64 t.mode)
  c4 : w.cell? ⟨b, o + 4, none⟩ = some (.int .i64 t.Q)
  c5 : w.cell? ⟨b, o + 5, none⟩ = some (.int .i64 t.theta)
  c6 : w.cell? ⟨b, o + 6, none⟩ = some (.slice t.ao t.regs.length t.cap)
  c7 : w.cell? ⟨b, o + 7, none⟩ = some (.int .u64 t.ecb)
  c8 : w.cell? ⟨b, o + 8, none⟩ = some (.int .u64 t.ucb)
theorem TaskAt.bel {w w' : World} {b o : Nat} {t : TaskV} (h : TaskAt w b o t) (hb : Below w.heap.size w w') : TaskAt w' b o t :=
  ⟨cell_bel' h.c0 hb, cell_bel' h.c1 hb, cell_bel' h.c2 hb, cell_bel' h.c3 hb, cell_bel' h.c4 hb, cell_bel' h.c5 hb, cell_bel' h.c6 hb, cell_bel' h.c7 hb, cell_bel' h.c8 hb⟩
theorem set_task {w : World} {s : SetV} (h : SetIn w s) (hne : s.ts ≠ []) : ∃ b off, s.ao = some ⟨b, off, none⟩ ∧ ∀ j, j < s.ts.length → TaskAt w b (off + j * 9) (s.ts.getD j task0) ∧ TaskIn w (s.ts.getD j task0) := by
  obtain ⟨b, off, e, hc⟩ := h.row hne
  refine ⟨b, off, e, fun j hj => ⟨⟨hc j hj 0 (by omega), hc j hj 1 (by omega), hc j hj 2 (by omega), hc j hj 3 (by omega), hc j hj 4 (by omega), hc j hj 5 (by omega), hc j hj 6 (by omega), hc j hj 7 (by omega), hc j hj 8 (by omega)⟩, ?_⟩⟩
  have : s.ts.getD j task0 ∈ s.ts := by rw [List.getD_eq_getElem?_getD, List.getElem?_eq_getElem hj]; exact List.getElem_mem _
  exact h.each _ this

set_option maxHeartbeats 1600000 in
theorem rall_any (s : SetV) (w : World) (hs : SetIn w s) : Calls Try.prog 16 #[s.val] w fun e w' => e = .returned (.bool (allB s)) ∧ Below w.heap.size w w' := by
  obtain ⟨rl, ao, cap, ts⟩ := s
  have hall : allB ⟨rl, ao, cap, ts⟩ = (inB rl 0 10000 && (decide (1 ≤ ts.length) && (decide (ts.length ≤ 8) && (List.range ts.length).all (okAt ts)))) := rfl
  rw [hall]
  clear hall
  have hlen := hs.len
  simp only at hlen
  by_cases hq : inB rl 0 10000 = false ∨ ts.length < 1 ∨ 8 < ts.length
  · have hf : (inB rl 0 10000 && (decide (1 ≤ ts.length) && (decide (ts.length ≤ 8) && (List.range ts.length).all (okAt ts)))) = false := by
      rcases hq with h | h | h
      · rw [h]; rfl
      · rw [decide_eq_false (show ¬ 1 ≤ ts.length by omega)]; simp
      · rw [decide_eq_false (show ¬ ts.length ≤ 8 by omega)]; simp
    rw [hf]
    clear hf hs
    cases hi : inB rl 0 10000
    · clear hq
      go_enter Try.func16, Try.ntmps16
      rw [SetV.val]
      simp only
      go_wp2_with (go_at_call 23; refine (rin_any _ _ _ _).mono ?_; rintro e w' ⟨rfl, hw⟩; rw [hw]; clear hw w')
      go_ret
      exact ⟨rfl, (Below.refl _ _).alloc (Nat.le_refl _) _⟩
    · by_cases h1 : ts.length < 1
      · clear hq
        go_enter Try.func16, Try.ntmps16
        rw [SetV.val]
        simp only
        go_wp2_with (go_at_call 23; refine (rin_any _ _ _ _).mono ?_; rintro e w' ⟨rfl, hw⟩; rw [hw]; clear hw w')
        go_ret
        exact ⟨rfl, (Below.refl _ _).alloc (Nat.le_refl _) _⟩
      · have h8 : 8 < ts.length := by rcases hq with h | h | h <;> simp_all
        clear hq
        go_enter Try.func16, Try.ntmps16
        rw [SetV.val]
        simp only
        go_wp2_with (go_at_call 23; refine (rin_any _ _ _ _).mono ?_; rintro e w' ⟨rfl, hw⟩; rw [hw]; clear hw w')
        go_ret
        exact ⟨rfl, (Below.refl _ _).alloc (Nat.le_refl _) _⟩
  · have hi : inB rl 0 10000 = true := by cases h : inB rl 0 10000 <;> simp_all
    have h1 : ¬ ts.length < 1 := by omega
    have h8 : ¬ 8 < ts.length := by omega
    obtain ⟨b, off, hao, ht⟩ := set_task hs (fun e => by simp only at e; rw [e] at h1; simp at h1)
    simp only at hao ht
    subst hao
    rw [hi, decide_eq_true (show 1 ≤ ts.length by omega), decide_eq_true (show ts.length ≤ 8 by omega), Bool.true_and, Bool.true_and, Bool.true_and]
    generalize hans : (List.range ts.length).all (okAt ts) = ans
    have HQ := hide hans
    have HT := hide ht
    clear hq hans ht hs
    go_enter Try.func16, Try.ntmps16
    rw [SetV.val]
    simp only
    go_wp2_with (go_at_call 23; refine (rin_any _ _ _ _).mono ?_; rintro e w' ⟨rfl, hw⟩; rw [hw]; clear hw w')
    go_loopw [3] (fun i wr => ∃ k : Nat, k ≤ ts.length ∧ i = .int .i64 k ∧ (List.range k).all (okAt ts) = true ∧ Below (w.alloc (.cells #[.int .i64 rl, .slice (some ⟨b, off, none⟩) ts.length cap] 24)).heap.size (w.alloc (.cells #[.int .i64 rl, .slice (some ⟨b, off, none⟩) ts.length cap] 24)) wr) (fun i _ => ts.length - (intOf i).toNat)
    case atStart => exact ⟨0, Nat.zero_le _, rfl, rfl, Below.refl _ _⟩
    case round =>
      obtain ⟨k, hk, rfl, hpre, hbel⟩ := hrel
      obtain ⟨c0, c1⟩ := boxed2 hbel
      have B := hide hbel
      have B' := hide (bel_box (Below.refl _ _) hbel)
      clear hbel
      by_cases hlt : k < ts.length
      · obtain ⟨t0, t1, t2, t3, t4, t5, t6, t7, t8⟩ := (unhide HT k hlt).1.bel (unhide B')
        have CI := hide (ris_any (ts.getD k task0) k wr (task_bel (unhide HT k hlt).2 (unhide B')))
        cases hok : isB (ts.getD k task0) k
        · have HF : Hid (ans = false) := by show ans = false; rw [← unhide HQ]; exact range_not hlt (by rw [okAt, hok]; rfl)
          rw [hok] at CI
          clear hok hpre
          generalize ts.getD k task0 = t at *
          obtain ⟨name, T, D, mode, Q, theta, ao, tcap, ecb, ucb, l⟩ := t
          simp only at t0 t1 t2 t3 t4 t5 t6 t7 t8
          go_wp2_with fail
          refine (unhide CI).mono ?_
          rintro e w1 ⟨rfl, bel⟩
          have B1 := hide ((unhide B').trans (bel.mono (unhide B').size))
          clear bel
          go_wp2
          go_ret
          exact ⟨ret_bool (unhide HF).symm, unhide B1⟩
        · rw [hok] at CI
          have HOK := hide hok
          have HPRE := hide hpre
          clear hok hpre
          generalize htk : ts.getD k task0 = t at t0 t1 t2 t3 t4 t5 t6 t7 t8 CI
          have HTK := hide htk
          obtain ⟨name, T, D, mode, Q, theta, ao, tcap, ecb, ucb, l⟩ := t
          simp only at t0 t1 t2 t3 t4 t5 t6 t7 t8
          clear htk
          go_wp2_with fail
          refine (unhide CI).mono ?_
          rintro e w1 ⟨rfl, bel⟩
          have B1 := hide ((unhide B).trans (bel.mono (unhide B).size))
          clear bel
          go_wp2
          go_loopw [4] (fun i wq => ∃ j : Nat, j ≤ k ∧ i = .int .i64 j ∧ (List.range j).all (fun q => !((ts.getD q task0).name.data.toList == (ts.getD k task0).name.data.toList)) = true ∧ Below (w.alloc (.cells #[.int .i64 rl, .slice (some ⟨b, off, none⟩) ts.length cap] 24)).heap.size (w.alloc (.cells #[.int .i64 rl, .slice (some ⟨b, off, none⟩) ts.length cap] 24)) wq) (fun i _ => k - (intOf i).toNat)
          case atStart => exact ⟨0, Nat.zero_le _, rfl, rfl, unhide B1⟩
          case round =>
            obtain ⟨j, hj, rfl, hno, hbel2⟩ := hrel
            obtain ⟨d0, d1⟩ := boxed2 hbel2
            have B2 := hide hbel2
            have B2' := hide (bel_box (Below.refl _ _) hbel2)
            clear hbel2
            by_cases hjk : j < k
            · have hjk' : (j : Int) < k := by omega
              have x0 := ((unhide HT j (by omega)).1.bel (unhide B2')).c0
              have y0 := ((unhide HT k hlt).1.bel (unhide B2')).c0
              cases hsame : ((ts.getD j task0).name.data.toList == (ts.getD k task0).name.data.toList)
              · have HNO := hide (range_next hno (by rw [hsame]; rfl))
                have hsm := hsame
                rw [← ByteArray.toList_eq, ← ByteArray.toList_eq] at hsm
                clear hno hsame
                obtain ⟨nj, hnj⟩ : ∃ n, n = (ts.getD j task0).name := ⟨_, rfl⟩
                obtain ⟨nk, hnk⟩ : ∃ n, n = (ts.getD k task0).name := ⟨_, rfl⟩
                rw [← hnj] at x0 hsm
                rw [← hnk] at y0 hsm
                clear hnj hnk
                go_wp2
                go_quiet (fail)
                go_wp2
                go_roundw
                case rel => exact ⟨j + 1, by omega, by go_num, unhide HNO, below_drewN (unhide B2) _⟩
                case measure => simp [intOf]; omega
              · have HF : Hid (ans = false) := by show ans = false; rw [← unhide HQ]; exact range_not hlt (by rw [okAt, range_not (k := j) hjk (by rw [hsame]; rfl), Bool.and_false])
                have hsm := hsame
                rw [← ByteArray.toList_eq, ← ByteArray.toList_eq] at hsm
                clear hno hsame
                obtain ⟨nj, hnj⟩ : ∃ n, n = (ts.getD j task0).name := ⟨_, rfl⟩
                obtain ⟨nk, hnk⟩ : ∃ n, n = (ts.getD k task0).name := ⟨_, rfl⟩
                rw [← hnj] at x0 hsm
                rw [← hnk] at y0 hsm
                clear hnj hnk
                go_wp2
                go_quiet (fail)
                go_wp2
                go_ret
                exact ⟨ret_bool (unhide HF).symm, below_drewN (unhide B2') _⟩
            · have e : j = k := by omega
              subst e
              have HOK2 := hide (range_next (unhide HPRE) (show okAt ts j = true by rw [okAt, unhide HOK, hno]; rfl))
              clear hno
              go_wp2
              go_roundw
              case rel => exact ⟨j + 1, by omega, by go_num, unhide HOK2, unhide B2⟩
              case measure => simp [intOf]; omega
      · have e : k = ts.length := by omega
        subst e
        have HF : Hid (ans = true) := by show ans = true; rw [← unhide HQ]; exact hpre
        clear hpre
        go_wp2
        go_ret
        exact ⟨ret_bool (unhide HF).symm, unhide B'⟩
end Go.Proofs.Ytndhjfpjhpnbaaa.Lex
