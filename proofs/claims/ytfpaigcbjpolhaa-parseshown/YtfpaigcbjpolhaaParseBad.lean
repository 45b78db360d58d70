/- The first task that may not be: what firstBad of package parse answers. -/
import Derived.Test.YtfpaigcbjpolhaaParseSet
import Derived.Test.YtfpaigcbjpolhaaTaskCodeB
import Derived.Test.YtfpaigcbjpolhaaParsePure3
namespace Go.Proofs.Ytfpaigcbjpolhaa.Lex
open Go.ChangeShapes Go.WideShapes Go.RowKit

theorem fb1_any (t : TaskV) (g : Nat) (nm : ByteArray) (w : World) (hg : w.cell? ⟨g, 0, none⟩ = some (.string nm)) : Calls Try.prog 36 #[t.val, .pointer (some ⟨g, 0, none⟩)] w fun e w' => e = .returned (.bool (t.name.data.toList == nm.data.toList)) ∧ Below w.heap.size w w' := by
  have hb := World.block_lt_of_cell? w _ hg
  simp only at hb
  have hne : g ≠ w.heap.size := Nat.ne_of_lt hb
  go_enter Try.func36, Try.ntmps36
  rw [TaskV.val, TaskV.cells]
  go_wp2
  go_ret
  exact ⟨ret_bool (by rw [ByteArray.toList_eq, ByteArray.toList_eq]), (Below.refl _ _).alloc (Nat.le_refl _) _⟩
set_option maxHeartbeats 800000 in
theorem fifn_any (b off cap g n : Nat) (ts : List TaskV) (nm : ByteArray) (w : World) (hn : n ≤ 5000) (hg : w.cell? ⟨g, 0, none⟩ = some (.string nm)) (hrow : ∀ j, j < n → TaskAt w b (off + j * 9) (ts.getD j task0)) :
    Calls Try.prog 52 #[.slice (some ⟨b, off, none⟩) n cap, .func (.func 36) #[] #[.pointer (some ⟨g, 0, none⟩)]] w fun e w' => ∃ i : Int, e = .returned (.int .i64 i) ∧ decide (i ≥ 0) = (!noneB ts n nm) ∧ Below w.heap.size w w' := by
  generalize hans : noneB ts n nm = ans
  have HQ := hide hans
  have HR := hide hrow
  have HG := hide hg
  clear hans hrow hg
  go_enter Try.func52, Try.ntmps52
  go_wp2
  go_loopw [8] (fun i wr => ∃ k : Nat, k ≤ n ∧ i = .int .i64 k ∧ noneB ts k nm = true ∧ Below w.heap.size w wr) (fun i _ => n - (intOf i).toNat)
  case atStart => exact ⟨0, Nat.zero_le _, rfl, rfl, Below.refl _ _⟩
  case round =>
    obtain ⟨k, hk, rfl, hpre, hbel⟩ := hrel
    have B := hide hbel
    clear hbel
    by_cases hlt : k < n
    · obtain ⟨t0, t1, t2, t3, t4, t5, t6, t7, t8⟩ := (unhide HR k hlt).bel (unhide B)
      have CH := hide (fb1_any (ts.getD k task0) g nm wr (cell_bel' (unhide HG) (unhide B)))
      cases hq : ((ts.getD k task0).name.data.toList == nm.data.toList)
      · rw [hq] at CH
        have HN := hide (show noneB ts (k + 1) nm = true from range_next hpre (by rw [hq]; rfl))
        clear hpre hq
        generalize ts.getD k task0 = t at *
        go_wp2_with fail
        refine (unhide CH).mono ?_
        rintro e w1 ⟨rfl, bel⟩
        have B1 := hide (below_on (unhide B) bel)
        clear bel
        go_wp2
        go_roundw
        case rel => exact ⟨k + 1, by omega, by go_num, unhide HN, unhide B1⟩
        case measure => simp [intOf]; omega
      · have HF : Hid (ans = false) := by show ans = false; rw [← unhide HQ]; exact range_not hlt (by rw [hq]; rfl)
        rw [hq] at CH
        clear hpre hq
        generalize ts.getD k task0 = t at *
        go_wp2_with fail
        refine (unhide CH).mono ?_
        rintro e w1 ⟨rfl, bel⟩
        have B1 := hide (below_on (unhide B) bel)
        clear bel
        go_wp2
        go_ret
        exact ⟨_, rfl, by rw [unhide HF]; simp, unhide B1⟩
    · have e : k = n := by omega
      subst e
      have HF : Hid (ans = true) := by show ans = true; rw [← unhide HQ]; exact hpre
      clear hpre
      go_wp2
      go_ret
      exact ⟨_, rfl, by rw [unhide HF]; rfl, unhide B⟩
theorem fcfn_any (b off cap g n : Nat) (ts : List TaskV) (nm : ByteArray) (w : World) (hn : n ≤ 5000) (hg : w.cell? ⟨g, 0, none⟩ = some (.string nm)) (hrow : ∀ j, j < n → TaskAt w b (off + j * 9) (ts.getD j task0)) :
    Calls Try.prog 38 #[.slice (some ⟨b, off, none⟩) n cap, .func (.func 36) #[] #[.pointer (some ⟨g, 0, none⟩)]] w fun e w' => e = .returned (.bool (!noneB ts n nm)) ∧ Below w.heap.size w w' := by
  have CI := hide (fifn_any b off cap g n ts nm w hn hg hrow)
  clear hg hrow
  go_enter Try.func38, Try.ntmps38
  go_wp2_with fail
  refine (unhide CI).mono ?_
  rintro e w1 ⟨i, rfl, hi, bel⟩
  have B := hide bel
  have HI := hide hi
  clear bel hi
  go_wp2
  go_ret
  exact ⟨ret_bool (unhide HI), unhide B⟩
theorem odd_at {ts : List TaskV} {k : Nat} (hpre : (List.range k).all (okAt ts) = true) (hk : k < ts.length) (hb : okAt ts k = false) : oddOf ts = some k := by
  rw [oddOf, List.find?_eq_some_iff_getElem]
  refine ⟨by simp [hb], k, by simpa using hk, by simp, fun j hj => ?_⟩
  have := List.all_eq_true.1 hpre j (List.mem_range.2 hj)
  simp [this]
def badV (o : Option Nat) : Value := .tuple #[.int .i64 ((o.getD 0 : Nat) : Int), .bool o.isSome]
set_option maxHeartbeats 3200000 in
theorem bad_any (s : SetV) (w : World) (hs : SetIn w s) (hl : s.ts.length ≤ 5000) : Calls Try.prog 16 #[.slice s.ao s.ts.length s.cap] w fun e w' => e = .returned (badV (oddOf s.ts)) ∧ Below w.heap.size w w' := by
  have hfit := hs.fits
  obtain ⟨rl, ao, cap, ts⟩ := s
  simp only at hl hfit
  have hmf : ∀ (fn : Fn) (first cap : Array Value) (w : World), (Instr.makeFunc fn first cap).run Try.prog w = .ok (.func fn first cap) w := fun _ _ _ _ => rfl
  by_cases hne : ts = []
  · subst hne
    rw [show oddOf [] = none from rfl, badV]
    clear hs
    go_enter Try.func16, Try.ntmps16
    go_wp2
    refine wp_loop_rounds 1 ?_
    rw [rounds_succ]
    go_wp2
    go_ret2
    exact ⟨rfl, Below.refl _ _⟩
  obtain ⟨b, off, hao, ht⟩ := set_task hs hne
  simp only at hao ht
  subst hao
  generalize hans : oddOf ts = ans
  have HQ := hide hans
  have HT := hide ht
  clear hans ht hs hne
  go_enter Try.func16, Try.ntmps16
  go_wp2
  go_loopw [9] (fun i wr => ∃ k : Nat, k ≤ ts.length ∧ i = .int .i64 k ∧ (List.range k).all (okAt ts) = true ∧ Below w.heap.size w wr) (fun i _ => ts.length - (intOf i).toNat)
  case atStart => exact ⟨0, Nat.zero_le _, rfl, rfl, Below.refl _ _⟩
  case round =>
    obtain ⟨k, hk, rfl, hpre, hbel⟩ := hrel
    have B := hide hbel
    clear hbel
    by_cases hlt : k < ts.length
    · obtain ⟨t0, t1, t2, t3, t4, t5, t6, t7, t8⟩ := (unhide HT k hlt).1.bel (unhide B)
      have IN := hide (task_bel (unhide HT k hlt).2 (unhide B))
      have CI := hide (fun w h => code_Is (ts.getD k task0) k w h (by constructor <;> omega))
      have CH := hide (fun w hg h => fcfn_any b off cap wr.heap.size k ts (ts.getD k task0).name w (by omega) hg h)
      have hb0 := World.block_lt_of_cell? wr _ t0
      simp only at hb0
      have hkc : k ≤ cap := by omega
      cases hok : isB (ts.getD k task0) k
      · have HF : Hid (ans = some k) := by show ans = some k; rw [← unhide HQ]; exact odd_at hpre hlt (by rw [ok_parts, hok]; rfl)
        rw [hok] at CI
        clear hok hpre CH
        generalize ts.getD k task0 = t at *
        have BW := hide ((unhide B).alloc (unhide B).size (.cells #[.string t.name, .int .i64 t.T, .int .i64 t.D, .int .i64 t.mode, .int .i64 t.Q, .int .i64 t.theta, .slice t.ao t.regs.length t.cap, .int .u64 t.ecb, .int .u64 t.ucb] 41))
        go_wp2_with fail
        refine (unhide CI _ (task_bel (unhide IN) ((Below.refl _ _).alloc (Nat.le_refl _) _))).mono ?_
        rintro e w1 ⟨rfl, bel⟩
        have B2 := hide (below_on (unhide BW) bel)
        clear bel
        go_wp2
        go_ret2
        exact ⟨by rw [unhide HF]; rfl, unhide B2⟩
      · cases hnn : noneB ts k (ts.getD k task0).name
        · have HF : Hid (ans = some k) := by show ans = some k; rw [← unhide HQ]; exact odd_at hpre hlt (by rw [ok_parts, hok, hnn]; rfl)
          rw [hok] at CI
          rw [hnn] at CH
          clear hok hpre hnn
          generalize ts.getD k task0 = t at *
          have BW := hide ((unhide B).alloc (unhide B).size (.cells #[.string t.name, .int .i64 t.T, .int .i64 t.D, .int .i64 t.mode, .int .i64 t.Q, .int .i64 t.theta, .slice t.ao t.regs.length t.cap, .int .u64 t.ecb, .int .u64 t.ucb] 41))
          have BX := hide (box_new wr t 41)
          go_wp2_with fail
          refine (unhide CI _ (task_bel (unhide IN) ((Below.refl _ _).alloc (Nat.le_refl _) _))).mono ?_
          rintro e w1 ⟨rfl, bel⟩
          have B2 := hide (below_on (unhide BW) bel)
          have X2 := hide ((unhide BX).bel bel)
          clear bel
          go_wp2_with fail
          refine (unhide CH _ (unhide X2).1 (fun j hj => (unhide HT j (by omega)).1.bel (unhide B2))).mono ?_
          rintro e w2 ⟨rfl, bel⟩
          have B3 := hide (below_on (unhide B2) bel)
          clear bel
          go_wp2
          go_ret2
          exact ⟨by rw [unhide HF]; rfl, unhide B3⟩
        · have HN := hide (show (List.range (k + 1)).all (okAt ts) = true from range_next hpre (by rw [ok_parts, hok, hnn]; rfl))
          rw [hok] at CI
          rw [hnn] at CH
          clear hok hpre hnn
          generalize ts.getD k task0 = t at *
          have BW := hide ((unhide B).alloc (unhide B).size (.cells #[.string t.name, .int .i64 t.T, .int .i64 t.D, .int .i64 t.mode, .int .i64 t.Q, .int .i64 t.theta, .slice t.ao t.regs.length t.cap, .int .u64 t.ecb, .int .u64 t.ucb] 41))
          have BX := hide (box_new wr t 41)
          go_wp2_with fail
          refine (unhide CI _ (task_bel (unhide IN) ((Below.refl _ _).alloc (Nat.le_refl _) _))).mono ?_
          rintro e w1 ⟨rfl, bel⟩
          have B2 := hide (below_on (unhide BW) bel)
          have X2 := hide ((unhide BX).bel bel)
          clear bel
          go_wp2_with fail
          refine (unhide CH _ (unhide X2).1 (fun j hj => (unhide HT j (by omega)).1.bel (unhide B2))).mono ?_
          rintro e w2 ⟨rfl, bel⟩
          have B3 := hide (below_on (unhide B2) bel)
          clear bel
          go_wp2
          go_roundw
          case rel => exact ⟨k + 1, by omega, by go_num, unhide HN, unhide B3⟩
          case measure => simp [intOf]; omega
    · have e : k = ts.length := by omega
      have HF : Hid (ans = none) := by show ans = none; rw [← unhide HQ]; rw [e] at hpre; exact odd_none hpre
      clear hpre
      go_wp2
      go_ret2
      exact ⟨by rw [unhide HF]; rfl, unhide B⟩
end Go.Proofs.Ytfpaigcbjpolhaa.Lex
