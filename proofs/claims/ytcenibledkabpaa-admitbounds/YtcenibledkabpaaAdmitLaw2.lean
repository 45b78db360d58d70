/- The laws of chapter 13: AdmitSame, AdmitOne, AdmitBounds. -/
import Derived.Test.YtcenibledkabpaaAdmitLaw
import Derived.Test.YtcenibledkabpaaRespLaw3
namespace Go.Proofs.Ytcenibledkabpaa.Lex
set_option maxRecDepth 100000
open Go.ChangeShapes Go.WideShapes Go.RowKit

theorem same_self (a : VerdV) : sameV a a = true := by simp [sameV]
set_option maxHeartbeats 1600000 in
theorem asame_law (hJ : CJudge) (hS : CVSame) (a b : VerdV) (w : World) (ha : VerdIn w a) (hb : VerdIn w b) : Calls Try.prog 6 #[a.val, b.val] w fun e w' => e = .returned (.bool true) ∧ Below w.heap.size w w' := by
  have CK := hide (fun w => jknown_any hJ w)
  have B2 := hide (((Below.refl w.heap.size w).alloc (Nat.le_refl _) (.cells #[.int .i64 a.how, .int .i64 a.task, .slice a.ao a.r.length a.cap] 28)).alloc (by simp) (.cells #[.int .i64 b.how, .int .i64 b.task, .slice b.ao b.r.length b.cap] 28))
  have hla := ha.len
  have hlb := hb.len
  by_cases h0 : (50 : Int) < a.r.length
  · clear ha hb
    obtain ⟨h, t, ao, cp, l⟩ := a
    obtain ⟨h', t', ao', cp', l'⟩ := b
    simp only at h0 B2 hla hlb
    go_enter Try.func6, Try.ntmps6
    rw [VerdV.val, VerdV.val]
    simp only
    go_wp2
    go_ret
    exact ⟨rfl, unhide B2⟩
  by_cases h1 : (50 : Int) < b.r.length
  · clear ha hb
    obtain ⟨h, t, ao, cp, l⟩ := a
    obtain ⟨h', t', ao', cp', l'⟩ := b
    simp only at h0 h1 B2 hla hlb
    go_enter Try.func6, Try.ntmps6
    rw [VerdV.val, VerdV.val]
    simp only
    go_wp2
    go_ret
    exact ⟨rfl, unhide B2⟩
  have CS := hide (fun W (h : Below w.heap.size w W) => hS a b W (verd_bel ha h) (verd_bel hb h) (by omega) (by omega))
  have CT := hide (fun W (h : Below w.heap.size w W) => hS a a W (verd_bel ha h) (verd_bel ha h) (by omega) (by omega))
  have CR := hide (fun W (h : Below w.heap.size w W) => rvsame_any a b W (verd_bel ha h) (verd_bel hb h))
  rw [same_self] at CT
  have HX := hide (vbox_new w a 28)
  have HY := hide (vbox_new (w.alloc (.cells #[.int .i64 a.how, .int .i64 a.task, .slice a.ao a.r.length a.cap] 28)) b 28)
  generalize sameV a b = o at *
  clear ha hb hJ hS
  have hbox : VBox ((w.alloc (.cells #[.int .i64 a.how, .int .i64 a.task, .slice a.ao a.r.length a.cap] 28)).alloc (.cells #[.int .i64 b.how, .int .i64 b.task, .slice b.ao b.r.length b.cap] 28)) w.heap.size a ∧ VBox ((w.alloc (.cells #[.int .i64 a.how, .int .i64 a.task, .slice a.ao a.r.length a.cap] 28)).alloc (.cells #[.int .i64 b.how, .int .i64 b.task, .slice b.ao b.r.length b.cap] 28)) (w.heap.size + 1) b := ⟨(unhide HX).bel ((Below.refl _ _).alloc (Nat.le_refl _) _), by simpa using unhide HY⟩
  go_enter Try.func6, Try.ntmps6
  rw [VerdV.val, VerdV.val]
  have D0 := hide (unhide B2).drew
  go_wp2_with fail
  refine wp_region_held_drew (S := (fun w9 => VBox w9 w.heap.size a ∧ VBox w9 (w.heap.size + 1) b)) (by kernel_rfl) (⟨hbox.1.drew, hbox.2.drew⟩) (fun hHeld => ?_)
  refine take_yes 0 15 (.agg #[.int .i64 a.how, .int .i64 a.task, .slice a.ao a.r.length a.cap]) rfl rfl (by kernel_rfl) (by kernel_rfl) (by kernel_rfl) (fun _ _ _ h => h) rfl (by assumption) (by intro w9 hS9; obtain ⟨⟨s0, s1, s2⟩, ⟨t0, t1, t2⟩⟩ := hS9; go_simp) ?_
  simp only [List.setIfInBounds_toArray, List.set_cons_zero, List.set_cons_succ]
  refine take_yes 1 16 (.agg #[.int .i64 b.how, .int .i64 b.task, .slice b.ao b.r.length b.cap]) rfl rfl (by kernel_rfl) (by kernel_rfl) (by kernel_rfl) (fun _ _ _ h => h) rfl (by assumption) (by intro w9 hS9; obtain ⟨⟨s0, s1, s2⟩, ⟨t0, t1, t2⟩⟩ := hS9; go_simp) ?_
  simp only [List.setIfInBounds_toArray, List.set_cons_zero, List.set_cons_succ]
  refine take_yes 3 18 (.agg #[.int .i64 a.how, .int .i64 a.task, .slice a.ao a.r.length a.cap]) rfl rfl (by kernel_rfl) (by kernel_rfl) (by kernel_rfl) (fun _ _ _ h => h) rfl (by assumption) (by intro w9 hS9; obtain ⟨⟨s0, s1, s2⟩, ⟨t0, t1, t2⟩⟩ := hS9; go_simp) ?_
  simp only [List.setIfInBounds_toArray, List.set_cons_zero, List.set_cons_succ]
  refine take_yes 4 19 (.agg #[.int .i64 b.how, .int .i64 b.task, .slice b.ao b.r.length b.cap]) rfl rfl (by kernel_rfl) (by kernel_rfl) (by kernel_rfl) (fun _ _ _ h => h) rfl (by assumption) (by intro w9 hS9; obtain ⟨⟨s0, s1, s2⟩, ⟨t0, t1, t2⟩⟩ := hS9; go_simp) ?_
  simp only [List.setIfInBounds_toArray, List.set_cons_zero, List.set_cons_succ]
  refine wpAnyH_ready (rs := [2]) (by kernel_rfl) (by decide) (AllReadyH.cons rfl (fun K hK => ?_) AllReadyH.nil)
  refine (if_pos rfl).mpr ?_
  go_wp2_with fail
  refine (unhide CS ((w.alloc (.cells #[.int .i64 a.how, .int .i64 a.task, .slice a.ao a.r.length a.cap] 28)).alloc (.cells #[.int .i64 b.how, .int .i64 b.task, .slice b.ao b.r.length b.cap] 28)).drew (unhide D0)).mono ?_
  rintro e x1 ⟨rfl, bel⟩
  have N1 := hide (below_on (unhide D0) bel)
  refine hK.out _ _ (⟨hHeld.1.bel bel, hHeld.2.bel bel⟩) (fun hHeld => ?_)
  clear hK K bel
  refine wpAnyH_ready (rs := [5]) (by kernel_rfl) (by decide) (AllReadyH.cons rfl (fun K hK => ?_) AllReadyH.nil)
  refine (if_pos rfl).mpr ?_
  go_wp2_with fail
  refine (unhide CR x1 (unhide N1)).mono ?_
  rintro e x2 ⟨rfl, bel⟩
  have N2 := hide (below_on (unhide N1) bel)
  refine hK.out _ _ (⟨hHeld.1.bel bel, hHeld.2.bel bel⟩) (fun hHeld => ?_)
  clear hK K bel
  refine take_yes 6 21 (.bool true) rfl rfl (by kernel_rfl) (by kernel_rfl) (by kernel_rfl) (fun _ _ _ h => h) rfl (by assumption) (by intro w9 hS9; obtain ⟨⟨s0, s1, s2⟩, ⟨t0, t1, t2⟩⟩ := hS9; go_simp) ?_
  simp only [List.setIfInBounds_toArray, List.set_cons_zero, List.set_cons_succ]
  refine take_yes 7 22 (.bool true) rfl rfl (by kernel_rfl) (by kernel_rfl) (by kernel_rfl) (fun _ _ _ h => h) rfl (by assumption) (by intro w9 hS9; obtain ⟨⟨s0, s1, s2⟩, ⟨t0, t1, t2⟩⟩ := hS9; go_simp) ?_
  simp only [List.setIfInBounds_toArray, List.set_cons_zero, List.set_cons_succ]
  refine take_yes 8 23 (.agg #[.int .i64 a.how, .int .i64 a.task, .slice a.ao a.r.length a.cap]) rfl rfl (by kernel_rfl) (by kernel_rfl) (by kernel_rfl) (fun _ _ _ h => h) rfl (by assumption) (by intro w9 hS9; obtain ⟨⟨s0, s1, s2⟩, ⟨t0, t1, t2⟩⟩ := hS9; go_simp) ?_
  simp only [List.setIfInBounds_toArray, List.set_cons_zero, List.set_cons_succ]
  refine take_yes 9 24 (.agg #[.int .i64 a.how, .int .i64 a.task, .slice a.ao a.r.length a.cap]) rfl rfl (by kernel_rfl) (by kernel_rfl) (by kernel_rfl) (fun _ _ _ h => h) rfl (by assumption) (by intro w9 hS9; obtain ⟨⟨s0, s1, s2⟩, ⟨t0, t1, t2⟩⟩ := hS9; go_simp) ?_
  simp only [List.setIfInBounds_toArray, List.set_cons_zero, List.set_cons_succ]
  refine wpAnyH_ready (rs := [10]) (by kernel_rfl) (by decide) (AllReadyH.cons rfl (fun K hK => ?_) AllReadyH.nil)
  refine (if_pos rfl).mpr ?_
  go_wp2_with fail
  refine (unhide CT x2 (unhide N2)).mono ?_
  rintro e x3 ⟨rfl, bel⟩
  have N3 := hide (below_on (unhide N2) bel)
  refine hK.out _ _ (⟨hHeld.1.bel bel, hHeld.2.bel bel⟩) (fun hHeld => ?_)
  clear hK K bel
  refine take_yes 11 26 (.bool true) rfl rfl (by kernel_rfl) (by kernel_rfl) (by kernel_rfl) (fun _ _ _ h => h) rfl (by assumption) (by intro w9 hS9; obtain ⟨⟨s0, s1, s2⟩, ⟨t0, t1, t2⟩⟩ := hS9; go_simp) ?_
  simp only [List.setIfInBounds_toArray, List.set_cons_zero, List.set_cons_succ]
  refine take_yes 12 27 (.bool true) rfl rfl (by kernel_rfl) (by kernel_rfl) (by kernel_rfl) (fun _ _ _ h => h) rfl (by assumption) (by intro w9 hS9; obtain ⟨⟨s0, s1, s2⟩, ⟨t0, t1, t2⟩⟩ := hS9; go_simp) ?_
  simp only [List.setIfInBounds_toArray, List.set_cons_zero, List.set_cons_succ]
  refine wpAnyH_ready (rs := [13]) (by kernel_rfl) (by decide) (AllReadyH.cons rfl (fun K hK => ?_) AllReadyH.nil)
  refine (if_pos rfl).mpr ?_
  go_wp2_with fail
  refine (unhide CK x3).mono ?_
  rintro e x4 ⟨rfl, bel⟩
  have N4 := hide (below_on (unhide N3) bel)
  refine hK.out _ _ (⟨hHeld.1.bel bel, hHeld.2.bel bel⟩) (fun hHeld => ?_)
  clear hK K bel
  refine take_yes 14 29 (.bool true) rfl rfl (by kernel_rfl) (by kernel_rfl) (by kernel_rfl) (fun _ _ _ h => h) rfl (by assumption) (by intro w9 hS9; obtain ⟨⟨s0, s1, s2⟩, ⟨t0, t1, t2⟩⟩ := hS9; go_simp) ?_
  simp only [List.setIfInBounds_toArray, List.set_cons_zero, List.set_cons_succ]
  refine take_yes 15 4 (.bool true) rfl rfl (by kernel_rfl) (by kernel_rfl) (by kernel_rfl) (fun _ _ _ h => h) rfl (by assumption) (by intro w9 hS9; obtain ⟨⟨s0, s1, s2⟩, ⟨t0, t1, t2⟩⟩ := hS9; go_simp) ?_
  simp only [List.setIfInBounds_toArray, List.set_cons_zero, List.set_cons_succ]
  refine wpAnyH_done (by kernel_rfl) ?_ _
  go_wp2
  go_ret
  exact ⟨rfl, unhide N4⟩
theorem ceil_one {w T : Int} (h : 1 ≤ w ∧ w ≤ T) : Fix.ceilZ w T = 1 := by
  unfold Fix.ceilZ
  rw [show w + T - 1 = (w - 1) + T * 1 by omega, Int.add_mul_ediv_left _ _ (by omega), Int.ediv_eq_zero_of_lt (by omega) (by omega)]
  rfl
theorem one_judge {t : TaskV} {rl : Int} {ao : Option Addr} {cap : Nat} (ha : allB ⟨rl, ao, cap, [t]⟩ = true) (hu : U64 t.ecb ∧ U64 t.ucb) : judgeH ⟨rl, ao, cap, [t]⟩ = 1 ∧ judgeT ⟨rl, ao, cap, [t]⟩ = 0 ∧ judgeR ⟨rl, ao, cap, [t]⟩ = [workZ t.regs] := by
  have hu' : ∀ x ∈ [t], U64 x.ecb ∧ U64 x.ucb := fun x hx => by
    have : x = t := by simpa using hx
    subst this; exact hu
  obtain ⟨-, -, -, hfit⟩ := all_fits ha hu'
  have his := (hfit 0 (by simp)).is
  have htt := task_time his
  obtain ⟨-, -, -, -, ⟨hD, hDT, hT⟩, -⟩ := fits_parts his
  have e0 : (([t] : List TaskV).getD 0 task0) = t := rfl
  simp only [e0] at htt hD hDT hT
  have hwD : workZ t.regs ≤ t.D := by
    have h := his
    simp only [isB, Bool.and_eq_true, decide_eq_true_eq] at h
    exact h.2.2.2.2.2.1
  have hm : mostZ ⟨rl, ao, cap, [t]⟩ 0 = 0 := most_low _ 0 1 (by omega)
  have hall : allL ⟨rl, ao, cap, [t]⟩ 0 = [⟨t.T, workZ t.regs⟩] := rfl
  have hld : loadsTo ⟨rl, ao, cap, [t]⟩ 0 = [] := rfl
  have hs1 : ∀ w, Fix.sumZ 0 [⟨t.T, workZ t.regs⟩] w = Fix.ceilZ w t.T * workZ t.regs := fun w => by simp [Fix.sumZ, Fix.addZ]
  have hl1 : Fix.IsLeast (Fix.sumZ 0 [⟨t.T, workZ t.regs⟩]) (some (workZ t.regs)) := by
    refine ⟨by omega, ?_, fun w h1 h2 => ?_⟩
    · rw [hs1, ceil_one (by omega)]; omega
    · rw [hs1, ceil_one (by omega)]; omega
  have hl2 : Fix.IsLeast (Fix.sumZ (0 + workZ t.regs) []) (some (workZ t.regs)) := by
    have e : ∀ w, Fix.sumZ (0 + workZ t.regs) [] w = workZ t.regs := fun w => by simp [Fix.sumZ]
    refine ⟨by omega, e _, fun w h1 h2 => ?_⟩
    rw [e]; exact h2
  have hr := resp_first (s := ⟨rl, ao, cap, [t]⟩) (k := 0) (b := 0) (L := workZ t.regs) (d := workZ t.regs) (by simp) (by rw [hall]; exact Fix.may_of (by omega) (by simp) (fun x hx => by
    have : x = ⟨t.T, workZ t.regs⟩ := by simpa using hx
    subst this; exact ⟨by simp only; omega, by simp only; omega⟩)) (by rw [hall]; exact hl1) (by show (Fix.ceilZ (workZ t.regs) t.T).toNat = 1; rw [ceil_one (by omega)]; rfl) (by rw [hld]; exact hl2) hwD
  have h1 : hAt ⟨rl, ao, cap, [t]⟩ 0 = 1 := by rw [hAt, show ((0 : Nat) : Int) = 0 from rfl, hm]; exact hr.2
  have h2 : rAt ⟨rl, ao, cap, [t]⟩ 0 = workZ t.regs := by rw [rAt, show ((0 : Nat) : Int) = 0 from rfl, hm]; exact hr.1
  obtain ⟨e1, e2, e3⟩ := judge_ok (s := ⟨rl, ao, cap, [t]⟩) (bad_none.2 (fun k hk => by
    have : k = 0 := by simp at hk; omega
    subst this; exact h1))
  refine ⟨e1, e2, ?_⟩
  rw [e3]
  show [rAt ⟨rl, ao, cap, [t]⟩ 0] = _
  rw [h2]
theorem one_set {w : World} {t : TaskV} {rl : Int} {g : Nat} {ty : TypeId} {fr : Nat × Nat} (hr : I64 rl) (ht : TaskIn w t) (hb : w.heap[g]? = some (.cells t.cells.toArray ty fr)) : SetIn w ⟨rl, some ⟨g, 0, none⟩, 1, [t]⟩ := by
  refine ⟨hr, (fun e => by cases e), by simp, by simp, fun _ => ⟨g, 0, rfl, fun j hj i hi => ?_⟩, fun x hx => ?_⟩
  · have : j = 0 := by simp at hj; omega
    subst this
    rw [cell_block hb, List.getElem?_toArray]
    simp
  · have : x = t := by simpa using hx
    subst this; exact ht
set_option maxHeartbeats 3200000 in
theorem aone_law (hJ : CJudge) (t : TaskV) (rl : Int) (w : World) (ht : TaskIn w t) (hr : I64 rl) : Calls Try.prog 4 #[t.val, .int .i64 rl] w fun e w' => e = .returned (.bool true) ∧ Below w.heap.size w w' := by
  have CK := hide (fun w => jknown_any hJ w)
  have CA := hide (fun w h => rall_any ⟨rl, some ⟨w.heap.size + 1, 0, none⟩, 1, [t]⟩ w h)
  have HT := hide ht
  have HX := hide (box_new w t 37)
  have HW : Hid (∀ W0 W1 W2 : World, W0 = w.alloc (.cells #[.string t.name, .int .i64 t.T, .int .i64 t.D, .int .i64 t.mode, .int .i64 t.Q, .int .i64 t.theta, .slice t.ao t.regs.length t.cap, .int .u64 t.ecb, .int .u64 t.ucb] 37) → W1 = W0.alloc (.cells #[.string t.name, .int .i64 t.T, .int .i64 t.D, .int .i64 t.mode, .int .i64 t.Q, .int .i64 t.theta, .slice t.ao t.regs.length t.cap, .int .u64 t.ecb, .int .u64 t.ucb] 37) → W2 = W1.alloc (.cells #[.int .i64 rl, .slice (some ⟨w.heap.size + 1, 0, none⟩) 1 1] 24) → Below w.heap.size w W2 ∧ SetIn W2 ⟨rl, some ⟨w.heap.size + 1, 0, none⟩, 1, [t]⟩ ∧ Box W2 w.heap.size t ∧ SBox W2 (w.heap.size + 1 + 1) ⟨rl, some ⟨w.heap.size + 1, 0, none⟩, 1, [t]⟩) := by
    intro W0 W1 W2 e0 e1 e2
    have z0 : W0.heap.size = w.heap.size + 1 := by rw [e0]; simp
    have z1 : W1.heap.size = w.heap.size + 1 + 1 := by rw [e1]; simp [z0]
    have b0 : Below w.heap.size w W0 := by rw [e0]; exact (Below.refl _ _).alloc (Nat.le_refl _) _
    have b1 : Below W0.heap.size W0 W1 := by rw [e1]; exact (Below.refl _ _).alloc (Nat.le_refl _) _
    have b2 : Below W1.heap.size W1 W2 := by rw [e2]; exact (Below.refl _ _).alloc (Nat.le_refl _) _
    have hx : Box W0 w.heap.size t := by rw [e0]; exact unhide HX
    refine ⟨below_on (below_on b0 b1) b2, set_bel (one_set (ty := 37) (fr := (0, 0)) hr (task_bel (task_bel ht b0) b1) ?_) b2, (hx.bel b1).bel b2, ?_⟩
    · have := heap_alloc_new W0 (.cells #[.string t.name, .int .i64 t.T, .int .i64 t.D, .int .i64 t.mode, .int .i64 t.Q, .int .i64 t.theta, .slice t.ao t.regs.length t.cap, .int .u64 t.ecb, .int .u64 t.ucb] 37)
      rw [← e1, z0] at this
      exact this
    · rw [e2, ← z1]
      exact sbox_new W1 ⟨rl, some ⟨w.heap.size + 1, 0, none⟩, 1, [t]⟩ 24
  obtain ⟨b2, hin, hx2, hs2⟩ := unhide HW _ _ _ rfl rfl rfl
  have B2 := hide b2
  have HIN := hide hin
  have X2 := hide hx2
  have S2 := hide hs2
  clear b2 hin hx2 hs2 HW
  cases hb : allB ⟨rl, some ⟨w.heap.size + 1, 0, none⟩, 1, [t]⟩
  · have CA' := hide (fun W h => rall_any ⟨rl, some ⟨w.heap.size + 1, 0, none⟩, 1, [t]⟩ W h)
    rw [hb] at CA'
    clear hb CA hJ ht
    go_enter Try.func4, Try.ntmps4
    rw [TaskV.val, TaskV.cells]
    go_wp2_with fail
    refine (unhide CA' _ (unhide HIN)).mono ?_
    rintro e w3 ⟨rfl, bel⟩
    have B3 := hide (below_on (unhide B2) bel)
    clear bel
    go_wp2
    go_ret
    exact ⟨rfl, unhide B3⟩
  · have CA' := hide (fun W h => rall_any ⟨rl, some ⟨w.heap.size + 1, 0, none⟩, 1, [t]⟩ W h)
    rw [hb] at CA'
    obtain ⟨j1, j2, j3⟩ := one_judge hb ⟨ht.ecb, ht.ucb⟩
    have hreg : regsB t.regs = true := by
      obtain ⟨-, -, -, hfit⟩ := all_fits hb (fun x hx => by
        have : x = t := by simpa using hx
        subst this; exact ⟨ht.ecb, ht.ucb⟩)
      exact is_regs8 (hfit 0 (by simp)).is
    have CJ := hide (fun W h => hJ ⟨rl, some ⟨w.heap.size + 1, 0, none⟩, 1, [t]⟩ W h hb)
    rw [j1, j2, j3] at CJ
    have CW := hide (fun W (h : Below w.heap.size w W) => rwork_any t W (regs_bel ht.regs h) hreg)
    clear hb CA hJ ht j1 j2 j3 hreg
    generalize workZ t.regs = wk at *
    go_enter Try.func4, Try.ntmps4
    rw [TaskV.val, TaskV.cells]
    go_wp2_with fail
    refine (unhide CA' _ (unhide HIN)).mono ?_
    rintro e w3 ⟨rfl, bel⟩
    have B3 := hide (below_on (unhide B2) bel)
    have X3 := hide ((unhide X2).bel bel)
    have HIN3 := hide (set_bel (unhide HIN) bel)
    obtain ⟨s0, s1⟩ := (unhide S2).bel bel
    simp only at s0 s1
    clear bel
    go_wp2_with fail
    refine (unhide CJ _ (unhide HIN3)).mono ?_
    rintro e w4 ⟨v, rfl, ⟨v1, v2, v3⟩, hvin, bel⟩
    have hreg := hvin.regs
    obtain ⟨vh, vt, vao, vcap, vr⟩ := v
    simp only at v1 v2 v3 hreg
    subst v1
    subst v2
    subst v3
    obtain ⟨vb, vo, hvo, hvc⟩ := hreg (by simp)
    subst hvo
    have hvc0 := hvc 0 (by simp)
    simp only [Nat.add_zero, List.getD_cons_zero] at hvc0
    have B4 := hide (below_on (unhide B3) bel)
    have X4 := hide ((unhide X3).bel bel)
    have B5 := hide ((unhide B4).alloc (unhide B4).size (.cells #[.int .i64 1, .int .i64 0, .slice (some ⟨vb, vo, none⟩) 1 vcap] 28))
    have Y5 := hide (vbox_new w4 ⟨1, 0, some ⟨vb, vo, none⟩, vcap, [wk]⟩ 28)
    have X5 := hide ((unhide X4).bel ((Below.refl _ _).alloc (Nat.le_refl _) (.cells #[.int .i64 1, .int .i64 0, .slice (some ⟨vb, vo, none⟩) 1 vcap] 28)))
    have Z5 := hide (cell_bel' hvc0 ((Below.refl _ _).alloc (Nat.le_refl _) (.cells #[.int .i64 1, .int .i64 0, .slice (some ⟨vb, vo, none⟩) 1 vcap] 28)))
    clear bel hvin hvc hvc0 s0 s1 hreg
    rw [VerdV.val]
    simp only [List.length_cons, List.length_nil, Nat.zero_add]
    have D0 := hide (unhide B5).drew
    go_wp2_with fail
    refine wp_region_held_drew (S := (fun w9 => Box w9 w.heap.size t ∧ VBox w9 w4.heap.size ⟨1, 0, some ⟨vb, vo, none⟩, vcap, [wk]⟩ ∧ w9.cell? ⟨vb, vo, none⟩ = some (.int .i64 wk))) (by kernel_rfl) (⟨(unhide X5).drew, (unhide Y5).drew, cell_bel' (unhide Z5) (Below.refl _ _).drew⟩) (fun hHeld => ?_)
    refine take_yes 0 20 (.int .i64 0) rfl rfl (by kernel_rfl) (by kernel_rfl) (by kernel_rfl) (fun _ _ _ h => h) rfl (by assumption) (by intro w9 hS9; obtain ⟨⟨t0, t1, t2, t3, t4, t5, t6, t7, t8⟩, ⟨q0, q1, q2⟩, q3⟩ := hS9; go_simp) ?_
    simp only [List.setIfInBounds_toArray, List.set_cons_zero, List.set_cons_succ]
    refine take_yes 1 21 (.bool true) rfl rfl (by kernel_rfl) (by kernel_rfl) (by kernel_rfl) (fun _ _ _ h => h) rfl (by assumption) (by intro w9 hS9; obtain ⟨⟨t0, t1, t2, t3, t4, t5, t6, t7, t8⟩, ⟨q0, q1, q2⟩, q3⟩ := hS9; go_simp) ?_
    simp only [List.setIfInBounds_toArray, List.set_cons_zero, List.set_cons_succ]
    refine take_yes 2 22 (.bool true) rfl rfl (by kernel_rfl) (by kernel_rfl) (by kernel_rfl) (fun _ _ _ h => h) rfl (by assumption) (by intro w9 hS9; obtain ⟨⟨t0, t1, t2, t3, t4, t5, t6, t7, t8⟩, ⟨q0, q1, q2⟩, q3⟩ := hS9; go_simp) ?_
    simp only [List.setIfInBounds_toArray, List.set_cons_zero, List.set_cons_succ]
    refine take_yes 3 23 (.pointer (some ⟨w4.heap.size, 0, none⟩)) rfl rfl (by kernel_rfl) (by kernel_rfl) (by kernel_rfl) (fun _ _ _ h => h) rfl (by assumption) (by intro w9 hS9; obtain ⟨⟨t0, t1, t2, t3, t4, t5, t6, t7, t8⟩, ⟨q0, q1, q2⟩, q3⟩ := hS9; go_simp) ?_
    simp only [List.setIfInBounds_toArray, List.set_cons_zero, List.set_cons_succ]
    refine take_yes 4 24 (.int .i64 1) rfl rfl (by kernel_rfl) (by kernel_rfl) (by kernel_rfl) (fun _ _ _ h => h) rfl (by assumption) (by intro w9 hS9; obtain ⟨⟨t0, t1, t2, t3, t4, t5, t6, t7, t8⟩, ⟨q0, q1, q2⟩, q3⟩ := hS9; go_simp) ?_
    simp only [List.setIfInBounds_toArray, List.set_cons_zero, List.set_cons_succ]
    refine take_yes 5 25 (.bool true) rfl rfl (by kernel_rfl) (by kernel_rfl) (by kernel_rfl) (fun _ _ _ h => h) rfl (by assumption) (by intro w9 hS9; obtain ⟨⟨t0, t1, t2, t3, t4, t5, t6, t7, t8⟩, ⟨q0, q1, q2⟩, q3⟩ := hS9; go_simp) ?_
    simp only [List.setIfInBounds_toArray, List.set_cons_zero, List.set_cons_succ]
    refine take_yes 6 26 (.bool true) rfl rfl (by kernel_rfl) (by kernel_rfl) (by kernel_rfl) (fun _ _ _ h => h) rfl (by assumption) (by intro w9 hS9; obtain ⟨⟨t0, t1, t2, t3, t4, t5, t6, t7, t8⟩, ⟨q0, q1, q2⟩, q3⟩ := hS9; go_simp) ?_
    simp only [List.setIfInBounds_toArray, List.set_cons_zero, List.set_cons_succ]
    refine take_yes 7 27 (.bool true) rfl rfl (by kernel_rfl) (by kernel_rfl) (by kernel_rfl) (fun _ _ _ h => h) rfl (by assumption) (by intro w9 hS9; obtain ⟨⟨t0, t1, t2, t3, t4, t5, t6, t7, t8⟩, ⟨q0, q1, q2⟩, q3⟩ := hS9; go_simp) ?_
    simp only [List.setIfInBounds_toArray, List.set_cons_zero, List.set_cons_succ]
    refine take_yes 8 28 (.pointer (some ⟨w4.heap.size, 2, none⟩)) rfl rfl (by kernel_rfl) (by kernel_rfl) (by kernel_rfl) (fun _ _ _ h => h) rfl (by assumption) (by intro w9 hS9; obtain ⟨⟨t0, t1, t2, t3, t4, t5, t6, t7, t8⟩, ⟨q0, q1, q2⟩, q3⟩ := hS9; go_simp) ?_
    simp only [List.setIfInBounds_toArray, List.set_cons_zero, List.set_cons_succ]
    refine take_yes 9 29 (.slice (some ⟨vb, vo, none⟩) 1 vcap) rfl rfl (by kernel_rfl) (by kernel_rfl) (by kernel_rfl) (fun _ _ _ h => h) rfl (by assumption) (by intro w9 hS9; obtain ⟨⟨t0, t1, t2, t3, t4, t5, t6, t7, t8⟩, ⟨q0, q1, q2⟩, q3⟩ := hS9; go_simp) ?_
    simp only [List.setIfInBounds_toArray, List.set_cons_zero, List.set_cons_succ]
    refine take_yes 10 30 (.int .i64 1) rfl rfl (by kernel_rfl) (by kernel_rfl) (by kernel_rfl) (fun _ _ _ h => h) rfl (by assumption) (by intro w9 hS9; obtain ⟨⟨t0, t1, t2, t3, t4, t5, t6, t7, t8⟩, ⟨q0, q1, q2⟩, q3⟩ := hS9; go_simp) ?_
    simp only [List.setIfInBounds_toArray, List.set_cons_zero, List.set_cons_succ]
    refine take_yes 11 31 (.bool true) rfl rfl (by kernel_rfl) (by kernel_rfl) (by kernel_rfl) (fun _ _ _ h => h) rfl (by assumption) (by intro w9 hS9; obtain ⟨⟨t0, t1, t2, t3, t4, t5, t6, t7, t8⟩, ⟨q0, q1, q2⟩, q3⟩ := hS9; go_simp) ?_
    simp only [List.setIfInBounds_toArray, List.set_cons_zero, List.set_cons_succ]
    refine take_yes 12 32 (.bool true) rfl rfl (by kernel_rfl) (by kernel_rfl) (by kernel_rfl) (fun _ _ _ h => h) rfl (by assumption) (by intro w9 hS9; obtain ⟨⟨t0, t1, t2, t3, t4, t5, t6, t7, t8⟩, ⟨q0, q1, q2⟩, q3⟩ := hS9; go_simp) ?_
    simp only [List.setIfInBounds_toArray, List.set_cons_zero, List.set_cons_succ]
    refine take_yes 13 33 (.bool true) rfl rfl (by kernel_rfl) (by kernel_rfl) (by kernel_rfl) (fun _ _ _ h => h) rfl (by assumption) (by intro w9 hS9; obtain ⟨⟨t0, t1, t2, t3, t4, t5, t6, t7, t8⟩, ⟨q0, q1, q2⟩, q3⟩ := hS9; go_simp) ?_
    simp only [List.setIfInBounds_toArray, List.set_cons_zero, List.set_cons_succ]
    refine take_yes 14 34 (.pointer (some ⟨w4.heap.size, 2, none⟩)) rfl rfl (by kernel_rfl) (by kernel_rfl) (by kernel_rfl) (fun _ _ _ h => h) rfl (by assumption) (by intro w9 hS9; obtain ⟨⟨t0, t1, t2, t3, t4, t5, t6, t7, t8⟩, ⟨q0, q1, q2⟩, q3⟩ := hS9; go_simp) ?_
    simp only [List.setIfInBounds_toArray, List.set_cons_zero, List.set_cons_succ]
    refine take_yes 15 35 (.slice (some ⟨vb, vo, none⟩) 1 vcap) rfl rfl (by kernel_rfl) (by kernel_rfl) (by kernel_rfl) (fun _ _ _ h => h) rfl (by assumption) (by intro w9 hS9; obtain ⟨⟨t0, t1, t2, t3, t4, t5, t6, t7, t8⟩, ⟨q0, q1, q2⟩, q3⟩ := hS9; go_simp) ?_
    simp only [List.setIfInBounds_toArray, List.set_cons_zero, List.set_cons_succ]
    refine take_yes 16 36 (.pointer (some ⟨vb, vo, none⟩)) rfl rfl (by kernel_rfl) (by kernel_rfl) (by kernel_rfl) (fun _ _ _ h => h) rfl (by assumption) (by intro w9 hS9; obtain ⟨⟨t0, t1, t2, t3, t4, t5, t6, t7, t8⟩, ⟨q0, q1, q2⟩, q3⟩ := hS9; go_simp) ?_
    simp only [List.setIfInBounds_toArray, List.set_cons_zero, List.set_cons_succ]
    refine take_yes 17 37 (.int .i64 wk) rfl rfl (by kernel_rfl) (by kernel_rfl) (by kernel_rfl) (fun _ _ _ h => h) rfl (by assumption) (by intro w9 hS9; obtain ⟨⟨t0, t1, t2, t3, t4, t5, t6, t7, t8⟩, ⟨q0, q1, q2⟩, q3⟩ := hS9; go_simp) ?_
    simp only [List.setIfInBounds_toArray, List.set_cons_zero, List.set_cons_succ]
    refine take_yes 18 38 (.agg #[.string t.name, .int .i64 t.T, .int .i64 t.D, .int .i64 t.mode, .int .i64 t.Q, .int .i64 t.theta, .slice t.ao t.regs.length t.cap, .int .u64 t.ecb, .int .u64 t.ucb]) rfl rfl (by kernel_rfl) (by kernel_rfl) (by kernel_rfl) (fun _ _ _ h => h) rfl (by assumption) (by intro w9 hS9; obtain ⟨⟨t0, t1, t2, t3, t4, t5, t6, t7, t8⟩, ⟨q0, q1, q2⟩, q3⟩ := hS9; go_simp) ?_
    simp only [List.setIfInBounds_toArray, List.set_cons_zero, List.set_cons_succ]
    refine wpAnyH_ready (rs := [19]) (by kernel_rfl) (by decide) (AllReadyH.cons rfl (fun K hK => ?_) AllReadyH.nil)
    refine (if_pos rfl).mpr ?_
    go_wp2_with fail
    refine (unhide CW (w4.alloc (.cells #[.int .i64 1, .int .i64 0, .slice (some ⟨vb, vo, none⟩) 1 vcap] 28)).drew (unhide D0)).mono ?_
    rintro e x1 ⟨rfl, bel⟩
    have N1 := hide (below_on (unhide D0) bel)
    refine hK.out _ _ (⟨hHeld.1.bel bel, hHeld.2.1.bel bel, cell_bel' hHeld.2.2 bel⟩) (fun hHeld => ?_)
    clear hK K bel
    refine take_yes 20 40 (.bool true) rfl rfl (by kernel_rfl) (by kernel_rfl) (by kernel_rfl) (fun _ _ _ h => h) rfl (by assumption) (by intro w9 hS9; obtain ⟨⟨t0, t1, t2, t3, t4, t5, t6, t7, t8⟩, ⟨q0, q1, q2⟩, q3⟩ := hS9; go_simp) ?_
    simp only [List.setIfInBounds_toArray, List.set_cons_zero, List.set_cons_succ]
    refine take_yes 21 41 (.bool true) rfl rfl (by kernel_rfl) (by kernel_rfl) (by kernel_rfl) (fun _ _ _ h => h) rfl (by assumption) (by intro w9 hS9; obtain ⟨⟨t0, t1, t2, t3, t4, t5, t6, t7, t8⟩, ⟨q0, q1, q2⟩, q3⟩ := hS9; go_simp) ?_
    simp only [List.setIfInBounds_toArray, List.set_cons_zero, List.set_cons_succ]
    refine take_yes 22 42 (.bool true) rfl rfl (by kernel_rfl) (by kernel_rfl) (by kernel_rfl) (fun _ _ _ h => h) rfl (by assumption) (by intro w9 hS9; obtain ⟨⟨t0, t1, t2, t3, t4, t5, t6, t7, t8⟩, ⟨q0, q1, q2⟩, q3⟩ := hS9; go_simp) ?_
    simp only [List.setIfInBounds_toArray, List.set_cons_zero, List.set_cons_succ]
    refine wpAnyH_ready (rs := [23]) (by kernel_rfl) (by decide) (AllReadyH.cons rfl (fun K hK => ?_) AllReadyH.nil)
    refine (if_pos rfl).mpr ?_
    go_wp2_with fail
    refine (unhide CK x1).mono ?_
    rintro e x2 ⟨rfl, bel⟩
    have N2 := hide (below_on (unhide N1) bel)
    refine hK.out _ _ (⟨hHeld.1.bel bel, hHeld.2.1.bel bel, cell_bel' hHeld.2.2 bel⟩) (fun hHeld => ?_)
    clear hK K bel
    refine take_yes 24 44 (.bool true) rfl rfl (by kernel_rfl) (by kernel_rfl) (by kernel_rfl) (fun _ _ _ h => h) rfl (by assumption) (by intro w9 hS9; obtain ⟨⟨t0, t1, t2, t3, t4, t5, t6, t7, t8⟩, ⟨q0, q1, q2⟩, q3⟩ := hS9; go_simp) ?_
    simp only [List.setIfInBounds_toArray, List.set_cons_zero, List.set_cons_succ]
    refine take_yes 25 4 (.bool true) rfl rfl (by kernel_rfl) (by kernel_rfl) (by kernel_rfl) (fun _ _ _ h => h) rfl (by assumption) (by intro w9 hS9; obtain ⟨⟨t0, t1, t2, t3, t4, t5, t6, t7, t8⟩, ⟨q0, q1, q2⟩, q3⟩ := hS9; go_simp) ?_
    simp only [List.setIfInBounds_toArray, List.set_cons_zero, List.set_cons_succ]
    refine wpAnyH_done (by kernel_rfl) ?_ _
    go_wp2
    go_ret
    exact ⟨rfl, unhide N2⟩
theorem at_bounds {s : SetV} (ha : allB s = true) (hu : ∀ t ∈ s.ts, U64 t.ecb ∧ U64 t.ucb) {k : Nat} (hk : k < s.ts.length) (h : hAt s k = 1) : workZ (s.ts.getD k task0).regs ≤ rAt s k ∧ rAt s k ≤ (s.ts.getD k task0).D := by
  unfold hAt at h
  cases hb : busyO s k (mostZ s k) with
  | none => rw [withH, hb] at h; exact absurd (show (3 : Int) = 1 from h) (by decide)
  | some L =>
    obtain ⟨h0, h1, -, h3⟩ := with_work ha hu hk hb
    rw [h3] at h
    unfold rAt
    refine ⟨by omega, ?_⟩
    by_cases c : withR s k (mostZ s k) ≤ (s.ts.getD k task0).D
    · exact c
    · rw [if_neg c] at h; exact absurd h (by decide)
theorem list_at {s : SetV} {k : Nat} (hk : k < s.ts.length) : ((List.range s.ts.length).map (rAt s)).getD k 0 = rAt s k := by
  simp [List.getD, hk]
set_option maxHeartbeats 3200000 in
theorem abounds_law (hJ : CJudge) (s : SetV) (w : World) (hs : SetIn w s) : Calls Try.prog 5 #[s.val] w fun e w' => e = .returned (.bool true) ∧ Below w.heap.size w w' := by
  have hlen := hs.len
  have CK := hide (fun w => jknown_any hJ w)
  have CM := hide (fun w h => rmay13_any s w h)
  have CA := hide (fun w h => rall_any s w h)
  have HIN := hide hs
  have HBX := hide (sbox_new w s 24)
  cases hb : allB s
  · rw [hb] at CA
    clear hb hs hJ
    obtain ⟨rl, ao, cap, ts⟩ := s
    go_enter Try.func5, Try.ntmps5
    rw [SetV.val]
    simp only
    go_wp2_with fail
    refine (unhide CM _ (set_bel (unhide HIN) ((Below.refl _ _).alloc (Nat.le_refl _) _))).mono ?_
    rintro e w1 ⟨o, rfl, ho, bel⟩
    have B1 := hide (bel_box (Below.refl _ _) bel)
    have X1 := hide ((unhide HBX).bel bel)
    obtain ⟨c0, c1⟩ := unhide X1
    clear bel ho
    cases o with
    | false =>
      go_wp2
      go_ret
      exact ⟨rfl, unhide B1⟩
    | true =>
      go_wp2_with fail
      refine (unhide CA _ (set_bel (unhide HIN) (unhide B1))).mono ?_
      rintro e w2 ⟨rfl, bel⟩
      have B2 := hide (below_on (unhide B1) bel)
      clear bel
      go_wp2
      go_ret
      exact ⟨rfl, unhide B2⟩
  · rw [hb] at CA
    have hu : ∀ t ∈ s.ts, U64 t.ecb ∧ U64 t.ucb := fun t ht => ⟨(hs.each t ht).ecb, (hs.each t ht).ucb⟩
    have CJ := hide (fun w h => hJ s w h hb)
    have HAT := hide (fun k hk h => at_bounds hb hu (k := k) hk h)
    obtain ⟨-, h8, -, hfit⟩ := all_fits hb hu
    have HW := hide (fun (k : Nat) (hk : k < s.ts.length) => is_regs8 (hfit k hk).is)
    have HROW := hide (fun (j : Nat) (hj : j < s.ts.length) => (by
      obtain ⟨b, off, e, h⟩ := set_task hs (fun e => by rw [e] at hj; simp at hj)
      exact ⟨b, off, e, h j hj⟩ : ∃ b off, s.ao = some ⟨b, off, none⟩ ∧ TaskAt w b (off + j * 9) (s.ts.getD j task0) ∧ TaskIn w (s.ts.getD j task0)))
    have HC : Hid ((judgeH s ≠ 1 ∧ judgeR s = [] ∧ 0 ≤ judgeT s ∧ judgeT s < s.ts.length) ∨ (judgeH s = 1 ∧ judgeT s = 0 ∧ judgeR s = (List.range s.ts.length).map (rAt s) ∧ ∀ k, k < s.ts.length → hAt s k = 1)) := hide (by
      cases hbad : badTo s s.ts.length with
      | none =>
        obtain ⟨e1, e2, e3⟩ := judge_ok hbad
        exact .inr ⟨e1, e2, e3, bad_none.1 hbad⟩
      | some j =>
        obtain ⟨e1, e2, e3⟩ := judge_bad hbad
        have := bad_some hbad
        exact .inl ⟨by rw [e1]; exact this.2, e3, by omega, by omega⟩)
    clear hb hs hJ hu hfit
    generalize judgeH s = jh at *
    generalize judgeT s = jt at *
    generalize judgeR s = jr at *
    obtain ⟨rl, ao, cap, ts⟩ := s
    simp only at hlen h8 HROW HW HC HAT
    go_enter Try.func5, Try.ntmps5
    rw [SetV.val]
    simp only
    go_wp2_with fail
    refine (unhide CM _ (set_bel (unhide HIN) ((Below.refl _ _).alloc (Nat.le_refl _) _))).mono ?_
    rintro e w1 ⟨o, rfl, ho, bel⟩
    have B1 := hide (bel_box (Below.refl _ _) bel)
    have X1 := hide ((unhide HBX).bel bel)
    obtain ⟨c0, c1⟩ := unhide X1
    clear bel ho
    cases o with
    | false =>
      go_wp2
      go_ret
      exact ⟨rfl, unhide B1⟩
    | true =>
      go_wp2_with fail
      refine (unhide CA _ (set_bel (unhide HIN) (unhide B1))).mono ?_
      rintro e w2 ⟨rfl, bel⟩
      have B2 := hide (below_on (unhide B1) bel)
      have X2 := hide ((unhide X1).bel bel)
      clear bel c0 c1
      obtain ⟨c0, c1⟩ := unhide X2
      go_wp2_with fail
      refine (unhide CJ _ (set_bel (unhide HIN) (unhide B2))).mono ?_
      rintro e w3 ⟨v, rfl, ⟨v1, v2, v3⟩, hvin, bel⟩
      have B3 := hide (below_on (unhide B2) bel)
      have X3 := hide ((unhide X2).bel bel)
      have HREG := hide hvin.regs
      clear c0 c1 bel hvin
      obtain ⟨vh, vt, vao, vcap, vr⟩ := v
      simp only at v1 v2 v3 HREG
      subst v1
      subst v2
      subst v3
      have hz3 := World.block_lt_of_cell? w3 _ (unhide X3).c0
      simp only at hz3
      have hne : w.heap.size ≠ w3.heap.size := Nat.ne_of_lt hz3
      have B4 := hide ((unhide B3).alloc (unhide B3).size (.cells #[.int .i64 vh, .int .i64 vt, .slice vao vr.length vcap] 28))
      have V4 := hide ((Below.refl w3.heap.size w3).alloc (Nat.le_refl _) (.cells #[.int .i64 vh, .int .i64 vt, .slice vao vr.length vcap] 28))
      have X4 := hide ((unhide X3).bel (unhide V4))
      obtain ⟨c0, c1⟩ := unhide X3
      rw [VerdV.val]
      simp only
      rcases unhide HC with ⟨q1, q2, q3, q4⟩ | ⟨q1, q2, q3, q4⟩
      · subst q2
        clear HC HAT HW HROW HREG
        go_wp2_with fail
        refine (unhide CK _).mono ?_
        rintro e w5 ⟨rfl, bel⟩
        have B5 := hide (below_on (unhide B4) bel)
        clear bel
        go_wp2
        go_ret
        exact ⟨rfl, unhide B5⟩
      · subst q1
        subst q2
        have HK := hide q4
        have hvl : vr.length = ts.length := by rw [q3]; simp
        have HVR : Hid (∀ k, k < ts.length → ∃ vb vo, vao = some ⟨vb, vo, none⟩ ∧ w3.cell? ⟨vb, vo + k, none⟩ = some (.int .i64 (rAt ⟨rl, ao, cap, ts⟩ k))) := hide (fun k hk => by
          obtain ⟨vb, vo, e, h⟩ := regs_cell (unhide HREG) k (by rw [hvl]; exact hk)
          rw [q3, list_at (s := ⟨rl, ao, cap, ts⟩) hk] at h
          exact ⟨vb, vo, e, h⟩)
        clear q3 q4 HC HREG
        generalize vr.length = n at *
        subst hvl
        have Z4 := hide (show (w3.alloc (.cells #[.int .i64 1, .int .i64 0, .slice vao ts.length vcap] 28)).cell? ⟨w3.heap.size, 2, none⟩ = some (.slice vao ts.length vcap) by simp)
        go_wp2
        clear c0 c1
        go_loopw [5] (fun i wr => ∃ k : Nat, k ≤ ts.length ∧ i = .int .i64 k ∧ Below (w3.alloc (.cells #[.int .i64 1, .int .i64 0, .slice vao ts.length vcap] 28)).heap.size (w3.alloc (.cells #[.int .i64 1, .int .i64 0, .slice vao ts.length vcap] 28)) wr) (fun i _ => ts.length - (intOf i).toNat)
        case atStart => exact ⟨0, Nat.zero_le _, rfl, Below.refl _ _⟩
        case round =>
          obtain ⟨k, hk, rfl, hbel⟩ := hrel
          have VB := hide hbel
          have B5 := hide (below_on (unhide B4) hbel)
          have X5 := hide ((unhide X4).bel hbel)
          have Z5 := hide (cell_bel' (unhide Z4) hbel)
          have z2 := unhide Z5
          obtain ⟨c0, c1⟩ := unhide X5
          clear hbel
          by_cases hlt : k < ts.length
          · obtain ⟨b, off, rfl, hrow, htin⟩ := unhide HROW k hlt
            obtain ⟨vb, vo, rfl, hvc⟩ := unhide HVR k hlt
            obtain ⟨hat1, hat2⟩ := unhide HAT k hlt (unhide HK k hlt)
            have hreg := unhide HW k hlt
            have R5 := hide (hrow.bel (unhide B5))
            have Q5 := hide (cell_bel' (cell_bel' hvc (unhide V4)) (unhide VB))
            have CW := hide (fun W (h : Below w.heap.size w W) => rwork_any (ts.getD k task0) W (regs_bel htin.regs h) hreg)
            clear hrow htin hvc hreg
            generalize rAt ⟨rl, some ⟨b, off, none⟩, cap, ts⟩ k = r at *
            generalize workZ (ts.getD k task0).regs = wk at *
            generalize ts.getD k task0 = t at *
            have hq1 : ¬ t.D < r := by omega
            have hq2 : ¬ r < wk := by omega
            have hk0 : (0 : Int) ≤ (k : Int) := by omega
            have hk1 : (k : Int) < (ts.length : Int) := by omega
            clear hat1 hat2
            have D0 := hide (unhide B5).drew
            have VD := hide (unhide VB).drew
            go_wp2_with fail
            refine wp_region_held_drew (S := (fun w9 => SBox w9 w.heap.size ⟨rl, some ⟨b, off, none⟩, cap, ts⟩ ∧ w9.cell? ⟨w3.heap.size, 2, none⟩ = some (.slice (some ⟨vb, vo, none⟩) ts.length vcap) ∧ w9.cell? ⟨vb, vo + k, none⟩ = some (.int .i64 r) ∧ TaskAt w9 b (off + k * 9) t)) (by kernel_rfl) (⟨(unhide X5).drew, cell_bel' (unhide Z5) (Below.refl _ _).drew, cell_bel' (unhide Q5) (Below.refl _ _).drew, (unhide R5).bel (Below.refl _ _).drew⟩) (fun hHeld => ?_)
            refine take_yes 0 63 (.pointer (some ⟨w3.heap.size, 2, none⟩)) rfl rfl (by kernel_rfl) (by kernel_rfl) (by kernel_rfl) (fun _ _ _ h => h) rfl (by assumption) (by intro w9 hS9; obtain ⟨⟨s0, s1⟩, s2, s3, ⟨t0, t1, t2, t3, t4, t5, t6, t7, t8⟩⟩ := hS9; go_simp) ?_
            simp only [List.setIfInBounds_toArray, List.set_cons_zero, List.set_cons_succ]
            refine take_yes 1 64 (.slice (some ⟨vb, vo, none⟩) ts.length vcap) rfl rfl (by kernel_rfl) (by kernel_rfl) (by kernel_rfl) (fun _ _ _ h => h) rfl (by assumption) (by intro w9 hS9; obtain ⟨⟨s0, s1⟩, s2, s3, ⟨t0, t1, t2, t3, t4, t5, t6, t7, t8⟩⟩ := hS9; go_simp) ?_
            simp only [List.setIfInBounds_toArray, List.set_cons_zero, List.set_cons_succ]
            refine take_yes 2 65 (.int .i64 k) rfl rfl (by kernel_rfl) (by kernel_rfl) (by kernel_rfl) (fun _ _ _ h => h) rfl (by assumption) (by intro w9 hS9; obtain ⟨⟨s0, s1⟩, s2, s3, ⟨t0, t1, t2, t3, t4, t5, t6, t7, t8⟩⟩ := hS9; go_simp) ?_
            simp only [List.setIfInBounds_toArray, List.set_cons_zero, List.set_cons_succ]
            refine take_yes 3 66 (.pointer (some ⟨vb, vo + k, none⟩)) rfl rfl (by kernel_rfl) (by kernel_rfl) (by kernel_rfl) (fun _ _ _ h => h) rfl (by assumption) (by intro w9 hS9; obtain ⟨⟨s0, s1⟩, s2, s3, ⟨t0, t1, t2, t3, t4, t5, t6, t7, t8⟩⟩ := hS9; go_simp) ?_
            simp only [List.setIfInBounds_toArray, List.set_cons_zero, List.set_cons_succ]
            refine take_yes 4 67 (.int .i64 r) rfl rfl (by kernel_rfl) (by kernel_rfl) (by kernel_rfl) (fun _ _ _ h => h) rfl (by assumption) (by intro w9 hS9; obtain ⟨⟨s0, s1⟩, s2, s3, ⟨t0, t1, t2, t3, t4, t5, t6, t7, t8⟩⟩ := hS9; go_simp) ?_
            simp only [List.setIfInBounds_toArray, List.set_cons_zero, List.set_cons_succ]
            refine take_yes 5 68 (.pointer (some ⟨w.heap.size, 1, none⟩)) rfl rfl (by kernel_rfl) (by kernel_rfl) (by kernel_rfl) (fun _ _ _ h => h) rfl (by assumption) (by intro w9 hS9; obtain ⟨⟨s0, s1⟩, s2, s3, ⟨t0, t1, t2, t3, t4, t5, t6, t7, t8⟩⟩ := hS9; go_simp) ?_
            simp only [List.setIfInBounds_toArray, List.set_cons_zero, List.set_cons_succ]
            refine take_yes 6 69 (.slice (some ⟨b, off, none⟩) ts.length cap) rfl rfl (by kernel_rfl) (by kernel_rfl) (by kernel_rfl) (fun _ _ _ h => h) rfl (by assumption) (by intro w9 hS9; obtain ⟨⟨s0, s1⟩, s2, s3, ⟨t0, t1, t2, t3, t4, t5, t6, t7, t8⟩⟩ := hS9; go_simp) ?_
            simp only [List.setIfInBounds_toArray, List.set_cons_zero, List.set_cons_succ]
            refine take_yes 7 70 (.int .i64 k) rfl rfl (by kernel_rfl) (by kernel_rfl) (by kernel_rfl) (fun _ _ _ h => h) rfl (by assumption) (by intro w9 hS9; obtain ⟨⟨s0, s1⟩, s2, s3, ⟨t0, t1, t2, t3, t4, t5, t6, t7, t8⟩⟩ := hS9; go_simp) ?_
            simp only [List.setIfInBounds_toArray, List.set_cons_zero, List.set_cons_succ]
            refine take_yes 8 71 (.pointer (some ⟨b, off + k * 9, none⟩)) rfl rfl (by kernel_rfl) (by kernel_rfl) (by kernel_rfl) (fun _ _ _ h => h) rfl (by assumption) (by intro w9 hS9; obtain ⟨⟨s0, s1⟩, s2, s3, ⟨t0, t1, t2, t3, t4, t5, t6, t7, t8⟩⟩ := hS9; go_simp) ?_
            simp only [List.setIfInBounds_toArray, List.set_cons_zero, List.set_cons_succ]
            refine take_yes 9 72 (.pointer (some ⟨b, off + k * 9 + 2, none⟩)) rfl rfl (by kernel_rfl) (by kernel_rfl) (by kernel_rfl) (fun _ _ _ h => h) rfl (by assumption) (by intro w9 hS9; obtain ⟨⟨s0, s1⟩, s2, s3, ⟨t0, t1, t2, t3, t4, t5, t6, t7, t8⟩⟩ := hS9; go_simp) ?_
            simp only [List.setIfInBounds_toArray, List.set_cons_zero, List.set_cons_succ]
            refine take_yes 10 73 (.int .i64 t.D) rfl rfl (by kernel_rfl) (by kernel_rfl) (by kernel_rfl) (fun _ _ _ h => h) rfl (by assumption) (by intro w9 hS9; obtain ⟨⟨s0, s1⟩, s2, s3, ⟨t0, t1, t2, t3, t4, t5, t6, t7, t8⟩⟩ := hS9; go_simp) ?_
            simp only [List.setIfInBounds_toArray, List.set_cons_zero, List.set_cons_succ]
            refine take_yes 11 74 (.bool false) rfl rfl (by kernel_rfl) (by kernel_rfl) (by kernel_rfl) (fun _ _ _ h => h) rfl (by assumption) (by intro w9 hS9; obtain ⟨⟨s0, s1⟩, s2, s3, ⟨t0, t1, t2, t3, t4, t5, t6, t7, t8⟩⟩ := hS9; go_simp) ?_
            simp only [List.setIfInBounds_toArray, List.set_cons_zero, List.set_cons_succ]
            refine take_yes 12 75 (.bool false) rfl rfl (by kernel_rfl) (by kernel_rfl) (by kernel_rfl) (fun _ _ _ h => h) rfl (by assumption) (by intro w9 hS9; obtain ⟨⟨s0, s1⟩, s2, s3, ⟨t0, t1, t2, t3, t4, t5, t6, t7, t8⟩⟩ := hS9; go_simp) ?_
            simp only [List.setIfInBounds_toArray, List.set_cons_zero, List.set_cons_succ]
            refine take_yes 13 76 (.pointer (some ⟨w3.heap.size, 2, none⟩)) rfl rfl (by kernel_rfl) (by kernel_rfl) (by kernel_rfl) (fun _ _ _ h => h) rfl (by assumption) (by intro w9 hS9; obtain ⟨⟨s0, s1⟩, s2, s3, ⟨t0, t1, t2, t3, t4, t5, t6, t7, t8⟩⟩ := hS9; go_simp) ?_
            simp only [List.setIfInBounds_toArray, List.set_cons_zero, List.set_cons_succ]
            refine take_yes 14 77 (.slice (some ⟨vb, vo, none⟩) ts.length vcap) rfl rfl (by kernel_rfl) (by kernel_rfl) (by kernel_rfl) (fun _ _ _ h => h) rfl (by assumption) (by intro w9 hS9; obtain ⟨⟨s0, s1⟩, s2, s3, ⟨t0, t1, t2, t3, t4, t5, t6, t7, t8⟩⟩ := hS9; go_simp) ?_
            simp only [List.setIfInBounds_toArray, List.set_cons_zero, List.set_cons_succ]
            refine take_yes 15 78 (.int .i64 k) rfl rfl (by kernel_rfl) (by kernel_rfl) (by kernel_rfl) (fun _ _ _ h => h) rfl (by assumption) (by intro w9 hS9; obtain ⟨⟨s0, s1⟩, s2, s3, ⟨t0, t1, t2, t3, t4, t5, t6, t7, t8⟩⟩ := hS9; go_simp) ?_
            simp only [List.setIfInBounds_toArray, List.set_cons_zero, List.set_cons_succ]
            refine take_yes 16 79 (.pointer (some ⟨vb, vo + k, none⟩)) rfl rfl (by kernel_rfl) (by kernel_rfl) (by kernel_rfl) (fun _ _ _ h => h) rfl (by assumption) (by intro w9 hS9; obtain ⟨⟨s0, s1⟩, s2, s3, ⟨t0, t1, t2, t3, t4, t5, t6, t7, t8⟩⟩ := hS9; go_simp) ?_
            simp only [List.setIfInBounds_toArray, List.set_cons_zero, List.set_cons_succ]
            refine take_yes 17 80 (.int .i64 r) rfl rfl (by kernel_rfl) (by kernel_rfl) (by kernel_rfl) (fun _ _ _ h => h) rfl (by assumption) (by intro w9 hS9; obtain ⟨⟨s0, s1⟩, s2, s3, ⟨t0, t1, t2, t3, t4, t5, t6, t7, t8⟩⟩ := hS9; go_simp) ?_
            simp only [List.setIfInBounds_toArray, List.set_cons_zero, List.set_cons_succ]
            refine take_yes 18 81 (.pointer (some ⟨w.heap.size, 1, none⟩)) rfl rfl (by kernel_rfl) (by kernel_rfl) (by kernel_rfl) (fun _ _ _ h => h) rfl (by assumption) (by intro w9 hS9; obtain ⟨⟨s0, s1⟩, s2, s3, ⟨t0, t1, t2, t3, t4, t5, t6, t7, t8⟩⟩ := hS9; go_simp) ?_
            simp only [List.setIfInBounds_toArray, List.set_cons_zero, List.set_cons_succ]
            refine take_yes 19 82 (.slice (some ⟨b, off, none⟩) ts.length cap) rfl rfl (by kernel_rfl) (by kernel_rfl) (by kernel_rfl) (fun _ _ _ h => h) rfl (by assumption) (by intro w9 hS9; obtain ⟨⟨s0, s1⟩, s2, s3, ⟨t0, t1, t2, t3, t4, t5, t6, t7, t8⟩⟩ := hS9; go_simp) ?_
            simp only [List.setIfInBounds_toArray, List.set_cons_zero, List.set_cons_succ]
            refine take_yes 20 83 (.int .i64 k) rfl rfl (by kernel_rfl) (by kernel_rfl) (by kernel_rfl) (fun _ _ _ h => h) rfl (by assumption) (by intro w9 hS9; obtain ⟨⟨s0, s1⟩, s2, s3, ⟨t0, t1, t2, t3, t4, t5, t6, t7, t8⟩⟩ := hS9; go_simp) ?_
            simp only [List.setIfInBounds_toArray, List.set_cons_zero, List.set_cons_succ]
            refine take_yes 21 84 (.pointer (some ⟨b, off + k * 9, none⟩)) rfl rfl (by kernel_rfl) (by kernel_rfl) (by kernel_rfl) (fun _ _ _ h => h) rfl (by assumption) (by intro w9 hS9; obtain ⟨⟨s0, s1⟩, s2, s3, ⟨t0, t1, t2, t3, t4, t5, t6, t7, t8⟩⟩ := hS9; go_simp) ?_
            simp only [List.setIfInBounds_toArray, List.set_cons_zero, List.set_cons_succ]
            refine take_yes 22 85 (.agg #[.string t.name, .int .i64 t.T, .int .i64 t.D, .int .i64 t.mode, .int .i64 t.Q, .int .i64 t.theta, .slice t.ao t.regs.length t.cap, .int .u64 t.ecb, .int .u64 t.ucb]) rfl rfl (by kernel_rfl) (by kernel_rfl) (by kernel_rfl) (fun _ _ _ h => h) rfl (by assumption) (by intro w9 hS9; obtain ⟨⟨s0, s1⟩, s2, s3, ⟨t0, t1, t2, t3, t4, t5, t6, t7, t8⟩⟩ := hS9; go_simp) ?_
            simp only [List.setIfInBounds_toArray, List.set_cons_zero, List.set_cons_succ]
            refine wpAnyH_ready (rs := [23]) (by kernel_rfl) (by decide) (AllReadyH.cons rfl (fun K hK => ?_) AllReadyH.nil)
            refine (if_pos rfl).mpr ?_
            go_wp2_with fail
            refine (unhide CW wr.drew (unhide D0)).mono ?_
            rintro e x1 ⟨rfl, bel⟩
            have N1 := hide (below_on (unhide D0) bel)
            have V1 := hide (below_on (unhide VD) bel)
            refine hK.out _ _ (⟨hHeld.1.bel bel, cell_bel' hHeld.2.1 bel, cell_bel' hHeld.2.2.1 bel, hHeld.2.2.2.bel bel⟩) (fun hHeld => ?_)
            clear hK K bel
            refine take_yes 24 87 (.bool false) rfl rfl (by kernel_rfl) (by kernel_rfl) (by kernel_rfl) (fun _ _ _ h => h) rfl (by assumption) (by intro w9 hS9; obtain ⟨⟨s0, s1⟩, s2, s3, ⟨t0, t1, t2, t3, t4, t5, t6, t7, t8⟩⟩ := hS9; go_simp) ?_
            simp only [List.setIfInBounds_toArray, List.set_cons_zero, List.set_cons_succ]
            refine take_yes 25 88 (.bool false) rfl rfl (by kernel_rfl) (by kernel_rfl) (by kernel_rfl) (fun _ _ _ h => h) rfl (by assumption) (by intro w9 hS9; obtain ⟨⟨s0, s1⟩, s2, s3, ⟨t0, t1, t2, t3, t4, t5, t6, t7, t8⟩⟩ := hS9; go_simp) ?_
            simp only [List.setIfInBounds_toArray, List.set_cons_zero, List.set_cons_succ]
            refine wpAnyH_done (by kernel_rfl) ?_ _
            go_wp2
            go_roundw
            case rel => exact ⟨k + 1, by omega, by go_num, unhide V1⟩
            case measure => simp [intOf]; omega
          · have e : k = ts.length := by omega
            subst e
            go_wp2_with fail
            refine (unhide CK _).mono ?_
            rintro e w6 ⟨rfl, bel⟩
            have B6 := hide (below_on (unhide B5) bel)
            clear bel
            go_wp2
            go_ret
            exact ⟨rfl, unhide B6⟩
end Go.Proofs.Ytcenibledkabpaa.Lex
