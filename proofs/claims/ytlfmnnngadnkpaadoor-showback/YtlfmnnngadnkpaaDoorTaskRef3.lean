/- What the references of chapter 5 answer: two rows of numbers, two sets. -/
import Derived.Test.YtlfmnnngadnkpaaDoorTaskRef2
namespace Go.Proofs.YtlfmnnngadnkpaaDoor.Lex
open Go.ChangeShapes Go.WideShapes Go.RowKit

theorem take_same {l l' : List Int} {k : Nat} (h : k < l.length) (h' : k < l'.length) (ht : l.take k = l'.take k) (he : l.getD k 0 = l'.getD k 0) : l.take (k + 1) = l'.take (k + 1) := by
  rw [List.take_add_one, List.take_add_one, ht, List.getElem?_eq_getElem h, List.getElem?_eq_getElem h']
  rw [List.getD_eq_getElem?_getD, List.getD_eq_getElem?_getD, List.getElem?_eq_getElem h, List.getElem?_eq_getElem h'] at he
  have e : l[k] = l'[k] := by simpa using he
  rw [e]
theorem beq_not {l l' : List Int} (h : l ≠ l') : (l == l') = false := beq_eq_false_iff_ne.2 h
set_option maxHeartbeats 800000 in
theorem rnums_any (ao ao' : Option Addr) (cap cap' : Nat) (l l' : List Int) (w : World) (h : RegsIn w ao l) (h' : RegsIn w ao' l') (hl : l.length ≤ 9223372036854775807) :
    Calls Tryd.prog 31 #[.slice ao l.length cap, .slice ao' l'.length cap'] w fun e w' => e = .returned (.bool (l == l')) ∧ Below w.heap.size w w' := by
  by_cases hne : l.length = l'.length
  · have hb : ((l.length : Int) != l'.length) = false := by rw [hne]; simp
    generalize hans : (l == l') = ans
    have HQ := hide hans
    clear hans
    have H := hide h
    have H' := hide h'
    clear h h'
    generalize hn : l.length = n at *
    generalize hn' : l'.length = n' at *
    subst hne
    go_enter Tryd.func31, Tryd.ntmps31
    go_wp2
    go_loopw [5] (fun i wr => ∃ k : Nat, k ≤ n ∧ i = .int .i64 k ∧ l.take k = l'.take k ∧ ∃ m, wr = w.drewN m) (fun i _ => n - (intOf i).toNat)
    case atStart => exact ⟨0, Nat.zero_le _, rfl, rfl, 0, rfl⟩
    case round =>
      obtain ⟨k, hk, rfl, hpre, m, rfl⟩ := hrel
      by_cases hlt : k < n
      · obtain ⟨b, off, rfl, hc⟩ := unhide H (fun e => by rw [e] at hn; simp at hn; omega)
        obtain ⟨b', off', rfl, hc'⟩ := unhide H' (fun e => by rw [e] at hn'; simp at hn'; omega)
        have c := hc k (by omega)
        have c' := hc' k (by omega)
        clear hc hc'
        by_cases he : l.getD k 0 = l'.getD k 0
        · have HP := hide (take_same (by omega) (by omega) hpre he)
          have hx : (l.getD k 0 != l'.getD k 0) = false := by rw [he]; simp
          clear hpre he hn hn'
          generalize l.getD k 0 = x at c hx
          generalize l'.getD k 0 = y at c' hx
          go_wp2
          go_quiet (fail)
          go_wp2
          go_roundw
          case rel => exact ⟨k + 1, by omega, by go_num, unhide HP, _, rfl⟩
          case measure => simp [intOf]; omega
        · have HF : Hid (ans = false) := by show ans = false; rw [← unhide HQ]; exact beq_not (fun e => he (by rw [e]))
          have hx : (l.getD k 0 != l'.getD k 0) = true := by simpa using he
          clear hpre he hn hn'
          generalize l.getD k 0 = x at c hx
          generalize l'.getD k 0 = y at c' hx
          go_wp2
          go_quiet (fail)
          go_wp2
          go_ret
          exact ⟨ret_bool (unhide HF).symm, below_drewN (below_drewN (Below.refl _ _) _) _⟩
      · have HF : Hid (ans = true) := by
          show ans = true
          rw [← unhide HQ]
          rw [List.take_of_length_le (by omega), List.take_of_length_le (by omega)] at hpre
          rw [hpre]; simp
        clear hpre hn hn'
        go_wp2
        go_ret
        exact ⟨ret_bool (unhide HF).symm, below_drewN (Below.refl _ _) _⟩
  · have hf : (l == l') = false := beq_not (fun e => hne (by rw [e]))
    have hb : ((l.length : Int) != l'.length) = true := by simp; omega
    rw [hf]
    clear hf h h'
    go_enter Tryd.func31, Tryd.ntmps31
    go_wp2
    go_ret
    exact ⟨rfl, Below.refl _ _⟩

/- two sets -/
theorem same_not {p : Nat → Bool} {n : Nat} {a b : Bool} (h : a = false ∨ b = false ∨ ∃ k, k < n ∧ p k = false) : (a && (b && (List.range n).all p)) = false := by
  rcases h with h | h | ⟨k, hk, h⟩
  · rw [h]; rfl
  · rw [h]; simp
  · rw [range_not hk h]; simp
theorem same_all {name name' : ByteArray} {T D mode Q theta T' D' mode' Q' theta' : Int} {ao ao' : Option Addr} {cap cap' : Nat} {ecb ucb ecb' ucb' : Int} {l l' : List Int} (h0 : name.toList = name'.toList) (h1 : T = T') (h2 : D = D') (h3 : mode = mode') (h4 : Q = Q') (h5 : theta = theta') (h6 : ecb = ecb') (h7 : ucb = ucb') (h8 : (!l == l') = false) :
    sameT ⟨name, T, D, mode, Q, theta, ao, cap, ecb, ucb, l⟩ ⟨name', T', D', mode', Q', theta', ao', cap', ecb', ucb', l'⟩ = true := by
  rw [ByteArray.toList_eq, ByteArray.toList_eq] at h0
  have h8' : (l == l') = true := by simpa using h8
  simp only [sameT, h0, h1, h2, h3, h4, h5, h6, h7, h8', beq_self_eq_true, Bool.and_self]
theorem same_part {name name' : ByteArray} {T D mode Q theta T' D' mode' Q' theta' : Int} {ao ao' : Option Addr} {cap cap' : Nat} {ecb ucb ecb' ucb' : Int} {l l' : List Int} (h : ¬ name.toList = name'.toList ∨ ¬ T = T' ∨ ¬ D = D' ∨ ¬ mode = mode' ∨ ¬ Q = Q' ∨ ¬ theta = theta' ∨ ¬ ecb = ecb' ∨ ¬ ucb = ucb' ∨ (!l == l') = true) :
    sameT ⟨name, T, D, mode, Q, theta, ao, cap, ecb, ucb, l⟩ ⟨name', T', D', mode', Q', theta', ao', cap', ecb', ucb', l'⟩ = false := by
  rw [ByteArray.toList_eq, ByteArray.toList_eq] at h
  rw [Bool.eq_false_iff]
  intro e
  simp only [sameT, Bool.and_eq_true, beq_iff_eq] at e
  obtain ⟨h0, h1, h2, h3, h4, h5, h6, h7, h8⟩ := e
  rcases h with h | h | h | h | h | h | h | h | h
  · exact h h0
  · exact h h1
  · exact h h2
  · exact h h3
  · exact h h4
  · exact h h5
  · exact h h6
  · exact h h7
  · simp [h8] at h
set_option maxHeartbeats 3200000 in
set_option maxRecDepth 100000 in
theorem rsame_any (x y : SetV) (w : World) (hx : SetIn w x) (hy : SetIn w y) : Calls Tryd.prog 14 #[x.val, y.val] w fun e w' => e = .returned (.bool (sameB x y)) ∧ Below w.heap.size w w' := by
  obtain ⟨rl, ao, cap, ts⟩ := x
  obtain ⟨rl', ao', cap', ts'⟩ := y
  generalize hans : sameB ⟨rl, ao, cap, ts⟩ ⟨rl', ao', cap', ts'⟩ = ans
  have hans' : (rl == rl' && (ts.length == ts'.length && (List.range ts.length).all fun i => sameT (ts.getD i task0) (ts'.getD i task0))) = ans := hans
  have HQ := hide hans'
  clear hans hans'
  have hlen := hx.len
  simp only at hlen
  by_cases hr : rl = rl'
  · by_cases hn : ts.length = ts'.length
    · have hr' : (rl != rl') = false := by rw [hr]; simp
      have hn' : ((ts.length : Int) != ts'.length) = false := by rw [hn]; simp
      by_cases he : ts = []
      · subst he
        have he' : ts' = [] := List.eq_nil_of_length_eq_zero hn.symm
        subst he'
        have HF : Hid (ans = true) := by show ans = true; rw [← unhide HQ, hr]; simp
        clear hx hy hn hr
        go_enter Tryd.func14, Tryd.ntmps14
        rw [SetV.val, SetV.val]
        simp only [List.length_nil]
        go_wp2
        refine wp_loop_rounds 1 ?_
        rw [rounds_succ]
        go_wp2
        go_ret
        exact ⟨ret_bool (unhide HF).symm, ((Below.refl _ _).alloc (Nat.le_refl _) _).alloc (by simp) _⟩
      · obtain ⟨b, off, hao, ht⟩ := set_task hx he
        obtain ⟨b', off', hao', ht'⟩ := set_task hy (fun e => he (by simp only at e; rw [e] at hn; exact List.eq_nil_of_length_eq_zero hn))
        simp only at hao ht hao' ht'
        subst hao
        subst hao'
        have HT := hide ht
        have HT' := hide ht'
        have HRL := hide hr
        clear ht ht' hx hy he hr
        go_enter Tryd.func14, Tryd.ntmps14
        rw [SetV.val, SetV.val]
        simp only
        generalize hL : ts.length = n at *
        generalize hL' : ts'.length = n' at *
        subst hn
        clear hL hL'
        go_wp2
        go_loopw [5] (fun i wr => ∃ k : Nat, k ≤ n ∧ i = .int .i64 k ∧ ((List.range k).all fun i => sameT (ts.getD i task0) (ts'.getD i task0)) = true ∧ Below ((w.alloc (.cells #[.int .i64 rl, .slice (some ⟨b, off, none⟩) n cap] 24)).alloc (.cells #[.int .i64 rl', .slice (some ⟨b', off', none⟩) n cap'] 24)).heap.size ((w.alloc (.cells #[.int .i64 rl, .slice (some ⟨b, off, none⟩) n cap] 24)).alloc (.cells #[.int .i64 rl', .slice (some ⟨b', off', none⟩) n cap'] 24)) wr) (fun i _ => n - (intOf i).toNat)
        case atStart => exact ⟨0, Nat.zero_le _, rfl, rfl, Below.refl _ _⟩
        case round =>
          obtain ⟨k, hk, rfl, hpre, hbel⟩ := hrel
          have e1 := cell_bel' (a := ⟨w.heap.size, 1, none⟩) (u := .slice (some ⟨b, off, none⟩) n cap) (by simp) hbel
          have f1 := cell_bel' (a := ⟨w.heap.size + 1, 1, none⟩) (u := .slice (some ⟨b', off', none⟩) n cap') (by simp) hbel
          have B := hide hbel
          have B' := hide ((((Below.refl _ w).alloc (Nat.le_refl _) _).alloc (by simp) _).trans (hbel.mono (by simp; omega)))
          clear hbel
          by_cases hlt : k < n
          · obtain ⟨t0, t1, t2, t3, t4, t5, t6, t7, t8⟩ := (unhide HT k hlt).1.bel (unhide B')
            obtain ⟨u0, u1, u2, u3, u4, u5, u6, u7, u8⟩ := (unhide HT' k hlt).1.bel (unhide B')
            have hin := hide ((unhide HT k hlt).2)
            have hin' := hide ((unhide HT' k hlt).2)
            generalize hT : ts.getD k task0 = t at t0 t1 t2 t3 t4 t5 t6 t7 t8 hin
            generalize hT' : ts'.getD k task0 = t' at u0 u1 u2 u3 u4 u5 u6 u7 u8 hin'
            obtain ⟨name, T, D, mode, Q, theta, ao, tcap, ecb, ucb, l⟩ := t
            obtain ⟨name', T', D', mode', Q', theta', ao', tcap', ecb', ucb', l'⟩ := t'
            simp only at t0 t1 t2 t3 t4 t5 t6 t7 t8 u0 u1 u2 u3 u4 u5 u6 u7 u8
            have HX := hide hT
            have HX' := hide hT'
            clear hT hT'
            have hb0 := World.block_lt_of_cell? wr _ t0
            have hb1 := World.block_lt_of_cell? wr _ u0
            have hb2 := World.block_lt_of_cell? wr _ e1
            have hb3 := World.block_lt_of_cell? wr _ f1
            have HNO : Hid (sameT ⟨name, T, D, mode, Q, theta, ao, tcap, ecb, ucb, l⟩ ⟨name', T', D', mode', Q', theta', ao', tcap', ecb', ucb', l'⟩ = false → ans = false) := fun h => by
              rw [← unhide HQ]; exact same_not (.inr (.inr ⟨k, hlt, by rw [unhide HX, unhide HX']; exact h⟩))
            have HYES : Hid (sameT ⟨name, T, D, mode, Q, theta, ao, tcap, ecb, ucb, l⟩ ⟨name', T', D', mode', Q', theta', ao', tcap', ecb', ucb', l'⟩ = true → ((List.range (k + 1)).all fun i => sameT (ts.getD i task0) (ts'.getD i task0)) = true) := fun h =>
              range_next hpre (by rw [unhide HX, unhide HX']; exact h)
            clear hpre
            go_wp2
            go_region_held3 (fun w' => w'.cell? ⟨w.heap.size, 1, none⟩ = some (.slice (some ⟨b, off, none⟩) n cap) ∧ w'.cell? ⟨w.heap.size + 1, 1, none⟩ = some (.slice (some ⟨b', off', none⟩) n cap')
              ∧ w'.cell? ⟨b, off + k * 9, none⟩ = some (.string name) ∧ w'.cell? ⟨b, off + k * 9 + 1, none⟩ = some (.int .i64 T) ∧ w'.cell? ⟨b, off + k * 9 + 2, none⟩ = some (.int .i64 D) ∧ w'.cell? ⟨b, off + k * 9 + 3, none⟩ = some (.int .i64 mode) ∧ w'.cell? ⟨b, off + k * 9 + 4, none⟩ = some (.int .i64 Q) ∧ w'.cell? ⟨b, off + k * 9 + 5, none⟩ = some (.int .i64 theta) ∧ w'.cell? ⟨b, off + k * 9 + 6, none⟩ = some (.slice ao l.length tcap) ∧ w'.cell? ⟨b, off + k * 9 + 7, none⟩ = some (.int .u64 ecb) ∧ w'.cell? ⟨b, off + k * 9 + 8, none⟩ = some (.int .u64 ucb)
              ∧ w'.cell? ⟨b', off' + k * 9, none⟩ = some (.string name') ∧ w'.cell? ⟨b', off' + k * 9 + 1, none⟩ = some (.int .i64 T') ∧ w'.cell? ⟨b', off' + k * 9 + 2, none⟩ = some (.int .i64 D') ∧ w'.cell? ⟨b', off' + k * 9 + 3, none⟩ = some (.int .i64 mode') ∧ w'.cell? ⟨b', off' + k * 9 + 4, none⟩ = some (.int .i64 Q') ∧ w'.cell? ⟨b', off' + k * 9 + 5, none⟩ = some (.int .i64 theta') ∧ w'.cell? ⟨b', off' + k * 9 + 6, none⟩ = some (.slice ao' l'.length tcap') ∧ w'.cell? ⟨b', off' + k * 9 + 7, none⟩ = some (.int .u64 ecb') ∧ w'.cell? ⟨b', off' + k * 9 + 8, none⟩ = some (.int .u64 ucb')) (go_keep) (fail)
            all_goals rename_i hHeld
            all_goals clear hHeld t0 t1 t2 t3 t4 t5 t6 t7 t8 u0 u1 u2 u3 u4 u5 u6 u7 u8 e1 f1 hb0 hb1 hb2 hb3
            all_goals go_wp2_with (go_at_call 31; refine (rnums_any ao ao' tcap tcap' l l' _ (regs_bel (unhide hin).regs ((((unhide B').alloc (unhide B').size _).alloc (by have := (unhide B').size; simp; omega) _).drew)) (regs_bel (unhide hin').regs ((((unhide B').alloc (unhide B').size _).alloc (by have := (unhide B').size; simp; omega) _).drew)) (Nat.le_trans (unhide hin).len (by decide))).mono ?_; rintro e w9 ⟨rfl, bel9⟩)
            all_goals first
              | (go_ret; refine ⟨ret_bool (unhide HNO (same_part (by first | exact Or.inl (by assumption) | exact Or.inr (Or.inl (by assumption)) | exact Or.inr (Or.inr (Or.inl (by assumption))) | exact Or.inr (Or.inr (Or.inr (Or.inl (by assumption)))) | exact Or.inr (Or.inr (Or.inr (Or.inr (Or.inl (by assumption))))) | exact Or.inr (Or.inr (Or.inr (Or.inr (Or.inr (Or.inl (by assumption)))))) | exact Or.inr (Or.inr (Or.inr (Or.inr (Or.inr (Or.inr (Or.inl (by assumption))))))) | exact Or.inr (Or.inr (Or.inr (Or.inr (Or.inr (Or.inr (Or.inr (Or.inl (by assumption)))))))) | exact Or.inr (Or.inr (Or.inr (Or.inr (Or.inr (Or.inr (Or.inr (Or.inr (by assumption))))))))))).symm, ?_⟩; first | exact (((unhide B').alloc (unhide B').size _).alloc (by have := (unhide B').size; simp; omega) _).drew | exact ((((unhide B').alloc (unhide B').size _).alloc (by have := (unhide B').size; simp; omega) _).drew).trans (bel9.mono (by have := (unhide B').size; simp; omega)))
              | (have HY := hide (unhide HYES (same_all (by assumption) (by assumption) (by assumption) (by assumption) (by assumption) (by assumption) (by assumption) (by assumption) (by assumption)))
                 have BN := hide ((((unhide B).alloc (by have := (unhide B).size; simp at this ⊢; omega) _).alloc (by have := (unhide B).size; simp at this ⊢; omega) _).drew.trans (bel9.mono (by have := (unhide B).size; simp at this ⊢; omega)))
                 clear bel9
                 go_roundw
                 case rel => exact ⟨k + 1, by omega, by go_num, unhide HY, unhide BN⟩
                 case measure => simp [intOf]; omega)
          · have e : k = n := by omega
            subst e
            have HF : Hid (ans = true) := by show ans = true; rw [← unhide HQ, hpre, unhide HRL]; simp
            clear hpre
            go_wp2
            go_ret
            exact ⟨ret_bool (unhide HF).symm, unhide B'⟩
    · have HF : Hid (ans = false) := by show ans = false; rw [← unhide HQ]; exact same_not (.inr (.inl (by simpa using hn)))
      have hr' : (rl != rl') = false := by rw [hr]; simp
      have hn' : ((ts.length : Int) != ts'.length) = true := by simp; omega
      clear hx hy
      go_enter Tryd.func14, Tryd.ntmps14
      rw [SetV.val, SetV.val]
      simp only
      go_wp2
      go_ret
      exact ⟨ret_bool (unhide HF).symm, ((Below.refl _ _).alloc (Nat.le_refl _) _).alloc (by simp) _⟩
  · have HF : Hid (ans = false) := by show ans = false; rw [← unhide HQ]; exact same_not (.inl (by simpa using hr))
    have hr' : (rl != rl') = true := by simpa using hr
    clear hx hy hr
    go_enter Tryd.func14, Tryd.ntmps14
    rw [SetV.val, SetV.val]
    simp only
    go_wp2
    go_ret
    exact ⟨ret_bool (unhide HF).symm, ((Below.refl _ _).alloc (Nat.le_refl _) _).alloc (by simp) _⟩
end Go.Proofs.YtlfmnnngadnkpaaDoor.Lex
