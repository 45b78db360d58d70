/- What the references of chapter 7 answer: a set's text. -/
import Derived.Test.YtlfmnnngadnkpaaDoorParseRef2
namespace Go.Proofs.YtlfmnnngadnkpaaDoor.Lex
open Go.ChangeShapes Go.WideShapes Go.RowKit

theorem task_len {t : TaskV} {p : Int} (hf : Fits t p) (hp : p ≤ 10000) : (taskT t).length ≤ 1200 := by
  obtain ⟨hn, -, hr8, hre, ⟨hD, hDT, hT⟩, hm⟩ := fits_parts hf.is
  have h1 := name_short hn
  have h2 := digs_short (n := t.T.toNat) (by omega)
  have h3 := digs_short (n := t.D.toNat) (by omega)
  have h4 := setsT_len wEcb t.ecb.toNat (by decide)
  have h5 := setsT_len wUcb t.ucb.toNat (by decide)
  have h6 := rowT_len (t.regs.map Int.toNat) (fun n hn => by obtain ⟨m, hm, rfl⟩ := List.mem_map.1 hn; have := hre m hm; omega)
  rw [List.length_map] at h6
  have h7 : (modeT t).length ≤ 20 := by
    rw [modeT]
    simp only [modeB] at hm
    split
    · decide
    · rename_i m0
      rw [if_neg m0] at hm
      split
      · rename_i m1
        rw [if_pos m1] at hm
        simp only [inB, Bool.and_eq_true, decide_eq_true_eq] at hm
        have := digs_short (n := t.Q.toNat) (by omega)
        simp [wFloat]; omega
      · rename_i m1
        rw [if_neg m1] at hm
        split at hm
        · simp only [Bool.and_eq_true, decide_eq_true_eq] at hm
          have := digs_short (n := t.theta.toNat) (by omega)
          simp [wThresh]; omega
        · cases hm
  rw [taskT]
  simp only [List.length_append, List.length_cons, List.length_nil, wTask, wPeriod, wDeadline, wRegions]
  omega
def partT (s : SetV) (k : Nat) : List UInt8 := wReload ++ 32 :: digs s.reload.toNat ++ [59, 10] ++ (s.ts.take k).flatMap fun t => taskT t ++ [10]
theorem part_zero (s : SetV) : partT s 0 = wReload ++ [32] ++ digs s.reload.toNat ++ [59, 10] := by simp [partT]
theorem part_next (s : SetV) (k : Nat) (h : k < s.ts.length) : partT s (k + 1) = partT s k ++ taskT (s.ts.getD k task0) ++ [10] := by
  rw [partT, partT, List.take_add_one, List.getElem?_eq_getElem h, List.flatMap_append]
  simp [List.getD, h]
theorem part_all (s : SetV) (k : Nat) (h : s.ts.length ≤ k) : partT s k = textS s := by
  rw [partT, textS, List.take_of_length_le h]
theorem part_len {s : SetV} (hr : 0 ≤ s.reload ∧ s.reload ≤ 10000) (hfit : ∀ j, j < s.ts.length → Fits (s.ts.getD j task0) (j : Int)) (h8 : s.ts.length ≤ 8) : ∀ k, k ≤ s.ts.length → (partT s k).length ≤ 14 + k * 1201 := by
  intro k
  induction k with
  | zero =>
    intro _
    have := digs_short (n := s.reload.toNat) (by omega)
    rw [part_zero]; simp [wReload]; omega
  | succ k ih =>
    intro hk
    have h1 := ih (by omega)
    have h2 := task_len (hfit k (by omega)) (by omega)
    rw [part_next s k (by omega), List.length_append, List.length_append, List.length_singleton]
    omega
set_option maxHeartbeats 6400000 in
theorem rtext_any (s : SetV) (w : World) (hs : SetIn w s) (hall : allB s = true) : Calls Tryd.prog 11 #[s.val] w fun e w' => e = .returned (.string (mkS (textS s))) ∧ Below w.heap.size w w' := by
  obtain ⟨⟨hr0, hr1⟩, h8, -, hfit⟩ := all_fits hall (fun t ht => ⟨(hs.each t ht).ecb, (hs.each t ht).ucb⟩)
  have hlen := part_len ⟨hr0, hr1⟩ hfit h8
  have hrn : ((s.reload.toNat : Nat) : Int) = s.reload := by omega
  have CR := hide (rdigits_any s.reload.toNat (by omega))
  rw [hrn] at CR
  have zR : (mkS (digs s.reload.toNat)).size ≤ 5 := by rw [mkS_long]; exact digs_short (by omega)
  have HJ : Hid ((⟨#[114, 101, 108, 111, 97, 100, 32]⟩ : ByteArray) ++ mkS (digs s.reload.toNat) ++ ⟨#[59, 10]⟩ = mkS (partT s 0)) := by
    show mkS (wReload ++ [32]) ++ mkS _ ++ mkS [59, 10] = _
    rw [part_zero, mkS_two, mkS_two]
  have HN := hide (fun k => part_next s k)
  have HA := hide (part_all s)
  have HL := hide hlen
  have HF := hide hfit
  have HIN := hide hs
  have HT := hide (fun h => set_task hs h)
  clear hall hfit hs hlen hrn
  generalize mkS (digs s.reload.toNat) = dR at *
  go_enter Tryd.func11, Tryd.ntmps11
  rw [SetV.val]
  go_wp2_with fail
  refine (unhide CR _).mono ?_
  rintro e w1 ⟨rfl, bel⟩
  have B1 := hide (bel_box (Below.refl _ _) bel)
  have X1 := hide ((sbox_new w s 24).bel bel)
  clear bel
  go_wp2
  go_loopw [3, 4] (fun x i wr => ∃ k : Nat, k ≤ s.ts.length ∧ i = .int .i64 k ∧ x = .string (mkS (partT s k)) ∧ Below w1.heap.size w1 wr) (fun _ i _ => s.ts.length - (intOf i).toNat)
  case atStart => exact ⟨0, Nat.zero_le _, rfl, by rw [unhide HJ], Below.refl _ _⟩
  case round =>
    obtain ⟨k, hk, rfl, rfl, hbel⟩ := hrel
    have BQ := hide (below_on (unhide B1) hbel)
    have BW := hide hbel
    obtain ⟨c0, c1⟩ := (unhide X1).bel hbel
    clear hbel
    by_cases hlt : k < s.ts.length
    · obtain ⟨b, off, hao, hT⟩ := unhide HT (fun e => by rw [e] at hlt; simp at hlt)
      obtain ⟨t0, t1, t2, t3, t4, t5, t6, t7, t8⟩ := (hT k hlt).1.bel (unhide BQ)
      have CT := hide (rtask_text (s.ts.getD k task0) k wr (task_bel (hT k hlt).2 (unhide BQ)) (unhide HF k hlt) (by omega))
      have HE : Hid (mkS (partT s k) ++ mkS (taskT (s.ts.getD k task0)) ++ ⟨#[10]⟩ = mkS (partT s (k + 1))) := by
        show mkS _ ++ mkS _ ++ mkS [10] = _
        rw [unhide HN k hlt, mkS_two, mkS_two]
      have hs1 : (mkS (partT s k)).size ≤ 20000 := by rw [mkS_long]; have := unhide HL k hk; omega
      have hs2 : (mkS (taskT (s.ts.getD k task0))).size ≤ 1200 := by rw [mkS_long]; exact task_len (unhide HF k hlt) (by omega)
      rw [hao] at c1
      clear hao
      clear hT
      generalize mkS (partT s k) = S at *
      generalize mkS (taskT (s.ts.getD k task0)) = TT at *
      generalize s.ts.getD k task0 = t at *
      go_wp2_with fail
      refine (unhide CT).mono ?_
      rintro e w2 ⟨rfl, bel⟩
      have B2 := hide (below_on (unhide BW) bel)
      clear bel
      go_wp2
      go_roundw
      case rel => exact ⟨k + 1, by omega, by go_num, by rw [unhide HE], unhide B2⟩
      case measure => simp [intOf]; omega
    · rw [unhide HA k (by omega)]
      go_wp2
      go_ret
      exact ⟨rfl, unhide BQ⟩
end Go.Proofs.YtlfmnnngadnkpaaDoor.Lex
