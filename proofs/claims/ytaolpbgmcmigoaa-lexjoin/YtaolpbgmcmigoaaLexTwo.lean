/- The law of chapter 4 on two texts, one behind the other, over what Tokens and Words of package lex answer. -/
import Derived.Test.YtaolpbgmcmigoaaLexAhead
namespace Go.Proofs.Ytaolpbgmcmigoaa.Lex
open Go.ChangeShapes Go.WideShapes Go.RowKit

theorem bl_join (a b : ByteArray) : bl (a ++ ⟨#[10]⟩ ++ b) = bl a ++ 10 :: bl b := by
  rw [bl_append, bl_append]; simp [bl]
theorem getD_left (L M : List Tok) (k : Nat) (h : k < L.length) (d : Tok) : (L ++ M).getD k d = L.getD k d := by
  rw [List.getD_eq_getElem?_getD, List.getD_eq_getElem?_getD, List.getElem?_append_left h]
theorem getD_right (L M : List Tok) (j : Nat) (d : Tok) : (L ++ M).getD (L.length + j) d = M.getD j d := by
  rw [List.getD_eq_getElem?_getD, List.getD_eq_getElem?_getD, List.getElem?_append_right (by omega), Nat.add_sub_cancel_left]

set_option maxHeartbeats 1600000 in
theorem join_core (hT : LexT) (hW : LexW) (a b : ByteArray) (w : World) (hs : a.size + b.size ≤ 3000) (ha : (tokens (bl a)).err = 0) (hb : (tokens (bl b)).err = 0) :
    Calls Try.prog 8 #[.string a, .string b] w fun e w' => e = .returned (.bool true) ∧ Below w.heap.size w w' := by
  have KN := hide (fun w => known_any hT hW w)
  have ra := fun w => rtokens_any a w
  have rb := fun w => rtokens_any b w
  have ct := fun w => hT (a ++ ⟨#[10]⟩ ++ b) w
  have hpos := tokens_pos (bl b)
  have hlb := tokens_len (bl b)
  have hla := tokens_len (bl a)
  obtain ⟨P, h1, h2⟩ := tokens_join ha hb (by rw [bl_len, bl_len]; exact hs)
  rw [bl_join, h2] at ct
  rw [h1] at ra hla
  rw [hb] at rb
  rw [bl_len] at hpos hlb hla ct ra
  generalize tokens (bl b) = A at *
  obtain ⟨M, ps, er⟩ := A
  simp only at rb hpos hlb ct hla
  rw [List.length_append, List.length_singleton] at hla
  rw [bl_len] at ct
  have RA := hide ra
  have RB := hide rb
  have CT := hide ct
  have HPOS := hide hpos
  have hs' : (a.size : Int) + b.size ≤ 3000 := by omega
  clear ra rb ct hT hW ha hb h1 h2 hpos
  go_enter Try.func8, Try.ntmps8
  go_wp2_with fail
  refine (unhide RA _).mono ?_
  rintro e w1 ⟨v, rfl, hown, bel1⟩
  obtain ⟨ao, cap, rfl, hc⟩ := trow_of_own hown
  have ROW1 : Hid (TRow w1 (.slice ao (P ++ [(⟨4, [], 0, a.size⟩ : Tok)]).length cap) (P ++ [(⟨4, [], 0, a.size⟩ : Tok)])) := ⟨_, _, rfl, hc⟩
  have B1 := hide bel1
  clear hown bel1 hc RA
  rw [List.length_append, List.length_singleton]
  go_wp2_with fail
  refine (unhide RB _).mono ?_
  rintro e w2 ⟨v, rfl, hown, bel1⟩
  obtain ⟨ao2, cap2, rfl, hc⟩ := trow_of_own hown
  have ROW2 : Hid (TRow w2 (.slice ao2 M.length cap2) M) := ⟨_, _, rfl, hc⟩
  have ROW12 := hide ((unhide ROW1).below bel1)
  have B2 := hide (bel2 (unhide B1) bel1)
  clear hown bel1 hc RB ROW1 B1
  go_wp2_with fail
  refine (unhide CT _).mono ?_
  rintro e w3 ⟨v, rfl, hown, bel1⟩
  obtain ⟨ao3, cap3, rfl, hc⟩ := trow_of_own hown
  have ROW3 : Hid (TRow w3 (.slice ao3 (P ++ M.map (shiftT (a.size + 1 : Nat))).length cap3) (P ++ M.map (shiftT (a.size + 1 : Nat)))) := ⟨_, _, rfl, hc⟩
  have ROW13 := hide ((unhide ROW12).below bel1)
  have ROW23 := hide ((unhide ROW2).below bel1)
  have B3 := hide (bel2 (unhide B2) bel1)
  clear hown bel1 hc CT ROW12 ROW2 B2
  rw [List.length_append, List.length_map]
  go_wp2_with fail
  go_loopw [14] (fun i wr => ∃ k : Nat, k ≤ P.length + M.length ∧ i = .int .i64 k ∧ Below w3.heap.size w3 wr) (fun i _ => P.length + M.length - (intOf i).toNat)
  case atStart => exact ⟨0, Nat.zero_le _, rfl, Below.refl _ _⟩
  case round =>
    obtain ⟨q, hq, rfl, hnx⟩ := hrel
    by_cases hql : q < P.length + M.length
    · obtain ⟨_, _, e3, hr3⟩ := (unhide ROW3).below hnx
      cases e3
      obtain ⟨b3, o3, rfl, hx3⟩ := hr3 (fun e => by have := congrArg List.length e; rw [List.length_append, List.length_map, List.length_nil] at this; omega)
      obtain ⟨d0, d1, d2, d3⟩ := hx3 q (by simpa using hql)
      clear hx3 hr3
      have hg := Try.guardTok
      by_cases hqp : q < P.length
      · obtain ⟨_, _, e1, hr1⟩ := (unhide ROW13).below hnx
        cases e1
        obtain ⟨b1, o1, rfl, hx1⟩ := hr1 (by simp)
        obtain ⟨c0, c1, c2, c3⟩ := hx1 q (by rw [List.length_append, List.length_singleton]; omega)
        rw [getD_left P _ q hqp] at c0 c1 c2 c3 d0 d1 d2 d3
        have BN := hide hnx
        clear hx1 hr1 hnx
        generalize P.getD q tok0 = t at *
        obtain ⟨kd, tx, tn, tp⟩ := t
        simp only at c0 c1 c2 c3 d0 d1 d2 d3
        have hne := Try.neqTok kd tn tp (mkS tx)
        have hqi : (q : Int) < P.length := by omega
        go_wp2
        have al : Below wr.heap.size wr (wr.alloc (.cells #[.int .i64 kd, .string (mkS tx), .int .i64 tn, .int .i64 tp] 32)) := (Below.refl _ _).alloc (Nat.le_refl _) _
        have f0 := cell_bel c0 al
        have f1 := cell_bel c1 al
        have f2 := cell_bel c2 al
        have f3 := cell_bel c3 al
        have BM := hide (bel_trans (unhide BN) (unhide BN).size al)
        clear al c0 c1 c2 c3 d0 d1 d2 d3
        go_quiet (fail)
        go_wp2
        go_roundw
        case rel => exact ⟨q + 1, by omega, by go_num, bel_drewN (unhide BM) _⟩
        case measure => simp [intOf]; omega
      · obtain ⟨j, rfl⟩ : ∃ j, q = P.length + j := ⟨q - P.length, by omega⟩
        have hjm : j < M.length := by omega
        obtain ⟨_, _, e1, hr1⟩ := (unhide ROW23).below hnx
        cases e1
        obtain ⟨b1, o1, rfl, hx1⟩ := hr1 (fun e => by rw [e] at hjm; simp at hjm)
        obtain ⟨c0, c1, c2, c3⟩ := hx1 j hjm
        rw [getD_right P _ j, getD_shift M _ j hjm] at d0 d1 d2 d3
        obtain ⟨p0, p1⟩ := getD_pos (unhide HPOS) j hjm tok0
        have BN := hide hnx
        clear hx1 hr1 hnx
        generalize M.getD j tok0 = t at *
        obtain ⟨kd, tx, tn, tp⟩ := t
        simp only [shiftT] at c0 c1 c2 c3 d0 d1 d2 d3 p0 p1
        have hne := Try.neqTok kd tn tp (mkS tx)
        have htp : tp + ((a.size : Int) + 1) - a.size - 1 = tp := by omega
        have hix : (P.length : Int) + j - (P.length + 1) + 1 = j := by omega
        go_wp2
        have al : Below wr.heap.size wr (wr.alloc (.cells #[.int .i64 kd, .string (mkS tx), .int .i64 tn, .int .i64 tp] 32)) := (Below.refl _ _).alloc (Nat.le_refl _) _
        have f0 := cell_bel c0 al
        have f1 := cell_bel c1 al
        have f2 := cell_bel c2 al
        have f3 := cell_bel c3 al
        have BM := hide (bel_trans (unhide BN) (unhide BN).size al)
        clear al c0 c1 c2 c3 d0 d1 d2 d3
        go_quiet (fail)
        go_wp2
        go_roundw
        case rel => exact ⟨P.length + j + 1, by omega, by go_num, bel_drewN (unhide BM) _⟩
        case measure => simp [intOf]; omega
    · have BN := hide (bel2 (unhide B3) hnx)
      clear hnx
      go_wp2_with fail
      refine (unhide KN _).mono ?_
      rintro e w4 ⟨rfl, bel3⟩
      have B4 := hide (bel2 (unhide BN) bel3)
      clear bel3
      go_wp2
      go_ret
      exact ⟨rfl, unhide B4⟩
theorem join_law (hT : LexT) (hW : LexW) (a b : ByteArray) (w : World) (za : a.size ≤ 140737488351232) (zb : b.size ≤ 140737488351232) : Calls Try.prog 8 #[.string a, .string b] w fun e w' => e = .returned (.bool true) ∧ Below w.heap.size w w' := by
  by_cases hs : a.size + b.size ≤ 3000
  · by_cases ha : (tokens (bl a)).err = 0
    · by_cases hb : (tokens (bl b)).err = 0
      · exact join_core hT hW a b w hs ha hb
      · have ra := fun w => rtokens_any a w
        have rb := fun w => rtokens_any b w
        rw [ha] at ra
        generalize tokens (bl a) = A at *
        obtain ⟨La, pa, ea⟩ := A
        generalize tokens (bl b) = A at *
        obtain ⟨L, ps, er⟩ := A
        simp only at hb ra rb
        have he' : (er != 0) = true := by simp; exact hb
        have hs' : (a.size : Int) + b.size ≤ 3000 := by omega
        have RA := hide ra
        have RB := hide rb
        clear ra rb hb ha
        go_enter Try.func8, Try.ntmps8
        go_wp2_with fail
        refine (unhide RA _).mono ?_
        rintro e w1 ⟨v, rfl, hown, bel1⟩
        have B1 := hide bel1
        clear hown bel1
        go_wp2_with fail
        refine (unhide RB _).mono ?_
        rintro e w2 ⟨v2, rfl, hown, bel1⟩
        have B2 := hide (bel2 (unhide B1) bel1)
        clear hown bel1
        go_wp2
        all_goals (go_ret; exact ⟨rfl, unhide B2⟩)
    · have ra := fun w => rtokens_any a w
      have rb := fun w => rtokens_any b w
      generalize tokens (bl a) = A at *
      obtain ⟨La, pa, ea⟩ := A
      generalize tokens (bl b) = A at *
      obtain ⟨L, ps, er⟩ := A
      simp only at ha ra rb
      have he' : (ea != 0) = true := by simp; exact ha
      have hs' : (a.size : Int) + b.size ≤ 3000 := by omega
      have RA := hide ra
      have RB := hide rb
      clear ra rb ha
      go_enter Try.func8, Try.ntmps8
      go_wp2_with fail
      refine (unhide RA _).mono ?_
      rintro e w1 ⟨v, rfl, hown, bel1⟩
      have B1 := hide bel1
      clear hown bel1
      go_wp2_with fail
      refine (unhide RB _).mono ?_
      rintro e w2 ⟨v2, rfl, hown, bel1⟩
      have B2 := hide (bel2 (unhide B1) bel1)
      clear hown bel1
      go_wp2
      all_goals (go_ret; exact ⟨rfl, unhide B2⟩)
  · have ra := fun w => rtokens_any a w
    have rb := fun w => rtokens_any b w
    generalize tokens (bl a) = A at *
    obtain ⟨La, pa, ea⟩ := A
    generalize tokens (bl b) = A at *
    obtain ⟨L, ps, er⟩ := A
    simp only at ra rb
    have hs' : (3000 : Int) < (a.size : Int) + b.size := by omega
    have RA := hide ra
    have RB := hide rb
    clear ra rb
    go_enter Try.func8, Try.ntmps8
    go_wp2_with fail
    refine (unhide RA _).mono ?_
    rintro e w1 ⟨v, rfl, hown, bel1⟩
    have B1 := hide bel1
    clear hown bel1
    go_wp2_with fail
    refine (unhide RB _).mono ?_
    rintro e w2 ⟨v2, rfl, hown, bel1⟩
    have B2 := hide (bel2 (unhide B1) bel1)
    clear hown bel1
    go_wp2
    all_goals (go_ret; exact ⟨rfl, unhide B2⟩)
end Go.Proofs.Ytaolpbgmcmigoaa.Lex
