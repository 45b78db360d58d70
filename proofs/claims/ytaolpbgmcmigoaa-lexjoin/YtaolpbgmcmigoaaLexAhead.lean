/- The law of chapter 4 on a note ahead, over what Tokens and Words of package lex answer. -/
import Derived.Test.YtaolpbgmcmigoaaLexLaws
import Derived.Deep.RegionHeld3
namespace Go.Proofs.Ytaolpbgmcmigoaa.Lex
open Go.ChangeShapes Go.WideShapes Go.RowKit

theorem bl_append (a b : ByteArray) : bl (a ++ b) = bl a ++ bl b := by
  have := ByteArray.mk_append_mk (bl a) (bl b)
  have e1 : ByteArray.mk (bl a).toArray = a := mkS_bl a
  have e2 : ByteArray.mk (bl b).toArray = b := mkS_bl b
  rw [e1, e2] at this
  rw [this]; exact bl_mkS _
theorem bl_note (note s : ByteArray) : bl (((⟨#[35]⟩ : ByteArray) ++ note) ++ ⟨#[10]⟩ ++ s) = 35 :: (bl note ++ 10 :: bl s) := by
  rw [bl_append, bl_append, bl_append]; simp [bl]

set_option maxHeartbeats 1600000 in
theorem notes_core (hT : LexT) (hW : LexW) (s note : ByteArray) (w : World) (hs : s.size ≤ 1000) (hn : note.size ≤ 100) (he : (tokens (bl s)).err = 0) :
    Calls Try.prog 4 #[.string s, .string note] w fun e w' => e = .returned (.bool true) ∧ Below w.heap.size w w' := by
  have KN := hide (fun w => known_any hT hW w)
  have rt := fun w => rtokens_any s w
  have hsp := fun hno => tokens_note (l := bl s) (note := bl note) he (by rw [bl_len]; exact hs) (by rw [bl_len]; exact hn) hno
  have hlen := tokens_len (bl s)
  have hpos := tokens_pos (bl s)
  rw [bl_len] at hpos
  rw [he] at rt
  generalize tokens (bl s) = A at *
  obtain ⟨L, ps, er⟩ := A
  simp only at rt hsp hlen hpos
  rw [bl_len] at hlen
  simp only [bl_len] at hsp
  have RT := hide rt
  have HT : Hid LexT := hT
  have HSP := hide hsp
  have HPOS := hide hpos
  clear hpos
  have hs' : (s.size : Int) ≤ 1000 := by omega
  have hn' : (note.size : Int) ≤ 100 := by omega
  clear rt hT hW hsp he
  go_enter Try.func4, Try.ntmps4
  go_wp2_with fail
  refine (unhide RT _).mono ?_
  rintro e w1 ⟨v, rfl, hown, bel1⟩
  have row1 := trow_of_own hown
  obtain ⟨ao, cap, rfl, hc⟩ := row1
  have row1 : TRow w1 (.slice ao L.length cap) L := ⟨_, _, rfl, hc⟩
  have ROW1 := hide row1
  have B1 := hide bel1
  clear hown bel1 row1 RT hc
  go_wp2_with fail
  go_loop [8] (fun i => ∃ k : Nat, k ≤ note.size ∧ i = .int .i64 k ∧ ∀ j, j < k → ∀ hl : j < note.size, (note[j]'hl).toNat ≠ 10) (fun i => note.size - (intOf i).toNat)
  case atStart => exact ⟨0, Nat.zero_le _, rfl, fun j hj => absurd hj (by omega)⟩
  case round =>
    obtain ⟨k, hk, rfl, hall⟩ := hrel
    by_cases hlt : k < note.size
    · have hlt' : (k : Int) < note.size := by omega
      by_cases h10 : (note[k]'hlt).toNat = 10
      · have e1 : (((note[k]'hlt).toNat : Int) == 10) = true := by simp; omega
        clear hall h10
        go_wp2
        go_ret
        exact ⟨rfl, unhide B1⟩
      · have e1 : (((note[k]'hlt).toNat : Int) == 10) = false := by simp; omega
        have hall' : ∀ j, j < k + 1 → ∀ hl : j < note.size, (note[j]'hl).toNat ≠ 10 := fun j hj hl => by
          by_cases e : j = k
          · subst e; exact h10
          · exact hall j (by omega) hl
        have HALL := hide hall'
        clear hall hall' h10
        go_wp2
        go_round
        case rel => exact ⟨k + 1, by omega, by go_num, unhide HALL⟩
        case measure => simp [intOf]; omega
    · have hno : ∀ c ∈ bl note, c.toNat ≠ 10 := fun c hc => by
        obtain ⟨j, hj, rfl⟩ := List.getElem_of_mem hc
        have hj2 : j < note.size := by rw [bl_len] at hj; exact hj
        have e := bl_at note j hj2
        rw [List.getElem?_eq_getElem hj] at e
        rw [Option.some.inj e]
        exact hall j (by omega) hj2
      have ct := fun w => unhide HT (((⟨#[35]⟩ : ByteArray) ++ note) ++ ⟨#[10]⟩ ++ s) w
      rw [bl_note, unhide HSP hno] at ct
      have CT := hide ct
      have hlt' : ¬ (k : Int) < note.size := by omega
      clear ct hno hall
      go_wp2_with fail
      refine (unhide CT _).mono ?_
      rintro e w2 ⟨v2, rfl, hown2, bel2_⟩
      have row2 := trow_of_own hown2
      obtain ⟨ao2, cap2, rfl, hc2⟩ := row2
      have row2 : TRow w2 (.slice ao2 (L.map (shiftT (note.size + 2 : Nat))).length cap2) (L.map (shiftT (note.size + 2 : Nat))) := ⟨_, _, rfl, hc2⟩
      have ROW2 := hide row2
      have ROW12 := hide ((unhide ROW1).below bel2_)
      have B2 := hide (bel2 (unhide B1) bel2_)
      clear hown2 bel2_ row2 hc2 CT
      rw [List.length_map]
      go_wp2_with fail
      go_loopw [13] (fun i wr => ∃ k : Nat, k ≤ L.length ∧ i = .int .i64 k ∧ Below w2.heap.size w2 wr) (fun i _ => L.length - (intOf i).toNat)
      case atStart => exact ⟨0, Nat.zero_le _, rfl, Below.refl _ _⟩
      case round =>
        obtain ⟨q, hq, rfl, hnx⟩ := hrel
        by_cases hql : q < L.length
        · have hne : L ≠ [] := fun e => by rw [e] at hql; simp at hql
          obtain ⟨_, _, e1, hr1⟩ := (unhide ROW12).below hnx
          cases e1
          obtain ⟨b1, o1, rfl, hx1⟩ := hr1 hne
          obtain ⟨_, _, e2, hr2⟩ := (unhide ROW2).below hnx
          cases e2
          obtain ⟨b2, o2, rfl, hx2⟩ := hr2 (by simpa using hne)
          obtain ⟨c0, c1, c2, c3⟩ := hx1 q hql
          obtain ⟨d0, d1, d2, d3⟩ := hx2 q (by simpa using hql)
          rw [getD_shift L _ q hql] at d0 d1 d2 d3
          obtain ⟨p0, p1⟩ := getD_pos (unhide HPOS) q hql tok0
          have BN := hide hnx
          clear hx1 hx2 hr1 hr2 hnx
          generalize L.getD q tok0 = t at *
          obtain ⟨kd, tx, tn, tp⟩ := t
          simp only [shiftT] at c0 c1 c2 c3 d0 d1 d2 d3 p0 p1
          have hg := Try.guardTok
          have hne := Try.neqTok kd tn tp (mkS tx)
          go_wp2
          have al : Below wr.heap.size wr (wr.alloc (.cells #[.int .i64 kd, .string (mkS tx), .int .i64 tn, .int .i64 tp] 32)) := (Below.refl _ _).alloc (Nat.le_refl _) _
          have f0 := cell_bel c0 al
          have f1 := cell_bel c1 al
          have f2 := cell_bel c2 al
          have f3 := cell_bel c3 al
          have BM := hide (bel_trans (unhide BN) (unhide BN).size al)
          clear al c0 c1 c2 c3 d0 d1 d2 d3
          go_quiet (fail)
          go_wp2
          go_roundw
          case rel => exact ⟨q + 1, by omega, by go_num, bel_drewN (unhide BM) _⟩
          case measure => simp [intOf]; omega
        · have BN := hide (bel2 (unhide B2) hnx)
          clear hnx
          go_wp2_with fail
          refine (unhide KN _).mono ?_
          rintro e w4 ⟨rfl, bel3⟩
          have B4 := hide (bel2 (unhide BN) bel3)
          clear bel3
          go_wp2
          go_ret
          exact ⟨rfl, unhide B4⟩
theorem notes_law (hT : LexT) (hW : LexW) (s note : ByteArray) (w : World) : Calls Try.prog 4 #[.string s, .string note] w fun e w' => e = .returned (.bool true) ∧ Below w.heap.size w w' := by
  by_cases h1 : 1000 < s.size
  · have h1' : (1000 : Int) < s.size := by omega
    go_enter Try.func4, Try.ntmps4
    go_wp2_with fail
    refine (rtokens_any s _).mono ?_
    rintro e w1 ⟨v, rfl, hown, bel1⟩
    have B1 := hide bel1
    clear hown bel1
    go_wp2
    go_ret
    exact ⟨rfl, unhide B1⟩
  · by_cases h2 : 100 < note.size
    · have h2' : (100 : Int) < note.size := by omega
      go_enter Try.func4, Try.ntmps4
      go_wp2_with fail
      refine (rtokens_any s _).mono ?_
      rintro e w1 ⟨v, rfl, hown, bel1⟩
      have B1 := hide bel1
      clear hown bel1
      go_wp2
      all_goals (go_ret; exact ⟨rfl, unhide B1⟩)
    · by_cases he : (tokens (bl s)).err = 0
      · exact notes_core hT hW s note w (by omega) (by omega) he
      · have rt := fun w => rtokens_any s w
        generalize tokens (bl s) = A at *
        obtain ⟨L, ps, er⟩ := A
        simp only at he rt
        have he' : (er != 0) = true := by simp; exact he
        have hs' : (s.size : Int) ≤ 1000 := by omega
        have hn' : (note.size : Int) ≤ 100 := by omega
        have RT := hide rt
        clear rt he
        go_enter Try.func4, Try.ntmps4
        go_wp2_with fail
        refine (unhide RT _).mono ?_
        rintro e w1 ⟨v, rfl, hown, bel1⟩
        have B1 := hide bel1
        clear hown bel1
        go_wp2
        all_goals (go_ret; exact ⟨rfl, unhide B1⟩)
end Go.Proofs.Ytaolpbgmcmigoaa.Lex
