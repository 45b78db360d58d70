/- The laws of chapter 4, over what Tokens and Words of package lex answer. -/
import Derived.Test.YtaolpbgmcmigoaaLexSame
import Derived.Test.YtaolpbgmcmigoaaLexPure
namespace Go.Proofs.Ytaolpbgmcmigoaa.Lex
open Go.ChangeShapes Go.WideShapes Go.RowKit

theorem toList_mkS (d : List UInt8) : (mkS d).toList = d := by rw [toList_bl, bl_mkS]
theorem bel_drewN {B : Nat} {a w : World} (h : Below B a w) (n : Nat) : Below B a (w.drewN n) := h.trans ⟨rfl, rfl, rfl, Nat.le_refl _, fun _ _ => rfl⟩
theorem tokens_len (l : List UInt8) : (tokens l).toks.length ≤ l.length + 1 := by
  unfold tokens
  split
  · simp
  · cases h : toksA false 0 l with
    | error i => simp
    | ok L =>
      have := toks_len l.length l (Nat.le_refl _) _ _ _ h
      simp; exact this
def LexT : Prop := ∀ (s : ByteArray) (w : World), Calls Try.prog 9 #[.string s] w fun e w' =>
  ∃ v, e = .returned (.tuple #[v, .int .i64 (tokens (bl s)).pos, .int .i64 (tokens (bl s)).err]) ∧ w'.ownsRow w.heap.size 32 4 v (tokens (bl s)).toks.length ((tokens (bl s)).toks.flatMap tokC) ∧ Below w.heap.size w w'
def LexW : Prop := ∀ w : World, Calls Try.prog 13 #[] w fun e w' =>
  ∃ b off cap, e = .returned (.slice (some ⟨b, off, none⟩) 10 cap) ∧ (∀ j, j < 10 → w'.cell? ⟨b, off + j, none⟩ = some (.string (mkS (words.getD j [])))) ∧ Below w.heap.size w w'

theorem cell_bel {w w' : World} {a : Addr} {u : Value} (h : w.cell? a = some u) (hb : Below w.heap.size w w') : w'.cell? a = some u := by
  rw [hb.cell (World.block_lt_of_cell? w _ h)]; exact h
theorem bel_trans {B : Nat} {a b c : World} (h : Below B a b) (hB : B ≤ b.heap.size) (k : Below b.heap.size b c) : Below B a c := h.trans (k.mono hB)
theorem bel2 {a b c : World} (h : Below a.heap.size a b) (k : Below b.heap.size b c) : Below a.heap.size a c := bel_trans h h.size k

set_option maxHeartbeats 800000 in
theorem known_any (hT : LexT) (hW : LexW) (w : World) : Calls Try.prog 12 #[] w fun e w' => e = .returned (.bool true) ∧ Below w.heap.size w w' := by
  have ct := fun w => hT ⟨#[116, 97, 115, 107, 32, 97, 59]⟩ w
  rw [show tokens (bl ⟨#[116, 97, 115, 107, 32, 97, 59]⟩) = _ from hand_known] at ct
  have CT := hide ct
  have HW : Hid LexW := hW
  clear ct hT hW
  go_enter Try.func12, Try.ntmps12
  go_wp2_with fail
  refine (unhide CT _).mono ?_
  rintro e w1 ⟨v, rfl, hown, bel1⟩
  obtain ⟨ao, cap, rfl, hc⟩ := trow_of_own hown
  obtain ⟨b, off, rfl, hcc⟩ := hc (by simp)
  obtain ⟨a0, a1, a2, a3⟩ := hcc 0 (by simp)
  obtain ⟨b0, b1, b2, b3⟩ := hcc 1 (by simp)
  obtain ⟨c0, c1, c2, c3⟩ := hcc 2 (by simp)
  clear hown hcc hc
  go_wp2_with fail
  refine (unhide HW _).mono ?_
  rintro e w2 ⟨b', off', cap', rfl, hcell, bel3⟩
  have d9 := hcell 9 (by omega)
  have a0' := cell_bel a0 bel3
  have b1' := cell_bel b1 bel3
  have c1' := cell_bel c1 bel3
  have B := hide (bel2 bel1 bel3)
  clear a0 a1 a2 a3 b0 b1 b2 b3 c0 c1 c2 c3 hcell bel1 bel3
  simp only [List.getD_eq_getElem?_getD, List.getElem?_cons_zero, List.getElem?_cons_succ, Option.getD_some, Nat.zero_mul, Nat.add_zero, Nat.one_mul, Nat.reduceMul] at a0' b1' c1'
  rw [show words.getD 9 [] = [117, 99, 98] from rfl] at d9
  have t1 := toList_mkS [97]
  have t2 := toList_mkS [59]
  have t3 := toList_mkS [117, 99, 98]
  go_wp2
  go_ret
  exact ⟨rfl, unhide B⟩

/- any text -/
set_option maxHeartbeats 800000 in
theorem tokens_law (hT : LexT) (hW : LexW) (s : ByteArray) (w : World) (hs : s.size ≤ 4100) : Calls Try.prog 3 #[.string s] w fun e w' => e = .returned (.bool true) ∧ Below w.heap.size w w' := by
  have ct := fun w => hT s w
  have rt := fun w => rtokens_any s w
  have hlen := tokens_len (bl s)
  rw [bl_len] at hlen
  generalize tokens (bl s) = A at *
  obtain ⟨L, at_, er⟩ := A
  have hs' : (s.size : Int) ≤ 4100 := by omega
  have CT := hide ct
  have RT := hide rt
  have KN := hide (fun w => known_any hT hW w)
  clear ct rt hT hW
  simp only at hlen
  go_enter Try.func3, Try.ntmps3
  go_wp2_with fail
  refine (unhide CT _).mono ?_
  rintro e w1 ⟨v, rfl, hown, bel1⟩
  have row1 := trow_of_own hown
  have B1 := hide bel1
  clear hown bel1
  go_wp2_with fail
  refine (unhide RT _).mono ?_
  rintro e w2 ⟨v2, rfl, hown2, bel2_⟩
  have row2 := trow_of_own hown2
  have row12 := row1.below bel2_
  have B2 := hide (bel2 (unhide B1) bel2_)
  clear hown2 bel2_ row1
  go_wp2_with fail
  refine (same_any _ _ L _ (by omega) row12 row2).mono ?_
  rintro e w' ⟨rfl, n, hw⟩
  rw [hw]
  clear hw w' row12 row2
  go_wp2_with fail
  refine (unhide KN _).mono ?_
  rintro e w3 ⟨rfl, bel3⟩
  have B3 := hide ((bel_drewN (unhide B2) n).trans (bel3.mono (by simpa using (unhide B2).size)))
  clear bel3
  go_wp2
  go_ret
  exact ⟨rfl, unhide B3⟩
end Go.Proofs.Ytaolpbgmcmigoaa.Lex
