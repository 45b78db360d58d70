/- The law of chapter 4 on how long names and numbers are, over what Tokens and Words of package lex answer. -/
import Derived.Test.YtaolpbgmcmigoaaLexLaws
namespace Go.Proofs.Ytaolpbgmcmigoaa.Lex
open Go.ChangeShapes Go.WideShapes Go.RowKit

theorem mkS_join (a b : List UInt8) : (⟨a.toArray⟩ : ByteArray) ++ mkS b = mkS (a ++ b) := ByteArray.mk_append_mk a b
theorem mkS_rep (k : Nat) (c : UInt8) : mkS (List.replicate k c) ++ ⟨#[c]⟩ = mkS (List.replicate (k + 1) c) := by
  rw [List.replicate_succ']; exact ByteArray.mk_append_mk _ [c]
theorem mkS_rsize (k : Nat) (c : UInt8) : (mkS (List.replicate k c)).size = k := by rw [← bl_len, bl_mkS, List.length_replicate]
theorem ends_num : ∀ k : Fin 31, 1 ≤ k.val → (tokens (32 :: List.replicate k.val 55)).err = (if k.val ≤ 9 then 0 else 2) ∧ (9 < k.val → (tokens (32 :: List.replicate k.val 55)).pos = 1) := by decide +kernel
theorem ends_name : ∀ k : Fin 31, 1 ≤ k.val → (tokens (32 :: List.replicate k.val 122)).err = (if k.val ≤ 12 then 0 else 2) ∧ (12 < k.val → (tokens (32 :: List.replicate k.val 122)).pos = 1) := by decide +kernel

set_option maxHeartbeats 1600000 in
theorem ends_core (hT : LexT) (hW : LexW) (n : Nat) (digits : Bool) (c : UInt8) (most : Int) (w : World) (h1 : 1 ≤ n) (h30 : n ≤ 30) (hd : (digits = true ∧ c = 55 ∧ most = 9) ∨ (digits = false ∧ c = 122 ∧ most = 12))
    (he : (tokens (32 :: List.replicate n c)).err = (if (n : Int) ≤ most then 0 else 2)) (hp : most < n → (tokens (32 :: List.replicate n c)).pos = 1) :
    Calls Try.prog 5 #[.int .i64 n, .bool digits] w fun e w' => e = .returned (.bool true) ∧ Below w.heap.size w w' := by
  have KN := hide (fun w => known_any hT hW w)
  have ct := fun w => hT (mkS (32 :: List.replicate n c)) w
  rw [bl_mkS] at ct
  generalize tokens (32 :: List.replicate n c) = A at *
  obtain ⟨L, at_, er⟩ := A
  simp only at he hp
  have CT := hide ct
  have HP := hide hp
  have HE := hide he
  have HD := hide hd
  clear hT hW ct hp he hd
  have hjoin := mkS_join [32] (List.replicate n c)
  rw [List.singleton_append] at hjoin
  have HJ := hide hjoin
  clear hjoin
  go_enter Try.func5, Try.ntmps5
  go_wp2
  go_loop [5, 6, 7] (fun s m i => ∃ k : Nat, k ≤ n ∧ i = .int .i64 k ∧ s = .string (mkS (List.replicate k c)) ∧ m = .int .i64 (if k = 0 then 12 else most)) (fun _ _ i => n - (intOf i).toNat)
  case atStart => exact ⟨0, Nat.zero_le _, rfl, rfl, rfl⟩
  case round =>
    obtain ⟨k, hk, rfl, rfl, rfl⟩ := hrel
    by_cases hlt : k < n
    · have hsz := mkS_rsize k c
      have hr := mkS_rep k c
      generalize hm : (if k = 0 then (12 : Int) else most) = m0 at *
      have HM := hide hm
      clear hm
      rcases unhide HD with ⟨rfl, rfl, rfl⟩ | ⟨rfl, rfl, rfl⟩
      · generalize hs0 : mkS (List.replicate k 55) = s0 at *
        generalize hs1 : mkS (List.replicate (k + 1) 55) = s1 at *
        have HS1 := hide hs1
        clear hs0 hs1
        go_wp2
        go_round
        case rel => exact ⟨k + 1, by omega, by go_num, by rw [unhide HS1], by rw [if_neg (by omega)]⟩
        case measure => simp [intOf]; omega
      · generalize hs0 : mkS (List.replicate k 122) = s0 at *
        generalize hs1 : mkS (List.replicate (k + 1) 122) = s1 at *
        have HS1 := hide hs1
        have HM2 : Hid ((if k + 1 = 0 then (12 : Int) else 12) = m0) := by show _ = m0; rw [← unhide HM]; simp
        clear hs0 hs1
        go_wp2
        go_round
        case rel => exact ⟨k + 1, by omega, by go_num, by rw [unhide HS1], by rw [unhide HM2]⟩
        case measure => simp [intOf]; omega
    · have hkn : k = n := by omega
      subst hkn
      have hsz := mkS_rsize k c
      have hj := unhide HJ
      rw [if_neg (by omega)]
      have ct := unhide CT
      generalize hs0 : mkS (List.replicate k c) = s0 at *
      generalize hs1 : mkS (32 :: List.replicate k c) = s1 at *
      have CT2 := hide ct
      have he := unhide HE
      clear hs0 hs1 ct CT HJ
      by_cases hle : (k : Int) ≤ most
      · rw [if_pos hle] at he
        subst he
        go_wp2_with fail
        refine (unhide CT2 _).mono ?_
        rintro e w1 ⟨v, rfl, hown, bel1⟩
        have B1 := hide bel1
        clear hown bel1
        go_wp2_with fail
        refine (unhide KN _).mono ?_
        rintro e w2 ⟨rfl, bel3⟩
        have B2 := hide (bel2 (unhide B1) bel3)
        clear bel3
        go_wp2
        go_ret
        exact ⟨rfl, unhide B2⟩
      · rw [if_neg hle] at he
        subst he
        have hp1 := unhide HP (by omega)
        subst hp1
        have hdec : decide ((k : Int) ≤ most) = false := decide_eq_false hle
        go_wp2_with fail
        refine (unhide CT2 _).mono ?_
        rintro e w1 ⟨v, rfl, hown, bel1⟩
        have B1 := hide bel1
        clear hown bel1
        go_wp2_with fail
        refine (unhide KN _).mono ?_
        rintro e w2 ⟨rfl, bel3⟩
        have B2 := hide (bel2 (unhide B1) bel3)
        clear bel3
        go_wp2
        go_ret
        exact ⟨rfl, unhide B2⟩
theorem ends_law (hT : LexT) (hW : LexW) (n : Int) (digits : Bool) (w : World) : Calls Try.prog 5 #[.int .i64 n, .bool digits] w fun e w' => e = .returned (.bool true) ∧ Below w.heap.size w w' := by
  by_cases hn : n < 1
  · go_enter Try.func5, Try.ntmps5
    go_wp2
    go_ret
    exact ⟨rfl, Below.refl _ _⟩
  · by_cases hm : 30 < n
    · go_enter Try.func5, Try.ntmps5
      go_wp2
      go_ret
      exact ⟨rfl, Below.refl _ _⟩
    · obtain ⟨k, rfl⟩ := Int.eq_ofNat_of_zero_le (show 0 ≤ n by omega)
      cases digits
      · obtain ⟨e1, e2⟩ := ends_name ⟨k, by omega⟩ (by show 1 ≤ k; omega)
        exact ends_core hT hW k false 122 12 w (by omega) (by omega) (.inr ⟨rfl, rfl, rfl⟩) (by rw [e1]; by_cases h : k ≤ 12 <;> simp [h] <;> omega) (fun h => e2 (by show 12 < k; omega))
      · obtain ⟨e1, e2⟩ := ends_num ⟨k, by omega⟩ (by show 1 ≤ k; omega)
        exact ends_core hT hW k true 55 9 w (by omega) (by omega) (.inl ⟨rfl, rfl, rfl⟩) (by rw [e1]; by_cases h : k ≤ 9 <;> simp [h] <;> omega) (fun h => e2 (by show 9 < k; omega))
end Go.Proofs.Ytaolpbgmcmigoaa.Lex
