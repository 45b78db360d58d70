/- What Tokens of package lex answers: for all texts. -/
import Derived.Test.YtndhjfpjhpnbaaaLexNames
import Derived.Test.YtndhjfpjhpnbaaaLexWay
import Derived.Test.YtndhjfpjhpnbaaaLexFlow
namespace Go.Proofs.Ytndhjfpjhpnbaaa.Lex
set_option maxRecDepth 100000
open Go.ChangeShapes Go.WideShapes Go.RowKit

theorem code_long (s : ByteArray) (w : World) (h : 4000 < s.size) : Calls Try.prog 43 #[.string s] w fun e w' =>
    ∃ v, e = .returned (.tuple #[v, .int .i64 (tokens (bl s)).pos, .int .i64 (tokens (bl s)).err]) ∧ w'.ownsRow w.heap.size 63 4 v (tokens (bl s)).toks.length ((tokens (bl s)).toks.flatMap tokC) ∧ Below w.heap.size w w' := by
  have ht : tokens (bl s) = ⟨[], 0, 3⟩ := by rw [tokens, if_pos (by rw [bl_len]; exact h)]
  have HT := hide ht
  have h' : (4000 : Int) < s.size := by omega
  clear ht
  go_enter Try.func43, Try.ntmps43
  go_wp2
  refine wp_scope_straight ?_
  go_wp2_with fail
  refine (words_any _).mono ?_
  rintro e w' ⟨rfl, hw⟩
  rw [hw]; clear hw w'
  go_wp2
  (try simp only [Exit.noGoto])
  go_ret3
  exact ⟨_, ret_toks (by rw [unhide HT]) (by rw [unhide HT]), by rw [unhide HT]; exact World.ownsRow_nil _ _ _ _, (Below.refl _ _).alloc (Nat.le_refl _) _⟩

/- what holds at the labels: W the world behind Words, b where the words lie -/
def Held (s : ByteArray) (W : World) (k : Nat) (L : List Tok) (v : Value) (w' : World) : Prop := Ahead s k L ∧ L.length ≤ k ∧ w'.ownsRow W.heap.size 63 4 v L.length (L.flatMap tokC) ∧ Below W.heap.size W w'
def At0 (s : ByteArray) (b : Nat) (W : World) (a' : Act) (w' : World) : Prop := ∃ (k : Nat) (L : List Tok) (v : Value), k ≤ s.size ∧ Held s W k L v w' ∧ ∃ f : Nat → Value, a' = { tmps := #[.string s, f 1, v, f 3, .int .i64 0, .slice (some ⟨b, 0, none⟩) 10 10, .int .i64 k, f 7, f 8, f 9, f 10, f 11, f 12, f 13, f 14, f 15, f 16, f 17, f 18, f 19, f 20, f 21, f 22, f 23, f 24, f 25, f 26, f 27, f 28, f 29, f 30, f 31, f 32, f 33, f 34, f 35, f 36, f 37, f 38, f 39, f 40, f 41, f 42, f 43, f 44, f 45, f 46, f 47, f 48, f 49, f 50, f 51, f 52, f 53, f 54, f 55, f 56, f 57, f 58, f 59, f 60, f 61, f 62, f 63, f 64, f 65, f 66, f 67, f 68, f 69, f 70, f 71, f 72, f 73, f 74, f 75, f 76, f 77, f 78, f 79, f 80, f 81, f 82, f 83, f 84, f 85, f 86, f 87, f 88, f 89, f 90, f 91, f 92, f 93, f 94, f 95, f 96, f 97, f 98, f 99, f 100, f 101, f 102, f 103, f 104, f 105, f 106, f 107], defers := [] }
def AtOn (p : UInt8 → Bool) (s : ByteArray) (b : Nat) (W : World) (a' : Act) (w' : World) : Prop := ∃ (k : Nat) (L : List Tok) (v : Value) (hk : k < s.size), p (s[k]'hk) = true ∧ Held s W k L v w' ∧ ∃ f : Nat → Value, a' = { tmps := #[.string s, f 1, v, .int .i64 k, .int .i64 0, .slice (some ⟨b, 0, none⟩) 10 10, f 6, f 7, f 8, f 9, f 10, f 11, f 12, f 13, f 14, f 15, f 16, f 17, f 18, f 19, f 20, f 21, f 22, f 23, f 24, f 25, f 26, f 27, f 28, f 29, f 30, f 31, f 32, f 33, f 34, f 35, f 36, f 37, f 38, f 39, f 40, f 41, f 42, f 43, f 44, f 45, f 46, f 47, f 48, f 49, f 50, f 51, f 52, f 53, f 54, f 55, f 56, f 57, f 58, f 59, f 60, f 61, f 62, f 63, f 64, f 65, f 66, f 67, f 68, f 69, f 70, f 71, f 72, f 73, f 74, f 75, f 76, f 77, f 78, f 79, f 80, f 81, f 82, f 83, f 84, f 85, f 86, f 87, f 88, f 89, f 90, f 91, f 92, f 93, f 94, f 95, f 96, f 97, f 98, f 99, f 100, f 101, f 102, f 103, f 104, f 105, f 106, f 107], defers := [] }
def AtOff (s : ByteArray) (b : Nat) (W : World) (a' : Act) (w' : World) : Prop := ∃ (k : Nat) (v : Value), toksA false 0 (bl s) = .error k ∧ Below W.heap.size W w' ∧ ∃ f : Nat → Value, a' = { tmps := #[.string s, f 1, v, .int .i64 k, .int .i64 0, .slice (some ⟨b, 0, none⟩) 10 10, f 6, f 7, f 8, f 9, f 10, f 11, f 12, f 13, f 14, f 15, f 16, f 17, f 18, f 19, f 20, f 21, f 22, f 23, f 24, f 25, f 26, f 27, f 28, f 29, f 30, f 31, f 32, f 33, f 34, f 35, f 36, f 37, f 38, f 39, f 40, f 41, f 42, f 43, f 44, f 45, f 46, f 47, f 48, f 49, f 50, f 51, f 52, f 53, f 54, f 55, f 56, f 57, f 58, f 59, f 60, f 61, f 62, f 63, f 64, f 65, f 66, f 67, f 68, f 69, f 70, f 71, f 72, f 73, f 74, f 75, f 76, f 77, f 78, f 79, f 80, f 81, f 82, f 83, f 84, f 85, f 86, f 87, f 88, f 89, f 90, f 91, f 92, f 93, f 94, f 95, f 96, f 97, f 98, f 99, f 100, f 101, f 102, f 103, f 104, f 105, f 106, f 107], defers := [] }
def At (s : ByteArray) (b : Nat) (W : World) (l : Nat) (a : Act) (w : World) : Prop :=
  (l = 0 ∧ At0 s b W a w) ∨ (l = 1 ∧ AtOn gapC s b W a w) ∨ (l = 2 ∧ AtOn (fun c => c.toNat == 35) s b W a w) ∨ (l = 3 ∧ AtOn smallC s b W a w) ∨ (l = 4 ∧ AtOn digitC s b W a w) ∨ (l = 5 ∧ AtOn (fun c => c.toNat == 59) s b W a w) ∨ (l = 6 ∧ AtOff s b W a w)
def Mea (s : ByteArray) (l : Nat) (a : Act) (_ : World) : Nat :=
  if l = 0 then 2 * (s.size - (intOf (a.tmps.getD 6 undef)).toNat) + 2 else if l = 6 then 0 else 2 * (s.size - (intOf (a.tmps.getD 3 undef)).toNat) + 1
theorem note_hash {c : UInt8} (h : (c.toNat == 35) = true) : noteC c = true := by
  have h' : c.toNat = 35 := by simpa using h
  simp [noteC, h']
theorem own_up {w : World} {a b : Nat} {v : Value} {n : Nat} {xs : List Value} (h : w.ownsRow b 63 4 v n xs) (hab : a ≤ b) : w.ownsRow a 63 4 v n xs :=
  ⟨h.1, h.2.imp id fun ⟨g, cap, cur, e, hg, r⟩ => ⟨g, cap, cur, e, Nat.le_trans hab hg, r⟩⟩

set_option maxHeartbeats 3200000 in
set_option maxRecDepth 1000000 in
theorem code_some (s : ByteArray) (w : World) (hmax : s.size ≤ 4000) : Calls Try.prog 43 #[.string s] w fun e w' =>
    ∃ v, e = .returned (.tuple #[v, .int .i64 (tokens (bl s)).pos, .int .i64 (tokens (bl s)).err]) ∧ w'.ownsRow w.heap.size 63 4 v (tokens (bl s)).toks.length ((tokens (bl s)).toks.flatMap tokC) ∧ Below w.heap.size w w' := by
  obtain ⟨i0, hi, hz0, hz1, hz2⟩ := info_parts Try.info_tok
  have hmax' : (s.size : Int) ≤ 4000 := by omega
  have hW : Below w.heap.size w (w.alloc (.cells wordCells 9)) := (Below.refl _ _).alloc (Nat.le_refl _) _
  have hR := wrow_new w
  have CW := hide (words_any w)
  generalize w.alloc (.cells wordCells 9) = W at hW hR CW
  have HW := hide hW
  have HR := hide hR
  clear hW hR
  have TL : Hid ((bl s).length ≤ 4000) := by show (bl s).length ≤ 4000; rw [bl_len]; exact hmax
  go_enter Try.func43, Try.ntmps43
  go_wp2
  refine wp_scope_labels 0 (At s w.heap.size W) (Mea s) rfl ?_ ?_
  · rintro l a' wr (⟨rfl, hJ⟩ | ⟨rfl, hJ⟩ | ⟨rfl, hJ⟩ | ⟨rfl, hJ⟩ | ⟨rfl, hJ⟩ | ⟨rfl, hJ⟩ | ⟨rfl, hJ⟩)
    · refine ⟨_, rfl, ?_⟩
      obtain ⟨k, L, v, hk, ⟨hah, hLk, hown, hbel⟩, f, rfl⟩ := hJ
      have BB := hbel.size
      by_cases hlt : k < s.size
      · have hlt' : (k : Int) < s.size := by omega
        have hne : ((k : Int) == s.size) = false := beq_eq_false_iff_ne.2 (by omega)
        have HO := hide hown
        have HB := hide hbel
        have HA := hide hah
        clear hah hown hbel
        cases hg : gapC (s[k]'hlt)
        · by_cases h35 : (s[k]'hlt).toNat = 35
          · have e35 : (((s[k]'hlt).toNat : Int) == 35) = true := beq_iff_eq.2 (by omega)
            have hx : ((s[k]'hlt).toNat == 35) = true := by simpa using h35
            have HX := hide hx
            clear h35 hx
            go_wp2_with (first
              | (go_at_call 53; refine (gap_byte _ _).mono ?_; rintro e w' ⟨rfl, hw⟩; rw [hw]; clear hw w')
              | (go_at_call 54; refine (letter_byte _ _).mono ?_; rintro e w' ⟨rfl, hw⟩; rw [hw]; clear hw w')
              | (go_at_call 55; refine (digit_byte _ _).mono ?_; rintro e w' ⟨rfl, hw⟩; rw [hw]; clear hw w'))
            go_step3
            show _ ∧ _
            refine ⟨Or.inr (Or.inr (Or.inl ⟨rfl, k, L, v, hlt, unhide HX, ⟨unhide HA, hLk, unhide HO, unhide HB⟩, frame_at rfl⟩)), ?_⟩
            simp [Mea, intOf]
          · have e35 : (((s[k]'hlt).toNat : Int) == 35) = false := beq_eq_false_iff_ne.2 (by omega)
            cases hs : smallC (s[k]'hlt)
            · cases hd : digitC (s[k]'hlt)
              · by_cases h59 : (s[k]'hlt).toNat = 59
                · have e59 : (((s[k]'hlt).toNat : Int) == 59) = true := beq_iff_eq.2 (by omega)
                  have hx : ((s[k]'hlt).toNat == 59) = true := by simpa using h59
                  have HX := hide hx
                  clear h35 h59 hx
                  go_wp2_with (first
                    | (go_at_call 53; refine (gap_byte _ _).mono ?_; rintro e w' ⟨rfl, hw⟩; rw [hw]; clear hw w')
                    | (go_at_call 54; refine (letter_byte _ _).mono ?_; rintro e w' ⟨rfl, hw⟩; rw [hw]; clear hw w')
                    | (go_at_call 55; refine (digit_byte _ _).mono ?_; rintro e w' ⟨rfl, hw⟩; rw [hw]; clear hw w'))
                  go_step3
                  show _ ∧ _
                  refine ⟨Or.inr (Or.inr (Or.inr (Or.inr (Or.inr (Or.inl ⟨rfl, k, L, v, hlt, unhide HX, ⟨unhide HA, hLk, unhide HO, unhide HB⟩, frame_at rfl⟩))))), ?_⟩
                  simp [Mea, intOf]
                · have e59 : (((s[k]'hlt).toNat : Int) == 59) = false := beq_eq_false_iff_ne.2 (by omega)
                  have HE := hide (odd_err hlt h35 hg hs hd h59 (unhide HA))
                  clear h35 h59
                  go_wp2_with (first
                    | (go_at_call 53; refine (gap_byte _ _).mono ?_; rintro e w' ⟨rfl, hw⟩; rw [hw]; clear hw w')
                    | (go_at_call 54; refine (letter_byte _ _).mono ?_; rintro e w' ⟨rfl, hw⟩; rw [hw]; clear hw w')
                    | (go_at_call 55; refine (digit_byte _ _).mono ?_; rintro e w' ⟨rfl, hw⟩; rw [hw]; clear hw w'))
                  go_step3
                  show _ ∧ _
                  refine ⟨Or.inr (Or.inr (Or.inr (Or.inr (Or.inr (Or.inr ⟨rfl, k, v, unhide HE, unhide HB, frame_at rfl⟩))))), ?_⟩
                  simp [Mea, intOf]
              · have HX := hide hd
                clear h35
                go_wp2_with (first
                  | (go_at_call 53; refine (gap_byte _ _).mono ?_; rintro e w' ⟨rfl, hw⟩; rw [hw]; clear hw w')
                  | (go_at_call 54; refine (letter_byte _ _).mono ?_; rintro e w' ⟨rfl, hw⟩; rw [hw]; clear hw w')
                  | (go_at_call 55; refine (digit_byte _ _).mono ?_; rintro e w' ⟨rfl, hw⟩; rw [hw]; clear hw w'))
                go_step3
                show _ ∧ _
                refine ⟨Or.inr (Or.inr (Or.inr (Or.inr (Or.inl ⟨rfl, k, L, v, hlt, unhide HX, ⟨unhide HA, hLk, unhide HO, unhide HB⟩, frame_at rfl⟩)))), ?_⟩
                simp [Mea, intOf]
            · have HX := hide hs
              clear h35
              go_wp2_with (first
                | (go_at_call 53; refine (gap_byte _ _).mono ?_; rintro e w' ⟨rfl, hw⟩; rw [hw]; clear hw w')
                | (go_at_call 54; refine (letter_byte _ _).mono ?_; rintro e w' ⟨rfl, hw⟩; rw [hw]; clear hw w')
                | (go_at_call 55; refine (digit_byte _ _).mono ?_; rintro e w' ⟨rfl, hw⟩; rw [hw]; clear hw w'))
              go_step3
              show _ ∧ _
              refine ⟨Or.inr (Or.inr (Or.inr (Or.inl ⟨rfl, k, L, v, hlt, unhide HX, ⟨unhide HA, hLk, unhide HO, unhide HB⟩, frame_at rfl⟩))), ?_⟩
              simp [Mea, intOf]
        · have HX := hide hg
          go_wp2_with (first
            | (go_at_call 53; refine (gap_byte _ _).mono ?_; rintro e w' ⟨rfl, hw⟩; rw [hw]; clear hw w')
            | (go_at_call 54; refine (letter_byte _ _).mono ?_; rintro e w' ⟨rfl, hw⟩; rw [hw]; clear hw w')
            | (go_at_call 55; refine (digit_byte _ _).mono ?_; rintro e w' ⟨rfl, hw⟩; rw [hw]; clear hw w'))
          go_step3
          show _ ∧ _
          refine ⟨Or.inr (Or.inl ⟨rfl, k, L, v, hlt, unhide HX, ⟨unhide HA, hLk, unhide HO, unhide HB⟩, frame_at rfl⟩), ?_⟩
          simp [Mea, intOf]
      · have hkz : k = s.size := by omega
        subst hkz
        have ht := tokens_ok (unhide TL) (ahead_end hah)
        rw [bl_len] at ht
        have HT := hide ht
        clear ht hah hlt
        go_wp2_with (at_builtin; refine wpList_append_own _ rfl _ _ 66 rfl W.heap.size 63 i0 (.agg #[.int .i64 0, .string ⟨#[]⟩, .int .i64 0, .int .i64 0]) 4 40 (by kernel_rfl) hi hz0 hz1 hz2 rfl (by decide) _ _ _ rfl (hown.alloc _) ⟨wr.heap.size, 0, none⟩ 1 1 (tokC ⟨4, [], 0, s.size⟩) rfl rfl (fresh_tok' wr ⟨4, [], 0, s.size⟩ _ rfl) (one_tok _) (by unfold maxLen; omega) (by omega) (by simp; omega) ?_)
        intro v' w2 hown' hgrow _
        have R := hide (own_tok (t := ⟨4, [], 0, s.size⟩) (by simp; omega) (hown.alloc _) (hbel.alloc BB _) hown' hgrow)
        clear hown' hgrow hown hbel
        go_wp2
        simp only [Jumps]
        go_ret3
        exact ⟨_, ret_toks (by rw [unhide HT]) (by rw [unhide HT]), by rw [unhide HT]; exact own_up (unhide R).1 (unhide HW).size, bel2 (unhide HW) (unhide R).2⟩
    · refine ⟨_, rfl, ?_⟩
      obtain ⟨k, L, v, hk, hp, ⟨hah, hLk, hown, hbel⟩, f, rfl⟩ := hJ
      have hto := gap_to hah
      have hle := run_le gapC s (Nat.le_of_lt hk)
      have hpos := run_pos (p := gapC) hk hp
      have CR := hide (fun w => run_any 53 gapC Try.call53 gap_byte s k hmax (Nat.le_of_lt hk) w)
      generalize runN gapC s k = m at *
      have HO := hide hown
      have HB := hide hbel
      have HA := hide hto
      clear hto hah hown hbel hp
      go_wp2_with fail
      refine (unhide CR _).mono ?_
      rintro e w' ⟨rfl, hw⟩
      rw [hw]; clear hw w'
      go_wp2
      go_step3
      show _ ∧ _
      refine ⟨Or.inl ⟨rfl, k + m, L, v, hle, ⟨unhide HA, by omega, unhide HO, unhide HB⟩, frame_at rfl⟩, ?_⟩
      simp [Mea, intOf]; omega
    · refine ⟨_, rfl, ?_⟩
      obtain ⟨k, L, v, hk, hp, ⟨hah, hLk, hown, hbel⟩, f, rfl⟩ := hJ
      have hto := note_to hk (by simpa using hp) hah
      have hle := run_le noteC s (Nat.le_of_lt hk)
      have hpos := run_pos (p := noteC) hk (note_hash hp)
      have CR := hide (fun w => run_any 57 noteC Try.call57 note_byte s k hmax (Nat.le_of_lt hk) w)
      generalize runN noteC s k = m at *
      have HO := hide hown
      have HB := hide hbel
      have HA := hide hto
      clear hto hah hown hbel hp
      go_wp2_with fail
      refine (unhide CR _).mono ?_
      rintro e w' ⟨rfl, hw⟩
      rw [hw]; clear hw w'
      go_wp2
      go_step3
      show _ ∧ _
      refine ⟨Or.inl ⟨rfl, k + m, L, v, hle, ⟨unhide HA, by omega, unhide HO, unhide HB⟩, frame_at rfl⟩, ?_⟩
      simp [Mea, intOf]; omega
    · refine ⟨_, rfl, ?_⟩
      obtain ⟨k, L, v, hk, hp, ⟨hah, hLk, hown, hbel⟩, f, rfl⟩ := hJ
      have hle := run_le nameC s (Nat.le_of_lt hk)
      have hpos := run_pos (p := nameC) hk (by simp [nameC, hp])
      have hsz := run_size nameC s k
      have CR := hide (fun w => run_any 58 nameC Try.call58 name_byte s k hmax (Nat.le_of_lt hk) w)
      by_cases h12 : 12 < runN nameC s k
      · have HE := hide (name_err hk hp h12 hah)
        have HB := hide hbel
        have h12' : (12 : Int) < ((k + runN nameC s k : Nat) : Int) - k := by omega
        generalize k + runN nameC s k = E at *
        clear hah hown hbel hp hsz h12 hpos
        go_wp2_with fail
        refine (unhide CR _).mono ?_
        rintro e w' ⟨rfl, hw⟩
        rw [hw]; clear hw w'
        go_wp2
        go_step3
        show _ ∧ _
        refine ⟨Or.inr (Or.inr (Or.inr (Or.inr (Or.inr (Or.inr ⟨rfl, k, v, unhide HE, unhide HB, frame_at rfl⟩))))), ?_⟩
        simp [Mea, intOf]
      · have hto : Ahead s (k + runN nameC s k) (L ++ [nameTok (bl (s.extract k (k + runN nameC s k))) k]) := name_to hk hp h12 hah
        have CN := hide (named_any w.heap.size 0 10 (s.extract k (k + runN nameC s k)) k wr (wrow_bel (unhide HR) hbel) (by omega) (by omega))
        have h12' : ((k + runN nameC s k : Nat) : Int) - k ≤ 12 := by omega
        have hkE : k < k + runN nameC s k := by omega
        have hLE : L.length + 1 ≤ k + runN nameC s k := by omega
        generalize k + runN nameC s k = E at *
        generalize nameTok (bl (s.extract k E)) k = t at hto CN
        obtain ⟨kd, tx, tn, tp⟩ := t
        have hkE' : (k : Int) ≤ E := by omega
        have hle' : (E : Int) ≤ s.size := by omega
        have HO := hide hown
        have HB := hide hbel
        have HA := hide hto
        clear hto hah hown hbel hp hsz h12 hpos
        go_wp2_with fail
        refine (unhide CR _).mono ?_
        rintro e w' ⟨rfl, hw⟩
        rw [hw]; clear hw w'
        go_wp2_with fail
        refine (unhide CN).mono ?_
        rintro e w1 ⟨rfl, bel⟩
        rw [tokV]
        have hown1 := own_bel (unhide HO) bel
        have hbel1 := (unhide HB).trans (bel.mono (unhide HB).size)
        have BB := hbel1.size
        clear bel
        go_wp2_with (at_builtin; refine wpList_append_own _ rfl _ _ 66 rfl W.heap.size 63 i0 (.agg #[.int .i64 0, .string ⟨#[]⟩, .int .i64 0, .int .i64 0]) 4 40 (by kernel_rfl) hi hz0 hz1 hz2 rfl (by decide) _ _ _ rfl (hown1.alloc _) ⟨w1.heap.size, 0, none⟩ 1 1 (tokC ⟨kd, tx, tn, tp⟩) rfl rfl (fresh_tok' w1 ⟨kd, tx, tn, tp⟩ _ rfl) (one_tok _) (by unfold maxLen; omega) (by omega) (by simp; omega) ?_)
        intro v' w2 hown' hgrow _
        have R := hide (own_tok (t := ⟨kd, tx, tn, tp⟩) (by simp; omega) (hown1.alloc _) (hbel1.alloc BB _) hown' hgrow)
        clear hown' hgrow hown1 hbel1
        go_wp2
        go_step3
        show _ ∧ _
        refine ⟨Or.inl ⟨rfl, E, _, v', hle, ⟨unhide HA, by rw [List.length_append, List.length_singleton]; omega, (unhide R).1, (unhide R).2⟩, frame_at rfl⟩, ?_⟩
        simp [Mea, intOf]; omega
    · refine ⟨_, rfl, ?_⟩
      obtain ⟨k, L, v, hk, hp, ⟨hah, hLk, hown, hbel⟩, f, rfl⟩ := hJ
      have hle := run_le digitC s (Nat.le_of_lt hk)
      have hpos := run_pos (p := digitC) hk hp
      have hsz := run_size digitC s k
      have hall := run_all digitC s k
      have CR := hide (fun w => run_any 55 digitC Try.call55 digit_byte s k hmax (Nat.le_of_lt hk) w)
      by_cases h9 : 9 < runN digitC s k ∨ (1 < runN digitC s k ∧ (s[k]'hk).toNat = 48)
      · have HE := hide (num_err hk hp h9 hah)
        have HB := hide hbel
        by_cases h9' : 9 < runN digitC s k
        · have h9i : (9 : Int) < ((k + runN digitC s k : Nat) : Int) - k := by omega
          generalize k + runN digitC s k = E at *
          clear hah hown hbel hp hsz hall h9 h9' hpos
          go_wp2_with fail
          refine (unhide CR _).mono ?_
          rintro e w' ⟨rfl, hw⟩
          rw [hw]; clear hw w'
          go_wp2
          go_step3
          show _ ∧ _
          refine ⟨Or.inr (Or.inr (Or.inr (Or.inr (Or.inr (Or.inr ⟨rfl, k, v, unhide HE, unhide HB, frame_at rfl⟩))))), ?_⟩
          simp [Mea, intOf]
        · have h9i : ¬ (9 : Int) < ((k + runN digitC s k : Nat) : Int) - k := by omega
          have h1i : (1 : Int) < ((k + runN digitC s k : Nat) : Int) - k := by omega
          have hz : (((s[k]'hk).toNat : Int) == 48) = true := beq_iff_eq.2 (by omega)
          have hk' : (k : Int) < s.size := by omega
          generalize k + runN digitC s k = E at *
          clear hah hown hbel hp hsz hall h9 h9' hpos
          go_wp2_with fail
          refine (unhide CR _).mono ?_
          rintro e w' ⟨rfl, hw⟩
          rw [hw]; clear hw w'
          go_wp2
          go_step3
          show _ ∧ _
          refine ⟨Or.inr (Or.inr (Or.inr (Or.inr (Or.inr (Or.inr ⟨rfl, k, v, unhide HE, unhide HB, frame_at rfl⟩))))), ?_⟩
          simp [Mea, intOf]
      · have hto := num_to hk hp h9 hah
        have CV := hide (fun w => value_any (s.extract k (k + runN digitC s k)) w (by omega) hall)
        have h9i : ¬ (9 : Int) < ((k + runN digitC s k : Nat) : Int) - k := by omega
        have hkE : k < k + runN digitC s k := by omega
        have hLE : L.length + 1 ≤ k + runN digitC s k := by omega
        have hz : (1 : Int) < ((k + runN digitC s k : Nat) : Int) - k → (((s[k]'hk).toNat : Int) == 48) = false := fun h => beq_eq_false_iff_ne.2 (by omega)
        generalize k + runN digitC s k = E at *
        generalize numV (bl (s.extract k E)) = V at hto CV
        have hkE' : (k : Int) ≤ E := by omega
        have hle' : (E : Int) ≤ s.size := by omega
        have hk' : (k : Int) < s.size := by omega
        have HA := hide hto
        have BB := hbel.size
        clear hto hah hp hsz hall h9 hpos
        by_cases h1 : (1 : Int) < (E : Int) - k
        · replace hz := hz h1
          go_wp2_with fail
          refine (unhide CR _).mono ?_
          rintro e w' ⟨rfl, hw⟩
          rw [hw]; clear hw w'
          go_wp2_with fail
          refine (unhide CV _).mono ?_
          rintro e w' ⟨rfl, hw⟩
          rw [hw]; clear hw w'
          go_wp2_with (at_builtin; refine wpList_append_own _ rfl _ _ 66 rfl W.heap.size 63 i0 (.agg #[.int .i64 0, .string ⟨#[]⟩, .int .i64 0, .int .i64 0]) 4 40 (by kernel_rfl) hi hz0 hz1 hz2 rfl (by decide) _ _ _ rfl (hown.alloc _) ⟨wr.heap.size, 0, none⟩ 1 1 (tokC ⟨2, [], V, k⟩) rfl rfl (fresh_tok' wr ⟨2, [], V, k⟩ _ rfl) (one_tok _) (by unfold maxLen; omega) (by omega) (by simp; omega) ?_)
          intro v' w2 hown' hgrow _
          have R := hide (own_tok (t := ⟨2, [], V, k⟩) (by simp; omega) (hown.alloc _) (hbel.alloc BB _) hown' hgrow)
          clear hown' hgrow hown hbel
          go_wp2
          go_step3
          show _ ∧ _
          refine ⟨Or.inl ⟨rfl, E, _, v', hle, ⟨unhide HA, by rw [List.length_append, List.length_singleton]; omega, (unhide R).1, (unhide R).2⟩, frame_at rfl⟩, ?_⟩
          simp [Mea, intOf]; omega
        · clear hz
          go_wp2_with fail
          refine (unhide CR _).mono ?_
          rintro e w' ⟨rfl, hw⟩
          rw [hw]; clear hw w'
          go_wp2_with fail
          refine (unhide CV _).mono ?_
          rintro e w' ⟨rfl, hw⟩
          rw [hw]; clear hw w'
          go_wp2_with (at_builtin; refine wpList_append_own _ rfl _ _ 66 rfl W.heap.size 63 i0 (.agg #[.int .i64 0, .string ⟨#[]⟩, .int .i64 0, .int .i64 0]) 4 40 (by kernel_rfl) hi hz0 hz1 hz2 rfl (by decide) _ _ _ rfl (hown.alloc _) ⟨wr.heap.size, 0, none⟩ 1 1 (tokC ⟨2, [], V, k⟩) rfl rfl (fresh_tok' wr ⟨2, [], V, k⟩ _ rfl) (one_tok _) (by unfold maxLen; omega) (by omega) (by simp; omega) ?_)
          intro v' w2 hown' hgrow _
          have R := hide (own_tok (t := ⟨2, [], V, k⟩) (by simp; omega) (hown.alloc _) (hbel.alloc BB _) hown' hgrow)
          clear hown' hgrow hown hbel
          go_wp2
          go_step3
          show _ ∧ _
          refine ⟨Or.inl ⟨rfl, E, _, v', hle, ⟨unhide HA, by rw [List.length_append, List.length_singleton]; omega, (unhide R).1, (unhide R).2⟩, frame_at rfl⟩, ?_⟩
          simp [Mea, intOf]; omega
    · refine ⟨_, rfl, ?_⟩
      obtain ⟨k, L, v, hk, hp, ⟨hah, hLk, hown, hbel⟩, f, rfl⟩ := hJ
      have hto := semi_to hk (by simpa using hp) hah
      have HA := hide hto
      have BB := hbel.size
      clear hto hah hp
      go_wp2_with (at_builtin; refine wpList_append_own _ rfl _ _ 66 rfl W.heap.size 63 i0 (.agg #[.int .i64 0, .string ⟨#[]⟩, .int .i64 0, .int .i64 0]) 4 40 (by kernel_rfl) hi hz0 hz1 hz2 rfl (by decide) _ _ _ rfl (hown.alloc _) ⟨wr.heap.size, 0, none⟩ 1 1 (tokC ⟨3, [59], 0, k⟩) rfl rfl (fresh_tok' wr ⟨3, [59], 0, k⟩ _ rfl) (one_tok _) (by unfold maxLen; omega) (by omega) (by simp; omega) ?_)
      intro v' w2 hown' hgrow _
      have R := hide (own_tok (t := ⟨3, [59], 0, k⟩) (by simp; omega) (hown.alloc _) (hbel.alloc BB _) hown' hgrow)
      clear hown' hgrow hown hbel
      go_wp2
      go_step3
      show _ ∧ _
      refine ⟨Or.inl ⟨rfl, k + 1, _, v', hk, ⟨unhide HA, by rw [List.length_append, List.length_singleton]; omega, (unhide R).1, (unhide R).2⟩, frame_at rfl⟩, ?_⟩
      simp [Mea, intOf]; omega
    · refine ⟨_, rfl, ?_⟩
      obtain ⟨k, v, he, hbel, f, rfl⟩ := hJ
      have HT := hide (tokens_err (unhide TL) he)
      have HB := hide hbel
      clear he hbel
      go_wp2
      simp only [Jumps]
      go_ret3
      exact ⟨_, ret_toks (by rw [unhide HT]) (by rw [unhide HT]), by rw [unhide HT]; exact World.ownsRow_nil _ _ _ _, bel2 (unhide HW) (unhide HB)⟩
  · intro hp
    go_wp2_with fail
    refine (unhide CW).mono ?_
    rintro e w' ⟨rfl, hw⟩
    rw [hw]; clear hw w'
    go_wp2
    go_step3
    rename_i hK
    refine hK _ _ ?_
    refine hp _ _ (Or.inl ⟨rfl, 0, [], .slice none 0 0, Nat.zero_le _, ⟨ahead_nil s, Nat.le_refl _, World.ownsRow_nil _ _ _ _, Below.refl _ _⟩, frame_at rfl⟩)
theorem code_T : LexT := fun s w => by
  by_cases h : s.size ≤ 4000
  · exact code_some s w h
  · exact code_long s w (by omega)
end Go.Proofs.Ytndhjfpjhpnbaaa.Lex
