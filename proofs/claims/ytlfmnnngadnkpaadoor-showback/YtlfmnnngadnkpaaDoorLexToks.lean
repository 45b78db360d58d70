/- What Tokens of the reference of chapter 4 answers: for all texts. -/
import Derived.Test.YtlfmnnngadnkpaaDoorLexRef2
namespace Go.Proofs.YtlfmnnngadnkpaaDoor.Lex
open Go.ChangeShapes Go.WideShapes Go.RowKit

def tokC (t : Tok) : List Value := [.int .i64 t.kind, .string (mkS t.text), .int .i64 t.n, .int .i64 t.pos]
theorem ret_toks {v : Value} {a b : Int} {A : Ans} (h1 : A.pos = a) (h2 : A.err = b) : Ending.returned (.tuple #[v, .int .i64 a, .int .i64 b]) = .returned (.tuple #[v, .int .i64 A.pos, .int .i64 A.err]) := by rw [h1, h2]
theorem Tryd.info_tok : (Tryd.prog.info? 62).map (fun i => (i.zero, i.size, i.bytes)) = some (some (.agg #[.int .i64 0, .string ⟨#[]⟩, .int .i64 0, .int .i64 0]), 4, 40) := by kernel_rfl

theorem own_bel {w w1 : World} {base : Nat} {v : Value} {n : Nat} {xs : List Value} (h : w.ownsRow base 62 4 v n xs) (hb : Below w.heap.size w w1) : w1.ownsRow base 62 4 v n xs :=
  ⟨h.1, h.2.imp id fun ⟨g, cap, cur, e, hg, hc, r⟩ => ⟨g, cap, cur, e, hg, by
    have hlt : g < w.heap.size := by
      rcases Nat.lt_or_ge g w.heap.size with l | l
      · exact l
      · rw [Array.getElem?_eq_none l] at hc; cases hc
    rw [hb.block g hlt]; exact hc, r⟩⟩
theorem fresh_tok (w : World) (t : Tok) (ty : TypeId) : ∀ j u, (tokC t)[j]? = some u → (w.alloc (.cells #[.int .i64 t.kind, .string (mkS t.text), .int .i64 t.n, .int .i64 t.pos] ty)).cell? ((⟨w.heap.size, 0, none⟩ : Addr).add j) = some u := by
  intro j u hj
  match j, hj with
  | 0, hj => simp [tokC] at hj; subst hj; simp [Addr.add]
  | 1, hj => simp [tokC] at hj; subst hj; simp [Addr.add]
  | 2, hj => simp [tokC] at hj; subst hj; simp [Addr.add]
  | 3, hj => simp [tokC] at hj; subst hj; simp [Addr.add]
theorem fresh_tok' (w : World) (t : Tok) (ty : TypeId) {n : Nat} (hn : w.heap.size = n) : ∀ j u, (tokC t)[j]? = some u → (w.alloc (.cells #[.int .i64 t.kind, .string (mkS t.text), .int .i64 t.n, .int .i64 t.pos] ty)).cell? ((⟨n, 0, none⟩ : Addr).add j) = some u := by
  subst hn; exact fresh_tok w t ty
theorem one_tok (t : Tok) : ∀ u ∈ tokC t, u.oneCell' = true := by
  intro u hu
  simp [tokC] at hu
  rcases hu with rfl | rfl | rfl | rfl <;> rfl
theorem own_tok {B : Nat} {w wr w1 : World} {v v' : Value} {L : List Tok} {t : Tok} (hB : B ≤ wr.heap.size)
    (hown : wr.ownsRow B 62 4 v L.length (L.flatMap tokC)) (hnx : Below B w wr)
    (hown' : w1.ownsRow B 62 4 v' (L.length + 1) (L.flatMap tokC ++ tokC t)) (hgrow : wr.grownBy w1 v.ownBlock) :
    w1.ownsRow B 62 4 v' (L ++ [t]).length ((L ++ [t]).flatMap tokC) ∧ Below B w w1 :=
  ⟨by simpa using hown', hnx.grown hgrow hB (fun j hj => (hown.lt j hj).1)⟩
theorem drop_at (s : ByteArray) (k : Nat) (h : k < s.size) : (bl s).drop k = (s[k]'h) :: (bl s).drop (k + 1) := by
  have hl : k < (bl s).length := by rw [bl_len]; exact h
  rw [List.drop_eq_getElem_cons hl]
  have := bl_at s k h
  rw [List.getElem?_eq_getElem hl] at this
  rw [Option.some.inj this]
theorem bl_from (s : ByteArray) (k : Nat) : bl (s.extract k s.size) = (bl s).drop k := by
  rw [bl_extract]
  exact List.take_of_length_le (by rw [List.length_drop, bl_len]; omega)
theorem size_from (s : ByteArray) (k : Nat) : (s.extract k s.size).size = s.size - k := by rw [← bl_len, bl_from, List.length_drop, bl_len]
theorem map_app (L : List Tok) (e : Except Nat (List Tok)) (t : Tok) : (e.map (t :: ·)).map (L ++ ·) = e.map ((L ++ [t]) ++ ·) := by
  cases e <;> simp [Except.map]
theorem tokens_err {l : List UInt8} {i : Nat} (hl : l.length ≤ 4000) (h : toksA false 0 l = .error i) : tokens l = ⟨[], i, 2⟩ := by
  rw [tokens, if_neg (by omega), h]
theorem tokens_ok {l : List UInt8} {L : List Tok} (hl : l.length ≤ 4000) (h : toksA false 0 l = .ok L) : tokens l = ⟨L ++ [⟨4, [], 0, l.length⟩], l.length, 0⟩ := by
  rw [tokens, if_neg (by omega), h]

set_option maxHeartbeats 1600000 in
set_option maxRecDepth 1000000 in
theorem rtokens_some (s : ByteArray) (w : World) (hmax : s.size ≤ 4000) : Calls Tryd.prog 25 #[.string s] w fun e w' =>
    ∃ v, e = .returned (.tuple #[v, .int .i64 (tokens (bl s)).pos, .int .i64 (tokens (bl s)).err]) ∧ w'.ownsRow w.heap.size 62 4 v (tokens (bl s)).toks.length ((tokens (bl s)).toks.flatMap tokC) ∧ Below w.heap.size w w' := by
  obtain ⟨i0, hi, hz0, hz1, hz2⟩ := info_parts Tryd.info_tok
  have hmax' : (s.size : Int) ≤ 4000 := by omega
  go_enter Tryd.func25, Tryd.ntmps25
  go_wp2
  go_loopw [5, 6, 7] (fun v nt i wr => ∃ (k : Nat) (note : Bool) (L : List Tok), k ≤ s.size ∧ i = .int .i64 k ∧ nt = .bool note ∧ toksA false 0 (bl s) = (toksA note k ((bl s).drop k)).map (L ++ ·) ∧ L.length ≤ k
      ∧ wr.ownsRow w.heap.size 62 4 v L.length (L.flatMap tokC) ∧ Below w.heap.size w wr)
    (fun _ _ i _ => s.size - (intOf i).toNat)
  case atStart => exact ⟨0, false, [], Nat.zero_le _, rfl, rfl, by rw [List.drop_zero]; cases toksA false 0 (bl s) <;> rfl, Nat.le_refl _, World.ownsRow_nil _ _ _ _, Below.refl _ _⟩
  case round =>
    obtain ⟨k, note, L, hk, rfl, rfl, hsp, hLk, hown, hnx⟩ := hrel
    by_cases hlt : k < s.size
    · have hlt' : (k : Int) < s.size := by omega
      have hdr := drop_at s k hlt
      have hcs := toksA_cons note k (s[k]'hlt) ((bl s).drop (k + 1))
      rw [← hdr] at hcs
      have hnb : (((s[k]'hlt).toNat : Int) != 10) = ((s[k]'hlt).toNat != 10) := by rw [Bool.eq_iff_iff]; simp; omega
      cases hq : (note || (s[k]'hlt).toNat == 35)
      · rw [hq] at hcs
        obtain ⟨rfl, h35⟩ : note = false ∧ ((s[k]'hlt).toNat == 35) = false := by simpa using hq
        have e1 : (((s[k]'hlt).toNat : Int) == 35) = false := by simp at h35 ⊢; omega
        cases hb : ((s[k]'hlt).toNat == 32 || (s[k]'hlt).toNat == 10)
        · rw [hb] at hcs
          obtain ⟨b1, b2⟩ : ((s[k]'hlt).toNat == 32) = false ∧ ((s[k]'hlt).toNat == 10) = false := by simpa using hb
          have e2 : (((s[k]'hlt).toNat : Int) == 32) = false := by simp at b1 ⊢; omega
          have e3 : (((s[k]'hlt).toNat : Int) == 10) = false := by simp at b2 ⊢; omega
          have hx := bl_from s k
          have hsz := size_from s k
          have co := fun w => rone_any (s.extract k s.size) w (by omega) (by omega)
          rw [hx] at co
          cases ho : oneOf ((bl s).drop k) with
          | none =>
            simp only [Bool.false_eq_true, if_false, ho] at hcs
            have ht : tokens (bl s) = ⟨[], k, 2⟩ := tokens_err (by rw [bl_len]; exact hmax) (by rw [hsp, hcs]; rfl)
            rw [(one_none ho).1, (one_none ho).2] at co
            have CO := hide co
            have HT := hide ht
            have HNX := hide hnx
            clear co hx hcs hsp hdr hown hnx hnb ht ho b1 b2 hb hq h35 hsz
            go_wp2_with fail
            refine (unhide CO _).mono ?_
            rintro e w1 ⟨rfl, bel⟩
            rw [tokV, noTok]
            have B := hide ((unhide HNX).trans (bel.mono (unhide HNX).size))
            clear bel
            go_wp2
            go_ret3
            exact ⟨_, ret_toks (by rw [unhide HT]) (by rw [unhide HT]), by rw [unhide HT]; exact World.ownsRow_nil _ _ _ _, by (repeat' (first | exact (unhide B) | refine Below.alloc ?_ (by have := (unhide B).size; simp <;> omega) _))⟩
          | some p =>
            obtain ⟨t, m⟩ := p
            have hm := oneOf_le ho
            rw [List.length_drop, bl_len] at hm
            simp only [Bool.false_eq_true, if_false, ho] at hcs
            have hsp' : toksA false 0 (bl s) = (toksA false (k + m) ((bl s).drop (k + m))).map ((L ++ [{ t with pos := k }]) ++ ·) := by
              rw [hsp, hcs, ← map_app, List.drop_drop]
            rw [(one_some ho).1, (one_some ho).2] at co
            have CO := hide co
            have HSP := hide hsp'
            have HOWN := hide hown
            have HNX := hide hnx
            have hmi : (0 : Int) < m := by omega
            have hmz : ((m : Int) == 0) = false := by simp; omega
            clear co hx hcs hsp hsp' hdr hown hnx hnb ho b1 b2 hb hq h35 hsz
            go_wp2_with fail
            refine (unhide CO _).mono ?_
            rintro e w1 ⟨rfl, bel⟩
            rw [tokV]
            have hown1 := own_bel (unhide HOWN) bel
            have hnx1 := (unhide HNX).trans (bel.mono (unhide HNX).size)
            obtain ⟨kd, tx, tn, tp⟩ := t
            clear bel
            go_wp2_with (at_builtin; refine wpList_append_own _ rfl _ _ 53 rfl w.heap.size 62 i0 (.agg #[.int .i64 0, .string ⟨#[]⟩, .int .i64 0, .int .i64 0]) 4 40 (by kernel_rfl) hi hz0 hz1 hz2 rfl (by decide) _ _ _ rfl ((hown1.alloc _).alloc _) ⟨w1.heap.size + 1, 0, none⟩ 1 1 (tokC ⟨kd, tx, tn, k⟩) rfl rfl (fresh_tok' (w1.alloc _) ⟨kd, tx, tn, k⟩ _ (by simp)) (one_tok _) (by unfold maxLen; omega) (by omega) (by have := hnx1.size; simp; omega) ?_)
            intro v' w2 hown' hgrow _
            have R := own_tok (t := ⟨kd, tx, tn, k⟩) (by have := hnx1.size; simp; omega) ((hown1.alloc _).alloc _) ((hnx1.alloc hnx1.size _).alloc (by have := hnx1.size; simp; omega) _) hown' hgrow
            clear hown' hgrow hown1 hnx1
            go_wp2
            go_roundw
            case rel => exact ⟨k + m, false, L ++ [⟨kd, tx, tn, k⟩], by omega, by go_num, rfl, unhide HSP, by rw [List.length_append, List.length_singleton]; omega, R.1, R.2⟩
            case measure => simp [intOf]; omega
        · rw [hb] at hcs
          simp only [Bool.false_eq_true, if_false, if_true] at hcs
          have hsp' : toksA false 0 (bl s) = (toksA false (k + 1) ((bl s).drop (k + 1))).map (L ++ ·) := by rw [hsp, hcs]
          have HSP := hide hsp'
          have HOWN := hide hown
          have HNX := hide hnx
          clear hcs hsp hsp' hdr hown hnx hnb
          by_cases b1 : (s[k]'hlt).toNat = 32
          · have e2 : (((s[k]'hlt).toNat : Int) == 32) = true := by simp; omega
            clear hb hq h35 b1
            go_wp2
            go_roundw
            case rel => exact ⟨k + 1, false, L, by omega, by go_num, by first | rfl | simp, unhide HSP, by omega, unhide HOWN, unhide HNX⟩
            case measure => simp [intOf]; omega
          · have e2 : (((s[k]'hlt).toNat : Int) == 32) = false := by simp; omega
            have e3 : (((s[k]'hlt).toNat : Int) == 10) = true := by simp at hb ⊢; omega
            clear hb hq h35 b1
            go_wp2
            go_roundw
            case rel => exact ⟨k + 1, false, L, by omega, by go_num, by first | rfl | simp, unhide HSP, by omega, unhide HOWN, unhide HNX⟩
            case measure => simp [intOf]; omega
      · rw [hq] at hcs
        have hsp' : toksA false 0 (bl s) = (toksA ((s[k]'hlt).toNat != 10) (k + 1) ((bl s).drop (k + 1))).map (L ++ ·) := by rw [hsp, hcs]; rfl
        generalize hnbv : ((s[k]'hlt).toNat != 10) = nb at *
        have HSP := hide hsp'
        have HOWN := hide hown
        have HNX := hide hnx
        clear hcs hsp hsp' hdr hown hnx
        cases note
        · have e1 : (((s[k]'hlt).toNat : Int) == 35) = true := by simp at hq ⊢; omega
          clear hq hnbv
          go_wp2
          go_roundw
          case rel => exact ⟨k + 1, nb, L, by omega, by go_num, by first | rfl | simp, unhide HSP, by omega, unhide HOWN, unhide HNX⟩
          case measure => simp [intOf]; omega
        · clear hq hnbv
          go_wp2
          go_roundw
          case rel => exact ⟨k + 1, nb, L, by omega, by go_num, by first | rfl | simp, unhide HSP, by omega, unhide HOWN, unhide HNX⟩
          case measure => simp [intOf]; omega
    · have hkz : k = s.size := by omega
      have hlt' : ¬ (k : Int) < s.size := by omega
      have ht : tokens (bl s) = ⟨L ++ [⟨4, [], 0, s.size⟩], s.size, 0⟩ := by
        rw [List.drop_of_length_le (by rw [bl_len]; omega), toksA_nil] at hsp
        have := tokens_ok (l := bl s) (L := L) (by rw [bl_len]; exact hmax) (by rw [hsp]; simp [Except.map])
        rw [bl_len] at this
        exact this
      have HT := hide ht
      clear ht hsp
      go_wp2_with (at_builtin; refine wpList_append_own _ rfl _ _ 53 rfl w.heap.size 62 i0 (.agg #[.int .i64 0, .string ⟨#[]⟩, .int .i64 0, .int .i64 0]) 4 40 (by kernel_rfl) hi hz0 hz1 hz2 rfl (by decide) _ _ _ rfl (hown.alloc _) ⟨wr.heap.size, 0, none⟩ 1 1 (tokC ⟨4, [], 0, s.size⟩) rfl rfl (fresh_tok' wr ⟨4, [], 0, s.size⟩ _ rfl) (one_tok _) (by unfold maxLen; omega) (by omega) (by have := hnx.size; simp; omega) ?_)
      intro v' w2 hown' hgrow _
      have R := own_tok (t := ⟨4, [], 0, s.size⟩) (by have := hnx.size; simp; omega) (hown.alloc _) (hnx.alloc hnx.size _) hown' hgrow
      clear hown' hgrow hown hnx
      go_wp2
      go_ret3
      exact ⟨_, ret_toks (by rw [unhide HT]) (by rw [unhide HT]), by rw [unhide HT]; exact R.1, R.2⟩
end Go.Proofs.YtlfmnnngadnkpaaDoor.Lex
