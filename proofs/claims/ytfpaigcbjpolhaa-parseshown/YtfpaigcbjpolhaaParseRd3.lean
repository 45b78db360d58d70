/- The reader's rows: regions, cache sets, a mode. -/
import Derived.Test.YtfpaigcbjpolhaaParseRd2
import Derived.Test.YtfpaigcbjpolhaaBitsList
namespace Go.Proofs.Ytfpaigcbjpolhaa.Lex
open Go.ChangeShapes Go.WideShapes Go.RowKit

/- a cache set -/
def csetP (last : Int) : Left → Int × Left
  | .ok (t :: r) => if t.kind == 2 then (if 64 ≤ t.n ∨ t.n ≤ last then (0, .error (3, t.pos)) else (t.n, .ok r)) else (0, .error (2, t.pos))
  | .ok [] => (0, .error (2, 0))
  | .error p => (0, .error p)
set_option maxHeartbeats 800000 in
theorem cset_any (R : Nat) (last : Int) (x : Left) (w : World) (h : RAt w R x) : Calls Try.prog 59 #[.pointer (some ⟨R, 0, none⟩), .int .i64 last] w fun e w' => e = .returned (.int .i64 (csetP last x).1) ∧ RAt w' R (csetP last x).2 ∧ Mv R w.heap.size w w' := by
  have CS := hide (stands_any R 2 x w h)
  have CN := hide (fun x w h => number_any R x w h)
  have HR := hide h
  have hsz := h.size
  obtain ⟨g, off, cap, L, e, hl, hs⟩ := h
  have r0 : w.cell? ⟨R, 0, none⟩ = some (.slice (some ⟨g, off, none⟩) L.length cap) := cell_block hl.rd
  have r1 : w.cell? ⟨R, 1, none⟩ = some (.int .i64 e) := cell_block hl.rd
  have f0 := fun j => frozen_block (j := j) hl.rd
  cases x with
  | error p =>
    clear hl hs r0 r1 f0
    go_enter Try.func59, Try.ntmps59
    go_wp2_with fail
    refine (unhide CS).mono ?_
    rintro e w' ⟨rfl, hw⟩
    rw [hw]; clear hw w'
    simp only [headIs]
    go_wp2_with fail
    refine (unhide CN _ _ (unhide HR)).mono ?_
    rintro e w1 ⟨rfl, hr, hm⟩
    have HH := hide (And.intro hr hm)
    clear hr hm
    go_wp2
    go_ret
    exact ⟨rfl, unhide HH⟩
  | ok M =>
    obtain ⟨rfl, rfl⟩ := hs
    cases L with
    | nil => exact absurd rfl hl.ok.ne
    | cons t r =>
      have HL := hide hl
      have d2 : w.cell? ⟨g, off + 2, none⟩ = some (.int .i64 t.n) := by simpa using (hl.row 0 (by simp)).c2
      rw [List.length_cons] at r0
      rw [headIs] at CS
      cases hk : t.kind == 2
      · rw [hk] at CS
        have e1 : csetP last (.ok (t :: r)) = (0, .error (2, t.pos)) := by simp [csetP, hk]
        have e2 : goneP 2 (.ok (t :: r)) = .error (2, t.pos) := by simp [goneP, hk]
        have e3 : takeT 2 (.ok (t :: r)) = noTok := by simp [takeT, hk]
        rw [e1]
        have C2 := hide (unhide CN (.ok (t :: r)) w (unhide HR))
        rw [e2, e3] at C2
        clear hk hl e1 e2 e3 r0 r1 f0 d2 CN
        go_enter Try.func59, Try.ntmps59
        go_wp2_with fail
        refine (unhide CS).mono ?_
        rintro e w' ⟨rfl, hw⟩
        rw [hw]; clear hw w'
        go_wp2_with fail
        refine (unhide C2).mono ?_
        rintro e w1 ⟨rfl, hr, hm⟩
        have HH := hide (And.intro hr hm)
        clear hr hm
        go_wp2
        go_ret
        exact ⟨rfl, unhide HH⟩
      · rw [hk] at CS
        by_cases hb : 64 ≤ t.n ∨ t.n ≤ last
        · have e1 : csetP last (.ok (t :: r)) = (0, .error (3, t.pos)) := by simp [csetP, hk, hb]
          rw [e1]
          have C3 := hide (unhide CN (.error (3, posOf (t :: r))) _ (RAt.mkE ((unhide HL).err 3) (by decide)))
          have MV := hide ((Mv.refl R w.heap.size w).setCell (p := ⟨R, 1, none⟩) (.inr rfl) (.int .i64 3))
          clear hk hl e1 CN
          generalize r.length = n at r0
          by_cases h64 : 64 ≤ t.n
          · clear hb
            go_enter Try.func59, Try.ntmps59
            go_wp2_with fail
            refine (unhide CS).mono ?_
            rintro e w' ⟨rfl, hw⟩
            rw [hw]; clear hw w'
            go_wp2_with fail
            refine (unhide C3).mono ?_
            rintro e w1 ⟨rfl, hr, hm⟩
            have HH := hide (And.intro hr ((unhide MV).trans (hm.mono (by simp [World.setCell]))))
            clear hr hm
            go_wp2
            go_ret
            exact ⟨rfl, unhide HH⟩
          · have hle : t.n ≤ last := by omega
            clear hb
            go_enter Try.func59, Try.ntmps59
            go_wp2_with fail
            refine (unhide CS).mono ?_
            rintro e w' ⟨rfl, hw⟩
            rw [hw]; clear hw w'
            go_wp2_with fail
            refine (unhide C3).mono ?_
            rintro e w1 ⟨rfl, hr, hm⟩
            have HH := hide (And.intro hr ((unhide MV).trans (hm.mono (by simp [World.setCell]))))
            clear hr hm
            go_wp2
            go_ret
            exact ⟨rfl, unhide HH⟩
        · have e1 : csetP last (.ok (t :: r)) = (t.n, .ok r) := by simp [csetP, hk, hb]
          have e2 : goneP 2 (.ok (t :: r)) = .ok r := by simp [goneP, hk]
          have e3 : takeT 2 (.ok (t :: r)) = t := by simp [takeT, hk]
          rw [e1]
          have C2 := hide (unhide CN (.ok (t :: r)) w (unhide HR))
          rw [e2, e3] at C2
          have h1 : ¬ 64 ≤ t.n := by omega
          have h2 : ¬ t.n ≤ last := by omega
          clear hk hl e1 e2 e3 CN hb
          generalize r.length = n at r0
          go_enter Try.func59, Try.ntmps59
          go_wp2_with fail
          refine (unhide CS).mono ?_
          rintro e w' ⟨rfl, hw⟩
          rw [hw]; clear hw w'
          go_wp2_with fail
          refine (unhide C2).mono ?_
          rintro e w1 ⟨rfl, hr, hm⟩
          have HH := hide (And.intro hr hm)
          clear hr hm
          go_wp2
          go_ret
          exact ⟨rfl, unhide HH⟩
/- how far it still may go -/
def mea : Left → Nat
  | .ok L => L.length + 1
  | .error _ => 0
def meaW (R : Nat) (w : World) : Nat := match w.heap[R]? with
  | some (.cells cs _ _) => (match cs[0]? with
    | some (Value.slice _ n _) => if intOf (cs.getD 1 undef) = 0 then n + 1 else 0
    | _ => 0)
  | _ => 0
theorem RAt.mea {w : World} {R : Nat} {x : Left} (h : RAt w R x) : meaW R w = mea x := by
  obtain ⟨g, off, cap, L, e, hl, hs⟩ := h
  rw [meaW, hl.rd]
  cases x with
  | ok M => obtain ⟨rfl, rfl⟩ := hs; simp [intOf, Lex.mea]
  | error p => obtain ⟨rfl, hne, -⟩ := hs; simp [intOf, Lex.mea, hne]
theorem RAt.mle {w : World} {R : Nat} {x : Left} (h : RAt w R x) : Lex.mea x ≤ 4002 := by
  cases x with
  | ok M => have := h.okay.len; simp [Lex.mea]; omega
  | error p => simp [Lex.mea]
theorem head_ok {k : Int} {y : Left} (h : headIs k y = true) : ∃ t r, y = .ok (t :: r) ∧ t.kind = k := by
  cases y with
  | error p => cases h
  | ok L =>
    cases L with
    | nil => cases h
    | cons t r => exact ⟨t, r, rfl, by simpa [headIs] using h⟩

/- cache sets -/
def setsX (nm : List UInt8) (x : Left) : Except (Int × Int) (Nat × List Tok) := thenE x (setsOf nm)
theorem ofN_one {n : Int} (h0 : 0 ≤ n) (h1 : n < 64) : Bits.ofN [n] = 2 ^ n.toNat := by simp [Bits.ofN, h0, h1]
theorem ofN_lt (n : Int) : Bits.ofN [n] < 18446744073709551616 := by
  simp only [Bits.ofN, List.foldl_cons, List.foldl_nil]
  split
  · rw [Nat.zero_or]
    have : 2 ^ n.toNat ≤ 2 ^ 63 := Nat.pow_le_pow_right (by decide) (by omega)
    omega
  · decide
theorem or_lt {a b : Nat} (ha : a < 18446744073709551616) (hb : b < 18446744073709551616) : a ||| b < 18446744073709551616 := Nat.or_lt_two_pow (n := 64) ha hb
theorem or_is {a b : Nat} (ha : a < 18446744073709551616) (hb : b < 18446744073709551616) : bits .or .u64 (a : Int) (b : Int) = ((a ||| b : Nat) : Int) := bits_or_u64_nat a b ha hb
theorem row_one (w : World) (n : Int) (ty : TypeId) : Bits.Row (w.alloc (.cells #[.int .i64 n] ty)) (.slice (some ⟨w.heap.size, 0, none⟩) 1 1) [n] :=
  ⟨some ⟨w.heap.size, 0, none⟩, 1, rfl, fun _ => ⟨w.heap.size, 0, rfl, fun j hj => by
    have : j = 0 := by simpa using hj
    subst this; simp⟩⟩
theorem sets_first {nm : List UInt8} {x : Left} (h : seesB nm x = true) : setsX nm x = thenE (csetP (-1) (wordX nm x)).2 (setsP (csetP (-1) (wordX nm x)).1 (Bits.ofN [(csetP (-1) (wordX nm x)).1])) := by
  cases x with
  | error p => cases h
  | ok L =>
    have hw : isWord nm L = true := h
    have hx : wordX nm (.ok L) = .ok L.tail := by simp [wordX, thenE, wordP, hw]
    rw [hx]
    simp only [setsX, thenE, setsOf, hw, if_true]
    cases hL : L.tail with
    | nil => simp [isNum, csetP, posOf]
    | cons t r =>
      cases hk : t.kind == 2
      · simp [isNum, csetP, hk, posOf]
      · by_cases hb : 64 ≤ t.n ∨ t.n ≤ -1
        · simp [isNum, csetP, hk, hb, setsP]
        · have : Bits.ofN [t.n] = 2 ^ t.n.toNat := ofN_one (by omega) (by omega)
          simp [isNum, csetP, hk, hb, setsP, this]
theorem sets_next {last : Int} {v : Nat} {y : Left} (h0 : -1 ≤ last) (h : headIs 2 y = true) : thenE y (setsP last v) = thenE (csetP last y).2 (setsP (csetP last y).1 (v ||| Bits.ofN [(csetP last y).1])) ∧ mea (csetP last y).2 < mea y := by
  obtain ⟨t, r, rfl, hk⟩ := head_ok h
  have hk' : (t.kind == 2) = true := by simp [hk]
  by_cases hb : 64 ≤ t.n ∨ t.n ≤ last
  · simp [csetP, hk', hb, setsP, thenE, mea]
  · have : Bits.ofN [t.n] = 2 ^ t.n.toNat := ofN_one (by omega) (by omega)
    simp [csetP, hk', hb, setsP, thenE, mea, this]
theorem sets_last {last : Int} {v : Nat} {y : Left} (h : headIs 2 y = false) : thenE y (setsP last v) = thenE y (fun L => .ok (v, L)) := by
  cases y with
  | error p => rfl
  | ok L =>
    cases L with
    | nil => rfl
    | cons t r =>
      have hk : (t.kind == 2) = false := h
      simp [thenE, setsP, hk]
theorem cset_ge {last : Int} {y : Left} (h : -1 ≤ last) : -1 ≤ (csetP last y).1 ∧ (csetP last y).1 < 64 := by
  cases y with
  | error p => simp [csetP]
  | ok L =>
    cases L with
    | nil => simp [csetP]
    | cons t r => simp only [csetP]; split <;> (try split) <;> simp <;> omega
set_option maxHeartbeats 1600000 in
theorem sets_any (R : Nat) (nm : ByteArray) (x : Left) (w : World) (h : RAt w R x) : Calls Try.prog 48 #[.pointer (some ⟨R, 0, none⟩), .string nm] w fun e w' => ∃ (v : Nat) (y : Left), e = .returned (.int .u64 v) ∧ v < 18446744073709551616 ∧ RAt w' R y ∧ setsX (bl nm) x = thenE y (fun L => .ok (v, L)) ∧ Mv R w.heap.size w w' := by
  have CE := hide (sees_any R nm x w h)
  have CW := hide (word_any R nm x w h)
  have CC := hide (fun last x w h => cset_any R last x w h)
  have CS := hide (fun x w h => stands_any R 2 x w h)
  have CO := hide (fun (n : Int) (w : World) => Bits.of_any (.slice (some ⟨w.heap.size, 0, none⟩) 1 1) [n] (w.alloc (.cells #[.int .i64 n] 3)) (by unfold maxLen; simp) (row_one w n 3))
  have HR := hide h
  have hsz := h.size
  cases hb : seesB (bl nm) x
  · rw [hb] at CE
    have HE : Hid (setsX (bl nm) x = thenE x (fun L => .ok (0, L))) := by
      show setsX (bl nm) x = thenE x (fun L => .ok (0, L))
      cases x with
      | error p => rfl
      | ok L => have : isWord (bl nm) L = false := hb; simp [setsX, thenE, setsOf, this]
    clear hb h
    go_enter Try.func48, Try.ntmps48
    go_wp2_with fail
    refine (unhide CE).mono ?_
    rintro e w' ⟨rfl, hw⟩
    rw [hw]; clear hw w'
    go_wp2
    go_ret
    exact ⟨0, x, rfl, by decide, unhide HR, unhide HE, Mv.refl _ _ _⟩
  · rw [hb] at CE
    have HF := hide (sets_first hb)
    have HG := hide (cset_ge (last := -1) (y := wordX (bl nm) x) (Int.le_refl _))
    clear hb h
    generalize wordX (bl nm) x = y1 at *
    generalize hq : setsX (bl nm) x = Q at *
    clear hq
    have C1 := hide (unhide CC (-1) y1)
    generalize csetP (-1) y1 = q at *
    obtain ⟨a, y2⟩ := q
    have HF' : Hid (Q = thenE y2 (setsP a (Bits.ofN [a]))) := HF
    have HG' : Hid (-1 ≤ a ∧ a < 64) := HG
    simp only at C1
    clear HF HG
    go_enter Try.func48, Try.ntmps48
    go_wp2_with fail
    refine (unhide CE).mono ?_
    rintro e w' ⟨rfl, hw⟩
    rw [hw]; clear hw w'
    go_wp2_with fail
    refine (unhide CW).mono ?_
    rintro e w1 ⟨rfl, hr, hm⟩
    have HR1 := hide hr
    have HM1 := hide hm
    clear hr hm
    go_wp2_with fail
    refine (unhide C1 _ (unhide HR1)).mono ?_
    rintro e w2 ⟨rfl, hr, hm⟩
    have HR2 := hide (hr.alloc (.cells #[.int .i64 a] 3))
    have HM2 := hide (((unhide HM1).on hm).alloc (((unhide HM1).on hm).size) (.cells #[.int .i64 a] 3))
    clear hr hm
    go_wp2_with fail
    refine (unhide CO a w2).mono ?_
    rintro e w' ⟨rfl, hw⟩
    rw [hw]; clear hw w'
    have HV := hide (ofN_lt a)
    generalize Bits.ofN [a] = v at *
    go_wp2
    go_loopw [5, 6] (fun i u wr => ∃ (a : Int) (v : Nat) (y : Left), i = .int .i64 a ∧ u = .int .u64 v ∧ (-1 ≤ a ∧ a < 64) ∧ v < 18446744073709551616 ∧ RAt wr R y ∧ Q = thenE y (setsP a v) ∧ Mv R w.heap.size w wr) (fun _ _ wr => meaW R wr)
    case atStart => exact ⟨a, v, y2, rfl, rfl, unhide HG', unhide HV, unhide HR2, unhide HF', unhide HM2⟩
    case round =>
      clear HG' HV HR2 HF' HM2 HM1 HR1 CE CW C1 HR
      obtain ⟨a, v, y, rfl, rfl, ha, hv, hr, hq, hm⟩ := hrel
      have CH := hide (unhide CS y wr hr)
      have HM := hide hr.mea
      cases hb : headIs 2 y
      · rw [hb] at CH
        have HQ := hide (hq.trans (sets_last hb))
        have HH := hide (And.intro hr hm)
        have HV := hide hv
        clear hb hq hr hm hv
        go_wp2_with fail
        refine (unhide CH).mono ?_
        rintro e w' ⟨rfl, hw⟩
        rw [hw]; clear hw w'
        go_wp2
        go_ret
        exact ⟨v, y, rfl, unhide HV, (unhide HH).1, unhide HQ, (unhide HH).2⟩
      · rw [hb] at CH
        obtain ⟨n1, n2⟩ := sets_next (v := v) ha.1 hb
        have HN := hide (hq.trans n1)
        have HL := hide n2
        have HG := hide (cset_ge (last := a) (y := y) ha.1)
        have C2 := hide (unhide CC a y wr hr)
        have HM1 := hide hm
        have HV := hide hv
        clear hb hq hr hm n1 n2 hv
        generalize hcs : csetP a y = q at *
        clear hcs
        obtain ⟨a', y'⟩ := q
        simp only at C2 HN HL HG
        go_wp2_with fail
        refine (unhide CH).mono ?_
        rintro e w' ⟨rfl, hw⟩
        rw [hw]; clear hw w'
        go_wp2_with fail
        refine (unhide C2).mono ?_
        rintro e w2 ⟨rfl, hr, hm⟩
        have HR2 := hide (hr.alloc (.cells #[.int .i64 a'] 3))
        have HM2 := hide (((unhide HM1).trans (hm.mono (unhide HM1).size)).alloc (((unhide HM1).trans (hm.mono (unhide HM1).size)).size) (.cells #[.int .i64 a'] 3))
        clear hr hm
        go_wp2_with fail
        refine (unhide CO a' w2).mono ?_
        rintro e w' ⟨rfl, hw⟩
        rw [hw]; clear hw w'
        have HV2 := hide (ofN_lt a')
        generalize Bits.ofN [a'] = v2 at *
        go_wp2
        go_roundw
        case rel => exact ⟨a', v ||| v2, y', rfl, by rw [or_is (unhide HV) (unhide HV2)], unhide HG, or_lt (unhide HV) (unhide HV2), unhide HR2, unhide HN, unhide HM2⟩
        case measure => rw [unhide HM, (unhide HR2).mea]; exact unhide HL
end Go.Proofs.Ytfpaigcbjpolhaa.Lex
