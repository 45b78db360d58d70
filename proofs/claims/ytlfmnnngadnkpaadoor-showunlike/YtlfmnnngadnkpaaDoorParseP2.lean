/- The reference's parser: cache sets, a mode. -/
import Derived.Test.YtlfmnnngadnkpaaDoorParseP1
namespace Go.Proofs.YtlfmnnngadnkpaaDoor.Lex
open Go.ChangeShapes Go.WideShapes Go.RowKit

def meaP (R : Nat) (w : World) : Nat := match w.heap[R]? with
  | some (.cells cs _ _) => (match cs[0]? with
    | some (Value.slice _ n _) => if intOf (cs.getD 2 undef) = 0 then n - (intOf (cs.getD 1 undef)).toNat + 1 else 0
    | _ => 0)
  | _ => 0
theorem PAt.mea {w : World} {R : Nat} {x : Left} (h : PAt w R x) : meaP R w = mea x := by
  obtain ⟨g, cap, L, k, e, p, hl, hs⟩ := h
  rw [meaP, hl.rd]
  cases x with
  | ok M => obtain ⟨rfl, rfl⟩ := hs; simp [intOf, Lex.mea]
  | error q => obtain ⟨rfl, hne, -⟩ := hs; simp [intOf, Lex.mea, hne]
theorem PAt.mle {w : World} {R : Nat} {x : Left} (h : PAt w R x) : Lex.mea x ≤ 4002 := by
  cases x with
  | ok M => have := h.okay.len; simp [Lex.mea]; omega
  | error p => simp [Lex.mea]
def setsG (last : Int) (v : Nat) (y : Left) : Except (Int × Int) (Nat × List Tok) := thenE y fun L => if isNum L then setsP last v L else .error (2, posOf L)
theorem go_not {last : Int} {v : Nat} {y : Left} (h : headIs 2 y = false) : ∃ q, goneP 2 y = .error q ∧ setsG last v y = .error q := by
  cases y with
  | error p => exact ⟨p, rfl, rfl⟩
  | ok L =>
    cases L with
    | nil => exact ⟨(2, 0), rfl, rfl⟩
    | cons t r =>
      have hk : (t.kind == 2) = false := h
      exact ⟨(2, t.pos), by simp [goneP, hk], by simp [setsG, thenE, isNum, hk, posOf]⟩
theorem go_bad {last : Int} {v : Nat} {t : Tok} {r : List Tok} (hk : t.kind = 2) (hb : 64 ≤ t.n ∨ t.n ≤ last) : setsG last v (.ok (t :: r)) = .error (3, t.pos) := by
  simp [setsG, thenE, isNum, hk, setsP, hb]
theorem go_good {last : Int} {v : Nat} {t : Tok} {r : List Tok} (hk : t.kind = 2) (h1 : ¬ 64 ≤ t.n) (h2 : ¬ t.n ≤ last) : setsG last v (.ok (t :: r)) = setsP t.n (v ||| 2 ^ t.n.toNat) r := by
  have hb : ¬ (64 ≤ t.n ∨ t.n ≤ last) := by omega
  simp [setsG, thenE, isNum, hk, setsP, hb]
theorem go_more {last : Int} {v : Nat} {r : List Tok} (h : headIs 2 (.ok r) = true) : setsP last v r = setsG last v (.ok r) := by
  obtain ⟨t, r', e, hk⟩ := head_ok h
  cases e
  simp [setsG, thenE, isNum, hk]
theorem go_last {last : Int} {v : Nat} {r : List Tok} (h : headIs 2 (.ok r) = false) : setsP last v r = .ok (v, r) := by
  cases r with
  | nil => rfl
  | cons t r =>
    have hk : (t.kind == 2) = false := h
    simp [setsP, hk]
theorem bit_lt {n : Int} (h : n < 64) : 2 ^ n.toNat < 18446744073709551616 := by
  have : 2 ^ n.toNat ≤ 2 ^ 63 := Nat.pow_le_pow_right (by decide) (by omega)
  omega
theorem bit_form {n : Int} (h0 : 0 ≤ n) (h : n < 64) : min (IntKind.u64.wrap n).toNat 64 = n.toNat := by
  have : IntKind.u64.wrap n = n := by rw [IntKind.wrap_u64]; omega
  rw [this]; omega
set_option maxHeartbeats 3200000 in
theorem rcsets_any (R : Nat) (x : Left) (w : World) (h : PAt w R x) : Calls Tryd.prog 44 #[.pointer (some ⟨R, 0, none⟩)] w fun e w' => ∃ (v : Nat) (y : Left), e = .returned (.int .u64 v) ∧ v < 18446744073709551616 ∧ PAt w' R y ∧ setsG (-1) 0 x = thenE y (fun L => .ok (v, L)) ∧ Mv R w.heap.size w w' := by
  have CK := hide (fun x w h => kind_any R 2 (by decide) x w h)
  have CN := hide (fun x w h => now_any R x w h)
  have CF := hide (fun q x w h => fail_any R 3 q (by decide) x w h)
  have HP := hide h
  have hsz := h.size
  clear h
  generalize hQ : setsG (-1) 0 x = Q
  have HQ := hide hQ
  clear hQ
  go_enter Tryd.func44, Tryd.ntmps44
  go_wp2
  go_loopw [3, 4] (fun u a wr => ∃ (v : Nat) (last : Int) (y : Left), u = .int .u64 v ∧ a = .int .i64 last ∧ (-1 ≤ last ∧ last < 64) ∧ v < 18446744073709551616 ∧ PAt wr R y ∧ Q = setsG last v y ∧ Mv R w.heap.size w wr) (fun _ _ wr => meaP R wr)
  case atStart => exact ⟨0, -1, x, rfl, rfl, by omega, by decide, unhide HP, (unhide HQ).symm, Mv.refl _ _ _⟩
  case round =>
    clear HP HQ
    obtain ⟨v, last, y, rfl, rfl, hla, hv, hr, hq, hm⟩ := hrel
    have HMEA := hide hr.mea
    have C1 := hide (unhide CK y wr hr)
    have HM := hide hm
    have HV := hide hv
    clear hm hv
    cases hb : headIs 2 y
    · obtain ⟨q, e1, e2⟩ := go_not (last := last) (v := v) hb
      rw [e1] at C1
      have HQ := hide (hq.trans e2)
      clear hb e1 e2 hq hr
      generalize takeT 2 y = t at *
      go_wp2_with fail
      refine (unhide C1).mono ?_
      rintro e w1 ⟨rfl, hr, hm⟩
      have HR := hide (hr.alloc (.cells #[.int .i64 t.kind, .string (mkS t.text), .int .i64 t.n, .int .i64 t.pos] 62))
      have hm' := (unhide HM).trans (hm.mono (unhide HM).size)
      have HM' := hide (hm'.alloc hm'.size (.cells #[.int .i64 t.kind, .string (mkS t.text), .int .i64 t.n, .int .i64 t.pos] 62))
      obtain ⟨g, cap, L, k, e, p, hl, hs⟩ := hr
      obtain ⟨rfl, hq0, -⟩ := hs
      have r2 : w1.cell? ⟨R, 2, none⟩ = some (.int .i64 q.1) := cell_block hl.rd
      have hsz1 := hl.size
      have hne1 : R ≠ w1.heap.size := Nat.ne_of_lt hsz1
      have he : (q.1 == 0) = false := beq_eq_false_iff_ne.2 hq0
      have he' : (q.1 != 0) = true := bne_iff_ne.2 hq0
      clear hl hm hm' hq0
      rw [tokV]
      go_wp2
      go_ret
      exact ⟨0, .error q, rfl, by decide, unhide HR, unhide HQ, unhide HM'⟩
    · obtain ⟨t, r, rfl, hk⟩ := head_ok hb
      have e1 : goneP 2 (.ok (t :: r)) = .ok r := by simp [goneP, hk]
      have e2 : takeT 2 (.ok (t :: r)) = t := by simp [takeT, hk]
      rw [e1, e2] at C1
      by_cases hbad : 64 ≤ t.n ∨ t.n ≤ last
      · have HQ := hide (hq.trans (go_bad hk hbad))
        have C2 := hide (unhide CF t.pos (.ok r))
        clear hb hq hr e1 e2 hk
        go_wp2_with fail
        refine (unhide C1).mono ?_
        rintro e w1 ⟨rfl, hr, hm⟩
        have HR := hide (hr.alloc (.cells #[.int .i64 t.kind, .string (mkS t.text), .int .i64 t.n, .int .i64 t.pos] 62))
        have hm' := (unhide HM).trans (hm.mono (unhide HM).size)
        have HM' := hide (hm'.alloc hm'.size (.cells #[.int .i64 t.kind, .string (mkS t.text), .int .i64 t.n, .int .i64 t.pos] 62))
        obtain ⟨g, cap, L, k, e, p, hl, hs⟩ := hr
        obtain ⟨rfl, hM⟩ := hs
        have r2 : w1.cell? ⟨R, 2, none⟩ = some (.int .i64 0) := cell_block hl.rd
        have hsz1 := hl.size
        have hne1 : R ≠ w1.heap.size := Nat.ne_of_lt hsz1
        clear hl hm hm' hM
        rw [tokV]
        by_cases h64 : 64 ≤ t.n
        · clear hbad
          go_wp2_with fail
          refine (unhide C2 _ (unhide HR)).mono ?_
          rintro e w2 ⟨rfl, hr, hm⟩
          have HH := hide (And.intro hr ((unhide HM').trans (hm.mono (unhide HM').size)))
          obtain ⟨g, cap, L, k, e, p, hl, hs⟩ := hr
          obtain ⟨rfl, -, -⟩ : e = 3 ∧ (3 : Int) ≠ 0 ∧ p = t.pos := hs
          have r3 : w2.cell? ⟨R, 2, none⟩ = some (.int .i64 3) := cell_block hl.rd
          clear hl hm
          go_wp2
          go_ret
          exact ⟨0, .error (3, t.pos), rfl, by decide, (unhide HH).1, unhide HQ, (unhide HH).2⟩
        · have hle : t.n ≤ last := by omega
          clear hbad
          go_wp2_with fail
          refine (unhide C2 _ (unhide HR)).mono ?_
          rintro e w2 ⟨rfl, hr, hm⟩
          have HH := hide (And.intro hr ((unhide HM').trans (hm.mono (unhide HM').size)))
          obtain ⟨g, cap, L, k, e, p, hl, hs⟩ := hr
          obtain ⟨rfl, -, -⟩ : e = 3 ∧ (3 : Int) ≠ 0 ∧ p = t.pos := hs
          have r3 : w2.cell? ⟨R, 2, none⟩ = some (.int .i64 3) := cell_block hl.rd
          clear hl hm
          go_wp2
          go_ret
          exact ⟨0, .error (3, t.pos), rfl, by decide, (unhide HH).1, unhide HQ, (unhide HH).2⟩
      · have h64 : ¬ 64 ≤ t.n := by omega
        have hle : ¬ t.n ≤ last := by omega
        have hn0 : 0 ≤ t.n := by omega
        have HQ := hide (hq.trans (go_good hk h64 hle))
        have HBIT : Hid (bits .or .u64 (v : Int) (IntKind.u64.wrap (2 ^ min (IntKind.u64.wrap t.n).toNat 64)) = ((v ||| 2 ^ t.n.toNat : Nat) : Int)) := hide (by rw [bit_form hn0 (by omega)]; exact Bits.of_bit v (unhide HV) t.n (by omega))
        have HV2 := hide (or_lt (unhide HV) (bit_lt (n := t.n) (by omega)))
        have C2 := hide (unhide CN (.ok r))
        have hnw : r ≠ [] → ((nowT (.ok r)).kind == 2) = headIs 2 (.ok r) := fun h => now_head (by decide) (fun e => h (by cases e; rfl))
        have HNW := hide hnw
        clear hb hq hr e1 e2 hk hbad hnw
        go_wp2_with fail
        refine (unhide C1).mono ?_
        rintro e w1 ⟨rfl, hr, hm⟩
        have hnw := unhide HNW hr.okay.ne
        have HR := hide (hr.alloc (.cells #[.int .i64 t.kind, .string (mkS t.text), .int .i64 t.n, .int .i64 t.pos] 62))
        have hm' := (unhide HM).trans (hm.mono (unhide HM).size)
        have HM' := hide (hm'.alloc hm'.size (.cells #[.int .i64 t.kind, .string (mkS t.text), .int .i64 t.n, .int .i64 t.pos] 62))
        obtain ⟨g, cap, L, k, e, p, hl, hs⟩ := hr
        obtain ⟨rfl, hM⟩ := hs
        have r2 : w1.cell? ⟨R, 2, none⟩ = some (.int .i64 0) := cell_block hl.rd
        have hsz1 := hl.size
        have hne1 : R ≠ w1.heap.size := Nat.ne_of_lt hsz1
        clear hl hm hm' hM HNW
        generalize nowT (.ok r) = u at *
        rw [tokV]
        go_wp2_with fail
        go_region_held3 (fun w' => w'.cell? ⟨w1.heap.size, 2, none⟩ = some (.int .i64 t.n)) (go_keep) (fail)
        go_wp2_with fail
        refine (unhide C2 _ (unhide HR).drew).mono ?_
        rintro e w2 ⟨rfl, hr, hm⟩
        have HR2 := hide hr
        have HM2 := hide ((unhide HM').drew.trans (hm.mono (unhide HM').size))
        clear hr hm
        rw [tokV]
        have hfd : ∀ w : World, (Instr.field 62 (.agg #[.int .i64 u.kind, .string (mkS u.text), .int .i64 u.n, .int .i64 u.pos]) 0).run Tryd.prog w = .ok (.int .i64 u.kind) w := fun _ => by kernel_rfl
        cases hb2 : headIs 2 (.ok r)
        · have hu : (u.kind != 2) = true := by rw [hb2] at hnw; simp [bne, hnw]
          have HX := hide ((unhide HQ).trans (go_last hb2))
          clear hnw hb2
          go_wp2
          go_ret
          exact ⟨v ||| 2 ^ t.n.toNat, .ok r, by show Ending.returned (Value.int .u64 _) = _; rw [unhide HBIT], unhide HV2, unhide HR2, unhide HX, unhide HM2⟩
        · have hu : (u.kind != 2) = false := by rw [hb2] at hnw; simp [bne, hnw]
          have HX := hide ((unhide HQ).trans (go_more hb2))
          clear hnw hb2
          go_wp2
          go_roundw
          case rel => exact ⟨v ||| 2 ^ t.n.toNat, t.n, .ok r, by rw [unhide HBIT], rfl, by omega, unhide HV2, unhide HR2, unhide HX, unhide HM2⟩
          case measure => rw [unhide HMEA, (unhide HR2).mea]; simp [mea]
/- a mode, put down in a task -/
theorem eat_yes {nm : List UInt8} {x : Left} (h : seesB nm x = true) : eatX nm x = wordX nm x := by rw [eatX, h]; rfl
theorem eat_no {nm : List UInt8} {x : Left} (h : seesB nm x = false) : eatX nm x = x := by rw [eatX, h]; rfl
theorem mode_fix {x : Left} (h : seesB wFixed x = true) : modeX x = thenE (wordX wFixed x) (fun L => .ok ((0, 0, 0), L)) := by
  obtain ⟨t, r, rfl, hk, ht, hx⟩ := sees_word h
  have h1 : isWord wFixed (t :: r) = true := h
  rw [hx]
  simp [modeX, thenE, modeP, h1]
end Go.Proofs.YtlfmnnngadnkpaaDoor.Lex
