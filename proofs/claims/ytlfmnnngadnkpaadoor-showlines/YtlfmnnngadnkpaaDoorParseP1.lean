/- The reference's parser: where it lies, and what its small steps answer. -/
import Derived.Test.YtlfmnnngadnkpaaDoorParseGen
import Derived.Test.YtlfmnnngadnkpaaDoorLexFlow
namespace Go.Proofs.YtlfmnnngadnkpaaDoor.Lex
open Go.ChangeShapes Go.WideShapes Go.RowKit

/- the parser at block R: all tokens, how far it is, its error and the place -/
structure PLies (w : World) (R g cap : Nat) (L : List Tok) (k : Nat) (e p : Int) : Prop where
  lt : g < R
  rd : w.heap[R]? = some (.cells #[.slice (some ⟨g, 0, none⟩) L.length cap, .int .i64 k, .int .i64 e, .int .i64 p] 58)
  row : ∀ j, j < L.length → TokAt w g (j * 4) (L.getD j noTok)
  len : L.length ≤ 4001
  ok : Okay (L.drop k)
def StoodP (x : Left) (M : List Tok) (e p : Int) : Prop := match x with
  | .ok L => e = 0 ∧ M = L
  | .error q => e = q.1 ∧ q.1 ≠ 0 ∧ p = q.2
def PAt (w : World) (R : Nat) (x : Left) : Prop := ∃ g cap L k e p, PLies w R g cap L k e p ∧ StoodP x (L.drop k) e p
theorem PLies.size {w : World} {R g cap k : Nat} {L : List Tok} {e p : Int} (h : PLies w R g cap L k e p) : R < w.heap.size := block_lt h.rd
theorem PLies.lt' {w : World} {R g cap k : Nat} {L : List Tok} {e p : Int} (h : PLies w R g cap L k e p) : k < L.length := by
  have := h.ok.ne
  rcases Nat.lt_or_ge k L.length with l | l
  · exact l
  · exact absurd (List.drop_eq_nil_of_le l) this
theorem PLies.keep {w w' : World} {R g cap k : Nat} {L : List Tok} {e p : Int} (h : PLies w R g cap L k e p) (b : Below (R + 1) w w') : PLies w' R g cap L k e p :=
  ⟨h.lt, by rw [b.block R (by omega)]; exact h.rd, fun j hj => (h.row j hj).keep (b.block g (by have := h.lt; omega)), h.len, h.ok⟩
theorem PAt.keep {w w' : World} {R : Nat} {x : Left} (h : PAt w R x) (b : Below (R + 1) w w') : PAt w' R x := by
  obtain ⟨g, cap, L, k, e, p, hl, hs⟩ := h
  exact ⟨g, cap, L, k, e, p, hl.keep b, hs⟩
theorem PAt.size {w : World} {R : Nat} {x : Left} (h : PAt w R x) : R < w.heap.size := by
  obtain ⟨g, cap, L, k, e, p, hl, hs⟩ := h
  exact hl.size
theorem PAt.alloc {w : World} {R : Nat} {x : Left} (h : PAt w R x) (o : Obj) : PAt (w.alloc o) R x := h.keep ((Below.refl _ _).alloc h.size o)
theorem PAt.setCell {w : World} {R : Nat} {x : Left} (h : PAt w R x) {p : Addr} (hp : R < p.block) (u : Value) : PAt (w.setCell p u) R x := h.keep ((Below.refl _ _).setCell hp u)
theorem PAt.drew {w : World} {R : Nat} {x : Left} (h : PAt w R x) : PAt w.drew R x := h.keep ((Below.refl _ _).drew)
theorem PAt.grown {w w' : World} {R : Nat} {x : Left} (h : PAt w R x) {row : Option Nat} (hg : w.grownBy w' row) (hr : ∀ k, row = some k → R < k) : PAt w' R x := h.keep ((Below.refl _ _).grown hg h.size hr)
theorem PAt.okay {w : World} {R : Nat} {L : List Tok} (h : PAt w R (.ok L)) : Okay L := by
  obtain ⟨g, cap, M, k, e, p, hl, hs⟩ := h
  obtain ⟨-, rfl⟩ := hs
  exact hl.ok
theorem PLies.err {w : World} {R g cap k : Nat} {L : List Tok} {e p : Int} (h : PLies w R g cap L k e p) (c q : Int) : PLies ((w.setCell ⟨R, 2, none⟩ (.int .i64 c)).setCell ⟨R, 3, none⟩ (.int .i64 q)) R g cap L k c q :=
  ⟨h.lt, by have := block_set (j := 3) (u := .int .i64 q) (block_set (j := 2) (u := .int .i64 c) h.rd); simpa using this, fun j hj => ((h.row j hj).keep (Below.heap_setCell _ _ _ _ (by have := h.lt; simp only; omega))).keep (Below.heap_setCell _ _ _ _ (by have := h.lt; simp only; omega)), h.len, h.ok⟩
theorem drop_tail {L : List Tok} {k : Nat} {t : Tok} {r : List Tok} (h : L.drop k = t :: r) : L.drop (k + 1) = r ∧ L.getD k noTok = t := by
  have h0 : L[k]? = some t := by have := List.getElem?_drop (xs := L) (i := k) (j := 0); rw [h] at this; simpa using this.symm
  refine ⟨?_, by rw [List.getD_eq_getElem?_getD, h0]; rfl⟩
  rw [← List.drop_drop, h]; rfl
theorem PLies.step {w : World} {R g cap k : Nat} {L : List Tok} {e p : Int} {t : Tok} {r : List Tok} (h : PLies w R g cap L k e p) (hd : L.drop k = t :: r) (hk : t.kind ≠ 4) : PLies (w.setCell ⟨R, 1, none⟩ (.int .i64 (k + 1 : Nat))) R g cap L (k + 1) e p :=
  ⟨h.lt, by have := block_set (j := 1) (u := .int .i64 (k + 1 : Nat)) h.rd; simpa using this, fun j hj => (h.row j hj).keep (Below.heap_setCell _ _ _ _ (by have := h.lt; simp only; omega)), h.len, by
    have := h.ok; rw [hd] at this; rw [(drop_tail hd).1]; exact this.tail hk⟩
def nowT : Left → Tok
  | .ok (t :: _) => t
  | .ok [] => noTok
  | .error _ => ⟨4, [], 0, 0⟩
theorem now_head {k : Int} {x : Left} (h4 : k ≠ 4) (hne : x ≠ .ok []) : ((nowT x).kind == k) = headIs k x := by
  cases x with
  | error p => simp only [nowT, headIs]; exact beq_eq_false_iff_ne.2 (fun e => h4 e.symm)
  | ok L =>
    cases L with
    | nil => exact absurd rfl hne
    | cons t r => rfl
theorem PAt.ne {w : World} {R : Nat} {x : Left} (h : PAt w R x) : x ≠ .ok [] := fun e => by subst e; exact h.okay.ne rfl
set_option maxHeartbeats 800000 in
theorem now_any (R : Nat) (x : Left) (w : World) (h : PAt w R x) : Calls Tryd.prog 28 #[.pointer (some ⟨R, 0, none⟩)] w fun e w' => e = .returned (tokV (nowT x)) ∧ PAt w' R x ∧ Mv R w.heap.size w w' := by
  have HP := hide h
  have hsz := h.size
  obtain ⟨g, cap, L, k, e, p, hl, hs⟩ := h
  have r0 : w.cell? ⟨R, 0, none⟩ = some (.slice (some ⟨g, 0, none⟩) L.length cap) := cell_block hl.rd
  have r1 : w.cell? ⟨R, 1, none⟩ = some (.int .i64 k) := cell_block hl.rd
  have r2 : w.cell? ⟨R, 2, none⟩ = some (.int .i64 e) := cell_block hl.rd
  have hne : R ≠ w.heap.size := Nat.ne_of_lt hsz
  cases x with
  | error q =>
    obtain ⟨rfl, hq, -⟩ := hs
    have he : (q.1 != 0) = true := bne_iff_ne.2 hq
    clear hl hq r0 r1
    go_enter Tryd.func28, Tryd.ntmps28
    go_wp2
    refine bodyPost_ret (v := .agg #[.int .i64 4, .string ⟨#[]⟩, .int .i64 0, .int .i64 0]) (by rw [results_cell1 rfl]; go_simp) rfl ⟨rfl, ?_, ?_⟩
    · exact (unhide HP).alloc _
    · exact (Mv.refl _ _ _).alloc (Nat.le_refl _) _
  | ok M =>
    obtain ⟨rfl, hM⟩ := hs
    cases M with
    | nil => exact absurd hM hl.ok.ne
    | cons t r =>
      have hkl := hl.lt'
      have hgt := (drop_tail hM).2
      obtain ⟨d0, d1, d2, d3⟩ := hl.row k hkl
      rw [hgt] at d0 d1 d2 d3
      have hlt := hl.lt
      have hgs : g ≠ w.heap.size := by omega
      have hk0 : (0 : Int) ≤ (k : Int) := by omega
      have hk1 : (k : Int) < (L.length : Int) := by omega
      have hk2 := hl.len
      clear hl hM hgt
      generalize L.length = n at *
      go_enter Tryd.func28, Tryd.ntmps28
      go_wp2_with fail
      go_region_held3 (fun w' => w'.cell? ⟨R, 0, none⟩ = some (.slice (some ⟨g, 0, none⟩) n cap) ∧ w'.cell? ⟨R, 1, none⟩ = some (.int .i64 k) ∧ w'.cell? ⟨g, k * 4, none⟩ = some (.int .i64 t.kind) ∧ w'.cell? ⟨g, k * 4 + 1, none⟩ = some (.string (mkS t.text)) ∧ w'.cell? ⟨g, k * 4 + 2, none⟩ = some (.int .i64 t.n) ∧ w'.cell? ⟨g, k * 4 + 3, none⟩ = some (.int .i64 t.pos)) (go_keep) (fail)
      go_wp2
      refine bodyPost_ret (v := .agg #[.int .i64 t.kind, .string (mkS t.text), .int .i64 t.n, .int .i64 t.pos]) (by rw [results_cell1 rfl]; go_simp) rfl ⟨rfl, ?_, ?_⟩
      · exact ((unhide HP).alloc _).drew
      · exact ((Mv.refl _ _ _).alloc (Nat.le_refl _) _).drew
/- an error, if there was none -/
def failX (c q : Int) : Left → Left
  | .ok _ => .error (c, q)
  | .error p => .error p
theorem fail_any (R : Nat) (c q : Int) (hc : c ≠ 0) (x : Left) (w : World) (h : PAt w R x) : Calls Tryd.prog 42 #[.pointer (some ⟨R, 0, none⟩), .int .i64 c, .int .i64 q] w fun e w' => e = .returned (.tuple #[]) ∧ PAt w' R (failX c q x) ∧ Mv R w.heap.size w w' := by
  have HP := hide h
  have hsz := h.size
  obtain ⟨g, cap, L, k, e, p, hl, hs⟩ := h
  have r2 : w.cell? ⟨R, 2, none⟩ = some (.int .i64 e) := cell_block hl.rd
  have r3 : w.cell? ⟨R, 3, none⟩ = some (.int .i64 p) := cell_block hl.rd
  have fz := fun j => frozen_block (j := j) hl.rd
  have HL := hide hl
  cases x with
  | error s =>
    obtain ⟨rfl, hq, -⟩ := hs
    have he : (s.1 == 0) = false := beq_eq_false_iff_ne.2 hq
    clear hl hq
    go_enter Tryd.func42, Tryd.ntmps42
    go_wp2
    go_end0
    exact ⟨rfl, unhide HP, Mv.refl _ _ _⟩
  | ok M =>
    obtain ⟨rfl, hM⟩ := hs
    clear hl
    go_enter Tryd.func42, Tryd.ntmps42
    go_wp2
    go_end0
    exact ⟨rfl, ⟨g, cap, L, k, c, q, (unhide HL).err c q, rfl, hc, rfl⟩, ((Mv.refl _ _ _).setCell (p := ⟨R, 2, none⟩) (.inr rfl) _).setCell (p := ⟨R, 3, none⟩) (.inr rfl) _⟩
/- a word, if it stands there -/
def eatX (nm : List UInt8) (x : Left) : Left := if seesB nm x then wordX nm x else x
theorem sees_now {nm : List UInt8} {x : Left} (hne : x ≠ .ok []) : seesB nm x = ((nowT x).kind == 3 && (nowT x).text == nm) := by
  cases x with
  | error p => rfl
  | ok L =>
    cases L with
    | nil => exact absurd rfl hne
    | cons t r => rfl
set_option maxHeartbeats 800000 in
theorem eat_any (R : Nat) (nm : ByteArray) (x : Left) (w : World) (h : PAt w R x) : Calls Tryd.prog 41 #[.pointer (some ⟨R, 0, none⟩), .string nm] w fun e w' => e = .returned (.bool (seesB (bl nm) x)) ∧ PAt w' R (eatX (bl nm) x) ∧ Mv R w.heap.size w w' := by
  have CN := hide (now_any R x w h)
  have hsn := sees_now (nm := bl nm) h.ne
  have hst := same_text (nowT x).text nm
  have hsz := h.size
  have HW : Hid (seesB (bl nm) x = true → ∃ t r, x = .ok (t :: r) ∧ t.kind = 3 ∧ t.text = bl nm ∧ wordX (bl nm) x = .ok r) := hide sees_word
  cases hb : seesB (bl nm) x
  · have hE : eatX (bl nm) x = x := by rw [eatX, hb]; rfl
    rw [hE]
    rw [hb] at hsn
    clear h hb hE HW
    generalize nowT x = t at *
    cases hk : t.kind == 3
    · have hk' : (t.kind != 3) = true := by simp [bne, hk]
      clear hst hsn hk
      go_enter Tryd.func41, Tryd.ntmps41
      go_wp2_with fail
      refine (unhide CN).mono ?_
      rintro e w1 ⟨rfl, hr, hm⟩
      have HR := hide (hr.alloc (.cells #[.int .i64 t.kind, .string (mkS t.text), .int .i64 t.n, .int .i64 t.pos] 62))
      have HM := hide (hm.alloc hm.size (.cells #[.int .i64 t.kind, .string (mkS t.text), .int .i64 t.n, .int .i64 t.pos] 62))
      clear hr hm
      rw [tokV]
      go_wp2
      go_ret
      exact ⟨rfl, unhide HR, unhide HM⟩
    · have hk' : (t.kind != 3) = false := by simp [bne, hk]
      have ht : ((mkS t.text).toList == nm.toList) = false := by rw [hst]; simp [hk] at hsn; simp [hsn]
      clear hst hsn hk
      go_enter Tryd.func41, Tryd.ntmps41
      go_wp2_with fail
      refine (unhide CN).mono ?_
      rintro e w1 ⟨rfl, hr, hm⟩
      have HR := hide (hr.alloc (.cells #[.int .i64 t.kind, .string (mkS t.text), .int .i64 t.n, .int .i64 t.pos] 62))
      have HM := hide (hm.alloc hm.size (.cells #[.int .i64 t.kind, .string (mkS t.text), .int .i64 t.n, .int .i64 t.pos] 62))
      clear hr hm
      rw [tokV]
      go_wp2
      go_ret
      exact ⟨rfl, unhide HR, unhide HM⟩
  · have hE : eatX (bl nm) x = wordX (bl nm) x := by rw [eatX, hb]; rfl
    obtain ⟨t, r, rfl, hk, ht, hx⟩ := unhide HW hb
    rw [hE, hx]
    have hk' : (t.kind != 3) = false := by simp [bne, hk]
    have ht' : ((mkS t.text).toList == nm.toList) = true := by rw [same_text, ht]; simp
    have HK : Hid (t.kind ≠ 4) := hide (by rw [hk]; decide)
    clear h hb hE HW hst hsn hx hk ht
    go_enter Tryd.func41, Tryd.ntmps41
    go_wp2_with fail
    refine (unhide CN).mono ?_
    rintro e w1 ⟨rfl, hr, hm⟩
    obtain ⟨g, cap, L, k, e, p, hl, hs⟩ := hr
    obtain ⟨rfl, hM⟩ := hs
    have r1 : w1.cell? ⟨R, 1, none⟩ = some (.int .i64 k) := cell_block hl.rd
    have fz := fun j => frozen_block (j := j) hl.rd
    have hk2 := hl.len
    have hk1 := hl.lt'
    have hsz1 := hl.size
    have hne1 : R ≠ w1.heap.size := Nat.ne_of_lt hl.size
    have HR := hide (PAt.alloc (x := .ok r) ⟨g, cap, L, k + 1, 0, p, hl.step hM (unhide HK), rfl, (drop_tail hM).1⟩ (.cells #[.int .i64 t.kind, .string (mkS t.text), .int .i64 t.n, .int .i64 t.pos] 62))
    have HM := hide ((hm.setCell (p := ⟨R, 1, none⟩) (.inr rfl) (.int .i64 (k + 1 : Nat))).alloc (by simpa using hm.size) (.cells #[.int .i64 t.kind, .string (mkS t.text), .int .i64 t.n, .int .i64 t.pos] 62))
    clear hl hm hM
    rw [tokV, show nowT (.ok (t :: r)) = t from rfl]
    go_wp2
    go_ret
    exact ⟨rfl, by have := unhide HR; simpa using this, by have := unhide HM; simpa using this⟩
/- a word, or an error -/
theorem fail_word {nm : List UInt8} {x : Left} (hb : seesB nm x = false) (hne : x ≠ .ok []) : failX 2 (nowT x).pos x = wordX nm x := by
  cases x with
  | error p => rfl
  | ok L =>
    cases L with
    | nil => exact absurd rfl hne
    | cons t r =>
      have h : isWord nm (t :: r) = false := hb
      simp [failX, nowT, wordX, thenE, wordP, h, posOf]
theorem need_any (R : Nat) (nm : ByteArray) (x : Left) (w : World) (h : PAt w R x) : Calls Tryd.prog 26 #[.pointer (some ⟨R, 0, none⟩), .string nm] w fun e w' => e = .returned (.tuple #[]) ∧ PAt w' R (wordX (bl nm) x) ∧ Mv R w.heap.size w w' := by
  have CE := hide (eat_any R nm x w h)
  have CN := hide (fun x w h => now_any R x w h)
  have CF := hide (fun q x w h => fail_any R 2 q (by decide) x w h)
  have HNE := hide h.ne
  cases hb : seesB (bl nm) x
  · have hE : eatX (bl nm) x = x := by rw [eatX, hb]; rfl
    rw [hb, hE] at CE
    have HF := hide (fail_word hb (unhide HNE))
    clear h hb hE
    go_enter Tryd.func26, Tryd.ntmps26
    go_wp2_with fail
    refine (unhide CE).mono ?_
    rintro e w1 ⟨rfl, hr, hm⟩
    have HR := hide hr
    have HM := hide hm
    clear hr hm
    go_wp2_with fail
    refine (unhide CN _ _ (unhide HR)).mono ?_
    rintro e w2 ⟨rfl, hr, hm⟩
    have HR2 := hide hr
    have HM2 := hide ((unhide HM).on hm)
    clear hr hm
    generalize nowT x = t at *
    rw [tokV]
    have hfd : ∀ w : World, (Instr.field 62 (.agg #[.int .i64 t.kind, .string (mkS t.text), .int .i64 t.n, .int .i64 t.pos]) 3).run Tryd.prog w = .ok (.int .i64 t.pos) w := fun _ => by kernel_rfl
    go_wp2_with fail
    refine (unhide CF _ _ _ (unhide HR2)).mono ?_
    rintro e w3 ⟨rfl, hr, hm⟩
    have HH := hide (And.intro hr ((unhide HM2).on hm))
    clear hr hm
    go_wp2
    go_end0
    rw [← unhide HF]
    exact ⟨rfl, unhide HH⟩
  · have hE : eatX (bl nm) x = wordX (bl nm) x := by rw [eatX, hb]; rfl
    rw [hb, hE] at CE
    clear h hb hE
    go_enter Tryd.func26, Tryd.ntmps26
    go_wp2_with fail
    refine (unhide CE).mono ?_
    rintro e w1 ⟨rfl, hr, hm⟩
    have HH := hide (And.intro hr hm)
    clear hr hm
    go_wp2
    go_end0
    exact ⟨rfl, unhide HH⟩
/- a token of a kind, or an error -/
theorem fail_kind {k : Int} {x : Left} (hb : headIs k x = false) (hne : x ≠ .ok []) : failX 2 (nowT x).pos x = goneP k x ∧ takeT k x = noTok := by
  cases x with
  | error p => exact ⟨rfl, rfl⟩
  | ok L =>
    cases L with
    | nil => exact absurd rfl hne
    | cons t r =>
      have h : (t.kind == k) = false := hb
      simp [failX, nowT, goneP, takeT, h]
set_option maxHeartbeats 800000 in
theorem kind_any (R : Nat) (k : Int) (h4 : k ≠ 4) (x : Left) (w : World) (h : PAt w R x) : Calls Tryd.prog 27 #[.pointer (some ⟨R, 0, none⟩), .int .i64 k] w fun e w' => e = .returned (tokV (takeT k x)) ∧ PAt w' R (goneP k x) ∧ Mv R w.heap.size w w' := by
  have hsz := h.size
  have CN := hide (fun w h => now_any R x w h)
  have CF := hide (fun q x w h => fail_any R 2 q (by decide) x w h)
  have HP := hide (h.alloc (.cells #[.int .i64 0, .string ⟨#[]⟩, .int .i64 0, .int .i64 0] 62))
  have HM := hide ((Mv.refl R w.heap.size w).alloc (Nat.le_refl _) (.cells #[.int .i64 0, .string ⟨#[]⟩, .int .i64 0, .int .i64 0] 62))
  have HB : Hid ((w.alloc (.cells #[.int .i64 0, .string ⟨#[]⟩, .int .i64 0, .int .i64 0] 62)).heap[w.heap.size]? = some (.cells #[.int .i64 0, .string ⟨#[]⟩, .int .i64 0, .int .i64 0] 62)) := heap_alloc_new w _
  have hnr : w.heap.size ≠ R := by omega
  have hnow := now_head (k := k) h4 h.ne
  cases hb : headIs k x
  · obtain ⟨e1, e2⟩ := fail_kind hb h.ne
    rw [e2, ← e1]
    rw [hb] at hnow
    clear h hb e1 e2
    generalize nowT x = t at *
    have hk' : (t.kind != k) = true := by simp [bne, hnow]
    clear hnow
    go_enter Tryd.func27, Tryd.ntmps27
    go_wp2_with fail
    refine (unhide CN _ (unhide HP)).mono ?_
    rintro e w1 ⟨rfl, hr, hm⟩
    have HR1 := hide (hr.alloc (.cells #[.int .i64 t.kind, .string (mkS t.text), .int .i64 t.n, .int .i64 t.pos] 62))
    have hb1 := hm.at (unhide HB) hnr
    have HM1 := hide (((unhide HM).trans (hm.mono (unhide HM).size)).alloc (((unhide HM).trans (hm.mono (unhide HM).size)).size) (.cells #[.int .i64 t.kind, .string (mkS t.text), .int .i64 t.n, .int .i64 t.pos] 62))
    have HB1 := hide (block_alloc (p := .cells #[.int .i64 t.kind, .string (mkS t.text), .int .i64 t.n, .int .i64 t.pos] 62) hb1)
    have hlt1 := block_lt hb1
    clear hr hm hb1 HM HP HB
    rw [tokV]
    go_wp2_with fail
    refine (unhide CF _ _ _ (unhide HR1)).mono ?_
    rintro e w2 ⟨rfl, hr, hm⟩
    have hb2 := hm.at (unhide HB1) hnr
    have c0 : w2.cell? ⟨w.heap.size, 0, none⟩ = some (.int .i64 0) := cell_block hb2
    have c1 : w2.cell? ⟨w.heap.size, 1, none⟩ = some (.string ⟨#[]⟩) := cell_block hb2
    have c2 : w2.cell? ⟨w.heap.size, 2, none⟩ = some (.int .i64 0) := cell_block hb2
    have c3 : w2.cell? ⟨w.heap.size, 3, none⟩ = some (.int .i64 0) := cell_block hb2
    have fz := fun j => frozen_block (j := j) hb2
    have HH := hide (And.intro hr ((unhide HM1).trans (hm.mono (unhide HM1).size)))
    clear hr hm hb2
    go_wp2
    refine bodyPost_ret (v := .agg #[.int .i64 0, .string ⟨#[]⟩, .int .i64 0, .int .i64 0]) (by rw [results_cell1 rfl]; go_simp) rfl ?_
    rw [set_same c0, set_same c1, set_same c2, set_same c3]
    exact ⟨rfl, unhide HH⟩
  · obtain ⟨t, r, rfl, hk⟩ := head_ok hb
    have e1 : goneP k (.ok (t :: r)) = .ok r := by simp [goneP, hk]
    have e2 : takeT k (.ok (t :: r)) = t := by simp [takeT, hk]
    rw [e1, e2]
    have hk' : (t.kind != k) = false := by simp [hk]
    have HK : Hid (t.kind ≠ 4) := hide (by rw [hk]; exact h4)
    clear h hb e1 e2 hnow hk
    go_enter Tryd.func27, Tryd.ntmps27
    go_wp2_with fail
    refine (unhide CN _ (unhide HP)).mono ?_
    rintro e w1 ⟨rfl, hr, hm⟩
    have hb1 := hm.at (unhide HB) hnr
    have hlt1 := block_lt hb1
    obtain ⟨g, cap, L, k2, e, p, hl, hs⟩ := hr
    obtain ⟨rfl, hM⟩ := hs
    have r1 : w1.cell? ⟨R, 1, none⟩ = some (.int .i64 k2) := cell_block hl.rd
    have fr := fun j => frozen_block (j := j) hl.rd
    have hk2 := hl.len
    have hk1 := hl.lt'
    have hsz1 := hl.size
    have hne1 : R ≠ w1.heap.size := Nat.ne_of_lt hsz1
    have hne2 : w.heap.size ≠ w1.heap.size := Nat.ne_of_lt hlt1
    have HR1 := hide ((PAt.setCell (PAt.setCell (PAt.setCell (PAt.setCell (⟨g, cap, L, k2 + 1, 0, p, hl.step hM (unhide HK), rfl, (drop_tail hM).1⟩ : PAt _ R (.ok r)) (p := ⟨w.heap.size, 0, none⟩) hsz (.int .i64 t.kind)) (p := ⟨w.heap.size, 1, none⟩) hsz (.string (mkS t.text))) (p := ⟨w.heap.size, 2, none⟩) hsz (.int .i64 t.n)) (p := ⟨w.heap.size, 3, none⟩) hsz (.int .i64 t.pos)).alloc (.cells #[.int .i64 t.kind, .string (mkS t.text), .int .i64 t.n, .int .i64 t.pos] 62))
    have HM1 := hide (Mv.alloc (Mv.setCell (Mv.setCell (Mv.setCell (Mv.setCell (((unhide HM).trans (hm.mono (unhide HM).size)).setCell (p := ⟨R, 1, none⟩) (.inr rfl) (.int .i64 (k2 + 1 : Nat))) (p := ⟨w.heap.size, 0, none⟩) (.inl (Nat.le_refl _)) (.int .i64 t.kind)) (p := ⟨w.heap.size, 1, none⟩) (.inl (Nat.le_refl _)) (.string (mkS t.text))) (p := ⟨w.heap.size, 2, none⟩) (.inl (Nat.le_refl _)) (.int .i64 t.n)) (p := ⟨w.heap.size, 3, none⟩) (.inl (Nat.le_refl _)) (.int .i64 t.pos)) (by have := ((unhide HM).trans (hm.mono (unhide HM).size)).size; simpa using this) (.cells #[.int .i64 t.kind, .string (mkS t.text), .int .i64 t.n, .int .i64 t.pos] 62))
    have d0 : w1.cell? ⟨w.heap.size, 0, none⟩ = some (.int .i64 0) := cell_block hb1
    have d1 : w1.cell? ⟨w.heap.size, 1, none⟩ = some (.string ⟨#[]⟩) := cell_block hb1
    have d2 : w1.cell? ⟨w.heap.size, 2, none⟩ = some (.int .i64 0) := cell_block hb1
    have d3 : w1.cell? ⟨w.heap.size, 3, none⟩ = some (.int .i64 0) := cell_block hb1
    have fz := fun j => frozen_block (j := j) hb1
    clear hl hm hM hb1 HM HP HB
    rw [tokV, show nowT (.ok (t :: r)) = t from rfl]
    go_wp2
    refine bodyPost_ret (v := .agg #[.int .i64 t.kind, .string (mkS t.text), .int .i64 t.n, .int .i64 t.pos]) (by rw [results_cell1 rfl]; go_simp) rfl ?_
    exact ⟨rfl, unhide HR1, unhide HM1⟩
end Go.Proofs.YtlfmnnngadnkpaaDoor.Lex
