/- The reader's small steps: a word seen, a token taken. -/
import Derived.Test.YtfpaigcbjpolhaaParseRd
namespace Go.Proofs.Ytfpaigcbjpolhaa.Lex
open Go.ChangeShapes Go.WideShapes Go.RowKit

theorem sees_any (R : Nat) (nm : ByteArray) (x : Left) (w : World) (h : RAt w R x) : Calls Try.prog 33 #[.pointer (some ⟨R, 0, none⟩), .string nm] w fun e w' => e = .returned (.bool (seesB (bl nm) x)) ∧ w' = w := by
  have CS := hide (stands_any R 3 x w h)
  obtain ⟨g, off, cap, L, e, hl, hs⟩ := h
  have r0 : w.cell? ⟨R, 0, none⟩ = some (.slice (some ⟨g, off, none⟩) L.length cap) := cell_block hl.rd
  cases x with
  | error p =>
    clear hl hs
    go_enter Try.func33, Try.ntmps33
    go_wp2_with fail
    refine (unhide CS).mono ?_
    rintro e w' ⟨rfl, hw⟩
    rw [hw]; clear hw w'
    simp only [headIs]
    go_wp2
    go_ret
    exact ⟨rfl, rfl⟩
  | ok M =>
    obtain ⟨rfl, rfl⟩ := hs
    cases L with
    | nil => exact absurd rfl hl.ok.ne
    | cons t r =>
      have d1 : w.cell? ⟨g, off + 1, none⟩ = some (.string (mkS t.text)) := by simpa using (hl.row 0 (by simp)).c1
      have hst := same_text t.text nm
      clear hl
      rw [List.length_cons] at r0
      rw [headIs] at CS
      rw [seesB, isWord]
      generalize r.length = n at r0
      cases hk : t.kind == 3
      · rw [hk] at CS
        clear hk
        go_enter Try.func33, Try.ntmps33
        go_wp2_with fail
        refine (unhide CS).mono ?_
        rintro e w' ⟨rfl, hw⟩
        rw [hw]; clear hw w'
        go_wp2
        go_ret
        exact ⟨rfl, rfl⟩
      · rw [hk] at CS
        clear hk
        go_enter Try.func33, Try.ntmps33
        go_wp2_with fail
        refine (unhide CS).mono ?_
        rintro e w' ⟨rfl, hw⟩
        rw [hw]; clear hw w'
        go_wp2
        go_ret
        exact ⟨ret_bool (by simp), rfl⟩

def takeT (k : Int) : Left → Tok
  | .ok (t :: _) => if t.kind == k then t else noTok
  | _ => noTok
def goneP (k : Int) : Left → Left
  | .ok (t :: r) => if t.kind == k then .ok r else .error (2, t.pos)
  | .ok [] => .error (2, 0)
  | .error p => .error p
theorem Lies.err {w : World} {R g off cap : Nat} {L : List Tok} {e : Int} (h : Lies w R g off cap L e) (c : Int) : Lies (w.setCell ⟨R, 1, none⟩ (.int .i64 c)) R g off cap L c :=
  ⟨h.lt, block_set h.rd, fun j hj => (h.row j hj).keep (Below.heap_setCell _ _ _ _ (by have := h.lt; simp only; omega)), h.fits, h.ok⟩
theorem Lies.step {w : World} {R g off cap : Nat} {t : Tok} {r : List Tok} {e : Int} (h : Lies w R g off (cap + 1) (t :: r) e) (hk : t.kind ≠ 4) : Lies (w.setCell ⟨R, 0, none⟩ (.slice (some ⟨g, off + 4, none⟩) r.length cap)) R g (off + 4) cap r e :=
  ⟨h.lt, block_set h.rd, fun j hj => by
    have := h.row (j + 1) (by simpa using hj)
    rw [show off + (j + 1) * 4 = off + 4 + j * 4 by omega, show (t :: r).getD (j + 1) noTok = r.getD j noTok from rfl] at this
    exact this.keep (Below.heap_setCell _ _ _ _ (by have := h.lt; simp only; omega)), by have := h.fits; simpa using this, h.ok.tail hk⟩
theorem RAt.mkE {w : World} {R g off cap : Nat} {L : List Tok} {c : Int} (h : Lies w R g off cap L c) (hc : c ≠ 0) : RAt w R (.error (c, posOf L)) := ⟨g, off, cap, L, c, h, rfl, hc, rfl⟩
theorem RAt.mkO {w : World} {R g off cap : Nat} {L : List Tok} (h : Lies w R g off cap L 0) : RAt w R (.ok L) := ⟨g, off, cap, L, 0, h, rfl, rfl⟩
theorem mv_set1 (w : World) (R i : Nat) (v : Value) (o : Obj) : Mv R w.heap.size w ((w.setCell ⟨R, i, none⟩ v).alloc o) := Mv.alloc (Mv.setCell (Mv.refl R w.heap.size w) (.inr rfl) v) (by simp [World.setCell]) o
theorem mv_set2 (w : World) (R i : Nat) (v : Value) (o o' : Obj) : Mv R w.heap.size w (((w.setCell ⟨R, i, none⟩ v).alloc o).alloc o') := Mv.alloc (mv_set1 w R i v o) (by simp [World.setCell]) o'
set_option maxHeartbeats 800000 in
theorem take_any (R : Nat) (k : Int) (hk4 : k ≠ 4) (x : Left) (w : World) (h : RAt w R x) : Calls Try.prog 35 #[.pointer (some ⟨R, 0, none⟩), .int .i64 k] w fun e w' => e = .returned (tokV (takeT k x)) ∧ RAt w' R (goneP k x) ∧ Mv R w.heap.size w w' := by
  have CS := hide (fun w h => stands_any R k x w h)
  have HR := hide h
  have hsz := h.size
  obtain ⟨g, off, cap, L, e, hl, hs⟩ := h
  have r0 : w.cell? ⟨R, 0, none⟩ = some (.slice (some ⟨g, off, none⟩) L.length cap) := cell_block hl.rd
  have r1 : w.cell? ⟨R, 1, none⟩ = some (.int .i64 e) := cell_block hl.rd
  have f0 := fun j => frozen_block (j := j) hl.rd
  have hne : R ≠ w.heap.size := Nat.ne_of_lt hsz
  cases x with
  | error p =>
    obtain ⟨rfl, hne, hp⟩ := hs
    have he : (p.1 == 0) = false := beq_eq_false_iff_ne.2 hne
    have he' : (p.1 != 0) = true := bne_iff_ne.2 hne
    clear hl hne hp
    go_enter Try.func35, Try.ntmps35
    go_wp2
    refine bodyPost_ret (v := .agg #[.int .i64 0, .string ⟨#[]⟩, .int .i64 0, .int .i64 0]) (by rw [results_one rfl]; go_simp) rfl ⟨rfl, (unhide HR).alloc _, (Mv.refl _ _ _).alloc (Nat.le_refl _) _⟩
  | ok M =>
    obtain ⟨rfl, rfl⟩ := hs
    cases L with
    | nil => exact absurd rfl hl.ok.ne
    | cons t r =>
      obtain ⟨d0, d1, d2, d3⟩ := hl.row 0 (by simp)
      simp only [Nat.zero_mul, Nat.add_zero, List.getD_cons_zero] at d0 d1 d2 d3
      have hlt := hl.lt
      have hgs : g < w.heap.size := by omega
      have HL := hide hl
      obtain ⟨cap, rfl⟩ : ∃ c, cap = c + 1 := ⟨cap - 1, by have := hl.fits; simp at this; omega⟩
      cases hk : t.kind == k
      · rw [takeT, goneP, hk]
        rw [headIs, hk] at CS
        clear hk hl
        go_enter Try.func35, Try.ntmps35
        go_wp2_with fail
        refine (unhide CS _ ((unhide HR).alloc _)).mono ?_
        rintro e w' ⟨rfl, hw⟩
        rw [hw]; clear hw w'
        go_wp2
        refine bodyPost_ret (v := .agg #[.int .i64 0, .string ⟨#[]⟩, .int .i64 0, .int .i64 0]) (by rw [results_one rfl]; go_simp) rfl ⟨rfl, ?_, mv_set1 w R _ _ _⟩
        exact RAt.alloc (RAt.mkE ((unhide HL).err 2) (by decide)) _
      · rw [takeT, goneP, hk]
        rw [headIs, hk] at CS
        have hk' : t.kind ≠ 4 := by rw [beq_iff_eq.1 hk]; exact hk4
        have hc0 : ¬ cap = 0 := by
          have h1 := (hl.ok.tail hk').ne
          have h2 := hl.fits
          cases r with
          | nil => exact absurd rfl h1
          | cons a b => simp at h2; omega
        clear hk hl
        rw [List.length_cons] at r0
        generalize hn : r.length = n at r0
        have HN := hide hn
        clear hn
        go_enter Try.func35, Try.ntmps35
        go_wp2_with fail
        refine (unhide CS _ ((unhide HR).alloc _)).mono ?_
        rintro e w' ⟨rfl, hw⟩
        rw [hw]; clear hw w'
        go_wp2
        refine bodyPost_ret (v := .agg #[.int .i64 t.kind, .string (mkS t.text), .int .i64 t.n, .int .i64 t.pos]) (by rw [results_one rfl]; go_simp) rfl ⟨rfl, ?_, mv_set2 w R _ _ _ _⟩
        rw [← unhide HN]
        exact RAt.alloc (RAt.alloc (RAt.mkO ((unhide HL).step hk')) _) _
/- the End -/
def Ended (w : World) (R : Nat) (x : Left) : Prop := match x with
  | .error p => RAt w R (.error p)
  | .ok _ => w.cell? ⟨R, 1, none⟩ = some (.int .i64 0)
theorem cell_set0 {w : World} {R : Nat} {a u : Value} {ty : TypeId} (v : Value) (o o' : Obj) (h : w.heap[R]? = some (.cells #[a, u] ty)) : (((w.setCell ⟨R, 0, none⟩ v).alloc o).alloc o').cell? ⟨R, 1, none⟩ = some u :=
  cell_block (block_alloc (block_alloc (block_set h)))
set_option maxHeartbeats 800000 in
theorem end_any (R : Nat) (x : Left) (w : World) (h : RAt w R x) : Calls Try.prog 35 #[.pointer (some ⟨R, 0, none⟩), .int .i64 4] w fun e w' => ∃ t, e = .returned (tokV t) ∧ Ended w' R (goneP 4 x) ∧ Mv R w.heap.size w w' := by
  have CS := hide (fun w h => stands_any R 4 x w h)
  have HR := hide h
  have hsz := h.size
  obtain ⟨g, off, cap, L, e, hl, hs⟩ := h
  have r0 : w.cell? ⟨R, 0, none⟩ = some (.slice (some ⟨g, off, none⟩) L.length cap) := cell_block hl.rd
  have r1 : w.cell? ⟨R, 1, none⟩ = some (.int .i64 e) := cell_block hl.rd
  have f0 := fun j => frozen_block (j := j) hl.rd
  have hne : R ≠ w.heap.size := Nat.ne_of_lt hsz
  cases x with
  | error p =>
    obtain ⟨rfl, hne, hp⟩ := hs
    have he : (p.1 == 0) = false := beq_eq_false_iff_ne.2 hne
    have he' : (p.1 != 0) = true := bne_iff_ne.2 hne
    clear hl hne hp
    go_enter Try.func35, Try.ntmps35
    go_wp2
    refine bodyPost_ret (v := .agg #[.int .i64 0, .string ⟨#[]⟩, .int .i64 0, .int .i64 0]) (by rw [results_one rfl]; go_simp) rfl ⟨noTok, rfl, (unhide HR).alloc _, (Mv.refl _ _ _).alloc (Nat.le_refl _) _⟩
  | ok M =>
    obtain ⟨rfl, rfl⟩ := hs
    cases L with
    | nil => exact absurd rfl hl.ok.ne
    | cons t r =>
      obtain ⟨d0, d1, d2, d3⟩ := hl.row 0 (by simp)
      simp only [Nat.zero_mul, Nat.add_zero, List.getD_cons_zero] at d0 d1 d2 d3
      have hlt := hl.lt
      have hgs : g < w.heap.size := by omega
      have HL := hide hl
      obtain ⟨cap, rfl⟩ : ∃ c, cap = c + 1 := ⟨cap - 1, by have := hl.fits; simp at this; omega⟩
      cases hk : t.kind == 4
      · rw [goneP, hk]
        rw [headIs, hk] at CS
        clear hk hl
        go_enter Try.func35, Try.ntmps35
        go_wp2_with fail
        refine (unhide CS _ ((unhide HR).alloc _)).mono ?_
        rintro e w' ⟨rfl, hw⟩
        rw [hw]; clear hw w'
        go_wp2
        refine bodyPost_ret (v := .agg #[.int .i64 0, .string ⟨#[]⟩, .int .i64 0, .int .i64 0]) (by rw [results_one rfl]; go_simp) rfl ⟨⟨noTok, rfl⟩, ?_, mv_set1 w R _ _ _⟩
        exact RAt.alloc (RAt.mkE ((unhide HL).err 2) (by decide)) _
      · rw [goneP, hk]
        rw [headIs, hk] at CS
        clear hk hl
        rw [List.length_cons] at r0
        generalize hn : r.length = n at r0
        clear hn
        go_enter Try.func35, Try.ntmps35
        go_wp2_with fail
        refine (unhide CS _ ((unhide HR).alloc _)).mono ?_
        rintro e w' ⟨rfl, hw⟩
        rw [hw]; clear hw w'
        by_cases hc0 : cap = 0
        · subst hc0
          go_wp2
          refine bodyPost_ret (v := .agg #[.int .i64 t.kind, .string (mkS t.text), .int .i64 t.n, .int .i64 t.pos]) (by rw [results_one rfl]; go_simp) rfl ⟨⟨t, rfl⟩, cell_set0 _ _ _ (unhide HL).rd, mv_set2 w R _ _ _ _⟩
        · go_wp2
          refine bodyPost_ret (v := .agg #[.int .i64 t.kind, .string (mkS t.text), .int .i64 t.n, .int .i64 t.pos]) (by rw [results_one rfl]; go_simp) rfl ⟨⟨t, rfl⟩, cell_set0 _ _ _ (unhide HL).rd, mv_set2 w R _ _ _ _⟩
theorem number_any (R : Nat) (x : Left) (w : World) (h : RAt w R x) : Calls Try.prog 32 #[.pointer (some ⟨R, 0, none⟩)] w fun e w' => e = .returned (.int .i64 (takeT 2 x).n) ∧ RAt w' R (goneP 2 x) ∧ Mv R w.heap.size w w' := by
  have CT := hide (take_any R 2 (by decide) x w h)
  generalize takeT 2 x = t at *
  generalize goneP 2 x = y at *
  clear h
  go_enter Try.func32, Try.ntmps32
  go_wp2_with fail
  refine (unhide CT).mono ?_
  rintro e w1 ⟨rfl, hr, hm⟩
  have HH := hide (And.intro hr hm)
  clear hr hm
  rw [tokV]
  have hfd : ∀ w : World, (Instr.field 53 (.agg #[.int .i64 t.kind, .string (mkS t.text), .int .i64 t.n, .int .i64 t.pos]) 2).run Try.prog w = .ok (.int .i64 t.n) w := fun _ => by kernel_rfl
  go_wp2
  go_ret
  exact ⟨rfl, unhide HH⟩
/- a word -/
def wordX (nm : List UInt8) (x : Left) : Left := thenE x (wordP nm)
theorem word_gone {nm : List UInt8} {x : Left} (h : seesB nm x = true) : goneP 3 x = wordX nm x := by
  cases x with
  | error p => cases h
  | ok L =>
    cases L with
    | nil => cases h
    | cons t r =>
      have h' : isWord nm (t :: r) = true := h
      have hk : (t.kind == 3) = true := by simp [isWord] at h' ⊢; exact h'.1
      simp [goneP, wordX, thenE, wordP, h', hk]
set_option maxHeartbeats 800000 in
theorem word_any (R : Nat) (nm : ByteArray) (x : Left) (w : World) (h : RAt w R x) : Calls Try.prog 31 #[.pointer (some ⟨R, 0, none⟩), .string nm] w fun e w' => e = .returned (.tuple #[]) ∧ RAt w' R (wordX (bl nm) x) ∧ Mv R w.heap.size w w' := by
  have CS := hide (sees_any R nm x w h)
  have CT := hide (fun x w h => take_any R 3 (by decide) x w h)
  have HR := hide h
  have hsz := h.size
  obtain ⟨g, off, cap, L, e, hl, hs⟩ := h
  have r1 : w.cell? ⟨R, 1, none⟩ = some (.int .i64 e) := cell_block hl.rd
  have f0 := fun j => frozen_block (j := j) hl.rd
  cases x with
  | error p =>
    obtain ⟨rfl, hne, hp⟩ := hs
    have he : (p.1 == 0) = false := beq_eq_false_iff_ne.2 hne
    clear hl hne hp
    go_enter Try.func31, Try.ntmps31
    go_wp2_with fail
    refine (unhide CT _ _ (unhide HR)).mono ?_
    rintro e w1 ⟨rfl, hr, hm⟩
    have HH := hide (And.intro hr hm)
    clear hr hm
    go_wp2
    go_end0
    exact ⟨rfl, unhide HH⟩
  | ok M =>
    obtain ⟨rfl, rfl⟩ := hs
    have HL := hide hl
    have hw := fun h => word_gone (nm := bl nm) (x := .ok L) h
    cases hb : seesB (bl nm) (.ok L)
    · rw [hb] at CS
      have he : wordX (bl nm) (.ok L) = .error (2, posOf L) := by
        have : isWord (bl nm) L = false := hb
        simp [wordX, thenE, wordP, this]
      rw [he]
      clear hb hl hw he
      go_enter Try.func31, Try.ntmps31
      go_wp2_with fail
      refine (unhide CS).mono ?_
      rintro e w' ⟨rfl, hw⟩
      rw [hw]; clear hw w'
      go_wp2_with fail
      refine (unhide CT (.error (2, posOf L)) _ (RAt.mkE ((unhide HL).err 2) (by decide))).mono ?_
      rintro e w1 ⟨rfl, hr, hm⟩
      have HH := hide (And.intro hr (((Mv.refl R w.heap.size w).setCell (p := ⟨R, 1, none⟩) (.inr rfl) (.int .i64 2)).trans (hm.mono (by simp [World.setCell]))))
      clear hr hm
      go_wp2
      go_end0
      exact ⟨rfl, unhide HH⟩
    · rw [hb] at CS
      rw [← hw hb]
      clear hb hl hw
      go_enter Try.func31, Try.ntmps31
      go_wp2_with fail
      refine (unhide CS).mono ?_
      rintro e w' ⟨rfl, hw⟩
      rw [hw]; clear hw w'
      go_wp2_with fail
      refine (unhide CT _ _ (unhide HR)).mono ?_
      rintro e w1 ⟨rfl, hr, hm⟩
      have HH := hide (And.intro hr hm)
      clear hr hm
      go_wp2
      go_end0
      exact ⟨rfl, unhide HH⟩
end Go.Proofs.Ytfpaigcbjpolhaa.Lex
