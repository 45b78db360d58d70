/- The reference's parser: a mode, put down in a task. -/
import Derived.Test.YtlfmnnngadnkpaaDoorParseP2
namespace Go.Proofs.YtlfmnnngadnkpaaDoor.Lex
open Go.ChangeShapes Go.WideShapes Go.RowKit

theorem ptaken_n {w : World} {R : Nat} {x : Left} (h : PAt w R x) (k : Int) : 0 ≤ (takeT k x).n ∧ (takeT k x).n < 1000000000 := by
  cases x with
  | error p => simp [takeT, noTok]
  | ok L =>
    cases L with
    | nil => simp [takeT, noTok]
    | cons t r =>
      simp only [takeT]
      split
      · exact (h.okay.each t (List.mem_cons_self ..)).n
      · simp [noTok]
theorem ptaken_text {w : World} {R : Nat} {x : Left} (h : PAt w R x) (k : Int) : (mkS (takeT k x).text).size ≤ 4000 := by
  have : (takeT k x).text.length ≤ 4000 := by
    cases x with
    | error p => simp [takeT, noTok]
    | ok L =>
      cases L with
      | nil => simp [takeT, noTok]
      | cons t r =>
        simp only [takeT]
        split
        · exact (h.okay.each t (List.mem_cons_self ..)).text
        · simp [noTok]
  rw [← bl_len, bl_mkS]; exact this
theorem fail_bad {c q : Int} {x : Left} : ∃ p, failX c q x = .error p := by
  cases x with
  | error p => exact ⟨p, rfl⟩
  | ok L => exact ⟨_, rfl⟩
theorem mode_nope {x : Left} (h0 : seesB wFixed x = false) (h1 : seesB wFloat x = false) (h2 : seesB wThresh x = false) (hne : x ≠ .ok []) : modeX x = thenE (failX 2 (nowT x).pos x) (fun L => .ok ((0, 0, 0), L)) := by
  cases x with
  | error p => rfl
  | ok L =>
    cases L with
    | nil => exact absurd rfl hne
    | cons t r =>
      have a0 : isWord wFixed (t :: r) = false := h0
      have a1 : isWord wFloat (t :: r) = false := h1
      have a2 : isWord wThresh (t :: r) = false := h2
      simp [modeX, thenE, modeP, a0, a1, a2, failX, nowT, posOf]
set_option maxHeartbeats 3200000 in
theorem rmode_any (R B : Nat) (x : Left) (w : World) (h : PAt w R x) (hRB : R < B) (c0 c1 c2 c6 c7 c8 : Value) (hT : w.heap[B]? = some (.cells #[c0, c1, c2, .int .i64 0, .int .i64 0, .int .i64 0, c6, c7, c8] 30 (0, 0))) :
    Calls Tryd.prog 43 #[.pointer (some ⟨R, 0, none⟩), .pointer (some ⟨B, 0, none⟩)] w fun e w' => ∃ (m q th : Int) (y : Left), e = .returned (.tuple #[]) ∧ (I64 m ∧ I64 q ∧ I64 th) ∧ w'.heap[B]? = some (.cells #[c0, c1, c2, .int .i64 m, .int .i64 q, .int .i64 th, c6, c7, c8] 30 (0, 0)) ∧ PAt w' R y ∧ modeX x = thenE y (fun L => .ok ((m, q, th), L)) ∧ Mv R B w w' := by
  have iz : ∀ n : Int, 0 ≤ n ∧ n < 1000000000 → I64 n := fun n hn => by unfold I64; omega
  have hBw := block_lt hT
  have hBR : B ≠ R := by omega
  have C0 : Hid (∀ (x : Left) (w : World), PAt w R x → Calls Tryd.prog 41 #[.pointer (some ⟨R, 0, none⟩), .string ⟨#[102, 105, 120, 101, 100]⟩] w fun e w' => e = .returned (.bool (seesB wFixed x)) ∧ PAt w' R (eatX wFixed x) ∧ Mv R w.heap.size w w') := fun x w h => eat_any R ⟨#[102, 105, 120, 101, 100]⟩ x w h
  have C1 : Hid (∀ (x : Left) (w : World), PAt w R x → Calls Tryd.prog 41 #[.pointer (some ⟨R, 0, none⟩), .string ⟨#[102, 108, 111, 97, 116]⟩] w fun e w' => e = .returned (.bool (seesB wFloat x)) ∧ PAt w' R (eatX wFloat x) ∧ Mv R w.heap.size w w') := fun x w h => eat_any R ⟨#[102, 108, 111, 97, 116]⟩ x w h
  have C2 : Hid (∀ (x : Left) (w : World), PAt w R x → Calls Tryd.prog 41 #[.pointer (some ⟨R, 0, none⟩), .string ⟨#[116, 104, 114, 101, 115, 104]⟩] w fun e w' => e = .returned (.bool (seesB wThresh x)) ∧ PAt w' R (eatX wThresh x) ∧ Mv R w.heap.size w w') := fun x w h => eat_any R ⟨#[116, 104, 114, 101, 115, 104]⟩ x w h
  have CK := hide (fun x w h => kind_any R 2 (by decide) x w h)
  have CN := hide (fun x w h => now_any R x w h)
  have CF := hide (fun q x w h => fail_any R 2 q (by decide) x w h)
  have HP := hide h
  have HT := hide hT
  clear hT
  cases hb0 : seesB wFixed x
  · have D0 := hide (unhide C0 x)
    rw [hb0, eat_no hb0] at D0
    cases hb1 : seesB wFloat x
    · have D1 := hide (unhide C1 x)
      rw [hb1, eat_no hb1] at D1
      cases hb2 : seesB wThresh x
      · have D2 := hide (unhide C2 x)
        rw [hb2, eat_no hb2] at D2
        have HX := hide (mode_nope hb0 hb1 hb2 h.ne)
        clear h hb0 hb1 hb2 C0 C1 C2
        generalize modeX x = Q at *
        go_enter Tryd.func43, Tryd.ntmps43
        go_wp2_with fail
        refine (unhide D0 _ (unhide HP)).mono ?_
        rintro e w1 ⟨rfl, hr, hm⟩
        have HR1 := hide hr
        have HM1 := hide hm
        clear hr hm
        go_wp2_with fail
        refine (unhide D1 _ (unhide HR1)).mono ?_
        rintro e w2 ⟨rfl, hr, hm⟩
        have HR2 := hide hr
        have HM2 := hide ((unhide HM1).on hm)
        clear hr hm
        go_wp2_with fail
        refine (unhide D2 _ (unhide HR2)).mono ?_
        rintro e w3 ⟨rfl, hr, hm⟩
        have HR3 := hide hr
        have HM3 := hide ((unhide HM2).on hm)
        clear hr hm
        go_wp2_with fail
        refine (unhide CN _ _ (unhide HR3)).mono ?_
        rintro e w4 ⟨rfl, hr, hm⟩
        have HR4 := hide hr
        have HM4 := hide ((unhide HM3).on hm)
        clear hr hm
        generalize nowT x = t at *
        rw [tokV]
        have hfd : ∀ w : World, (Instr.field 62 (.agg #[.int .i64 t.kind, .string (mkS t.text), .int .i64 t.n, .int .i64 t.pos]) 3).run Tryd.prog w = .ok (.int .i64 t.pos) w := fun _ => by kernel_rfl
        go_wp2_with fail
        refine (unhide CF _ _ _ (unhide HR4)).mono ?_
        rintro e w5 ⟨rfl, hr, hm⟩
        have HR5 := hide hr
        have HM5 := hide ((unhide HM4).on hm)
        clear hr hm
        go_wp2
        go_end0
        exact ⟨0, 0, 0, _, rfl, by simp [I64], (unhide HM5).at (unhide HT) hBR, unhide HR5, unhide HX, (unhide HM5).mono (by omega)⟩
      · have D2 := hide (unhide C2 x)
        rw [hb2, eat_yes hb2] at D2
        have HX := hide (mode_thresh hb2)
        clear h hb0 hb1 hb2 C0 C1 C2
        generalize modeX x = Q at *
        generalize wordX wThresh x = y at *
        have CK' := hide (unhide CK y)
        have HN := hide (fun w (h : PAt w R y) => ptaken_n h 2)
        go_enter Tryd.func43, Tryd.ntmps43
        go_wp2_with fail
        refine (unhide D0 _ (unhide HP)).mono ?_
        rintro e w1 ⟨rfl, hr, hm⟩
        have HR1 := hide hr
        have HM1 := hide hm
        clear hr hm
        go_wp2_with fail
        refine (unhide D1 _ (unhide HR1)).mono ?_
        rintro e w2 ⟨rfl, hr, hm⟩
        have HR2 := hide hr
        have HM2 := hide ((unhide HM1).on hm)
        clear hr hm
        go_wp2_with fail
        refine (unhide D2 _ (unhide HR2)).mono ?_
        rintro e w3 ⟨rfl, hr, hm⟩
        have hm3 := (unhide HM2).on hm
        have hb3 := hm3.at (unhide HT) hBR
        have t3 : w3.cell? ⟨B, 3, none⟩ = some (.int .i64 0) := cell_block hb3
        have fz := fun j => frozen_block (j := j) hb3
        have HR3 := hide (hr.setCell (p := ⟨B, 3, none⟩) hRB (.int .i64 2))
        have HM3 := hide ((hm3.mono (show B ≤ w.heap.size by omega)).setCell (p := ⟨B, 3, none⟩) (.inl (Nat.le_refl _)) (.int .i64 2))
        have HB3 := hide (block_set (j := 3) (u := .int .i64 2) hb3)
        have hB3 := block_lt hb3
        clear hr hm hb3 hm3
        go_wp2_with fail
        refine (unhide CK' _ (unhide HR3)).mono ?_
        rintro e w4 ⟨rfl, hr, hm⟩
        have hn := unhide HN _ (unhide HR3)
        have hb4 := hm.at (unhide HB3) hBR
        simp only [List.setIfInBounds_toArray, List.set_cons_zero, List.set_cons_succ] at hb4
        generalize takeT 2 y = t at *
        generalize goneP 2 y = y2 at *
        have hm4 := (unhide HM3).trans (hm.mono (show B ≤ _ by simpa using Nat.le_of_lt hB3))
        have t5 : w4.cell? ⟨B, 5, none⟩ = some (.int .i64 0) := cell_block hb4
        have fz4 := fun j => frozen_block (j := j) hb4
        have hb5 := block_set (j := 5) (u := .int .i64 t.n) hb4
        simp only [List.setIfInBounds_toArray, List.set_cons_zero, List.set_cons_succ] at hb5
        have HR4 := hide (hr.setCell (p := ⟨B, 5, none⟩) hRB (.int .i64 t.n))
        have HM4 := hide (hm4.setCell (p := ⟨B, 5, none⟩) (.inl (Nat.le_refl _)) (.int .i64 t.n))
        have HB5 := hide hb5
        have HI := hide (iz _ hn)
        clear hr hm hm4 hb4 hb5 t3 fz hn
        rw [tokV]
        have hfd : ∀ w : World, (Instr.field 62 (.agg #[.int .i64 t.kind, .string (mkS t.text), .int .i64 t.n, .int .i64 t.pos]) 2).run Tryd.prog w = .ok (.int .i64 t.n) w := fun _ => by kernel_rfl
        go_wp2
        go_end0
        exact ⟨2, 0, t.n, y2, rfl, ⟨by simp [I64], by simp [I64], unhide HI⟩, unhide HB5, unhide HR4, unhide HX, unhide HM4⟩
    · have D1 := hide (unhide C1 x)
      rw [hb1, eat_yes hb1] at D1
      have HX := hide (mode_float hb1)
      clear h hb0 hb1 C0 C1 C2
      generalize modeX x = Q at *
      generalize wordX wFloat x = y at *
      have CK' := hide (unhide CK y)
      have HN := hide (fun w (h : PAt w R y) => ptaken_n h 2)
      go_enter Tryd.func43, Tryd.ntmps43
      go_wp2_with fail
      refine (unhide D0 _ (unhide HP)).mono ?_
      rintro e w1 ⟨rfl, hr, hm⟩
      have HR1 := hide hr
      have HM1 := hide hm
      clear hr hm
      go_wp2_with fail
      refine (unhide D1 _ (unhide HR1)).mono ?_
      rintro e w3 ⟨rfl, hr, hm⟩
      have hm3 := (unhide HM1).on hm
      have hb3 := hm3.at (unhide HT) hBR
      have t3 : w3.cell? ⟨B, 3, none⟩ = some (.int .i64 0) := cell_block hb3
      have fz := fun j => frozen_block (j := j) hb3
      have HR3 := hide (hr.setCell (p := ⟨B, 3, none⟩) hRB (.int .i64 1))
      have HM3 := hide ((hm3.mono (show B ≤ w.heap.size by omega)).setCell (p := ⟨B, 3, none⟩) (.inl (Nat.le_refl _)) (.int .i64 1))
      have HB3 := hide (block_set (j := 3) (u := .int .i64 1) hb3)
      have hB3 := block_lt hb3
      clear hr hm hb3 hm3
      go_wp2_with fail
      refine (unhide CK' _ (unhide HR3)).mono ?_
      rintro e w4 ⟨rfl, hr, hm⟩
      have hn := unhide HN _ (unhide HR3)
      have hb4 := hm.at (unhide HB3) hBR
      simp only [List.setIfInBounds_toArray, List.set_cons_zero, List.set_cons_succ] at hb4
      generalize takeT 2 y = t at *
      generalize goneP 2 y = y2 at *
      have hm4 := (unhide HM3).trans (hm.mono (show B ≤ _ by simpa using Nat.le_of_lt hB3))
      have t5 : w4.cell? ⟨B, 4, none⟩ = some (.int .i64 0) := cell_block hb4
      have fz4 := fun j => frozen_block (j := j) hb4
      have hb5 := block_set (j := 4) (u := .int .i64 t.n) hb4
      simp only [List.setIfInBounds_toArray, List.set_cons_zero, List.set_cons_succ] at hb5
      have HR4 := hide (hr.setCell (p := ⟨B, 4, none⟩) hRB (.int .i64 t.n))
      have HM4 := hide (hm4.setCell (p := ⟨B, 4, none⟩) (.inl (Nat.le_refl _)) (.int .i64 t.n))
      have HB5 := hide hb5
      have HI := hide (iz _ hn)
      clear hr hm hm4 hb4 hb5 t3 fz hn
      rw [tokV]
      have hfd : ∀ w : World, (Instr.field 62 (.agg #[.int .i64 t.kind, .string (mkS t.text), .int .i64 t.n, .int .i64 t.pos]) 2).run Tryd.prog w = .ok (.int .i64 t.n) w := fun _ => by kernel_rfl
      go_wp2
      go_end0
      exact ⟨1, t.n, 0, y2, rfl, ⟨by simp [I64], unhide HI, by simp [I64]⟩, unhide HB5, unhide HR4, unhide HX, unhide HM4⟩
  · have D0 := hide (unhide C0 x)
    rw [hb0, eat_yes hb0] at D0
    have HX := hide (mode_fix hb0)
    clear h hb0 C0 C1 C2
    generalize modeX x = Q at *
    generalize wordX wFixed x = y at *
    go_enter Tryd.func43, Tryd.ntmps43
    go_wp2_with fail
    refine (unhide D0 _ (unhide HP)).mono ?_
    rintro e w1 ⟨rfl, hr, hm⟩
    have hb1 := hm.at (unhide HT) hBR
    have t3 : w1.cell? ⟨B, 3, none⟩ = some (.int .i64 0) := cell_block hb1
    have fz := fun j => frozen_block (j := j) hb1
    have HR1 := hide hr
    have HM1 := hide (hm.mono (show B ≤ w.heap.size by omega))
    have HB1 := hide hb1
    clear hr hm hb1
    go_wp2
    go_end0
    rw [set_same t3]
    exact ⟨0, 0, 0, y, rfl, by simp [I64], unhide HB1, unhide HR1, unhide HX, unhide HM1⟩
end Go.Proofs.YtlfmnnngadnkpaaDoor.Lex
