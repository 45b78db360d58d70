/- The reader's regions, a mode. -/
import Derived.Test.YtfpaigcbjpolhaaParseRd3
namespace Go.Proofs.Ytfpaigcbjpolhaa.Lex
open Go.ChangeShapes Go.WideShapes Go.RowKit

abbrev Reads (A : Type) := Except (Int × Int) (A × List Tok)
def regsX (x : Left) : Reads (List Int) := thenE x fun L => thenE (tokP 2 L) fun r => .ok (r.1.n :: (numsP r.2).1, (numsP r.2).2)
def numsX (l : List Int) (x : Left) : Reads (List Int) := thenE x fun L => .ok (l ++ (numsP L).1, (numsP L).2)
theorem regs_first (x : Left) : regsX x = numsX [(takeT 2 x).n] (goneP 2 x) := by
  cases x with
  | error p => rfl
  | ok L =>
    cases L with
    | nil => simp [regsX, numsX, goneP, thenE, tokP]
    | cons t r =>
      cases hk : t.kind == 2
      · simp [regsX, numsX, goneP, thenE, tokP, hk]
      · simp [regsX, numsX, goneP, takeT, thenE, tokP, hk]
theorem nums_next {l : List Int} {y : Left} (h : headIs 2 y = true) : numsX l y = numsX (l ++ [(takeT 2 y).n]) (goneP 2 y) ∧ mea (goneP 2 y) + 1 = mea y := by
  obtain ⟨t, r, rfl, hk⟩ := head_ok h
  simp [numsX, goneP, takeT, thenE, numsP, mea, hk]
theorem nums_last {l : List Int} {y : Left} (h : headIs 2 y = false) : numsX l y = thenE y (fun L => .ok (l, L)) := by
  cases y with
  | error p => rfl
  | ok L =>
    cases L with
    | nil => simp [numsX, thenE, numsP]
    | cons t r =>
      have hk : (t.kind == 2) = false := h
      simp [numsX, thenE, numsP, hk]
theorem gone_mea (k : Int) (x : Left) : mea (goneP k x) ≤ mea x := by
  cases x with
  | error p => simp [goneP, mea]
  | ok L =>
    cases L with
    | nil => simp [goneP, mea]
    | cons t r => simp only [goneP]; split <;> simp [mea]
theorem taken_n {w : World} {R : Nat} {x : Left} (h : RAt w R x) (k : Int) : 0 ≤ (takeT k x).n ∧ (takeT k x).n < 1000000000 := by
  cases x with
  | error p => simp [takeT, noTok]
  | ok L =>
    cases L with
    | nil => simp [takeT, noTok]
    | cons t r =>
      simp only [takeT]
      split
      · exact (h.okay.each t (List.mem_cons_self ..)).n
      · simp [noTok]
theorem own_one (w : World) (n : Int) {base : Nat} (hb : base ≤ w.heap.size) : (w.alloc (.cells #[.int .i64 n] 2)).ownsRow base 2 1 (.slice (some ⟨w.heap.size, 0, none⟩) 1 1) [n].length ([n].map intV) :=
  World.ownsRow_lit (base := base) (e := 2) (size := 1) w #[.int .i64 n] 1 hb (by unfold maxLen; decide) rfl
theorem fresh_int (w : World) (n : Int) (ty : TypeId) {m : Nat} (hm : w.heap.size = m) : ∀ j u, [intV n][j]? = some u → (w.alloc (.cells #[.int .i64 n] ty)).cell? ((⟨m, 0, none⟩ : Addr).add j) = some u := by
  subst hm
  intro j u hj
  match j, hj with
  | 0, hj => simp [intV] at hj; subst hj; simp [Addr.add]
theorem one_int (n : Int) : ∀ u ∈ [intV n], u.oneCell' = true := by
  intro u hu
  simp [intV] at hu
  subst hu; rfl
set_option maxHeartbeats 1600000 in
theorem regs_any (R : Nat) (x : Left) (w : World) (h : RAt w R x) : Calls Try.prog 47 #[.pointer (some ⟨R, 0, none⟩)] w fun e w' => ∃ (v : Value) (l : List Int) (y : Left), e = .returned v ∧ w'.ownsRow w.heap.size 2 1 v l.length (l.map intV) ∧ v ≠ .slice none 0 0 ∧ l.length ≤ 5000 ∧ (∀ n ∈ l, 0 ≤ n ∧ n < 1000000000) ∧ RAt w' R y ∧ regsX x = thenE y (fun L => .ok (l, L)) ∧ Mv R w.heap.size w w' := by
  obtain ⟨i0, hi, hz0, hz1, hz2⟩ := info_parts Try.info_i64
  have CN := hide (number_any R x w h)
  have CM := hide (fun x w h => number_any R x w h)
  have CS := hide (fun x w h => stands_any R 2 x w h)
  have HF := hide (regs_first x)
  have hsz := h.size
  have HG := hide (taken_n h 2)
  have HA := hide (Nat.le_trans (gone_mea 2 x) h.mle)
  clear h
  generalize regsX x = Q at *
  generalize (takeT 2 x).n = n at *
  generalize goneP 2 x = y1 at *
  go_enter Try.func47, Try.ntmps47
  go_wp2_with fail
  refine (unhide CN).mono ?_
  rintro e w1 ⟨rfl, hr, hm⟩
  have HR1 := hide (hr.alloc (.cells #[.int .i64 n] 2))
  have HM1 := hide (hm.alloc hm.size (.cells #[.int .i64 n] 2))
  have HO1 := hide (own_one w1 n hm.size)
  clear hr hm
  go_wp2
  go_loopw [3] (fun v wr => ∃ (l : List Int) (y : Left), wr.ownsRow w.heap.size 2 1 v l.length (l.map intV) ∧ v ≠ .slice none 0 0 ∧ l.length + mea y ≤ 4003 ∧ (∀ n ∈ l, 0 ≤ n ∧ n < 1000000000) ∧ RAt wr R y ∧ Q = numsX l y ∧ Mv R w.heap.size w wr) (fun _ wr => meaW R wr)
  case atStart => exact ⟨[n], y1, unhide HO1, by simp, by have := unhide HA; simp; omega, fun m hm => by rw [List.mem_singleton.1 hm]; exact unhide HG, unhide HR1, unhide HF, unhide HM1⟩
  case round =>
    clear HF HG HA HR1 HM1 HO1 CN
    obtain ⟨l, y, hown, hv, hlen, hall, hr, hq, hm⟩ := hrel
    have CH := hide (unhide CS y wr hr)
    have HM := hide hr.mea
    cases hb : headIs 2 y
    · rw [hb] at CH
      have HQ := hide (hq.trans (nums_last hb))
      have HH := hide (And.intro hr hm)
      have HO := hide hown
      have HL := hide hall
      have hl5 : Hid (l.length ≤ 5000) := hide (by omega)
      have HV := hide hv
      clear hb hq hr hm hown hall hv
      go_wp2_with fail
      refine (unhide CH).mono ?_
      rintro e w' ⟨rfl, hw⟩
      rw [hw]; clear hw w'
      go_wp2
      go_ret
      exact ⟨_, l, y, rfl, unhide HO, unhide HV, unhide hl5, unhide HL, (unhide HH).1, unhide HQ, (unhide HH).2⟩
    · rw [hb] at CH
      obtain ⟨n1, n2⟩ := nums_next (l := l) hb
      have HN := hide (hq.trans n1)
      have HL := hide n2
      have C2 := hide (unhide CM y wr hr)
      have HT := hide (taken_n hr 2)
      have HM1 := hide hm
      have HO := hide hown
      have HA := hide hall
      have hl5 : l.length ≤ 4003 := by omega
      have HLEN := hide hlen
      have HV := hide hv
      clear hb hq hr hm n1 n2 hown hall hlen hv
      generalize (takeT 2 y).n = n at *
      generalize goneP 2 y = y' at *
      go_wp2_with fail
      refine (unhide CH).mono ?_
      rintro e w' ⟨rfl, hw⟩
      rw [hw]; clear hw w'
      go_wp2_with fail
      refine (unhide C2).mono ?_
      rintro e w2 ⟨rfl, hr, hm⟩
      have hown := (hm.own (unhide HO) hsz)
      have hmv := (unhide HM1).trans (hm.mono (unhide HM1).size)
      have hsz2 := hmv.size
      have HR := hide hr
      clear hr hm
      go_wp2_with (at_builtin; refine wpList_append_own _ rfl _ _ 38 rfl w.heap.size 2 i0 (.int .i64 0) 1 8 (by kernel_rfl) hi hz0 hz1 hz2 rfl (by decide) _ _ _ rfl (hown.alloc _) ⟨w2.heap.size, 0, none⟩ 1 1 [intV n] rfl rfl (fresh_int w2 n _ rfl) (one_int n) (by unfold maxLen; omega) (by omega) (by simp; omega) ?_)
      intro v' w3 hown' hgrow hv'
      have HO3 : Hid (w3.ownsRow w.heap.size 2 1 v' (l ++ [n]).length ((l ++ [n]).map intV)) := by
        show w3.ownsRow w.heap.size 2 1 v' (l ++ [n]).length ((l ++ [n]).map intV)
        simpa using hown'
      have hlt := fun j hj => ((hown.alloc (.cells #[.int .i64 n] 2)).lt j hj).1
      have HM3 := hide ((hmv.alloc hsz2 (.cells #[.int .i64 n] 2)).grown hgrow (by simp; omega) hlt)
      have HR3 := hide (((unhide HR).alloc (.cells #[.int .i64 n] 2)).keep ((Below.refl (R + 1) _).grown hgrow (by simp; omega) (fun j hj => by have := hlt j hj; omega)))
      have HV3 : Hid (v' ≠ .slice none 0 0) := hv'
      clear hown' hgrow hown hmv hlt hv'
      go_wp2
      go_roundw
      case rel => exact ⟨l ++ [n], y', unhide HO3, unhide HV3, by have := unhide HLEN; have := unhide HL; simp; omega, fun m hm => by
        rcases List.mem_append.1 hm with h | h
        · exact unhide HA m h
        · rw [List.mem_singleton.1 h]; exact unhide HT, unhide HR3, unhide HN, unhide HM3⟩
      case measure => rw [unhide HM, (unhide HR3).mea]; have := unhide HL; omega
/- a mode -/
abbrev Mode3 := Int × Int × Int
def modeX (x : Left) : Reads Mode3 := thenE x modeP
def wFloatS : ByteArray := ⟨#[102, 108, 111, 97, 116]⟩
def wThreshS : ByteArray := ⟨#[116, 104, 114, 101, 115, 104]⟩
def wFixedS : ByteArray := ⟨#[102, 105, 120, 101, 100]⟩
theorem sees_word {nm : List UInt8} {x : Left} (h : seesB nm x = true) : ∃ t r, x = .ok (t :: r) ∧ t.kind = 3 ∧ t.text = nm ∧ wordX nm x = .ok r := by
  cases x with
  | error p => cases h
  | ok L =>
    cases L with
    | nil => cases h
    | cons t r =>
      have h' : isWord nm (t :: r) = true := h
      have h2 : t.kind = 3 ∧ t.text = nm := by simpa [isWord] using h'
      exact ⟨t, r, rfl, h2.1, h2.2, by simp [wordX, thenE, wordP, h']⟩
theorem mode_float {x : Left} (h : seesB wFloat x = true) : modeX x = thenE (goneP 2 (wordX wFloat x)) (fun L => .ok ((1, (takeT 2 (wordX wFloat x)).n, 0), L)) := by
  obtain ⟨t, r, rfl, hk, ht, hx⟩ := sees_word h
  rw [hx]
  have h1 : isWord wFixed (t :: r) = false := by simp [isWord, ht]; intro _; decide
  have h2 : isWord wFloat (t :: r) = true := h
  cases r with
  | nil => simp [modeX, thenE, modeP, h1, h2, tokP, goneP]
  | cons u r =>
    cases hu : u.kind == 2 <;> simp [modeX, thenE, modeP, h1, h2, tokP, goneP, takeT, hu]
theorem mode_thresh {x : Left} (h : seesB wThresh x = true) : modeX x = thenE (goneP 2 (wordX wThresh x)) (fun L => .ok ((2, 0, (takeT 2 (wordX wThresh x)).n), L)) := by
  obtain ⟨t, r, rfl, hk, ht, hx⟩ := sees_word h
  rw [hx]
  have h1 : isWord wFixed (t :: r) = false := by simp [isWord, ht]; intro _; decide
  have h3 : isWord wFloat (t :: r) = false := by simp [isWord, ht]; intro _; decide
  have h2 : isWord wThresh (t :: r) = true := h
  cases r with
  | nil => simp [modeX, thenE, modeP, h1, h2, h3, tokP, goneP]
  | cons u r =>
    cases hu : u.kind == 2 <;> simp [modeX, thenE, modeP, h1, h2, h3, tokP, goneP, takeT, hu]
theorem mode_fixed {x : Left} (h : seesB wFloat x = false) (h' : seesB wThresh x = false) : modeX x = thenE (wordX wFixed x) (fun L => .ok ((0, 0, 0), L)) := by
  cases x with
  | error p => rfl
  | ok L =>
    have h2 : isWord wFloat L = false := h
    have h3 : isWord wThresh L = false := h'
    cases h1 : isWord wFixed L <;> simp [modeX, thenE, modeP, wordX, wordP, h1, h2, h3]
set_option maxHeartbeats 1600000 in
theorem mode3_any (R : Nat) (x : Left) (w : World) (h : RAt w R x) : Calls Try.prog 46 #[.pointer (some ⟨R, 0, none⟩)] w fun e w' => ∃ (m q th : Int) (y : Left), e = .returned (.tuple #[.int .i64 m, .int .i64 q, .int .i64 th]) ∧ (I64 m ∧ I64 q ∧ I64 th) ∧ RAt w' R y ∧ modeX x = thenE y (fun L => .ok ((m, q, th), L)) ∧ Mv R w.heap.size w w' := by
  have C1 := hide (sees_any R wFloatS x w h)
  have C2 := hide (sees_any R wThreshS x w h)
  have CN := hide (fun x w h => number_any R x w h)
  have HR := hide h
  have iz : ∀ n : Int, 0 ≤ n ∧ n < 1000000000 → I64 n := fun n hn => by unfold I64; omega
  cases hb : seesB wFloat x
  · have C1' : Hid (Calls Try.prog 33 #[.pointer (some ⟨R, 0, none⟩), .string wFloatS] w fun e w' => e = .returned (.bool false) ∧ w' = w) := by have := unhide C1; rw [show bl wFloatS = wFloat from rfl, hb] at this; exact this
    cases hb2 : seesB wThresh x
    · have C2' : Hid (Calls Try.prog 33 #[.pointer (some ⟨R, 0, none⟩), .string wThreshS] w fun e w' => e = .returned (.bool false) ∧ w' = w) := by have := unhide C2; rw [show bl wThreshS = wThresh from rfl, hb2] at this; exact this
      have CW := hide (word_any R wFixedS x w h)
      have HX := hide (mode_fixed hb hb2)
      rw [show bl wFixedS = wFixed from rfl] at CW
      generalize wordX wFixed x = y at *
      clear h hb hb2 C1 C2
      go_enter Try.func46, Try.ntmps46
      go_wp2_with fail
      refine (unhide C1').mono ?_
      rintro e w' ⟨rfl, hw⟩
      rw [hw]; clear hw w'
      go_wp2_with fail
      refine (unhide C2').mono ?_
      rintro e w' ⟨rfl, hw⟩
      rw [hw]; clear hw w'
      go_wp2_with fail
      refine (unhide CW).mono ?_
      rintro e w1 ⟨rfl, hr, hm⟩
      have HH := hide (And.intro hr hm)
      clear hr hm
      go_wp2
      go_ret3
      exact ⟨0, 0, 0, y, rfl, by simp [I64], (unhide HH).1, unhide HX, (unhide HH).2⟩
    · have C2' : Hid (Calls Try.prog 33 #[.pointer (some ⟨R, 0, none⟩), .string wThreshS] w fun e w' => e = .returned (.bool true) ∧ w' = w) := by have := unhide C2; rw [show bl wThreshS = wThresh from rfl, hb2] at this; exact this
      have CW := hide (word_any R wThreshS x w h)
      have HX := hide (mode_thresh hb2)
      rw [show bl wThreshS = wThresh from rfl] at CW
      generalize wordX wThresh x = y at *
      have CN' := hide (unhide CN y)
      have HT := hide (fun w (h : RAt w R y) => taken_n h 2)
      generalize (takeT 2 y).n = n at *
      generalize goneP 2 y = y2 at *
      clear h hb hb2 C1 C2 CN
      go_enter Try.func46, Try.ntmps46
      go_wp2_with fail
      refine (unhide C1').mono ?_
      rintro e w' ⟨rfl, hw⟩
      rw [hw]; clear hw w'
      go_wp2_with fail
      refine (unhide C2').mono ?_
      rintro e w' ⟨rfl, hw⟩
      rw [hw]; clear hw w'
      go_wp2_with fail
      refine (unhide CW).mono ?_
      rintro e w1 ⟨rfl, hr, hm⟩
      have HR1 := hide hr
      have HM1 := hide hm
      clear hr hm
      go_wp2_with fail
      refine (unhide CN' _ (unhide HR1)).mono ?_
      rintro e w2 ⟨rfl, hr, hm⟩
      have HH := hide (And.intro hr ((unhide HM1).on hm))
      clear hr hm
      go_wp2
      go_ret3
      exact ⟨2, 0, n, y2, rfl, ⟨by simp [I64], by simp [I64], iz n (unhide HT _ (unhide HR1))⟩, (unhide HH).1, unhide HX, (unhide HH).2⟩
  · have C1' : Hid (Calls Try.prog 33 #[.pointer (some ⟨R, 0, none⟩), .string wFloatS] w fun e w' => e = .returned (.bool true) ∧ w' = w) := by have := unhide C1; rw [show bl wFloatS = wFloat from rfl, hb] at this; exact this
    have CW := hide (word_any R wFloatS x w h)
    have HX := hide (mode_float hb)
    rw [show bl wFloatS = wFloat from rfl] at CW
    generalize wordX wFloat x = y at *
    have CN' := hide (unhide CN y)
    have HT := hide (fun w (h : RAt w R y) => taken_n h 2)
    generalize (takeT 2 y).n = n at *
    generalize goneP 2 y = y2 at *
    clear h hb C1 C2 CN
    go_enter Try.func46, Try.ntmps46
    go_wp2_with fail
    refine (unhide C1').mono ?_
    rintro e w' ⟨rfl, hw⟩
    rw [hw]; clear hw w'
    go_wp2_with fail
    refine (unhide CW).mono ?_
    rintro e w1 ⟨rfl, hr, hm⟩
    have HR1 := hide hr
    have HM1 := hide hm
    clear hr hm
    go_wp2_with fail
    refine (unhide CN' _ (unhide HR1)).mono ?_
    rintro e w2 ⟨rfl, hr, hm⟩
    have HH := hide (And.intro hr ((unhide HM1).on hm))
    clear hr hm
    go_wp2
    go_ret3
    exact ⟨1, n, 0, y2, rfl, ⟨by simp [I64], iz n (unhide HT _ (unhide HR1)), by simp [I64]⟩, (unhide HH).1, unhide HX, (unhide HH).2⟩
end Go.Proofs.Ytfpaigcbjpolhaa.Lex
