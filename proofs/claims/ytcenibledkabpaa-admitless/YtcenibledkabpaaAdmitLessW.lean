/- The law of chapter 13 of a region that is shorter by one, over what package admit answers. -/
import Derived.Test.YtcenibledkabpaaAdmitLaw
import Derived.Test.YtcenibledkabpaaLessHeld
namespace Go.Proofs.Ytcenibledkabpaa.Lex
set_option maxRecDepth 100000
open Go.ChangeShapes Go.WideShapes Go.RowKit

theorem judge_all {s : SetV} : judgeH s = 1 ↔ ∀ k, k < s.ts.length → hAt s k = 1 := by
  cases hb : badTo s s.ts.length with
  | none => exact ⟨fun _ => bad_none.1 hb, fun _ => (judge_ok hb).1⟩
  | some j =>
    have h1 := bad_some hb
    rw [(judge_bad hb).1]
    exact ⟨fun h => absurd h h1.2, fun h => absurd (h j h1.1) h1.2⟩
theorem less_judge {x s : SetV} {i p : Nat} (h : Less1 x s i p) (ha : allB s = true) (hu : ∀ t ∈ s.ts, U64 t.ecb ∧ U64 t.ucb) (hax : allB x = true) (hux : ∀ t ∈ x.ts, U64 t.ecb ∧ U64 t.ucb) (hj : judgeH s = 1) : judgeH x = 1 := by
  obtain ⟨hr, -, -, -⟩ := all_fits ha hu
  rw [judge_all] at hj ⊢
  intro k hk
  have hk' : k < s.ts.length := by rw [← h.len]; exact hk
  exact easy_with (h.easy hr.1) ha hu hax hux hk' (h.most hr.1 k) (hj k hk')
theorem field_how (a t : Int) (ao : Option Addr) (l c : Nat) (w : World) : (Instr.field 28 (.agg #[.int .i64 a, .int .i64 t, .slice ao l c]) 0).run Try.prog w = .ok (.int .i64 a) w := by rfl
set_option maxHeartbeats 6400000 in
theorem aless_law (hJ : CJudge) (s : SetV) (i q : Int) (w : World) (hs : SetIn w s) (_ : I64 i) (_ : I64 q) : Calls Try.prog 7 #[s.val, .int .i64 i, .int .i64 q] w fun e w' => e = .returned (.bool true) ∧ Below w.heap.size w w' := by
  have hlen := hs.len
  have CK := hide (fun w => jknown_any hJ w)
  have CM := hide (fun w h => rmay13_any s w h)
  have CA := hide (fun w h => rall_any s w h)
  have HIN := hide hs
  have HBX := hide (sbox_new w s 24)
  cases hb : allB s
  · rw [hb] at CA
    clear hb hJ hs
    obtain ⟨rl, ao, cap, ts⟩ := s
    go_enter Try.func7, Try.ntmps7
    rw [SetV.val]
    simp only
    go_wp2_with fail
    refine (unhide CM _ (set_bel (unhide HIN) ((Below.refl _ _).alloc (Nat.le_refl _) _))).mono ?_
    rintro e w1 ⟨o, rfl, ho, bel⟩
    have B1 := hide (bel_box (Below.refl _ _) bel)
    have X1 := hide ((unhide HBX).bel bel)
    obtain ⟨c0, c1⟩ := unhide X1
    clear bel ho
    cases o with
    | false =>
      go_wp2
      go_ret
      exact ⟨rfl, unhide B1⟩
    | true =>
      go_wp2_with fail
      refine (unhide CA _ (set_bel (unhide HIN) (unhide B1))).mono ?_
      rintro e w2 ⟨rfl, bel⟩
      have B2 := hide (below_on (unhide B1) bel)
      clear bel
      go_wp2
      go_ret
      exact ⟨rfl, unhide B2⟩
  rw [hb] at CA
  have hu : ∀ t ∈ s.ts, U64 t.ecb ∧ U64 t.ucb := fun t ht => ⟨(hs.each t ht).ecb, (hs.each t ht).ucb⟩
  obtain ⟨hr, h8, -, hfit⟩ := all_fits hb hu
  by_cases hin : ¬ (0 ≤ i ∧ i < s.ts.length)
  · clear hb hJ hs hu hfit hr
    obtain ⟨rl, ao, cap, ts⟩ := s
    simp only at hin hlen h8
    go_enter Try.func7, Try.ntmps7
    rw [SetV.val]
    simp only
    go_wp2_with fail
    refine (unhide CM _ (set_bel (unhide HIN) ((Below.refl _ _).alloc (Nat.le_refl _) _))).mono ?_
    rintro e w1 ⟨o, rfl, ho, bel⟩
    have B1 := hide (bel_box (Below.refl _ _) bel)
    have X1 := hide ((unhide HBX).bel bel)
    obtain ⟨c0, c1⟩ := unhide X1
    clear bel ho
    cases o with
    | false =>
      go_wp2
      go_ret
      exact ⟨rfl, unhide B1⟩
    | true =>
      go_wp2_with fail
      refine (unhide CA _ (set_bel (unhide HIN) (unhide B1))).mono ?_
      rintro e w2 ⟨rfl, bel⟩
      have B2 := hide (below_on (unhide B1) bel)
      have X2 := hide ((unhide X1).bel bel)
      clear c0 c1 bel
      obtain ⟨c0, c1⟩ := unhide X2
      by_cases i0 : i < 0
      · go_wp2
        go_ret
        exact ⟨rfl, unhide B2⟩
      · have i1 : (ts.length : Int) ≤ i := by omega
        go_wp2
        go_ret
        exact ⟨rfl, unhide B2⟩
  obtain ⟨kk, rfl⟩ : ∃ kk : Nat, i = kk := ⟨i.toNat, by omega⟩
  have hkk : kk < s.ts.length := by omega
  have hfk := (hfit kk hkk).is
  have CR := hide (fun w h => rjudge_any s w h hb)
  have CP := hide (fun w h => rput_any s w h (by omega))
  have HLJ := hide (fun (x : SetV) (p : Nat) (h : Less1 x s kk p) (hax : allB x = true) hux => less_judge h hb hu hax hux)
  have HJ := hide hJ
  have hrl := reg_range hfk
  have hk0 : (0 : Int) ≤ (kk : Int) := by omega
  have hk1 : (kk : Int) < (s.ts.length : Int) := by omega
  have h30 : s.ts.length ≤ 30 := by omega
  generalize judgeH s = jh at *
  generalize judgeT s = jt at *
  generalize judgeR s = jr at *
  clear hb hJ hu hfit hr hin
  obtain ⟨rl, ao, cap, ts⟩ := s
  simp only at hlen h8 hkk hfk hrl hk1 h30
  go_enter Try.func7, Try.ntmps7
  rw [SetV.val]
  simp only
  go_wp2_with fail
  refine (unhide CM _ (set_bel (unhide HIN) ((Below.refl _ _).alloc (Nat.le_refl _) _))).mono ?_
  rintro e w1 ⟨o, rfl, ho, bel⟩
  have B1 := hide (bel_box (Below.refl _ _) bel)
  have X1 := hide ((unhide HBX).bel bel)
  obtain ⟨c0, c1⟩ := unhide X1
  clear bel ho
  cases o with
  | false =>
    go_wp2
    go_ret
    exact ⟨rfl, unhide B1⟩
  | true =>
    go_wp2_with fail
    refine (unhide CA _ (set_bel (unhide HIN) (unhide B1))).mono ?_
    rintro e w2 ⟨rfl, bel⟩
    have B2 := hide (below_on (unhide B1) bel)
    have X2 := hide ((unhide X1).bel bel)
    clear c0 c1 bel
    obtain ⟨c0, c1⟩ := unhide X2
    go_wp2_with fail
    refine (unhide CR _ (set_bel (unhide HIN) (unhide B2))).mono ?_
    rintro e w3 ⟨v, rfl, hv, -, bel⟩
    have B3 := hide (below_on (unhide B2) bel)
    have X3 := hide ((unhide X2).bel bel)
    clear c0 c1 bel
    obtain ⟨c0, c1⟩ := unhide X3
    rw [VerdV.val, hv.1]
    clear hv
    have hfld := field_how jh v.task v.ao v.r.length v.cap w3
    by_cases hj : jh = 1
    · subst hj
      go_wp2_with fail
      refine (unhide CP _ (set_bel (unhide HIN) (unhide B3))).mono ?_
      rintro e w4 ⟨s', rfl, hput⟩
      obtain ⟨rl', ao', cap', L⟩ := s'
      have hL : L.length = ts.length := hput.len
      obtain ⟨ga, cur, rfl, hgh⟩ : ∃ ga cur, ao' = some ⟨ga, 0, none⟩ ∧ w4.heap[ga]? = some (.cells cur 37 (0, 0)) := by
        rcases hput.row.2 with ⟨-, h0⟩ | ⟨g, c, cur, e, h1, h2, h3, -⟩
        · simp only at h0; omega
        · exact ⟨g, cur, (Value.slice.inj e).1, h2⟩
      have hga : ga < w4.heap.size := by
        rcases Nat.lt_or_ge ga w4.heap.size with l | l
        · exact l
        · rw [Array.getElem?_eq_none l] at hgh; cases hgh
      have hkL : kk < L.length := by omega
      have hrk : (L.getD kk task0).regs = (ts.getD kk task0).regs := put_len (hput.copy kk hkk)
      have hown : OwnTask w4 (w3.heap.size + 3) (L.getD kk task0) := hput.each _ (getD_in hkL)
      obtain ⟨g, hgo, hgB, cs, hgc, hgs⟩ := own_at hown (by rw [hrk]; exact hrl.1)
      have hg : g < w4.heap.size := by
        rcases Nat.lt_or_ge g w4.heap.size with l | l
        · exact l
        · rw [Array.getElem?_eq_none l] at hgc; cases hgc
      have hrow := hput.row
      simp only at hrow
      have a6 := hrow.cellAt (kk * 9 + 6) (by omega)
      rw [task_flat L kk hkL 6 (by omega)] at a6
      have a6' : w4.cell? ⟨ga, kk * 9 + 6, none⟩ = some (.slice (some ⟨g, 0, none⟩) (ts.getD kk task0).regs.length (L.getD kk task0).cap) := by rw [a6, ← hgo, ← hrk]; rfl
      obtain ⟨m, hand⟩ := and_low q
      obtain ⟨p, hp⟩ : ∃ p : Nat, p = m % (ts.getD kk task0).regs.length := ⟨_, rfl⟩
      have hpl : p < (ts.getD kk task0).regs.length := by rw [hp]; exact Nat.mod_lt _ hrl.1
      have htm : (m : Int).tmod ((ts.getD kk task0).regs.length : Int) = (p : Int) := by rw [hp]; exact (Int.ofNat_tmod m _).symm
      have htm2 : (m : Int) % ((ts.getD kk task0).regs.length : Int) = (p : Int) := by rw [hp]; exact (Int.natCast_emod m _).symm
      have ap := (show w4.ownsRow (w3.heap.size + 3) 2 1 (.slice (L.getD kk task0).ao (L.getD kk task0).regs.length (L.getD kk task0).cap) (L.getD kk task0).regs.length ((L.getD kk task0).regs.map intV) from hown)
      rw [hgo, hrk] at ap
      have ap' := ap.cellAt p (by omega)
      have ap2 : w4.cell? ⟨g, p, none⟩ = some (.int .i64 ((ts.getD kk task0).regs.getD p 0)) := ap'.trans (reg_cell hpl)
      have fz : w4.frozen? ⟨g, p, none⟩ = false := frozen_block hgc
      have hx := hrl.2.2 _ (reg_in hpl)
      have hnew := less_put (V := w4) (set_bel (unhide HIN) (unhide B3)) hput (Below.refl _ _) hkk hpl hgo (by show I64 ((ts.getD kk task0).regs.getD p 0 - 1); unfold I64; omega)
      simp only at hnew
      have HNEW := hide hnew
      clear hnew
      have e1 : IntKind.i64.wrap ((ts.getD kk task0).regs.getD p 0 - 1) = (ts.getD kk task0).regs.getD p 0 - 1 := i64_is _ (by omega)
      have BP := hide ((below_on (unhide B3) hput.below).setCell (p := ⟨g, p, none⟩) (by show w.heap.size ≤ g; have := (unhide B3).size; omega) (.int .i64 ((ts.getD kk task0).regs.getD p 0 - 1)))
      have hsz3 := (unhide B3).size
      have hsz4 := hput.below.size
      have hne1 : ga ≠ w4.heap.size := Nat.ne_of_lt hga
      have hne2 : g ≠ w4.heap.size := Nat.ne_of_lt hg
      have hR0 : ((ts.getD kk task0).regs.length : Int) ≠ 0 := by omega
      have hp0 : (0 : Int) ≤ (p : Int) := by omega
      have hp1 : (p : Int) < ((ts.getD kk task0).regs.length : Int) := by omega
      have hm0 : (0 : Int) ≤ (m : Int) := by omega
      have HLJx := hide (fun hax hux => unhide HLJ _ p (unhide HNEW).2 hax hux trivial)
      have hXl : (L.set kk (putR (L.getD kk task0) p ((ts.getD kk task0).regs.getD p 0 - 1))).length = ts.length := by rw [List.length_set]; exact hL
      have CAX := hide (fun W h => rall_any ⟨rl', some ⟨ga, 0, none⟩, cap', L.set kk (putR (L.getD kk task0) p ((ts.getD kk task0).regs.getD p 0 - 1))⟩ W h)
      have HXIN := hide (unhide HNEW).1
      have HUX := hide (fun (t : TaskV) (ht : t ∈ L.set kk (putR (L.getD kk task0) p ((ts.getD kk task0).regs.getD p 0 - 1))) => (⟨((unhide HXIN).each t ht).ecb, ((unhide HXIN).each t ht).ucb⟩ : U64 t.ecb ∧ U64 t.ucb))
      have CJX := hide (fun W h ha => unhide HJ ⟨rl', some ⟨ga, 0, none⟩, cap', L.set kk (putR (L.getD kk task0) p ((ts.getD kk task0).regs.getD p 0 - 1))⟩ W h ha)
      clear hp hown hrow a6 ap ap' hgs hgc hgB hx hfk hput HNEW HLJ HJ hsz3 hgo hrk CR CP CM CA
      simp only [SetV.val] at CAX CJX
      rw [hXl] at CAX CJX
      rw [SetV.val]
      simp only
      rw [hL]
      generalize (ts.getD kk task0).regs.getD p 0 = x0 at *
      generalize (ts.getD kk task0).regs.length = nr at *
      generalize (L.getD kk task0).cap = cp at *
      generalize L.set kk (putR (L.getD kk task0) p (x0 - 1)) = X at *
      have hrr := hide hrl
      clear hrl
      go_wp2_with fail
      have BQ := hide ((unhide BP).alloc (by have := (unhide BP).size; simpa using this) (.cells #[.int .i64 rl', .slice (some ⟨ga, 0, none⟩) ts.length cap'] 24))
      have XQ := hide (sbox_new (w4.setCell ⟨g, p, none⟩ (.int .i64 (x0 - 1))) ⟨rl', some ⟨ga, 0, none⟩, cap', X⟩ 24)
      have XI := hide (set_bel (unhide HXIN) ((Below.refl _ _).alloc (Nat.le_refl _) (.cells #[.int .i64 rl', .slice (some ⟨ga, 0, none⟩) ts.length cap'] 24)))
      simp only at XQ
      rw [hXl] at XQ
      refine (unhide CAX _ (unhide XI)).mono ?_
      rintro e w6 ⟨rfl, bel⟩
      cases hbx : allB ⟨rl', some ⟨ga, 0, none⟩, cap', X⟩
      · have B6 := hide (below_on (unhide BQ) bel)
        clear bel
        go_wp2
        go_ret
        exact ⟨rfl, unhide B6⟩
      · have B6 := hide (below_on (unhide BQ) bel)
        have X6 := hide ((unhide XQ).bel bel)
        have XI6 := hide (set_bel (unhide XI) bel)
        have HH := hide (unhide HLJx hbx (unhide HUX))
        have HBX' := hide hbx
        clear bel hbx
        obtain ⟨d0, d1⟩ := unhide X6
        have hz : (w4.setCell ⟨g, p, none⟩ (.int .i64 (x0 - 1))).heap.size = w4.heap.size := by simp
        rw [hz] at d0 d1
        simp only [hXl] at d1
        go_wp2_with fail
        refine (unhide CJX _ (unhide XI6) (unhide HBX')).mono ?_
        rintro e w7 ⟨v2, rfl, hv2, -, bel⟩
        have B7 := hide ((below_on (unhide B6) bel).alloc (below_on (unhide B6) bel).size (.cells #[.int .i64 1, .int .i64 v2.task, .slice v2.ao v2.r.length v2.cap] 28))
        rw [VerdV.val, hv2.1, unhide HH]
        clear hv2 bel d0 d1 c0 c1
        go_wp2_with fail
        refine (unhide CK _).mono ?_
        rintro e w8 ⟨rfl, bel⟩
        have B8 := hide (below_on (unhide B7) bel)
        clear bel
        go_wp2
        go_ret
        exact ⟨rfl, unhide B8⟩
    · go_wp2
      go_ret
      exact ⟨rfl, unhide B3⟩
end Go.Proofs.Ytcenibledkabpaa.Lex
