/- The law of chapter 14 of a region that is shorter by one, over what package toler answers. -/
import Derived.Test.YtndhjfpjhpnbaaaTolerLaw
import Derived.Test.YtndhjfpjhpnbaaaLessHeld
namespace Go.Proofs.Ytndhjfpjhpnbaaa.Lex
set_option maxRecDepth 100000
open Go.ChangeShapes Go.WideShapes Go.RowKit

set_option maxHeartbeats 6400000 in
theorem tless_law (hO : CTOf) (s : SetV) (i q j : Int) (w : World) (hs : SetIn w s) (hi : I64 i) (_ : I64 q) (_ : I64 j) : Calls Try.prog 6 #[s.val, .int .i64 i, .int .i64 q, .int .i64 j] w fun e w' => e = .returned (.bool true) ∧ Below w.heap.size w w' := by
  have hlen := hs.len
  have CK := hide (fun w => tknown14_any hO w)
  have CM := hide (fun w h => rmay14_any s w h)
  have HIN := hide hs
  have HBX := hide (sbox_new w s 24)
  by_cases hinI : ¬ (0 ≤ i ∧ i < s.ts.length)
  · clear hO hs
    obtain ⟨rl, ao, cap, ts⟩ := s
    simp only at hinI hlen
    go_enter Try.func6, Try.ntmps6
    rw [SetV.val]
    simp only
    go_wp2_with fail
    refine (unhide CM _ (set_bel (unhide HIN) ((Below.refl _ _).alloc (Nat.le_refl _) _))).mono ?_
    rintro e w1 ⟨⟨o, rfl, ho'⟩, bel⟩
    have B1 := hide (bel_box (Below.refl _ _) bel)
    have X1 := hide ((unhide HBX).bel bel)
    obtain ⟨c0, c1⟩ := unhide X1
    simp only at c0 c1
    clear bel ho'
    cases o with
    | false =>
      go_wp2
      go_ret
      exact ⟨rfl, unhide B1⟩
    | true =>
      by_cases i0 : i < 0
      · go_wp2
        go_ret
        exact ⟨rfl, unhide B1⟩
      · have i1 : (ts.length : Int) ≤ i := by omega
        go_wp2
        go_ret
        exact ⟨rfl, unhide B1⟩
  by_cases hinJ : ¬ (0 ≤ j ∧ j < s.ts.length)
  · clear hO hs
    obtain ⟨rl, ao, cap, ts⟩ := s
    simp only at hinJ hlen
    go_enter Try.func6, Try.ntmps6
    rw [SetV.val]
    simp only
    go_wp2_with fail
    refine (unhide CM _ (set_bel (unhide HIN) ((Below.refl _ _).alloc (Nat.le_refl _) _))).mono ?_
    rintro e w1 ⟨⟨o, rfl, ho'⟩, bel⟩
    have B1 := hide (bel_box (Below.refl _ _) bel)
    have X1 := hide ((unhide HBX).bel bel)
    obtain ⟨c0, c1⟩ := unhide X1
    simp only at c0 c1
    clear bel ho'
    cases o with
    | false =>
      go_wp2
      go_ret
      exact ⟨rfl, unhide B1⟩
    | true =>
      by_cases i0 : j < 0
      · go_wp2
        go_ret
        exact ⟨rfl, unhide B1⟩
      · have i1 : (ts.length : Int) ≤ j := by omega
        go_wp2
        go_ret
        exact ⟨rfl, unhide B1⟩
  obtain ⟨ii, rfl⟩ : ∃ ii : Nat, i = ii := ⟨i.toNat, by omega⟩
  obtain ⟨kk, rfl⟩ : ∃ kk : Nat, j = kk := ⟨j.toNat, by omega⟩
  have hii : ii < s.ts.length := by omega
  have hkk : kk < s.ts.length := by omega
  have hu : ∀ t ∈ s.ts, U64 t.ecb ∧ U64 t.ucb := fun t ht => ⟨(hs.each t ht).ecb, (hs.each t ht).ucb⟩
  have HREG := hide (fun hb => (show s.ts.length ≤ 8 ∧ 0 < (s.ts.getD kk task0).regs.length ∧ (s.ts.getD kk task0).regs.length ≤ 8 ∧ ∀ n ∈ (s.ts.getD kk task0).regs, 1 ≤ n ∧ n ≤ 10000 from by
    obtain ⟨-, h8, -, hfit⟩ := all_fits hb hu
    exact ⟨h8, reg_range (hfit kk hkk).is⟩))
  have C1 := hide (fun hb w h => hO s ii w h hb hi)
  have CP := hide (fun (h : s.ts.length ≤ 30) w hw => rput_any s w hw h)
  have HLJ := hide (fun hb (x : SetV) (p : Nat) (h : Less1 x s kk p) (hax : allB x = true) hux (ho : tolO s ii = true) => tol_easy (k := ii) (h.easy (all_fits hb hu).1.1) hb hu hax hux hii ho)
  have HOX := hide (fun (x : SetV) w h ha => hO x ii w h ha hi)
  have hi0 : (0 : Int) ≤ (ii : Int) := by omega
  have hi1 : (ii : Int) < (s.ts.length : Int) := by omega
  have hk0 : (0 : Int) ≤ (kk : Int) := by omega
  have hk1 : (kk : Int) < (s.ts.length : Int) := by omega
  clear hO hs hu hinI hinJ
  obtain ⟨rl, ao, cap, ts⟩ := s
  simp only at hlen hii hkk HREG hi1 hk1 CP
  go_enter Try.func6, Try.ntmps6
  rw [SetV.val]
  simp only
  go_wp2_with fail
  refine (unhide CM _ (set_bel (unhide HIN) ((Below.refl _ _).alloc (Nat.le_refl _) _))).mono ?_
  rintro e w1 ⟨⟨o, rfl, ho'⟩, bel⟩
  have ho := hide ho'
  have B3 := hide (bel_box (Below.refl _ _) bel)
  have X3 := hide ((unhide HBX).bel bel)
  obtain ⟨c0, c1⟩ := unhide X3
  simp only at c0 c1
  clear bel ho'
  cases o with
  | false =>
    go_wp2
    go_ret
    exact ⟨rfl, unhide B3⟩
  | true =>
    have hall := (unhide ho rfl).2
    obtain ⟨h8, hrl⟩ := unhide HREG hall
    have D1 := hide (unhide C1 hall)
    have HLJ2 := hide (unhide HLJ hall)
    have CP2 := hide (unhide CP (by omega))
    clear C1 HLJ CP hall ho CM HREG
    generalize hto : tolO ⟨rl, ao, cap, ts⟩ ii = to at *
    clear hto
    generalize hgv : tolV ⟨rl, ao, cap, ts⟩ ii = tv at *
    clear hgv
    go_wp2_with fail
    refine (unhide CP2 _ (set_bel (unhide HIN) (unhide B3))).mono ?_
    rintro e w4 ⟨s', rfl, hput⟩
    obtain ⟨rl', ao', cap', L⟩ := s'
    have hL : L.length = ts.length := hput.len
    obtain ⟨ga, cur, rfl, hgh⟩ : ∃ ga cur, ao' = some ⟨ga, 0, none⟩ ∧ w4.heap[ga]? = some (.cells cur 38 (0, 0)) := by
      rcases hput.row.2 with ⟨-, h0⟩ | ⟨g, c, cur, e, h1, h2, h3, -⟩
      · simp only at h0; omega
      · exact ⟨g, cur, (Value.slice.inj e).1, h2⟩
    have hga : ga < w4.heap.size := by
      rcases Nat.lt_or_ge ga w4.heap.size with l | l
      · exact l
      · rw [Array.getElem?_eq_none l] at hgh; cases hgh
    have hkL : kk < L.length := by omega
    have hrk : (L.getD kk task0).regs = (ts.getD kk task0).regs := put_len (hput.copy kk hkk)
    have hown : OwnTask w4 (w1.heap.size + 3) (L.getD kk task0) := hput.each _ (getD_in hkL)
    obtain ⟨g, hgo, hgB, cs, hgc, hgs⟩ := own_at hown (by rw [hrk]; exact hrl.1)
    have hg : g < w4.heap.size := by
      rcases Nat.lt_or_ge g w4.heap.size with l | l
      · exact l
      · rw [Array.getElem?_eq_none l] at hgc; cases hgc
    have hrow := hput.row
    simp only at hrow
    have a6 := hrow.cellAt (kk * 9 + 6) (by omega)
    rw [task_flat L kk hkL 6 (by omega)] at a6
    have a6' : w4.cell? ⟨ga, kk * 9 + 6, none⟩ = some (.slice (some ⟨g, 0, none⟩) (ts.getD kk task0).regs.length (L.getD kk task0).cap) := by rw [a6, ← hgo, ← hrk]; rfl
    obtain ⟨m, hand⟩ := and_low q
    obtain ⟨p, hp⟩ : ∃ p : Nat, p = m % (ts.getD kk task0).regs.length := ⟨_, rfl⟩
    have hpl : p < (ts.getD kk task0).regs.length := by rw [hp]; exact Nat.mod_lt _ hrl.1
    have htm : (m : Int).tmod ((ts.getD kk task0).regs.length : Int) = (p : Int) := by rw [hp]; exact (Int.ofNat_tmod m _).symm
    have htm2 : (m : Int) % ((ts.getD kk task0).regs.length : Int) = (p : Int) := by rw [hp]; exact (Int.natCast_emod m _).symm
    have ap := (show w4.ownsRow (w1.heap.size + 3) 2 1 (.slice (L.getD kk task0).ao (L.getD kk task0).regs.length (L.getD kk task0).cap) (L.getD kk task0).regs.length ((L.getD kk task0).regs.map intV) from hown)
    rw [hgo, hrk] at ap
    have ap' := ap.cellAt p (by omega)
    have ap2 : w4.cell? ⟨g, p, none⟩ = some (.int .i64 ((ts.getD kk task0).regs.getD p 0)) := ap'.trans (reg_cell hpl)
    have fz : w4.frozen? ⟨g, p, none⟩ = false := frozen_block hgc
    have hx := hrl.2.2 _ (reg_in hpl)
    have hnew := less_put (V := w4) (set_bel (unhide HIN) (unhide B3)) hput (Below.refl _ _) hkk hpl hgo (by show I64 ((ts.getD kk task0).regs.getD p 0 - 1); unfold I64; omega)
    simp only at hnew
    have HNEW := hide hnew
    clear hnew
    have e1 : IntKind.i64.wrap ((ts.getD kk task0).regs.getD p 0 - 1) = (ts.getD kk task0).regs.getD p 0 - 1 := i64_is _ (by omega)
    have XS := hide (((unhide X3).bel hput.below).far (x := g) (j := p) (by have := World.block_lt_of_cell? w1 _ c0; simp only at this; omega) (.int .i64 ((ts.getD kk task0).regs.getD p 0 - 1)))
    have BP := hide ((below_on (unhide B3) hput.below).setCell (p := ⟨g, p, none⟩) (by show w.heap.size ≤ g; have := (unhide B3).size; omega) (.int .i64 ((ts.getD kk task0).regs.getD p 0 - 1)))
    have hsz3 := (unhide B3).size
    have hsz4 := hput.below.size
    have hne1 : ga ≠ w4.heap.size := Nat.ne_of_lt hga
    have hne2 : g ≠ w4.heap.size := Nat.ne_of_lt hg
    have hR0 : ((ts.getD kk task0).regs.length : Int) ≠ 0 := by omega
    have hp0 : (0 : Int) ≤ (p : Int) := by omega
    have hp1 : (p : Int) < ((ts.getD kk task0).regs.length : Int) := by omega
    have hm0 : (0 : Int) ≤ (m : Int) := by omega
    have HLJx := hide (fun hax hux ho => unhide HLJ2 _ p (unhide HNEW).2 hax hux ho)
    have hXl : (L.set kk (putR (L.getD kk task0) p ((ts.getD kk task0).regs.getD p 0 - 1))).length = ts.length := by rw [List.length_set]; exact hL
    have CAX := hide (fun W h => rall_any ⟨rl', some ⟨ga, 0, none⟩, cap', L.set kk (putR (L.getD kk task0) p ((ts.getD kk task0).regs.getD p 0 - 1))⟩ W h)
    have HXIN := hide (unhide HNEW).1
    have HUX := hide (fun (t : TaskV) (ht : t ∈ L.set kk (putR (L.getD kk task0) p ((ts.getD kk task0).regs.getD p 0 - 1))) => (⟨((unhide HXIN).each t ht).ecb, ((unhide HXIN).each t ht).ucb⟩ : U64 t.ecb ∧ U64 t.ucb))
    have CJX := hide (fun W h ha => unhide HOX ⟨rl', some ⟨ga, 0, none⟩, cap', L.set kk (putR (L.getD kk task0) p ((ts.getD kk task0).regs.getD p 0 - 1))⟩ W h ha)
    clear hp hown hrow a6 ap ap' hgs hgc hgB hx hput HNEW HLJ2 HOX hsz3 hgo hrk CP2
    simp only [SetV.val] at CAX CJX
    rw [hXl] at CAX CJX
    rw [SetV.val]
    simp only
    rw [hL]
    generalize (ts.getD kk task0).regs.getD p 0 = x0 at *
    generalize (ts.getD kk task0).regs.length = nr at *
    generalize (L.getD kk task0).cap = cp at *
    generalize L.set kk (putR (L.getD kk task0) p (x0 - 1)) = X at *
    have hrr := hide hrl
    clear hrl
    go_wp2_with fail
    have BQ := hide ((unhide BP).alloc (by have := (unhide BP).size; simpa using this) (.cells #[.int .i64 rl', .slice (some ⟨ga, 0, none⟩) ts.length cap'] 24))
    have XQ := hide (sbox_new (w4.setCell ⟨g, p, none⟩ (.int .i64 (x0 - 1))) ⟨rl', some ⟨ga, 0, none⟩, cap', X⟩ 24)
    have XI := hide (set_bel (unhide HXIN) ((Below.refl _ _).alloc (Nat.le_refl _) (.cells #[.int .i64 rl', .slice (some ⟨ga, 0, none⟩) ts.length cap'] 24)))
    simp only at XQ
    rw [hXl] at XQ
    have XS2 := hide ((unhide XS).bel ((Below.refl _ _).alloc (Nat.le_refl _) (.cells #[.int .i64 rl', .slice (some ⟨ga, 0, none⟩) ts.length cap'] 24)))
    refine (unhide CAX _ (unhide XI)).mono ?_
    rintro e w6 ⟨rfl, bel⟩
    cases hbx : allB ⟨rl', some ⟨ga, 0, none⟩, cap', X⟩
    · have B6 := hide (below_on (unhide BQ) bel)
      clear bel
      go_wp2
      go_ret
      exact ⟨rfl, unhide B6⟩
    · have B6 := hide (below_on (unhide BQ) bel)
      have X6 := hide ((unhide XQ).bel bel)
      have S6 := hide ((unhide XS2).bel bel)
      have XI6 := hide (set_bel (unhide XI) bel)
      have HH := hide (unhide HLJx hbx (unhide HUX))
      have CX := hide (fun W h => unhide CJX W h hbx)
      clear bel hbx c0 c1 HLJx CJX
      generalize htx : tolO ⟨rl', some ⟨ga, 0, none⟩, cap', X⟩ ii = tx at *
      clear htx
      generalize hvx : tolV ⟨rl', some ⟨ga, 0, none⟩, cap', X⟩ ii = vx at *
      clear hvx
      obtain ⟨d0, d1⟩ := unhide X6
      have hz : (w4.setCell ⟨g, p, none⟩ (.int .i64 (x0 - 1))).heap.size = w4.heap.size := by simp
      rw [hz] at d0 d1
      simp only [hXl] at d1
      obtain ⟨c0, c1⟩ := unhide S6
      simp only at c0 c1
      go_wp2_with fail
      refine (unhide D1 _ (set_bel (unhide HIN) (unhide B6))).mono ?_
      rintro e w7 ⟨rfl, bel⟩
      have B7 := hide (below_on (unhide B6) bel)
      have XI7 := hide (set_bel (unhide XI6) bel)
      have X7 := hide ((unhide X6).bel bel)
      clear bel c0 c1 d0 d1
      obtain ⟨d0, d1⟩ := unhide X7
      rw [hz] at d0 d1
      simp only [hXl] at d1
      go_wp2_with fail
      refine (unhide CX _ (unhide XI7)).mono ?_
      rintro e w8 ⟨rfl, bel⟩
      have B8 := hide (below_on (unhide B7) bel)
      clear bel d0 d1
      cases to with
      | false =>
        clear HH
        go_wp2_with fail
        refine (unhide CK _).mono ?_
        rintro e w9 ⟨rfl, bel⟩
        have B9 := hide (below_on (unhide B8) bel)
        clear bel
        go_wp2
        go_ret
        exact ⟨rfl, unhide B9⟩
      | true =>
        obtain ⟨z1, z2⟩ := unhide HH rfl
        subst z1
        clear HH
        go_wp2_with fail
        refine (unhide CK _).mono ?_
        rintro e w9 ⟨rfl, bel⟩
        have B9 := hide (below_on (unhide B8) bel)
        clear bel
        go_wp2
        go_ret
        exact ⟨rfl, unhide B9⟩
end Go.Proofs.Ytndhjfpjhpnbaaa.Lex
