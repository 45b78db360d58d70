/- The two laws of package cost that make rows of costs: for all rows of numbers. -/
import Derived.Test.YtmllmmgpbbobmaaCostSum
import Derived.Deep.QuietTactic
import Derived.BigQuiet
import Derived.OpenShut
import Derived.Laws.AppendOwnNone
namespace Go.Proofs.Ytmllmmgpbbobmaa.Cost
open Go.ChangeShapes Go.WideShapes Go.RowKit Go.Proofs.Ytmllmmgpbbobmaa.Num Ieee

def IRow (w : World) (v : Value) (zs : List Int) : Prop := ∃ ao cap, v = .slice ao zs.length cap ∧ (zs ≠ [] → ∃ b off, ao = some ⟨b, off, none⟩ ∧ ∀ j, j < zs.length → w.cell? ⟨b, off + j, none⟩ = some (.int .i64 (zs.getD j 0)))
def cv (p : Nat × Nat) : Value := .complex .f64 p.1 p.2
theorem bel_drewN {B : Nat} {a w : World} (h : Below B a w) (n : Nat) : Below B a (w.drewN n) := h.trans ⟨rfl, rfl, rfl, Nat.le_refl _, fun _ _ => rfl⟩
theorem own_drewN {w : World} {base : Nat} {v : Value} {n : Nat} {xs : List Value} (h : w.ownsRow base 22 1 v n xs) (k : Nat) : (w.drewN k).ownsRow base 22 1 v n xs := h
theorem new_cell (w : World) (u : Value) (t : TypeId) : (w.alloc (.cells #[u] t)).cell? ((⟨w.heap.size, 0, none⟩ : Addr).add 0) = some u := by simp [Addr.add]
theorem crow_of_own {w : World} {base : Nat} {v : Value} {L : CL} {n : Nat} (hn : n = L.length) (h : w.ownsRow base 22 1 v n (L.map cv)) : CRow w v L := by
  subst hn
  have h' := h
  rcases h.2 with ⟨rfl, h0⟩ | ⟨g, cap, cur, rfl, _⟩
  · have : L = [] := List.eq_nil_of_length_eq_zero h0
    subst this
    exact ⟨_, _, rfl, fun h => absurd rfl h⟩
  · refine ⟨_, _, rfl, fun _ => ⟨g, 0, rfl, fun j hj => ?_⟩⟩
    rw [Nat.zero_add, h'.cellAt j (by omega), List.getElem?_map, List.getElem?_eq_getElem hj, List.getD_eq_getElem?_getD, List.getElem?_eq_getElem hj]; rfl
theorem CRow.below {w w' : World} {v : Value} {L : CL} (h : CRow w v L) (hb : Below w.heap.size w w') : CRow w' v L := by
  obtain ⟨ao, cap, rfl, hc⟩ := h
  refine ⟨ao, cap, rfl, fun e => ?_⟩
  obtain ⟨b, off, rfl, hcc⟩ := hc e
  refine ⟨b, off, rfl, fun j hj => ?_⟩
  have h1 := hcc j hj
  rw [hb.cell (World.block_lt_of_cell? w _ h1)]
  exact h1
theorem Try.info_c : (Try.prog.info? 22).map (fun i => (i.zero, i.size, i.bytes)) = some (some (.complex .f64 0 0), 1, 16) := by kernel_rfl
theorem own_snoc {B : Nat} {w wr w1 : World} {v v' : Value} {L : CL} {p : Nat × Nat} {o : Obj} (hB : B ≤ wr.heap.size)
    (hown : wr.ownsRow B 22 1 v L.length (L.map cv)) (hnx : Below B w wr)
    (hown' : w1.ownsRow B 22 1 v' (L.length + 1) (L.map cv ++ [.complex .f64 p.1 p.2])) (hgrow : (wr.alloc o).grownBy w1 v.ownBlock) :
    w1.ownsRow B 22 1 v' (L ++ [p]).length ((L ++ [p]).map cv) ∧ Below B w w1 :=
  ⟨by simpa [cv] using hown', (hnx.alloc hB o).grown hgrow (by simp; omega) (fun j hj => (hown.lt j hj).1)⟩
theorem add_step {L : CL} {X Y a b : Int} {k : Nat} (hs : sumO L = some (X, Y)) (hX : 0 ≤ X ∧ X ≤ (k : Int) * 1073741824) (hY : 0 ≤ Y ∧ Y ≤ (k : Int) * 1073741824) (hk : k < 30)
    (ha : 0 ≤ a ∧ a ≤ 1073741824) (hb : 0 ≤ b ∧ b ≤ 1073741824) :
    sumO (L ++ [(F a, F b)]) = some (X + a, Y + b) ∧ (0 ≤ X + a ∧ X + a ≤ ((k + 1 : Nat) : Int) * 1073741824) ∧ (0 ≤ Y + b ∧ Y + b ≤ ((k + 1 : Nat) : Int) * 1073741824) := by
  have hab : areB a b = true := (areB_iff a b).2 ⟨⟨ha.1, by omega⟩, hb.1, by omega⟩
  obtain ⟨hc, h1, h2⟩ := cost_F hab
  have i1 : isB (X + a) = true := isB_yes (by omega) (by omega)
  have i2 : isB (Y + b) = true := isB_yes (by omega) (by omega)
  refine ⟨?_, by omega, by omega⟩
  rw [sumO_snoc, hs]
  simp [stepO, hc, h1, h2, i1, i2]

set_option maxHeartbeats 1600000 in
set_option maxRecDepth 1000000 in
theorem parts_rows (zs zs' : List Int) (b off cap b' off' cap' : Nat) (w : World) (hl : zs.length ≤ 30) (hl' : zs'.length = zs.length)
    (hc : ∀ j, j < zs.length → w.cell? ⟨b, off + j, none⟩ = some (.int .i64 (zs.getD j 0)))
    (hc' : ∀ j, j < zs.length → w.cell? ⟨b', off' + j, none⟩ = some (.int .i64 (zs'.getD j 0))) :
    Calls Try.prog 8 #[.slice (some ⟨b, off, none⟩) zs.length cap, .slice (some ⟨b', off', none⟩) zs.length cap'] w fun e w' => e = .returned (.bool true) ∧ Below w.heap.size w w' := by
  obtain ⟨i0, hi, hz0, hz1, hz2⟩ := info_parts Try.info_c
  have HC := hide hc
  have HC' := hide hc'
  clear hc hc'
  go_enter Try.func8, Try.ntmps8
  go_wp2
  go_loopw [5, 6, 7, 8] (fun v x y i wr => ∃ k : Nat, k ≤ zs.length ∧ i = .int .i64 k ∧ ∃ (L : CL) (X Y : Int), L.length = k ∧ x = .int .i64 X ∧ y = .int .i64 Y ∧ sumO L = some (X, Y)
      ∧ (0 ≤ X ∧ X ≤ (k : Int) * 1073741824) ∧ (0 ≤ Y ∧ Y ≤ (k : Int) * 1073741824) ∧ wr.ownsRow w.heap.size 22 1 v L.length (L.map cv) ∧ Below w.heap.size w wr)
    (fun _ _ _ i _ => zs.length - (intOf i).toNat)
  case atStart => exact ⟨0, Nat.zero_le _, rfl, [], 0, 0, rfl, rfl, rfl, rfl, by omega, by omega, World.ownsRow_nil _ _ _ _, Below.refl _ _⟩
  case round =>
    obtain ⟨k, hk, rfl, L, X, Y, hL, rfl, rfl, hs, hX, hY, hown, hnx⟩ := hrel
    by_cases hlt : k < zs.length
    · have hcx : wr.cell? ⟨b, off + k, none⟩ = some (.int .i64 (zs.getD k 0)) := by
        have := unhide HC k hlt
        rw [hnx.cell (World.block_lt_of_cell? w _ this)]; exact this
      have hcy : wr.cell? ⟨b', off' + k, none⟩ = some (.int .i64 (zs'.getD k 0)) := by
        have := unhide HC' k hlt
        rw [hnx.cell (World.block_lt_of_cell? w _ this)]; exact this
      generalize zs.getD k 0 = a at *
      generalize zs'.getD k 0 = c at *
      by_cases hr : (0 ≤ a ∧ a ≤ 1073741824) ∧ (0 ≤ c ∧ c ≤ 1073741824)
      · obtain ⟨ra, rc⟩ := hr
        have hst := add_step hs hX hY (by omega) ra rc
        have hab : areB a c = true := (areB_iff a c).2 ⟨⟨ra.1, by omega⟩, rc.1, by omega⟩
        have cof := fun w => rof_any a c w
        rw [ofRe_yes hab, ofIm_yes hab] at cof
        have COF := hide cof
        have HST := hide hst
        clear cof hst hab hs
        generalize F a = fa at *
        generalize F c = fc at *
        obtain ⟨ra0, ra1⟩ := ra
        obtain ⟨rc0, rc1⟩ := rc
        obtain ⟨hX0, hX1⟩ := hX
        obtain ⟨hY0, hY1⟩ := hY
        subst hL
        go_wp2
        go_quiet (first | (go_at_call 10; exact Calls.quiet_of_same (unhide COF _)))
        have hown2 := own_drewN hown nq
        have hnx2 := bel_drewN hnx nq
        go_wp2_with (at_builtin; refine wpList_append_own _ rfl _ _ 36 rfl w.heap.size 22 i0 (.complex .f64 0 0) 1 16 (by kernel_rfl) hi hz0 hz1 hz2 rfl (by decide) _ _ _ rfl (hown2.alloc _) ⟨(wr.drewN nq).heap.size, 0, none⟩ 1 1 [.complex .f64 fa fc] rfl rfl ?c1 ?c2 ?c3 ?c4 ?c5 ?_)
        case c1 =>
          intro j u hj
          match j, hj with
          | 0, hj => simp at hj; subst hj; exact new_cell (wr.drewN nq) _ _
        case c2 => intro u hu; simp at hu; subst hu; rfl
        case c3 => unfold maxLen; omega
        case c4 => omega
        case c5 => have := hnx.size; simp; omega
        intro v' w1 hown' hgrow _
        have R := own_snoc (p := (fa, fc)) hnx2.size hown2 hnx2 hown' hgrow
        have hcx1 : w1.cell? ⟨b, off + L.length, none⟩ = some (.int .i64 a) := by
          rw [R.2.cell (World.block_lt_of_cell? w _ (unhide HC L.length hlt)), ← hnx.cell (World.block_lt_of_cell? w _ (unhide HC L.length hlt))]; exact hcx
        have hcy1 : w1.cell? ⟨b', off' + L.length, none⟩ = some (.int .i64 c) := by
          rw [R.2.cell (World.block_lt_of_cell? w _ (unhide HC' L.length hlt)), ← hnx.cell (World.block_lt_of_cell? w _ (unhide HC' L.length hlt))]; exact hcy
        clear hown' hgrow hown hown2 hnx2 hcx hcy
        go_wp2
        go_quiet (fail)
        go_wp2
        go_roundw
        case rel =>
          obtain ⟨h1, h2, h3⟩ := unhide HST
          exact ⟨L.length + 1, by omega, by go_num, L ++ [(fa, fc)], X + a, Y + c, by simp, by go_num, by go_num, h1, h2, h3, own_drewN R.1 _, bel_drewN R.2 _⟩
        case measure => simp [intOf]; omega
      · have hr' : a < 0 ∨ 1073741824 < a ∨ c < 0 ∨ 1073741824 < c := by omega
        have B := hide hnx
        clear hr hs
        go_wp2
        all_goals (go_ret; exact ⟨rfl, unhide B⟩)
    · have hkz : L.length = zs.length := by omega
      subst hL
      have row := crow_of_own rfl hown
      have ROW := hide row
      have B := hide hnx
      have hX1 : X ≤ 32212254720 := by omega
      have hY1 : Y ≤ 32212254720 := by omega
      obtain ⟨hX0, hX2⟩ := hX
      obtain ⟨hY0, hY2⟩ := hY
      have hab : areB X Y = true := (areB_iff X Y).2 ⟨⟨hX0, by omega⟩, hY0, by omega⟩
      have hadd : addB X Y = true := by simp [addB, hab]; omega
      have k1 := work_F hab
      have k2 := again_F hab
      have k3 := totB_F hab
      have k4 := totV_F hab
      have k5 : addV X Y = X + Y := by simp [addV, hadd]
      rw [hadd] at k3
      rw [k5] at k4
      obtain ⟨s1, s2, s3⟩ := sum_some hs
      have S1 := hide s1
      have S2 := hide s2
      have S3 := hide s3
      clear row hnx hown hab hadd k5 s1 s2 s3 hs
      go_wp2_with fail
      refine (sum_any _ L _ (by unfold maxLen; omega) (unhide ROW)).mono ?_
      rintro e w' ⟨rfl, hw⟩
      rw [hw, unhide S1, unhide S2, unhide S3]
      clear hw w'
      generalize F X = fx at *
      generalize F Y = fy at *
      go_wp2_with (first
        | (go_at_call 15; refine (tot_any _ _ _).mono ?_; rintro e w' ⟨rfl, hw⟩; rw [hw]; clear hw w')
        | (go_at_call 11; refine (work_any _ _ _).mono ?_; rintro e w' ⟨rfl, hw⟩; rw [hw]; clear hw w')
        | (go_at_call 12; refine (again_any _ _ _).mono ?_; rintro e w' ⟨rfl, hw⟩; rw [hw]; clear hw w')
        | (go_at_call 13; refine (known_any _).mono ?_; rintro e w' ⟨rfl, hw⟩; rw [hw]; clear hw w'))
      go_ret
      exact ⟨rfl, unhide B⟩

theorem parts_nil (ao ao' : Option Addr) (cap cap' : Nat) (w : World) :
    Calls Try.prog 8 #[.slice ao 0 cap, .slice ao' 0 cap'] w fun e w' => e = .returned (.bool true) ∧ Below w.heap.size w w' := by
  have k1 := work_F are00
  have k2 := again_F are00
  have k3 := totB_F are00
  have k4 := totV_F are00
  have k5 : addB 0 0 = true := by decide
  have k6 : addV 0 0 = 0 := by decide
  rw [k5] at k3
  rw [k6] at k4
  rw [zero_F] at k1 k2 k3 k4
  have cs := fun v w h => sum_any v [] w (by decide) h
  have s1 : sumRe [] = 0 := rfl
  have s2 : sumIm [] = 0 := rfl
  have s3 : sumB [] = true := rfl
  rw [s1, s2, s3] at cs
  have CS := hide cs
  clear k5 k6 cs s1 s2 s3
  go_enter Try.func8, Try.ntmps8
  go_wp2
  refine wp_loop_rounds 1 ?_
  rw [rounds_succ]
  go_wp2_with fail
  refine (unhide CS _ _ ⟨_, _, rfl, fun h => absurd rfl h⟩).mono ?_
  rintro e w' ⟨rfl, hw⟩
  rw [hw]
  clear hw w'
  go_wp2_with (first
    | (go_at_call 15; refine (tot_any _ _ _).mono ?_; rintro e w' ⟨rfl, hw⟩; rw [hw]; clear hw w')
    | (go_at_call 11; refine (work_any _ _ _).mono ?_; rintro e w' ⟨rfl, hw⟩; rw [hw]; clear hw w')
    | (go_at_call 12; refine (again_any _ _ _).mono ?_; rintro e w' ⟨rfl, hw⟩; rw [hw]; clear hw w')
    | (go_at_call 13; refine (known_any _).mono ?_; rintro e w' ⟨rfl, hw⟩; rw [hw]; clear hw w'))
  go_ret
  exact ⟨rfl, Below.refl _ _⟩
end Go.Proofs.Ytmllmmgpbbobmaa.Cost
