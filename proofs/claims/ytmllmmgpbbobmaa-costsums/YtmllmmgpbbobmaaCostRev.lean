/- The law of sums in whatever order: for all rows of numbers. -/
import Derived.Test.YtmllmmgpbbobmaaCostLoops
import Derived.Deep.RegionHeld3
import Derived.Deep.RegionLawGrows
namespace Go.Proofs.Ytmllmmgpbbobmaa.Cost
open Go.ChangeShapes Go.WideShapes Go.RowKit Go.Proofs.Ytmllmmgpbbobmaa.Num Ieee

/- the order does not matter -/
def sa : CL → Int
  | [] => 0
  | p :: r => tr p.1 + sa r
def sb : CL → Int
  | [] => 0
  | p :: r => tr p.2 + sb r
def okL (L : CL) : Bool := L.all fun p => costB p.1 p.2
theorem sa_append (L M : CL) : sa (L ++ M) = sa L + sa M := by
  induction L with
  | nil => simp [sa]
  | cons p r ih => simp only [List.cons_append, sa, ih]; omega
theorem sb_append (L M : CL) : sb (L ++ M) = sb L + sb M := by
  induction L with
  | nil => simp [sb]
  | cons p r ih => simp only [List.cons_append, sb, ih]; omega
theorem sa_reverse (L : CL) : sa L.reverse = sa L := by
  induction L with
  | nil => rfl
  | cons p r ih => simp only [List.reverse_cons, sa_append, sa, ih]; omega
theorem sb_reverse (L : CL) : sb L.reverse = sb L := by
  induction L with
  | nil => rfl
  | cons p r ih => simp only [List.reverse_cons, sb_append, sb, ih]; omega
theorem ok_pos (L : CL) (h : okL L = true) : 0 ≤ sa L ∧ 0 ≤ sb L := by
  induction L with
  | nil => simp [sa, sb]
  | cons p r ih =>
    simp only [okL, List.all_cons, Bool.and_eq_true] at h
    obtain ⟨⟨a0, a1⟩, b0, b1⟩ := cost_tr h.1
    obtain ⟨h1, h2⟩ := ih h.2
    simp only [sa, sb]
    omega
theorem fold_sum (L : CL) : ∀ A B, isB A = true → isB B = true → L.foldl stepO (some (A, B)) = if okL L && isB (A + sa L) && isB (B + sb L) then some (A + sa L, B + sb L) else none := by
  induction L with
  | nil => intro A B hA hB; simp [okL, sa, sb, hA, hB]
  | cons p r ih =>
    intro A B hA hB
    obtain ⟨A0, A1⟩ := (isB_iff A).1 hA
    obtain ⟨B0, B1⟩ := (isB_iff B).1 hB
    have hok : okL (p :: r) = (costB p.1 p.2 && okL r) := by simp [okL]
    rw [List.foldl_cons, hok]
    show List.foldl stepO (if costB p.1 p.2 && isB (A + tr p.1) && isB (B + tr p.2) then some (A + tr p.1, B + tr p.2) else none) r = _
    cases hc : costB p.1 p.2
    · simp only [Bool.false_and, Bool.false_eq_true, if_false]; exact fold_none r
    · obtain ⟨⟨a0, a1⟩, b0, b1⟩ := cost_tr hc
      simp only [Bool.true_and, sa, sb, ← Int.add_assoc]
      cases h1 : isB (A + tr p.1)
      · simp only [Bool.false_and, Bool.false_eq_true, if_false]
        rw [fold_none, if_neg]
        intro h
        simp only [Bool.and_eq_true, isB_iff] at h
        have hp := ok_pos r h.1.1
        have : isB (A + tr p.1) = true := isB_yes (by omega) (by omega)
        rw [h1] at this; cases this
      · cases h2 : isB (B + tr p.2)
        · simp only [Bool.and_false, Bool.false_eq_true, if_false]
          rw [fold_none, if_neg]
          intro h
          simp only [Bool.and_eq_true, isB_iff] at h
          have hp := ok_pos r h.1.1
          have : isB (B + tr p.2) = true := isB_yes (by omega) (by omega)
          rw [h2] at this; cases this
        · simp only [Bool.and_self, if_true]
          exact ih _ _ h1 h2
theorem sumO_eq (L : CL) : sumO L = if okL L && isB (sa L) && isB (sb L) then some (sa L, sb L) else none := by
  have := fold_sum L 0 0 (by decide) (by decide)
  simpa [sumO] using this
theorem sumO_reverse (L : CL) : sumO L.reverse = sumO L := by
  have h : okL L.reverse = okL L := by simp [okL]
  rw [sumO_eq, sumO_eq, sa_reverse, sb_reverse, h]
theorem sum_reverse (L : CL) : sumRe L.reverse = sumRe L ∧ sumIm L.reverse = sumIm L ∧ sumB L.reverse = sumB L := by
  simp only [sumRe, sumIm, sumB, sumO_reverse, and_self]
theorem sum_refl (L : CL) : (FloatKind.f64.format.order (sumRe L) (sumRe L) == some .eq) = true ∧ (FloatKind.f64.format.order (sumIm L) (sumIm L) == some .eq) = true := by
  cases h : sumO L with
  | none => rw [(sum_none h).1, (sum_none h).2.1]; exact ⟨order_refl rep_zero, order_refl rep_zero⟩
  | some s =>
    rw [(sum_some h).1, (sum_some h).2.1]
    rw [sumO_eq] at h
    split at h
    · rename_i hc
      simp only [Bool.and_eq_true, isB_iff] at hc
      cases h
      exact ⟨order_refl (read_F _ (by omega)), order_refl (read_F _ (by omega))⟩
    · cases h

/- rows -/
theorem drop_rev (L : CL) (k : Nat) (h : k < L.length) : (L.drop k).reverse = (L.drop (k + 1)).reverse ++ [L.getD k (0, 0)] := by
  rw [List.drop_eq_getElem_cons h, List.reverse_cons, List.getD_eq_getElem?_getD, List.getElem?_eq_getElem h]; rfl
theorem fresh_row (w : World) (u : Value) (t : TypeId) : ∀ b, some (⟨w.heap.size, 0, none⟩ : Addr) = some b → ∀ j x, [u][j]? = some x → (w.alloc (.cells #[u] t)).drew.cell? (b.add j) = some x := by
  rintro b ⟨⟩ j x hj
  match j, hj with
  | 0, hj => simp at hj; subst hj; exact new_cell w _ _
theorem fresh_arg (w : World) (u : Value) (t : TypeId) : ∀ j x, [u][j]? = some x → (w.alloc (.cells #[u] t)).cell? ((⟨w.heap.size, 0, none⟩ : Addr).add j) = some x := by
  intro j x hj
  match j, hj with
  | 0, hj => simp at hj; subst hj; exact new_cell w _ _
theorem old_row {w : World} {base : Nat} {g cap : Nat} {L : CL} (h : w.ownsRow base 22 1 (.slice (some ⟨g, 0, none⟩) L.length cap) L.length (L.map cv)) (o : Obj) :
    ∀ j u, (L.map cv)[j]? = some u → (w.alloc o).drew.cell? ((⟨g, 0, none⟩ : Addr).add j) = some u := (h.alloc o).cells rfl
theorem one_cells (L : CL) : ∀ u ∈ L.map cv, u.oneCell' = true := by
  intro u hu
  obtain ⟨p, _, rfl⟩ := List.mem_map.1 hu
  rfl
theorem own_base {w : World} {base base' : Nat} {v : Value} {n : Nat} {xs : List Value} (h : w.ownsRow base 22 1 v n xs) (hb : base' ≤ base) : w.ownsRow base' 22 1 v n xs :=
  ⟨h.1, h.2.imp id fun ⟨g, cap, cur, e, hg, r⟩ => ⟨g, cap, cur, e, Nat.le_trans hb hg, r⟩⟩
theorem own_cons {B : Nat} {w wr w1 : World} {v' : Value} {L : CL} {p : Nat × Nat} {o : Obj} (hB : B ≤ wr.heap.size) (hnx : Below B w wr)
    (hown' : w1.ownsRow (wr.alloc o).drew.heap.size 22 1 v' (1 + L.length) ([.complex .f64 p.1 p.2] ++ L.map cv)) (hgrow : (wr.alloc o).drew.grownBy w1 none) :
    w1.ownsRow B 22 1 v' (p :: L).length ((p :: L).map cv) ∧ Below B w w1 := by
  have hs : (wr.alloc o).drew.heap.size = wr.heap.size + 1 := by simp
  refine ⟨?_, ((hnx.alloc hB o).drew).grown hgrow (by omega) (fun j hj => by cases hj)⟩
  have := own_base hown' (show B ≤ _ by omega)
  rw [Nat.add_comm] at this
  exact this
theorem grown_cell {wr w1 : World} {o : Obj} {a : Addr} {u : Value} (h : wr.cell? a = some u) (hgrow : (wr.alloc o).drew.grownBy w1 none) : w1.cell? a = some u :=
  hgrow.cell (a := a) (v := u) ((World.cell?_of_block (w := wr) (Below.heap_alloc wr o a.block (World.block_lt_of_cell? wr a h))).trans h) (fun e => by cases e)
theorem own_first {w : World} {B : Nat} (hB : B ≤ w.heap.size) (p : Nat × Nat) : (w.alloc (.cells #[.complex .f64 p.1 p.2] 22)).drew.ownsRow B 22 1 (.slice (some ⟨w.heap.size, 0, none⟩) 1 1) [p].length ([p].map cv) :=
  World.ownsRow_lit w #[.complex .f64 p.1 p.2] 1 hB (by decide) rfl

set_option maxHeartbeats 1600000 in
set_option maxRecDepth 1000000 in
theorem sums_rows (n0 n1 : Nat) (b off cap b' off' cap' : Nat) (w : World) (hl : n0 ≤ 50) (hl' : n1 ≤ 50) (z z' : Nat → Int)
    (hc : ∀ j, j < n0 → w.cell? ⟨b, off + j, none⟩ = some (.int .i64 (z j)))
    (hc' : ∀ j, j < n1 → w.cell? ⟨b', off' + j, none⟩ = some (.int .i64 (z' j))) :
    Calls Try.prog 5 #[.slice (some ⟨b, off, none⟩) n0 cap, .slice (some ⟨b', off', none⟩) n1 cap'] w fun e w' => e = .returned (.bool true) ∧ Below w.heap.size w w' := by
  obtain ⟨i0, hi, hz0, hz1, hz2⟩ := info_parts Try.info_c
  have HC := hide hc
  have HC' := hide hc'
  clear hc hc'
  go_enter Try.func5, Try.ntmps5
  go_wp2
  go_loopw [5, 6] (fun v i wr => ∃ k : Nat, k ≤ n0 ∧ k ≤ n1 ∧ i = .int .i64 k ∧ ∃ L : CL, L.length = k ∧ (k = 0 → v = .slice none 0 0) ∧ wr.ownsRow w.heap.size 22 1 v L.length (L.map cv) ∧ Below w.heap.size w wr)
    (fun _ i _ => n0 - (intOf i).toNat)
  case atStart => exact ⟨0, Nat.zero_le _, Nat.zero_le _, rfl, [], rfl, fun _ => rfl, World.ownsRow_nil _ _ _ _, Below.refl _ _⟩
  case round =>
    obtain ⟨k, hk, hk', rfl, L, hL, hv0, hown, hnx⟩ := hrel
    by_cases hlt : k < n0
    · by_cases hlt' : k < n1
      · have hcx : wr.cell? ⟨b, off + k, none⟩ = some (.int .i64 (z k)) := by
          have := unhide HC k hlt
          rw [hnx.cell (World.block_lt_of_cell? w _ this)]; exact this
        have hcy : wr.cell? ⟨b', off' + k, none⟩ = some (.int .i64 (z' k)) := by
          have := unhide HC' k hlt'
          rw [hnx.cell (World.block_lt_of_cell? w _ this)]; exact this
        generalize z k = a at *
        generalize z' k = c at *
        by_cases hr : (-1125899906842624 ≤ a ∧ a ≤ 1125899906842624) ∧ (-1125899906842624 ≤ c ∧ c ≤ 1125899906842624)
        · obtain ⟨⟨ra0, ra1⟩, rc0, rc1⟩ := hr
          by_cases hk0 : k = 0
          · obtain rfl := hv0 hk0
            have HK0 := hide hk0
            have BX := World.block_lt_of_cell? wr _ hcx
            have BY := World.block_lt_of_cell? wr _ hcy
            clear hk0 hv0
            go_wp2
            go_region_held3 (fun w' => w'.cell? ⟨b, off + k, none⟩ = some (.int .i64 a) ∧ w'.cell? ⟨b', off' + k, none⟩ = some (.int .i64 c)) (go_keep) (fail)
            have R := own_first (hnx.size) (floatOfInt .f64 a, floatOfInt .f64 c)
            have B := (hnx.alloc hnx.size (.cells #[.complex .f64 (floatOfInt .f64 a) (floatOfInt .f64 c)] 22)).drew
            clear hown
            go_wp2
            go_roundw
            case rel => exact ⟨k + 1, by omega, by omega, by go_num, [(floatOfInt .f64 a, floatOfInt .f64 c)], by rw [unhide HK0]; rfl, fun h => by omega, R, B⟩
            case measure => simp [intOf]; omega
          · have hown0 := hown
            rcases hown0.2 with ⟨rfl, h0⟩ | ⟨g, cp, cur, rfl, _⟩
            · omega
            · have BX := World.block_lt_of_cell? wr _ hcx
              have BY := World.block_lt_of_cell? wr _ hcy
              clear hv0 hown0
              subst hL
              go_wp2
              go_region_held3 (fun w' => w'.cell? ⟨b, off + L.length, none⟩ = some (.int .i64 a) ∧ w'.cell? ⟨b', off' + L.length, none⟩ = some (.int .i64 c)) (go_keep)
                (first | (refine step_append_grows rfl (.tmp 72) (.tmp 73) 36 rfl 22 i0 (.complex .f64 0 0) 1 16 (by kernel_rfl) hi hz0 hz1 hz2 rfl (by decide) (some ⟨wr.heap.size, 0, none⟩) 1 1 [.complex .f64 (floatOfInt .f64 a) (floatOfInt .f64 c)] rfl (fun h => by cases h) rfl (fresh_row wr _ _) ⟨g, 0, none⟩ L.length cp (L.map cv) rfl (by simp) (old_row hown _) (one_cells L) (by omega) (by unfold maxLen; omega) (by omega) ?_; intro v' w1 hown' hgrow; have R := own_cons (p := (floatOfInt .f64 a, floatOfInt .f64 c)) hnx.size hnx hown' hgrow; have hcx1 := grown_cell hcx hgrow; have hcy1 := grown_cell hcy hgrow; clear hown' hgrow))
              clear hown hcx hcy BX BY
              go_wp2
              go_roundw
              case rel => exact ⟨L.length + 1, by omega, by omega, by go_num, (floatOfInt .f64 a, floatOfInt .f64 c) :: L, rfl, fun h => by omega, R.1, R.2⟩
              case measure => simp [intOf]; omega
        · have hr' : a < -1125899906842624 ∨ 1125899906842624 < a ∨ c < -1125899906842624 ∨ 1125899906842624 < c := by omega
          have B := hide hnx
          clear hr hown hnx hv0
          go_wp2
          all_goals (go_ret; exact ⟨rfl, unhide B⟩)
      · subst hL
        have hLn : L.length ≤ 50 := by omega
        have cs := fun v w h => sum_any v L w (by unfold maxLen; omega) h
        have rs := fun v w h => rsum_any v L w (by unfold maxLen; omega) h
        have cr := fun v w h => sum_any v L.reverse w (by rw [List.length_reverse]; unfold maxLen; omega) h
        obtain ⟨o1, o2⟩ := sum_refl L
        rw [(sum_reverse L).1, (sum_reverse L).2.1, (sum_reverse L).2.2] at cr
        generalize sumRe L = cre at *
        generalize sumIm L = cim at *
        generalize sumB L = cb at *
        have CS := hide cs
        have RS := hide rs
        have CR := hide cr
        clear cs rs cr
        have row := crow_of_own rfl hown
        obtain ⟨ao, cp, rfl, hcc⟩ := row
        have row : CRow wr (.slice ao L.length cp) L := ⟨_, _, rfl, hcc⟩
        have ROW := hide row
        have B := hide hnx
        have HCC := hide hcc
        clear row hnx hown hcc hv0
        go_wp2_with fail
        refine (unhide CS _ _ (unhide ROW)).mono ?_
        rintro e w' ⟨rfl, hw⟩
        rw [hw]
        clear hw w'
        go_wp2_with fail
        refine (unhide RS _ _ (unhide ROW)).mono ?_
        rintro e w' ⟨rfl, hw⟩
        rw [hw]
        clear hw w'
        go_wp2
        obtain ⟨wq, hwq⟩ : ∃ x, x = wr := ⟨_, rfl⟩
        subst hwq
        go_loopw [11, 12] (fun m i wr => ∃ k : Nat, k ≤ L.length ∧ i = .int .i64 ((k : Int) - 1) ∧ wr.ownsRow wq.heap.size 22 1 m (L.drop k).reverse.length ((L.drop k).reverse.map cv) ∧ Below wq.heap.size wq wr)
          (fun _ i _ => (intOf i + 1).toNat)
        case atStart => exact ⟨L.length, Nat.le_refl _, rfl, by rw [List.drop_length]; exact World.ownsRow_nil _ _ _ _, Below.refl _ _⟩
        case round =>
          obtain ⟨k, hk, rfl, hown2, hnx2⟩ := hrel
          cases k with
          | zero =>
            have row2 : CRow wr _ L.reverse := crow_of_own rfl hown2
            obtain ⟨ao2, cp2, rfl, hcc2⟩ := row2
            have row2 : CRow wr (.slice ao2 L.reverse.length cp2) L.reverse := ⟨_, _, rfl, hcc2⟩
            have ROW2 := hide row2
            have B2 := hide ((unhide B).trans (hnx2.mono (unhide B).size))
            have e0 : ((0 : Nat) : Int) - 1 = -1 := by decide
            rw [e0]
            rw [List.length_reverse] at ROW2 ⊢
            clear row2 hcc2 hown2 hnx2 e0
            go_wp2_with fail
            refine (unhide CR _ _ (unhide ROW2)).mono ?_
            rintro e w' ⟨rfl, hw⟩
            rw [hw]
            clear hw w'
            go_wp2_with (go_at_call 13; refine (known_any _).mono ?_; rintro e w' ⟨rfl, hw⟩; rw [hw]; clear hw w')
            go_ret
            exact ⟨rfl, unhide B2⟩
          | succ k =>
            obtain ⟨g, o, rfl, hcells⟩ := unhide HCC (fun h => by rw [h] at hk; simp at hk)
            have hcz : wr.cell? ⟨g, o + k, none⟩ = some (.complex .f64 (L.getD k (0, 0)).1 (L.getD k (0, 0)).2) := by
              have := hcells k (by omega)
              rw [hnx2.cell (World.block_lt_of_cell? wq _ this)]; exact this
            have hd := drop_rev L k (by omega)
            have e1 : ((k + 1 : Nat) : Int) - 1 = k := by omega
            have hlen : (L.drop (k + 1)).reverse.length ≤ 50 := by rw [List.length_reverse, List.length_drop]; omega
            rw [e1]
            generalize L.getD k (0, 0) = p at *
            obtain ⟨px, py⟩ := p
            have HD := hide hd
            generalize (L.drop (k + 1)).reverse = M at *
            clear hd e1 hcells
            go_wp2_with (at_builtin; refine wpList_append_own _ rfl _ _ 36 rfl wq.heap.size 22 i0 (.complex .f64 0 0) 1 16 (by kernel_rfl) hi hz0 hz1 hz2 rfl (by decide) _ _ _ rfl (hown2.alloc _) ⟨wr.heap.size, 0, none⟩ 1 1 [.complex .f64 px py] rfl rfl (fresh_arg wr _ _) (one_cells [(px, py)]) (by unfold maxLen; omega) (by omega) (by have := hnx2.size; simp; omega) ?_)
            intro v' w1 hown' hgrow _
            have R := own_snoc (p := (px, py)) hnx2.size hown2 hnx2 hown' hgrow
            clear hown' hgrow hown2
            go_wp2
            go_roundw
            case rel => exact ⟨k, by omega, by go_num, by rw [unhide HD]; exact R.1, R.2⟩
            case measure => simp [intOf]
    · subst hL
      have hLn : L.length ≤ 50 := by omega
      have cs := fun v w h => sum_any v L w (by unfold maxLen; omega) h
      have rs := fun v w h => rsum_any v L w (by unfold maxLen; omega) h
      have cr := fun v w h => sum_any v L.reverse w (by rw [List.length_reverse]; unfold maxLen; omega) h
      obtain ⟨o1, o2⟩ := sum_refl L
      rw [(sum_reverse L).1, (sum_reverse L).2.1, (sum_reverse L).2.2] at cr
      generalize sumRe L = cre at *
      generalize sumIm L = cim at *
      generalize sumB L = cb at *
      have CS := hide cs
      have RS := hide rs
      have CR := hide cr
      clear cs rs cr
      have row := crow_of_own rfl hown
      obtain ⟨ao, cp, rfl, hcc⟩ := row
      have row : CRow wr (.slice ao L.length cp) L := ⟨_, _, rfl, hcc⟩
      have ROW := hide row
      have B := hide hnx
      have HCC := hide hcc
      clear row hnx hown hcc hv0
      go_wp2_with fail
      refine (unhide CS _ _ (unhide ROW)).mono ?_
      rintro e w' ⟨rfl, hw⟩
      rw [hw]
      clear hw w'
      go_wp2_with fail
      refine (unhide RS _ _ (unhide ROW)).mono ?_
      rintro e w' ⟨rfl, hw⟩
      rw [hw]
      clear hw w'
      go_wp2
      obtain ⟨wq, hwq⟩ : ∃ x, x = wr := ⟨_, rfl⟩
      subst hwq
      go_loopw [11, 12] (fun m i wr => ∃ k : Nat, k ≤ L.length ∧ i = .int .i64 ((k : Int) - 1) ∧ wr.ownsRow wq.heap.size 22 1 m (L.drop k).reverse.length ((L.drop k).reverse.map cv) ∧ Below wq.heap.size wq wr)
        (fun _ i _ => (intOf i + 1).toNat)
      case atStart => exact ⟨L.length, Nat.le_refl _, rfl, by rw [List.drop_length]; exact World.ownsRow_nil _ _ _ _, Below.refl _ _⟩
      case round =>
        obtain ⟨k, hk, rfl, hown2, hnx2⟩ := hrel
        cases k with
        | zero =>
          have row2 : CRow wr _ L.reverse := crow_of_own rfl hown2
          obtain ⟨ao2, cp2, rfl, hcc2⟩ := row2
          have row2 : CRow wr (.slice ao2 L.reverse.length cp2) L.reverse := ⟨_, _, rfl, hcc2⟩
          have ROW2 := hide row2
          have B2 := hide ((unhide B).trans (hnx2.mono (unhide B).size))
          have e0 : ((0 : Nat) : Int) - 1 = -1 := by decide
          rw [e0]
          rw [List.length_reverse] at ROW2 ⊢
          clear row2 hcc2 hown2 hnx2 e0
          go_wp2_with fail
          refine (unhide CR _ _ (unhide ROW2)).mono ?_
          rintro e w' ⟨rfl, hw⟩
          rw [hw]
          clear hw w'
          go_wp2_with (go_at_call 13; refine (known_any _).mono ?_; rintro e w' ⟨rfl, hw⟩; rw [hw]; clear hw w')
          go_ret
          exact ⟨rfl, unhide B2⟩
        | succ k =>
          obtain ⟨g, o, rfl, hcells⟩ := unhide HCC (fun h => by rw [h] at hk; simp at hk)
          have hcz : wr.cell? ⟨g, o + k, none⟩ = some (.complex .f64 (L.getD k (0, 0)).1 (L.getD k (0, 0)).2) := by
            have := hcells k (by omega)
            rw [hnx2.cell (World.block_lt_of_cell? wq _ this)]; exact this
          have hd := drop_rev L k (by omega)
          have e1 : ((k + 1 : Nat) : Int) - 1 = k := by omega
          have hlen : (L.drop (k + 1)).reverse.length ≤ 50 := by rw [List.length_reverse, List.length_drop]; omega
          rw [e1]
          generalize L.getD k (0, 0) = p at *
          obtain ⟨px, py⟩ := p
          have HD := hide hd
          generalize (L.drop (k + 1)).reverse = M at *
          clear hd e1 hcells
          go_wp2_with (at_builtin; refine wpList_append_own _ rfl _ _ 36 rfl wq.heap.size 22 i0 (.complex .f64 0 0) 1 16 (by kernel_rfl) hi hz0 hz1 hz2 rfl (by decide) _ _ _ rfl (hown2.alloc _) ⟨wr.heap.size, 0, none⟩ 1 1 [.complex .f64 px py] rfl rfl (fresh_arg wr _ _) (one_cells [(px, py)]) (by unfold maxLen; omega) (by omega) (by have := hnx2.size; simp; omega) ?_)
          intro v' w1 hown' hgrow _
          have R := own_snoc (p := (px, py)) hnx2.size hown2 hnx2 hown' hgrow
          clear hown' hgrow hown2
          go_wp2
          go_roundw
          case rel => exact ⟨k, by omega, by go_num, by rw [unhide HD]; exact R.1, R.2⟩
          case measure => simp [intOf]

theorem crow_nil (w : World) (ao : Option Addr) (cap : Nat) : CRow w (.slice ao 0 cap) [] := ⟨_, _, rfl, fun h => absurd rfl h⟩
set_option maxHeartbeats 800000 in
theorem sums_nil (ao ao' : Option Addr) (n0 n1 cap cap' : Nat) (w : World) (hl : n0 ≤ 50) (hl' : n1 ≤ 50) (hz : n0 = 0 ∨ n1 = 0) :
    Calls Try.prog 5 #[.slice ao n0 cap, .slice ao' n1 cap'] w fun e w' => e = .returned (.bool true) ∧ Below w.heap.size w w' := by
  have cs := fun v w h => sum_any v [] w (by decide) h
  have rs := fun v w h => rsum_any v [] w (by decide) h
  obtain ⟨o1, o2⟩ := sum_refl []
  generalize sumRe [] = cre at *
  generalize sumIm [] = cim at *
  generalize sumB [] = cb at *
  have CS := hide cs
  have RS := hide rs
  clear cs rs
  by_cases h0 : n0 = 0
  · subst h0
    clear hz
    go_enter Try.func5, Try.ntmps5
    go_wp2
    refine wp_loop_rounds 1 ?_
    rw [rounds_succ]
    go_wp2_with fail
    refine (unhide CS _ _ (crow_nil _ _ _)).mono ?_
    rintro e w' ⟨rfl, hw⟩
    rw [hw]
    clear hw w'
    go_wp2_with fail
    refine (unhide RS _ _ (crow_nil _ _ _)).mono ?_
    rintro e w' ⟨rfl, hw⟩
    rw [hw]
    clear hw w'
    go_wp2_with fail
    refine wp_loop_rounds 1 ?_
    rw [rounds_succ]
    go_wp2_with fail
    refine (unhide CS _ _ (crow_nil _ _ _)).mono ?_
    rintro e w' ⟨rfl, hw⟩
    rw [hw]
    clear hw w'
    go_wp2_with (go_at_call 13; refine (known_any _).mono ?_; rintro e w' ⟨rfl, hw⟩; rw [hw]; clear hw w')
    go_ret
    exact ⟨rfl, Below.refl _ _⟩
  · have h1 : n1 = 0 := by omega
    subst h1
    have h0' : (0 : Int) < n0 := by omega
    clear hz
    go_enter Try.func5, Try.ntmps5
    go_wp2
    refine wp_loop_rounds 1 ?_
    rw [rounds_succ]
    go_wp2_with fail
    refine (unhide CS _ _ (crow_nil _ _ _)).mono ?_
    rintro e w' ⟨rfl, hw⟩
    rw [hw]
    clear hw w'
    go_wp2_with fail
    refine (unhide RS _ _ (crow_nil _ _ _)).mono ?_
    rintro e w' ⟨rfl, hw⟩
    rw [hw]
    clear hw w'
    go_wp2_with fail
    refine wp_loop_rounds 1 ?_
    rw [rounds_succ]
    go_wp2_with fail
    refine (unhide CS _ _ (crow_nil _ _ _)).mono ?_
    rintro e w' ⟨rfl, hw⟩
    rw [hw]
    clear hw w'
    go_wp2_with (go_at_call 13; refine (known_any _).mono ?_; rintro e w' ⟨rfl, hw⟩; rw [hw]; clear hw w')
    go_ret
    exact ⟨rfl, Below.refl _ _⟩
end Go.Proofs.Ytmllmmgpbbobmaa.Cost
