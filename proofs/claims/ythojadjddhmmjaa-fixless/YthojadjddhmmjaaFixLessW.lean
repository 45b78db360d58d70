/- The laws of chapter 10, over what package fix answers: less base, one load less. -/
import Derived.Test.YthojadjddhmmjaaFixLaw2
import Derived.Test.YthojadjddhmmjaaFixRow
namespace Go.Proofs.Ythojadjddhmmjaa.Fix
open Go.ChangeShapes Go.WideShapes Go.RowKit

/- one load less -/
def lessL (l : List LoadV) (i : Nat) : List LoadV := l.take i ++ l.drop (i + 1)
theorem less_mem {l : List LoadV} {i : Nat} : ∀ x ∈ lessL l i, x ∈ l := fun x hx => by
  rcases List.mem_append.1 hx with h | h
  · exact List.mem_of_mem_take h
  · exact List.mem_of_mem_drop h
theorem less_len {l : List LoadV} {i : Nat} (h : i < l.length) : (lessL l i).length = l.length - 1 := by rw [lessL, List.length_append, List.length_take, List.length_drop]; omega
theorem less_sum {l : List LoadV} {i : Nat} (h : i < l.length) (hl : OkL l) (base w : Int) (hw : 0 ≤ w) : sumZ base (lessL l i) w ≤ sumZ base l w := by
  have e : l = l.take i ++ (l.getD i load0 :: l.drop (i + 1)) := by
    rw [List.getD_eq_getElem?_getD, List.getElem?_eq_getElem h]
    simp
  have hx := hl _ (load_in h)
  have h1 := Int.mul_nonneg (ceil_range hx.1.1 hw).1 hx.2.1
  have h2 : addZ w (l.getD i load0) = ceilZ w (l.getD i load0).T * (l.getD i load0).C := rfl
  have h3 : sumZ base l w = sumZ (sumZ base (l.take i) w + addZ w (l.getD i load0)) (l.drop (i + 1)) w := by
    conv => lhs; rw [e]
    rw [sum_app, sum_cons]
  rw [h3, lessL, sum_app]
  exact sum_mono _ _ _ w w (fun x hx => hl x (List.mem_of_mem_drop hx)) (by omega) (Int.le_refl _)
theorem and_small (q : Int) : ∃ m : Nat, bits .and .i64 q 65535 = (m : Int) := by
  have h2 : (BitVec.ofInt 64 (65535 : Int)).toNat = 65535 := by decide
  have h3 : (BitVec.ofInt 64 q).toNat &&& 65535 = (BitVec.ofInt 64 q).toNat % 65536 := Nat.and_two_pow_sub_one_eq_mod _ 16
  refine ⟨(BitVec.ofInt 64 q).toNat % 65536, ?_⟩
  show IntKind.i64.wrap ((BitVec.ofInt 64 q &&& BitVec.ofInt 64 (65535 : Int)).toNat : Int) = _
  rw [BitVec.toNat_and, h2, h3]
  exact i64_is _ (by omega)
/- what follows for the two others -/
theorem opt_facts {r : Option Int} {P : Int → Prop} {Q : Prop} (h : (∀ a, r = some a → P a) ∧ (r = none → Q)) : (r.isSome = true → P (valO r)) ∧ (r.isSome = false → Q) := by
  cases r with
  | none => exact ⟨fun e => (by cases e), fun _ => h.2 rfl⟩
  | some a => exact ⟨fun _ => h.1 a rfl, fun e => (by cases e)⟩
theorem less_a {base less : Int} {l : List LoadV} {n : Int} {r : Option Int} (hm : mayB base l = true) (h0 : 0 ≤ less ∧ less ≤ base) (hn : IsLeast (sumZ base l) (some n)) (hr : if mayB (base - less) l then IsLeast (sumZ (base - less) l) r else r = none) : (∀ a, r = some a → a ≤ n) ∧ (r = none → base = less) := by
  obtain ⟨hb, h64, hok⟩ := may_parts hm
  have hm' : mayB (base - less) l = true := may_of ⟨by omega, by omega⟩ h64 hok
  rw [if_pos hm'] at hr
  have hg : ∀ w, 1 ≤ w → sumZ (base - less) l w ≤ sumZ base l w := fun w _ => sum_mono l _ _ w w hok (by omega) (Int.le_refl _)
  refine ⟨fun a e => by subst e; exact least_le hn hr hg, fun e => ?_⟩
  subst e
  rcases Int.lt_or_le (base - less) 1 with c | c
  · omega
  · obtain ⟨m, hm2⟩ := least_some hn (fun v w hv => sum_mono l _ _ v w hok (Int.le_refl _) hv) (by have := sum_low l (base - less) 1 hok (by decide); omega) hg
    exact absurd (least_one hr hm2) (by simp)
theorem less_b {base : Int} {l : List LoadV} {n : Int} {r : Option Int} {i : Nat} (hi : i < l.length) (hm : mayB base l = true) (hn : IsLeast (sumZ base l) (some n)) (hr : if mayB base (lessL l i) then IsLeast (sumZ base (lessL l i)) r else r = none) : (∀ a, r = some a → a ≤ n) ∧ (r = none → base = 0) := by
  obtain ⟨hb, h64, hok⟩ := may_parts hm
  have hok' : OkL (lessL l i) := fun x hx => hok x (less_mem x hx)
  have hm' : mayB base (lessL l i) = true := may_of hb (by rw [less_len hi]; omega) hok'
  rw [if_pos hm'] at hr
  have hg : ∀ w, 1 ≤ w → sumZ base (lessL l i) w ≤ sumZ base l w := fun w h => less_sum hi hok base w (by omega)
  refine ⟨fun a e => by subst e; exact least_le hn hr hg, fun e => ?_⟩
  subst e
  rcases Int.lt_or_le base 1 with c | c
  · omega
  · obtain ⟨m, hm2⟩ := least_some hn (fun v w hv => sum_mono _ _ _ v w hok' (Int.le_refl _) hv) (by have := sum_low (lessL l i) base 1 hok' (by decide); omega) hg
    exact absurd (least_one hr hm2) (by simp)
set_option maxHeartbeats 3200000 in
theorem fless_law (hL : CFLeast) (base less : Int) (ao : Option Addr) (cap : Nat) (l : List LoadV) (q : Int) (w : World) (hl : LoadsIn w ao l) (hcap : l.length ≤ cap) (ib : I64 base) (_ : I64 less) (_ : I64 q) : Calls Try.prog 6 #[.int .i64 base, .int .i64 less, .slice ao l.length cap, .int .i64 q] w fun e w' => e = .returned (.bool true) ∧ Below w.heap.size w w' := by
  have hlen := hl.len
  by_cases h1 : (l.length : Int) < 1
  · go_enter Try.func6, Try.ntmps6
    go_wp2
    go_ret
    exact ⟨rfl, Below.refl _ _⟩
  by_cases h20 : (20 : Int) < l.length
  · go_enter Try.func6, Try.ntmps6
    go_wp2
    go_ret
    exact ⟨rfl, Below.refl _ _⟩
  by_cases s0 : less < 0
  · go_enter Try.func6, Try.ntmps6
    go_wp2
    go_ret
    exact ⟨rfl, Below.refl _ _⟩
  by_cases s1 : base < less
  · go_enter Try.func6, Try.ntmps6
    go_wp2
    go_ret
    exact ⟨rfl, Below.refl _ _⟩
  have CK := hide (fun W => fknown_any hL W)
  have C0 := hide (hL base ao cap l w hl ib)
  have C1 := hide (fun W h => hL (base - less) ao cap l W h (by unfold I64 at *; omega))
  have C2 := hide (fun ao cap L W h => hL base ao cap L W h ib)
  have HL := hide hl
  clear hL
  go_enter Try.func6, Try.ntmps6
  go_wp2_with fail
  refine (unhide C0).mono ?_
  rintro e w1 ⟨⟨r, hr, rfl⟩, bel⟩
  have B1 := hide bel
  clear bel C0
  cases r with
  | none =>
    clear hr
    simp only [valO, Option.getD_none, Option.isSome_none]
    go_wp2_with fail
    refine (unhide CK _).mono ?_
    rintro e w3 ⟨rfl, bel⟩
    have B3 := hide (below_on (unhide B1) bel)
    clear bel
    go_wp2
    go_ret
    exact ⟨rfl, unhide B3⟩
  | some n =>
    obtain ⟨hm, hn⟩ := least_may hr
    simp only [valO, Option.getD_some, Option.isSome_some]
    obtain ⟨m, hand⟩ := and_small q
    obtain ⟨i, hi⟩ : ∃ i : Nat, i = m % l.length := ⟨_, rfl⟩
    have hil : i < l.length := by rw [hi]; exact Nat.mod_lt _ (by omega)
    have htm : (m : Int).tmod (l.length : Int) = (i : Int) := by rw [hi]; exact (Int.ofNat_tmod m l.length).symm
    have e1 : IntKind.i64.wrap (base - less) = base - less := i64_is _ (by have := (may_parts hm).1; omega)
    have e2 : IntKind.i64.wrap ((i : Int) + 1) = ((i + 1 : Nat) : Int) := i64_is _ (by omega)
    have HA := hide (fun r hr => less_a (r := r) hm ⟨by omega, by omega⟩ hn hr)
    have HBB := hide (fun r hr => less_b (r := r) hil hm hn hr)
    have HE := hide (fun x (hx : x ∈ lessL l i) => hl.each x (less_mem x hx))
    have hln := less_len hil
    obtain ⟨b, off, rfl, hcc⟩ := hl.row (fun e => by rw [e] at hil; simp at hil)
    have HCC := hide hcc
    have hl2 : (lessL l i).length ≤ 9223372036854775807 := by omega
    clear hi hr hm hn hl hcc hln
    go_wp2_with fail
    refine (unhide C1 _ ((unhide HL).bel (unhide B1))).mono ?_
    rintro e w2 ⟨⟨r1, hr1, rfl⟩, bel⟩
    have HF1 := hide (opt_facts (unhide HA r1 hr1))
    have B2 := hide (below_on (unhide B1) bel)
    clear bel hr1 HA C1
    generalize valO r1 = a1 at *
    generalize r1.isSome = o1 at *
    have c0 : 0 < cap := by omega
    have c0' : cap ≠ 0 := by omega
    have hic : i ≤ cap := by omega
    have hic' : (i : Int) ≤ cap := by omega
    have hil' : ((i + 1 : Nat) : Int) ≤ (l.length : Int) := by omega
    have hi0 : (0 : Int) ≤ ((i + 1 : Nat) : Int) := by omega
    have P1 : Hid (∀ W, Below w.heap.size w W → ∀ j u, (lcells (l.take i))[j]? = some u → W.cell? ((⟨b, off, none⟩ : Addr).add j) = some u) := hide (fun W hW j u hj => by
      have := part_cells (k := 0) (m := i) (unhide HCC) (by omega) j u (by simpa using hj)
      exact cell_on (by simpa using this) hW)
    obtain ⟨A2, hA2, p2⟩ : ∃ A2, (if cap = i + 1 then some (⟨b, off, none⟩ : Addr) else some ⟨b, off + (i + 1) * 2, none⟩) = some A2 ∧ ∀ W, Below w.heap.size w W → ∀ j u, (lcells (l.drop (i + 1)))[j]? = some u → W.cell? (A2.add j) = some u := by
      by_cases hci : cap = i + 1
      · refine ⟨_, if_pos hci, fun W hW j u hj => ?_⟩
        rw [List.drop_eq_nil_of_le (by omega)] at hj
        simp [lcells] at hj
      · refine ⟨_, if_neg hci, fun W hW j u hj => ?_⟩
        have := part_cells (k := i + 1) (m := l.length - (i + 1)) (unhide HCC) (by omega) j u (by rw [List.take_of_length_le (by rw [List.length_drop]; omega)]; exact hj)
        exact cell_on this hW
    have P2 := hide p2
    clear p2
    have D0 := hide (unhide B2).drew
    go_wp2_with fail
    refine wp_region_held_drew (S := (fun _ => True)) (by kernel_rfl) (trivial) (fun hHeld => ?_)
    refine take_yes 0 56 (.int .i64 base) rfl rfl (by kernel_rfl) (by kernel_rfl) (by kernel_rfl) (fun _ _ _ h => h) rfl (by assumption) (by intro w9 hS9; obtain _ := hS9; go_simp) ?_
    simp only [List.setIfInBounds_toArray, List.set_cons_zero, List.set_cons_succ]
    refine take_yes 2 58 (.slice (some ⟨b, off, none⟩) l.length cap) rfl rfl (by kernel_rfl) (by kernel_rfl) (by kernel_rfl) (fun _ _ _ h => h) rfl (by assumption) (by intro w9 hS9; obtain _ := hS9; go_simp) ?_
    simp only [List.setIfInBounds_toArray, List.set_cons_zero, List.set_cons_succ]
    refine take_yes 3 59 (.int .i64 i) rfl rfl (by kernel_rfl) (by kernel_rfl) (by kernel_rfl) (fun _ _ _ h => h) rfl (by assumption) (by intro w9 hS9; obtain _ := hS9; go_simp) ?_
    simp only [List.setIfInBounds_toArray, List.set_cons_zero, List.set_cons_succ]
    refine take_yes 4 60 (.slice (some ⟨b, off, none⟩) i cap) rfl rfl (by kernel_rfl) (by kernel_rfl) (by kernel_rfl) (fun _ _ _ h => h) rfl (by assumption) (by intro w9 hS9; obtain _ := hS9; go_simp) ?_
    simp only [List.setIfInBounds_toArray, List.set_cons_zero, List.set_cons_succ]
    refine take_yes 6 62 (.slice (some ⟨b, off, none⟩) l.length cap) rfl rfl (by kernel_rfl) (by kernel_rfl) (by kernel_rfl) (fun _ _ _ h => h) rfl (by assumption) (by intro w9 hS9; obtain _ := hS9; go_simp) ?_
    simp only [List.setIfInBounds_toArray, List.set_cons_zero, List.set_cons_succ]
    refine take_yes 7 63 (.int .i64 i) rfl rfl (by kernel_rfl) (by kernel_rfl) (by kernel_rfl) (fun _ _ _ h => h) rfl (by assumption) (by intro w9 hS9; obtain _ := hS9; go_simp) ?_
    simp only [List.setIfInBounds_toArray, List.set_cons_zero, List.set_cons_succ]
    refine take_yes 8 64 (.int .i64 ((i + 1 : Nat) : Int)) rfl rfl (by kernel_rfl) (by kernel_rfl) (by kernel_rfl) (fun _ _ _ h => h) rfl (by assumption) (by intro w9 hS9; obtain _ := hS9; go_simp) ?_
    simp only [List.setIfInBounds_toArray, List.set_cons_zero, List.set_cons_succ]
    refine take_yes 9 65 (.slice (some A2) (l.length - (i + 1)) (cap - (i + 1))) rfl rfl (by kernel_rfl) (by kernel_rfl) (by kernel_rfl) (fun _ _ _ h => h) rfl (by assumption) (by intro w9 hS9; obtain _ := hS9; go_simp; intro hbad; exact absurd (hbad (by omega)) (by omega)) ?_
    simp only [List.setIfInBounds_toArray, List.set_cons_zero, List.set_cons_succ]
    refine wpAnyH_ready (rs := [1]) (by kernel_rfl) (by decide) (AllReadyH.cons rfl (fun K hK => ?_) AllReadyH.nil)
    go_simp
    refine hK.out _ _ trivial (fun hHeld => ?_)
    clear hK K
    try simp only [List.setIfInBounds_toArray, List.set_cons_zero, List.set_cons_succ]
    have B4 := hide (((unhide B2).alloc (unhide B2).size (.cells #[] 31)).drew)
    have R0 : Hid ((w2.alloc (.cells #[] 31)).drew.ownsRow w.heap.size 31 2 (.slice (some ⟨w2.heap.size, 0, none⟩) 0 0) 0 (lcells [])) := hide (World.ownsRow_made (base := w.heap.size) w2 #[] 0 (unhide B2).size (by decide) rfl)
    generalize hw : (w2.alloc (.cells #[] 31)).drew = W0 at *
    clear hw
    refine wpAnyH_ready (rs := [5]) (by kernel_rfl) (by decide) (AllReadyH.cons rfl (fun K hK => ?_) AllReadyH.nil)
    refine step_append_load rfl _ _ rfl w.heap.size _ 0 (lcells []) rfl (unhide R0) ⟨b, off, none⟩ i cap (l.take i) rfl (by rw [List.length_take]; omega) (unhide P1 W0 (unhide B4)) (by omega) (unhide B4).size ?_
    intro v1 W1 rr1 bb1
    refine hK.out _ _ trivial (fun hHeld => ?_)
    clear hK K
    try simp only [List.setIfInBounds_toArray, List.set_cons_zero, List.set_cons_succ]
    have B5 := hide ((unhide B4).trans bb1)
    have R5 := hide rr1
    clear rr1 bb1 B4 R0
    refine wpAnyH_ready (rs := [10]) (by kernel_rfl) (by decide) (AllReadyH.cons rfl (fun K hK => ?_) AllReadyH.nil)
    refine step_append_load rfl _ _ rfl w.heap.size _ (0 + i) (lcells [] ++ lcells (l.take i)) rfl (unhide R5) A2 (l.length - (i + 1)) (cap - (i + 1)) (l.drop (i + 1)) rfl (by rw [List.length_drop]) (unhide P2 W1 (unhide B5)) (by omega) (unhide B5).size ?_
    intro v2 W2 rr2 bb2
    refine hK.out _ _ trivial (fun hHeld => ?_)
    clear hK K
    try simp only [List.setIfInBounds_toArray, List.set_cons_zero, List.set_cons_succ]
    have B6 := hide ((unhide B5).trans bb2)
    obtain ⟨ao2, cap2, rfl, hin2⟩ := loads_own (L := lessL l i) (by rw [lessL, lcells_app]; exact rr2) (unhide HE) hl2
    have HI2 := hide hin2
    clear rr2 bb2 hin2 B5 R5
    refine wpAnyH_ready (rs := [11]) (by kernel_rfl) (by decide) (AllReadyH.cons rfl (fun K hK => ?_) AllReadyH.nil)
    refine (if_pos rfl).mpr ?_
    go_wp2_with fail
    refine (unhide C2 ao2 cap2 (lessL l i) W2 (unhide HI2)).mono ?_
    rintro e x1 ⟨⟨r2, hr2, rfl⟩, bel⟩
    have HF2 := hide (opt_facts (unhide HBB r2 hr2))
    clear hr2
    generalize valO r2 = a2 at *
    generalize r2.isSome = o2 at *
    have N1 := hide (below_on (unhide B6) bel)
    refine hK.out _ _ (trivial) (fun hHeld => ?_)
    clear hK K bel
    refine take_yes 12 55 (.tuple #[.int .i64 a2, .bool o2]) rfl rfl (by kernel_rfl) (by kernel_rfl) (by kernel_rfl) (fun _ _ _ h => h) rfl (by assumption) (by intro w9 hS9; obtain _ := hS9; go_simp) ?_
    simp only [List.setIfInBounds_toArray, List.set_cons_zero, List.set_cons_succ]
    refine take_yes 13 68 (.int .i64 a2) rfl rfl (by kernel_rfl) (by kernel_rfl) (by kernel_rfl) (fun _ _ _ h => h) rfl (by assumption) (by intro w9 hS9; obtain _ := hS9; go_simp) ?_
    simp only [List.setIfInBounds_toArray, List.set_cons_zero, List.set_cons_succ]
    refine take_yes 14 69 (.bool o2) rfl rfl (by kernel_rfl) (by kernel_rfl) (by kernel_rfl) (fun _ _ _ h => h) rfl (by assumption) (by intro w9 hS9; obtain _ := hS9; go_simp) ?_
    simp only [List.setIfInBounds_toArray, List.set_cons_zero, List.set_cons_succ]
    refine take_yes 15 14 (.int .i64 a2) rfl rfl (by kernel_rfl) (by kernel_rfl) (by kernel_rfl) (fun _ _ _ h => h) rfl (by assumption) (by intro w9 hS9; obtain _ := hS9; go_simp) ?_
    simp only [List.setIfInBounds_toArray, List.set_cons_zero, List.set_cons_succ]
    refine take_yes 16 15 (.bool o2) rfl rfl (by kernel_rfl) (by kernel_rfl) (by kernel_rfl) (fun _ _ _ h => h) rfl (by assumption) (by intro w9 hS9; obtain _ := hS9; go_simp) ?_
    simp only [List.setIfInBounds_toArray, List.set_cons_zero, List.set_cons_succ]
    refine wpAnyH_done (by kernel_rfl) ?_ _
    have B9 := hide (unhide N1)
    clear hHeld
    cases o1 with
    | true =>
      have g1 := (unhide HF1).1 rfl
      cases o2 with
      | true =>
        have g2 := (unhide HF2).1 rfl
        go_wp2_with fail
        refine (unhide CK _).mono ?_
        rintro e w9 ⟨rfl, bel⟩
        have BX := hide (below_on (unhide B9) bel)
        clear bel
        go_wp2
        go_ret
        exact ⟨rfl, unhide BX⟩
      | false =>
        obtain rfl : base = 0 := (unhide HF2).2 rfl
        go_wp2_with fail
        refine (unhide CK _).mono ?_
        rintro e w9 ⟨rfl, bel⟩
        have BX := hide (below_on (unhide B9) bel)
        clear bel
        go_wp2
        go_ret
        exact ⟨rfl, unhide BX⟩
    | false =>
      obtain rfl : base = less := (unhide HF1).2 rfl
      cases o2 with
      | true =>
        have g2 := (unhide HF2).1 rfl
        go_wp2_with fail
        refine (unhide CK _).mono ?_
        rintro e w9 ⟨rfl, bel⟩
        have BX := hide (below_on (unhide B9) bel)
        clear bel
        go_wp2
        go_ret
        exact ⟨rfl, unhide BX⟩
      | false =>
        obtain rfl : base = 0 := (unhide HF2).2 rfl
        go_wp2_with fail
        refine (unhide CK _).mono ?_
        rintro e w9 ⟨rfl, bel⟩
        have BX := hide (below_on (unhide B9) bel)
        clear bel
        go_wp2
        go_ret
        exact ⟨rfl, unhide BX⟩
end Go.Proofs.Ythojadjddhmmjaa.Fix
