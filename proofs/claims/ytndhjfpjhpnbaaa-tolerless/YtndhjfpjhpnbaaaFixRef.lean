/- Chapter 10: what the document's own functions answer. -/
import Derived.Test.YtndhjfpjhpnbaaaFixSpec
import Derived.Deep.RegionHeld3
namespace Go.Proofs.Ytndhjfpjhpnbaaa.Fix
set_option maxRecDepth 100000
open Go.ChangeShapes Go.WideShapes Go.RowKit

theorem hide {p : Prop} (h : p) : Hid p := h
theorem unhide {p : Prop} (h : Hid p) : p := h.out
theorem put_some {o : Oper} {d : Tmp} (a : Act) (v : Value) (h : o.dst = some d) : a.put o.dst v = { a with tmps := a.tmps.setIfInBounds d v } := by rw [h]; rfl
theorem take_yes {P : Program} {md : Region.Mode} {ops : Array Oper} {Q : Exit → Act → World → Prop} {S : World → Prop} {oi : Oper} {fuel : Nat} {listed : Array Bool} {a : Act} {w : World} (i : Nat) (d : Tmp) (v : Value) (hi : ops[i]? = some oi) (hd : oi.dst = some d)
    (hs : Region.noSelect ops = true) (hf : Region.free md ops listed i = true) (hr : (Region.ready md ops listed).contains i = true)
    (hQ : ∀ c a w, Q (.panic c) (a.put oi.dst v) w → Q (.panic c) a w) (hw : Region.wanted oi (yielded ops a.tmps) = true) (hS : S w) (hy : ∀ w, S w → (execOp a.eval oi).run P w = .ok (.value v) w)
    (h : wpAnyH P md ops Q S fuel (listed.setIfInBounds i true) { a with tmps := a.tmps.setIfInBounds d v } w) : wpAnyH P md ops Q S (fuel + 1) listed a w :=
  wpAnyH_take hi hs hf hr hQ (Or.inl ⟨hw, hy⟩) hS (by rw [put_some a v hd]; exact h)
theorem take_no {P : Program} {md : Region.Mode} {ops : Array Oper} {Q : Exit → Act → World → Prop} {S : World → Prop} {oi : Oper} {fuel : Nat} {listed : Array Bool} {a : Act} {w : World} (i : Nat) (d : Tmp) (hi : ops[i]? = some oi) (hd : oi.dst = some d)
    (hs : Region.noSelect ops = true) (hf : Region.free md ops listed i = true) (hr : (Region.ready md ops listed).contains i = true)
    (hQ : ∀ c a w, Q (.panic c) (a.put oi.dst undef) w → Q (.panic c) a w) (hw : Region.wanted oi (yielded ops a.tmps) = false) (hS : S w)
    (h : wpAnyH P md ops Q S fuel (listed.setIfInBounds i true) { a with tmps := a.tmps.setIfInBounds d undef } w) : wpAnyH P md ops Q S (fuel + 1) listed a w :=
  wpAnyH_take hi hs hf hr hQ (Or.inr ⟨hw, rfl⟩) hS (by rw [put_some a undef hd]; exact h)
def I64 (n : Int) : Prop := -9223372036854775808 ≤ n ∧ n ≤ 9223372036854775807
/- a row of loads, as it lies in a world -/
structure LoadsIn (w : World) (ao : Option Addr) (l : List LoadV) : Prop where
  row : l ≠ [] → ∃ b off, ao = some ⟨b, off, none⟩ ∧ ∀ j, j < l.length → w.cell? ⟨b, off + j * 2, none⟩ = some (.int .i64 (l.getD j load0).T) ∧ w.cell? ⟨b, off + j * 2 + 1, none⟩ = some (.int .i64 (l.getD j load0).C)
  len : l.length ≤ 9223372036854775807
  each : ∀ x ∈ l, I64 x.T ∧ I64 x.C
theorem below_on {a b c : World} (h : Below a.heap.size a b) (k : Below b.heap.size b c) : Below a.heap.size a c := h.trans (k.mono h.size)
theorem cell_on {w w' : World} {p : Addr} {v : Value} (h : w.cell? p = some v) (hb : Below w.heap.size w w') : w'.cell? p = some v := by
  rw [World.cell?_of_block (hb.block _ (World.block_lt_of_cell? w _ h))]; exact h
theorem LoadsIn.bel {w w' : World} {ao : Option Addr} {l : List LoadV} (h : LoadsIn w ao l) (hb : Below w.heap.size w w') : LoadsIn w' ao l :=
  ⟨fun hne => by
    obtain ⟨b, off, e, hc⟩ := h.row hne
    exact ⟨b, off, e, fun j hj => ⟨cell_on (hc j hj).1 hb, cell_on (hc j hj).2 hb⟩⟩, h.len, h.each⟩
theorem i64_is (n : Int) (h : -9223372036854775808 ≤ n ∧ n ≤ 9223372036854775807) : IntKind.i64.wrap n = n := by rw [IntKind.wrap_i64]; omega
theorem load_in {l : List LoadV} {j : Nat} (h : j < l.length) : l.getD j load0 ∈ l := by rw [List.getD_eq_getElem?_getD, List.getElem?_eq_getElem h]; exact List.getElem_mem _
theorem load_take (l : List LoadV) (k : Nat) (h : k < l.length) : l.take (k + 1) = l.take k ++ [l.getD k load0] := by
  rw [List.take_add_one, List.getElem?_eq_getElem h, List.getD_eq_getElem?_getD, List.getElem?_eq_getElem h]; rfl
theorem all_take (l : List LoadV) (k : Nat) (h : k < l.length) : (l.take (k + 1)).all loadB = ((l.take k).all loadB && loadB (l.getD k load0)) := by
  rw [load_take l k h, List.all_append]; simp
theorem all_no {l : List LoadV} {k : Nat} (h : k < l.length) (hb : loadB (l.getD k load0) = false) : l.all loadB = false := by
  cases e : l.all loadB with
  | false => rfl
  | true => rw [List.all_eq_true.1 e _ (load_in h)] at hb; cases hb
set_option maxHeartbeats 1600000 in
theorem rmay_any (base : Int) (ao : Option Addr) (cap : Nat) (l : List LoadV) (w : World) (hl : LoadsIn w ao l) : Calls Try.prog 29 #[.int .i64 base, .slice ao l.length cap] w fun e w' => e = .returned (.bool (mayB base l)) ∧ w' = w := by
  have hlen := hl.len
  have HR := hide hl.row
  have HE : Hid (mayB base l = (decide (0 ≤ base) && (decide (base ≤ 1000000) && (decide (l.length ≤ 64) && l.all loadB)))) := rfl
  clear hl
  by_cases h0 : base < 0
  · go_enter Try.func29, Try.ntmps29
    go_wp2
    go_ret
    exact ⟨by rw [unhide HE, decide_eq_false (by omega)]; rfl, rfl⟩
  by_cases h1 : 1000000 < base
  · go_enter Try.func29, Try.ntmps29
    go_wp2
    go_ret
    exact ⟨by rw [unhide HE, decide_eq_false (p := base ≤ 1000000) (by omega)]; simp, rfl⟩
  by_cases h2 : (64 : Int) < l.length
  · go_enter Try.func29, Try.ntmps29
    go_wp2
    go_ret
    exact ⟨by rw [unhide HE, decide_eq_false (p := l.length ≤ 64) (by omega)]; simp, rfl⟩
  have HT : Hid (mayB base l = l.all loadB) := by
    show mayB base l = l.all loadB
    rw [unhide HE, decide_eq_true (by omega), decide_eq_true (by omega), decide_eq_true (by omega)]; rfl
  clear HE
  generalize mayB base l = R at *
  go_enter Try.func29, Try.ntmps29
  go_wp2
  go_loop [5] (fun i => ∃ k : Nat, k ≤ l.length ∧ i = .int .i64 k ∧ (l.take k).all loadB = true) (fun i => l.length - (intOf i).toNat)
  case atStart => exact ⟨0, Nat.zero_le _, rfl, rfl⟩
  case round =>
    obtain ⟨k, hk, rfl, ha⟩ := hrel
    by_cases hlt : k < l.length
    · obtain ⟨b, off, rfl, hc⟩ := unhide HR (fun e => by rw [e] at hlt; simp at hlt)
      obtain ⟨t0, t1⟩ := hc k hlt
      have hs := all_take l k hlt
      have hno := fun h => all_no (l := l) (k := k) hlt h
      have hld : loadB (l.getD k load0) = (decide (1 ≤ (l.getD k load0).T) && (decide ((l.getD k load0).T ≤ 1000000) && (decide (0 ≤ (l.getD k load0).C) && decide ((l.getD k load0).C ≤ 1000000)))) := rfl
      rw [ha] at hs
      have HS := hide hs
      have HN := hide hno
      have HLD := hide hld
      clear hs hno hld hc ha
      generalize l.getD k load0 = x at *
      obtain ⟨T, C⟩ := x
      simp only at t0 t1 HLD
      by_cases g0 : T < 1
      · go_wp2
        go_ret
        exact ⟨by rw [unhide HT, unhide HN (by rw [unhide HLD, decide_eq_false (by omega)]; rfl)]; rfl, rfl⟩
      by_cases g1 : 1000000 < T
      · go_wp2
        go_ret
        exact ⟨by rw [unhide HT, unhide HN (by rw [unhide HLD, decide_eq_false (p := T ≤ 1000000) (by omega)]; simp)]; rfl, rfl⟩
      by_cases g2 : C < 0
      · go_wp2
        go_ret
        exact ⟨by rw [unhide HT, unhide HN (by rw [unhide HLD, decide_eq_false (p := 0 ≤ C) (by omega)]; simp)]; rfl, rfl⟩
      by_cases g3 : 1000000 < C
      · go_wp2
        go_ret
        exact ⟨by rw [unhide HT, unhide HN (by rw [unhide HLD, decide_eq_false (p := C ≤ 1000000) (by omega)]; simp)]; rfl, rfl⟩
      have HY : Hid ((l.take (k + 1)).all loadB = true) := by
        show _ = true
        rw [unhide HS, unhide HLD, decide_eq_true (by omega), decide_eq_true (by omega), decide_eq_true (by omega), decide_eq_true (by omega)]; rfl
      go_wp2
      go_round
      case rel => exact ⟨k + 1, by omega, by go_num, unhide HY⟩
      case measure => simp [intOf]; omega
    · have e : k = l.length := by omega
      subst e
      rw [List.take_length] at ha
      go_wp2
      go_ret
      exact ⟨by rw [unhide HT, ha]; rfl, rfl⟩
structure LBox (w : World) (b o : Nat) (x : LoadV) : Prop where
  c0 : w.cell? ⟨b, o, none⟩ = some (.int .i64 x.T)
  c1 : w.cell? ⟨b, o + 1, none⟩ = some (.int .i64 x.C)
theorem LBox.bel {w w' : World} {b o : Nat} {x : LoadV} (h : LBox w b o x) (hb : Below w.heap.size w w') : LBox w' b o x := ⟨cell_on h.c0 hb, cell_on h.c1 hb⟩
theorem LBox.drew {w : World} {b o : Nat} {x : LoadV} (h : LBox w b o x) : LBox w.drew b o x := h.bel ((Below.refl _ _).drew)
set_option maxHeartbeats 1600000 in
theorem rsum_any (base : Int) (ao : Option Addr) (cap : Nat) (l : List LoadV) (u : Int) (w : World) (hl : LoadsIn w ao l) (hm : mayB base l = true) (hu : 0 ≤ u ∧ u ≤ 1000000) : Calls Try.prog 30 #[.int .i64 base, .slice ao l.length cap, .int .i64 u] w fun e w' => e = .returned (.int .i64 (sumZ base l u)) ∧ Below w.heap.size w w' := by
  have hlen := hl.len
  have HR := hide hl.row
  obtain ⟨hb, h64, hok⟩ := may_parts hm
  have HO := hide hok
  have HS := hide (fun k => sum_range (l.take k) base u (fun x hx => hok x (List.mem_of_mem_take hx)) hu)
  clear hl hm hok
  go_enter Try.func30, Try.ntmps30
  go_wp2
  go_loopw [7, 8] (fun v i wr => ∃ k : Nat, k ≤ l.length ∧ i = .int .i64 k ∧ v = .int .i64 (sumZ base (l.take k) u) ∧ Below w.heap.size w wr) (fun _ i _ => l.length - (intOf i).toNat)
  case atStart => exact ⟨0, Nat.zero_le _, rfl, rfl, Below.refl _ _⟩
  case round =>
    obtain ⟨k, hk, rfl, rfl, hbel⟩ := hrel
    have B1 := hide hbel
    clear hbel
    by_cases hlt : k < l.length
    · obtain ⟨b, off, rfl, hc⟩ := unhide HR (fun e => by rw [e] at hlt; simp at hlt)
      have hx := unhide HO _ (load_in hlt)
      have hs := unhide HS k
      have hkl : ((l.take k).length : Int) ≤ 64 := by rw [List.length_take]; omega
      have hnx : sumZ base (l.take (k + 1)) u = sumZ base (l.take k) u + ceilZ u (l.getD k load0).T * (l.getD k load0).C := by rw [load_take l k hlt, sum_snoc]; rfl
      have hbox : LBox wr b (off + k * 2) (l.getD k load0) := ⟨cell_on (hc k hlt).1 (unhide B1), cell_on (hc k hlt).2 (unhide B1)⟩
      have hq : (u + (l.getD k load0).T - 1).tdiv (l.getD k load0).T = ceilZ u (l.getD k load0).T := Int.tdiv_eq_ediv_of_nonneg (by omega)
      have hq2 := ceil_range (w := u) hx.1.1 hu.1
      have ha := add_range hx hu
      have ha2 : addZ u (l.getD k load0) = ceilZ u (l.getD k load0).T * (l.getD k load0).C := rfl
      have HNX := hide hnx
      rw [ha2] at ha
      clear hnx hc ha2
      generalize sumZ base (l.take k) u = V at *
      generalize ((l.take k).length : Int) = q9 at *
      generalize hxx : l.getD k load0 = x at *
      clear hxx
      generalize ceilZ u x.T = Q at *
      have hT0 : x.T ≠ 0 := by omega
      have e1 : IntKind.i64.wrap (u + x.T) = u + x.T := i64_is _ (by omega)
      have e2 : IntKind.i64.wrap (u + x.T - 1) = u + x.T - 1 := i64_is _ (by omega)
      have e3 : IntKind.i64.wrap (Q * x.C) = Q * x.C := i64_is _ (by omega)
      have e4 : IntKind.i64.wrap (V + Q * x.C) = V + Q * x.C := i64_is _ (by omega)
      have e5 : IntKind.i64.wrap Q = Q := i64_is _ (by omega)
      have hk0 : (0 : Int) ≤ (k : Int) := by omega
      have hk1 : (k : Int) < (l.length : Int) := by omega
      have D0 := hide (unhide B1).drew
      go_wp2_with fail
      refine wp_region_held_drew (S := (fun w9 => LBox w9 b (off + k * 2) x)) (by kernel_rfl) (hbox.drew) (fun hHeld => ?_)
      refine take_yes 0 16 (.int .i64 V) rfl rfl (by kernel_rfl) (by kernel_rfl) (by kernel_rfl) (fun _ _ _ h => h) rfl (by assumption) (by intro w9 hS9; obtain ⟨s0, s1⟩ := hS9; go_simp) ?_
      simp only [List.setIfInBounds_toArray, List.set_cons_zero, List.set_cons_succ]
      refine take_yes 1 17 (.int .i64 u) rfl rfl (by kernel_rfl) (by kernel_rfl) (by kernel_rfl) (fun _ _ _ h => h) rfl (by assumption) (by intro w9 hS9; obtain ⟨s0, s1⟩ := hS9; go_simp) ?_
      simp only [List.setIfInBounds_toArray, List.set_cons_zero, List.set_cons_succ]
      refine take_yes 2 18 (.slice (some ⟨b, off, none⟩) l.length cap) rfl rfl (by kernel_rfl) (by kernel_rfl) (by kernel_rfl) (fun _ _ _ h => h) rfl (by assumption) (by intro w9 hS9; obtain ⟨s0, s1⟩ := hS9; go_simp) ?_
      simp only [List.setIfInBounds_toArray, List.set_cons_zero, List.set_cons_succ]
      refine take_yes 3 19 (.int .i64 k) rfl rfl (by kernel_rfl) (by kernel_rfl) (by kernel_rfl) (fun _ _ _ h => h) rfl (by assumption) (by intro w9 hS9; obtain ⟨s0, s1⟩ := hS9; go_simp) ?_
      simp only [List.setIfInBounds_toArray, List.set_cons_zero, List.set_cons_succ]
      refine take_yes 4 20 (.pointer (some ⟨b, off + k * 2, none⟩)) rfl rfl (by kernel_rfl) (by kernel_rfl) (by kernel_rfl) (fun _ _ _ h => h) rfl (by assumption) (by intro w9 hS9; obtain ⟨s0, s1⟩ := hS9; go_simp) ?_
      simp only [List.setIfInBounds_toArray, List.set_cons_zero, List.set_cons_succ]
      refine take_yes 5 21 (.pointer (some ⟨b, off + k * 2, none⟩)) rfl rfl (by kernel_rfl) (by kernel_rfl) (by kernel_rfl) (fun _ _ _ h => h) rfl (by assumption) (by intro w9 hS9; obtain ⟨s0, s1⟩ := hS9; go_simp) ?_
      simp only [List.setIfInBounds_toArray, List.set_cons_zero, List.set_cons_succ]
      refine take_yes 6 22 (.int .i64 x.T) rfl rfl (by kernel_rfl) (by kernel_rfl) (by kernel_rfl) (fun _ _ _ h => h) rfl (by assumption) (by intro w9 hS9; obtain ⟨s0, s1⟩ := hS9; go_simp) ?_
      simp only [List.setIfInBounds_toArray, List.set_cons_zero, List.set_cons_succ]
      refine take_yes 7 23 (.int .i64 (u + x.T)) rfl rfl (by kernel_rfl) (by kernel_rfl) (by kernel_rfl) (fun _ _ _ h => h) rfl (by assumption) (by intro w9 hS9; obtain ⟨s0, s1⟩ := hS9; go_simp) ?_
      simp only [List.setIfInBounds_toArray, List.set_cons_zero, List.set_cons_succ]
      refine take_yes 8 24 (.int .i64 (u + x.T - 1)) rfl rfl (by kernel_rfl) (by kernel_rfl) (by kernel_rfl) (fun _ _ _ h => h) rfl (by assumption) (by intro w9 hS9; obtain ⟨s0, s1⟩ := hS9; go_simp) ?_
      simp only [List.setIfInBounds_toArray, List.set_cons_zero, List.set_cons_succ]
      refine take_yes 9 25 (.slice (some ⟨b, off, none⟩) l.length cap) rfl rfl (by kernel_rfl) (by kernel_rfl) (by kernel_rfl) (fun _ _ _ h => h) rfl (by assumption) (by intro w9 hS9; obtain ⟨s0, s1⟩ := hS9; go_simp) ?_
      simp only [List.setIfInBounds_toArray, List.set_cons_zero, List.set_cons_succ]
      refine take_yes 10 26 (.int .i64 k) rfl rfl (by kernel_rfl) (by kernel_rfl) (by kernel_rfl) (fun _ _ _ h => h) rfl (by assumption) (by intro w9 hS9; obtain ⟨s0, s1⟩ := hS9; go_simp) ?_
      simp only [List.setIfInBounds_toArray, List.set_cons_zero, List.set_cons_succ]
      refine take_yes 11 27 (.pointer (some ⟨b, off + k * 2, none⟩)) rfl rfl (by kernel_rfl) (by kernel_rfl) (by kernel_rfl) (fun _ _ _ h => h) rfl (by assumption) (by intro w9 hS9; obtain ⟨s0, s1⟩ := hS9; go_simp) ?_
      simp only [List.setIfInBounds_toArray, List.set_cons_zero, List.set_cons_succ]
      refine take_yes 12 28 (.pointer (some ⟨b, off + k * 2, none⟩)) rfl rfl (by kernel_rfl) (by kernel_rfl) (by kernel_rfl) (fun _ _ _ h => h) rfl (by assumption) (by intro w9 hS9; obtain ⟨s0, s1⟩ := hS9; go_simp) ?_
      simp only [List.setIfInBounds_toArray, List.set_cons_zero, List.set_cons_succ]
      refine take_yes 13 29 (.int .i64 x.T) rfl rfl (by kernel_rfl) (by kernel_rfl) (by kernel_rfl) (fun _ _ _ h => h) rfl (by assumption) (by intro w9 hS9; obtain ⟨s0, s1⟩ := hS9; go_simp) ?_
      simp only [List.setIfInBounds_toArray, List.set_cons_zero, List.set_cons_succ]
      refine take_yes 14 30 (.int .i64 Q) rfl rfl (by kernel_rfl) (by kernel_rfl) (by kernel_rfl) (fun _ _ _ h => h) rfl (by assumption) (by intro w9 hS9; obtain ⟨s0, s1⟩ := hS9; go_simp) ?_
      simp only [List.setIfInBounds_toArray, List.set_cons_zero, List.set_cons_succ]
      refine take_yes 15 31 (.slice (some ⟨b, off, none⟩) l.length cap) rfl rfl (by kernel_rfl) (by kernel_rfl) (by kernel_rfl) (fun _ _ _ h => h) rfl (by assumption) (by intro w9 hS9; obtain ⟨s0, s1⟩ := hS9; go_simp) ?_
      simp only [List.setIfInBounds_toArray, List.set_cons_zero, List.set_cons_succ]
      refine take_yes 16 32 (.int .i64 k) rfl rfl (by kernel_rfl) (by kernel_rfl) (by kernel_rfl) (fun _ _ _ h => h) rfl (by assumption) (by intro w9 hS9; obtain ⟨s0, s1⟩ := hS9; go_simp) ?_
      simp only [List.setIfInBounds_toArray, List.set_cons_zero, List.set_cons_succ]
      refine take_yes 17 33 (.pointer (some ⟨b, off + k * 2, none⟩)) rfl rfl (by kernel_rfl) (by kernel_rfl) (by kernel_rfl) (fun _ _ _ h => h) rfl (by assumption) (by intro w9 hS9; obtain ⟨s0, s1⟩ := hS9; go_simp) ?_
      simp only [List.setIfInBounds_toArray, List.set_cons_zero, List.set_cons_succ]
      refine take_yes 18 34 (.pointer (some ⟨b, off + k * 2 + 1, none⟩)) rfl rfl (by kernel_rfl) (by kernel_rfl) (by kernel_rfl) (fun _ _ _ h => h) rfl (by assumption) (by intro w9 hS9; obtain ⟨s0, s1⟩ := hS9; go_simp) ?_
      simp only [List.setIfInBounds_toArray, List.set_cons_zero, List.set_cons_succ]
      refine take_yes 19 35 (.int .i64 x.C) rfl rfl (by kernel_rfl) (by kernel_rfl) (by kernel_rfl) (fun _ _ _ h => h) rfl (by assumption) (by intro w9 hS9; obtain ⟨s0, s1⟩ := hS9; go_simp) ?_
      simp only [List.setIfInBounds_toArray, List.set_cons_zero, List.set_cons_succ]
      refine take_yes 20 36 (.int .i64 (Q * x.C)) rfl rfl (by kernel_rfl) (by kernel_rfl) (by kernel_rfl) (fun _ _ _ h => h) rfl (by assumption) (by intro w9 hS9; obtain ⟨s0, s1⟩ := hS9; go_simp) ?_
      simp only [List.setIfInBounds_toArray, List.set_cons_zero, List.set_cons_succ]
      refine take_yes 21 37 (.int .i64 (V + Q * x.C)) rfl rfl (by kernel_rfl) (by kernel_rfl) (by kernel_rfl) (fun _ _ _ h => h) rfl (by assumption) (by intro w9 hS9; obtain ⟨s0, s1⟩ := hS9; go_simp) ?_
      simp only [List.setIfInBounds_toArray, List.set_cons_zero, List.set_cons_succ]
      refine take_yes 22 7 (.int .i64 (V + Q * x.C)) rfl rfl (by kernel_rfl) (by kernel_rfl) (by kernel_rfl) (fun _ _ _ h => h) rfl (by assumption) (by intro w9 hS9; obtain ⟨s0, s1⟩ := hS9; go_simp) ?_
      simp only [List.setIfInBounds_toArray, List.set_cons_zero, List.set_cons_succ]
      refine wpAnyH_done (by kernel_rfl) ?_ _
      go_wp2
      go_roundw
      case rel => exact ⟨k + 1, by omega, by go_num, by rw [unhide HNX], unhide D0⟩
      case measure => simp [intOf]; omega
    · have e : k = l.length := by omega
      subst e
      rw [List.take_length]
      go_wp2
      go_ret
      exact ⟨rfl, unhide B1⟩
def sumO (base : Int) (l : List LoadV) (u : Int) : Bool := mayB base l && (decide (0 ≤ u) && decide (u ≤ 1000000))
/- what Least must answer -/
def LeastP (base : Int) (l : List LoadV) (e : Ending) : Prop := ∃ r, (if mayB base l then IsLeast (sumZ base l) r else r = none) ∧ e = .returned (.tuple #[.int .i64 (valO r), .bool r.isSome])
theorem least_not {base : Int} {l : List LoadV} (h : mayB base l = false) : LeastP base l (.returned (.tuple #[.int .i64 0, .bool false])) := ⟨none, by rw [h]; rfl, rfl⟩
theorem least_none {base : Int} {l : List LoadV} (h : mayB base l = true) (k : IsLeast (sumZ base l) none) : LeastP base l (.returned (.tuple #[.int .i64 0, .bool false])) := ⟨none, by rw [if_pos h]; exact k, rfl⟩
theorem least_at {base : Int} {l : List LoadV} {n : Int} (h : mayB base l = true) (k : IsLeast (sumZ base l) (some n)) : LeastP base l (.returned (.tuple #[.int .i64 n, .bool true])) := ⟨some n, by rw [if_pos h]; exact k, rfl⟩
set_option maxHeartbeats 1600000 in
theorem rLeast_any (base : Int) (ao : Option Addr) (cap : Nat) (l : List LoadV) (w : World) (hl : LoadsIn w ao l) : Calls Try.prog 21 #[.int .i64 base, .slice ao l.length cap] w fun e w' => LeastP base l e ∧ Below w.heap.size w w' := by
  have CM := hide (rmay_any base ao cap l w hl)
  cases hm : mayB base l
  · rw [hm] at CM
    have HM := hide hm
    clear hm
    go_enter Try.func21, Try.ntmps21
    go_wp2_with fail
    refine (unhide CM).mono ?_
    rintro e w1 ⟨rfl, rfl⟩
    go_wp2
    go_ret2
    exact ⟨least_not (unhide HM), Below.refl _ _⟩
  rw [hm] at CM
  obtain ⟨hb, h64, hok⟩ := may_parts hm
  have CS := hide (fun u (h : 0 ≤ u ∧ u ≤ 1000000) W (hW : Below w.heap.size w W) => rsum_any base ao cap l u W (hl.bel hW) hm h)
  have HOK := hide hok
  have HM := hide hm
  have HB := hide hb.1
  clear hm hok hl
  go_enter Try.func21, Try.ntmps21
  go_wp2_with fail
  refine (unhide CM).mono ?_
  rintro e w1 ⟨rfl, rfl⟩
  go_wp2
  go_loopw [6] (fun v wr => ∃ u : Int, v = .int .i64 u ∧ Come (sumZ base l) u ∧ Below w1.heap.size w1 wr ∧ I64 u) (fun v _ => (1000001 - intOf v).toNat)
  case atStart => exact ⟨1, rfl, come_one _, Below.refl _ _, by simp [I64]⟩
  case round =>
    obtain ⟨u, rfl, hc, hbel, hi⟩ := hrel
    have HC := hide hc
    have BK := hide hbel
    have hu1 := hc.low
    clear hc hbel
    by_cases hT : u ≤ 1000000
    · have CU := hide (unhide CS u ⟨by omega, hT⟩ wr (unhide BK))
      have hr := sum_range l base u (unhide HOK) ⟨by omega, hT⟩
      have HD := hide (fun h => come_down (unhide HOK) (unhide HB) (unhide HC) h)
      have HNX := hide (fun h => come_next (unhide HOK) (unhide HC) h)
      have HIS := hide (fun h => come_is (unhide HC) h hT)
      generalize sumZ base l u = n at *
      by_cases c0 : n = u
      · have HJ := hide (unhide HIS c0)
        clear HIS HD HNX
        subst c0
        go_wp2_with fail
        refine (unhide CU).mono ?_
        rintro e w2 ⟨rfl, bel⟩
        have B2 := hide (below_on (unhide BK) bel)
        clear bel
        go_wp2
        go_ret2
        exact ⟨least_at (unhide HM) (unhide HJ), unhide B2⟩
      by_cases c1 : n < u
      · go_wp2_with fail
        refine (unhide CU).mono ?_
        rintro e w2 ⟨rfl, bel⟩
        have B2 := hide (below_on (unhide BK) bel)
        clear bel
        go_wp2
        go_ret2
        exact ⟨least_none (unhide HM) (unhide HD c1), unhide B2⟩
      · go_wp2_with fail
        refine (unhide CU).mono ?_
        rintro e w2 ⟨rfl, bel⟩
        have B2 := hide (below_on (unhide BK) bel)
        clear bel
        go_wp2
        go_roundw
        case rel => exact ⟨n, rfl, unhide HNX (by omega), unhide B2, by unfold I64; omega⟩
        case measure => simp only [intOf]; omega
    · go_wp2
      go_ret2
      exact ⟨least_none (unhide HM) (come_none (unhide HC) (by omega)), unhide BK⟩
end Go.Proofs.Ytndhjfpjhpnbaaa.Fix
