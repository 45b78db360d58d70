/- What mode and row of package show answer. -/
import Derived.Test.YtlfmnnngadnkpaaDoorShowStr
namespace Go.Proofs.YtlfmnnngadnkpaaDoor.Lex
open Go.ChangeShapes Go.WideShapes Go.RowKit

def modeL (t : TaskV) : List (List UInt8) := if t.mode = 0 then [wFixed] else if t.mode = 1 then [wFloat, digs t.Q.toNat] else [wThresh, digs t.theta.toNat]
def rowL (word : List UInt8) (n : Nat) : List (List UInt8) := if (Bits.bl n).length = 0 then [] else word :: (Bits.bl n).map digs
theorem srow_made2 (w : World) (o : Obj) (B : Nat) (hB : B ≤ w.heap.size) (xs : List (List UInt8)) (n : Nat) (hn : n = xs.length) (c : List Value) (hc : c = strs xs) (hx : xs.length ≤ 1000) : SRow ((w.alloc o).alloc (.cells c.toArray 9)) B (.slice (some ⟨w.heap.size + 1, 0, none⟩) n n) xs := by
  have := srow_made (w.alloc o) B (by simp; omega) xs n hn c hc hx
  rw [World.size_alloc] at this
  exact this
theorem mode_ways {t : TaskV} {p : Int} (hf : Fits t p) (hp : p ≤ 10000) : (t.mode = 0 ∧ modeL t = [wFixed]) ∨ (t.mode = 1 ∧ (0 ≤ t.Q ∧ t.Q ≤ 10000) ∧ modeL t = [wFloat, digs t.Q.toNat]) ∨ (t.mode = 2 ∧ (0 ≤ t.theta ∧ t.theta ≤ 10000) ∧ modeL t = [wThresh, digs t.theta.toNat]) := by
  obtain ⟨-, -, -, -, -, hm⟩ := fits_parts hf.is
  simp only [modeB] at hm
  by_cases m0 : t.mode = 0
  · exact .inl ⟨m0, by rw [modeL, if_pos m0]⟩
  · rw [if_neg m0] at hm
    by_cases m1 : t.mode = 1
    · rw [if_pos m1] at hm
      simp only [inB, Bool.and_eq_true, decide_eq_true_eq] at hm
      exact .inr (.inl ⟨m1, ⟨hm.1.1, hm.1.2⟩, by rw [modeL, if_neg m0, if_pos m1]⟩)
    · rw [if_neg m1] at hm
      by_cases m2 : t.mode = 2
      · rw [if_pos m2] at hm
        simp only [Bool.and_eq_true, decide_eq_true_eq] at hm
        exact .inr (.inr ⟨m2, ⟨hm.1.2, by omega⟩, by rw [modeL, if_neg m0, if_neg m1]⟩)
      · rw [if_neg m2] at hm; cases hm
set_option maxHeartbeats 1600000 in
set_option maxRecDepth 100000 in
theorem mode_any (t : TaskV) (p : Int) (w : World) (hP : Pw w) (hf : Fits t p) (hp : p ≤ 10000) : Calls Tryd.prog 19 #[t.val] w fun e w' => ∃ v, e = .returned v ∧ SRow w' w.heap.size v (modeL t) ∧ Below w.heap.size w w' := by
  have HP := hide (fun w' (hB : Below w.heap.size w w') => hP.bel hB)
  clear hP
  rcases mode_ways hf hp with ⟨hm, hl⟩ | ⟨hm, ⟨q0, q1⟩, hl⟩ | ⟨hm, ⟨q0, q1⟩, hl⟩
  · rw [hl]
    clear hl hf HP
    obtain ⟨name, T, D, mode, Q, theta, ao, cap, ecb, ucb, l⟩ := t
    simp only at hm
    subst hm
    go_enter Tryd.func19, Tryd.ntmps19
    simp only [TaskV.val, TaskV.cells]
    go_wp2
    go_ret
    exact ⟨_, rfl, srow_made2 w _ w.heap.size (Nat.le_refl _) [wFixed] 1 rfl _ rfl (by decide), ((Below.refl _ _).alloc (Nat.le_refl _) _).alloc (by simp) _⟩
  · rw [hl]
    clear hl hf
    obtain ⟨name, T, D, mode, Q, theta, ao, cap, ecb, ucb, l⟩ := t
    simp only at hm q0 q1 ⊢
    subst hm
    have CQ := hide (fun w hP => num_any Q.toNat (by omega) w hP)
    rw [show ((Q.toNat : Nat) : Int) = Q by omega] at CQ
    obtain ⟨D1, hD1⟩ : ∃ D1, D1 = mkS (digs Q.toNat) := ⟨_, rfl⟩
    have HD := hide hD1
    rw [← hD1] at CQ
    clear hD1 q0 q1
    go_enter Tryd.func19, Tryd.ntmps19
    simp only [TaskV.val, TaskV.cells]
    go_wp2_with fail
    refine (unhide CQ _ (unhide HP _ ((Below.refl _ _).alloc (Nat.le_refl _) _))).mono ?_
    rintro e w1 ⟨rfl, bel⟩
    have B1 := hide (bel_box (Below.refl _ _) bel)
    clear bel
    go_wp2
    go_ret
    exact ⟨_, rfl, srow_made w1 _ (unhide B1).size [wFloat, digs Q.toNat] 2 rfl _ (by rw [unhide HD]; rfl) (by simp), (unhide B1).alloc (unhide B1).size _⟩
  · rw [hl]
    clear hl hf
    obtain ⟨name, T, D, mode, Q, theta, ao, cap, ecb, ucb, l⟩ := t
    simp only at hm q0 q1 ⊢
    subst hm
    have CQ := hide (fun w hP => itoa_any theta.toNat (by omega) w hP)
    rw [show ((theta.toNat : Nat) : Int) = theta by omega] at CQ
    obtain ⟨D1, hD1⟩ : ∃ D1, D1 = mkS (digs theta.toNat) := ⟨_, rfl⟩
    have HD := hide hD1
    rw [← hD1] at CQ
    clear hD1 q0 q1
    go_enter Tryd.func19, Tryd.ntmps19
    simp only [TaskV.val, TaskV.cells]
    go_wp2_with fail
    refine (unhide CQ _ (unhide HP _ ((Below.refl _ _).alloc (Nat.le_refl _) _))).mono ?_
    rintro e w1 ⟨rfl, bel⟩
    have B1 := hide (bel_box (Below.refl _ _) bel)
    clear bel
    go_wp2
    go_ret
    exact ⟨_, rfl, srow_made w1 _ (unhide B1).size [wThresh, digs theta.toNat] 2 rfl _ (by rw [unhide HD]; rfl) (by simp), (unhide B1).alloc (unhide B1).size _⟩
theorem bl_none {n : Nat} (h : n < 18446744073709551616) : (Bits.bl n).length = 0 ↔ n = 0 := by
  constructor
  · intro e
    rcases Nat.eq_zero_or_pos n with h0 | h0
    · exact h0
    · obtain ⟨r, hr⟩ := Bits.bl_ctz n (by omega) h
      rw [hr] at e; simp at e
  · rintro rfl; rw [Bits.bl_zero]; rfl
theorem row_next {l : List Nat} {k : Nat} (h : k < l.length) (word : List UInt8) : (word :: (l.take k).map digs) ++ [digs (l.getD k 0)] = word :: (l.take (k + 1)).map digs := by
  have e : l.take (k + 1) = l.take k ++ [l.getD k 0] := by rw [List.take_add_one, List.getElem?_eq_getElem h, List.getD_eq_getElem?_getD, List.getElem?_eq_getElem h]; rfl
  rw [e, List.map_append]
  rfl
set_option maxHeartbeats 1600000 in
set_option maxRecDepth 100000 in
theorem row_any (word : List UInt8) (x : Int) (w : World) (hP : Pw w) (hx : U64 x) : Calls Tryd.prog 20 #[.string (mkS word), .int .u64 x] w fun e w' => ∃ v, e = .returned v ∧ SRow w' w.heap.size v (rowL word x.toNat) ∧ Below w.heap.size w w' := by
  have HP := hide (fun w' (hB : Below w.heap.size w w') => hP.bel hB)
  have x0 := hx.1
  have x1 := hx.2
  clear hP hx
  have hxx : x.toNat < 18446744073709551616 := by omega
  obtain ⟨W, hW⟩ : ∃ W, W = mkS word := ⟨_, rfl⟩
  have HW := hide hW
  rw [← hW]
  clear hW
  by_cases hz : x = 0
  · subst hz
    clear HP
    go_enter Tryd.func20, Tryd.ntmps20
    go_wp2
    go_ret
    refine ⟨_, rfl, ?_, Below.refl _ _⟩
    have e : rowL word (Int.toNat 0) = [] := by rw [rowL]; exact if_pos ((bl_none (by decide)).2 rfl)
    rw [e]
    exact World.ownsRow_nil _ _ _ _
  · have hL : rowL word x.toNat = word :: (Bits.bl x.toNat).map digs := by rw [rowL, if_neg (by rw [bl_none hxx]; omega)]
    have CL := hide (fun w => Bits.list_any x w x0 (by omega))
    rw [hL]
    clear hL
    have hil : Bits.il x.toNat = (Bits.bl x.toNat).map fun i : Nat => (i : Int) := rfl
    rw [hil] at CL
    have hb64 : ∀ k, (Bits.bl x.toNat).getD k 0 < 64 := fun k => bl_getD_lt x.toNat k
    have hbl : (Bits.bl x.toNat).length ≤ 64 := Bits.blTo_len _ _
    generalize Bits.bl x.toNat = l at *
    go_enter Tryd.func20, Tryd.ntmps20
    go_wp2_with fail
    refine (unhide CL _).mono ?_
    rintro e w1 ⟨v0, rfl, hown, bel, hne⟩
    rw [List.length_map] at hown
    have B1 := hide (bel_box (Below.refl _ _) bel)
    have R1 := hide ((srow_made w w.heap.size (Nat.le_refl _) [word] 1 rfl [.string W] (by rw [unhide HW]; rfl) (by simp)).bel bel)
    obtain ⟨g, cap, rfl⟩ : ∃ g cap, v0 = .slice (some ⟨g, 0, none⟩) l.length cap := by
      rcases hown.2 with ⟨rfl, -⟩ | ⟨g, cap, cur, rfl, -⟩
      · exact absurd rfl hne
      · exact ⟨g, cap, rfl⟩
    have O1 := hide hown
    clear bel hne hown CL
    go_wp2
    go_loopw [5, 15] (fun v i wr => ∃ k : Nat, k ≤ l.length ∧ i = .int .i64 k ∧ SRow wr w.heap.size v (word :: (l.take k).map digs) ∧ wr.ownsRow (w.alloc (.cells #[.string W] 9)).heap.size 3 1 (.slice (some ⟨g, 0, none⟩) l.length cap) l.length ((l.map fun i : Nat => (i : Int)).map (Value.int .i64)) ∧ Below w.heap.size w wr) (fun _ i _ => l.length - (intOf i).toNat)
    case atStart => exact ⟨0, Nat.zero_le _, rfl, unhide R1, unhide O1, unhide B1⟩
    case round =>
      obtain ⟨k, hk, rfl, hr, ho, hb⟩ := hrel
      clear R1 O1 B1
      have RK := hide hr
      have OK := hide ho
      have BK := hide hb
      clear hr ho hb
      by_cases hlt : k < l.length
      · have hc : wr.cell? ⟨g, k, none⟩ = some (.int .i64 ((l.getD k 0 : Nat) : Int)) := by
          have := World.ownsRow.cells (unhide OK) (g := g) rfl k (.int .i64 ((l.getD k 0 : Nat) : Int)) (by
            rw [List.getElem?_map, List.getElem?_map, List.getElem?_eq_getElem hlt, List.getD_eq_getElem?_getD, List.getElem?_eq_getElem hlt]; rfl)
          cases k <;> simpa [Addr.add] using this
        have h64 := hb64 k
        have hnx := row_next hlt word
        have CI := hide (fun w hP => itoa_any (l.getD k 0) (by omega) w hP)
        generalize l.getD k 0 = d at *
        obtain ⟨D1, hD1⟩ : ∃ D1, D1 = mkS (digs d) := ⟨_, rfl⟩
        have HD := hide hD1
        rw [← hD1] at CI
        clear hD1
        have HNX := hide hnx
        have hlen : (word :: (l.take k).map digs).length ≤ 66 := by simp; omega
        clear hnx
        generalize (word :: (l.take k).map digs) = xs at *
        go_wp2_with fail
        refine (unhide CI _ (unhide HP _ (unhide BK))).mono ?_
        rintro e w2 ⟨rfl, bel⟩
        have R2 := hide ((unhide RK).bel bel)
        have O2 := hide (own_keep (unhide OK) bel)
        have B2 := hide (below_on (unhide BK) bel)
        clear bel hc
        go_wp2_with (at_builtin; refine wpList_append_strs rfl _ _ rfl w.heap.size w.heap.size _ _ xs [digs d] rfl ((unhide R2).bel ((Below.refl _ _).alloc (Nat.le_refl _) _)) rfl (srow_made w2 w.heap.size (unhide B2).size [digs d] 1 rfl [.string D1] (by rw [unhide HD]; rfl) (by simp)) (by simp; omega) (by have := (unhide B2).size; simp; omega) ?_)
        intro v' w3 r3 b3 g3
        have O3 := hide (World.ownsRow.kept (own_keep (unhide O2) ((Below.refl _ _).alloc (Nat.le_refl _) _)) g3 (own_kinds (unhide O2) (unhide R2) (by decide)))
        have R3 := hide r3
        have B3 := hide (((unhide B2).alloc (unhide B2).size (.cells #[.string D1] 9)).trans b3)
        clear r3 b3 g3
        go_wp2
        go_roundw
        case rel => exact ⟨k + 1, by omega, by go_num, by rw [← unhide HNX]; exact unhide R3, unhide O3, unhide B3⟩
        case measure => simp [intOf]; omega
      · have e : k = l.length := by omega
        subst e
        go_wp2
        go_ret
        refine ⟨_, rfl, ?_, unhide BK⟩
        have := unhide RK
        rw [List.take_length] at this
        exact this
end Go.Proofs.YtlfmnnngadnkpaaDoor.Lex
