/- The laws of chapter 6, over what Parse of package parse answers. -/
import Derived.Test.YtfpaigcbjpolhaaParseRef3
import Derived.Test.YtfpaigcbjpolhaaTaskRef3
namespace Go.Proofs.Ytfpaigcbjpolhaa.Lex
open Go.ChangeShapes Go.WideShapes Go.RowKit

/- what Parse must be shown to answer -/
def CParse : Prop := ∀ (s : ByteArray) (w : World), Calls Try.prog 7 #[.string s] w fun e w' => ∃ X : SetV, e = .returned (.tuple #[X.val, .int .i64 (parseS (bl s)).pos, .int .i64 (parseS (bl s)).err]) ∧ SetIn w' X ∧ X.reload = (parseS (bl s)).set.reload ∧ X.ts.map bareT = (parseS (bl s)).set.ts ∧ Below w.heap.size w w'
def knownL : List UInt8 := [114, 101, 108, 111, 97, 100, 32, 48, 59, 32, 116, 97, 115, 107, 32, 97, 32, 112, 101, 114, 105, 111, 100, 32, 53, 32, 100, 101, 97, 100, 108, 105, 110, 101, 32, 53, 32, 102, 105, 120, 101, 100, 32, 114, 101, 103, 105, 111, 110, 115, 32, 50, 32, 49, 59]
theorem known_is : (parseS knownL).err = 0 ∧ (parseS knownL).set.ts.length = 1 ∧ ((parseS knownL).set.ts.getD 0 task0).regs.length = 2 ∧ ((parseS knownL).set.ts.getD 0 task0).T = 5 := by decide +kernel
theorem sbox_at (w : World) (X : SetV) (ty : TypeId) {n : Nat} (hn : w.heap.size = n) : SBox (w.alloc (.cells #[.int .i64 X.reload, .slice X.ao X.ts.length X.cap] ty)) n X := by subst hn; exact sbox_new w X ty
set_option maxHeartbeats 1600000 in
theorem pknown_any (hP : CParse) (w : World) : Calls Try.prog 8 #[] w fun e w' => e = .returned (.bool true) ∧ Below w.heap.size w w' := by
  have CP := hide (hP (mkS knownL))
  clear hP
  go_enter Try.func8, Try.ntmps8
  go_wp2_with fail
  refine (unhide CP _).mono ?_
  rintro e w1 ⟨X, rfl, hin, -, hts, bel⟩
  rw [bl_mkS] at hts ⊢
  obtain ⟨k0, k1, k2, k3⟩ := known_is
  rw [k0]
  rw [← hts, List.length_map] at k1
  rw [← hts, bare_getD] at k2 k3
  have hne : X.ts ≠ [] := fun e => by rw [e] at k1; cases k1
  obtain ⟨b, off, hao, ht⟩ := set_task hin hne
  obtain ⟨t0, t1, t2, t3, t4, t5, t6, t7, t8⟩ := (ht 0 (by omega)).1
  have r2 : (X.ts.getD 0 task0).regs.length = 2 := k2
  have r3 : (X.ts.getD 0 task0).T = 5 := k3
  simp only [Nat.zero_mul, Nat.add_zero] at t1 t6
  rw [r3] at t1
  rw [r2] at t6
  have hb := World.block_lt_of_cell? w1 _ t1
  simp only at hb
  rw [SetV.val, hao, k1]
  have B := hide bel
  clear t0 t2 t3 t4 t5 t7 t8 ht hts k0 k1 k2 k3 hne hin hao bel r2 r3
  generalize (parseS knownL).pos = P at *
  generalize (X.ts.getD 0 task0).ao = ao1 at *
  generalize (X.ts.getD 0 task0).cap = cap1 at *
  go_wp2
  go_ret
  exact ⟨rfl, (unhide B).alloc (unhide B).size _⟩
theorem same_bare {X s : SetV} (hr : X.reload = s.reload) (h : X.ts.map bareT = s.ts.map bareT) : sameB X s = true := by
  have hl : X.ts.length = s.ts.length := by have := congrArg List.length h; simpa using this
  rw [sameB, hr, hl]
  simp only [beq_self_eq_true, Bool.true_and]
  rw [List.all_eq_true]
  intro j _
  have hj : bareT (X.ts.getD j task0) = bareT (s.ts.getD j task0) := by rw [← bare_getD, ← bare_getD, h]
  have key : ∀ a b : TaskV, bareT a = bareT b → sameT a b = true := fun a b e => by
    obtain ⟨⟩ := a
    obtain ⟨⟩ := b
    simp only [bareT, TaskV.mk.injEq] at e
    obtain ⟨rfl, rfl, rfl, rfl, rfl, rfl, -, -, rfl, rfl, rfl⟩ := e
    simp [sameT]
  exact key _ _ hj
set_option maxHeartbeats 3200000 in
theorem pshown_law (hP : CParse) (s : SetV) (w : World) (hs : SetIn w s) : Calls Try.prog 3 #[s.val] w fun e w' => e = .returned (.bool true) ∧ Below w.heap.size w w' := by
  have hlen := hs.len
  have CK := hide (fun w => pknown_any hP w)
  by_cases h10 : (10 : Int) < s.ts.length
  · go_enter Try.func3, Try.ntmps3
    rw [SetV.val]
    go_wp2
    go_ret
    exact ⟨rfl, (Below.refl _ _).alloc (Nat.le_refl _) _⟩
  have CA := hide (fun w h => rall_any s w h)
  cases hb : allB s
  · rw [hb] at CA
    clear hb
    go_enter Try.func3, Try.ntmps3
    rw [SetV.val]
    go_wp2_with fail
    refine (unhide CA _ (set_bel hs ((Below.refl _ _).alloc (Nat.le_refl _) _))).mono ?_
    rintro e w1 ⟨rfl, bel⟩
    have B1 := hide (bel_box (Below.refl _ _) bel)
    clear bel
    go_wp2
    go_ret
    exact ⟨rfl, unhide B1⟩
  rw [hb] at CA
  have hu : ∀ t ∈ s.ts, U64 t.ecb ∧ U64 t.ucb := fun t ht => ⟨(hs.each t ht).ecb, (hs.each t ht).ucb⟩
  have CT := hide (fun w h => rtext_any s w h hb)
  have CP := hide (fun w => hP (mkS (textS s)) w)
  rw [bl_mkS] at CP
  obtain ⟨⟨r0, r1⟩, h8, -, hfit⟩ := all_fits hb hu
  have hsz : (mkS (textS s)).size = (textS s).length := mkS_long _
  have hmax : (textS s).length ≤ 20000 := by
    have := part_len ⟨r0, r1⟩ hfit h8 s.ts.length (Nat.le_refl _)
    rw [part_all s _ (Nat.le_refl _)] at this
    omega
  have HIN := hide hs
  by_cases hl : 4000 < (textS s).length
  · rw [parse_long hl] at CP
    clear hu hfit r0 r1 hs hb hP
    generalize mkS (textS s) = TX at *
    generalize (textS s).length = n at *
    go_enter Try.func3, Try.ntmps3
    rw [SetV.val]
    go_wp2_with fail
    refine (unhide CA _ (set_bel (unhide HIN) ((Below.refl _ _).alloc (Nat.le_refl _) _))).mono ?_
    rintro e w1 ⟨rfl, bel⟩
    have B1 := hide (bel_box (Below.refl _ _) bel)
    have X1 := hide ((sbox_new w s 24).bel bel)
    obtain ⟨c0, c1⟩ := unhide X1
    clear bel
    go_wp2_with fail
    refine (unhide CT _ (set_bel (unhide HIN) (unhide B1))).mono ?_
    rintro e w2 ⟨rfl, bel⟩
    have B2 := hide (below_on (unhide B1) bel)
    clear bel c0 c1
    go_wp2_with fail
    refine (unhide CP _).mono ?_
    rintro e w3 ⟨X, rfl, -, -, -, bel⟩
    rw [SetV.val]
    have B3 := hide (below_on (unhide B2) bel)
    clear bel
    go_wp2_with fail
    refine (unhide CK _).mono ?_
    rintro e w4 ⟨rfl, bel⟩
    have B4 := hide (((unhide B3).alloc (unhide B3).size _).trans (bel.mono (by have := (unhide B3).size; simp; omega)))
    clear bel
    go_wp2
    go_ret
    exact ⟨rfl, unhide B4⟩
  · rw [parse_text hb hu (by omega)] at CP
    have CS := hide (fun w X hx hs => (fun (h : sameB X s = true) => by rw [← h]; exact rsame_any X s w hx hs : sameB X s = true → Calls Try.prog 9 #[X.val, s.val] w fun e w' => e = .returned (.bool true) ∧ Below w.heap.size w w'))
    clear hu hfit r0 r1 hs hb hP
    generalize mkS (textS s) = TX at *
    generalize (textS s).length = n at *
    go_enter Try.func3, Try.ntmps3
    rw [SetV.val]
    go_wp2_with fail
    refine (unhide CA _ (set_bel (unhide HIN) ((Below.refl _ _).alloc (Nat.le_refl _) _))).mono ?_
    rintro e w1 ⟨rfl, bel⟩
    have B1 := hide (bel_box (Below.refl _ _) bel)
    have X1 := hide ((sbox_new w s 24).bel bel)
    obtain ⟨c0, c1⟩ := unhide X1
    clear bel
    go_wp2_with fail
    refine (unhide CT _ (set_bel (unhide HIN) (unhide B1))).mono ?_
    rintro e w2 ⟨rfl, bel⟩
    have B2 := hide (below_on (unhide B1) bel)
    have X2 := hide ((unhide X1).bel bel)
    clear bel c0 c1
    go_wp2_with fail
    refine (unhide CP _).mono ?_
    rintro e w3 ⟨X, rfl, xin, hxr, hxt, bel⟩
    rw [SetV.val]
    simp only
    have HS := hide (same_bare (X := X) (s := s) hxr hxt)
    have XIN := hide xin
    have B3 := hide (below_on (unhide B2) bel)
    have X3 := hide ((unhide X2).bel bel)
    obtain ⟨c0, c1⟩ := unhide X3
    have hlt := World.block_lt_of_cell? w3 _ c0
    simp only at hlt
    have hne : w.heap.size ≠ w3.heap.size := Nat.ne_of_lt hlt
    clear bel xin hxr hxt
    go_wp2_with fail
    refine (unhide CS _ X (set_bel (unhide XIN) ((Below.refl _ _).alloc (Nat.le_refl _) _)) (set_bel (unhide HIN) ((unhide B3).alloc (unhide B3).size _)) (unhide HS)).mono ?_
    rintro e w4 ⟨rfl, bel⟩
    have B4 := hide (((unhide B3).alloc (unhide B3).size _).trans (bel.mono (by have := (unhide B3).size; simp; omega)))
    clear bel c0 c1
    go_wp2_with fail
    refine (unhide CK _).mono ?_
    rintro e w5 ⟨rfl, bel⟩
    have B5 := hide (below_on (unhide B4) bel)
    clear bel
    go_wp2
    go_ret
    exact ⟨rfl, unhide B5⟩
end Go.Proofs.Ytfpaigcbjpolhaa.Lex
