/- The law of chapter 5 of what may not be, way by way, over what package task answers. -/
import Derived.Test.YtgccemnddambeaaTaskKnown
namespace Go.Proofs.Ytgccemnddambeaa.Lex
open Go.ChangeShapes Go.WideShapes Go.RowKit

theorem odd_each {l : List Int} (h : ∀ n ∈ l, -10 ≤ n ∧ n ≤ 10) : ∀ n ∈ l, I64 n := fun n hn => by
  have := h n hn; unfold I64; omega
theorem plain_a1 (g : Nat) : isB (plainT ⟨#[97]⟩ g 5) 1 = true := by
  have key : ∀ ao, isB ⟨⟨#[97]⟩, 5, 5, 0, 0, 0, ao, 2, 0, 0, [2, 1]⟩ 1 = isB ⟨⟨#[97]⟩, 5, 5, 0, 0, 0, none, 2, 0, 0, [2, 1]⟩ 1 := fun _ => rfl
  rw [plainT, key]; decide +kernel
theorem plain_b1 (g : Nat) : isB (plainT ⟨#[98]⟩ g 5) 1 = true := by
  have key : ∀ ao, isB ⟨⟨#[98]⟩, 5, 5, 0, 0, 0, ao, 2, 0, 0, [2, 1]⟩ 1 = isB ⟨⟨#[98]⟩, 5, 5, 0, 0, 0, none, 2, 0, 0, [2, 1]⟩ 1 := fun _ => rfl
  rw [plainT, key]; decide +kernel
def pairS (s : ByteArray) (g : Nat) (s' : ByteArray) (g' : Nat) (b : Nat) : SetV := ⟨0, some ⟨b, 0, none⟩, 2, [plainT s g 5, plainT s' g' 5]⟩
theorem pair_all (s : ByteArray) (g : Nat) (s' : ByteArray) (g' : Nat) (b : Nat) : allB (pairS s g s' g' b) = (isB (plainT s g 5) 0 && (isB (plainT s' g' 5) 1 && !(s.data.toList == s'.data.toList))) := by
  show (inB 0 0 10000 && (decide (1 ≤ 2) && (decide (2 ≤ 8) && ((List.range 2).all (okAt [plainT s g 5, plainT s' g' 5]))))) = _
  have : (List.range 2).all (okAt [plainT s g 5, plainT s' g' 5]) = (okAt [plainT s g 5, plainT s' g' 5] 0 && (okAt [plainT s g 5, plainT s' g' 5] 1 && true)) := rfl
  rw [this]
  have h0 : okAt [plainT s g 5, plainT s' g' 5] 0 = (isB (plainT s g 5) 0 && true) := rfl
  have h1 : okAt [plainT s g 5, plainT s' g' 5] 1 = (isB (plainT s' g' 5) 1 && (!(s.data.toList == s'.data.toList) && true)) := rfl
  rw [h0, h1]
  simp [inB]
theorem pair_aa (g g' b : Nat) : allB (pairS ⟨#[97]⟩ g ⟨#[97]⟩ g' b) = false := by
  rw [pair_all]; simp
theorem pair_ab (g g' b : Nat) : allB (pairS ⟨#[97]⟩ g ⟨#[98]⟩ g' b) = true := by
  rw [pair_all, plain_is, plain_b1]; rfl
theorem pair_in {w : World} {s s' : ByteArray} {g g' : Nat} (ty : TypeId) (h : TaskIn w (plainT s g 5)) (h' : TaskIn w (plainT s' g' 5)) :
    SetIn (w.alloc (.cells #[.string s, .int .i64 5, .int .i64 5, .int .i64 0, .int .i64 0, .int .i64 0, .slice (some ⟨g, 0, none⟩) 2 2, .int .u64 0, .int .u64 0, .string s', .int .i64 5, .int .i64 5, .int .i64 0, .int .i64 0, .int .i64 0, .slice (some ⟨g', 0, none⟩) 2 2, .int .u64 0, .int .u64 0] ty)) (pairS s g s' g' w.heap.size) :=
  ⟨by simp [I64, pairS], (fun e => by cases e), by simp [pairS], by simp [pairS], fun _ => ⟨w.heap.size, 0, rfl, fun j hj i hi => by
      have hj' : j = 0 ∨ j = 1 := by simp [pairS] at hj; omega
      have hi' : i = 0 ∨ i = 1 ∨ i = 2 ∨ i = 3 ∨ i = 4 ∨ i = 5 ∨ i = 6 ∨ i = 7 ∨ i = 8 := by omega
      rcases hj' with rfl | rfl <;> rcases hi' with rfl | rfl | rfl | rfl | rfl | rfl | rfl | rfl | rfl <;> simp [pairS, plainT, TaskV.cells]⟩, fun t ht => by
      have : t = plainT s g 5 ∨ t = plainT s' g' 5 := by simpa [pairS] using ht
      rcases this with rfl | rfl
      · exact task_bel h ((Below.refl _ _).alloc (Nat.le_refl _) _)
      · exact task_bel h' ((Below.refl _ _).alloc (Nat.le_refl _) _)⟩
def noneS : SetV := ⟨0, none, 0, []⟩
theorem none_not : allB noneS = false := rfl
theorem none_in {w : World} : SetIn w noneS := ⟨by simp [I64, noneS], fun _ => ⟨rfl, rfl⟩, by simp [noneS], by simp [noneS], fun h => absurd rfl h, fun t ht => by simp [noneS] at ht⟩
def oddT0 (g : Nat) : TaskV := ⟨⟨#[116, 97, 115, 107]⟩, 5, 5, 0, 0, 0, some ⟨g, 0, none⟩, 2, 0, 0, [2, 1]⟩
theorem odd0_not (g : Nat) : isB (oddT0 g) 1 = false := by
  have key : ∀ ao, isB ⟨⟨#[116, 97, 115, 107]⟩, 5, 5, 0, 0, 0, ao, 2, 0, 0, [2, 1]⟩ 1 = isB ⟨⟨#[116, 97, 115, 107]⟩, 5, 5, 0, 0, 0, none, 2, 0, 0, [2, 1]⟩ 1 := fun _ => rfl
  rw [oddT0, key]; decide +kernel
theorem odd0_in {w : World} (g : Nat) (h : RegsIn w (some ⟨g, 0, none⟩) [2, 1]) : TaskIn w (oddT0 g) :=
  ⟨h, (fun e => by cases e), by simp [oddT0], by simp [oddT0]; decide, by simp [I64, oddT0], by simp [I64, oddT0], by simp [I64, oddT0], by simp [I64, oddT0], by simp [I64, oddT0], by simp [U64, oddT0], by simp [U64, oddT0], fun n hn => odd_each (l := [2, 1]) (by decide) n hn⟩
set_option maxHeartbeats 3200000 in
theorem odd_way0 (hI : CIs) (hK : CWork) (hA : CAll) (w : World) : Calls Try.prog 6 #[.int .i64 0] w fun e w' => e = .returned (.bool true) ∧ Below w.heap.size w w' := by
  have CP := hide (fun w => plain_any ⟨#[97]⟩ w (by decide))
  have CP' := hide (fun w => plain_any ⟨#[98]⟩ w (by decide))
  have CK := hide (fun w => tknown_any hI hK w)
  have HI := hide hI
  have HA := hide hA
  clear hI hK hA
  go_enter Try.func6, Try.ntmps6
  go_wp2_with fail
  refine (unhide CP _).mono ?_
  rintro e w1 ⟨g, rfl, hin, bel⟩
  rw [TaskV.val, TaskV.cells, plainT]
  simp only [List.length_cons, List.length_nil]
  have B1 := hide bel
  have IN1 := hide hin
  clear bel hin
  go_wp2_with fail
  have INW : TaskIn (w1.alloc (.cells #[.string ⟨#[116, 97, 115, 107]⟩, .int .i64 5, .int .i64 5, .int .i64 0, .int .i64 0, .int .i64 0, .slice (some ⟨g, 0, none⟩) 2 2, .int .u64 0, .int .u64 0] 25)) (oddT0 g) := odd0_in g (regs_bel (unhide IN1).regs ((Below.refl _ _).alloc (Nat.le_refl _) _))
  refine (unhide HI (oddT0 g) 1 (w1.alloc (.cells #[.string ⟨#[116, 97, 115, 107]⟩, .int .i64 5, .int .i64 5, .int .i64 0, .int .i64 0, .int .i64 0, .slice (some ⟨g, 0, none⟩) 2 2, .int .u64 0, .int .u64 0] 25)) INW (by simp [I64])).mono ?_
  rintro e w2 ⟨rfl, bel⟩
  rw [odd0_not]
  have B2 := hide (below_on ((unhide B1).alloc (unhide B1).size _) bel)
  clear bel INW
  go_wp2_with fail
  refine (unhide CP _).mono ?_
  rintro e w3 ⟨g3, rfl, hin, bel⟩
  rw [TaskV.val, TaskV.cells, plainT]
  simp only [List.length_cons, List.length_nil]
  have B3 := hide (below_on (unhide B2) bel)
  have IN3 := hide hin
  clear bel hin
  go_wp2_with fail
  refine (unhide HI (plainT ⟨#[97]⟩ g3 5) 1 _ (unhide IN3) (by simp [I64])).mono ?_
  rintro e w4 ⟨rfl, bel⟩
  rw [plain_a1]
  have B4 := hide (below_on (unhide B3) bel)
  clear bel
  go_wp2_with fail
  refine (unhide CP _).mono ?_
  rintro e w5 ⟨g5, rfl, hin, bel⟩
  rw [TaskV.val, TaskV.cells, plainT]
  simp only [List.length_cons, List.length_nil]
  have B5 := hide (below_on (unhide B4) bel)
  have IN5 := hide hin
  clear bel hin
  go_wp2_with fail
  refine (unhide CP _).mono ?_
  rintro e w6 ⟨g6, rfl, hin, bel⟩
  rw [TaskV.val, TaskV.cells, plainT]
  simp only [List.length_cons, List.length_nil]
  have B6 := hide (below_on (unhide B5) bel)
  have IN5' := hide (task_bel (unhide IN5) bel)
  have IN6 := hide hin
  clear bel hin
  go_wp2_with fail
  refine (unhide HA (pairS ⟨#[97]⟩ g5 ⟨#[97]⟩ g6 w6.heap.size) _ (pair_in 25 (unhide IN5') (unhide IN6)) (by simp [pairS])).mono ?_
  rintro e w7 ⟨rfl, bel⟩
  rw [pair_aa]
  have B7 := hide (below_on ((unhide B6).alloc (unhide B6).size _) bel)
  clear bel
  go_wp2_with fail
  refine (unhide CP _).mono ?_
  rintro e w8 ⟨g8, rfl, hin, bel⟩
  rw [TaskV.val, TaskV.cells, plainT]
  simp only [List.length_cons, List.length_nil]
  have B8 := hide (below_on (unhide B7) bel)
  have IN8 := hide hin
  clear bel hin
  go_wp2_with fail
  refine (unhide CP' _).mono ?_
  rintro e w9 ⟨g9, rfl, hin, bel⟩
  rw [TaskV.val, TaskV.cells, plainT]
  simp only [List.length_cons, List.length_nil]
  have B9 := hide (below_on (unhide B8) bel)
  have IN8' := hide (task_bel (unhide IN8) bel)
  have IN9 := hide hin
  clear bel hin
  go_wp2_with fail
  refine (unhide HA (pairS ⟨#[97]⟩ g8 ⟨#[98]⟩ g9 w9.heap.size) _ (pair_in 25 (unhide IN8') (unhide IN9)) (by simp [pairS])).mono ?_
  rintro e w10 ⟨rfl, bel⟩
  rw [pair_ab]
  have B10 := hide (below_on ((unhide B9).alloc (unhide B9).size _) bel)
  clear bel
  go_wp2_with fail
  refine (unhide HA noneS _ none_in (by simp [noneS])).mono ?_
  rintro e w11 ⟨rfl, bel⟩
  rw [none_not]
  have B11 := hide (below_on (unhide B10) bel)
  clear bel
  go_wp2_with fail
  refine (unhide CK _).mono ?_
  rintro e w12 ⟨rfl, bel⟩
  have B12 := hide (below_on (unhide B11) bel)
  clear bel
  go_wp2
  go_ret
  exact ⟨rfl, unhide B12⟩
def oddT1 (_ : Nat) : TaskV := ⟨⟨#[97]⟩, 5, 5, 0, 0, 0, none, 0, 0, 0, []⟩
theorem odd1_not (g : Nat) : isB (oddT1 g) 1 = false := by
  have key : ∀ ao, isB ⟨⟨#[97]⟩, 5, 5, 0, 0, 0, ao, 0, 0, 0, []⟩ 1 = isB ⟨⟨#[97]⟩, 5, 5, 0, 0, 0, none, 0, 0, 0, []⟩ 1 := fun _ => rfl
  rw [oddT1, key]; decide +kernel
theorem odd1_in {w : World} (g : Nat)  : TaskIn w (oddT1 g) :=
  ⟨fun h => absurd rfl h, (fun _ => ⟨rfl, rfl⟩), by simp [oddT1], by simp [oddT1]; decide, by simp [I64, oddT1], by simp [I64, oddT1], by simp [I64, oddT1], by simp [I64, oddT1], by simp [I64, oddT1], by simp [U64, oddT1], by simp [U64, oddT1], fun n hn => by simp [oddT1] at hn⟩
set_option maxHeartbeats 3200000 in
theorem odd_way1 (hI : CIs) (hK : CWork) (hA : CAll) (w : World) : Calls Try.prog 6 #[.int .i64 1] w fun e w' => e = .returned (.bool true) ∧ Below w.heap.size w w' := by
  have CP := hide (fun w => plain_any ⟨#[97]⟩ w (by decide))
  have CP' := hide (fun w => plain_any ⟨#[98]⟩ w (by decide))
  have CK := hide (fun w => tknown_any hI hK w)
  have HI := hide hI
  have HA := hide hA
  clear hI hK hA
  go_enter Try.func6, Try.ntmps6
  go_wp2_with fail
  refine (unhide CP _).mono ?_
  rintro e w1 ⟨g, rfl, hin, bel⟩
  rw [TaskV.val, TaskV.cells, plainT]
  simp only [List.length_cons, List.length_nil]
  have B1 := hide bel
  have IN1 := hide hin
  clear bel hin
  go_wp2_with fail
  have INW : TaskIn (w1.alloc (.cells #[.string ⟨#[97]⟩, .int .i64 5, .int .i64 5, .int .i64 0, .int .i64 0, .int .i64 0, .slice (none) 0 0, .int .u64 0, .int .u64 0] 25)) (oddT1 g) := odd1_in g
  refine (unhide HI (oddT1 g) 1 (w1.alloc (.cells #[.string ⟨#[97]⟩, .int .i64 5, .int .i64 5, .int .i64 0, .int .i64 0, .int .i64 0, .slice (none) 0 0, .int .u64 0, .int .u64 0] 25)) INW (by simp [I64])).mono ?_
  rintro e w2 ⟨rfl, bel⟩
  rw [odd1_not]
  have B2 := hide (below_on ((unhide B1).alloc (unhide B1).size _) bel)
  clear bel INW
  go_wp2_with fail
  refine (unhide CP _).mono ?_
  rintro e w3 ⟨g3, rfl, hin, bel⟩
  rw [TaskV.val, TaskV.cells, plainT]
  simp only [List.length_cons, List.length_nil]
  have B3 := hide (below_on (unhide B2) bel)
  have IN3 := hide hin
  clear bel hin
  go_wp2_with fail
  refine (unhide HI (plainT ⟨#[97]⟩ g3 5) 1 _ (unhide IN3) (by simp [I64])).mono ?_
  rintro e w4 ⟨rfl, bel⟩
  rw [plain_a1]
  have B4 := hide (below_on (unhide B3) bel)
  clear bel
  go_wp2_with fail
  refine (unhide CP _).mono ?_
  rintro e w5 ⟨g5, rfl, hin, bel⟩
  rw [TaskV.val, TaskV.cells, plainT]
  simp only [List.length_cons, List.length_nil]
  have B5 := hide (below_on (unhide B4) bel)
  have IN5 := hide hin
  clear bel hin
  go_wp2_with fail
  refine (unhide CP _).mono ?_
  rintro e w6 ⟨g6, rfl, hin, bel⟩
  rw [TaskV.val, TaskV.cells, plainT]
  simp only [List.length_cons, List.length_nil]
  have B6 := hide (below_on (unhide B5) bel)
  have IN5' := hide (task_bel (unhide IN5) bel)
  have IN6 := hide hin
  clear bel hin
  go_wp2_with fail
  refine (unhide HA (pairS ⟨#[97]⟩ g5 ⟨#[97]⟩ g6 w6.heap.size) _ (pair_in 25 (unhide IN5') (unhide IN6)) (by simp [pairS])).mono ?_
  rintro e w7 ⟨rfl, bel⟩
  rw [pair_aa]
  have B7 := hide (below_on ((unhide B6).alloc (unhide B6).size _) bel)
  clear bel
  go_wp2_with fail
  refine (unhide CP _).mono ?_
  rintro e w8 ⟨g8, rfl, hin, bel⟩
  rw [TaskV.val, TaskV.cells, plainT]
  simp only [List.length_cons, List.length_nil]
  have B8 := hide (below_on (unhide B7) bel)
  have IN8 := hide hin
  clear bel hin
  go_wp2_with fail
  refine (unhide CP' _).mono ?_
  rintro e w9 ⟨g9, rfl, hin, bel⟩
  rw [TaskV.val, TaskV.cells, plainT]
  simp only [List.length_cons, List.length_nil]
  have B9 := hide (below_on (unhide B8) bel)
  have IN8' := hide (task_bel (unhide IN8) bel)
  have IN9 := hide hin
  clear bel hin
  go_wp2_with fail
  refine (unhide HA (pairS ⟨#[97]⟩ g8 ⟨#[98]⟩ g9 w9.heap.size) _ (pair_in 25 (unhide IN8') (unhide IN9)) (by simp [pairS])).mono ?_
  rintro e w10 ⟨rfl, bel⟩
  rw [pair_ab]
  have B10 := hide (below_on ((unhide B9).alloc (unhide B9).size _) bel)
  clear bel
  go_wp2_with fail
  refine (unhide HA noneS _ none_in (by simp [noneS])).mono ?_
  rintro e w11 ⟨rfl, bel⟩
  rw [none_not]
  have B11 := hide (below_on (unhide B10) bel)
  clear bel
  go_wp2_with fail
  refine (unhide CK _).mono ?_
  rintro e w12 ⟨rfl, bel⟩
  have B12 := hide (below_on (unhide B11) bel)
  clear bel
  go_wp2
  go_ret
  exact ⟨rfl, unhide B12⟩
def oddT2 (g : Nat) : TaskV := ⟨⟨#[97]⟩, 5, 5, 0, 0, 0, some ⟨g, 0, none⟩, 2, 0, 0, [0, 1]⟩
theorem odd2_not (g : Nat) : isB (oddT2 g) 1 = false := by
  have key : ∀ ao, isB ⟨⟨#[97]⟩, 5, 5, 0, 0, 0, ao, 2, 0, 0, [0, 1]⟩ 1 = isB ⟨⟨#[97]⟩, 5, 5, 0, 0, 0, none, 2, 0, 0, [0, 1]⟩ 1 := fun _ => rfl
  rw [oddT2, key]; decide +kernel
theorem odd2_in {w : World} (g : Nat) (h : ∀ j, j < ([0, 1] : List Int).length → w.cell? ⟨g, 0 + j, none⟩ = some (.int .i64 (([0, 1] : List Int).getD j 0))) : TaskIn w (oddT2 g) :=
  ⟨fun _ => ⟨g, 0, rfl, fun j hj => h j hj⟩, (fun e => by cases e), by simp [oddT2], by simp [oddT2]; decide, by simp [I64, oddT2], by simp [I64, oddT2], by simp [I64, oddT2], by simp [I64, oddT2], by simp [I64, oddT2], by simp [U64, oddT2], by simp [U64, oddT2], fun n hn => odd_each (l := [0, 1]) (by decide) n hn⟩
set_option maxHeartbeats 3200000 in
theorem odd_way2 (hI : CIs) (hK : CWork) (hA : CAll) (w : World) : Calls Try.prog 6 #[.int .i64 2] w fun e w' => e = .returned (.bool true) ∧ Below w.heap.size w w' := by
  have CP := hide (fun w => plain_any ⟨#[97]⟩ w (by decide))
  have CP' := hide (fun w => plain_any ⟨#[98]⟩ w (by decide))
  have CK := hide (fun w => tknown_any hI hK w)
  have HI := hide hI
  have HA := hide hA
  clear hI hK hA
  go_enter Try.func6, Try.ntmps6
  go_wp2_with fail
  refine (unhide CP _).mono ?_
  rintro e w1 ⟨g, rfl, hin, bel⟩
  rw [TaskV.val, TaskV.cells, plainT]
  simp only [List.length_cons, List.length_nil]
  have B1 := hide bel
  have IN1 := hide hin
  clear bel hin
  go_wp2_with fail
  have INW : TaskIn ((w1.alloc (.cells #[.string ⟨#[97]⟩, .int .i64 5, .int .i64 5, .int .i64 0, .int .i64 0, .int .i64 0, .slice (some ⟨w1.heap.size + 1, 0, none⟩) 2 2, .int .u64 0, .int .u64 0] 25)).alloc (.cells #[.int .i64 0, .int .i64 1] 2)) (oddT2 (w1.heap.size + 1)) := odd2_in (w1.heap.size + 1) (fun j hj => by
    have : j = 0 ∨ j = 1 := by simp at hj; omega
    rcases this with rfl | rfl <;> simp)
  refine (unhide HI (oddT2 (w1.heap.size + 1)) 1 ((w1.alloc (.cells #[.string ⟨#[97]⟩, .int .i64 5, .int .i64 5, .int .i64 0, .int .i64 0, .int .i64 0, .slice (some ⟨w1.heap.size + 1, 0, none⟩) 2 2, .int .u64 0, .int .u64 0] 25)).alloc (.cells #[.int .i64 0, .int .i64 1] 2)) INW (by simp [I64])).mono ?_
  rintro e w2 ⟨rfl, bel⟩
  rw [odd2_not]
  have B2 := hide (below_on ((((unhide B1).alloc (unhide B1).size _).alloc (by have := (unhide B1).size; simp; omega) _)) bel)
  clear bel INW
  go_wp2_with fail
  refine (unhide CP _).mono ?_
  rintro e w3 ⟨g3, rfl, hin, bel⟩
  rw [TaskV.val, TaskV.cells, plainT]
  simp only [List.length_cons, List.length_nil]
  have B3 := hide (below_on (unhide B2) bel)
  have IN3 := hide hin
  clear bel hin
  go_wp2_with fail
  refine (unhide HI (plainT ⟨#[97]⟩ g3 5) 1 _ (unhide IN3) (by simp [I64])).mono ?_
  rintro e w4 ⟨rfl, bel⟩
  rw [plain_a1]
  have B4 := hide (below_on (unhide B3) bel)
  clear bel
  go_wp2_with fail
  refine (unhide CP _).mono ?_
  rintro e w5 ⟨g5, rfl, hin, bel⟩
  rw [TaskV.val, TaskV.cells, plainT]
  simp only [List.length_cons, List.length_nil]
  have B5 := hide (below_on (unhide B4) bel)
  have IN5 := hide hin
  clear bel hin
  go_wp2_with fail
  refine (unhide CP _).mono ?_
  rintro e w6 ⟨g6, rfl, hin, bel⟩
  rw [TaskV.val, TaskV.cells, plainT]
  simp only [List.length_cons, List.length_nil]
  have B6 := hide (below_on (unhide B5) bel)
  have IN5' := hide (task_bel (unhide IN5) bel)
  have IN6 := hide hin
  clear bel hin
  go_wp2_with fail
  refine (unhide HA (pairS ⟨#[97]⟩ g5 ⟨#[97]⟩ g6 w6.heap.size) _ (pair_in 25 (unhide IN5') (unhide IN6)) (by simp [pairS])).mono ?_
  rintro e w7 ⟨rfl, bel⟩
  rw [pair_aa]
  have B7 := hide (below_on ((unhide B6).alloc (unhide B6).size _) bel)
  clear bel
  go_wp2_with fail
  refine (unhide CP _).mono ?_
  rintro e w8 ⟨g8, rfl, hin, bel⟩
  rw [TaskV.val, TaskV.cells, plainT]
  simp only [List.length_cons, List.length_nil]
  have B8 := hide (below_on (unhide B7) bel)
  have IN8 := hide hin
  clear bel hin
  go_wp2_with fail
  refine (unhide CP' _).mono ?_
  rintro e w9 ⟨g9, rfl, hin, bel⟩
  rw [TaskV.val, TaskV.cells, plainT]
  simp only [List.length_cons, List.length_nil]
  have B9 := hide (below_on (unhide B8) bel)
  have IN8' := hide (task_bel (unhide IN8) bel)
  have IN9 := hide hin
  clear bel hin
  go_wp2_with fail
  refine (unhide HA (pairS ⟨#[97]⟩ g8 ⟨#[98]⟩ g9 w9.heap.size) _ (pair_in 25 (unhide IN8') (unhide IN9)) (by simp [pairS])).mono ?_
  rintro e w10 ⟨rfl, bel⟩
  rw [pair_ab]
  have B10 := hide (below_on ((unhide B9).alloc (unhide B9).size _) bel)
  clear bel
  go_wp2_with fail
  refine (unhide HA noneS _ none_in (by simp [noneS])).mono ?_
  rintro e w11 ⟨rfl, bel⟩
  rw [none_not]
  have B11 := hide (below_on (unhide B10) bel)
  clear bel
  go_wp2_with fail
  refine (unhide CK _).mono ?_
  rintro e w12 ⟨rfl, bel⟩
  have B12 := hide (below_on (unhide B11) bel)
  clear bel
  go_wp2
  go_ret
  exact ⟨rfl, unhide B12⟩
def oddT3 (g : Nat) : TaskV := ⟨⟨#[97]⟩, 5, 6, 0, 0, 0, some ⟨g, 0, none⟩, 2, 0, 0, [2, 1]⟩
theorem odd3_not (g : Nat) : isB (oddT3 g) 1 = false := by
  have key : ∀ ao, isB ⟨⟨#[97]⟩, 5, 6, 0, 0, 0, ao, 2, 0, 0, [2, 1]⟩ 1 = isB ⟨⟨#[97]⟩, 5, 6, 0, 0, 0, none, 2, 0, 0, [2, 1]⟩ 1 := fun _ => rfl
  rw [oddT3, key]; decide +kernel
theorem odd3_in {w : World} (g : Nat) (h : RegsIn w (some ⟨g, 0, none⟩) [2, 1]) : TaskIn w (oddT3 g) :=
  ⟨h, (fun e => by cases e), by simp [oddT3], by simp [oddT3]; decide, by simp [I64, oddT3], by simp [I64, oddT3], by simp [I64, oddT3], by simp [I64, oddT3], by simp [I64, oddT3], by simp [U64, oddT3], by simp [U64, oddT3], fun n hn => odd_each (l := [2, 1]) (by decide) n hn⟩
set_option maxHeartbeats 3200000 in
theorem odd_way3 (hI : CIs) (hK : CWork) (hA : CAll) (w : World) : Calls Try.prog 6 #[.int .i64 3] w fun e w' => e = .returned (.bool true) ∧ Below w.heap.size w w' := by
  have CP := hide (fun w => plain_any ⟨#[97]⟩ w (by decide))
  have CP' := hide (fun w => plain_any ⟨#[98]⟩ w (by decide))
  have CK := hide (fun w => tknown_any hI hK w)
  have HI := hide hI
  have HA := hide hA
  clear hI hK hA
  go_enter Try.func6, Try.ntmps6
  go_wp2_with fail
  refine (unhide CP _).mono ?_
  rintro e w1 ⟨g, rfl, hin, bel⟩
  rw [TaskV.val, TaskV.cells, plainT]
  simp only [List.length_cons, List.length_nil]
  have B1 := hide bel
  have IN1 := hide hin
  clear bel hin
  go_wp2_with fail
  have INW : TaskIn (w1.alloc (.cells #[.string ⟨#[97]⟩, .int .i64 5, .int .i64 6, .int .i64 0, .int .i64 0, .int .i64 0, .slice (some ⟨g, 0, none⟩) 2 2, .int .u64 0, .int .u64 0] 25)) (oddT3 g) := odd3_in g (regs_bel (unhide IN1).regs ((Below.refl _ _).alloc (Nat.le_refl _) _))
  refine (unhide HI (oddT3 g) 1 (w1.alloc (.cells #[.string ⟨#[97]⟩, .int .i64 5, .int .i64 6, .int .i64 0, .int .i64 0, .int .i64 0, .slice (some ⟨g, 0, none⟩) 2 2, .int .u64 0, .int .u64 0] 25)) INW (by simp [I64])).mono ?_
  rintro e w2 ⟨rfl, bel⟩
  rw [odd3_not]
  have B2 := hide (below_on ((unhide B1).alloc (unhide B1).size _) bel)
  clear bel INW
  go_wp2_with fail
  refine (unhide CP _).mono ?_
  rintro e w3 ⟨g3, rfl, hin, bel⟩
  rw [TaskV.val, TaskV.cells, plainT]
  simp only [List.length_cons, List.length_nil]
  have B3 := hide (below_on (unhide B2) bel)
  have IN3 := hide hin
  clear bel hin
  go_wp2_with fail
  refine (unhide HI (plainT ⟨#[97]⟩ g3 5) 1 _ (unhide IN3) (by simp [I64])).mono ?_
  rintro e w4 ⟨rfl, bel⟩
  rw [plain_a1]
  have B4 := hide (below_on (unhide B3) bel)
  clear bel
  go_wp2_with fail
  refine (unhide CP _).mono ?_
  rintro e w5 ⟨g5, rfl, hin, bel⟩
  rw [TaskV.val, TaskV.cells, plainT]
  simp only [List.length_cons, List.length_nil]
  have B5 := hide (below_on (unhide B4) bel)
  have IN5 := hide hin
  clear bel hin
  go_wp2_with fail
  refine (unhide CP _).mono ?_
  rintro e w6 ⟨g6, rfl, hin, bel⟩
  rw [TaskV.val, TaskV.cells, plainT]
  simp only [List.length_cons, List.length_nil]
  have B6 := hide (below_on (unhide B5) bel)
  have IN5' := hide (task_bel (unhide IN5) bel)
  have IN6 := hide hin
  clear bel hin
  go_wp2_with fail
  refine (unhide HA (pairS ⟨#[97]⟩ g5 ⟨#[97]⟩ g6 w6.heap.size) _ (pair_in 25 (unhide IN5') (unhide IN6)) (by simp [pairS])).mono ?_
  rintro e w7 ⟨rfl, bel⟩
  rw [pair_aa]
  have B7 := hide (below_on ((unhide B6).alloc (unhide B6).size _) bel)
  clear bel
  go_wp2_with fail
  refine (unhide CP _).mono ?_
  rintro e w8 ⟨g8, rfl, hin, bel⟩
  rw [TaskV.val, TaskV.cells, plainT]
  simp only [List.length_cons, List.length_nil]
  have B8 := hide (below_on (unhide B7) bel)
  have IN8 := hide hin
  clear bel hin
  go_wp2_with fail
  refine (unhide CP' _).mono ?_
  rintro e w9 ⟨g9, rfl, hin, bel⟩
  rw [TaskV.val, TaskV.cells, plainT]
  simp only [List.length_cons, List.length_nil]
  have B9 := hide (below_on (unhide B8) bel)
  have IN8' := hide (task_bel (unhide IN8) bel)
  have IN9 := hide hin
  clear bel hin
  go_wp2_with fail
  refine (unhide HA (pairS ⟨#[97]⟩ g8 ⟨#[98]⟩ g9 w9.heap.size) _ (pair_in 25 (unhide IN8') (unhide IN9)) (by simp [pairS])).mono ?_
  rintro e w10 ⟨rfl, bel⟩
  rw [pair_ab]
  have B10 := hide (below_on ((unhide B9).alloc (unhide B9).size _) bel)
  clear bel
  go_wp2_with fail
  refine (unhide HA noneS _ none_in (by simp [noneS])).mono ?_
  rintro e w11 ⟨rfl, bel⟩
  rw [none_not]
  have B11 := hide (below_on (unhide B10) bel)
  clear bel
  go_wp2_with fail
  refine (unhide CK _).mono ?_
  rintro e w12 ⟨rfl, bel⟩
  have B12 := hide (below_on (unhide B11) bel)
  clear bel
  go_wp2
  go_ret
  exact ⟨rfl, unhide B12⟩
def oddT4 (g : Nat) : TaskV := ⟨⟨#[97]⟩, 5, 5, 0, 1, 0, some ⟨g, 0, none⟩, 2, 0, 0, [2, 1]⟩
theorem odd4_not (g : Nat) : isB (oddT4 g) 1 = false := by
  have key : ∀ ao, isB ⟨⟨#[97]⟩, 5, 5, 0, 1, 0, ao, 2, 0, 0, [2, 1]⟩ 1 = isB ⟨⟨#[97]⟩, 5, 5, 0, 1, 0, none, 2, 0, 0, [2, 1]⟩ 1 := fun _ => rfl
  rw [oddT4, key]; decide +kernel
theorem odd4_in {w : World} (g : Nat) (h : RegsIn w (some ⟨g, 0, none⟩) [2, 1]) : TaskIn w (oddT4 g) :=
  ⟨h, (fun e => by cases e), by simp [oddT4], by simp [oddT4]; decide, by simp [I64, oddT4], by simp [I64, oddT4], by simp [I64, oddT4], by simp [I64, oddT4], by simp [I64, oddT4], by simp [U64, oddT4], by simp [U64, oddT4], fun n hn => odd_each (l := [2, 1]) (by decide) n hn⟩
set_option maxHeartbeats 3200000 in
theorem odd_way4 (hI : CIs) (hK : CWork) (hA : CAll) (w : World) : Calls Try.prog 6 #[.int .i64 4] w fun e w' => e = .returned (.bool true) ∧ Below w.heap.size w w' := by
  have CP := hide (fun w => plain_any ⟨#[97]⟩ w (by decide))
  have CP' := hide (fun w => plain_any ⟨#[98]⟩ w (by decide))
  have CK := hide (fun w => tknown_any hI hK w)
  have HI := hide hI
  have HA := hide hA
  clear hI hK hA
  go_enter Try.func6, Try.ntmps6
  go_wp2_with fail
  refine (unhide CP _).mono ?_
  rintro e w1 ⟨g, rfl, hin, bel⟩
  rw [TaskV.val, TaskV.cells, plainT]
  simp only [List.length_cons, List.length_nil]
  have B1 := hide bel
  have IN1 := hide hin
  clear bel hin
  go_wp2_with fail
  have INW : TaskIn (w1.alloc (.cells #[.string ⟨#[97]⟩, .int .i64 5, .int .i64 5, .int .i64 0, .int .i64 1, .int .i64 0, .slice (some ⟨g, 0, none⟩) 2 2, .int .u64 0, .int .u64 0] 25)) (oddT4 g) := odd4_in g (regs_bel (unhide IN1).regs ((Below.refl _ _).alloc (Nat.le_refl _) _))
  refine (unhide HI (oddT4 g) 1 (w1.alloc (.cells #[.string ⟨#[97]⟩, .int .i64 5, .int .i64 5, .int .i64 0, .int .i64 1, .int .i64 0, .slice (some ⟨g, 0, none⟩) 2 2, .int .u64 0, .int .u64 0] 25)) INW (by simp [I64])).mono ?_
  rintro e w2 ⟨rfl, bel⟩
  rw [odd4_not]
  have B2 := hide (below_on ((unhide B1).alloc (unhide B1).size _) bel)
  clear bel INW
  go_wp2_with fail
  refine (unhide CP _).mono ?_
  rintro e w3 ⟨g3, rfl, hin, bel⟩
  rw [TaskV.val, TaskV.cells, plainT]
  simp only [List.length_cons, List.length_nil]
  have B3 := hide (below_on (unhide B2) bel)
  have IN3 := hide hin
  clear bel hin
  go_wp2_with fail
  refine (unhide HI (plainT ⟨#[97]⟩ g3 5) 1 _ (unhide IN3) (by simp [I64])).mono ?_
  rintro e w4 ⟨rfl, bel⟩
  rw [plain_a1]
  have B4 := hide (below_on (unhide B3) bel)
  clear bel
  go_wp2_with fail
  refine (unhide CP _).mono ?_
  rintro e w5 ⟨g5, rfl, hin, bel⟩
  rw [TaskV.val, TaskV.cells, plainT]
  simp only [List.length_cons, List.length_nil]
  have B5 := hide (below_on (unhide B4) bel)
  have IN5 := hide hin
  clear bel hin
  go_wp2_with fail
  refine (unhide CP _).mono ?_
  rintro e w6 ⟨g6, rfl, hin, bel⟩
  rw [TaskV.val, TaskV.cells, plainT]
  simp only [List.length_cons, List.length_nil]
  have B6 := hide (below_on (unhide B5) bel)
  have IN5' := hide (task_bel (unhide IN5) bel)
  have IN6 := hide hin
  clear bel hin
  go_wp2_with fail
  refine (unhide HA (pairS ⟨#[97]⟩ g5 ⟨#[97]⟩ g6 w6.heap.size) _ (pair_in 25 (unhide IN5') (unhide IN6)) (by simp [pairS])).mono ?_
  rintro e w7 ⟨rfl, bel⟩
  rw [pair_aa]
  have B7 := hide (below_on ((unhide B6).alloc (unhide B6).size _) bel)
  clear bel
  go_wp2_with fail
  refine (unhide CP _).mono ?_
  rintro e w8 ⟨g8, rfl, hin, bel⟩
  rw [TaskV.val, TaskV.cells, plainT]
  simp only [List.length_cons, List.length_nil]
  have B8 := hide (below_on (unhide B7) bel)
  have IN8 := hide hin
  clear bel hin
  go_wp2_with fail
  refine (unhide CP' _).mono ?_
  rintro e w9 ⟨g9, rfl, hin, bel⟩
  rw [TaskV.val, TaskV.cells, plainT]
  simp only [List.length_cons, List.length_nil]
  have B9 := hide (below_on (unhide B8) bel)
  have IN8' := hide (task_bel (unhide IN8) bel)
  have IN9 := hide hin
  clear bel hin
  go_wp2_with fail
  refine (unhide HA (pairS ⟨#[97]⟩ g8 ⟨#[98]⟩ g9 w9.heap.size) _ (pair_in 25 (unhide IN8') (unhide IN9)) (by simp [pairS])).mono ?_
  rintro e w10 ⟨rfl, bel⟩
  rw [pair_ab]
  have B10 := hide (below_on ((unhide B9).alloc (unhide B9).size _) bel)
  clear bel
  go_wp2_with fail
  refine (unhide HA noneS _ none_in (by simp [noneS])).mono ?_
  rintro e w11 ⟨rfl, bel⟩
  rw [none_not]
  have B11 := hide (below_on (unhide B10) bel)
  clear bel
  go_wp2_with fail
  refine (unhide CK _).mono ?_
  rintro e w12 ⟨rfl, bel⟩
  have B12 := hide (below_on (unhide B11) bel)
  clear bel
  go_wp2
  go_ret
  exact ⟨rfl, unhide B12⟩
def oddT5 (g : Nat) : TaskV := ⟨⟨#[97]⟩, 5, 5, 0, 0, 1, some ⟨g, 0, none⟩, 2, 0, 0, [2, 1]⟩
theorem odd5_not (g : Nat) : isB (oddT5 g) 1 = false := by
  have key : ∀ ao, isB ⟨⟨#[97]⟩, 5, 5, 0, 0, 1, ao, 2, 0, 0, [2, 1]⟩ 1 = isB ⟨⟨#[97]⟩, 5, 5, 0, 0, 1, none, 2, 0, 0, [2, 1]⟩ 1 := fun _ => rfl
  rw [oddT5, key]; decide +kernel
theorem odd5_in {w : World} (g : Nat) (h : RegsIn w (some ⟨g, 0, none⟩) [2, 1]) : TaskIn w (oddT5 g) :=
  ⟨h, (fun e => by cases e), by simp [oddT5], by simp [oddT5]; decide, by simp [I64, oddT5], by simp [I64, oddT5], by simp [I64, oddT5], by simp [I64, oddT5], by simp [I64, oddT5], by simp [U64, oddT5], by simp [U64, oddT5], fun n hn => odd_each (l := [2, 1]) (by decide) n hn⟩
set_option maxHeartbeats 3200000 in
theorem odd_way5 (hI : CIs) (hK : CWork) (hA : CAll) (w : World) : Calls Try.prog 6 #[.int .i64 5] w fun e w' => e = .returned (.bool true) ∧ Below w.heap.size w w' := by
  have CP := hide (fun w => plain_any ⟨#[97]⟩ w (by decide))
  have CP' := hide (fun w => plain_any ⟨#[98]⟩ w (by decide))
  have CK := hide (fun w => tknown_any hI hK w)
  have HI := hide hI
  have HA := hide hA
  clear hI hK hA
  go_enter Try.func6, Try.ntmps6
  go_wp2_with fail
  refine (unhide CP _).mono ?_
  rintro e w1 ⟨g, rfl, hin, bel⟩
  rw [TaskV.val, TaskV.cells, plainT]
  simp only [List.length_cons, List.length_nil]
  have B1 := hide bel
  have IN1 := hide hin
  clear bel hin
  go_wp2_with fail
  have INW : TaskIn (w1.alloc (.cells #[.string ⟨#[97]⟩, .int .i64 5, .int .i64 5, .int .i64 0, .int .i64 0, .int .i64 1, .slice (some ⟨g, 0, none⟩) 2 2, .int .u64 0, .int .u64 0] 25)) (oddT5 g) := odd5_in g (regs_bel (unhide IN1).regs ((Below.refl _ _).alloc (Nat.le_refl _) _))
  refine (unhide HI (oddT5 g) 1 (w1.alloc (.cells #[.string ⟨#[97]⟩, .int .i64 5, .int .i64 5, .int .i64 0, .int .i64 0, .int .i64 1, .slice (some ⟨g, 0, none⟩) 2 2, .int .u64 0, .int .u64 0] 25)) INW (by simp [I64])).mono ?_
  rintro e w2 ⟨rfl, bel⟩
  rw [odd5_not]
  have B2 := hide (below_on ((unhide B1).alloc (unhide B1).size _) bel)
  clear bel INW
  go_wp2_with fail
  refine (unhide CP _).mono ?_
  rintro e w3 ⟨g3, rfl, hin, bel⟩
  rw [TaskV.val, TaskV.cells, plainT]
  simp only [List.length_cons, List.length_nil]
  have B3 := hide (below_on (unhide B2) bel)
  have IN3 := hide hin
  clear bel hin
  go_wp2_with fail
  refine (unhide HI (plainT ⟨#[97]⟩ g3 5) 1 _ (unhide IN3) (by simp [I64])).mono ?_
  rintro e w4 ⟨rfl, bel⟩
  rw [plain_a1]
  have B4 := hide (below_on (unhide B3) bel)
  clear bel
  go_wp2_with fail
  refine (unhide CP _).mono ?_
  rintro e w5 ⟨g5, rfl, hin, bel⟩
  rw [TaskV.val, TaskV.cells, plainT]
  simp only [List.length_cons, List.length_nil]
  have B5 := hide (below_on (unhide B4) bel)
  have IN5 := hide hin
  clear bel hin
  go_wp2_with fail
  refine (unhide CP _).mono ?_
  rintro e w6 ⟨g6, rfl, hin, bel⟩
  rw [TaskV.val, TaskV.cells, plainT]
  simp only [List.length_cons, List.length_nil]
  have B6 := hide (below_on (unhide B5) bel)
  have IN5' := hide (task_bel (unhide IN5) bel)
  have IN6 := hide hin
  clear bel hin
  go_wp2_with fail
  refine (unhide HA (pairS ⟨#[97]⟩ g5 ⟨#[97]⟩ g6 w6.heap.size) _ (pair_in 25 (unhide IN5') (unhide IN6)) (by simp [pairS])).mono ?_
  rintro e w7 ⟨rfl, bel⟩
  rw [pair_aa]
  have B7 := hide (below_on ((unhide B6).alloc (unhide B6).size _) bel)
  clear bel
  go_wp2_with fail
  refine (unhide CP _).mono ?_
  rintro e w8 ⟨g8, rfl, hin, bel⟩
  rw [TaskV.val, TaskV.cells, plainT]
  simp only [List.length_cons, List.length_nil]
  have B8 := hide (below_on (unhide B7) bel)
  have IN8 := hide hin
  clear bel hin
  go_wp2_with fail
  refine (unhide CP' _).mono ?_
  rintro e w9 ⟨g9, rfl, hin, bel⟩
  rw [TaskV.val, TaskV.cells, plainT]
  simp only [List.length_cons, List.length_nil]
  have B9 := hide (below_on (unhide B8) bel)
  have IN8' := hide (task_bel (unhide IN8) bel)
  have IN9 := hide hin
  clear bel hin
  go_wp2_with fail
  refine (unhide HA (pairS ⟨#[97]⟩ g8 ⟨#[98]⟩ g9 w9.heap.size) _ (pair_in 25 (unhide IN8') (unhide IN9)) (by simp [pairS])).mono ?_
  rintro e w10 ⟨rfl, bel⟩
  rw [pair_ab]
  have B10 := hide (below_on ((unhide B9).alloc (unhide B9).size _) bel)
  clear bel
  go_wp2_with fail
  refine (unhide HA noneS _ none_in (by simp [noneS])).mono ?_
  rintro e w11 ⟨rfl, bel⟩
  rw [none_not]
  have B11 := hide (below_on (unhide B10) bel)
  clear bel
  go_wp2_with fail
  refine (unhide CK _).mono ?_
  rintro e w12 ⟨rfl, bel⟩
  have B12 := hide (below_on (unhide B11) bel)
  clear bel
  go_wp2
  go_ret
  exact ⟨rfl, unhide B12⟩
def oddT6 (g : Nat) : TaskV := ⟨⟨#[97]⟩, 5, 5, 0, 0, 0, some ⟨g, 0, none⟩, 2, 0, 1, [2, 1]⟩
theorem odd6_not (g : Nat) : isB (oddT6 g) 1 = false := by
  have key : ∀ ao, isB ⟨⟨#[97]⟩, 5, 5, 0, 0, 0, ao, 2, 0, 1, [2, 1]⟩ 1 = isB ⟨⟨#[97]⟩, 5, 5, 0, 0, 0, none, 2, 0, 1, [2, 1]⟩ 1 := fun _ => rfl
  rw [oddT6, key]; decide +kernel
theorem odd6_in {w : World} (g : Nat) (h : RegsIn w (some ⟨g, 0, none⟩) [2, 1]) : TaskIn w (oddT6 g) :=
  ⟨h, (fun e => by cases e), by simp [oddT6], by simp [oddT6]; decide, by simp [I64, oddT6], by simp [I64, oddT6], by simp [I64, oddT6], by simp [I64, oddT6], by simp [I64, oddT6], by simp [U64, oddT6], by simp [U64, oddT6], fun n hn => odd_each (l := [2, 1]) (by decide) n hn⟩
set_option maxHeartbeats 3200000 in
theorem odd_way6 (hI : CIs) (hK : CWork) (hA : CAll) (w : World) : Calls Try.prog 6 #[.int .i64 6] w fun e w' => e = .returned (.bool true) ∧ Below w.heap.size w w' := by
  have CP := hide (fun w => plain_any ⟨#[97]⟩ w (by decide))
  have CP' := hide (fun w => plain_any ⟨#[98]⟩ w (by decide))
  have CK := hide (fun w => tknown_any hI hK w)
  have HI := hide hI
  have HA := hide hA
  clear hI hK hA
  go_enter Try.func6, Try.ntmps6
  go_wp2_with fail
  refine (unhide CP _).mono ?_
  rintro e w1 ⟨g, rfl, hin, bel⟩
  rw [TaskV.val, TaskV.cells, plainT]
  simp only [List.length_cons, List.length_nil]
  have B1 := hide bel
  have IN1 := hide hin
  clear bel hin
  go_wp2_with fail
  have INW : TaskIn (w1.alloc (.cells #[.string ⟨#[97]⟩, .int .i64 5, .int .i64 5, .int .i64 0, .int .i64 0, .int .i64 0, .slice (some ⟨g, 0, none⟩) 2 2, .int .u64 0, .int .u64 1] 25)) (oddT6 g) := odd6_in g (regs_bel (unhide IN1).regs ((Below.refl _ _).alloc (Nat.le_refl _) _))
  refine (unhide HI (oddT6 g) 1 (w1.alloc (.cells #[.string ⟨#[97]⟩, .int .i64 5, .int .i64 5, .int .i64 0, .int .i64 0, .int .i64 0, .slice (some ⟨g, 0, none⟩) 2 2, .int .u64 0, .int .u64 1] 25)) INW (by simp [I64])).mono ?_
  rintro e w2 ⟨rfl, bel⟩
  rw [odd6_not]
  have B2 := hide (below_on ((unhide B1).alloc (unhide B1).size _) bel)
  clear bel INW
  go_wp2_with fail
  refine (unhide CP _).mono ?_
  rintro e w3 ⟨g3, rfl, hin, bel⟩
  rw [TaskV.val, TaskV.cells, plainT]
  simp only [List.length_cons, List.length_nil]
  have B3 := hide (below_on (unhide B2) bel)
  have IN3 := hide hin
  clear bel hin
  go_wp2_with fail
  refine (unhide HI (plainT ⟨#[97]⟩ g3 5) 1 _ (unhide IN3) (by simp [I64])).mono ?_
  rintro e w4 ⟨rfl, bel⟩
  rw [plain_a1]
  have B4 := hide (below_on (unhide B3) bel)
  clear bel
  go_wp2_with fail
  refine (unhide CP _).mono ?_
  rintro e w5 ⟨g5, rfl, hin, bel⟩
  rw [TaskV.val, TaskV.cells, plainT]
  simp only [List.length_cons, List.length_nil]
  have B5 := hide (below_on (unhide B4) bel)
  have IN5 := hide hin
  clear bel hin
  go_wp2_with fail
  refine (unhide CP _).mono ?_
  rintro e w6 ⟨g6, rfl, hin, bel⟩
  rw [TaskV.val, TaskV.cells, plainT]
  simp only [List.length_cons, List.length_nil]
  have B6 := hide (below_on (unhide B5) bel)
  have IN5' := hide (task_bel (unhide IN5) bel)
  have IN6 := hide hin
  clear bel hin
  go_wp2_with fail
  refine (unhide HA (pairS ⟨#[97]⟩ g5 ⟨#[97]⟩ g6 w6.heap.size) _ (pair_in 25 (unhide IN5') (unhide IN6)) (by simp [pairS])).mono ?_
  rintro e w7 ⟨rfl, bel⟩
  rw [pair_aa]
  have B7 := hide (below_on ((unhide B6).alloc (unhide B6).size _) bel)
  clear bel
  go_wp2_with fail
  refine (unhide CP _).mono ?_
  rintro e w8 ⟨g8, rfl, hin, bel⟩
  rw [TaskV.val, TaskV.cells, plainT]
  simp only [List.length_cons, List.length_nil]
  have B8 := hide (below_on (unhide B7) bel)
  have IN8 := hide hin
  clear bel hin
  go_wp2_with fail
  refine (unhide CP' _).mono ?_
  rintro e w9 ⟨g9, rfl, hin, bel⟩
  rw [TaskV.val, TaskV.cells, plainT]
  simp only [List.length_cons, List.length_nil]
  have B9 := hide (below_on (unhide B8) bel)
  have IN8' := hide (task_bel (unhide IN8) bel)
  have IN9 := hide hin
  clear bel hin
  go_wp2_with fail
  refine (unhide HA (pairS ⟨#[97]⟩ g8 ⟨#[98]⟩ g9 w9.heap.size) _ (pair_in 25 (unhide IN8') (unhide IN9)) (by simp [pairS])).mono ?_
  rintro e w10 ⟨rfl, bel⟩
  rw [pair_ab]
  have B10 := hide (below_on ((unhide B9).alloc (unhide B9).size _) bel)
  clear bel
  go_wp2_with fail
  refine (unhide HA noneS _ none_in (by simp [noneS])).mono ?_
  rintro e w11 ⟨rfl, bel⟩
  rw [none_not]
  have B11 := hide (below_on (unhide B10) bel)
  clear bel
  go_wp2_with fail
  refine (unhide CK _).mono ?_
  rintro e w12 ⟨rfl, bel⟩
  have B12 := hide (below_on (unhide B11) bel)
  clear bel
  go_wp2
  go_ret
  exact ⟨rfl, unhide B12⟩
def oddT7 (g : Nat) : TaskV := ⟨⟨#[97]⟩, 5, 5, 3, 0, 0, some ⟨g, 0, none⟩, 2, 0, 0, [2, 1]⟩
theorem odd7_not (g : Nat) : isB (oddT7 g) 1 = false := by
  have key : ∀ ao, isB ⟨⟨#[97]⟩, 5, 5, 3, 0, 0, ao, 2, 0, 0, [2, 1]⟩ 1 = isB ⟨⟨#[97]⟩, 5, 5, 3, 0, 0, none, 2, 0, 0, [2, 1]⟩ 1 := fun _ => rfl
  rw [oddT7, key]; decide +kernel
theorem odd7_in {w : World} (g : Nat) (h : RegsIn w (some ⟨g, 0, none⟩) [2, 1]) : TaskIn w (oddT7 g) :=
  ⟨h, (fun e => by cases e), by simp [oddT7], by simp [oddT7]; decide, by simp [I64, oddT7], by simp [I64, oddT7], by simp [I64, oddT7], by simp [I64, oddT7], by simp [I64, oddT7], by simp [U64, oddT7], by simp [U64, oddT7], fun n hn => odd_each (l := [2, 1]) (by decide) n hn⟩
set_option maxHeartbeats 3200000 in
theorem odd_way7 (hI : CIs) (hK : CWork) (hA : CAll) (w : World) : Calls Try.prog 6 #[.int .i64 7] w fun e w' => e = .returned (.bool true) ∧ Below w.heap.size w w' := by
  have CP := hide (fun w => plain_any ⟨#[97]⟩ w (by decide))
  have CP' := hide (fun w => plain_any ⟨#[98]⟩ w (by decide))
  have CK := hide (fun w => tknown_any hI hK w)
  have HI := hide hI
  have HA := hide hA
  clear hI hK hA
  go_enter Try.func6, Try.ntmps6
  go_wp2_with fail
  refine (unhide CP _).mono ?_
  rintro e w1 ⟨g, rfl, hin, bel⟩
  rw [TaskV.val, TaskV.cells, plainT]
  simp only [List.length_cons, List.length_nil]
  have B1 := hide bel
  have IN1 := hide hin
  clear bel hin
  go_wp2_with fail
  have INW : TaskIn (w1.alloc (.cells #[.string ⟨#[97]⟩, .int .i64 5, .int .i64 5, .int .i64 3, .int .i64 0, .int .i64 0, .slice (some ⟨g, 0, none⟩) 2 2, .int .u64 0, .int .u64 0] 25)) (oddT7 g) := odd7_in g (regs_bel (unhide IN1).regs ((Below.refl _ _).alloc (Nat.le_refl _) _))
  refine (unhide HI (oddT7 g) 1 (w1.alloc (.cells #[.string ⟨#[97]⟩, .int .i64 5, .int .i64 5, .int .i64 3, .int .i64 0, .int .i64 0, .slice (some ⟨g, 0, none⟩) 2 2, .int .u64 0, .int .u64 0] 25)) INW (by simp [I64])).mono ?_
  rintro e w2 ⟨rfl, bel⟩
  rw [odd7_not]
  have B2 := hide (below_on ((unhide B1).alloc (unhide B1).size _) bel)
  clear bel INW
  go_wp2_with fail
  refine (unhide CP _).mono ?_
  rintro e w3 ⟨g3, rfl, hin, bel⟩
  rw [TaskV.val, TaskV.cells, plainT]
  simp only [List.length_cons, List.length_nil]
  have B3 := hide (below_on (unhide B2) bel)
  have IN3 := hide hin
  clear bel hin
  go_wp2_with fail
  refine (unhide HI (plainT ⟨#[97]⟩ g3 5) 1 _ (unhide IN3) (by simp [I64])).mono ?_
  rintro e w4 ⟨rfl, bel⟩
  rw [plain_a1]
  have B4 := hide (below_on (unhide B3) bel)
  clear bel
  go_wp2_with fail
  refine (unhide CP _).mono ?_
  rintro e w5 ⟨g5, rfl, hin, bel⟩
  rw [TaskV.val, TaskV.cells, plainT]
  simp only [List.length_cons, List.length_nil]
  have B5 := hide (below_on (unhide B4) bel)
  have IN5 := hide hin
  clear bel hin
  go_wp2_with fail
  refine (unhide CP _).mono ?_
  rintro e w6 ⟨g6, rfl, hin, bel⟩
  rw [TaskV.val, TaskV.cells, plainT]
  simp only [List.length_cons, List.length_nil]
  have B6 := hide (below_on (unhide B5) bel)
  have IN5' := hide (task_bel (unhide IN5) bel)
  have IN6 := hide hin
  clear bel hin
  go_wp2_with fail
  refine (unhide HA (pairS ⟨#[97]⟩ g5 ⟨#[97]⟩ g6 w6.heap.size) _ (pair_in 25 (unhide IN5') (unhide IN6)) (by simp [pairS])).mono ?_
  rintro e w7 ⟨rfl, bel⟩
  rw [pair_aa]
  have B7 := hide (below_on ((unhide B6).alloc (unhide B6).size _) bel)
  clear bel
  go_wp2_with fail
  refine (unhide CP _).mono ?_
  rintro e w8 ⟨g8, rfl, hin, bel⟩
  rw [TaskV.val, TaskV.cells, plainT]
  simp only [List.length_cons, List.length_nil]
  have B8 := hide (below_on (unhide B7) bel)
  have IN8 := hide hin
  clear bel hin
  go_wp2_with fail
  refine (unhide CP' _).mono ?_
  rintro e w9 ⟨g9, rfl, hin, bel⟩
  rw [TaskV.val, TaskV.cells, plainT]
  simp only [List.length_cons, List.length_nil]
  have B9 := hide (below_on (unhide B8) bel)
  have IN8' := hide (task_bel (unhide IN8) bel)
  have IN9 := hide hin
  clear bel hin
  go_wp2_with fail
  refine (unhide HA (pairS ⟨#[97]⟩ g8 ⟨#[98]⟩ g9 w9.heap.size) _ (pair_in 25 (unhide IN8') (unhide IN9)) (by simp [pairS])).mono ?_
  rintro e w10 ⟨rfl, bel⟩
  rw [pair_ab]
  have B10 := hide (below_on ((unhide B9).alloc (unhide B9).size _) bel)
  clear bel
  go_wp2_with fail
  refine (unhide HA noneS _ none_in (by simp [noneS])).mono ?_
  rintro e w11 ⟨rfl, bel⟩
  rw [none_not]
  have B11 := hide (below_on (unhide B10) bel)
  clear bel
  go_wp2_with fail
  refine (unhide CK _).mono ?_
  rintro e w12 ⟨rfl, bel⟩
  have B12 := hide (below_on (unhide B11) bel)
  clear bel
  go_wp2
  go_ret
  exact ⟨rfl, unhide B12⟩
def oddT8 (g : Nat) : TaskV := ⟨⟨#[97]⟩, 5, 5, 2, 0, 2, some ⟨g, 0, none⟩, 2, 0, 0, [2, 1]⟩
theorem odd8_not (g : Nat) : isB (oddT8 g) 1 = false := by
  have key : ∀ ao, isB ⟨⟨#[97]⟩, 5, 5, 2, 0, 2, ao, 2, 0, 0, [2, 1]⟩ 1 = isB ⟨⟨#[97]⟩, 5, 5, 2, 0, 2, none, 2, 0, 0, [2, 1]⟩ 1 := fun _ => rfl
  rw [oddT8, key]; decide +kernel
theorem odd8_in {w : World} (g : Nat) (h : RegsIn w (some ⟨g, 0, none⟩) [2, 1]) : TaskIn w (oddT8 g) :=
  ⟨h, (fun e => by cases e), by simp [oddT8], by simp [oddT8]; decide, by simp [I64, oddT8], by simp [I64, oddT8], by simp [I64, oddT8], by simp [I64, oddT8], by simp [I64, oddT8], by simp [U64, oddT8], by simp [U64, oddT8], fun n hn => odd_each (l := [2, 1]) (by decide) n hn⟩
set_option maxHeartbeats 3200000 in
theorem odd_way8 (hI : CIs) (hK : CWork) (hA : CAll) (w : World) : Calls Try.prog 6 #[.int .i64 8] w fun e w' => e = .returned (.bool true) ∧ Below w.heap.size w w' := by
  have CP := hide (fun w => plain_any ⟨#[97]⟩ w (by decide))
  have CP' := hide (fun w => plain_any ⟨#[98]⟩ w (by decide))
  have CK := hide (fun w => tknown_any hI hK w)
  have HI := hide hI
  have HA := hide hA
  clear hI hK hA
  go_enter Try.func6, Try.ntmps6
  go_wp2_with fail
  refine (unhide CP _).mono ?_
  rintro e w1 ⟨g, rfl, hin, bel⟩
  rw [TaskV.val, TaskV.cells, plainT]
  simp only [List.length_cons, List.length_nil]
  have B1 := hide bel
  have IN1 := hide hin
  clear bel hin
  go_wp2_with fail
  have INW : TaskIn (w1.alloc (.cells #[.string ⟨#[97]⟩, .int .i64 5, .int .i64 5, .int .i64 2, .int .i64 0, .int .i64 2, .slice (some ⟨g, 0, none⟩) 2 2, .int .u64 0, .int .u64 0] 25)) (oddT8 g) := odd8_in g (regs_bel (unhide IN1).regs ((Below.refl _ _).alloc (Nat.le_refl _) _))
  refine (unhide HI (oddT8 g) 1 (w1.alloc (.cells #[.string ⟨#[97]⟩, .int .i64 5, .int .i64 5, .int .i64 2, .int .i64 0, .int .i64 2, .slice (some ⟨g, 0, none⟩) 2 2, .int .u64 0, .int .u64 0] 25)) INW (by simp [I64])).mono ?_
  rintro e w2 ⟨rfl, bel⟩
  rw [odd8_not]
  have B2 := hide (below_on ((unhide B1).alloc (unhide B1).size _) bel)
  clear bel INW
  go_wp2_with fail
  refine (unhide CP _).mono ?_
  rintro e w3 ⟨g3, rfl, hin, bel⟩
  rw [TaskV.val, TaskV.cells, plainT]
  simp only [List.length_cons, List.length_nil]
  have B3 := hide (below_on (unhide B2) bel)
  have IN3 := hide hin
  clear bel hin
  go_wp2_with fail
  refine (unhide HI (plainT ⟨#[97]⟩ g3 5) 1 _ (unhide IN3) (by simp [I64])).mono ?_
  rintro e w4 ⟨rfl, bel⟩
  rw [plain_a1]
  have B4 := hide (below_on (unhide B3) bel)
  clear bel
  go_wp2_with fail
  refine (unhide CP _).mono ?_
  rintro e w5 ⟨g5, rfl, hin, bel⟩
  rw [TaskV.val, TaskV.cells, plainT]
  simp only [List.length_cons, List.length_nil]
  have B5 := hide (below_on (unhide B4) bel)
  have IN5 := hide hin
  clear bel hin
  go_wp2_with fail
  refine (unhide CP _).mono ?_
  rintro e w6 ⟨g6, rfl, hin, bel⟩
  rw [TaskV.val, TaskV.cells, plainT]
  simp only [List.length_cons, List.length_nil]
  have B6 := hide (below_on (unhide B5) bel)
  have IN5' := hide (task_bel (unhide IN5) bel)
  have IN6 := hide hin
  clear bel hin
  go_wp2_with fail
  refine (unhide HA (pairS ⟨#[97]⟩ g5 ⟨#[97]⟩ g6 w6.heap.size) _ (pair_in 25 (unhide IN5') (unhide IN6)) (by simp [pairS])).mono ?_
  rintro e w7 ⟨rfl, bel⟩
  rw [pair_aa]
  have B7 := hide (below_on ((unhide B6).alloc (unhide B6).size _) bel)
  clear bel
  go_wp2_with fail
  refine (unhide CP _).mono ?_
  rintro e w8 ⟨g8, rfl, hin, bel⟩
  rw [TaskV.val, TaskV.cells, plainT]
  simp only [List.length_cons, List.length_nil]
  have B8 := hide (below_on (unhide B7) bel)
  have IN8 := hide hin
  clear bel hin
  go_wp2_with fail
  refine (unhide CP' _).mono ?_
  rintro e w9 ⟨g9, rfl, hin, bel⟩
  rw [TaskV.val, TaskV.cells, plainT]
  simp only [List.length_cons, List.length_nil]
  have B9 := hide (below_on (unhide B8) bel)
  have IN8' := hide (task_bel (unhide IN8) bel)
  have IN9 := hide hin
  clear bel hin
  go_wp2_with fail
  refine (unhide HA (pairS ⟨#[97]⟩ g8 ⟨#[98]⟩ g9 w9.heap.size) _ (pair_in 25 (unhide IN8') (unhide IN9)) (by simp [pairS])).mono ?_
  rintro e w10 ⟨rfl, bel⟩
  rw [pair_ab]
  have B10 := hide (below_on ((unhide B9).alloc (unhide B9).size _) bel)
  clear bel
  go_wp2_with fail
  refine (unhide HA noneS _ none_in (by simp [noneS])).mono ?_
  rintro e w11 ⟨rfl, bel⟩
  rw [none_not]
  have B11 := hide (below_on (unhide B10) bel)
  clear bel
  go_wp2_with fail
  refine (unhide CK _).mono ?_
  rintro e w12 ⟨rfl, bel⟩
  have B12 := hide (below_on (unhide B11) bel)
  clear bel
  go_wp2
  go_ret
  exact ⟨rfl, unhide B12⟩
def oddT9 (g : Nat) : TaskV := ⟨⟨#[97]⟩, 10001, 5, 0, 0, 0, some ⟨g, 0, none⟩, 2, 0, 0, [2, 1]⟩
theorem odd9_not (g : Nat) : isB (oddT9 g) 1 = false := by
  have key : ∀ ao, isB ⟨⟨#[97]⟩, 10001, 5, 0, 0, 0, ao, 2, 0, 0, [2, 1]⟩ 1 = isB ⟨⟨#[97]⟩, 10001, 5, 0, 0, 0, none, 2, 0, 0, [2, 1]⟩ 1 := fun _ => rfl
  rw [oddT9, key]; decide +kernel
theorem odd9_in {w : World} (g : Nat) (h : RegsIn w (some ⟨g, 0, none⟩) [2, 1]) : TaskIn w (oddT9 g) :=
  ⟨h, (fun e => by cases e), by simp [oddT9], by simp [oddT9]; decide, by simp [I64, oddT9], by simp [I64, oddT9], by simp [I64, oddT9], by simp [I64, oddT9], by simp [I64, oddT9], by simp [U64, oddT9], by simp [U64, oddT9], fun n hn => odd_each (l := [2, 1]) (by decide) n hn⟩
set_option maxHeartbeats 3200000 in
theorem odd_way9 (hI : CIs) (hK : CWork) (hA : CAll) (w : World) : Calls Try.prog 6 #[.int .i64 9] w fun e w' => e = .returned (.bool true) ∧ Below w.heap.size w w' := by
  have CP := hide (fun w => plain_any ⟨#[97]⟩ w (by decide))
  have CP' := hide (fun w => plain_any ⟨#[98]⟩ w (by decide))
  have CK := hide (fun w => tknown_any hI hK w)
  have HI := hide hI
  have HA := hide hA
  clear hI hK hA
  go_enter Try.func6, Try.ntmps6
  go_wp2_with fail
  refine (unhide CP _).mono ?_
  rintro e w1 ⟨g, rfl, hin, bel⟩
  rw [TaskV.val, TaskV.cells, plainT]
  simp only [List.length_cons, List.length_nil]
  have B1 := hide bel
  have IN1 := hide hin
  clear bel hin
  go_wp2_with fail
  have INW : TaskIn (w1.alloc (.cells #[.string ⟨#[97]⟩, .int .i64 10001, .int .i64 5, .int .i64 0, .int .i64 0, .int .i64 0, .slice (some ⟨g, 0, none⟩) 2 2, .int .u64 0, .int .u64 0] 25)) (oddT9 g) := odd9_in g (regs_bel (unhide IN1).regs ((Below.refl _ _).alloc (Nat.le_refl _) _))
  refine (unhide HI (oddT9 g) 1 (w1.alloc (.cells #[.string ⟨#[97]⟩, .int .i64 10001, .int .i64 5, .int .i64 0, .int .i64 0, .int .i64 0, .slice (some ⟨g, 0, none⟩) 2 2, .int .u64 0, .int .u64 0] 25)) INW (by simp [I64])).mono ?_
  rintro e w2 ⟨rfl, bel⟩
  rw [odd9_not]
  have B2 := hide (below_on ((unhide B1).alloc (unhide B1).size _) bel)
  clear bel INW
  go_wp2_with fail
  refine (unhide CP _).mono ?_
  rintro e w3 ⟨g3, rfl, hin, bel⟩
  rw [TaskV.val, TaskV.cells, plainT]
  simp only [List.length_cons, List.length_nil]
  have B3 := hide (below_on (unhide B2) bel)
  have IN3 := hide hin
  clear bel hin
  go_wp2_with fail
  refine (unhide HI (plainT ⟨#[97]⟩ g3 5) 1 _ (unhide IN3) (by simp [I64])).mono ?_
  rintro e w4 ⟨rfl, bel⟩
  rw [plain_a1]
  have B4 := hide (below_on (unhide B3) bel)
  clear bel
  go_wp2_with fail
  refine (unhide CP _).mono ?_
  rintro e w5 ⟨g5, rfl, hin, bel⟩
  rw [TaskV.val, TaskV.cells, plainT]
  simp only [List.length_cons, List.length_nil]
  have B5 := hide (below_on (unhide B4) bel)
  have IN5 := hide hin
  clear bel hin
  go_wp2_with fail
  refine (unhide CP _).mono ?_
  rintro e w6 ⟨g6, rfl, hin, bel⟩
  rw [TaskV.val, TaskV.cells, plainT]
  simp only [List.length_cons, List.length_nil]
  have B6 := hide (below_on (unhide B5) bel)
  have IN5' := hide (task_bel (unhide IN5) bel)
  have IN6 := hide hin
  clear bel hin
  go_wp2_with fail
  refine (unhide HA (pairS ⟨#[97]⟩ g5 ⟨#[97]⟩ g6 w6.heap.size) _ (pair_in 25 (unhide IN5') (unhide IN6)) (by simp [pairS])).mono ?_
  rintro e w7 ⟨rfl, bel⟩
  rw [pair_aa]
  have B7 := hide (below_on ((unhide B6).alloc (unhide B6).size _) bel)
  clear bel
  go_wp2_with fail
  refine (unhide CP _).mono ?_
  rintro e w8 ⟨g8, rfl, hin, bel⟩
  rw [TaskV.val, TaskV.cells, plainT]
  simp only [List.length_cons, List.length_nil]
  have B8 := hide (below_on (unhide B7) bel)
  have IN8 := hide hin
  clear bel hin
  go_wp2_with fail
  refine (unhide CP' _).mono ?_
  rintro e w9 ⟨g9, rfl, hin, bel⟩
  rw [TaskV.val, TaskV.cells, plainT]
  simp only [List.length_cons, List.length_nil]
  have B9 := hide (below_on (unhide B8) bel)
  have IN8' := hide (task_bel (unhide IN8) bel)
  have IN9 := hide hin
  clear bel hin
  go_wp2_with fail
  refine (unhide HA (pairS ⟨#[97]⟩ g8 ⟨#[98]⟩ g9 w9.heap.size) _ (pair_in 25 (unhide IN8') (unhide IN9)) (by simp [pairS])).mono ?_
  rintro e w10 ⟨rfl, bel⟩
  rw [pair_ab]
  have B10 := hide (below_on ((unhide B9).alloc (unhide B9).size _) bel)
  clear bel
  go_wp2_with fail
  refine (unhide HA noneS _ none_in (by simp [noneS])).mono ?_
  rintro e w11 ⟨rfl, bel⟩
  rw [none_not]
  have B11 := hide (below_on (unhide B10) bel)
  clear bel
  go_wp2_with fail
  refine (unhide CK _).mono ?_
  rintro e w12 ⟨rfl, bel⟩
  have B12 := hide (below_on (unhide B11) bel)
  clear bel
  go_wp2
  go_ret
  exact ⟨rfl, unhide B12⟩
def oddT10 (g : Nat) : TaskV := ⟨⟨#[97]⟩, 9, 9, 0, 0, 0, some ⟨g, 0, none⟩, 9, 0, 0, [1, 1, 1, 1, 1, 1, 1, 1, 1]⟩
theorem odd10_not (g : Nat) : isB (oddT10 g) 1 = false := by
  have key : ∀ ao, isB ⟨⟨#[97]⟩, 9, 9, 0, 0, 0, ao, 9, 0, 0, [1, 1, 1, 1, 1, 1, 1, 1, 1]⟩ 1 = isB ⟨⟨#[97]⟩, 9, 9, 0, 0, 0, none, 9, 0, 0, [1, 1, 1, 1, 1, 1, 1, 1, 1]⟩ 1 := fun _ => rfl
  rw [oddT10, key]; decide +kernel
theorem odd10_in {w : World} (g : Nat) (h : ∀ j, j < ([1, 1, 1, 1, 1, 1, 1, 1, 1] : List Int).length → w.cell? ⟨g, 0 + j, none⟩ = some (.int .i64 (([1, 1, 1, 1, 1, 1, 1, 1, 1] : List Int).getD j 0))) : TaskIn w (oddT10 g) :=
  ⟨fun _ => ⟨g, 0, rfl, fun j hj => h j hj⟩, (fun e => by cases e), by simp [oddT10], by simp [oddT10]; decide, by simp [I64, oddT10], by simp [I64, oddT10], by simp [I64, oddT10], by simp [I64, oddT10], by simp [I64, oddT10], by simp [U64, oddT10], by simp [U64, oddT10], fun n hn => odd_each (l := [1, 1, 1, 1, 1, 1, 1, 1, 1]) (by decide) n hn⟩
set_option maxHeartbeats 3200000 in
theorem odd_way10 (hI : CIs) (hK : CWork) (hA : CAll) (w : World) : Calls Try.prog 6 #[.int .i64 10] w fun e w' => e = .returned (.bool true) ∧ Below w.heap.size w w' := by
  have CP := hide (fun w => plain_any ⟨#[97]⟩ w (by decide))
  have CP' := hide (fun w => plain_any ⟨#[98]⟩ w (by decide))
  have CK := hide (fun w => tknown_any hI hK w)
  have HI := hide hI
  have HA := hide hA
  clear hI hK hA
  go_enter Try.func6, Try.ntmps6
  go_wp2_with fail
  refine (unhide CP _).mono ?_
  rintro e w1 ⟨g, rfl, hin, bel⟩
  rw [TaskV.val, TaskV.cells, plainT]
  simp only [List.length_cons, List.length_nil]
  have B1 := hide bel
  have IN1 := hide hin
  clear bel hin
  go_wp2_with fail
  have INW : TaskIn ((w1.alloc (.cells #[.string ⟨#[97]⟩, .int .i64 9, .int .i64 9, .int .i64 0, .int .i64 0, .int .i64 0, .slice (some ⟨w1.heap.size + 1, 0, none⟩) 9 9, .int .u64 0, .int .u64 0] 25)).alloc (.cells #[.int .i64 1, .int .i64 1, .int .i64 1, .int .i64 1, .int .i64 1, .int .i64 1, .int .i64 1, .int .i64 1, .int .i64 1] 2)) (oddT10 (w1.heap.size + 1)) := odd10_in (w1.heap.size + 1) (fun j hj => by
    have : j = 0 ∨ j = 1 ∨ j = 2 ∨ j = 3 ∨ j = 4 ∨ j = 5 ∨ j = 6 ∨ j = 7 ∨ j = 8 := by simp at hj; omega
    rcases this with rfl | rfl | rfl | rfl | rfl | rfl | rfl | rfl | rfl <;> simp)
  refine (unhide HI (oddT10 (w1.heap.size + 1)) 1 ((w1.alloc (.cells #[.string ⟨#[97]⟩, .int .i64 9, .int .i64 9, .int .i64 0, .int .i64 0, .int .i64 0, .slice (some ⟨w1.heap.size + 1, 0, none⟩) 9 9, .int .u64 0, .int .u64 0] 25)).alloc (.cells #[.int .i64 1, .int .i64 1, .int .i64 1, .int .i64 1, .int .i64 1, .int .i64 1, .int .i64 1, .int .i64 1, .int .i64 1] 2)) INW (by simp [I64])).mono ?_
  rintro e w2 ⟨rfl, bel⟩
  rw [odd10_not]
  have B2 := hide (below_on ((((unhide B1).alloc (unhide B1).size _).alloc (by have := (unhide B1).size; simp; omega) _)) bel)
  clear bel INW
  go_wp2_with fail
  refine (unhide CP _).mono ?_
  rintro e w3 ⟨g3, rfl, hin, bel⟩
  rw [TaskV.val, TaskV.cells, plainT]
  simp only [List.length_cons, List.length_nil]
  have B3 := hide (below_on (unhide B2) bel)
  have IN3 := hide hin
  clear bel hin
  go_wp2_with fail
  refine (unhide HI (plainT ⟨#[97]⟩ g3 5) 1 _ (unhide IN3) (by simp [I64])).mono ?_
  rintro e w4 ⟨rfl, bel⟩
  rw [plain_a1]
  have B4 := hide (below_on (unhide B3) bel)
  clear bel
  go_wp2_with fail
  refine (unhide CP _).mono ?_
  rintro e w5 ⟨g5, rfl, hin, bel⟩
  rw [TaskV.val, TaskV.cells, plainT]
  simp only [List.length_cons, List.length_nil]
  have B5 := hide (below_on (unhide B4) bel)
  have IN5 := hide hin
  clear bel hin
  go_wp2_with fail
  refine (unhide CP _).mono ?_
  rintro e w6 ⟨g6, rfl, hin, bel⟩
  rw [TaskV.val, TaskV.cells, plainT]
  simp only [List.length_cons, List.length_nil]
  have B6 := hide (below_on (unhide B5) bel)
  have IN5' := hide (task_bel (unhide IN5) bel)
  have IN6 := hide hin
  clear bel hin
  go_wp2_with fail
  refine (unhide HA (pairS ⟨#[97]⟩ g5 ⟨#[97]⟩ g6 w6.heap.size) _ (pair_in 25 (unhide IN5') (unhide IN6)) (by simp [pairS])).mono ?_
  rintro e w7 ⟨rfl, bel⟩
  rw [pair_aa]
  have B7 := hide (below_on ((unhide B6).alloc (unhide B6).size _) bel)
  clear bel
  go_wp2_with fail
  refine (unhide CP _).mono ?_
  rintro e w8 ⟨g8, rfl, hin, bel⟩
  rw [TaskV.val, TaskV.cells, plainT]
  simp only [List.length_cons, List.length_nil]
  have B8 := hide (below_on (unhide B7) bel)
  have IN8 := hide hin
  clear bel hin
  go_wp2_with fail
  refine (unhide CP' _).mono ?_
  rintro e w9 ⟨g9, rfl, hin, bel⟩
  rw [TaskV.val, TaskV.cells, plainT]
  simp only [List.length_cons, List.length_nil]
  have B9 := hide (below_on (unhide B8) bel)
  have IN8' := hide (task_bel (unhide IN8) bel)
  have IN9 := hide hin
  clear bel hin
  go_wp2_with fail
  refine (unhide HA (pairS ⟨#[97]⟩ g8 ⟨#[98]⟩ g9 w9.heap.size) _ (pair_in 25 (unhide IN8') (unhide IN9)) (by simp [pairS])).mono ?_
  rintro e w10 ⟨rfl, bel⟩
  rw [pair_ab]
  have B10 := hide (below_on ((unhide B9).alloc (unhide B9).size _) bel)
  clear bel
  go_wp2_with fail
  refine (unhide HA noneS _ none_in (by simp [noneS])).mono ?_
  rintro e w11 ⟨rfl, bel⟩
  rw [none_not]
  have B11 := hide (below_on (unhide B10) bel)
  clear bel
  go_wp2_with fail
  refine (unhide CK _).mono ?_
  rintro e w12 ⟨rfl, bel⟩
  have B12 := hide (below_on (unhide B11) bel)
  clear bel
  go_wp2
  go_ret
  exact ⟨rfl, unhide B12⟩
set_option maxHeartbeats 800000 in
theorem todd_law (hI : CIs) (hK : CWork) (hA : CAll) (way : Int) (w : World) : Calls Try.prog 6 #[.int .i64 way] w fun e w' => e = .returned (.bool true) ∧ Below w.heap.size w w' := by
  by_cases h0 : way = 0
  · subst h0; exact odd_way0 hI hK hA w
  by_cases h1 : way = 1
  · subst h1; exact odd_way1 hI hK hA w
  by_cases h2 : way = 2
  · subst h2; exact odd_way2 hI hK hA w
  by_cases h3 : way = 3
  · subst h3; exact odd_way3 hI hK hA w
  by_cases h4 : way = 4
  · subst h4; exact odd_way4 hI hK hA w
  by_cases h5 : way = 5
  · subst h5; exact odd_way5 hI hK hA w
  by_cases h6 : way = 6
  · subst h6; exact odd_way6 hI hK hA w
  by_cases h7 : way = 7
  · subst h7; exact odd_way7 hI hK hA w
  by_cases h8 : way = 8
  · subst h8; exact odd_way8 hI hK hA w
  by_cases h9 : way = 9
  · subst h9; exact odd_way9 hI hK hA w
  by_cases h10 : way = 10
  · subst h10; exact odd_way10 hI hK hA w
  have e0 : (way == 0) = false := beq_eq_false_iff_ne.2 h0
  have e1 : (way == 1) = false := beq_eq_false_iff_ne.2 h1
  have e2 : (way == 2) = false := beq_eq_false_iff_ne.2 h2
  have e3 : (way == 3) = false := beq_eq_false_iff_ne.2 h3
  have e4 : (way == 4) = false := beq_eq_false_iff_ne.2 h4
  have e5 : (way == 5) = false := beq_eq_false_iff_ne.2 h5
  have e6 : (way == 6) = false := beq_eq_false_iff_ne.2 h6
  have e7 : (way == 7) = false := beq_eq_false_iff_ne.2 h7
  have e8 : (way == 8) = false := beq_eq_false_iff_ne.2 h8
  have e9 : (way == 9) = false := beq_eq_false_iff_ne.2 h9
  have e10 : (way == 10) = false := beq_eq_false_iff_ne.2 h10
  have CP := hide (fun w => plain_any ⟨#[97]⟩ w (by decide))
  clear hI hK hA h0 h1 h2 h3 h4 h5 h6 h7 h8 h9 h10
  go_enter Try.func6, Try.ntmps6
  go_wp2_with fail
  refine (unhide CP _).mono ?_
  rintro e w1 ⟨g, rfl, hin, bel⟩
  rw [TaskV.val, TaskV.cells, plainT]
  simp only [List.length_cons, List.length_nil]
  have B1 := hide bel
  clear bel hin
  go_wp2
  first | go_ret3 | go_ret
  exact ⟨rfl, (unhide B1).alloc (unhide B1).size _⟩
end Go.Proofs.Ytgccemnddambeaa.Lex
