/- The laws of chapter 9, over what package block answers. -/
import Derived.Test.YtndhjfpjhpnbaaaBlockSpec
namespace Go.Proofs.Ytndhjfpjhpnbaaa.Lex
set_option maxRecDepth 100000
open Go.ChangeShapes Go.WideShapes Go.RowKit

theorem work_pos {l : List Int} (h1 : 1 ≤ l.length) (h : ∀ n ∈ l, 1 ≤ n ∧ n ≤ 10000) : 1 ≤ longZ l ∧ longZ l ≤ workZ l := by
  refine ⟨?_, long_work l 0 (by omega) (fun n hn => (h n hn).1)⟩
  match l, h1, h with
  | x :: l, _, h =>
    have h0 := (h x (List.mem_cons_self ..)).1
    have h1 := (long_from (x :: l) 0).2 x (List.mem_cons_self ..)
    show 1 ≤ (x :: l).foldl max 0
    omega
theorem way_range {t : TaskV} {p : Int} (hf : Fits t p) {own : Int} (ho : 0 ≤ own ∧ own ≤ 640000) (high : Int) : 0 ≤ wayZ t own high ∧ wayZ t own high ≤ workZ t.regs + own - 1 ∧ 0 ≤ workZ t.regs + own - 1 ∧ workZ t.regs + own - 1 ≤ 800000 := by
  obtain ⟨-, hr1, hr8, hre, -, hm⟩ := fits_parts hf.is
  obtain ⟨h1, h2⟩ := work_pos hr1 hre
  have h3 := work_bound t.regs hre
  have hw : 0 ≤ workZ t.regs + own - 1 ∧ workZ t.regs + own - 1 ≤ 800000 := by omega
  simp only [modeB] at hm
  unfold wayZ
  split
  · omega
  · rename_i h0
    rw [if_neg h0] at hm
    split
    · rename_i h0
      rw [if_pos h0] at hm
      simp only [inB, Bool.and_eq_true, decide_eq_true_eq] at hm
      omega
    · split <;> omega
theorem of_range {s : SetV} (ha : allB s = true) (hu : ∀ t ∈ s.ts, U64 t.ecb ∧ U64 t.ucb) {low high : Int} (h : 0 ≤ high ∧ high < low ∧ low < s.ts.length) : (0 ≤ ofZ s low high ∧ ofZ s low high ≤ wholeZ s low) ∧ ofZ s low high ≤ mostZ s high ∧ 0 ≤ wholeZ s low ∧ wholeZ s low ≤ 800000 := by
  obtain ⟨hr, h8, -, hfit⟩ := all_fits ha hu
  obtain ⟨k, rfl⟩ : ∃ k : Nat, low = k := ⟨low.toNat, by omega⟩
  have hk : k < s.ts.length := by omega
  have hw := way_range (hfit k hk) (own_range hr (k : Int)) high
  have e : ofZ s k high = wayZ (s.ts.getD k task0) (ownZ s k) high := by rw [ofZ, if_pos h]; rfl
  have e2 : wholeZ s k = workZ (s.ts.getD k task0).regs + ownZ s k - 1 := rfl
  refine ⟨?_, (most_ge s high s.ts.length).2 k hk, ?_⟩
  · rw [e, e2]; omega
  · rw [e2]; omega
/- the law's own set -/
def bT (g : Nat) (nm : UInt8) (l : List Int) : TaskV := ⟨⟨#[nm]⟩, 9, 9, 0, 0, 0, some ⟨g, 0, none⟩, l.length, 0, 0, l⟩
def bS (g : Nat) : SetV := ⟨0, some ⟨g + 1 + 1, 0, none⟩, 2, [bT g 97 [1], bT (g + 1) 98 [2, 5, 1]]⟩
theorem bS_all (g : Nat) : allB (bS g) = true := by show allB (bS 0) = true; decide +kernel
theorem bS_is (g : Nat) : ofZ (bS g) 1 0 = 4 ∧ mostZ (bS g) 0 = 4 ∧ mostZ (bS g) 1 = 0 := by show ofZ (bS 0) 1 0 = 4 ∧ mostZ (bS 0) 0 = 4 ∧ mostZ (bS 0) 1 = 0; decide +kernel
theorem bT_in {w : World} {g : Nat} {l : List Int} (hl : l.length ≤ 8) (h : ∀ j, j < l.length → w.cell? ⟨g, j, none⟩ = some (.int .i64 (l.getD j 0))) (hi : ∀ n ∈ l, I64 n) (nm : UInt8) : TaskIn w (bT g nm l) :=
  ⟨fun _ => ⟨g, 0, rfl, fun j hj => by rw [Nat.zero_add]; exact h j hj⟩, (fun e => by cases e), by show l.length ≤ _; omega, by simp [bT, ByteArray.size], by simp [I64, bT], by simp [I64, bT], by simp [I64, bT], by simp [I64, bT], by simp [I64, bT], by simp [U64, bT], by simp [U64, bT], hi⟩
theorem bS_in {w : World} {g : Nat} {ty : TypeId} {fr : Nat × Nat} (h : w.cell? ⟨g, 0, none⟩ = some (.int .i64 1)) (h0 : w.cell? ⟨g + 1, 0, none⟩ = some (.int .i64 2)) (h1 : w.cell? ⟨g + 1, 1, none⟩ = some (.int .i64 5)) (h2 : w.cell? ⟨g + 1, 2, none⟩ = some (.int .i64 1)) (hb : w.heap[g + 1 + 1]? = some (.cells ((bS g).ts.flatMap TaskV.cells).toArray ty fr)) : SetIn w (bS g) := by
  refine ⟨by simp [I64, bS], (fun e => by cases e), by simp [bS], by simp [bS], fun _ => ⟨g + 1 + 1, 0, rfl, fun j hj i hi => ?_⟩, fun t ht => ?_⟩
  · rw [Nat.zero_add, cell_block hb, List.getElem?_toArray]
    exact task_flat _ j hj i hi
  · simp only [bS, List.mem_cons, List.not_mem_nil, or_false] at ht
    rcases ht with rfl | rfl
    · refine bT_in (by decide) (fun j hj => ?_) (fun n hn => ?_) 97
      · have : j = 0 := by simp at hj; omega
        subst this; exact h
      · have : n = 1 := by simpa using hn
        subst this; simp [I64]
    · refine bT_in (by decide) (fun j hj => ?_) (fun n hn => ?_) 98
      · match j, hj with
        | 0, _ => exact h0
        | 1, _ => exact h1
        | 2, _ => exact h2
      · simp only [List.mem_cons, List.not_mem_nil, or_false] at hn
        rcases hn with rfl | rfl | rfl <;> simp [I64]
end Go.Proofs.Ytndhjfpjhpnbaaa.Lex
