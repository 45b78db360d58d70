/- Chapter 12: what package resp must be shown to answer; the law's own functions. -/
import Derived.Test.YtmnbnldldilniaaRespRef
import Derived.Test.YtmnbnldldilniaaBlockSpec
namespace Go.Proofs.Ytmnbnldldilniaa.Lex
open Go.ChangeShapes Go.WideShapes Go.RowKit

def CWith : Prop := ∀ (s : SetV) (i b : Int) (w : World), SetIn w s → allB s = true → I64 i → I64 b → Calls Try.prog 9 #[s.val, .int .i64 i, .int .i64 b] w fun e w' => e = .returned (.tuple #[.int .i64 (withR s i b), .int .i64 (withH s i b)]) ∧ Below w.heap.size w w'
def CROf : Prop := ∀ (s : SetV) (i : Int) (w : World), SetIn w s → allB s = true → I64 i → Calls Try.prog 12 #[s.val, .int .i64 i] w fun e w' => e = .returned (.tuple #[.int .i64 (withR s i (mostZ s i)), .int .i64 (withH s i (mostZ s i))]) ∧ Below w.heap.size w w'
theorem aS_busy (g : Nat) : busyO (aS g) 0 0 = some 2 := by
  unfold busyO
  have hin : inI (aS g) 0 = true := by show inI (aS 0) 0 = true; decide
  have e : allL (aS g) (Int.toNat 0) = [⟨5, 2⟩] := aS_all0 g
  rw [hin, e]
  rw [if_pos (by decide)]
  exact leastO_some aS_least
theorem aS_resp (g : Nat) : withR (aS g) 0 (mostZ (aS g) 0) = 2 ∧ withH (aS g) 0 (mostZ (aS g) 0) = 1 := by
  have hm : mostZ (aS g) 0 = 0 := by show mostZ (aS 0) 0 = 0; decide +kernel
  have hR : withR (aS g) 0 0 = 2 := by
    rw [withR, aS_busy]
    show respTo (aS g) 0 0 1 = 2
    rw [resp_next]
    have h0 : respTo (aS g) 0 0 0 = 0 := rfl
    have hd : doneZ (aS g) 0 0 0 = 2 := by
      have : Fix.IsLeast (Fix.sumZ 2 []) (some 2) := ⟨by decide, rfl, fun w _ h => h⟩
      show Fix.valO (leastO (Fix.sumZ 2 [])) = 2
      rw [leastO_some this]
      rfl
    rw [h0, hd]
    show max (0 : Int) (2 - 0 * 5) = 2
    decide
  rw [hm]
  refine ⟨hR, ?_⟩
  rw [withH, aS_busy]
  simp only
  rw [hR]
  show (if (2 : Int) ≤ 5 then (1 : Int) else 2) = 1
  rfl
set_option maxHeartbeats 1600000 in
theorem zknown_any (hO : CROf) (w : World) : Calls Try.prog 10 #[] w fun e w' => e = .returned (.bool true) ∧ Below w.heap.size w w' := by
  have C0 := hide (fun W h => hO (aS w.heap.size) 0 W h (aS_all _) (by simp [I64]))
  rw [(aS_resp _).1, (aS_resp _).2] at C0
  clear hO
  have HW : Hid (∀ W0 W1 W2 : World, W0 = w.alloc (.cells #[.int .i64 2] 2) → W1 = W0.alloc (.cells ((aS w.heap.size).ts.flatMap TaskV.cells).toArray 36) → W2 = W1.alloc (.cells #[.int .i64 0, .slice (some ⟨w.heap.size + 1, 0, none⟩) 1 1] 24) → Below w.heap.size w W2 ∧ SetIn W2 (aS w.heap.size)) := by
    intro W0 W1 W2 e0 e1 e2
    have z0 : W0.heap.size = w.heap.size + 1 := by rw [e0]; simp
    have b0 : Below w.heap.size w W0 := by rw [e0]; exact (Below.refl _ _).alloc (Nat.le_refl _) _
    have b1 : Below W0.heap.size W0 W1 := by rw [e1]; exact (Below.refl _ _).alloc (Nat.le_refl _) _
    have b2 : Below W1.heap.size W1 W2 := by rw [e2]; exact (Below.refl _ _).alloc (Nat.le_refl _) _
    refine ⟨below_on (below_on b0 b1) b2, set_bel ?_ b2⟩
    have c0 : W0.cell? ⟨w.heap.size, 0, none⟩ = some (.int .i64 2) := by rw [e0]; simp
    refine aS_in (ty := 36) (fr := (0, 0)) (cell_bel' c0 b1) ?_
    have := heap_alloc_new W0 (.cells ((aS w.heap.size).ts.flatMap TaskV.cells).toArray 36)
    rw [← e1, z0] at this
    exact this
  obtain ⟨b0, hin⟩ := unhide HW _ _ _ rfl rfl rfl
  have B0 := hide b0
  have HIN := hide hin
  clear b0 hin HW
  go_enter Try.func10, Try.ntmps10
  go_wp2_with fail
  refine (unhide C0 _ (unhide HIN)).mono ?_
  rintro e w1 ⟨rfl, bel⟩
  have B1 := hide (below_on (unhide B0) bel)
  clear bel HIN B0
  go_wp2
  go_ret
  exact ⟨rfl, unhide B1⟩
set_option maxHeartbeats 1600000 in
theorem rmay12_any (s : SetV) (w : World) (hs : SetIn w s) : Calls Try.prog 8 #[s.val] w fun e w' => ∃ o, e = .returned (.bool o) ∧ (o = true → allB s = true ∧ s.ts.length ≤ 10) ∧ Below w.heap.size w w' := by
  have hlen := hs.len
  by_cases h10 : (10 : Int) < s.ts.length
  · go_enter Try.func8, Try.ntmps8
    rw [SetV.val]
    go_wp2
    go_ret
    exact ⟨false, rfl, fun h => (by cases h), (Below.refl _ _).alloc (Nat.le_refl _) _⟩
  have CA := hide (fun w h => rall_any s w h)
  cases hb : allB s
  · rw [hb] at CA
    clear hb
    go_enter Try.func8, Try.ntmps8
    rw [SetV.val]
    go_wp2_with fail
    refine (unhide CA _ (set_bel hs ((Below.refl _ _).alloc (Nat.le_refl _) _))).mono ?_
    rintro e w1 ⟨rfl, bel⟩
    have B1 := hide (bel_box (Below.refl _ _) bel)
    clear bel
    go_wp2
    go_ret
    exact ⟨false, rfl, fun h => (by cases h), unhide B1⟩
  rw [hb] at CA
  have h1 : 1 ≤ s.ts.length := by simp only [allB, Bool.and_eq_true, decide_eq_true_eq] at hb; exact hb.2.1
  have hne : s.ts ≠ [] := fun e => by rw [e] at h1; simp at h1
  obtain ⟨b, off, hao, ht⟩ := set_task hs hne
  have HT := hide ht
  have HIN := hide hs
  have HBX := hide (sbox_new w s 24)
  have h10' : s.ts.length ≤ 10 := by omega
  clear ht hs hb
  obtain ⟨rl, ao, cap, ts⟩ := s
  simp only at hao hlen h10 h1 hne HT h10' ⊢
  subst hao
  go_enter Try.func8, Try.ntmps8
  rw [SetV.val]
  simp only
  go_wp2_with fail
  refine (unhide CA _ (set_bel (unhide HIN) ((Below.refl _ _).alloc (Nat.le_refl _) _))).mono ?_
  rintro e w1 ⟨rfl, bel⟩
  have B1 := hide (bel_box (Below.refl _ _) bel)
  have X1 := hide ((unhide HBX).bel bel)
  clear bel
  go_wp2
  go_loopw [3] (fun j wr => ∃ k : Nat, k ≤ ts.length ∧ j = .int .i64 k ∧ Below w1.heap.size w1 wr) (fun j _ => ts.length - (intOf j).toNat)
  case atStart => exact ⟨0, Nat.zero_le _, rfl, Below.refl _ _⟩
  case round =>
    obtain ⟨k, hk, rfl, hbel⟩ := hrel
    obtain ⟨c0, c1⟩ := (unhide X1).bel hbel
    simp only at c0 c1
    have BK := hide (below_on (unhide B1) hbel)
    have VK := hide hbel
    clear hbel
    by_cases hlt : k < ts.length
    · obtain ⟨-, t1, -, -, -, -, -, -, -⟩ := (unhide HT k hlt).1.bel (unhide BK)
      generalize ts.getD k task0 = t at *
      have hk1 : (0 : Int) ≤ (k : Int) := by omega
      have hk2 : (k : Int) < (ts.length : Int) := by omega
      by_cases h3 : t.T < 3
      · go_wp2
        go_ret
        exact ⟨false, rfl, fun h => (by cases h), unhide BK⟩
      · go_wp2
        go_roundw
        case rel => exact ⟨k + 1, by omega, by go_num, unhide VK⟩
        case measure => simp [intOf]; omega
    · have e : k = ts.length := by omega
      subst e
      go_wp2
      go_ret
      exact ⟨true, rfl, fun _ => ⟨trivial, h10'⟩, unhide BK⟩
end Go.Proofs.Ytmnbnldldilniaa.Lex
