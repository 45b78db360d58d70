/- The laws of chapter 11, over what package active answers. -/
import Derived.Test.YtmkcejkopmfnfaaActRef2
namespace Go.Proofs.Ytmkcejkopmfnfaa.Lex
open Go.ChangeShapes Go.WideShapes Go.RowKit

/- two rows that hold the same are one -/
set_option maxHeartbeats 1600000 in
theorem rloads_same (a1 a2 : Option Addr) (c1 c2 : Nat) (L : List Fix.LoadV) (w : World) (h1 : Fix.LoadsIn w a1 L) (h2 : Fix.LoadsIn w a2 L) : Calls Try.prog 11 #[.slice a1 L.length c1, .slice a2 L.length c2] w fun e w' => e = .returned (.bool true) ∧ Below w.heap.size w w' := by
  have hlen := h1.len
  have H1 := hide h1.row
  have H2 := hide h2.row
  clear h1 h2
  go_enter Try.func11, Try.ntmps11
  go_wp2
  go_loopw [5] (fun j wr => ∃ k : Nat, k ≤ L.length ∧ j = .int .i64 k ∧ Below w.heap.size w wr) (fun j _ => L.length - (intOf j).toNat)
  case atStart => exact ⟨0, Nat.zero_le _, rfl, Below.refl _ _⟩
  case round =>
    obtain ⟨k, hk, rfl, hbel⟩ := hrel
    have BK := hide hbel
    clear hbel
    by_cases hlt : k < L.length
    · have hne : L ≠ [] := fun e => by rw [e] at hlt; simp at hlt
      obtain ⟨b, off, rfl, hc⟩ := unhide H1 hne
      obtain ⟨b', off', rfl, hc'⟩ := unhide H2 hne
      have hbox : Fix.LBox wr b (off + k * 2) (L.getD k Fix.load0) ∧ Fix.LBox wr b' (off' + k * 2) (L.getD k Fix.load0) := ⟨⟨cell_bel' (hc k hlt).1 (unhide BK), cell_bel' (hc k hlt).2 (unhide BK)⟩, ⟨cell_bel' (hc' k hlt).1 (unhide BK), cell_bel' (hc' k hlt).2 (unhide BK)⟩⟩
      clear hc hc' hne
      generalize L.getD k Fix.load0 = x at *
      have hk1 : (0 : Int) ≤ (k : Int) := by omega
      have hk2 : (k : Int) < (L.length : Int) := by omega
      have D0 := hide (unhide BK).drew
      go_wp2_with fail
      refine wp_region_held_drew (S := (fun w9 => Fix.LBox w9 b (off + k * 2) x ∧ Fix.LBox w9 b' (off' + k * 2) x)) (by kernel_rfl) (⟨hbox.1.drew, hbox.2.drew⟩) (fun hHeld => ?_)
      refine take_yes 0 17 (.slice (some ⟨b, off, none⟩) L.length c1) rfl rfl (by kernel_rfl) (by kernel_rfl) (by kernel_rfl) (fun _ _ _ h => h) rfl (by assumption) (by intro w9 hS9; obtain ⟨⟨s0, s1⟩, ⟨s2, s3⟩⟩ := hS9; go_simp) ?_
      simp only [List.setIfInBounds_toArray, List.set_cons_zero, List.set_cons_succ]
      refine take_yes 1 18 (.int .i64 k) rfl rfl (by kernel_rfl) (by kernel_rfl) (by kernel_rfl) (fun _ _ _ h => h) rfl (by assumption) (by intro w9 hS9; obtain ⟨⟨s0, s1⟩, ⟨s2, s3⟩⟩ := hS9; go_simp) ?_
      simp only [List.setIfInBounds_toArray, List.set_cons_zero, List.set_cons_succ]
      refine take_yes 2 19 (.pointer (some ⟨b, off + k * 2, none⟩)) rfl rfl (by kernel_rfl) (by kernel_rfl) (by kernel_rfl) (fun _ _ _ h => h) rfl (by assumption) (by intro w9 hS9; obtain ⟨⟨s0, s1⟩, ⟨s2, s3⟩⟩ := hS9; go_simp) ?_
      simp only [List.setIfInBounds_toArray, List.set_cons_zero, List.set_cons_succ]
      refine take_yes 3 20 (.agg #[.int .i64 x.T, .int .i64 x.C]) rfl rfl (by kernel_rfl) (by kernel_rfl) (by kernel_rfl) (fun _ _ _ h => h) rfl (by assumption) (by intro w9 hS9; obtain ⟨⟨s0, s1⟩, ⟨s2, s3⟩⟩ := hS9; go_simp) ?_
      simp only [List.setIfInBounds_toArray, List.set_cons_zero, List.set_cons_succ]
      refine take_yes 4 21 (.slice (some ⟨b', off', none⟩) L.length c2) rfl rfl (by kernel_rfl) (by kernel_rfl) (by kernel_rfl) (fun _ _ _ h => h) rfl (by assumption) (by intro w9 hS9; obtain ⟨⟨s0, s1⟩, ⟨s2, s3⟩⟩ := hS9; go_simp) ?_
      simp only [List.setIfInBounds_toArray, List.set_cons_zero, List.set_cons_succ]
      refine take_yes 5 22 (.int .i64 k) rfl rfl (by kernel_rfl) (by kernel_rfl) (by kernel_rfl) (fun _ _ _ h => h) rfl (by assumption) (by intro w9 hS9; obtain ⟨⟨s0, s1⟩, ⟨s2, s3⟩⟩ := hS9; go_simp) ?_
      simp only [List.setIfInBounds_toArray, List.set_cons_zero, List.set_cons_succ]
      refine take_yes 6 23 (.pointer (some ⟨b', off' + k * 2, none⟩)) rfl rfl (by kernel_rfl) (by kernel_rfl) (by kernel_rfl) (fun _ _ _ h => h) rfl (by assumption) (by intro w9 hS9; obtain ⟨⟨s0, s1⟩, ⟨s2, s3⟩⟩ := hS9; go_simp) ?_
      simp only [List.setIfInBounds_toArray, List.set_cons_zero, List.set_cons_succ]
      refine take_yes 7 24 (.agg #[.int .i64 x.T, .int .i64 x.C]) rfl rfl (by kernel_rfl) (by kernel_rfl) (by kernel_rfl) (fun _ _ _ h => h) rfl (by assumption) (by intro w9 hS9; obtain ⟨⟨s0, s1⟩, ⟨s2, s3⟩⟩ := hS9; go_simp) ?_
      simp only [List.setIfInBounds_toArray, List.set_cons_zero, List.set_cons_succ]
      refine take_yes 8 25 (.bool false) rfl rfl (by kernel_rfl) (by kernel_rfl) (by kernel_rfl) (fun _ _ _ h => h) rfl (by assumption) (by intro w9 hS9; obtain ⟨⟨s0, s1⟩, ⟨s2, s3⟩⟩ := hS9; go_simp) ?_
      simp only [List.setIfInBounds_toArray, List.set_cons_zero, List.set_cons_succ]
      refine wpAnyH_done (by kernel_rfl) ?_ _
      clear hHeld
      go_wp2
      go_roundw
      case rel => exact ⟨k + 1, by omega, by go_num, unhide D0⟩
      case measure => simp [intOf]; omega
    · have e : k = L.length := by omega
      subst e
      go_wp2
      go_ret
      exact ⟨rfl, unhide BK⟩
theorem ofp_one {s : SetV} {i b : Int} {e e' : Ending} (h : OfP s i b e) (k : OfP s i b e') : e = e' := by
  unfold OfP at h k
  split at h
  · rename_i hin
    rw [if_pos hin] at k
    obtain ⟨r, hr, rfl⟩ := h
    exact (Fix.leastP_is k hr).symm
  · rename_i hin
    rw [if_neg hin] at k
    rw [h, k]
theorem ofp_form {s : SetV} {i b : Int} {e : Ending} (h : OfP s i b e) : ∃ r, e = .returned (.tuple #[.int .i64 (Fix.valO r), .bool r.isSome]) ∧ OfP s i b (.returned (.tuple #[.int .i64 (Fix.valO r), .bool r.isSome])) ∧ ∀ n, r = some n → inI s i = true ∧ Fix.mayB b (allL s i.toNat) = true ∧ Fix.IsLeast (Fix.sumZ b (allL s i.toNat)) (some n) := by
  have h' := h
  unfold OfP at h
  split at h
  · rename_i hin
    obtain ⟨r, hr, rfl⟩ := h
    refine ⟨r, rfl, h', fun n hn => ?_⟩
    subst hn
    exact ⟨hin, Fix.least_may hr⟩
  · exact ⟨none, h, by rw [h] at h'; exact h', fun n hn => by cases hn⟩
/- the law's own set -/
def aT (g : Nat) : TaskV := ⟨⟨#[97]⟩, 5, 5, 0, 0, 0, some ⟨g, 0, none⟩, 1, 0, 0, [2]⟩
def aS (g : Nat) : SetV := ⟨0, some ⟨g + 1, 0, none⟩, 1, [aT g]⟩
theorem aS_all (g : Nat) : allB (aS g) = true := by show allB (aS 0) = true; decide +kernel
theorem aS_in {w : World} {g : Nat} {ty : TypeId} {fr : Nat × Nat} (h : w.cell? ⟨g, 0, none⟩ = some (.int .i64 2)) (hb : w.heap[g + 1]? = some (.cells ((aS g).ts.flatMap TaskV.cells).toArray ty fr)) : SetIn w (aS g) := by
  refine ⟨by simp [I64, aS], (fun e => by cases e), by simp [aS], by simp [aS], fun _ => ⟨g + 1, 0, rfl, fun j hj i hi => ?_⟩, fun t ht => ?_⟩
  · rw [Nat.zero_add, cell_block hb, List.getElem?_toArray]
    exact task_flat _ j hj i hi
  · have : t = aT g := by simpa [aS] using ht
    subst this
    exact ⟨fun _ => ⟨g, 0, rfl, fun j hj => by
      have : j = 0 := by simp [aT] at hj; omega
      subst this; exact h⟩, (fun e => by cases e), by simp [aT], by simp [aT, ByteArray.size], by simp [I64, aT], by simp [I64, aT], by simp [I64, aT], by simp [I64, aT], by simp [I64, aT], by simp [U64, aT], by simp [U64, aT], fun n hn => by
      have : n = 2 := by simpa [aT] using hn
      subst this; simp [I64]⟩
theorem aS_all0 (g : Nat) : allL (aS g) 0 = [⟨5, 2⟩] := by
  show allL (aS 0) 0 = [⟨5, 2⟩]
  rfl
theorem aS_least : Fix.IsLeast (Fix.sumZ 0 [⟨5, 2⟩]) (some 2) := by
  refine ⟨by decide, by decide, fun w h1 h2 => ?_⟩
  have : w = 1 := by omega
  subst this
  decide
theorem aS_of {g : Nat} {e : Ending} (h : OfP (aS g) 0 0 e) : e = .returned (.tuple #[.int .i64 2, .bool true]) := by
  have hin : inI (aS g) 0 = true := by show inI (aS 0) 0 = true; decide
  unfold OfP at h
  rw [if_pos hin] at h
  have e0 : allL (aS g) (Int.toNat 0) = [⟨5, 2⟩] := aS_all0 g
  rw [e0] at h
  exact Fix.leastP_is h (r := some 2) (by rw [if_pos (by decide)]; exact aS_least)
set_option maxHeartbeats 1600000 in
theorem aknown_any (hL : CALoads) (hO : CAOf) (w : World) : Calls Try.prog 13 #[] w fun e w' => e = .returned (.bool true) ∧ Below w.heap.size w w' := by
  have C0 := hide (fun W h => hO (aS w.heap.size) 0 0 W h (aS_all _) (by simp [I64]) (by simp [I64]))
  have C1 := hide (fun W h => hL (aS w.heap.size) 0 W h (aS_all _) (by simp [I64]))
  rw [show loadsI (aS w.heap.size) 0 = [] from rfl] at C1
  clear hO hL
  have HW : Hid (∀ W0 W1 W2 : World, W0 = w.alloc (.cells #[.int .i64 2] 2) → W1 = W0.alloc (.cells ((aS w.heap.size).ts.flatMap TaskV.cells).toArray 38) → W2 = W1.alloc (.cells #[.int .i64 0, .slice (some ⟨w.heap.size + 1, 0, none⟩) 1 1] 24) → Below w.heap.size w W2 ∧ SetIn W2 (aS w.heap.size) ∧ SBox W2 (w.heap.size + 1 + 1) (aS w.heap.size)) := by
    intro W0 W1 W2 e0 e1 e2
    have z0 : W0.heap.size = w.heap.size + 1 := by rw [e0]; simp
    have z1 : W1.heap.size = w.heap.size + 1 + 1 := by rw [e1]; simp [z0]
    have b0 : Below w.heap.size w W0 := by rw [e0]; exact (Below.refl _ _).alloc (Nat.le_refl _) _
    have b1 : Below W0.heap.size W0 W1 := by rw [e1]; exact (Below.refl _ _).alloc (Nat.le_refl _) _
    have b2 : Below W1.heap.size W1 W2 := by rw [e2]; exact (Below.refl _ _).alloc (Nat.le_refl _) _
    refine ⟨below_on (below_on b0 b1) b2, set_bel ?_ b2, ?_⟩
    · have c0 : W0.cell? ⟨w.heap.size, 0, none⟩ = some (.int .i64 2) := by rw [e0]; simp
      refine aS_in (ty := 38) (fr := (0, 0)) (cell_bel' c0 b1) ?_
      have := heap_alloc_new W0 (.cells ((aS w.heap.size).ts.flatMap TaskV.cells).toArray 38)
      rw [← e1, z0] at this
      exact this
    · have := sbox_new W1 (aS w.heap.size) 24
      rw [z1] at this
      rw [e2]
      exact this
  obtain ⟨b0, hin, hbx⟩ := unhide HW _ _ _ rfl rfl rfl
  have B0 := hide b0
  have HIN := hide hin
  have HB := hide hbx
  clear b0 hin hbx HW
  go_enter Try.func13, Try.ntmps13
  go_wp2_with fail
  refine (unhide C0 _ (unhide HIN)).mono ?_
  rintro e w1 ⟨hp, bel⟩
  obtain rfl := aS_of hp
  have B1 := hide (below_on (unhide B0) bel)
  have H1 := hide (set_bel (unhide HIN) bel)
  have S1 := hide ((unhide HB).bel bel)
  obtain ⟨c0, c1⟩ := unhide S1
  simp only [aS, List.length_cons, List.length_nil] at c0 c1
  clear bel hp HIN HB B0
  go_wp2_with fail
  refine (unhide C1 _ (unhide H1)).mono ?_
  rintro e w2 ⟨ao, cap, rfl, -, bel⟩
  have B2 := hide (below_on (unhide B1) bel)
  clear bel c0 c1
  go_wp2
  go_ret
  exact ⟨rfl, unhide B2⟩
end Go.Proofs.Ytmkcejkopmfnfaa.Lex
