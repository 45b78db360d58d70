/- Chapter 12: the document's answers, in plain words. -/
import Derived.Test.YtndhjfpjhpnbaaaActLaw2
namespace Go.Proofs.Ytndhjfpjhpnbaaa.Lex
set_option maxRecDepth 100000
open Go.ChangeShapes Go.WideShapes Go.RowKit

/- the least number, as a function: there is just one answer -/
open Classical in
noncomputable def leastO (f : Int → Int) : Option Int := if h : ∃ n, Fix.IsLeast f (some n) then some (Classical.choose h) else none
theorem leastO_some {f : Int → Int} {n : Int} (h : Fix.IsLeast f (some n)) : leastO f = some n := by
  have hx : ∃ n, Fix.IsLeast f (some n) := ⟨n, h⟩
  rw [leastO, dif_pos hx]
  exact Fix.least_one (Classical.choose_spec hx) h
theorem leastO_none {f : Int → Int} (h : Fix.IsLeast f none) : leastO f = none := by
  rw [leastO, dif_neg]
  rintro ⟨n, hn⟩
  exact absurd (Fix.least_one h hn) (by simp)
theorem leastO_is {f : Int → Int} {r : Option Int} (h : Fix.IsLeast f r) : leastO f = r := by
  cases r with
  | none => exact leastO_none h
  | some n => exact leastO_some h
theorem least_total {l : List Fix.LoadV} {base : Int} (ok : Fix.OkL l) (hb : 0 ≤ base) : Fix.IsLeast (Fix.sumZ base l) (leastO (Fix.sumZ base l)) := by
  by_cases h : ∃ n, Fix.IsLeast (Fix.sumZ base l) (some n)
  · obtain ⟨n, hn⟩ := h
    rw [leastO_some hn]
    exact hn
  · have hno : leastO (Fix.sumZ base l) = none := by rw [leastO, dif_neg h]
    rw [hno]
    intro w h1 h2 hw
    apply h
    have hm : ∀ v w, v ≤ w → Fix.sumZ base l v ≤ Fix.sumZ base l w := fun v w hv => Fix.sum_mono l _ _ v w ok (Int.le_refl _) hv
    obtain ⟨k, rfl⟩ : ∃ k : Nat, w = k := ⟨w.toNat, by omega⟩
    have h3 : 1 ≤ Fix.sumZ base l 1 := by
      rcases Int.lt_or_le (Fix.sumZ base l 1) 1 with c | c
      · have := Fix.sum_zero l base ok hb (by omega) k
        omega
      · exact c
    obtain ⟨m, -, hm'⟩ := Fix.least_to hm h3 k (by omega) (by omega) (by omega)
    exact ⟨m, hm'⟩
theorem leastP_fun {base : Int} {l : List Fix.LoadV} {e : Ending} (hm : Fix.mayB base l = true) (h : Fix.LeastP base l e) : e = .returned (.tuple #[.int .i64 (Fix.valO (leastO (Fix.sumZ base l))), .bool (leastO (Fix.sumZ base l)).isSome]) := by
  obtain ⟨hb, -, ok⟩ := Fix.may_parts hm
  exact Fix.leastP_is h (by rw [if_pos hm]; exact least_total ok hb.1)
/- how long it is busy, where it is -/
noncomputable def busyO (s : SetV) (i b : Int) : Option Int := if inI s i && Fix.mayB b (allL s i.toNat) then leastO (Fix.sumZ b (allL s i.toNat)) else none
theorem ofp_busy {s : SetV} {i b : Int} {e : Ending} (h : OfP s i b e) : e = .returned (.tuple #[.int .i64 (Fix.valO (busyO s i b)), .bool (busyO s i b).isSome]) := by
  unfold OfP at h
  unfold busyO
  cases hin : inI s i with
  | false => rw [hin] at h; simpa [Fix.valO] using h
  | true =>
    rw [hin] at h
    cases hm : Fix.mayB b (allL s i.toNat) with
    | false =>
      have := Fix.leastP_is (show Fix.LeastP b (allL s i.toNat) e from h) (r := none) (by rw [hm]; rfl)
      simpa using this
    | true =>
      have := leastP_fun hm (show Fix.LeastP b (allL s i.toNat) e from h)
      simpa using this
theorem busy_parts {s : SetV} (ha : allB s = true) (hu : ∀ t ∈ s.ts, U64 t.ecb ∧ U64 t.ucb) {k : Nat} (hk : k < s.ts.length) {b n : Int} (h : busyO s k b = some n) : Fix.mayB b (allL s k) = true ∧ Fix.IsLeast (Fix.sumZ b (allL s k)) (some n) := by
  unfold busyO at h
  rw [in_nat hk] at h
  simp only [Int.toNat_natCast, Bool.true_and] at h
  split at h
  · rename_i hm
    refine ⟨hm, ?_⟩
    rw [← h]
    exact least_total (loads_ok ha hu hk) (Fix.may_parts hm).1.1
  · cases h
/- of the q-th job: when it is done, at most -/
noncomputable def doneZ (s : SetV) (k : Nat) (b : Int) (q : Nat) : Int := Fix.valO (leastO (Fix.sumZ (b + (q + 1) * workZ (s.ts.getD k task0).regs) (loadsTo s k)))
noncomputable def respTo (s : SetV) (k : Nat) (b : Int) (m : Nat) : Int := (List.range m).foldl (fun a q => max a (doneZ s k b q - q * (s.ts.getD k task0).T)) 0
noncomputable def withR (s : SetV) (i b : Int) : Int := match busyO s i b with
  | none => 0
  | some L => respTo s i.toNat b (Fix.ceilZ L (s.ts.getD i.toNat task0).T).toNat
theorem resp_next (s : SetV) (k : Nat) (b : Int) (m : Nat) : respTo s k b (m + 1) = max (respTo s k b m) (doneZ s k b m - m * (s.ts.getD k task0).T) := by rw [respTo, List.range_succ, List.foldl_append]; rfl
theorem resp_ge (s : SetV) (k : Nat) (b : Int) : ∀ m : Nat, 0 ≤ respTo s k b m ∧ ∀ q : Nat, q < m → doneZ s k b q - q * (s.ts.getD k task0).T ≤ respTo s k b m
  | 0 => ⟨by simp [respTo], fun q h => by omega⟩
  | m + 1 => by
    obtain ⟨h1, h2⟩ := resp_ge s k b m
    rw [resp_next]
    refine ⟨by omega, fun q hq => ?_⟩
    rcases Nat.lt_or_ge q m with h | h
    · have := h2 q h; omega
    · have : q = m := by omega
      subst this; omega
theorem resp_le {s : SetV} {k : Nat} {b x : Int} (h0 : 0 ≤ x) : ∀ m : Nat, (∀ q : Nat, q < m → doneZ s k b q - q * (s.ts.getD k task0).T ≤ x) → respTo s k b m ≤ x
  | 0, _ => h0
  | m + 1, h => by
    have h1 := resp_le h0 m (fun q hq => h q (by omega))
    have h2 := h m (by omega)
    rw [resp_next]
    omega
theorem ceil_iff {q : Nat} {M T : Int} (hT : 1 ≤ T) : (q : Int) < Fix.ceilZ M T ↔ (q : Int) * T < M := by
  have u1 : Fix.ceilZ M T * T ≤ M + T - 1 := Int.ediv_mul_le _ (by omega)
  have u2 : M ≤ Fix.ceilZ M T * T := by
    have := Int.lt_ediv_add_one_mul_self (M + T - 1) (show 0 < T by omega)
    rw [Int.add_mul, Int.one_mul] at this
    unfold Fix.ceilZ
    omega
  constructor
  · intro hlt
    have := Int.mul_le_mul_of_nonneg_right (show (q : Int) + 1 ≤ Fix.ceilZ M T by omega) (show 0 ≤ T by omega)
    rw [Int.add_mul, Int.one_mul] at this
    omega
  · intro hlt
    rcases Int.lt_or_le (q : Int) (Fix.ceilZ M T) with c | c
    · exact c
    · have := Int.mul_le_mul_of_nonneg_right c (show 0 ≤ T by omega)
      omega
/- there is each, and it is at most as long as it is busy -/
theorem done_is {s : SetV} (ha : allB s = true) (hu : ∀ t ∈ s.ts, U64 t.ecb ∧ U64 t.ucb) {k : Nat} (hk : k < s.ts.length) {b L : Int} (h : busyO s k b = some L) {q : Nat} (hq : (q : Int) * (s.ts.getD k task0).T < L) :
    Fix.mayB (b + (q + 1) * workZ (s.ts.getD k task0).regs) (loadsTo s k) = true ∧ Fix.IsLeast (Fix.sumZ (b + (q + 1) * workZ (s.ts.getD k task0).regs) (loadsTo s k)) (some (doneZ s k b q)) ∧ doneZ s k b q ≤ L ∧ b + (q + 1) * workZ (s.ts.getD k task0).regs ≤ doneZ s k b q := by
  obtain ⟨hm, hl⟩ := busy_parts ha hu hk h
  obtain ⟨hr, h8, -, hfit⟩ := all_fits ha hu
  have hw := task_time (hfit k hk).is
  have ok := loads_ok ha hu hk
  have okL : Fix.OkL (loadsTo s k) := fun x hx => ok x (List.mem_append_left _ hx)
  obtain ⟨hb, -, -⟩ := Fix.may_parts hm
  obtain ⟨⟨hL1, hL2⟩, hf, -⟩ := hl
  have hT := hw.1.1
  have hc : (q : Int) + 1 ≤ Fix.ceilZ L (s.ts.getD k task0).T := by
    rcases Int.lt_or_le (Fix.ceilZ L (s.ts.getD k task0).T) (q + 1) with c | c
    · have h1 : L ≤ Fix.ceilZ L (s.ts.getD k task0).T * (s.ts.getD k task0).T := by
        have := Int.lt_ediv_add_one_mul_self (L + (s.ts.getD k task0).T - 1) (show 0 < (s.ts.getD k task0).T by omega)
        rw [Int.add_mul, Int.one_mul] at this
        unfold Fix.ceilZ
        omega
      have h2 := Int.mul_le_mul_of_nonneg_right (show Fix.ceilZ L (s.ts.getD k task0).T ≤ q by omega) (show 0 ≤ (s.ts.getD k task0).T by omega)
      omega
    · exact c
  rw [all_sum] at hf
  have he : Fix.addZ L (ownL s k) = Fix.ceilZ L (s.ts.getD k task0).T * workZ (s.ts.getD k task0).regs := rfl
  rw [he] at hf
  have hwc := Int.mul_le_mul_of_nonneg_right hc (show 0 ≤ workZ (s.ts.getD k task0).regs by omega)
  have hw1 := Int.mul_le_mul_of_nonneg_right (show (1 : Int) ≤ (q : Int) + 1 by omega) (show 0 ≤ workZ (s.ts.getD k task0).regs by omega)
  rw [Int.one_mul] at hw1
  have hDZ : doneZ s k b q = Fix.valO (leastO (Fix.sumZ (b + (q + 1) * workZ (s.ts.getD k task0).regs) (loadsTo s k))) := rfl
  rw [hDZ]
  generalize Fix.ceilZ L (s.ts.getD k task0).T * workZ (s.ts.getD k task0).regs = CW at *
  generalize ((q : Int) + 1) * workZ (s.ts.getD k task0).regs = QW at *
  have hlen := loads_len s k
  have hm' : Fix.mayB (b + QW) (loadsTo s k) = true := by
    have hS := Fix.sum_low (loadsTo s k) b L okL (by omega)
    exact Fix.may_of ⟨by omega, by omega⟩ (by rw [hlen]; omega) okL
  have hL : Fix.sumZ (b + QW) (loadsTo s k) L ≤ L := by
    rw [Fix.sum_base] at hf ⊢
    omega
  obtain ⟨n, rfl⟩ : ∃ n : Nat, L = n := ⟨L.toNat, by omega⟩
  obtain ⟨m, hmn, hml⟩ := Fix.least_to (f := Fix.sumZ (b + QW) (loadsTo s k)) (fun v w hv => Fix.sum_mono _ _ _ v w okL (Int.le_refl _) hv) (by have := Fix.sum_low (loadsTo s k) (b + QW) 1 okL (by decide); omega) n (by omega) (by omega) hL
  have e : Fix.valO (leastO (Fix.sumZ (b + QW) (loadsTo s k))) = m := by rw [leastO_some hml]; rfl
  rw [e]
  refine ⟨hm', hml, hmn, ?_⟩
  have h1 := Fix.sum_low (loadsTo s k) (b + QW) m okL (by have := hml.1.1; omega)
  have h2 := hml.2.1
  omega
/- with less blocking it is no greater -/
theorem resp_less {s : SetV} (ha : allB s = true) (hu : ∀ t ∈ s.ts, U64 t.ecb ∧ U64 t.ucb) {k : Nat} (hk : k < s.ts.length) {b less L : Int} (h0 : 0 ≤ less ∧ less ≤ b) (h : busyO s k b = some L) : ∃ L', busyO s k (b - less) = some L' ∧ withR s k (b - less) ≤ withR s k b := by
  obtain ⟨hm, hl⟩ := busy_parts ha hu hk h
  have ok := loads_ok ha hu hk
  obtain ⟨hb, h64, -⟩ := Fix.may_parts hm
  obtain ⟨hr, h8, -, hfit⟩ := all_fits ha hu
  have hw := task_time (hfit k hk).is
  have hm' : Fix.mayB (b - less) (allL s k) = true := Fix.may_of ⟨by omega, by omega⟩ h64 ok
  have hg : ∀ w, 1 ≤ w → Fix.sumZ (b - less) (allL s k) w ≤ Fix.sumZ b (allL s k) w := fun w _ => Fix.sum_mono _ _ _ w w ok (by omega) (Int.le_refl _)
  obtain ⟨L', hl'⟩ := Fix.least_some hl (fun v w hv => Fix.sum_mono _ _ _ v w ok (Int.le_refl _) hv) (by have := act_low ok (b - less) (w := 1) (by decide); omega) hg
  have hLL := Fix.least_le hl hl' hg
  have hB' : busyO s k (b - less) = some L' := by
    unfold busyO
    rw [in_nat hk]
    simp only [Int.toNat_natCast, Bool.true_and]
    rw [if_pos hm']
    exact leastO_some hl'
  refine ⟨L', hB', ?_⟩
  unfold withR
  rw [h, hB']
  simp only [Int.toNat_natCast]
  refine resp_le (resp_ge s k b _).1 _ (fun q hq => ?_)
  have hT := hw.1.1
  have hcq : ∀ M : Int, 1 ≤ M → ((q : Int) < Fix.ceilZ M (s.ts.getD k task0).T ↔ (q : Int) * (s.ts.getD k task0).T < M) := fun M hM => by
    have u1 : Fix.ceilZ M (s.ts.getD k task0).T * (s.ts.getD k task0).T ≤ M + (s.ts.getD k task0).T - 1 := Int.ediv_mul_le _ (by omega)
    have u2 : M ≤ Fix.ceilZ M (s.ts.getD k task0).T * (s.ts.getD k task0).T := by
      have := Int.lt_ediv_add_one_mul_self (M + (s.ts.getD k task0).T - 1) (show 0 < (s.ts.getD k task0).T by omega)
      rw [Int.add_mul, Int.one_mul] at this
      unfold Fix.ceilZ
      omega
    constructor
    · intro hlt
      have := Int.mul_le_mul_of_nonneg_right (show (q : Int) + 1 ≤ Fix.ceilZ M (s.ts.getD k task0).T by omega) (show 0 ≤ (s.ts.getD k task0).T by omega)
      rw [Int.add_mul, Int.one_mul] at this
      omega
    · intro hlt
      rcases Int.lt_or_le (q : Int) (Fix.ceilZ M (s.ts.getD k task0).T) with c | c
      · exact c
      · have := Int.mul_le_mul_of_nonneg_right c (show 0 ≤ (s.ts.getD k task0).T by omega)
        omega
  have hL1 := hl.1.1
  have hL1' := hl'.1.1
  have hq' : (q : Int) * (s.ts.getD k task0).T < L' := (hcq L' hL1').1 (by omega)
  have hq2 : (q : Int) * (s.ts.getD k task0).T < L := by omega
  have hqc := (hcq L hL1).2 hq2
  have d1 := done_is ha hu hk hB' hq'
  have d2 := done_is ha hu hk h hq2
  have okL : Fix.OkL (loadsTo s k) := fun x hx => ok x (List.mem_append_left _ hx)
  have hle := Fix.least_le d2.2.1 d1.2.1 (fun w _ => Fix.sum_mono _ _ _ w w okL (by omega) (Int.le_refl _))
  have hge := (resp_ge s k b (Fix.ceilZ L (s.ts.getD k task0).T).toNat).2 q (by omega)
  omega
end Go.Proofs.Ytndhjfpjhpnbaaa.Lex
