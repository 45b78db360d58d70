/- A set beside another one, in which nothing is longer: what comes, how long it is busy, how long a job takes. In plain words. -/
import Derived.Test.YtndhjfpjhpnbaaaRespRef
import Derived.Test.YtndhjfpjhpnbaaaBlockSpec
namespace Go.Proofs.Ytndhjfpjhpnbaaa.Lex
set_option maxRecDepth 100000
open Go.ChangeShapes Go.WideShapes Go.RowKit

structure Easier (x s : SetV) : Prop where
  len : x.ts.length = s.ts.length
  T : ∀ k, k < s.ts.length → (x.ts.getD k task0).T = (s.ts.getD k task0).T
  D : ∀ k, k < s.ts.length → (x.ts.getD k task0).D = (s.ts.getD k task0).D
  work : ∀ k, k < s.ts.length → workZ (x.ts.getD k task0).regs ≤ workZ (s.ts.getD k task0).regs
  made : ∀ k : Nat, k < s.ts.length → madeZ x k ≤ madeZ s k
theorem Easier.refl (s : SetV) : Easier s s := ⟨rfl, fun _ _ => rfl, fun _ _ => rfl, fun _ _ => Int.le_refl _, fun _ _ => Int.le_refl _⟩
theorem sum_map_le {f g : Nat → Fix.LoadV} {w : Int} (hw : 0 ≤ w) : ∀ (L : List Nat) (b' b : Int), (∀ h ∈ L, (f h).T = (g h).T ∧ 1 ≤ (g h).T ∧ (f h).C ≤ (g h).C) → b' ≤ b → Fix.sumZ b' (L.map f) w ≤ Fix.sumZ b (L.map g) w
  | [], b', b, _, h => by simpa [Fix.sumZ] using h
  | j :: L, b', b, hfg, h => by
    obtain ⟨h1, h2, h3⟩ := hfg j (List.mem_cons_self ..)
    rw [List.map_cons, List.map_cons, Fix.sum_cons, Fix.sum_cons]
    refine sum_map_le hw L _ _ (fun i hi => hfg i (List.mem_cons_of_mem _ hi)) ?_
    have hc := Fix.ceil_range (w := w) h2 hw
    have e : Fix.addZ w (f j) ≤ Fix.addZ w (g j) := by
      unfold Fix.addZ
      rw [h1]
      exact Int.mul_le_mul_of_nonneg_left h3 hc.1
    omega
theorem easy_sum {x s : SetV} (hx : Easier x s) (ha : allB s = true) (hu : ∀ t ∈ s.ts, U64 t.ecb ∧ U64 t.ucb) {k : Nat} (hk : k < s.ts.length) {b' b w : Int} (hb : b' ≤ b) (hw : 0 ≤ w) :
    Fix.sumZ b' (loadsTo x k) w ≤ Fix.sumZ b (loadsTo s k) w ∧ Fix.sumZ b' (allL x k) w ≤ Fix.sumZ b (allL s k) w := by
  obtain ⟨-, -, -, hfit⟩ := all_fits ha hu
  have h1 : ∀ b' b : Int, b' ≤ b → Fix.sumZ b' (loadsTo x k) w ≤ Fix.sumZ b (loadsTo s k) w := fun b' b hb => by
    refine sum_map_le hw (List.range k) b' b (fun h hh => ?_) hb
    have hl : h < s.ts.length := by have := List.mem_range.1 hh; omega
    have hw := task_time (hfit h hl).is
    have h2 := hx.work h hl
    have h3 := hx.made h hl
    exact ⟨hx.T h hl, hw.1.1, by show workZ _ + madeZ _ _ ≤ workZ _ + madeZ _ _; omega⟩
  refine ⟨h1 b' b hb, ?_⟩
  rw [all_sum, all_sum]
  have h2 := h1 b' b hb
  have hw' := task_time (hfit k hk).is
  have h3 := hx.work k hk
  have e : Fix.addZ w (ownL x k) ≤ Fix.addZ w (ownL s k) := by
    show Fix.ceilZ w (x.ts.getD k task0).T * workZ (x.ts.getD k task0).regs ≤ Fix.ceilZ w (s.ts.getD k task0).T * workZ (s.ts.getD k task0).regs
    rw [hx.T k hk]
    exact Int.mul_le_mul_of_nonneg_left h3 (Fix.ceil_range (w := w) hw'.1.1 hw).1
  omega
theorem easy_busy {x s : SetV} (hx : Easier x s) (ha : allB s = true) (hu : ∀ t ∈ s.ts, U64 t.ecb ∧ U64 t.ucb) (hax : allB x = true) (hux : ∀ t ∈ x.ts, U64 t.ecb ∧ U64 t.ucb) {k : Nat} (hk : k < s.ts.length) {b' b L : Int} (h0 : 0 ≤ b' ∧ b' ≤ b) (h : busyO s k b = some L) :
    ∃ L', busyO x k b' = some L' ∧ L' ≤ L ∧ withR x k b' ≤ withR s k b := by
  have hkx : k < x.ts.length := by rw [hx.len]; exact hk
  obtain ⟨hm, hl⟩ := busy_parts ha hu hk h
  have ok := loads_ok ha hu hk
  have okx := loads_ok hax hux hkx
  obtain ⟨hb, h64, -⟩ := Fix.may_parts hm
  obtain ⟨hr, h8, -, hfit⟩ := all_fits ha hu
  obtain ⟨-, -, -, hfitx⟩ := all_fits hax hux
  have hw := task_time (hfit k hk).is
  have hwx := task_time (hfitx k hkx).is
  have hm' : Fix.mayB b' (allL x k) = true := Fix.may_of ⟨by omega, by omega⟩ (by rw [allL, List.length_append, loads_len, List.length_singleton]; omega) okx
  have hg : ∀ w, 1 ≤ w → Fix.sumZ b' (allL x k) w ≤ Fix.sumZ b (allL s k) w := fun w h1 => (easy_sum hx ha hu hk h0.2 (by omega)).2
  obtain ⟨L', hl'⟩ := Fix.least_some hl (fun v w hv => Fix.sum_mono _ _ _ v w okx (Int.le_refl _) hv) (by have := act_low okx b' (w := 1) (by decide); omega) hg
  have hLL := Fix.least_le hl hl' hg
  have hB' : busyO x k b' = some L' := by
    unfold busyO
    rw [in_nat hkx]
    simp only [Int.toNat_natCast, Bool.true_and]
    rw [if_pos hm']
    exact leastO_some hl'
  refine ⟨L', hB', hLL, ?_⟩
  unfold withR
  rw [h, hB']
  simp only [Int.toNat_natCast]
  have hTe := hx.T k hk
  refine resp_le (resp_ge s k b _).1 _ (fun q hq => ?_)
  have hT := hw.1.1
  have hL1 := hl.1.1
  have hL1' := hl'.1.1
  rw [hTe] at hq
  have hq' : (q : Int) * (s.ts.getD k task0).T < L' := (ceil_iff hT).1 (by omega)
  have hq2 : (q : Int) * (s.ts.getD k task0).T < L := by omega
  have hqc := (ceil_iff hT).2 hq2
  have d1 := done_is hax hux hkx hB' (by rw [hTe]; exact hq')
  have d2 := done_is ha hu hk h hq2
  have hwq : (q + 1 : Int) * workZ (x.ts.getD k task0).regs ≤ (q + 1 : Int) * workZ (s.ts.getD k task0).regs := Int.mul_le_mul_of_nonneg_left (hx.work k hk) (by omega)
  have hle := Fix.least_le d2.2.1 d1.2.1 (fun w h1 => (easy_sum hx ha hu hk (by omega) (by omega)).1)
  have hge := (resp_ge s k b (Fix.ceilZ L (s.ts.getD k task0).T).toNat).2 q (by omega)
  rw [hTe]
  omega
theorem with_busy {s : SetV} {k : Nat} {b : Int} (h : withH s k b = 1) : ∃ L, busyO s k b = some L ∧ withR s k b ≤ (s.ts.getD k task0).D := by
  rw [withH] at h
  cases hB : busyO s k b with
  | none => rw [hB] at h; simp at h
  | some L =>
    rw [hB] at h
    simp only [Int.toNat_natCast] at h
    refine ⟨L, rfl, ?_⟩
    by_cases c : withR s k b ≤ (s.ts.getD k task0).D
    · exact c
    · rw [if_neg c] at h; simp at h
theorem with_from {s : SetV} {k : Nat} {b L : Int} (h : busyO s k b = some L) (hD : withR s k b ≤ (s.ts.getD k task0).D) : withH s k b = 1 := by
  rw [withH, h]
  simp only [Int.toNat_natCast]
  rw [if_pos hD]
/- what is accepted is accepted where nothing is longer -/
theorem easy_with {x s : SetV} (hx : Easier x s) (ha : allB s = true) (hu : ∀ t ∈ s.ts, U64 t.ecb ∧ U64 t.ucb) (hax : allB x = true) (hux : ∀ t ∈ x.ts, U64 t.ecb ∧ U64 t.ucb) {k : Nat} (hk : k < s.ts.length) {b' b : Int} (h0 : 0 ≤ b' ∧ b' ≤ b) (h : withH s k b = 1) : withH x k b' = 1 := by
  obtain ⟨L, hB, hD⟩ := with_busy h
  obtain ⟨L', hB', -, hR⟩ := easy_busy hx ha hu hax hux hk h0 hB
  exact with_from hB' (by rw [hx.D k hk]; omega)
/- only what may be is accepted -/
theorem with_may {s : SetV} (ha : allB s = true) (hu : ∀ t ∈ s.ts, U64 t.ecb ∧ U64 t.ucb) {k : Nat} (hk : k < s.ts.length) {b : Int} (h : withH s k b = 1) : 0 ≤ b ∧ b ≤ 1000000 := by
  obtain ⟨L, hB, -⟩ := with_busy h
  exact (Fix.may_parts (busy_parts ha hu hk hB).1).1

/- a region shorter by one -/
def lessT (t : TaskV) (p : Nat) : TaskV := { t with regs := t.regs.set p (t.regs.getD p 0 - 1) }
def lessS (s : SetV) (i p : Nat) : SetV := { s with ts := s.ts.set i (lessT (s.ts.getD i task0) p) }
theorem fold_add (l : List Int) : ∀ a : Int, l.foldl (· + ·) a = a + l.foldl (· + ·) 0 := by
  induction l with
  | nil => intro a; simp
  | cons x l ih => intro a; simp only [List.foldl_cons]; rw [ih (a + x), ih (0 + x)]; omega
theorem work_head (x : Int) (l : List Int) : workZ (x :: l) = x + workZ l := by
  show (x :: l).foldl (· + ·) 0 = _
  rw [List.foldl_cons, fold_add]
  show 0 + x + workZ l = _
  omega
theorem work_set : ∀ (l : List Int) (p : Nat) (v : Int), p < l.length → workZ (l.set p v) = workZ l - l.getD p 0 + v
  | [], p, v, h => by simp at h
  | x :: l, 0, v, _ => by rw [List.set_cons_zero, work_head, work_head]; simp; omega
  | x :: l, p + 1, v, h => by
    rw [List.set_cons_succ, work_head, work_head, work_set l p v (by simpa using h)]
    have : (x :: l).getD (p + 1) 0 = l.getD p 0 := by simp [List.getD]
    rw [this]; omega
theorem work_less {t : TaskV} {p : Nat} (h : p < t.regs.length) : workZ (lessT t p).regs = workZ t.regs - 1 := by
  show workZ (t.regs.set p (t.regs.getD p 0 - 1)) = _
  rw [work_set _ _ _ h]; omega
theorem max_mono (l : List Int) : ∀ a b : Int, a ≤ b → l.foldl max a ≤ l.foldl max b := by
  induction l with
  | nil => intro a b h; simpa using h
  | cons y l ih => intro a b h; simp only [List.foldl_cons]; exact ih _ _ (by omega)
theorem long_set : ∀ (l : List Int) (p : Nat) (v a : Int), v ≤ l.getD p 0 → (l.set p v).foldl max a ≤ l.foldl max a
  | [], p, v, a, _ => by simp
  | x :: l, 0, v, a, h => by
    rw [List.set_cons_zero, List.foldl_cons, List.foldl_cons]
    have : v ≤ x := by simpa [List.getD] using h
    exact max_mono l _ _ (by omega)
  | x :: l, p + 1, v, a, h => by
    rw [List.set_cons_succ, List.foldl_cons, List.foldl_cons]
    exact long_set l p v _ (by simpa [List.getD] using h)
theorem long_less (t : TaskV) (p : Nat) : longZ (lessT t p).regs ≤ longZ t.regs := long_set _ _ _ _ (by omega)
end Go.Proofs.Ytndhjfpjhpnbaaa.Lex
