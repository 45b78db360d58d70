/- What the references of chapter 5 answer: a name, a task. -/
import Derived.Test.YtndhjfpjhpnbaaaTaskSpec
import Derived.Test.YtndhjfpjhpnbaaaLexRef2
import Derived.Deep.RegionHeld3
namespace Go.Proofs.Ytndhjfpjhpnbaaa.Lex
set_option maxRecDepth 100000
open Go.ChangeShapes Go.WideShapes Go.RowKit

/- what was just laid lies there still -/
theorem boxed {w w1 : World} {cs : Array Value} {ty : TypeId} (h : Below (w.alloc (.cells cs ty)).heap.size (w.alloc (.cells cs ty)) w1) : ∀ j v, cs[j]? = some v → w1.cell? ⟨w.heap.size, j, none⟩ = some v := by
  intro j v hj
  have hat := h.block w.heap.size (by simp)
  rw [heap_alloc_new] at hat
  simp [World.cell?, hat, hj]
theorem boxed9 {w w1 : World} {a0 a1 a2 a3 a4 a5 a6 a7 a8 : Value} {ty : TypeId} (h : Below (w.alloc (.cells #[a0, a1, a2, a3, a4, a5, a6, a7, a8] ty)).heap.size (w.alloc (.cells #[a0, a1, a2, a3, a4, a5, a6, a7, a8] ty)) w1) :
    w1.cell? ⟨w.heap.size, 0, none⟩ = some a0 ∧ w1.cell? ⟨w.heap.size, 1, none⟩ = some a1 ∧ w1.cell? ⟨w.heap.size, 2, none⟩ = some a2 ∧ w1.cell? ⟨w.heap.size, 3, none⟩ = some a3 ∧ w1.cell? ⟨w.heap.size, 4, none⟩ = some a4
      ∧ w1.cell? ⟨w.heap.size, 5, none⟩ = some a5 ∧ w1.cell? ⟨w.heap.size, 6, none⟩ = some a6 ∧ w1.cell? ⟨w.heap.size, 7, none⟩ = some a7 ∧ w1.cell? ⟨w.heap.size, 8, none⟩ = some a8 :=
  ⟨boxed h 0 _ rfl, boxed h 1 _ rfl, boxed h 2 _ rfl, boxed h 3 _ rfl, boxed h 4 _ rfl, boxed h 5 _ rfl, boxed h 6 _ rfl, boxed h 7 _ rfl, boxed h 8 _ rfl⟩
theorem bel_box {a w w1 : World} {cs : Array Value} {ty : TypeId} (h : Below a.heap.size a w) (k : Below (w.alloc (.cells cs ty)).heap.size (w.alloc (.cells cs ty)) w1) : Below a.heap.size a w1 :=
  (h.alloc h.size _).trans (k.mono (by simpa using Nat.le_succ_of_le h.size))

/- a name -/
theorem name_one (s : ByteArray) (hs : 0 < s.size) (h : smallC (s[0]'hs) = true) : nameB (bl s) = ((oneN (bl s) == s.size) && ((oneT (bl s)).kind == 1)) := by
  obtain ⟨r, hr⟩ := bl_cons s hs
  have hl := bl_len s
  rw [hr] at hl ⊢
  rw [nameB, h, oneN, oneT, hl]
  cases oneOf (s[0] :: r) with
  | none => simp [noTok]
  | some p => rfl
set_option maxHeartbeats 400000 in
theorem rname_any (s : ByteArray) (w : World) (hmax : s.size ≤ 9223372036854775807) : Calls Try.prog 32 #[.string s] w fun e w' => e = .returned (.bool (nameB (bl s))) ∧ Below w.heap.size w w' := by
  by_cases h0 : s.size = 0
  · have hn : nameB (bl s) = false := by
      have : bl s = [] := List.eq_nil_of_length_eq_zero (by rw [bl_len]; exact h0)
      rw [this]; rfl
    have h0' : ((s.size : Int) == 0) = true := beq_iff_eq.2 (by omega)
    rw [hn]
    clear hn h0
    go_enter Try.func32, Try.ntmps32
    go_wp2
    go_ret
    exact ⟨rfl, Below.refl _ _⟩
  · have hs : 0 < s.size := by omega
    have hs' : (0 : Int) < s.size := by omega
    have h0' : ((s.size : Int) == 0) = false := beq_eq_false_iff_ne.2 (by omega)
    have h3 := small_nat (s[0]'hs)
    cases hm : smallC (s[0]'hs)
    · have hn : nameB (bl s) = false := by
        obtain ⟨r, hr⟩ := bl_cons s hs
        rw [hr]; simp [nameB, hm]
      rw [hn]
      rw [hm] at h3
      clear hn h0 hm
      go_enter Try.func32, Try.ntmps32
      go_wp2_with (go_at_call 41; refine (rsmall_any _ _).mono ?_; rintro e w' ⟨rfl, hw⟩; rw [hw]; clear hw w')
      go_ret
      exact ⟨rfl, Below.refl _ _⟩
    · rw [name_one s hs hm]
      rw [hm] at h3
      have CO := hide (fun w => rone_any s w hs hmax)
      generalize oneT (bl s) = t at *
      generalize oneN (bl s) = m at *
      obtain ⟨kd, tx, tn, tp⟩ := t
      clear h0 hm
      have hmm : ((m : Int) == s.size) = (m == s.size) := by rw [Bool.eq_iff_iff]; simp; omega
      cases hz : m == s.size
      · rw [hz] at hmm
        go_enter Try.func32, Try.ntmps32
        go_wp2_with (first
          | (go_at_call 41; refine (rsmall_any _ _).mono ?_; rintro e w' ⟨rfl, hw⟩; rw [hw]; clear hw w')
          | (go_at_call 42; refine (unhide CO _).mono ?_; rintro e w1 ⟨rfl, bel⟩; rw [tokV]))
        go_ret
        exact ⟨rfl, bel.alloc bel.size _⟩
      · rw [hz] at hmm
        go_enter Try.func32, Try.ntmps32
        go_wp2_with (first
          | (go_at_call 41; refine (rsmall_any _ _).mono ?_; rintro e w' ⟨rfl, hw⟩; rw [hw]; clear hw w')
          | (go_at_call 42; refine (unhide CO _).mono ?_; rintro e w1 ⟨rfl, bel⟩; rw [tokV]))
        go_ret
        exact ⟨rfl, bel.alloc bel.size _⟩
theorem rin_any (n a b : Int) (w : World) : Calls Try.prog 23 #[.int .i64 n, .int .i64 a, .int .i64 b] w fun e w' => e = .returned (.bool (inB n a b)) ∧ w' = w := by
  by_cases h0 : a ≤ n
  · go_enter Try.func23, Try.ntmps23
    go_wp2
    go_ret
    exact ⟨ret_bool (by simp [inB, h0]), rfl⟩
  · go_enter Try.func23, Try.ntmps23
    go_wp2
    go_ret
    exact ⟨ret_bool (by simp [inB]; omega), rfl⟩

/- the work -/
theorem work_take (l : List Int) (k : Nat) (h : k < l.length) : workZ (l.take (k + 1)) = workZ (l.take k) + l.getD k 0 := by
  rw [List.take_add_one, List.getElem?_eq_getElem h, workZ, List.foldl_append, workZ]
  simp [List.getD, h]
theorem work_fold (l : List Int) : ∀ v : Int, l.foldl (· + ·) v = v + workZ l := by
  induction l with
  | nil => intro v; simp [workZ]
  | cons a r ih => intro v; rw [List.foldl_cons, ih, show workZ (a :: r) = (0 + a) + workZ r from ih (0 + a)]; omega
theorem work_cons (a : Int) (l : List Int) : workZ (a :: l) = a + workZ l := by
  rw [workZ, List.foldl_cons, work_fold]; omega
theorem work_bound (l : List Int) (h : ∀ n ∈ l, 1 ≤ n ∧ n ≤ 10000) : 0 ≤ workZ l ∧ workZ l ≤ 10000 * l.length := by
  induction l with
  | nil => exact ⟨Int.le_refl _, Int.le_refl _⟩
  | cons a r ih =>
    have h1 := h a (by simp)
    have h2 := ih (fun n hn => h n (by simp [hn]))
    rw [work_cons, List.length_cons]; omega
/- regions that may be: few, and each small -/
def regsB (l : List Int) : Bool := decide (l.length ≤ 8) && l.all (inB · 1 10000)
theorem regs_each {l : List Int} (h : regsB l = true) : l.length ≤ 8 ∧ ∀ n ∈ l, 1 ≤ n ∧ n ≤ 10000 := by
  simp only [regsB, Bool.and_eq_true, decide_eq_true_eq, List.all_eq_true, inB] at h
  exact ⟨h.1, fun n hn => by have := h.2 n hn; omega⟩
set_option maxHeartbeats 400000 in
theorem rwork_any (t : TaskV) (w : World) (ht : RegsIn w t.ao t.regs) (hr : regsB t.regs = true) : Calls Try.prog 31 #[t.val] w fun e w' => e = .returned (.int .i64 (workZ t.regs)) ∧ Below w.heap.size w w' := by
  obtain ⟨name, T, D, mode, Q, theta, ao, cap, ecb, ucb, l⟩ := t
  obtain ⟨h8, heach⟩ := regs_each hr
  simp only at ht h8 heach ⊢
  have hcell : ∀ j, j < l.length → ∃ b off, ao = some ⟨b, off, none⟩ ∧ b < w.heap.size ∧ w.cell? ⟨b, off + j, none⟩ = some (.int .i64 (l.getD j 0)) := fun j hj => by
    obtain ⟨b, off, e, h⟩ := ht (fun e => by rw [e] at hj; simp at hj)
    exact ⟨b, off, e, World.block_lt_of_cell? w _ (h j hj), h j hj⟩
  have HC := hide hcell
  have HE := hide heach
  clear ht hcell heach hr
  go_enter Try.func31, Try.ntmps31
  rw [TaskV.val, TaskV.cells]
  simp only
  go_wp2
  go_loop [3, 4] (fun v i => ∃ k : Nat, k ≤ l.length ∧ i = .int .i64 k ∧ v = .int .i64 (workZ (l.take k))) (fun _ i => l.length - (intOf i).toNat)
  case atStart => exact ⟨0, Nat.zero_le _, rfl, rfl⟩
  case round =>
    obtain ⟨k, hk, rfl, rfl⟩ := hrel
    by_cases hlt : k < l.length
    · obtain ⟨b, off, rfl, hb, hc⟩ := unhide HC k hlt
      have hw := work_take l k hlt
      have hbd := work_bound (l.take k) (fun n hn => unhide HE n (List.mem_of_mem_take hn))
      have hn : 1 ≤ l.getD k 0 ∧ l.getD k 0 ≤ 10000 := unhide HE _ (by rw [List.getD_eq_getElem?_getD, List.getElem?_eq_getElem hlt]; exact List.getElem_mem _)
      have hl : (l.take k).length ≤ 8 := by rw [List.length_take]; omega
      have HK := hide hw
      clear hw
      generalize workZ (l.take k) = V at *
      generalize l.getD k 0 = n at *
      generalize (l.take k).length = q at *
      obtain ⟨n0, n1⟩ := hn
      obtain ⟨v0, v1⟩ := hbd
      have hne : b ≠ w.heap.size := Nat.ne_of_lt hb
      go_wp2
      go_round
      case rel => exact ⟨k + 1, by omega, by go_num, by rw [unhide HK]⟩
      case measure => simp [intOf]; omega
    · have e : l.take k = l := List.take_of_length_le (by omega)
      rw [e]
      go_wp2
      go_ret
      exact ⟨rfl, (Below.refl _ _).alloc (Nat.le_refl _) _⟩

/- a task -/
theorem regs_bel {w w' : World} {ao : Option Addr} {l : List Int} (h : RegsIn w ao l) (hb : Below w.heap.size w w') : RegsIn w' ao l := fun hl => by
  obtain ⟨b, off, e, hc⟩ := h hl
  exact ⟨b, off, e, fun j hj => by rw [hb.cell (World.block_lt_of_cell? w _ (hc j hj))]; exact hc j hj⟩
theorem getD_mem {l : List Int} {k : Nat} (h : k < l.length) : l.getD k 0 ∈ l := by
  rw [List.getD_eq_getElem?_getD, List.getElem?_eq_getElem h]; exact List.getElem_mem _
theorem all_next {l : List Int} {k : Nat} {p : Int → Bool} (h : k < l.length) (ha : (l.take k).all p = true) (hp : p (l.getD k 0) = true) : (l.take (k + 1)).all p = true := by
  rw [List.take_add_one, List.getElem?_eq_getElem h, List.all_append, ha]
  rw [List.getD_eq_getElem?_getD, List.getElem?_eq_getElem h] at hp
  simpa using hp
theorem all_not {l : List Int} {k : Nat} {p : Int → Bool} (h : k < l.length) (hp : p (l.getD k 0) = false) : l.all p = false := by
  rw [List.all_eq_false]; exact ⟨_, getD_mem h, by rw [hp]; simp⟩
theorem is_no1 {t : TaskV} {p : Int} (h : nameB (bl t.name) = false) : isB t p = false := by
  show (nameB (bl t.name) && _) = false
  rw [h]; rfl
theorem cell_bel' {w w' : World} {a : Addr} {u : Value} (h : w.cell? a = some u) (hb : Below w.heap.size w w') : w'.cell? a = some u := by
  rw [hb.cell (World.block_lt_of_cell? w _ h)]; exact h
theorem mode_0a {mode Q : Int} (theta p : Int) (h : (mode == 0) = true) (hq : Q = 0) : (theta == 0) = modeB mode Q theta p := by
  have : mode = 0 := by simpa using h
  simp [modeB, this, hq]
theorem mode_0b {mode Q : Int} (theta p : Int) (h : (mode == 0) = true) (hq : ¬ Q = 0) : false = modeB mode Q theta p := by
  have : mode = 0 := by simpa using h
  simp [modeB, this, hq]
theorem mode_1a {mode Q : Int} (theta p : Int) (_ : (mode == 0) = false) (h : (mode == 1) = true) (hq : inB Q 0 10000 = true) : (theta == 0) = modeB mode Q theta p := by
  have : mode = 1 := by simpa using h
  simp [modeB, this, hq]
theorem mode_1b {mode Q : Int} (theta p : Int) (_ : (mode == 0) = false) (h : (mode == 1) = true) (hq : ¬ inB Q 0 10000 = true) : false = modeB mode Q theta p := by
  have : mode = 1 := by simpa using h
  simp [modeB, this, hq]
theorem mode_2a {mode Q theta : Int} (p : Int) (_ : (mode == 0) = false) (_ : (mode == 1) = false) (h : (mode == 2) = true) (hq : Q = 0) (ht : 0 ≤ theta) : decide (theta ≤ p) = modeB mode Q theta p := by
  have : mode = 2 := by simpa using h
  simp [modeB, this, hq, ht]
theorem mode_2b {mode Q theta : Int} (p : Int) (_ : (mode == 0) = false) (_ : (mode == 1) = false) (h : (mode == 2) = true) (hq : Q = 0) (ht : theta < 0) : false = modeB mode Q theta p := by
  have : mode = 2 := by simpa using h
  have : ¬ 0 ≤ theta := by omega
  simp [modeB, *]
theorem mode_2c {mode Q : Int} (theta p : Int) (_ : (mode == 0) = false) (_ : (mode == 1) = false) (h : (mode == 2) = true) (hq : ¬ Q = 0) : false = modeB mode Q theta p := by
  have : mode = 2 := by simpa using h
  simp [modeB, this, hq]
theorem mode_3 {mode : Int} (Q theta p : Int) (h0 : (mode == 0) = false) (h1 : (mode == 1) = false) (h : (mode == 2) = false) : false = modeB mode Q theta p := by
  have h0' : ¬ mode = 0 := by simpa using h0
  have h1' : ¬ mode = 1 := by simpa using h1
  have h2' : ¬ mode = 2 := by simpa using h
  simp [modeB, h0', h1', h2']
/- a region that draws: an operation that is wanted and only reads, one that is not wanted, each taken first; where the next one alone may come up -/
theorem put_some {o : Oper} {d : Tmp} (a : Act) (v : Value) (h : o.dst = some d) : a.put o.dst v = { a with tmps := a.tmps.setIfInBounds d v } := by rw [h]; rfl
theorem take_yes {P : Program} {md : Region.Mode} {ops : Array Oper} {Q : Exit → Act → World → Prop} {S : World → Prop} {oi : Oper} {fuel : Nat} {listed : Array Bool} {a : Act} {w : World} (i : Nat) (d : Tmp) (v : Value) (hi : ops[i]? = some oi) (hd : oi.dst = some d)
    (hs : Region.noSelect ops = true) (hf : Region.free md ops listed i = true) (hr : (Region.ready md ops listed).contains i = true)
    (hQ : ∀ c a w, Q (.panic c) (a.put oi.dst v) w → Q (.panic c) a w) (hw : Region.wanted oi (yielded ops a.tmps) = true) (hS : S w) (hy : ∀ w, S w → (execOp a.eval oi).run P w = .ok (.value v) w)
    (h : wpAnyH P md ops Q S fuel (listed.setIfInBounds i true) { a with tmps := a.tmps.setIfInBounds d v } w) : wpAnyH P md ops Q S (fuel + 1) listed a w :=
  wpAnyH_take hi hs hf hr hQ (Or.inl ⟨hw, hy⟩) hS (by rw [put_some a v hd]; exact h)
theorem take_no {P : Program} {md : Region.Mode} {ops : Array Oper} {Q : Exit → Act → World → Prop} {S : World → Prop} {oi : Oper} {fuel : Nat} {listed : Array Bool} {a : Act} {w : World} (i : Nat) (d : Tmp) (hi : ops[i]? = some oi) (hd : oi.dst = some d)
    (hs : Region.noSelect ops = true) (hf : Region.free md ops listed i = true) (hr : (Region.ready md ops listed).contains i = true)
    (hQ : ∀ c a w, Q (.panic c) (a.put oi.dst undef) w → Q (.panic c) a w) (hw : Region.wanted oi (yielded ops a.tmps) = false) (hS : S w)
    (h : wpAnyH P md ops Q S fuel (listed.setIfInBounds i true) { a with tmps := a.tmps.setIfInBounds d undef } w) : wpAnyH P md ops Q S (fuel + 1) listed a w :=
  wpAnyH_take hi hs hf hr hQ (Or.inr ⟨hw, rfl⟩) hS (by rw [put_some a undef hd]; exact h)
set_option maxHeartbeats 3200000 in
theorem ris_any (t : TaskV) (p : Int) (w : World) (ht : TaskIn w t) : Calls Try.prog 24 #[t.val, .int .i64 p] w fun e w' => e = .returned (.bool (isB t p)) ∧ Below w.heap.size w w' := by
  obtain ⟨name, T, D, mode, Q, theta, ao, cap, ecb, ucb, l⟩ := t
  obtain ⟨hreg, -, hlen, hnm, -, -, -, -, -, -, -, -⟩ := ht
  simp only at hreg hlen hnm
  have CN := hide (fun w => rname_any name w hnm)
  have HREG := hide hreg
  clear hreg hnm
  have his : isB ⟨name, T, D, mode, Q, theta, ao, cap, ecb, ucb, l⟩ p = (nameB (bl name) && (decide (1 ≤ l.length) && (decide (l.length ≤ 8) && (maskB ucb ecb && (l.all (inB · 1 10000) && (decide (workZ l ≤ D) && (decide (D ≤ T) && (decide (T ≤ 10000) && modeB mode Q theta p)))))))) := rfl
  rw [his]
  clear his
  cases hn : nameB (bl name)
  · rw [hn] at CN
    rw [Bool.false_and]
    clear hn
    go_enter Try.func24, Try.ntmps24
    rw [TaskV.val, TaskV.cells]
    simp only
    go_wp2_with fail
    refine (unhide CN _).mono ?_
    rintro e w1 ⟨rfl, bel⟩
    have B := hide (bel_box (Below.refl _ _) bel)
    clear bel
    go_wp2
    go_ret
    exact ⟨rfl, unhide B⟩
  · rw [hn] at CN
    rw [Bool.true_and]
    clear hn
    by_cases h1 : l.length < 1
    · rw [show decide (1 ≤ l.length) = false from decide_eq_false (by omega), Bool.false_and]
      go_enter Try.func24, Try.ntmps24
      rw [TaskV.val, TaskV.cells]
      simp only
      go_wp2_with fail
      refine (unhide CN _).mono ?_
      rintro e w1 ⟨rfl, bel⟩
      have B := hide (bel_box (Below.refl _ _) bel)
      obtain ⟨-, -, -, -, -, -, c6, -, -⟩ := boxed9 bel
      clear bel
      go_wp2
      go_ret
      exact ⟨rfl, unhide B⟩
    · rw [show decide (1 ≤ l.length) = true from decide_eq_true (by omega), Bool.true_and]
      by_cases h8 : 8 < l.length
      · rw [show decide (l.length ≤ 8) = false from decide_eq_false (by omega), Bool.false_and]
        go_enter Try.func24, Try.ntmps24
        rw [TaskV.val, TaskV.cells]
        simp only
        go_wp2_with fail
        refine (unhide CN _).mono ?_
        rintro e w1 ⟨rfl, bel⟩
        have B := hide (bel_box (Below.refl _ _) bel)
        obtain ⟨-, -, -, -, -, -, c6, -, -⟩ := boxed9 bel
        clear bel
        go_wp2
        go_ret
        exact ⟨rfl, unhide B⟩
      · rw [show decide (l.length ≤ 8) = true from decide_eq_true (by omega), Bool.true_and]
        cases hm : maskB ucb ecb
        · have hmm : (bits .andNot .u64 ucb ecb != 0) = true := by rw [bne, show (bits .andNot .u64 ucb ecb == 0) = false from hm]; rfl
          rw [Bool.false_and]
          clear hm
          go_enter Try.func24, Try.ntmps24
          rw [TaskV.val, TaskV.cells]
          simp only
          go_wp2_with fail
          refine (unhide CN _).mono ?_
          rintro e w1 ⟨rfl, bel⟩
          have B := hide (bel_box (Below.refl _ _) bel)
          obtain ⟨-, -, -, -, -, -, c6, c7, c8⟩ := boxed9 bel
          clear bel
          go_wp2
          go_ret
          exact ⟨rfl, unhide B⟩
        · have hmm : (bits .andNot .u64 ucb ecb != 0) = false := by rw [bne, show (bits .andNot .u64 ucb ecb == 0) = true from hm]; rfl
          rw [Bool.true_and]
          clear hm
          generalize hans : (l.all (inB · 1 10000) && (decide (workZ l ≤ D) && (decide (D ≤ T) && (decide (T ≤ 10000) && modeB mode Q theta p)))) = ans
          have HQ := hide hans
          clear hans
          go_enter Try.func24, Try.ntmps24
          rw [TaskV.val, TaskV.cells]
          simp only
          go_wp2_with fail
          refine (unhide CN _).mono ?_
          rintro e w1 ⟨rfl, bel⟩
          have B := hide (bel_box (Below.refl _ _) bel)
          obtain ⟨c0, c1, c2, c3, c4, c5, c6, c7, c8⟩ := boxed9 bel
          have hr := regs_bel (unhide HREG) (unhide B)
          have HR := hide hr
          obtain ⟨b, off, rfl, hcc⟩ := hr (fun e => by rw [e] at h1; simp at h1)
          have HC := hide hcc
          clear bel HREG hr hcc
          go_wp2
          go_loop [5] (fun i => ∃ k : Nat, k ≤ l.length ∧ i = .int .i64 k ∧ (l.take k).all (inB · 1 10000) = true) (fun i => l.length - (intOf i).toNat)
          case atStart => exact ⟨0, Nat.zero_le _, rfl, rfl⟩
          case round =>
            obtain ⟨k, hk, rfl, hall⟩ := hrel
            by_cases hlt : k < l.length
            · have hc := unhide HC k hlt
              cases hq : inB (l.getD k 0) 1 10000
              · have hf : ans = false := by rw [← unhide HQ, all_not (p := (inB · 1 10000)) hlt hq, Bool.false_and]
                have HF := hide hf
                clear hall hf
                generalize l.getD k 0 = n at *
                go_wp2_with (go_at_call 23; refine (rin_any _ _ _ _).mono ?_; rintro e w' ⟨rfl, hw⟩; rw [hw]; clear hw w')
                go_ret
                exact ⟨ret_bool (unhide HF).symm, unhide B⟩
              · have HA := hide (all_next hlt hall hq)
                clear hall
                generalize l.getD k 0 = n at *
                go_wp2_with (go_at_call 23; refine (rin_any _ _ _ _).mono ?_; rintro e w' ⟨rfl, hw⟩; rw [hw]; clear hw w')
                go_round
                case rel => exact ⟨k + 1, by omega, by go_num, unhide HA⟩
                case measure => simp [intOf]; omega
            · have e : l.take k = l := List.take_of_length_le (by omega)
              rw [e] at hall
              have HQ' : Hid ((decide (workZ l ≤ D) && (decide (D ≤ T) && (decide (T ≤ 10000) && modeB mode Q theta p))) = ans) := by
                have := unhide HQ
                rw [hall, Bool.true_and] at this
                exact this
              have hregs : regsB l = true := by rw [regsB, hall, Bool.and_true]; simp; omega
              have CW : Hid (∀ w, RegsIn w (some ⟨b, off, none⟩) l → Calls Try.prog 31 #[.agg #[.string name, .int .i64 T, .int .i64 D, .int .i64 mode, .int .i64 Q, .int .i64 theta, .slice (some ⟨b, off, none⟩) l.length cap, .int .u64 ecb, .int .u64 ucb]] w fun e w' => e = .returned (.int .i64 (workZ l)) ∧ Below w.heap.size w w') := hide (fun w h => rwork_any ⟨name, T, D, mode, Q, theta, some ⟨b, off, none⟩, cap, ecb, ucb, l⟩ w h hregs)
              clear hall e hregs
              generalize workZ l = V at *
              by_cases hV : V ≤ D
              · by_cases hDT : D ≤ T
                · by_cases hT : T ≤ 10000
                  · have hV' : decide (D < V) = false := decide_eq_false (by omega)
                    have hDT' : decide (T < D) = false := decide_eq_false (by omega)
                    have hT' : decide (10000 < T) = false := decide_eq_false (by omega)
                    have HQ2 : Hid (modeB mode Q theta p = ans) := by
                      have := unhide HQ'
                      rw [decide_eq_true hV, decide_eq_true hDT, decide_eq_true hT] at this
                      exact this
                    clear hV hDT hT
                    go_wp2_with fail
                    first | (go_region_held3 (fun w' => w'.cell? ⟨w.heap.size, 0, none⟩ = some (.string name) ∧ w'.cell? ⟨w.heap.size, 1, none⟩ = some (.int .i64 T) ∧ w'.cell? ⟨w.heap.size, 2, none⟩ = some (.int .i64 D) ∧ w'.cell? ⟨w.heap.size, 3, none⟩ = some (.int .i64 mode) ∧ w'.cell? ⟨w.heap.size, 4, none⟩ = some (.int .i64 Q) ∧ w'.cell? ⟨w.heap.size, 5, none⟩ = some (.int .i64 theta) ∧ w'.cell? ⟨w.heap.size, 6, none⟩ = some (.slice (some ⟨b, off, none⟩) l.length cap) ∧ w'.cell? ⟨w.heap.size, 7, none⟩ = some (.int .u64 ecb) ∧ w'.cell? ⟨w.heap.size, 8, none⟩ = some (.int .u64 ucb)) (go_keep)
                      (first | (go_at_call 31; refine (unhide CW w1.drew (unhide HR)).mono ?_; rintro e w4 ⟨rfl, bel⟩; have e0 := cell_bel' (w := w1.drew) c0 bel; have e1 := cell_bel' (w := w1.drew) c1 bel; have e2 := cell_bel' (w := w1.drew) c2 bel; have e3 := cell_bel' (w := w1.drew) c3 bel; have e4 := cell_bel' (w := w1.drew) c4 bel; have e5 := cell_bel' (w := w1.drew) c5 bel; have e6 := cell_bel' (w := w1.drew) c6 bel; have e7 := cell_bel' (w := w1.drew) c7 bel; have e8 := cell_bel' (w := w1.drew) c8 bel; have B4 := hide ((unhide B).drew.trans (bel.mono (unhide B).size)); clear bel))) | fail
                    go_wp2_with (go_at_call 23; refine (rin_any _ _ _ _).mono ?_; rintro e w' ⟨rfl, hw⟩; rw [hw]; clear hw w')
                    all_goals (first | go_ret3 | go_ret)
                    all_goals (refine ⟨ret_bool ?_, unhide B4⟩; rw [← unhide HQ2]; clear HQ2 HQ HQ' B4 B HR HC CW CN)
                    all_goals (first | exact mode_0a _ _ (by assumption) (by assumption) | exact mode_0b _ _ (by assumption) (by assumption) | exact mode_1a _ _ (by assumption) (by assumption) (by assumption) | exact mode_1b _ _ (by assumption) (by assumption) (by assumption) | exact mode_2a _ (by assumption) (by assumption) (by assumption) (by assumption) (by assumption) | exact mode_2b _ (by assumption) (by assumption) (by assumption) (by assumption) (by assumption) | exact mode_2c _ _ (by assumption) (by assumption) (by assumption) (by assumption) | exact mode_3 _ _ _ (by assumption) (by assumption) (by assumption))
                  · have hV' : decide (D < V) = false := decide_eq_false (by omega)
                    have hDT' : decide (T < D) = false := decide_eq_false (by omega)
                    have hT' : decide (10000 < T) = true := decide_eq_true (by omega)
                    have HF : Hid (ans = false) := by
                      have := unhide HQ'
                      rw [decide_eq_false hT] at this
                      show ans = false
                      rw [← this]; simp
                    clear hV hDT hT
                    go_wp2_with fail
                    first | (go_region_held3 (fun w' => w'.cell? ⟨w.heap.size, 0, none⟩ = some (.string name) ∧ w'.cell? ⟨w.heap.size, 1, none⟩ = some (.int .i64 T) ∧ w'.cell? ⟨w.heap.size, 2, none⟩ = some (.int .i64 D) ∧ w'.cell? ⟨w.heap.size, 3, none⟩ = some (.int .i64 mode) ∧ w'.cell? ⟨w.heap.size, 4, none⟩ = some (.int .i64 Q) ∧ w'.cell? ⟨w.heap.size, 5, none⟩ = some (.int .i64 theta) ∧ w'.cell? ⟨w.heap.size, 6, none⟩ = some (.slice (some ⟨b, off, none⟩) l.length cap) ∧ w'.cell? ⟨w.heap.size, 7, none⟩ = some (.int .u64 ecb) ∧ w'.cell? ⟨w.heap.size, 8, none⟩ = some (.int .u64 ucb)) (go_keep)
                      (first | (go_at_call 31; refine (unhide CW w1.drew (unhide HR)).mono ?_; rintro e w4 ⟨rfl, bel⟩; have e0 := cell_bel' (w := w1.drew) c0 bel; have e1 := cell_bel' (w := w1.drew) c1 bel; have e2 := cell_bel' (w := w1.drew) c2 bel; have e3 := cell_bel' (w := w1.drew) c3 bel; have e4 := cell_bel' (w := w1.drew) c4 bel; have e5 := cell_bel' (w := w1.drew) c5 bel; have e6 := cell_bel' (w := w1.drew) c6 bel; have e7 := cell_bel' (w := w1.drew) c7 bel; have e8 := cell_bel' (w := w1.drew) c8 bel; have B4 := hide ((unhide B).drew.trans (bel.mono (unhide B).size)); clear bel))) | fail
                    go_wp2
                    go_ret
                    exact ⟨ret_bool (unhide HF).symm, unhide B4⟩
                · have hV' : decide (D < V) = false := decide_eq_false (by omega)
                  have hDT' : decide (T < D) = true := decide_eq_true (by omega)
                  have HF : Hid (ans = false) := by
                    have := unhide HQ'
                    rw [decide_eq_false hDT] at this
                    show ans = false
                    rw [← this]; simp
                  clear hV hDT
                  go_wp2_with fail
                  refine wp_region_held_drew (S := (fun w' => w'.cell? ⟨w.heap.size, 0, none⟩ = some (.string name) ∧ w'.cell? ⟨w.heap.size, 1, none⟩ = some (.int .i64 T) ∧ w'.cell? ⟨w.heap.size, 2, none⟩ = some (.int .i64 D) ∧ w'.cell? ⟨w.heap.size, 3, none⟩ = some (.int .i64 mode) ∧ w'.cell? ⟨w.heap.size, 4, none⟩ = some (.int .i64 Q) ∧ w'.cell? ⟨w.heap.size, 5, none⟩ = some (.int .i64 theta) ∧ w'.cell? ⟨w.heap.size, 6, none⟩ = some (.slice (some ⟨b, off, none⟩) l.length cap) ∧ w'.cell? ⟨w.heap.size, 7, none⟩ = some (.int .u64 ecb) ∧ w'.cell? ⟨w.heap.size, 8, none⟩ = some (.int .u64 ucb))) (by kernel_rfl) ⟨c0, c1, c2, c3, c4, c5, c6, c7, c8⟩ (fun hHeld => ?_)
                  refine take_yes 0 44 (.agg #[.string name, .int .i64 T, .int .i64 D, .int .i64 mode, .int .i64 Q, .int .i64 theta, .slice (some ⟨b, off, none⟩) l.length cap, .int .u64 ecb, .int .u64 ucb]) rfl rfl (by kernel_rfl) (by kernel_rfl) (by kernel_rfl) (fun _ _ _ h => h) rfl (by assumption) (by intro w' ⟨s0, s1, s2, s3, s4, s5, s6, s7, s8⟩; go_simp) ?_
                  simp only [List.setIfInBounds_toArray, List.set_cons_zero, List.set_cons_succ]
                  refine take_yes 2 46 (.pointer (some ⟨w.heap.size, 2, none⟩)) rfl rfl (by kernel_rfl) (by kernel_rfl) (by kernel_rfl) (fun _ _ _ h => h) rfl (by assumption) (by intro w' ⟨s0, s1, s2, s3, s4, s5, s6, s7, s8⟩; go_simp) ?_
                  simp only [List.setIfInBounds_toArray, List.set_cons_zero, List.set_cons_succ]
                  refine take_yes 3 47 (.int .i64 D) rfl rfl (by kernel_rfl) (by kernel_rfl) (by kernel_rfl) (fun _ _ _ h => h) rfl (by assumption) (by intro w' ⟨s0, s1, s2, s3, s4, s5, s6, s7, s8⟩; go_simp) ?_
                  simp only [List.setIfInBounds_toArray, List.set_cons_zero, List.set_cons_succ]
                  refine wpAnyH_ready (rs := [1]) (by kernel_rfl) (by decide) (AllReadyH.cons rfl (fun K hK => ?_) AllReadyH.nil)
                  go_wp2_with fail
                  refine (unhide CW w1.drew (unhide HR)).mono ?_
                  rintro e w4 ⟨rfl, bel⟩
                  have B4 := hide ((unhide B).drew.trans (bel.mono (unhide B).size))
                  refine hK.out _ _ ⟨cell_bel' (w := w1.drew) c0 bel, cell_bel' (w := w1.drew) c1 bel, cell_bel' (w := w1.drew) c2 bel, cell_bel' (w := w1.drew) c3 bel, cell_bel' (w := w1.drew) c4 bel, cell_bel' (w := w1.drew) c5 bel, cell_bel' (w := w1.drew) c6 bel, cell_bel' (w := w1.drew) c7 bel, cell_bel' (w := w1.drew) c8 bel⟩ (fun hHeld => ?_)
                  clear hK K bel
                  refine take_yes 4 48 (.bool false) rfl rfl (by kernel_rfl) (by kernel_rfl) (by kernel_rfl) (fun _ _ _ h => h) rfl (by assumption) (by intro w' ⟨s0, s1, s2, s3, s4, s5, s6, s7, s8⟩; go_simp) ?_
                  simp only [List.setIfInBounds_toArray, List.set_cons_zero, List.set_cons_succ]
                  refine take_yes 5 49 (.bool false) rfl rfl (by kernel_rfl) (by kernel_rfl) (by kernel_rfl) (fun _ _ _ h => h) rfl (by assumption) (by intro w' ⟨s0, s1, s2, s3, s4, s5, s6, s7, s8⟩; go_simp) ?_
                  simp only [List.setIfInBounds_toArray, List.set_cons_zero, List.set_cons_succ]
                  refine take_yes 6 50 (.pointer (some ⟨w.heap.size, 2, none⟩)) rfl rfl (by kernel_rfl) (by kernel_rfl) (by kernel_rfl) (fun _ _ _ h => h) rfl (by assumption) (by intro w' ⟨s0, s1, s2, s3, s4, s5, s6, s7, s8⟩; go_simp) ?_
                  simp only [List.setIfInBounds_toArray, List.set_cons_zero, List.set_cons_succ]
                  refine take_yes 7 51 (.int .i64 D) rfl rfl (by kernel_rfl) (by kernel_rfl) (by kernel_rfl) (fun _ _ _ h => h) rfl (by assumption) (by intro w' ⟨s0, s1, s2, s3, s4, s5, s6, s7, s8⟩; go_simp) ?_
                  simp only [List.setIfInBounds_toArray, List.set_cons_zero, List.set_cons_succ]
                  refine take_yes 8 52 (.pointer (some ⟨w.heap.size, 1, none⟩)) rfl rfl (by kernel_rfl) (by kernel_rfl) (by kernel_rfl) (fun _ _ _ h => h) rfl (by assumption) (by intro w' ⟨s0, s1, s2, s3, s4, s5, s6, s7, s8⟩; go_simp) ?_
                  simp only [List.setIfInBounds_toArray, List.set_cons_zero, List.set_cons_succ]
                  refine take_yes 9 53 (.int .i64 T) rfl rfl (by kernel_rfl) (by kernel_rfl) (by kernel_rfl) (fun _ _ _ h => h) rfl (by assumption) (by intro w' ⟨s0, s1, s2, s3, s4, s5, s6, s7, s8⟩; go_simp) ?_
                  simp only [List.setIfInBounds_toArray, List.set_cons_zero, List.set_cons_succ]
                  refine take_yes 10 54 (.bool true) rfl rfl (by kernel_rfl) (by kernel_rfl) (by kernel_rfl) (fun _ _ _ h => h) rfl (by assumption) (by intro w' ⟨s0, s1, s2, s3, s4, s5, s6, s7, s8⟩; go_simp) ?_
                  simp only [List.setIfInBounds_toArray, List.set_cons_zero, List.set_cons_succ]
                  refine take_yes 11 55 (.bool true) rfl rfl (by kernel_rfl) (by kernel_rfl) (by kernel_rfl) (fun _ _ _ h => h) rfl (by assumption) (by intro w' ⟨s0, s1, s2, s3, s4, s5, s6, s7, s8⟩; go_simp) ?_
                  simp only [List.setIfInBounds_toArray, List.set_cons_zero, List.set_cons_succ]
                  refine take_yes 12 56 (.bool true) rfl rfl (by kernel_rfl) (by kernel_rfl) (by kernel_rfl) (fun _ _ _ h => h) rfl (by assumption) (by intro w' ⟨s0, s1, s2, s3, s4, s5, s6, s7, s8⟩; go_simp) ?_
                  simp only [List.setIfInBounds_toArray, List.set_cons_zero, List.set_cons_succ]
                  refine take_no 13 57 rfl rfl (by kernel_rfl) (by kernel_rfl) (by kernel_rfl) (fun _ _ _ h => h) rfl (by assumption) ?_
                  simp only [List.setIfInBounds_toArray, List.set_cons_zero, List.set_cons_succ]
                  refine take_no 14 58 rfl rfl (by kernel_rfl) (by kernel_rfl) (by kernel_rfl) (fun _ _ _ h => h) rfl (by assumption) ?_
                  simp only [List.setIfInBounds_toArray, List.set_cons_zero, List.set_cons_succ]
                  refine take_no 15 59 rfl rfl (by kernel_rfl) (by kernel_rfl) (by kernel_rfl) (fun _ _ _ h => h) rfl (by assumption) ?_
                  simp only [List.setIfInBounds_toArray, List.set_cons_zero, List.set_cons_succ]
                  refine take_yes 16 60 (.bool true) rfl rfl (by kernel_rfl) (by kernel_rfl) (by kernel_rfl) (fun _ _ _ h => h) rfl (by assumption) (by intro w' ⟨s0, s1, s2, s3, s4, s5, s6, s7, s8⟩; go_simp) ?_
                  simp only [List.setIfInBounds_toArray, List.set_cons_zero, List.set_cons_succ]
                  refine wpAnyH_done (by kernel_rfl) ?_ _
                  go_wp2
                  go_ret
                  exact ⟨ret_bool (unhide HF).symm, unhide B4⟩
              · have hV' : decide (D < V) = true := decide_eq_true (by omega)
                have HF : Hid (ans = false) := by
                  have := unhide HQ'
                  rw [decide_eq_false hV] at this
                  show ans = false
                  rw [← this]; simp
                clear hV
                go_wp2_with fail
                refine wp_region_held_drew (S := (fun w' => w'.cell? ⟨w.heap.size, 0, none⟩ = some (.string name) ∧ w'.cell? ⟨w.heap.size, 1, none⟩ = some (.int .i64 T) ∧ w'.cell? ⟨w.heap.size, 2, none⟩ = some (.int .i64 D) ∧ w'.cell? ⟨w.heap.size, 3, none⟩ = some (.int .i64 mode) ∧ w'.cell? ⟨w.heap.size, 4, none⟩ = some (.int .i64 Q) ∧ w'.cell? ⟨w.heap.size, 5, none⟩ = some (.int .i64 theta) ∧ w'.cell? ⟨w.heap.size, 6, none⟩ = some (.slice (some ⟨b, off, none⟩) l.length cap) ∧ w'.cell? ⟨w.heap.size, 7, none⟩ = some (.int .u64 ecb) ∧ w'.cell? ⟨w.heap.size, 8, none⟩ = some (.int .u64 ucb))) (by kernel_rfl) ⟨c0, c1, c2, c3, c4, c5, c6, c7, c8⟩ (fun hHeld => ?_)
                refine take_yes 0 44 (.agg #[.string name, .int .i64 T, .int .i64 D, .int .i64 mode, .int .i64 Q, .int .i64 theta, .slice (some ⟨b, off, none⟩) l.length cap, .int .u64 ecb, .int .u64 ucb]) rfl rfl (by kernel_rfl) (by kernel_rfl) (by kernel_rfl) (fun _ _ _ h => h) rfl (by assumption) (by intro w' ⟨s0, s1, s2, s3, s4, s5, s6, s7, s8⟩; go_simp) ?_
                simp only [List.setIfInBounds_toArray, List.set_cons_zero, List.set_cons_succ]
                refine take_yes 2 46 (.pointer (some ⟨w.heap.size, 2, none⟩)) rfl rfl (by kernel_rfl) (by kernel_rfl) (by kernel_rfl) (fun _ _ _ h => h) rfl (by assumption) (by intro w' ⟨s0, s1, s2, s3, s4, s5, s6, s7, s8⟩; go_simp) ?_
                simp only [List.setIfInBounds_toArray, List.set_cons_zero, List.set_cons_succ]
                refine take_yes 3 47 (.int .i64 D) rfl rfl (by kernel_rfl) (by kernel_rfl) (by kernel_rfl) (fun _ _ _ h => h) rfl (by assumption) (by intro w' ⟨s0, s1, s2, s3, s4, s5, s6, s7, s8⟩; go_simp) ?_
                simp only [List.setIfInBounds_toArray, List.set_cons_zero, List.set_cons_succ]
                refine wpAnyH_ready (rs := [1]) (by kernel_rfl) (by decide) (AllReadyH.cons rfl (fun K hK => ?_) AllReadyH.nil)
                go_wp2_with fail
                refine (unhide CW w1.drew (unhide HR)).mono ?_
                rintro e w4 ⟨rfl, bel⟩
                have B4 := hide ((unhide B).drew.trans (bel.mono (unhide B).size))
                refine hK.out _ _ ⟨cell_bel' (w := w1.drew) c0 bel, cell_bel' (w := w1.drew) c1 bel, cell_bel' (w := w1.drew) c2 bel, cell_bel' (w := w1.drew) c3 bel, cell_bel' (w := w1.drew) c4 bel, cell_bel' (w := w1.drew) c5 bel, cell_bel' (w := w1.drew) c6 bel, cell_bel' (w := w1.drew) c7 bel, cell_bel' (w := w1.drew) c8 bel⟩ (fun hHeld => ?_)
                clear hK K bel
                refine take_yes 4 48 (.bool true) rfl rfl (by kernel_rfl) (by kernel_rfl) (by kernel_rfl) (fun _ _ _ h => h) rfl (by assumption) (by intro w' ⟨s0, s1, s2, s3, s4, s5, s6, s7, s8⟩; go_simp) ?_
                simp only [List.setIfInBounds_toArray, List.set_cons_zero, List.set_cons_succ]
                refine take_yes 5 49 (.bool true) rfl rfl (by kernel_rfl) (by kernel_rfl) (by kernel_rfl) (fun _ _ _ h => h) rfl (by assumption) (by intro w' ⟨s0, s1, s2, s3, s4, s5, s6, s7, s8⟩; go_simp) ?_
                simp only [List.setIfInBounds_toArray, List.set_cons_zero, List.set_cons_succ]
                refine take_no 6 50 rfl rfl (by kernel_rfl) (by kernel_rfl) (by kernel_rfl) (fun _ _ _ h => h) rfl (by assumption) ?_
                simp only [List.setIfInBounds_toArray, List.set_cons_zero, List.set_cons_succ]
                refine take_no 7 51 rfl rfl (by kernel_rfl) (by kernel_rfl) (by kernel_rfl) (fun _ _ _ h => h) rfl (by assumption) ?_
                simp only [List.setIfInBounds_toArray, List.set_cons_zero, List.set_cons_succ]
                refine take_no 8 52 rfl rfl (by kernel_rfl) (by kernel_rfl) (by kernel_rfl) (fun _ _ _ h => h) rfl (by assumption) ?_
                simp only [List.setIfInBounds_toArray, List.set_cons_zero, List.set_cons_succ]
                refine take_no 9 53 rfl rfl (by kernel_rfl) (by kernel_rfl) (by kernel_rfl) (fun _ _ _ h => h) rfl (by assumption) ?_
                simp only [List.setIfInBounds_toArray, List.set_cons_zero, List.set_cons_succ]
                refine take_no 10 54 rfl rfl (by kernel_rfl) (by kernel_rfl) (by kernel_rfl) (fun _ _ _ h => h) rfl (by assumption) ?_
                simp only [List.setIfInBounds_toArray, List.set_cons_zero, List.set_cons_succ]
                refine take_yes 11 55 (.bool true) rfl rfl (by kernel_rfl) (by kernel_rfl) (by kernel_rfl) (fun _ _ _ h => h) rfl (by assumption) (by intro w' ⟨s0, s1, s2, s3, s4, s5, s6, s7, s8⟩; go_simp) ?_
                simp only [List.setIfInBounds_toArray, List.set_cons_zero, List.set_cons_succ]
                refine take_yes 12 56 (.bool true) rfl rfl (by kernel_rfl) (by kernel_rfl) (by kernel_rfl) (fun _ _ _ h => h) rfl (by assumption) (by intro w' ⟨s0, s1, s2, s3, s4, s5, s6, s7, s8⟩; go_simp) ?_
                simp only [List.setIfInBounds_toArray, List.set_cons_zero, List.set_cons_succ]
                refine take_no 13 57 rfl rfl (by kernel_rfl) (by kernel_rfl) (by kernel_rfl) (fun _ _ _ h => h) rfl (by assumption) ?_
                simp only [List.setIfInBounds_toArray, List.set_cons_zero, List.set_cons_succ]
                refine take_no 14 58 rfl rfl (by kernel_rfl) (by kernel_rfl) (by kernel_rfl) (fun _ _ _ h => h) rfl (by assumption) ?_
                simp only [List.setIfInBounds_toArray, List.set_cons_zero, List.set_cons_succ]
                refine take_no 15 59 rfl rfl (by kernel_rfl) (by kernel_rfl) (by kernel_rfl) (fun _ _ _ h => h) rfl (by assumption) ?_
                simp only [List.setIfInBounds_toArray, List.set_cons_zero, List.set_cons_succ]
                refine take_yes 16 60 (.bool true) rfl rfl (by kernel_rfl) (by kernel_rfl) (by kernel_rfl) (fun _ _ _ h => h) rfl (by assumption) (by intro w' ⟨s0, s1, s2, s3, s4, s5, s6, s7, s8⟩; go_simp) ?_
                simp only [List.setIfInBounds_toArray, List.set_cons_zero, List.set_cons_succ]
                refine wpAnyH_done (by kernel_rfl) ?_ _
                go_wp2
                go_ret
                exact ⟨ret_bool (unhide HF).symm, unhide B4⟩
end Go.Proofs.Ytndhjfpjhpnbaaa.Lex
