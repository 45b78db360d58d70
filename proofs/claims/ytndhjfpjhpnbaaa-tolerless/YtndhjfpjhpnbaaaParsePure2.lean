/- A set's text is read as that set: the grammar. -/
import Derived.Test.YtndhjfpjhpnbaaaParsePure
import Derived.Test.YtndhjfpjhpnbaaaTaskRef2
namespace Go.Proofs.Ytndhjfpjhpnbaaa.Lex
set_option maxRecDepth 100000
open Go

theorem word_ok {w : List UInt8} {L : List Tok} {R : List Bare} (h : L.map bare = ⟨3, w, 0⟩ :: R) : ∃ M, wordP w L = .ok M ∧ M.map bare = R := by
  cases L with
  | nil => cases h
  | cons t r =>
    rw [List.map_cons] at h
    obtain ⟨h1, h2⟩ := List.cons.inj h
    have hk : t.kind = 3 := congrArg Bare.kind h1
    have ht : t.text = w := congrArg Bare.text h1
    exact ⟨r, by simp [wordP, isWord, hk, ht], h2⟩
theorem word_not {w : List UInt8} {L : List Tok} {b : Bare} {R : List Bare} (h : L.map bare = b :: R) (hb : b.kind ≠ 3 ∨ b.text ≠ w) : isWord w L = false := by
  cases L with
  | nil => rfl
  | cons t r =>
    rw [List.map_cons] at h
    obtain ⟨h1, -⟩ := List.cons.inj h
    rw [← h1] at hb
    simp only [isWord, bare] at hb ⊢
    rcases hb with hb | hb
    · simp [hb]
    · simp [hb]
theorem word_yes {w : List UInt8} {L : List Tok} {R : List Bare} (h : L.map bare = ⟨3, w, 0⟩ :: R) : isWord w L = true ∧ L.tail.map bare = R := by
  cases L with
  | nil => cases h
  | cons t r =>
    rw [List.map_cons] at h
    obtain ⟨h1, h2⟩ := List.cons.inj h
    have hk : t.kind = 3 := congrArg Bare.kind h1
    have ht : t.text = w := congrArg Bare.text h1
    exact ⟨by simp [isWord, hk, ht], h2⟩
theorem tok_ok {k : Int} {x : List UInt8} {n : Int} {L : List Tok} {R : List Bare} (h : L.map bare = ⟨k, x, n⟩ :: R) : ∃ t M, tokP k L = .ok (t, M) ∧ t.text = x ∧ t.n = n ∧ M.map bare = R := by
  cases L with
  | nil => cases h
  | cons t r =>
    rw [List.map_cons] at h
    obtain ⟨h1, h2⟩ := List.cons.inj h
    have hk : t.kind = k := congrArg Bare.kind h1
    exact ⟨t, r, by simp [tokP, hk], congrArg Bare.text h1, congrArg Bare.n h1, h2⟩
theorem nums_ok : ∀ (l : List Nat) {L : List Tok} {b : Bare} {R : List Bare}, L.map bare = (l.map np).map (·.tok) ++ b :: R → b.kind ≠ 2 → ∃ M, numsP L = (l.map fun n : Nat => (n : Int), M) ∧ M.map bare = b :: R := by
  intro l
  induction l with
  | nil =>
    intro L b R h hb
    cases L with
    | nil => cases h
    | cons t r =>
      have h0 : bare t :: r.map bare = b :: R := h
      have hk : t.kind = b.kind := congrArg Bare.kind (List.cons.inj h0).1
      exact ⟨t :: r, by simp [numsP, hk, hb], h⟩
  | cons n l ih =>
    intro L b R h hb
    cases L with
    | nil => cases h
    | cons t r =>
      have h0 : bare t :: r.map bare = ⟨2, [], n⟩ :: ((l.map np).map (·.tok) ++ b :: R) := h
      obtain ⟨h1, h2⟩ := List.cons.inj h0
      have hk : t.kind = 2 := congrArg Bare.kind h1
      have hn : t.n = n := congrArg Bare.n h1
      obtain ⟨M, hM, hR⟩ := ih h2 hb
      exact ⟨M, by simp [numsP, hk, hn, hM], hR⟩
def orAll (l : List Nat) (x : Nat) : Nat := l.foldl (fun x n => x ||| 2 ^ n) x
theorem setsP_ok : ∀ (l : List Nat) (last : Int) (x : Nat) {L : List Tok} {b : Bare} {R : List Bare}, L.map bare = (l.map np).map (·.tok) ++ b :: R → b.kind ≠ 2 → l.Pairwise (· < ·) → (∀ n ∈ l, n < 64 ∧ last < (n : Int)) → ∃ M, setsP last x L = .ok (orAll l x, M) ∧ M.map bare = b :: R := by
  intro l
  induction l with
  | nil =>
    intro last x L b R h hb _ _
    cases L with
    | nil => cases h
    | cons t r =>
      have h0 : bare t :: r.map bare = b :: R := h
      have hk : t.kind = b.kind := congrArg Bare.kind (List.cons.inj h0).1
      exact ⟨t :: r, by simp [setsP, hk, hb, orAll], h⟩
  | cons n l ih =>
    intro last x L b R h hb hp hl
    cases L with
    | nil => cases h
    | cons t r =>
      have h0 : bare t :: r.map bare = ⟨2, [], n⟩ :: ((l.map np).map (·.tok) ++ b :: R) := h
      obtain ⟨h1, h2⟩ := List.cons.inj h0
      have hk : t.kind = 2 := congrArg Bare.kind h1
      have hn : t.n = n := congrArg Bare.n h1
      obtain ⟨hp1, hp2⟩ := List.pairwise_cons.1 hp
      have hn64 := hl n (List.mem_cons_self ..)
      obtain ⟨M, hM, hR⟩ := ih n (x ||| 2 ^ n) h2 hb hp2 (fun m hm => ⟨(hl m (List.mem_cons_of_mem _ hm)).1, by have := hp1 m hm; omega⟩)
      refine ⟨M, ?_, hR⟩
      rw [setsP, hk, hn, if_pos (by rfl), if_neg (by omega)]
      exact hM
theorem orAll_ofN (l : List Nat) (h : ∀ n ∈ l, n < 64) : ∀ x, (l.map fun n : Nat => (n : Int)).foldl (fun x i => if 0 ≤ i ∧ i < 64 then x ||| 2 ^ i.toNat else x) x = orAll l x := by
  induction l with
  | nil => intro x; rfl
  | cons n l ih =>
    intro x
    have hn := h n (List.mem_cons_self ..)
    rw [List.map_cons, List.foldl_cons, if_pos (by omega), orAll, List.foldl_cons]
    exact ih (fun m hm => h m (List.mem_cons_of_mem _ hm)) _
theorem orAll_bl {x : Nat} (h : x < 18446744073709551616) : orAll (Bits.bl x) 0 = x := by
  rw [← orAll_ofN _ (fun n hn => ((Bits.mem_bl x n).1 hn).1)]
  exact Bits.ofN_bl x h
theorem sets_read {w : List UInt8} {x : Nat} (hx : x < 18446744073709551616) {L : List Tok} {b : Bare} {R : List Bare} (h : L.map bare = (setsQ w x).map (·.tok) ++ b :: R) (hb : b.kind = 3) (hw : b.text ≠ w) : ∃ M, setsOf w L = .ok (x, M) ∧ M.map bare = b :: R := by
  rw [setsQ] at h
  split at h
  · rename_i h0
    have hz : x = 0 := by rw [← orAll_bl hx, List.eq_nil_of_length_eq_zero h0]; rfl
    have := word_not (w := w) (L := L) (b := b) (R := R) h (.inr hw)
    exact ⟨L, by rw [setsOf, this, hz]; rfl, h⟩
  · rename_i h0
    obtain ⟨h1, h2⟩ := word_yes (w := w) (L := L) h
    have hk : isNum L.tail = true := by
      cases hl : Bits.bl x with
      | nil => rw [hl] at h0; simp at h0
      | cons n l =>
        rw [hl] at h2
        cases hL : L.tail with
        | nil => rw [hL] at h2; cases h2
        | cons t r =>
          rw [hL] at h2
          have h3 : bare t :: r.map bare = ⟨2, [], n⟩ :: ((l.map np).map (·.tok) ++ b :: R) := h2
          have : t.kind = 2 := congrArg Bare.kind (List.cons.inj h3).1
          simp [isNum, this]
    obtain ⟨M, hM, hR⟩ := setsP_ok (Bits.bl x) (-1) 0 h2 (by rw [hb]; decide) (Bits.bl_sorted x) (fun n hn => ⟨((Bits.mem_bl x n).1 hn).1, by omega⟩)
    rw [orAll_bl hx] at hM
    exact ⟨M, by rw [setsOf, h1, hk]; exact hM, hR⟩
theorem mode_read {t : TaskV} {p : Int} (hm : modeB t.mode t.Q t.theta p = true) {L : List Tok} {R : List Bare} (h : L.map bare = (modeQ t).map (·.tok) ++ R) : ∃ M, modeP L = .ok ((t.mode, t.Q, t.theta), M) ∧ M.map bare = R := by
  rw [modeQ] at h
  simp only [modeB] at hm
  split at h
  · rename_i e
    rw [if_pos e] at hm
    simp only [Bool.and_eq_true, beq_iff_eq] at hm
    obtain ⟨h1, h2⟩ := word_yes (w := wFixed) (L := L) h
    exact ⟨L.tail, by rw [modeP, h1, e, hm.1, hm.2]; rfl, h2⟩
  · rename_i e
    rw [if_neg e] at hm
    split at h
    · rename_i e1
      rw [if_pos e1] at hm
      simp only [inB, Bool.and_eq_true, beq_iff_eq, decide_eq_true_eq] at hm
      have n1 := word_not (w := wFixed) (L := L) h (.inr (by decide))
      obtain ⟨h1, h2⟩ := word_yes (w := wFloat) (L := L) h
      obtain ⟨q, M, hq, -, hn, hR⟩ := tok_ok (k := 2) (L := L.tail) h2
      refine ⟨M, ?_, hR⟩
      rw [modeP, n1, h1, hq]
      simp only [thenE, Bool.false_eq_true, if_false, if_true]
      rw [hn, e1, hm.2, show ((t.Q.toNat : Nat) : Int) = t.Q by omega]
    · rename_i e1
      rw [if_neg e1] at hm
      split at hm
      · rename_i e2
        simp only [Bool.and_eq_true, beq_iff_eq, decide_eq_true_eq] at hm
        have n1 := word_not (w := wFixed) (L := L) h (.inr (by decide))
        have n2 := word_not (w := wFloat) (L := L) h (.inr (by decide))
        obtain ⟨h1, h2⟩ := word_yes (w := wThresh) (L := L) h
        obtain ⟨q, M, hq, -, hn, hR⟩ := tok_ok (k := 2) (L := L.tail) h2
        refine ⟨M, ?_, hR⟩
        rw [modeP, n1, n2, h1, hq]
        simp only [thenE, Bool.false_eq_true, if_false, if_true]
        rw [hn, e2, hm.1.1, show ((t.theta.toNat : Nat) : Int) = t.theta by omega]
      · cases hm

/- a task that may be -/
structure Fits (t : TaskV) (p : Int) : Prop where
  is : isB t p = true
  ecb : U64 t.ecb
  ucb : U64 t.ucb
  low : p.toNat < 1000000000
theorem fits_parts {t : TaskV} {p : Int} (h : isB t p = true) : nameB t.name.data.toList = true ∧ 1 ≤ t.regs.length ∧ t.regs.length ≤ 8 ∧ (∀ n ∈ t.regs, 1 ≤ n ∧ n ≤ 10000) ∧ (0 ≤ t.D ∧ t.D ≤ t.T ∧ t.T ≤ 10000) ∧ modeB t.mode t.Q t.theta p = true := by
  simp only [isB, Bool.and_eq_true, decide_eq_true_eq, List.all_eq_true] at h
  obtain ⟨h0, h1, h2, -, h4, h5, h6, h7, h8⟩ := h
  have he : ∀ n ∈ t.regs, 1 ≤ n ∧ n ≤ 10000 := fun n hn => by simpa [inB] using h4 n hn
  have := work_bound t.regs he
  exact ⟨h0, h1, h2, he, ⟨by omega, h6, h7⟩, h8⟩
theorem nat_back {l : List Int} (h : ∀ n ∈ l, 0 ≤ n) : ((l.map Int.toNat).map fun n : Nat => (n : Int)) = l := by
  induction l with
  | nil => rfl
  | cons n r ih =>
    rw [List.map_cons, List.map_cons, ih (fun m hm => h m (List.mem_cons_of_mem _ hm))]
    have := h n (List.mem_cons_self ..)
    rw [Int.toNat_of_nonneg this]
theorem sets_head {w : List UInt8} {x : Nat} {b : Bare} {R : List Bare} (hb : b.kind = 3) : ∃ b' R', (setsQ w x).map (·.tok) ++ b :: R = b' :: R' ∧ b'.kind = 3 ∧ (b'.text = w ∨ b' = b) := by
  rw [setsQ]
  split
  · exact ⟨b, R, rfl, hb, .inr rfl⟩
  · exact ⟨_, _, rfl, rfl, .inl rfl⟩
theorem thenE_ok {E A B : Type} {x : Except E A} {a : A} (f : A → Except E B) (h : x = .ok a) : thenE x f = f a := by rw [h]; rfl
theorem task_read {t : TaskV} {p : Int} (ht : Fits t p) {L : List Tok} {R : List Bare} (h : L.map bare = (taskQ t).tail.map (·.tok) ++ R) : ∃ M, taskP L = .ok (bareT t, M) ∧ M.map bare = R := by
  obtain ⟨-, hr1, -, hre, ⟨hD, hDT, hT⟩, hm⟩ := fits_parts ht.is
  rw [taskQ] at h
  simp only [List.tail_cons, List.map_cons, List.map_append, List.cons_append, List.append_assoc, List.map_nil, List.nil_append] at h
  obtain ⟨n, L1, e1, hn, -, h⟩ := tok_ok (k := 1) h
  obtain ⟨L2, e2, h⟩ := word_ok (w := wPeriod) h
  obtain ⟨T, L3, e3, -, hT', h⟩ := tok_ok (k := 2) h
  obtain ⟨L4, e4, h⟩ := word_ok (w := wDeadline) h
  obtain ⟨D, L5, e5, -, hD', h⟩ := tok_ok (k := 2) h
  obtain ⟨L6, e6, h⟩ := mode_read hm h
  obtain ⟨L7, e7, h⟩ := word_ok (w := wRegions) h
  cases hl : t.regs with
  | nil => rw [hl] at hr1; simp at hr1
  | cons r0 rs =>
    rw [hl] at h hre
    simp only [List.map_cons, List.cons_append] at h
    obtain ⟨r, L8, e8, -, hr', h⟩ := tok_ok (k := 2) h
    obtain ⟨bu, Ru, eu, ku, hu⟩ := sets_head (w := wUcb) (x := t.ucb.toNat) (b := ⟨3, [59], 0⟩) (R := R) rfl
    have eu' : (setsQ wUcb t.ucb.toNat).map (·.tok) ++ semiP.tok :: R = bu :: Ru := eu
    rw [eu'] at h
    obtain ⟨be, Re, ee, ke, he⟩ := sets_head (w := wEcb) (x := t.ecb.toNat) (b := bu) (R := Ru) ku
    rw [ee] at h
    obtain ⟨L9, e9, h⟩ := nums_ok (rs.map Int.toNat) h (by rw [ke]; decide)
    rw [← ee] at h
    have hbu : bu.text ≠ wEcb := by
      rcases hu with hu | hu
      · rw [hu]; decide
      · rw [hu]; decide
    obtain ⟨L10, e10, h⟩ := sets_read (w := wEcb) (x := t.ecb.toNat) (by have := ht.ecb.2; have := ht.ecb.1; omega) h ku hbu
    rw [← eu] at h
    obtain ⟨L11, e11, h⟩ := sets_read (w := wUcb) (x := t.ucb.toNat) (by have := ht.ucb.2; have := ht.ucb.1; omega) h rfl (by decide)
    obtain ⟨L12, e12, h⟩ := word_ok (w := wSemi) h
    refine ⟨L12, ?_, h⟩
    rw [nat_back (fun m hm => by have := hre m (List.mem_cons_of_mem _ hm); omega)] at e9
    rw [taskP, thenE_ok _ e1, thenE_ok _ e2, thenE_ok _ e3, thenE_ok _ e4, thenE_ok _ e5, thenE_ok _ e6, thenE_ok _ e7, thenE_ok _ e8, e9, thenE_ok _ e10, thenE_ok _ e11, thenE_ok _ e12]
    have h0 := hre r0 (List.mem_cons_self ..)
    rw [hn, hT', hD', hr', show ((t.T.toNat : Nat) : Int) = t.T by omega, show ((t.D.toNat : Nat) : Int) = t.D by omega, show ((r0.toNat : Nat) : Int) = r0 by omega,
      show ((t.ecb.toNat : Nat) : Int) = t.ecb by have := ht.ecb.1; omega, show ((t.ucb.toNat : Nat) : Int) = t.ucb by have := ht.ucb.1; omega, ← hl]
    rfl
theorem tasks_read : ∀ (ts : List TaskV) (ps : List Int) (f : Nat) {L : List Tok}, ps.length = ts.length → (∀ j, j < ts.length → Fits (ts.getD j task0) (ps.getD j 0)) → ts.length ≤ f → L.map bare = (ts.flatMap taskQ).map (·.tok) ++ [⟨4, [], 0⟩] → ∃ r, tasksP f L = .ok r ∧ r.map (·.1) = ts.map bareT := by
  intro ts
  induction ts with
  | nil =>
    intro ps f L _ _ _ h
    refine ⟨[], ?_, rfl⟩
    cases f with
    | zero => rfl
    | succ f =>
      cases L with
      | nil => cases h
      | cons t r =>
        have h0 : bare t :: r.map bare = ⟨4, [], 0⟩ :: [] := h
        have hk : t.kind = 4 := congrArg Bare.kind (List.cons.inj h0).1
        simp [tasksP, atEnd, hk]
  | cons t ts ih =>
    intro ps f L hps hfit hf h
    cases ps with
    | nil => simp at hps
    | cons p ps =>
      cases f with
      | zero => simp at hf
      | succ f =>
        have h0 := h
        rw [List.flatMap_cons, List.map_append, List.append_assoc] at h
        have hq : (taskQ t).map (·.tok) = ⟨3, wTask, 0⟩ :: (taskQ t).tail.map (·.tok) := rfl
        rw [hq, List.cons_append] at h
        have hne : atEnd L = false := by
          cases L with
          | nil => cases h
          | cons u r =>
            have h1 : bare u :: r.map bare = ⟨3, wTask, 0⟩ :: ((taskQ t).tail.map (·.tok) ++ ((ts.flatMap taskQ).map (·.tok) ++ [⟨4, [], 0⟩])) := h
            have hk : u.kind = 3 := congrArg Bare.kind (List.cons.inj h1).1
            simp [atEnd, hk]
        obtain ⟨M, e1, h⟩ := word_ok (w := wTask) h
        obtain ⟨N, e2, h⟩ := task_read (hfit 0 (by simp)) h
        obtain ⟨r, e3, hr⟩ := ih ps f (by simpa using hps) (fun j hj => hfit (j + 1) (by simpa using hj)) (by simpa using hf) h
        refine ⟨(bareT t, posOf L) :: r, ?_, by rw [List.map_cons, hr]; rfl⟩
        rw [tasksP, hne]
        simp only [Bool.false_eq_true, if_false]
        rw [thenE_ok _ e1, thenE_ok _ e2, thenE_ok _ e3]
        rfl
end Go.Proofs.Ytndhjfpjhpnbaaa.Lex
