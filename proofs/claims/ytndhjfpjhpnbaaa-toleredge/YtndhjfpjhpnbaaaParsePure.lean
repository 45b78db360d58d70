/- A set's text is read as that set: plain facts. -/
import Derived.Test.YtndhjfpjhpnbaaaParseSpec
namespace Go.Proofs.Ytndhjfpjhpnbaaa.Lex
set_option maxRecDepth 100000
open Go

/- digits -/
theorem digs_lt {n : Nat} (h : n < 10) : digs n = [UInt8.ofNat (48 + n)] := by rw [digs, if_pos h]
theorem digs_ge {n : Nat} (h : 10 ≤ n) : digs n = digs (n / 10) ++ [UInt8.ofNat (48 + n % 10)] := by rw [digs, if_neg (by omega)]
theorem dig_nat {k : Nat} (h : k < 10) : (UInt8.ofNat (48 + k)).toNat = 48 + k := by simp; omega
theorem digs_all (n : Nat) : ∀ c ∈ digs n, digitC c = true := by
  induction n using Nat.strongRecOn with
  | _ n ih =>
    intro c hc
    by_cases h : n < 10
    · rw [digs_lt h] at hc
      have : c = UInt8.ofNat (48 + n) := by simpa using hc
      rw [this, digitC, dig_nat h]; simp; omega
    · rw [digs_ge (by omega)] at hc
      rcases List.mem_append.1 hc with hc | hc
      · exact ih (n / 10) (by omega) c hc
      · have : c = UInt8.ofNat (48 + n % 10) := by simpa using hc
        rw [this, digitC, dig_nat (Nat.mod_lt _ (by omega))]; simp; omega
theorem numV_app (l : List UInt8) (c : UInt8) : numV (l ++ [c]) = 10 * numV l + ((c.toNat : Int) - 48) := by simp [numV, List.foldl_append]
theorem numV_digs (n : Nat) : numV (digs n) = n := by
  induction n using Nat.strongRecOn with
  | _ n ih =>
    by_cases h : n < 10
    · rw [digs_lt h]
      simp only [numV, List.foldl_cons, List.foldl_nil, dig_nat h]; omega
    · rw [digs_ge (by omega), numV_app, ih (n / 10) (by omega), dig_nat (Nat.mod_lt _ (by omega))]; omega
theorem digs_len (n : Nat) : ∀ k, n < 10 ^ (k + 1) → (digs n).length ≤ k + 1 := by
  induction n using Nat.strongRecOn with
  | _ n ih =>
    intro k hk
    by_cases h : n < 10
    · rw [digs_lt h]; simp
    · rw [digs_ge (by omega), List.length_append]
      cases k with
      | zero => simp at hk; omega
      | succ k =>
        have := ih (n / 10) (by omega) k (by rw [Nat.div_lt_iff_lt_mul (by omega), ← Nat.pow_succ]; exact hk)
        simp; omega
theorem digs_ne (n : Nat) : ∃ c r, digs n = c :: r ∧ (1 < (digs n).length → c.toNat ≠ 48) := by
  induction n using Nat.strongRecOn with
  | _ n ih =>
    by_cases h : n < 10
    · rw [digs_lt h]; exact ⟨_, _, rfl, by simp⟩
    · obtain ⟨c, r, e, hc⟩ := ih (n / 10) (by omega)
      rw [digs_ge (by omega), e]
      refine ⟨c, r ++ [UInt8.ofNat (48 + n % 10)], rfl, fun _ => ?_⟩
      by_cases h2 : n / 10 < 10
      · rw [digs_lt h2] at e
        cases e
        rw [dig_nat h2]; omega
      · refine hc ?_
        rw [digs_ge (by omega), List.length_append]
        obtain ⟨c', r', e', -⟩ := ih (n / 10 / 10) (by omega)
        rw [e']; simp
/- a lexeme: what stands first where it is followed by what ends it -/
def Stop (r : List UInt8) : Prop := ∀ c r', r = c :: r' → nameC c = false
structure Bare where
  kind : Int
  text : List UInt8
  n : Int
def bare (t : Tok) : Bare := ⟨t.kind, t.text, t.n⟩
def Lexes (b : List UInt8) (t : Bare) : Prop := (∃ c r, b = c :: r ∧ c.toNat ≠ 35 ∧ c.toNat ≠ 32 ∧ c.toNat ≠ 10) ∧ ∀ r, Stop r → ∃ u, oneOf (b ++ r) = some (u, b.length) ∧ bare u = t
theorem while_all {p : UInt8 → Bool} : ∀ (l : List UInt8), ∀ x ∈ l.takeWhile p, p x = true := by
  intro l
  induction l with
  | nil => intro x hx; simp at hx
  | cons c r ih =>
    intro x hx
    cases hc : p c
    · simp [hc] at hx
    · simp only [List.takeWhile_cons, hc, if_true] at hx
      rcases List.mem_cons.1 hx with rfl | hx
      · exact hc
      · exact ih x hx
theorem take_stop {p : UInt8 → Bool} {b r : List UInt8} (hb : ∀ c ∈ b, p c = true) (hr : ∀ c r', r = c :: r' → p c = false) : (b ++ r).takeWhile p = b := by
  rw [List.takeWhile_append_of_pos hb]
  cases r with
  | nil => simp
  | cons c r' => simp [hr c r' rfl]
theorem digit_name {c : UInt8} (h : digitC c = true) : nameC c = true := by simp [nameC, h]
theorem stop_digit {r : List UInt8} (h : Stop r) : ∀ c r', r = c :: r' → digitC c = false := fun c r' e => by
  have := h c r' e
  cases hd : digitC c
  · rfl
  · rw [digit_name hd] at this; cases this
theorem lexes_num {n : Nat} (h : n < 1000000000) : Lexes (digs n) ⟨2, [], n⟩ := by
  obtain ⟨c, r, e, hz⟩ := digs_ne n
  have hc : digitC c = true := digs_all n c (by rw [e]; simp)
  have hc' : 48 ≤ c.toNat ∧ c.toNat ≤ 57 := by simpa [digitC] using hc
  refine ⟨⟨c, r, e, by omega, by omega, by omega⟩, fun q hq => ?_⟩
  have ht := take_stop (p := digitC) (digs_all n) (stop_digit hq)
  have hl := digs_len n 8 (by simpa using h)
  refine ⟨⟨2, [], n, 0⟩, ?_, rfl⟩
  rw [e] at ht hl hz ⊢
  rw [List.cons_append] at ht ⊢
  simp only [oneOf]
  rw [if_neg (by omega), if_pos hc, ht, if_neg (by
    intro hh
    rcases hh with hh | hh
    · omega
    · exact hz hh.1 hh.2)]
  rw [← e, numV_digs]
theorem lexes_semi : Lexes [59] ⟨3, [59], 0⟩ := ⟨⟨59, [], rfl, by decide, by decide, by decide⟩, fun r _ => ⟨⟨3, [59], 0, 0⟩, by simp [oneOf], rfl⟩⟩
theorem small_parts {c : UInt8} (h : smallC c = true) : 97 ≤ c.toNat ∧ c.toNat ≤ 122 := by simpa [smallC] using h
theorem lexes_word {c : UInt8} {r : List UInt8} (hc : smallC c = true) (ha : ∀ x ∈ c :: r, nameC x = true) (hw : wordB (c :: r) = true) : Lexes (c :: r) ⟨3, c :: r, 0⟩ := by
  have hs := small_parts hc
  refine ⟨⟨c, r, rfl, by omega, by omega, by omega⟩, fun q hq => ⟨⟨3, c :: r, 0, 0⟩, ?_, rfl⟩⟩
  have ht := take_stop (p := nameC) ha hq
  rw [List.cons_append] at ht ⊢
  simp only [oneOf]
  rw [if_neg (by omega), if_neg (by simp [digitC]; omega), if_pos hc, ht, if_pos hw]
theorem lexes_name {nm : List UInt8} (h : nameB nm = true) : Lexes nm ⟨1, nm, 0⟩ := by
  cases nm with
  | nil => cases h
  | cons c r =>
    simp only [nameB, Bool.and_eq_true] at h
    obtain ⟨hc, h⟩ := h
    have hs := small_parts hc
    have hd : digitC c = false := by simp [digitC]; omega
    refine ⟨⟨c, r, rfl, by omega, by omega, by omega⟩, fun q hq => ⟨⟨1, c :: r, 0, 0⟩, ?_, rfl⟩⟩
    simp only [oneOf] at h
    rw [if_neg (by omega), hd, hc] at h
    simp only [Bool.false_eq_true, if_false, if_true] at h
    by_cases hw : wordB ((c :: r).takeWhile nameC) = true
    · rw [if_pos hw] at h; simp at h
    · by_cases hle : 12 < ((c :: r).takeWhile nameC).length
      · rw [if_neg hw, if_pos hle] at h; cases h
      · rw [if_neg hw, if_neg hle] at h
        simp only [Bool.and_eq_true, beq_iff_eq] at h
        have hq2 : (c :: r).takeWhile nameC = c :: r := (List.takeWhile_sublist _).eq_of_length h.1
        rw [hq2] at hw hle
        have ha : ∀ x ∈ c :: r, nameC x = true := fun x hx => while_all (c :: r) x (by rw [hq2]; exact hx)
        have ht := take_stop (p := nameC) ha hq
        rw [List.cons_append] at ht ⊢
        simp only [oneOf]
        rw [if_neg (by omega), hd, hc, ht]
        simp only [Bool.false_eq_true, if_false, if_true]
        rw [if_neg hw, if_neg hle]

/- lexemes one behind another, each with what stands ahead of it -/
structure Piece where
  sep : List UInt8
  text : List UInt8
  tok : Bare
def Piece.ok (p : Piece) : Prop := Lexes p.text p.tok ∧ (p.sep = [32] ∨ p.sep = [10] ∨ (p.sep = [] ∧ p.text = [59]))
def flat (ps : List Piece) : List UInt8 := ps.flatMap fun p => p.sep ++ p.text
theorem stop_gap (r : List UInt8) : Stop (32 :: r) ∧ Stop (10 :: r) ∧ Stop (59 :: r) := by
  refine ⟨fun c r' e => ?_, fun c r' e => ?_, fun c r' e => ?_⟩ <;> (cases e; decide)
theorem stop_flat (ps : List Piece) (h : ∀ p ∈ ps, p.ok) : Stop (flat ps ++ [10]) := by
  cases ps with
  | nil => exact (stop_gap []).2.1
  | cons p r =>
    have hp := (h p (List.mem_cons_self ..)).2
    simp only [flat, List.flatMap_cons]
    rcases hp with e | e | ⟨e, e2⟩
    · rw [e]; exact (stop_gap _).1
    · rw [e]; exact (stop_gap _).2.1
    · rw [e, e2]; exact (stop_gap _).2.2
theorem gap_step (i : Nat) (c : UInt8) (r : List UInt8) (h : c = 32 ∨ c = 10) : toksA false i (c :: r) = toksA false (i + 1) r := by
  rw [toksA_cons]
  rcases h with rfl | rfl
  · rw [if_neg (by decide), if_pos (by decide)]
  · rw [if_neg (by decide), if_pos (by decide)]
theorem lex_step {b : List UInt8} {t : Bare} (h : Lexes b t) (i : Nat) {r : List UInt8} (hr : Stop r) {L : List Tok} (hL : toksA false (i + b.length) r = .ok L) : ∃ u, toksA false i (b ++ r) = .ok (u :: L) ∧ bare u = t := by
  obtain ⟨⟨c, q, e, n1, n2, n3⟩, ho⟩ := h
  obtain ⟨u, hu, hb⟩ := ho r hr
  refine ⟨{ u with pos := i }, ?_, hb⟩
  have hd : (b ++ r).drop b.length = r := by simp
  rw [e] at hu hd hL ⊢
  rw [List.cons_append] at hu hd ⊢
  rw [toksA_cons, if_neg (by simpa using n1), if_neg (by simp; exact ⟨n2, n3⟩), hu]
  simp only
  rw [hd, hL]; rfl
theorem toks_flat : ∀ (ps : List Piece) (i : Nat), (∀ p ∈ ps, p.ok) → ∃ L, toksA false i (flat ps ++ [10]) = .ok L ∧ L.map bare = ps.map (·.tok) := by
  intro ps
  induction ps with
  | nil =>
    intro i _
    refine ⟨[], ?_, rfl⟩
    show toksA false i [10] = _
    rw [gap_step i 10 [] (.inr rfl)]; rfl
  | cons p r ih =>
    intro i h
    obtain ⟨hl, hsep⟩ := h p (List.mem_cons_self ..)
    have hr := fun q hq => h q (List.mem_cons_of_mem _ hq)
    have hst := stop_flat r hr
    have hf : flat (p :: r) ++ [10] = p.sep ++ (p.text ++ (flat r ++ [10])) := by simp [flat]
    rw [hf]
    have key : ∀ j, ∃ L, toksA false j (p.text ++ (flat r ++ [10])) = .ok L ∧ L.map bare = (p :: r).map (·.tok) := fun j => by
      obtain ⟨L, hL, hb⟩ := ih (j + p.text.length) hr
      obtain ⟨u, hu, hbu⟩ := lex_step hl j hst hL
      exact ⟨u :: L, hu, by rw [List.map_cons, List.map_cons, hb, hbu]⟩
    rcases hsep with e | e | ⟨e, -⟩
    · rw [e, List.singleton_append, gap_step i 32 _ (.inl rfl)]; exact key _
    · rw [e, List.singleton_append, gap_step i 10 _ (.inr rfl)]; exact key _
    · rw [e, List.nil_append]; exact key _

/- the pieces of a set's text -/
def wp (w : List UInt8) : Piece := ⟨[32], w, ⟨3, w, 0⟩⟩
def np (n : Nat) : Piece := ⟨[32], digs n, ⟨2, [], n⟩⟩
def semiP : Piece := ⟨[], [59], ⟨3, [59], 0⟩⟩
def setsQ (w : List UInt8) (x : Nat) : List Piece := if (Bits.bl x).length = 0 then [] else wp w :: (Bits.bl x).map np
def modeQ (t : TaskV) : List Piece := if t.mode = 0 then [wp wFixed] else if t.mode = 1 then [wp wFloat, np t.Q.toNat] else [wp wThresh, np t.theta.toNat]
def taskQ (t : TaskV) : List Piece :=
  ⟨[10], wTask, ⟨3, wTask, 0⟩⟩ :: ⟨[32], t.name.data.toList, ⟨1, t.name.data.toList, 0⟩⟩ :: wp wPeriod :: np t.T.toNat :: wp wDeadline :: np t.D.toNat :: (modeQ t ++ wp wRegions :: ((t.regs.map Int.toNat).map np ++ (setsQ wEcb t.ecb.toNat ++ (setsQ wUcb t.ucb.toNat ++ [semiP]))))
theorem flat_app (a b : List Piece) : flat (a ++ b) = flat a ++ flat b := by simp [flat]
theorem flat_cons (p : Piece) (b : List Piece) : flat (p :: b) = p.sep ++ p.text ++ flat b := by simp [flat]
theorem flat_nil : flat [] = [] := rfl
theorem flat_row (l : List Nat) : flat (l.map np) = rowT l := by
  induction l with
  | nil => rfl
  | cons n r ih => rw [List.map_cons, flat_cons, ih]; simp [np, rowT]
theorem flat_sets (w : List UInt8) (x : Nat) : flat (setsQ w x) = setsT w x := by
  rw [setsQ, setsT]
  split
  · rfl
  · rw [flat_cons, flat_row]; simp [wp]
theorem flat_mode (t : TaskV) : flat (modeQ t) = modeT t := by
  rw [modeQ, modeT]
  split
  · simp [flat, wp]
  · split <;> simp [flat, wp, np]
theorem flat_task (t : TaskV) : flat (taskQ t) = 10 :: taskT t := by
  rw [taskQ, taskT]
  simp only [flat_cons, flat_app, flat_row, flat_sets, flat_mode, flat_nil]
  simp [wp, np, semiP]
theorem flat_tasks (ts : List TaskV) : [10] ++ (ts.flatMap fun t => taskT t ++ [10]) = flat (ts.flatMap taskQ) ++ [10] := by
  induction ts with
  | nil => rfl
  | cons t r ih =>
    rw [List.flatMap_cons, List.flatMap_cons, flat_app, flat_task]
    simp only [List.append_assoc, List.cons_append, List.nil_append] at ih ⊢
    rw [ih]
theorem text_flat (s : SetV) : textS s = wReload ++ (flat (np s.reload.toNat :: semiP :: s.ts.flatMap taskQ) ++ [10]) := by
  rw [textS, flat_cons, flat_cons]
  have := flat_tasks s.ts
  simp only [np, semiP, List.append_assoc, List.cons_append, List.nil_append] at this ⊢
  rw [this]

/- each of them is one -/
theorem np_ok {n : Nat} (h : n < 1000000000) : (np n).ok := ⟨lexes_num h, .inl rfl⟩
theorem semi_ok : semiP.ok := ⟨lexes_semi, .inr (.inr ⟨rfl, rfl⟩)⟩
theorem lexes_all : Lexes wReload ⟨3, wReload, 0⟩ ∧ Lexes wTask ⟨3, wTask, 0⟩ ∧ Lexes wPeriod ⟨3, wPeriod, 0⟩ ∧ Lexes wDeadline ⟨3, wDeadline, 0⟩ ∧ Lexes wFixed ⟨3, wFixed, 0⟩ ∧ Lexes wFloat ⟨3, wFloat, 0⟩ ∧ Lexes wThresh ⟨3, wThresh, 0⟩ ∧ Lexes wRegions ⟨3, wRegions, 0⟩ ∧ Lexes wEcb ⟨3, wEcb, 0⟩ ∧ Lexes wUcb ⟨3, wUcb, 0⟩ :=
  ⟨lexes_word (by decide) (by decide) (by decide), lexes_word (by decide) (by decide) (by decide), lexes_word (by decide) (by decide) (by decide), lexes_word (by decide) (by decide) (by decide), lexes_word (by decide) (by decide) (by decide), lexes_word (by decide) (by decide) (by decide), lexes_word (by decide) (by decide) (by decide), lexes_word (by decide) (by decide) (by decide), lexes_word (by decide) (by decide) (by decide), lexes_word (by decide) (by decide) (by decide)⟩
theorem row_ok {l : List Nat} (h : ∀ n ∈ l, n < 1000000000) : ∀ p ∈ l.map np, p.ok := fun p hp => by
  obtain ⟨n, hn, rfl⟩ := List.mem_map.1 hp
  exact np_ok (h n hn)
theorem sets_ok {w : List UInt8} (hw : Lexes w ⟨3, w, 0⟩) (x : Nat) : ∀ p ∈ setsQ w x, p.ok := fun p hp => by
  rw [setsQ] at hp
  split at hp
  · cases hp
  · rcases List.mem_cons.1 hp with rfl | hp
    · exact ⟨hw, .inl rfl⟩
    · exact row_ok (fun n hn => by have := ((Bits.mem_bl x n).1 hn).1; omega) p hp
end Go.Proofs.Ytndhjfpjhpnbaaa.Lex
