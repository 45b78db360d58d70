/- Plain facts on the tokens of texts: a note ahead, two texts one behind the other, texts by hand. -/
import Derived.Test.YtndhjfpjhpnbaaaLexSpec
namespace Go.Proofs.Ytndhjfpjhpnbaaa.Lex
set_option maxRecDepth 100000

def shiftT (d : Int) (t : Tok) : Tok := { t with pos := t.pos + d }
def shiftE (d : Nat) : Except Nat (List Tok) → Except Nat (List Tok)
  | .error j => .error (j + d)
  | .ok L => .ok (L.map (shiftT d))

theorem toksA_shift (n : Nat) : ∀ (l : List UInt8), l.length ≤ n → ∀ nt i d, toksA nt (i + d) l = shiftE d (toksA nt i l) := by
  induction n with
  | zero =>
    intro l hl nt i d
    have : l = [] := List.eq_nil_of_length_eq_zero (by omega)
    subst this; rfl
  | succ n ih =>
    intro l hl nt i d
    cases l with
    | nil => rfl
    | cons c r =>
      have hr : r.length ≤ n := by simpa using hl
      rw [toksA_cons, toksA_cons]
      split
      · rw [show i + d + 1 = (i + 1) + d by omega]; exact ih r hr _ _ _
      · split
        · rw [show i + d + 1 = (i + 1) + d by omega]; exact ih r hr _ _ _
        · cases ho : oneOf (c :: r) with
          | none => rfl
          | some p =>
            obtain ⟨t, m⟩ := p
            have hm := oneOf_le ho
            have hd : ((c :: r).drop m).length ≤ n := by rw [List.length_drop, List.length_cons]; omega
            simp only
            rw [show i + d + m = (i + m) + d by omega, ih _ hd false (i + m) d]
            cases toksA false (i + m) ((c :: r).drop m) with
            | error j => rfl
            | ok L => simp [shiftE, Except.map, shiftT]

theorem toksA_note (note l : List UInt8) (h : ∀ c ∈ note, c.toNat ≠ 10) : ∀ i, toksA true i (note ++ 10 :: l) = toksA false (i + note.length + 1) l := by
  induction note with
  | nil => intro i; rw [List.nil_append, toksA_cons]; simp
  | cons c r ih =>
    intro i
    have hc : c.toNat ≠ 10 := h c (by simp)
    rw [List.cons_append, toksA_cons, Bool.true_or, if_pos rfl]
    have e : (c.toNat != 10) = true := by simpa using hc
    rw [e, ih (fun x hx => h x (by simp [hx])) (i + 1), List.length_cons]
    congr 1; omega
theorem toksA_ahead (note l : List UInt8) (h : ∀ c ∈ note, c.toNat ≠ 10) : toksA false 0 (35 :: (note ++ 10 :: l)) = shiftE (note.length + 2) (toksA false 0 l) := by
  rw [toksA_cons, if_pos (by decide)]
  show toksA true (0 + 1) (note ++ 10 :: l) = _
  rw [toksA_note note l h, show 0 + 1 + note.length + 1 = 0 + (note.length + 2) by omega, toksA_shift l.length l (Nat.le_refl _)]

theorem takeWhile_stop (p : UInt8 → Bool) (a b : List UInt8) (x : UInt8) (h : p x = false) : (a ++ x :: b).takeWhile p = a.takeWhile p := by
  induction a with
  | nil => simp [h]
  | cons c r ih => simp only [List.cons_append, List.takeWhile_cons, ih]
theorem oneOf_stop (c : UInt8) (r b : List UInt8) : oneOf (c :: (r ++ 10 :: b)) = oneOf (c :: r) := by
  have hd := takeWhile_stop digitC (c :: r) b 10 (by decide)
  have hn := takeWhile_stop nameC (c :: r) b 10 (by decide)
  rw [List.cons_append] at hd hn
  simp only [oneOf, hd, hn]
theorem toksA_join (n : Nat) : ∀ (a b : List UInt8), a.length ≤ n → ∀ nt i L, toksA nt i a = .ok L → toksA nt i (a ++ 10 :: b) = (toksA false (i + a.length + 1) b).map (L ++ ·) := by
  induction n with
  | zero =>
    intro a b ha nt i L h
    have : a = [] := List.eq_nil_of_length_eq_zero (by omega)
    subst this
    cases h
    rw [List.nil_append, toksA_cons]
    have hid : ∀ e : Except Nat (List Tok), e.map ([] ++ ·) = e := fun e => by cases e <;> rfl
    rw [hid]
    cases nt <;> simp
  | succ n ih =>
    intro a b ha nt i L h
    cases a with
    | nil =>
      cases h
      rw [List.nil_append, toksA_cons]
      have hid : ∀ e : Except Nat (List Tok), e.map ([] ++ ·) = e := fun e => by cases e <;> rfl
      rw [hid]
      cases nt <;> simp
    | cons c r =>
      have hr : r.length ≤ n := by simpa using ha
      rw [toksA_cons] at h
      rw [List.cons_append, toksA_cons, List.length_cons, show i + (r.length + 1) + 1 = (i + 1) + r.length + 1 by omega]
      split at h
      · rename_i h1; rw [if_pos h1]; exact ih r b hr _ _ _ h
      · rename_i h1
        rw [if_neg h1]
        split at h
        · rename_i h2; rw [if_pos h2]; exact ih r b hr _ _ _ h
        · rename_i h2
          rw [if_neg h2, oneOf_stop]
          cases ho : oneOf (c :: r) with
          | none => rw [ho] at h; cases h
          | some p =>
            obtain ⟨t, m⟩ := p
            have hm := oneOf_le ho
            rw [ho] at h
            simp only at h ⊢
            have hd : ((c :: r).drop m).length ≤ n := by rw [List.length_drop, List.length_cons]; omega
            cases hq : toksA false (i + m) ((c :: r).drop m) with
            | error j => rw [hq] at h; cases h
            | ok M =>
              rw [hq] at h
              cases h
              have := ih ((c :: r).drop m) b hd false (i + m) M hq
              rw [show (c :: (r ++ 10 :: b)).drop m = (c :: r).drop m ++ 10 :: b by rw [← List.cons_append, List.drop_append_of_le_length hm.2], this]
              have hlen : ((c :: r).drop m).length = r.length + 1 - m := by rw [List.length_drop, List.length_cons]
              have hm2 : m ≤ r.length + 1 := by simpa using hm.2
              rw [hlen, show i + m + (r.length + 1 - m) + 1 = i + 1 + r.length + 1 by omega]
              cases toksA false (i + 1 + r.length + 1) b <;> rfl
theorem toks_len (n : Nat) : ∀ (l : List UInt8), l.length ≤ n → ∀ nt i L, toksA nt i l = .ok L → L.length ≤ l.length := by
  induction n with
  | zero =>
    intro l hl nt i L h
    have : l = [] := List.eq_nil_of_length_eq_zero (by omega)
    subst this; cases h; simp
  | succ n ih =>
    intro l hl nt i L h
    cases l with
    | nil => cases h; simp
    | cons c r =>
      have hr : r.length ≤ n := by simpa using hl
      rw [toksA_cons] at h
      split at h
      · have := ih r hr _ _ _ h; simp; omega
      · split at h
        · have := ih r hr _ _ _ h; simp; omega
        · cases ho : oneOf (c :: r) with
          | none => rw [ho] at h; cases h
          | some p =>
            obtain ⟨t, m⟩ := p
            have hm := oneOf_le ho
            rw [ho] at h
            simp only at h
            have hd : ((c :: r).drop m).length ≤ n := by rw [List.length_drop, List.length_cons]; omega
            cases hq : toksA false (i + m) ((c :: r).drop m) with
            | error j => rw [hq] at h; cases h
            | ok M =>
              rw [hq] at h
              cases h
              have := ih _ hd _ _ _ hq
              rw [List.length_drop] at this
              simp only [List.length_cons] at this hm ⊢
              omega
/- texts by hand -/
theorem hand_known : tokens [116, 97, 115, 107, 32, 97, 59] = ⟨[⟨3, [116, 97, 115, 107], 0, 0⟩, ⟨1, [97], 0, 5⟩, ⟨3, [59], 0, 6⟩, ⟨4, [], 0, 7⟩], 7, 0⟩ := by rfl

theorem tokens_zero {l : List UInt8} (h : (tokens l).err = 0) : l.length ≤ 4000 ∧ ∃ L, toksA false 0 l = .ok L ∧ tokens l = ⟨L ++ [⟨4, [], 0, l.length⟩], l.length, 0⟩ := by
  unfold tokens at h ⊢
  split at h
  · cases h
  · rename_i hl
    refine ⟨by omega, ?_⟩
    cases hq : toksA false 0 l with
    | error i => rw [hq] at h; cases h
    | ok L => exact ⟨L, rfl, by rw [if_neg hl]⟩
theorem tokens_note {l note : List UInt8} (h : (tokens l).err = 0) (hl : l.length ≤ 1000) (hn : note.length ≤ 100) (hno : ∀ c ∈ note, c.toNat ≠ 10) :
    tokens (35 :: (note ++ 10 :: l)) = ⟨(tokens l).toks.map (shiftT (note.length + 2 : Nat)), (l.length + (note.length + 2) : Nat), 0⟩ := by
  obtain ⟨_, L, h1, h2⟩ := tokens_zero h
  have hlen : (35 :: (note ++ 10 :: l)).length = l.length + (note.length + 2) := by simp only [List.length_cons, List.length_append]; omega
  rw [h2, tokens, if_neg (by omega), toksA_ahead note l hno, h1, hlen]
  simp [shiftE, shiftT]
theorem tokens_join {a b : List UInt8} (ha : (tokens a).err = 0) (hb : (tokens b).err = 0) (hl : a.length + b.length ≤ 3000) :
    ∃ L, tokens a = ⟨L ++ [⟨4, [], 0, a.length⟩], a.length, 0⟩ ∧ tokens (a ++ 10 :: b) = ⟨L ++ (tokens b).toks.map (shiftT (a.length + 1 : Nat)), (a.length + 1 + b.length : Nat), 0⟩ := by
  obtain ⟨_, L, h1, h2⟩ := tokens_zero ha
  obtain ⟨_, M, h3, h4⟩ := tokens_zero hb
  refine ⟨L, h2, ?_⟩
  have hlen : (a ++ 10 :: b).length = a.length + 1 + b.length := by simp only [List.length_cons, List.length_append]; omega
  rw [h4, tokens, if_neg (by omega), toksA_join a.length a b (Nat.le_refl _) false 0 L h1, (show toksA false (0 + a.length + 1) b = shiftE (a.length + 1) (toksA false 0 b) by rw [show 0 + a.length + 1 = 0 + (a.length + 1) by omega]; exact toksA_shift b.length b (Nat.le_refl _) false 0 (a.length + 1)), h3, hlen]
  simp [shiftE, shiftT, Except.map]
  omega

theorem toks_pos (n : Nat) : ∀ (l : List UInt8), l.length ≤ n → ∀ nt i L, toksA nt i l = .ok L → ∀ t ∈ L, (i : Int) ≤ t.pos ∧ t.pos ≤ i + l.length := by
  induction n with
  | zero =>
    intro l hl nt i L h
    have : l = [] := List.eq_nil_of_length_eq_zero (by omega)
    subst this; cases h; simp
  | succ n ih =>
    intro l hl nt i L h
    cases l with
    | nil => cases h; simp
    | cons c r =>
      have hr : r.length ≤ n := by simpa using hl
      rw [toksA_cons] at h
      split at h
      · intro t ht; have := ih r hr _ _ _ h t ht; simp only [List.length_cons]; omega
      · split at h
        · intro t ht; have := ih r hr _ _ _ h t ht; simp only [List.length_cons]; omega
        · cases ho : oneOf (c :: r) with
          | none => rw [ho] at h; cases h
          | some p =>
            obtain ⟨t0, m⟩ := p
            have hm := oneOf_le ho
            rw [ho] at h
            simp only at h
            have hd : ((c :: r).drop m).length ≤ n := by rw [List.length_drop, List.length_cons]; omega
            cases hq : toksA false (i + m) ((c :: r).drop m) with
            | error j => rw [hq] at h; cases h
            | ok M =>
              rw [hq] at h
              cases h
              intro t ht
              rcases List.mem_cons.1 ht with rfl | ht
              · simp only [List.length_cons]; omega
              · have := ih _ hd _ _ _ hq t ht
                rw [List.length_drop] at this
                simp only [List.length_cons] at this hm ⊢
                omega
theorem tokens_pos (l : List UInt8) : ∀ t ∈ (tokens l).toks, 0 ≤ t.pos ∧ t.pos ≤ l.length := by
  unfold tokens
  split
  · simp
  · cases h : toksA false 0 l with
    | error i => simp
    | ok L =>
      intro t ht
      rcases List.mem_append.1 ht with ht | ht
      · have := toks_pos l.length l (Nat.le_refl _) _ _ _ h t ht
        omega
      · simp at ht; subst ht; simp
theorem getD_pos {L : List Tok} {n : Int} (h : ∀ t ∈ L, 0 ≤ t.pos ∧ t.pos ≤ n) (k : Nat) (hk : k < L.length) (d : Tok) : 0 ≤ (L.getD k d).pos ∧ (L.getD k d).pos ≤ n := by
  rw [List.getD_eq_getElem?_getD, List.getElem?_eq_getElem hk]
  exact h _ (List.getElem_mem hk)
theorem getD_shift (L : List Tok) (d : Int) (k : Nat) (hk : k < L.length) (x : Tok) : (L.map (shiftT d)).getD k x = shiftT d (L.getD k x) := by
  rw [List.getD_eq_getElem?_getD, List.getD_eq_getElem?_getD, List.getElem?_map, List.getElem?_eq_getElem hk]; rfl
end Go.Proofs.Ytndhjfpjhpnbaaa.Lex
