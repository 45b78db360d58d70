/- What Tokens answers is what the reader may stand before; the judgement of a set that was read. -/
import Derived.Test.YtfpaigcbjpolhaaParseBad
namespace Go.Proofs.Ytfpaigcbjpolhaa.Lex
open Go.ChangeShapes Go.WideShapes Go.RowKit

theorem run_short (p : UInt8 → Bool) (l : List UInt8) : (l.takeWhile p).length ≤ l.length := (List.takeWhile_sublist p).length_le
theorem one_good {l : List UInt8} {t : Tok} {m : Nat} (h : oneOf l = some (t, m)) : I64 t.kind ∧ (0 ≤ t.n ∧ t.n < 1000000000) ∧ t.text.length ≤ l.length := by
  cases l with
  | nil => cases h
  | cons c r =>
    simp only [oneOf] at h
    split at h
    · cases h; simp [I64]
    · split at h
      · rename_i hd
        split at h
        · cases h
        · rename_i h9
          cases h
          exact ⟨by simp [I64], numV_lt _ (while_all _) (by omega), by simp⟩
      · split at h
        · split at h
          · cases h; exact ⟨by simp [I64], by simp, run_short _ _⟩
          · split at h
            · cases h
            · cases h; exact ⟨by simp [I64], by simp, run_short _ _⟩
        · cases h
theorem toks_good (n : Nat) : ∀ (l : List UInt8), l.length ≤ n → ∀ nt i L, toksA nt i l = .ok L → ∀ t ∈ L, I64 t.kind ∧ (0 ≤ t.n ∧ t.n < 1000000000) ∧ t.text.length ≤ l.length := by
  induction n with
  | zero =>
    intro l hl nt i L h
    have : l = [] := List.eq_nil_of_length_eq_zero (by omega)
    subst this; cases h; simp
  | succ n ih =>
    intro l hl nt i L h
    cases l with
    | nil => cases h; simp
    | cons c r =>
      have hr : r.length ≤ n := by simpa using hl
      rw [toksA_cons] at h
      split at h
      · intro t ht; obtain ⟨a, b, e⟩ := ih r hr _ _ _ h t ht; exact ⟨a, b, by simp only [List.length_cons]; omega⟩
      · split at h
        · intro t ht; obtain ⟨a, b, e⟩ := ih r hr _ _ _ h t ht; exact ⟨a, b, by simp only [List.length_cons]; omega⟩
        · cases ho : oneOf (c :: r) with
          | none => rw [ho] at h; cases h
          | some p =>
            obtain ⟨t0, m⟩ := p
            have hm := oneOf_le ho
            rw [ho] at h
            simp only at h
            have hd : ((c :: r).drop m).length ≤ n := by rw [List.length_drop, List.length_cons]; omega
            cases hq : toksA false (i + m) ((c :: r).drop m) with
            | error j => rw [hq] at h; cases h
            | ok M =>
              rw [hq] at h
              cases h
              intro t ht
              rcases List.mem_cons.1 ht with rfl | ht
              · have := one_good ho; exact this
              · obtain ⟨a, b, e⟩ := ih _ hd _ _ _ hq t ht
                rw [List.length_drop] at e
                exact ⟨a, b, by omega⟩
theorem okay_of {l : List UInt8} (h : (tokens l).err = 0) : Okay (tokens l).toks := by
  obtain ⟨hl, L, hL, e⟩ := tokens_zero h
  have hlen := toks_len l.length l (Nat.le_refl _) _ _ _ hL
  rw [e]
  refine ⟨by simp; omega, ⟨L, _, rfl, rfl⟩, fun t ht => ?_⟩
  rcases List.mem_append.1 ht with ht | ht
  · obtain ⟨a, b, c⟩ := toks_good l.length l (Nat.le_refl _) _ _ _ hL t ht
    have := toks_pos l.length l (Nat.le_refl _) _ _ _ hL t ht
    exact ⟨a, b, by unfold I64; omega, by omega⟩
  · simp at ht; subst ht
    exact ⟨by simp [I64], by simp, by unfold I64; simp; omega, by simp⟩
/- the reader as it is made -/
theorem rat_new {w w' : World} {base : Nat} {v : Value} {L : List Tok} (ok : Okay L) (hown : w.ownsRow base 53 4 v L.length (L.flatMap tokC)) (hw : w' = w.alloc (.cells #[v, .int .i64 0] 49)) : RAt w' w.heap.size (.ok L) ∧ ∃ g cap, v = .slice (some ⟨g, 0, none⟩) L.length cap := by
  subst hw
  have h' := hown
  rcases hown.2 with ⟨-, h0⟩ | ⟨g, cap, cur, rfl, hb, hg, hc, -⟩
  · exact absurd (List.eq_nil_of_length_eq_zero h0) ok.ne
  · have hlt := block_lt hg
    refine ⟨⟨g, 0, cap, L, 0, ⟨hlt, heap_alloc_new w _, fun j hj => ?_, hc, ok⟩, rfl, rfl⟩, g, cap, rfl⟩
    have c : ∀ i, i < 4 → (w.alloc (.cells #[.slice (some ⟨g, 0, none⟩) L.length cap, .int .i64 0] 49)).cell? ⟨g, 0 + j * 4 + i, none⟩ = (tokC (L.getD j tok0))[i]? := fun i hi => by
      rw [Nat.zero_add, (h'.alloc _).cellAt (j * 4 + i) (by omega), flat_at L j hj i hi]
    exact ⟨c 0 (by omega), c 1 (by omega), c 2 (by omega), c 3 (by omega)⟩
/- a set's own block is no row of tokens -/
theorem TokAt.not {w : World} {b o : Nat} {t : Tok} {n : Int} {a : Option Addr} {l c : Nat} {ty : TypeId} {fr : Nat × Nat} (h : TokAt w b o t) (hb : w.heap[b]? = some (.cells #[.int .i64 n, .slice a l c] ty fr)) : False := by
  have h1 := h.c1
  rw [cell_block hb] at h1
  match o, h1 with
  | 0, h1 => simp at h1
  | 1, h1 => simp at h1
  | o + 2, h1 => simp at h1
theorem Lies.apart {w : World} {R g off cap b : Nat} {L : List Tok} {e n : Int} {a : Option Addr} {l c : Nat} {ty : TypeId} {fr : Nat × Nat} (h : Lies w R g off cap L e) (hb : w.heap[b]? = some (.cells #[.int .i64 n, .slice a l c] ty fr)) : b ≠ g := fun e => by
  subst e
  exact (h.row 0 (List.length_pos_iff.2 h.ok.ne)).not hb
theorem Lies.off {w : World} {R g off cap b j : Nat} {L : List Tok} {e : Int} (u : Value) (h : Lies w R g off cap L e) (hR : b ≠ R) (hg : b ≠ g) : Lies (w.setCell ⟨b, j, none⟩ u) R g off cap L e := by
  have k : ∀ q, q ≠ b → (w.setCell ⟨b, j, none⟩ u).heap[q]? = w.heap[q]? := fun q hq => heap_setCell_other w ⟨b, j, none⟩ q u (fun e => hq (by simpa using e))
  exact ⟨h.lt, by rw [k R hR.symm]; exact h.rd, fun i hi => (h.row i hi).keep (k g hg.symm), h.fits, h.ok⟩
/- judging -/
theorem odd_bare (ts : List TaskV) : oddOf (ts.map bareT) = oddOf ts := by
  simp only [oddOf, List.length_map]
  congr 1
  funext j
  rw [bare_okAt]
theorem odd_lt {ts : List TaskV} {i : Nat} (h : oddOf ts = some i) : i < ts.length := by
  have := List.mem_of_find?_eq_some h
  simpa using this
theorem parse_err {l : List UInt8} (h : (tokens l).err ≠ 0) : parseS l = ⟨empty0, (tokens l).pos, (tokens l).err⟩ := by rw [parseS, if_neg h]
theorem parse_form {l : List UInt8} {p : Int × Int} (h : (tokens l).err = 0) (hp : setP (tokens l).toks = .error p) : parseS l = ⟨empty0, p.2, p.1⟩ := by rw [parseS, if_pos h, hp]
theorem zip_parts {T : List TaskV} {P : List Int} (h : T.length = P.length) : ((T.map bareT).zip P).map (·.1) = T.map bareT ∧ ((T.map bareT).zip P).map (·.2) = P := by
  constructor
  · exact List.map_fst_zip (by simp [h])
  · exact List.map_snd_zip (by simp [h])
theorem parse_odd {l : List UInt8} {rl : Int} {T : List TaskV} {P : List Int} {i : Nat} (h : (tokens l).err = 0) (hp : setP (tokens l).toks = .ok (rl, (T.map bareT).zip P)) (hl : T.length = P.length) (ho : oddOf T = some i) : parseS l = ⟨empty0, P.getD i 0, 1⟩ := by
  obtain ⟨e1, e2⟩ := zip_parts hl
  rw [parseS, if_pos h, hp]
  simp only [judged]
  rw [e1, e2, odd_bare, ho]
theorem parse_all {l : List UInt8} {rl : Int} {T : List TaskV} {P : List Int} {ao : Option Addr} {cap : Nat} (h : (tokens l).err = 0) (hp : setP (tokens l).toks = .ok (rl, (T.map bareT).zip P)) (hl : T.length = P.length) (ho : oddOf T = none) : parseS l = if allB ⟨rl, ao, cap, T⟩ then ⟨⟨rl, none, 0, T.map bareT⟩, l.length, 0⟩ else ⟨empty0, 0, 1⟩ := by
  obtain ⟨e1, e2⟩ := zip_parts hl
  rw [parseS, if_pos h, hp]
  simp only [judged]
  rw [e1, odd_bare, ho]
  simp only
  rw [bare_all rl ao cap T]
end Go.Proofs.Ytfpaigcbjpolhaa.Lex
