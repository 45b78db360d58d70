/- What Tokens of the reference of chapter 4 answers: for all texts. -/
import Derived.Test.YtndhjfpjhpnbaaaLexRef2
namespace Go.Proofs.Ytndhjfpjhpnbaaa.Lex
set_option maxRecDepth 100000
open Go.ChangeShapes Go.WideShapes Go.RowKit

def tokC (t : Tok) : List Value := [.int .i64 t.kind, .string (mkS t.text), .int .i64 t.n, .int .i64 t.pos]
theorem ret_toks {v : Value} {a b : Int} {A : Ans} (h1 : A.pos = a) (h2 : A.err = b) : Ending.returned (.tuple #[v, .int .i64 a, .int .i64 b]) = .returned (.tuple #[v, .int .i64 A.pos, .int .i64 A.err]) := by rw [h1, h2]
theorem Try.info_tok : (Try.prog.info? 63).map (fun i => (i.zero, i.size, i.bytes)) = some (some (.agg #[.int .i64 0, .string ⟨#[]⟩, .int .i64 0, .int .i64 0]), 4, 40) := by kernel_rfl

theorem own_bel {w w1 : World} {base : Nat} {v : Value} {n : Nat} {xs : List Value} (h : w.ownsRow base 63 4 v n xs) (hb : Below w.heap.size w w1) : w1.ownsRow base 63 4 v n xs :=
  ⟨h.1, h.2.imp id fun ⟨g, cap, cur, e, hg, hc, r⟩ => ⟨g, cap, cur, e, hg, by
    have hlt : g < w.heap.size := by
      rcases Nat.lt_or_ge g w.heap.size with l | l
      · exact l
      · rw [Array.getElem?_eq_none l] at hc; cases hc
    rw [hb.block g hlt]; exact hc, r⟩⟩
theorem fresh_tok (w : World) (t : Tok) (ty : TypeId) : ∀ j u, (tokC t)[j]? = some u → (w.alloc (.cells #[.int .i64 t.kind, .string (mkS t.text), .int .i64 t.n, .int .i64 t.pos] ty)).cell? ((⟨w.heap.size, 0, none⟩ : Addr).add j) = some u := by
  intro j u hj
  match j, hj with
  | 0, hj => simp [tokC] at hj; subst hj; simp [Addr.add]
  | 1, hj => simp [tokC] at hj; subst hj; simp [Addr.add]
  | 2, hj => simp [tokC] at hj; subst hj; simp [Addr.add]
  | 3, hj => simp [tokC] at hj; subst hj; simp [Addr.add]
theorem fresh_tok' (w : World) (t : Tok) (ty : TypeId) {n : Nat} (hn : w.heap.size = n) : ∀ j u, (tokC t)[j]? = some u → (w.alloc (.cells #[.int .i64 t.kind, .string (mkS t.text), .int .i64 t.n, .int .i64 t.pos] ty)).cell? ((⟨n, 0, none⟩ : Addr).add j) = some u := by
  subst hn; exact fresh_tok w t ty
theorem one_tok (t : Tok) : ∀ u ∈ tokC t, u.oneCell' = true := by
  intro u hu
  simp [tokC] at hu
  rcases hu with rfl | rfl | rfl | rfl <;> rfl
theorem own_tok {B : Nat} {w wr w1 : World} {v v' : Value} {L : List Tok} {t : Tok} (hB : B ≤ wr.heap.size)
    (hown : wr.ownsRow B 63 4 v L.length (L.flatMap tokC)) (hnx : Below B w wr)
    (hown' : w1.ownsRow B 63 4 v' (L.length + 1) (L.flatMap tokC ++ tokC t)) (hgrow : wr.grownBy w1 v.ownBlock) :
    w1.ownsRow B 63 4 v' (L ++ [t]).length ((L ++ [t]).flatMap tokC) ∧ Below B w w1 :=
  ⟨by simpa using hown', hnx.grown hgrow hB (fun j hj => (hown.lt j hj).1)⟩
theorem drop_at (s : ByteArray) (k : Nat) (h : k < s.size) : (bl s).drop k = (s[k]'h) :: (bl s).drop (k + 1) := by
  have hl : k < (bl s).length := by rw [bl_len]; exact h
  rw [List.drop_eq_getElem_cons hl]
  have := bl_at s k h
  rw [List.getElem?_eq_getElem hl] at this
  rw [Option.some.inj this]
theorem bl_from (s : ByteArray) (k : Nat) : bl (s.extract k s.size) = (bl s).drop k := by
  rw [bl_extract]
  exact List.take_of_length_le (by rw [List.length_drop, bl_len]; omega)
theorem size_from (s : ByteArray) (k : Nat) : (s.extract k s.size).size = s.size - k := by rw [← bl_len, bl_from, List.length_drop, bl_len]
theorem map_app (L : List Tok) (e : Except Nat (List Tok)) (t : Tok) : (e.map (t :: ·)).map (L ++ ·) = e.map ((L ++ [t]) ++ ·) := by
  cases e <;> simp [Except.map]
theorem tokens_err {l : List UInt8} {i : Nat} (hl : l.length ≤ 4000) (h : toksA false 0 l = .error i) : tokens l = ⟨[], i, 2⟩ := by
  rw [tokens, if_neg (by omega), h]
theorem tokens_ok {l : List UInt8} {L : List Tok} (hl : l.length ≤ 4000) (h : toksA false 0 l = .ok L) : tokens l = ⟨L ++ [⟨4, [], 0, l.length⟩], l.length, 0⟩ := by
  rw [tokens, if_neg (by omega), h]

end Go.Proofs.Ytndhjfpjhpnbaaa.Lex
