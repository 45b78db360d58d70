/- What is left of a text's tokens, or the first error: plain facts, and how tasks and sets that are read lie in memory. -/
import Derived.Test.YtlfmnnngadnkpaaDoorParsePure3
import Derived.Test.YtlfmnnngadnkpaaDoorTaskPut
import Derived.Test.YtlfmnnngadnkpaaDoorLexSame
import Derived.Test.YtlfmnnngadnkpaaDoorLexPure
import Derived.Test.YtlfmnnngadnkpaaDoorBitsList
namespace Go.Proofs.YtlfmnnngadnkpaaDoor.Lex
open Go.ChangeShapes Go.WideShapes Go.RowKit

structure Mv (R B : Nat) (w w' : World) : Prop where
  os : w'.os = w.os
  tape : w'.tape = w.tape
  output : w'.output = w.output
  size : w.heap.size ≤ w'.heap.size
  block : ∀ k, k < B → k ≠ R → w'.heap[k]? = w.heap[k]?
theorem Mv.refl (R B : Nat) (w : World) : Mv R B w w := ⟨rfl, rfl, rfl, Nat.le_refl _, fun _ _ _ => rfl⟩
theorem Mv.of {R B : Nat} {w w' : World} (h : Below B w w') : Mv R B w w' := ⟨h.os, h.tape, h.output, h.size, fun k hk _ => h.block k hk⟩
theorem Mv.trans {R B : Nat} {a b c : World} (h : Mv R B a b) (k : Mv R B b c) : Mv R B a c :=
  ⟨k.os.trans h.os, k.tape.trans h.tape, k.output.trans h.output, Nat.le_trans h.size k.size, fun i hi hr => (k.block i hi hr).trans (h.block i hi hr)⟩
theorem Mv.mono {R B B' : Nat} {w w' : World} (h : Mv R B w w') (hB : B' ≤ B) : Mv R B' w w' := ⟨h.os, h.tape, h.output, h.size, fun k hk => h.block k (Nat.lt_of_lt_of_le hk hB)⟩
theorem Mv.on {R : Nat} {a b c : World} (h : Mv R a.heap.size a b) (k : Mv R b.heap.size b c) : Mv R a.heap.size a c := h.trans (k.mono h.size)
theorem Mv.drew {R B : Nat} {a w : World} (h : Mv R B a w) : Mv R B a w.drew := ⟨h.os, h.tape, h.output, h.size, h.block⟩
theorem Mv.alloc {R B : Nat} {a w : World} (h : Mv R B a w) (hB : B ≤ w.heap.size) (o : Obj) : Mv R B a (w.alloc o) := h.trans (Mv.of ((Below.refl _ _).alloc hB o))
theorem Mv.setCell {R B : Nat} {a w : World} (h : Mv R B a w) {p : Addr} (hp : B ≤ p.block ∨ p.block = R) (u : Value) : Mv R B a (w.setCell p u) :=
  h.trans ⟨rfl, rfl, rfl, by simp [World.setCell], fun k hk hr => Below.heap_setCell _ _ _ _ (by omega)⟩
theorem Mv.grown {R B : Nat} {a w w' : World} {row : Option Nat} (h : Mv R B a w) (hg : w.grownBy w' row) (hB : B ≤ w.heap.size) (hr : ∀ k, row = some k → B ≤ k) : Mv R B a w' :=
  h.trans (Mv.of ((Below.refl _ _).grown hg hB hr))
theorem Mv.below {R B : Nat} {w w' : World} (h : Mv R B w w') (hR : B ≤ R) : Below B w w' := ⟨h.os, h.tape, h.output, h.size, fun k hk => h.block k hk (by omega)⟩
theorem block_lt {w : World} {g : Nat} {o : Obj} (h : w.heap[g]? = some o) : g < w.heap.size := by
  rcases Nat.lt_or_ge g w.heap.size with l | l
  · exact l
  · rw [Array.getElem?_eq_none l] at h; cases h
theorem Mv.at {R : Nat} {w w' : World} (h : Mv R w.heap.size w w') {g : Nat} {o : Obj} (hg : w.heap[g]? = some o) (hne : g ≠ R) : w'.heap[g]? = some o := by
  rw [h.block g (block_lt hg) hne]; exact hg
theorem Mv.cell {R : Nat} {w w' : World} (h : Mv R w.heap.size w w') {a : Addr} {u : Value} (hc : w.cell? a = some u) (hne : a.block ≠ R) : w'.cell? a = some u := by
  rw [World.cell?_of_block (w := w) (h.block a.block (World.block_lt_of_cell? w _ hc) hne)]; exact hc
theorem Mv.own {R : Nat} {w w' : World} (h : Mv R w.heap.size w w') {base : Nat} {e : TypeId} {s : Nat} {v : Value} {n : Nat} {xs : List Value} (ho : w.ownsRow base e s v n xs) (hR : R < base) : w'.ownsRow base e s v n xs :=
  ⟨ho.1, ho.2.imp id fun ⟨g, cap, cur, e, hg, hc, r⟩ => ⟨g, cap, cur, e, hg, h.at hc (by omega), r⟩⟩
structure GoodT (t : Tok) : Prop where
  kind : I64 t.kind
  n : 0 ≤ t.n ∧ t.n < 1000000000
  pos : I64 t.pos
  text : t.text.length ≤ 4000
structure Okay (L : List Tok) : Prop where
  len : L.length ≤ 4001
  ends : ∃ M t, L = M ++ [t] ∧ t.kind = 4
  each : ∀ t ∈ L, GoodT t
theorem Okay.ne {L : List Tok} (h : Okay L) : L ≠ [] := by obtain ⟨M, t, e, -⟩ := h.ends; rw [e]; simp
theorem Okay.tail {t : Tok} {r : List Tok} (h : Okay (t :: r)) (hk : t.kind ≠ 4) : Okay r := by
  refine ⟨by have := h.len; simp at this; omega, ?_, fun u hu => h.each u (List.mem_cons_of_mem _ hu)⟩
  obtain ⟨M, u, e, hu⟩ := h.ends
  cases M with
  | nil => simp at e; exact absurd (e.1 ▸ hu) hk
  | cons m M => simp at e; exact ⟨M, u, e.2, hu⟩
structure TokAt (w : World) (b o : Nat) (t : Tok) : Prop where
  c0 : w.cell? ⟨b, o, none⟩ = some (.int .i64 t.kind)
  c1 : w.cell? ⟨b, o + 1, none⟩ = some (.string (mkS t.text))
  c2 : w.cell? ⟨b, o + 2, none⟩ = some (.int .i64 t.n)
  c3 : w.cell? ⟨b, o + 3, none⟩ = some (.int .i64 t.pos)
abbrev Left := Except (Int × Int) (List Tok)
def Stood (x : Left) (L : List Tok) (e : Int) : Prop := match x with
  | .ok M => e = 0 ∧ L = M
  | .error p => e = p.1 ∧ p.1 ≠ 0 ∧ posOf L = p.2
theorem TokAt.keep {w w' : World} {b o : Nat} {t : Tok} (h : TokAt w b o t) (k : w'.heap[b]? = w.heap[b]?) : TokAt w' b o t :=
  ⟨(World.cell?_of_block (w := w) k).trans h.c0, (World.cell?_of_block (w := w) k).trans h.c1, (World.cell?_of_block (w := w) k).trans h.c2, (World.cell?_of_block (w := w) k).trans h.c3⟩
def headIs (k : Int) : Left → Bool
  | .ok (t :: _) => t.kind == k
  | _ => false
def seesB (nm : List UInt8) : Left → Bool
  | .ok L => isWord nm L
  | _ => false
def takeT (k : Int) : Left → Tok
  | .ok (t :: _) => if t.kind == k then t else noTok
  | _ => noTok
def goneP (k : Int) : Left → Left
  | .ok (t :: r) => if t.kind == k then .ok r else .error (2, t.pos)
  | .ok [] => .error (2, 0)
  | .error p => .error p
theorem mv_set1 (w : World) (R i : Nat) (v : Value) (o : Obj) : Mv R w.heap.size w ((w.setCell ⟨R, i, none⟩ v).alloc o) := Mv.alloc (Mv.setCell (Mv.refl R w.heap.size w) (.inr rfl) v) (by simp [World.setCell]) o
theorem mv_set2 (w : World) (R i : Nat) (v : Value) (o o' : Obj) : Mv R w.heap.size w (((w.setCell ⟨R, i, none⟩ v).alloc o).alloc o') := Mv.alloc (mv_set1 w R i v o) (by simp [World.setCell]) o'
theorem cell_set0 {w : World} {R : Nat} {a u : Value} {ty : TypeId} (v : Value) (o o' : Obj) (h : w.heap[R]? = some (.cells #[a, u] ty)) : (((w.setCell ⟨R, 0, none⟩ v).alloc o).alloc o').cell? ⟨R, 1, none⟩ = some u :=
  cell_block (block_alloc (block_alloc (block_set h)))
def wordX (nm : List UInt8) (x : Left) : Left := thenE x (wordP nm)
theorem word_gone {nm : List UInt8} {x : Left} (h : seesB nm x = true) : goneP 3 x = wordX nm x := by
  cases x with
  | error p => cases h
  | ok L =>
    cases L with
    | nil => cases h
    | cons t r =>
      have h' : isWord nm (t :: r) = true := h
      have hk : (t.kind == 3) = true := by simp [isWord] at h' ⊢; exact h'.1
      simp [goneP, wordX, thenE, wordP, h', hk]
def csetP (last : Int) : Left → Int × Left
  | .ok (t :: r) => if t.kind == 2 then (if 64 ≤ t.n ∨ t.n ≤ last then (0, .error (3, t.pos)) else (t.n, .ok r)) else (0, .error (2, t.pos))
  | .ok [] => (0, .error (2, 0))
  | .error p => (0, .error p)
def mea : Left → Nat
  | .ok L => L.length + 1
  | .error _ => 0
def meaW (R : Nat) (w : World) : Nat := match w.heap[R]? with
  | some (.cells cs _ _) => (match cs[0]? with
    | some (Value.slice _ n _) => if intOf (cs.getD 1 undef) = 0 then n + 1 else 0
    | _ => 0)
  | _ => 0
theorem head_ok {k : Int} {y : Left} (h : headIs k y = true) : ∃ t r, y = .ok (t :: r) ∧ t.kind = k := by
  cases y with
  | error p => cases h
  | ok L =>
    cases L with
    | nil => cases h
    | cons t r => exact ⟨t, r, rfl, by simpa [headIs] using h⟩
def setsX (nm : List UInt8) (x : Left) : Except (Int × Int) (Nat × List Tok) := thenE x (setsOf nm)
theorem ofN_one {n : Int} (h0 : 0 ≤ n) (h1 : n < 64) : Bits.ofN [n] = 2 ^ n.toNat := by simp [Bits.ofN, h0, h1]
theorem ofN_lt (n : Int) : Bits.ofN [n] < 18446744073709551616 := by
  simp only [Bits.ofN, List.foldl_cons, List.foldl_nil]
  split
  · rw [Nat.zero_or]
    have : 2 ^ n.toNat ≤ 2 ^ 63 := Nat.pow_le_pow_right (by decide) (by omega)
    omega
  · decide
theorem or_lt {a b : Nat} (ha : a < 18446744073709551616) (hb : b < 18446744073709551616) : a ||| b < 18446744073709551616 := Nat.or_lt_two_pow (n := 64) ha hb
theorem or_is {a b : Nat} (ha : a < 18446744073709551616) (hb : b < 18446744073709551616) : bits .or .u64 (a : Int) (b : Int) = ((a ||| b : Nat) : Int) := bits_or_u64_nat a b ha hb
theorem row_one (w : World) (n : Int) (ty : TypeId) : Bits.Row (w.alloc (.cells #[.int .i64 n] ty)) (.slice (some ⟨w.heap.size, 0, none⟩) 1 1) [n] :=
  ⟨some ⟨w.heap.size, 0, none⟩, 1, rfl, fun _ => ⟨w.heap.size, 0, rfl, fun j hj => by
    have : j = 0 := by simpa using hj
    subst this; simp⟩⟩
theorem sets_first {nm : List UInt8} {x : Left} (h : seesB nm x = true) : setsX nm x = thenE (csetP (-1) (wordX nm x)).2 (setsP (csetP (-1) (wordX nm x)).1 (Bits.ofN [(csetP (-1) (wordX nm x)).1])) := by
  cases x with
  | error p => cases h
  | ok L =>
    have hw : isWord nm L = true := h
    have hx : wordX nm (.ok L) = .ok L.tail := by simp [wordX, thenE, wordP, hw]
    rw [hx]
    simp only [setsX, thenE, setsOf, hw, if_true]
    cases hL : L.tail with
    | nil => simp [isNum, csetP, posOf]
    | cons t r =>
      cases hk : t.kind == 2
      · simp [isNum, csetP, hk, posOf]
      · by_cases hb : 64 ≤ t.n ∨ t.n ≤ -1
        · simp [isNum, csetP, hk, hb, setsP]
        · have : Bits.ofN [t.n] = 2 ^ t.n.toNat := ofN_one (by omega) (by omega)
          simp [isNum, csetP, hk, hb, setsP, this]
theorem sets_next {last : Int} {v : Nat} {y : Left} (h0 : -1 ≤ last) (h : headIs 2 y = true) : thenE y (setsP last v) = thenE (csetP last y).2 (setsP (csetP last y).1 (v ||| Bits.ofN [(csetP last y).1])) ∧ mea (csetP last y).2 < mea y := by
  obtain ⟨t, r, rfl, hk⟩ := head_ok h
  have hk' : (t.kind == 2) = true := by simp [hk]
  by_cases hb : 64 ≤ t.n ∨ t.n ≤ last
  · simp [csetP, hk', hb, setsP, thenE, mea]
  · have : Bits.ofN [t.n] = 2 ^ t.n.toNat := ofN_one (by omega) (by omega)
    simp [csetP, hk', hb, setsP, thenE, mea, this]
theorem sets_last {last : Int} {v : Nat} {y : Left} (h : headIs 2 y = false) : thenE y (setsP last v) = thenE y (fun L => .ok (v, L)) := by
  cases y with
  | error p => rfl
  | ok L =>
    cases L with
    | nil => rfl
    | cons t r =>
      have hk : (t.kind == 2) = false := h
      simp [thenE, setsP, hk]
theorem cset_ge {last : Int} {y : Left} (h : -1 ≤ last) : -1 ≤ (csetP last y).1 ∧ (csetP last y).1 < 64 := by
  cases y with
  | error p => simp [csetP]
  | ok L =>
    cases L with
    | nil => simp [csetP]
    | cons t r => simp only [csetP]; split <;> (try split) <;> simp <;> omega
abbrev Reads (A : Type) := Except (Int × Int) (A × List Tok)
def regsX (x : Left) : Reads (List Int) := thenE x fun L => thenE (tokP 2 L) fun r => .ok (r.1.n :: (numsP r.2).1, (numsP r.2).2)
def numsX (l : List Int) (x : Left) : Reads (List Int) := thenE x fun L => .ok (l ++ (numsP L).1, (numsP L).2)
theorem regs_first (x : Left) : regsX x = numsX [(takeT 2 x).n] (goneP 2 x) := by
  cases x with
  | error p => rfl
  | ok L =>
    cases L with
    | nil => simp [regsX, numsX, goneP, thenE, tokP]
    | cons t r =>
      cases hk : t.kind == 2
      · simp [regsX, numsX, goneP, thenE, tokP, hk]
      · simp [regsX, numsX, goneP, takeT, thenE, tokP, hk]
theorem nums_next {l : List Int} {y : Left} (h : headIs 2 y = true) : numsX l y = numsX (l ++ [(takeT 2 y).n]) (goneP 2 y) ∧ mea (goneP 2 y) + 1 = mea y := by
  obtain ⟨t, r, rfl, hk⟩ := head_ok h
  simp [numsX, goneP, takeT, thenE, numsP, mea, hk]
theorem nums_last {l : List Int} {y : Left} (h : headIs 2 y = false) : numsX l y = thenE y (fun L => .ok (l, L)) := by
  cases y with
  | error p => rfl
  | ok L =>
    cases L with
    | nil => simp [numsX, thenE, numsP]
    | cons t r =>
      have hk : (t.kind == 2) = false := h
      simp [numsX, thenE, numsP, hk]
theorem gone_mea (k : Int) (x : Left) : mea (goneP k x) ≤ mea x := by
  cases x with
  | error p => simp [goneP, mea]
  | ok L =>
    cases L with
    | nil => simp [goneP, mea]
    | cons t r => simp only [goneP]; split <;> simp [mea]
theorem own_one (w : World) (n : Int) {base : Nat} (hb : base ≤ w.heap.size) : (w.alloc (.cells #[.int .i64 n] 2)).ownsRow base 2 1 (.slice (some ⟨w.heap.size, 0, none⟩) 1 1) [n].length ([n].map intV) :=
  World.ownsRow_lit (base := base) (e := 2) (size := 1) w #[.int .i64 n] 1 hb (by unfold maxLen; decide) rfl
theorem fresh_int (w : World) (n : Int) (ty : TypeId) {m : Nat} (hm : w.heap.size = m) : ∀ j u, [intV n][j]? = some u → (w.alloc (.cells #[.int .i64 n] ty)).cell? ((⟨m, 0, none⟩ : Addr).add j) = some u := by
  subst hm
  intro j u hj
  match j, hj with
  | 0, hj => simp [intV] at hj; subst hj; simp [Addr.add]
theorem one_int (n : Int) : ∀ u ∈ [intV n], u.oneCell' = true := by
  intro u hu
  simp [intV] at hu
  subst hu; rfl
abbrev Mode3 := Int × Int × Int
def modeX (x : Left) : Reads Mode3 := thenE x modeP
def wFloatS : ByteArray := ⟨#[102, 108, 111, 97, 116]⟩
def wThreshS : ByteArray := ⟨#[116, 104, 114, 101, 115, 104]⟩
def wFixedS : ByteArray := ⟨#[102, 105, 120, 101, 100]⟩
theorem sees_word {nm : List UInt8} {x : Left} (h : seesB nm x = true) : ∃ t r, x = .ok (t :: r) ∧ t.kind = 3 ∧ t.text = nm ∧ wordX nm x = .ok r := by
  cases x with
  | error p => cases h
  | ok L =>
    cases L with
    | nil => cases h
    | cons t r =>
      have h' : isWord nm (t :: r) = true := h
      have h2 : t.kind = 3 ∧ t.text = nm := by simpa [isWord] using h'
      exact ⟨t, r, rfl, h2.1, h2.2, by simp [wordX, thenE, wordP, h']⟩
theorem mode_float {x : Left} (h : seesB wFloat x = true) : modeX x = thenE (goneP 2 (wordX wFloat x)) (fun L => .ok ((1, (takeT 2 (wordX wFloat x)).n, 0), L)) := by
  obtain ⟨t, r, rfl, hk, ht, hx⟩ := sees_word h
  rw [hx]
  have h1 : isWord wFixed (t :: r) = false := by simp [isWord, ht]; intro _; decide
  have h2 : isWord wFloat (t :: r) = true := h
  cases r with
  | nil => simp [modeX, thenE, modeP, h1, h2, tokP, goneP]
  | cons u r =>
    cases hu : u.kind == 2 <;> simp [modeX, thenE, modeP, h1, h2, tokP, goneP, takeT, hu]
theorem mode_thresh {x : Left} (h : seesB wThresh x = true) : modeX x = thenE (goneP 2 (wordX wThresh x)) (fun L => .ok ((2, 0, (takeT 2 (wordX wThresh x)).n), L)) := by
  obtain ⟨t, r, rfl, hk, ht, hx⟩ := sees_word h
  rw [hx]
  have h1 : isWord wFixed (t :: r) = false := by simp [isWord, ht]; intro _; decide
  have h3 : isWord wFloat (t :: r) = false := by simp [isWord, ht]; intro _; decide
  have h2 : isWord wThresh (t :: r) = true := h
  cases r with
  | nil => simp [modeX, thenE, modeP, h1, h2, h3, tokP, goneP]
  | cons u r =>
    cases hu : u.kind == 2 <;> simp [modeX, thenE, modeP, h1, h2, h3, tokP, goneP, takeT, hu]
theorem mode_fixed {x : Left} (h : seesB wFloat x = false) (h' : seesB wThresh x = false) : modeX x = thenE (wordX wFixed x) (fun L => .ok ((0, 0, 0), L)) := by
  cases x with
  | error p => rfl
  | ok L =>
    have h2 : isWord wFloat L = false := h
    have h3 : isWord wThresh L = false := h'
    cases h1 : isWord wFixed L <;> simp [modeX, thenE, modeP, wordX, wordP, h1, h2, h3]
theorem then_word {B : Type} {nm : List UInt8} (x : Left) (f : List Tok → Except (Int × Int) B) : thenE x (fun L => thenE (wordP nm L) f) = thenE (wordX nm x) f := by
  cases x <;> rfl
theorem then_tok {B : Type} {k : Int} (x : Left) (f : Tok × List Tok → Except (Int × Int) B) : thenE x (fun L => thenE (tokP k L) f) = thenE (goneP k x) (fun M => f (takeT k x, M)) := by
  cases x with
  | error p => rfl
  | ok L =>
    cases L with
    | nil => rfl
    | cons t r => cases hk : t.kind == k <;> simp [thenE, tokP, goneP, takeT, hk]
theorem then_any {A B : Type} {P : List Tok → Reads A} {x y : Left} {a : A} (h : thenE x P = thenE y (fun L => .ok (a, L))) (f : A × List Tok → Except (Int × Int) B) : thenE x (fun L => thenE (P L) f) = thenE y (fun M => f (a, M)) := by
  cases x with
  | error p =>
    cases y with
    | error q => have : p = q := by simpa [thenE] using h
                 subst this; rfl
    | ok M => simp [thenE] at h
  | ok L =>
    cases y with
    | error q => have h' : P L = .error q := h
                 simp [thenE, h']
    | ok M => have h' : P L = .ok (a, M) := h
              simp [thenE, h']
def regsQ (L : List Tok) : Reads (List Int) := thenE (tokP 2 L) fun r => .ok (r.1.n :: (numsP r.2).1, (numsP r.2).2)
theorem regs_then {B : Type} (L : List Tok) (f : List Int × List Tok → Except (Int × Int) B) : thenE (tokP 2 L) (fun r => f (r.1.n :: (numsP r.2).1, (numsP r.2).2)) = thenE (regsQ L) f := by
  rw [regsQ]
  cases tokP 2 L <;> rfl
def taskX (x : Left) : Reads TaskV := thenE x fun L => thenE (wordP wTask L) taskP
theorem task_chain {x y6 y8 y9 y10 : Left} {m : Mode3} {l : List Int} {e u : Nat}
    (hm : modeX (goneP 2 (wordX wDeadline (goneP 2 (wordX wPeriod (goneP 1 (wordX wTask x)))))) = thenE y6 (fun L => .ok (m, L)))
    (hr : regsX (wordX wRegions y6) = thenE y8 (fun L => .ok (l, L)))
    (he : setsX wEcb y8 = thenE y9 (fun L => .ok (e, L)))
    (hu : setsX wUcb y9 = thenE y10 (fun L => .ok (u, L))) :
    taskX x = thenE (wordX wSemi y10) (fun L => .ok (⟨⟨(takeT 1 (wordX wTask x)).text.toArray⟩, (takeT 2 (wordX wPeriod (goneP 1 (wordX wTask x)))).n, (takeT 2 (wordX wDeadline (goneP 2 (wordX wPeriod (goneP 1 (wordX wTask x)))))).n, m.1, m.2.1, m.2.2, none, 0, e, u, l⟩, L)) := by
  have hr' : thenE (wordX wRegions y6) regsQ = thenE y8 (fun L => .ok (l, L)) := hr
  rw [taskX, then_word]
  show thenE _ (fun L => taskP L) = _
  simp only [taskP]
  rw [then_tok]; dsimp only; rw [then_word, then_tok]; dsimp only; rw [then_word, then_tok]; dsimp only; rw [then_any hm]; dsimp only; rw [then_word]
  rw [show (fun L => thenE (tokP 2 L) fun r => thenE (setsOf wEcb (numsP r.2).2) fun e => thenE (setsOf wUcb e.2) fun u => thenE (wordP wSemi u.2) fun L => Except.ok ((⟨⟨(takeT 1 (wordX wTask x)).text.toArray⟩, (takeT 2 (wordX wPeriod (goneP 1 (wordX wTask x)))).n, (takeT 2 (wordX wDeadline (goneP 2 (wordX wPeriod (goneP 1 (wordX wTask x)))))).n, m.1, m.2.1, m.2.2, none, 0, e.1, u.1, r.1.n :: (numsP r.2).1⟩ : TaskV), L))
    = (fun L => thenE (regsQ L) fun r => thenE (setsOf wEcb r.2) fun e => thenE (setsOf wUcb e.2) fun u => thenE (wordP wSemi u.2) fun L => Except.ok ((⟨⟨(takeT 1 (wordX wTask x)).text.toArray⟩, (takeT 2 (wordX wPeriod (goneP 1 (wordX wTask x)))).n, (takeT 2 (wordX wDeadline (goneP 2 (wordX wPeriod (goneP 1 (wordX wTask x)))))).n, m.1, m.2.1, m.2.2, none, 0, e.1, u.1, r.1⟩ : TaskV), L)) from funext fun L => regs_then L (fun r => thenE (setsOf wEcb r.2) fun e => thenE (setsOf wUcb e.2) fun u => thenE (wordP wSemi u.2) fun L => Except.ok ((⟨⟨(takeT 1 (wordX wTask x)).text.toArray⟩, (takeT 2 (wordX wPeriod (goneP 1 (wordX wTask x)))).n, (takeT 2 (wordX wDeadline (goneP 2 (wordX wPeriod (goneP 1 (wordX wTask x)))))).n, m.1, m.2.1, m.2.2, none, 0, e.1, u.1, r.1⟩ : TaskV), L))]
  rw [then_any hr']; dsimp only; rw [then_any he]; dsimp only; rw [then_any hu]; dsimp only; rw [then_word]
structure FitT (w : World) (B : Nat) (t : TaskV) : Prop where
  own : OwnTask w B t
  nn : t.ao ≠ none
  len : t.regs.length ≤ 5000
  name : t.name.size ≤ 4000
  T : I64 t.T
  D : I64 t.D
  mode : I64 t.mode
  Q : I64 t.Q
  theta : I64 t.theta
  ecb : U64 t.ecb
  ucb : U64 t.ucb
  each : ∀ n ∈ t.regs, I64 n
theorem FitT.taskIn {w : World} {B : Nat} {t : TaskV} (h : FitT w B t) : TaskIn w t :=
  ⟨regs_own h.own, fun e => absurd e h.nn, by have := h.len; omega, by have := h.name; omega, h.T, h.D, h.mode, h.Q, h.theta, h.ecb, h.ucb, h.each⟩
theorem gone_len {k : Int} {x : Left} : mea (goneP k x) ≤ mea x := gone_mea k x
theorem set_same {w : World} {a : Addr} {v : Value} (h : w.cell? a = some v) : w.setCell a v = w := by
  have key : (w.setCell a v).heap = w.heap := by
    unfold World.setCell
    dsimp only
    apply Array.ext_getElem?
    intro i
    rw [Array.getElem?_modify]
    split
    · rename_i e
      subst e
      unfold World.cell? at h
      cases hb : w.heap[a.block]? with
      | none => rfl
      | some o =>
        rw [hb] at h
        cases o with
        | cells c el fr =>
          simp only at h
          split at h
          · cases h
          · rename_i hs
            simp only [Option.map_some, Option.some.injEq, Obj.cells.injEq, and_true]
            rw [if_neg hs]
            apply Array.ext_getElem?
            intro k
            rw [Array.getElem?_setIfInBounds]
            split
            · rename_i e; subst e
              split
              · exact h.symm
              · rename_i hl; rw [Array.getElem?_eq_none (by omega)] at h; cases h
            · rfl
        | _ => rfl
    · rfl
  show ({ w with heap := (w.setCell a v).heap } : World) = w
  rw [key]
theorem own_base {w : World} {a b : Nat} {e : TypeId} {s : Nat} {v : Value} {n : Nat} {xs : List Value} (h : w.ownsRow b e s v n xs) (hab : a ≤ b) : w.ownsRow a e s v n xs :=
  ⟨h.1, h.2.imp id fun ⟨g, cap, cur, e, hg, r⟩ => ⟨g, cap, cur, e, Nat.le_trans hab hg, r⟩⟩
theorem own_set {w : World} {B g : Nat} {e e' : TypeId} {s : Nat} {v : Value} {n : Nat} {xs : List Value} {cs : Array Value} {fr : Nat × Nat} (h : w.ownsRow B e s v n xs) (hg : w.heap[g]? = some (.cells cs e' fr)) (hne : e ≠ e') (j : Nat) (u : Value) : (w.setCell ⟨g, j, none⟩ u).ownsRow B e s v n xs :=
  h.kept (grown_set w ⟨g, j, none⟩ u) (own_not hne h hg)
theorem then_ok {A B : Type} {x : Except (Int × Int) A} {f : A → Except (Int × Int) B} {b : B} (h : thenE x f = .ok b) : ∃ a, x = .ok a ∧ f a = .ok b := by
  cases x with
  | error p => cases h
  | ok a => exact ⟨a, rfl, h⟩
theorem word_rest {nm : List UInt8} {L M : List Tok} (h : wordP nm L = .ok M) : M.length + 1 = L.length := by
  rw [wordP] at h
  split at h
  · rename_i hw
    cases L with
    | nil => cases hw
    | cons t r => cases h; rfl
  · cases h
theorem tok_rest {k : Int} {L : List Tok} {q : Tok × List Tok} (h : tokP k L = .ok q) : q.2.length + 1 = L.length := by
  cases L with
  | nil => cases h
  | cons t r =>
    rw [tokP] at h
    split at h
    · cases h; rfl
    · cases h
theorem nums_rest (L : List Tok) : (numsP L).2.length ≤ L.length := by
  induction L with
  | nil => exact Nat.le_refl _
  | cons t r ih =>
    rw [numsP]
    split
    · simp only [List.length_cons]; omega
    · exact Nat.le_refl _
theorem setsP_rest : ∀ (L : List Tok) (last : Int) (x : Nat) (q : Nat × List Tok), setsP last x L = .ok q → q.2.length ≤ L.length
  | [], last, x, q, h => by rw [setsP] at h; cases h; exact Nat.le_refl _
  | t :: r, last, x, q, h => by
    rw [setsP] at h
    split at h
    · split at h
      · cases h
      · have := setsP_rest r _ _ q h
        simp only [List.length_cons]; omega
    · cases h; exact Nat.le_refl _
theorem sets_rest {nm : List UInt8} {L : List Tok} {q : Nat × List Tok} (h : setsOf nm L = .ok q) : q.2.length ≤ L.length := by
  rw [setsOf] at h
  have hl : L.tail.length ≤ L.length := by simp
  split at h
  · split at h
    · have := setsP_rest _ _ _ q h; omega
    · cases h
  · cases h; exact Nat.le_refl _
theorem mode_rest {L : List Tok} {q : Mode3 × List Tok} (h : modeP L = .ok q) : q.2.length ≤ L.length := by
  rw [modeP] at h
  have hl : L.tail.length ≤ L.length := by simp
  split at h
  · cases h; exact hl
  · split at h
    · obtain ⟨a, h1, h2⟩ := then_ok h
      have := tok_rest h1
      cases h2; simp only; omega
    · split at h
      · obtain ⟨a, h1, h2⟩ := then_ok h
        have := tok_rest h1
        cases h2; simp only; omega
      · cases h
theorem task_rest {L : List Tok} {q : TaskV × List Tok} (h : taskP L = .ok q) : q.2.length ≤ L.length := by
  rw [taskP] at h
  obtain ⟨a1, h1, h⟩ := then_ok h
  obtain ⟨a2, h2, h⟩ := then_ok h
  obtain ⟨a3, h3, h⟩ := then_ok h
  obtain ⟨a4, h4, h⟩ := then_ok h
  obtain ⟨a5, h5, h⟩ := then_ok h
  obtain ⟨a6, h6, h⟩ := then_ok h
  obtain ⟨a7, h7, h⟩ := then_ok h
  obtain ⟨a8, h8, h⟩ := then_ok h
  obtain ⟨a9, h9, h⟩ := then_ok h
  obtain ⟨a10, h10, h⟩ := then_ok h
  obtain ⟨a11, h11, h⟩ := then_ok h
  have e1 := tok_rest h1
  have e2 := word_rest h2
  have e3 := tok_rest h3
  have e4 := word_rest h4
  have e5 := tok_rest h5
  have e6 := mode_rest h6
  have e7 := word_rest h7
  have e8 := tok_rest h8
  have e8' := nums_rest a8.2
  have e9 := sets_rest h9
  have e10 := sets_rest h10
  have e11 := word_rest h11
  cases h
  simp only
  omega
theorem tasks_fuel : ∀ (n f : Nat) (L : List Tok), L.length ≤ n → L.length ≤ f → tasksP f L = tasksP n L
  | 0, f, L, hn, hf => by
    have : L = [] := List.eq_nil_of_length_eq_zero (by omega)
    subst this
    cases f with
    | zero => rfl
    | succ f => simp [tasksP, atEnd]
  | n + 1, 0, L, hn, hf => by
    have : L = [] := List.eq_nil_of_length_eq_zero (by omega)
    subst this
    simp [tasksP, atEnd]
  | n + 1, f + 1, L, hn, hf => by
    rw [tasksP, tasksP]
    split
    · rfl
    · cases hw : wordP wTask L with
      | error p => rfl
      | ok M =>
        have e1 := word_rest hw
        simp only [thenE]
        cases ht : taskP M with
        | error p => rfl
        | ok t =>
          have e2 := task_rest ht
          simp only
          rw [tasks_fuel n f t.2 (by omega) (by omega)]
abbrev Placed := List (TaskV × Int)
def setX (x : Left) : Except (Int × Int) (Int × Placed) := thenE x setP
def tasksX (rl : Int) (acc : Placed) (y : Left) : Except (Int × Int) (Int × Placed) := thenE y fun L => thenE (tasksP L.length L) fun ts => .ok (rl, acc ++ ts)
theorem set_first (x : Left) : setX x = tasksX (takeT 2 (wordX wReload x)).n [] (wordX wSemi (goneP 2 (wordX wReload x))) := by
  show thenE x (fun L => setP L) = _
  simp only [setP]
  rw [then_word, then_tok]; dsimp only; rw [then_word]
  rfl
def headPos : Left → Int
  | .ok L => posOf L
  | .error _ => 0
theorem task_next {rl : Int} {acc : Placed} {t : TaskV} {y y' : Left} (hs : seesB wTask y = true) (ht : taskX y = thenE y' (fun L => .ok (t, L))) : tasksX rl acc y = tasksX rl (acc ++ [(t, headPos y)]) y' ∧ mea y' < mea y := by
  obtain ⟨u, r, rfl, hk, htx, hw⟩ := sees_word hs
  have hw' : wordP wTask (u :: r) = .ok r := hw
  have hnot : atEnd (u :: r) = false := by simp [atEnd, hk]
  have hx : taskX (.ok (u :: r)) = taskP r := by simp [taskX, thenE, hw']
  rw [hx] at ht
  have hX : tasksX rl acc (.ok (u :: r)) = thenE (taskP r) fun t => thenE (tasksP r.length t.2) fun ts => .ok (rl, acc ++ (t.1, u.pos) :: ts) := by
    simp only [tasksX, thenE, List.length_cons]
    rw [tasksP, if_neg (by rw [hnot]; decide), hw']
    simp only [thenE]
    cases taskP r with
    | error p => rfl
    | ok q =>
      simp only
      cases tasksP r.length q.2 <;> rfl
  rw [hX, ht]
  cases y' with
  | error p => simp [tasksX, thenE, mea]
  | ok M =>
    have hp : taskP r = .ok (t, M) := ht
    have hl := task_rest hp
    simp only at hl
    refine ⟨?_, by simp [mea]; omega⟩
    simp only [tasksX, thenE, headPos, posOf]
    rw [tasks_fuel M.length r.length M (Nat.le_refl _) hl]
    cases tasksP M.length M <;> simp
theorem task_last {rl : Int} {acc : Placed} {y : Left} (hs : seesB wTask y = false) (hne : ∀ L, y = .ok L → L ≠ []) : tasksX rl acc y = thenE (goneP 4 y) (fun _ => .ok (rl, acc)) := by
  cases y with
  | error p => rfl
  | ok L =>
    cases L with
    | nil => exact absurd rfl (hne [] rfl)
    | cons u r =>
      have hw : isWord wTask (u :: r) = false := hs
      cases hk : u.kind == 4
      · have hn : atEnd (u :: r) = false := hk
        simp [tasksX, thenE, tasksP, hn, wordP, hw, goneP, hk, posOf]
      · have hn : atEnd (u :: r) = true := hk
        simp [tasksX, thenE, tasksP, hn, goneP, hk]
theorem Tryd.info_int : (Tryd.prog.info? 3).map (fun i => (i.zero, i.size, i.bytes)) = some (some (.int .i64 0), 1, 8) := by kernel_rfl
theorem Mv.dr {R : Nat} (w : World) : Mv R w.heap.size w w.drew := (Mv.refl _ _ _).drew
theorem Mv.al {R : Nat} (w : World) (o : Obj) : Mv R w.heap.size w (w.alloc o) := (Mv.refl _ _ _).alloc (Nat.le_refl _) o
theorem FitT.mvd {R B : Nat} {w w' : World} {t : TaskV} (h : FitT w B t) (m : Mv R w.heap.size w w') (hR : R < B) : FitT w' B t := { h with own := m.own h.own hR }
theorem FitT.base {A B : Nat} {w : World} {t : TaskV} (h : FitT w B t) (hA : A ≤ B) : FitT w A t := { h with own := own_base h.own hA }
structure SetInv (w wr : World) (R : Nat) (rl : Int) (vt vs : Value) (T : List TaskV) (P : List Int) : Prop where
  starts : wr.ownsRow (w.heap.size + 1) 3 1 vs P.length (P.map intV)
  row : wr.ownsRow (w.heap.size + 1) 30 9 vt T.length (T.flatMap TaskV.cells)
  each : ∀ t ∈ T, FitT wr (w.heap.size + 1) t
  box : wr.heap[w.heap.size]? = some (.cells #[.int .i64 rl, vt] 24 (0, 0))
  mv : Mv R w.heap.size w wr
section
variable {w wr w' : World} {R : Nat} {rl : Int} {vt vs : Value} {T : List TaskV} {P : List Int}
theorem SetInv.size (h : SetInv w wr R rl vt vs T P) : w.heap.size + 1 ≤ wr.heap.size := block_lt h.box
theorem SetInv.mvd (h : SetInv w wr R rl vt vs T P) (m : Mv R wr.heap.size wr w') (hR : R < w.heap.size) : SetInv w w' R rl vt vs T P :=
  ⟨m.own h.starts (by omega), m.own h.row (by omega), fun t ht => (h.each t ht).mvd m (by omega), m.at h.box (by omega), h.mv.trans (m.mono h.mv.size)⟩
theorem SetInv.start (h : SetInv w wr R rl vt vs T P) {n : Int} {v : Value} (hg : (wr.alloc (.cells #[.int .i64 n] 3)).grownBy w' vs.ownBlock) (hown : w'.ownsRow (w.heap.size + 1) 3 1 v (P.length + 1) (P.map intV ++ [intV n])) (hR : R < w.heap.size) : SetInv w w' R rl vt v T (P ++ [n]) := by
  have k := h.mvd (Mv.al wr (.cells #[.int .i64 n] 3)) hR
  have lt : ∀ q, vs.ownBlock = some q → w.heap.size + 1 ≤ q := fun q e => (k.starts.lt q e).1
  refine ⟨?_, k.row.kept hg (own_apart (by decide) k.row k.starts), fun t ht => { k.each t ht with own := World.ownsRow.kept (k.each t ht).own hg (own_apart (by decide) (k.each t ht).own k.starts) }, block_own k.box hg (fun q e => by have := lt q e; omega), k.mv.grown hg (by have := k.size; omega) (fun q e => by have := lt q e; omega)⟩
  rw [List.length_append, List.map_append]; exact hown
theorem SetInv.task (h : SetInv w wr R rl vt vs T P) {o : Obj} {t : TaskV} {v : Value} (hg : (wr.alloc o).grownBy w' vt.ownBlock) (hown : w'.ownsRow (w.heap.size + 1) 30 9 v (T.length + 1) (T.flatMap TaskV.cells ++ t.cells)) (ht : FitT wr (w.heap.size + 1) t) (hR : R < w.heap.size) : SetInv w (w'.setCell ⟨w.heap.size, 1, none⟩ v) R rl v vs (T ++ [t]) P := by
  have k := h.mvd (Mv.al wr o) hR
  have ht' := ht.mvd (Mv.al wr o) (R := R) (by omega)
  have lt : ∀ q, vt.ownBlock = some q → w.heap.size + 1 ≤ q := fun q e => (k.row.lt q e).1
  have hbox := block_own k.box hg (fun q e => by have := lt q e; omega)
  have off : ∀ {e : TypeId} {s : Nat} {u : Value} {n : Nat} {xs : List Value}, w'.ownsRow (w.heap.size + 1) e s u n xs → (w'.setCell ⟨w.heap.size, 1, none⟩ v).ownsRow (w.heap.size + 1) e s u n xs := fun q => own_off q (grown_set w' ⟨w.heap.size, 1, none⟩ v) (.inl (Nat.lt_succ_self _))
  refine ⟨off (k.starts.kept hg (own_apart (by decide) k.starts k.row)), ?_, fun u hu => ?_, by simpa using block_set (j := 1) (u := v) hbox, (k.mv.grown hg (by have := k.size; omega) (fun q e => by have := lt q e; omega)).setCell (.inl (Nat.le_refl _)) v⟩
  · rw [List.length_append, flat_snoc]; exact off hown
  · rcases List.mem_append.1 hu with q | q
    · exact { k.each u q with own := off (World.ownsRow.kept (k.each u q).own hg (own_apart (by decide) (k.each u q).own k.row)) }
    · rw [List.mem_singleton.1 q]; exact { ht' with own := off (World.ownsRow.kept ht'.own hg (own_apart (by decide) ht'.own k.row)) }
end
theorem step_append_own {P : Program} {ops : Array Oper} {o : Oper} {a : Act} {w : World} {K : Act → World → Prop} {Q : Exit → Act → World → Prop} {E : Prop}
    (hg : o.guard = none) (s x : Operand) (t : TypeId) (hop : o.op = Op.call { callee := Callee.builtin Builtin.append, args := #[s, x], argTypes := #[t, t] })
    (base : Nat) (e : TypeId) (i : TypeInfo) (z : Value) (size bytes : Nat) (h1 : P.underlying t = some (.slice e)) (h2 : P.info? e = some i) (h3 : i.zero = some z) (h4 : i.size = size) (h5 : i.bytes = bytes) (h6 : z.cells.size = size) (h7 : 0 < size)
    (v : Value) (n : Nat) (olds : List Value) (hs : a.eval s = v) (hown : w.ownsRow base e size v n olds)
    (ad : Addr) (m c : Nat) (news : List Value) (hx : a.eval x = .slice (some ad) m c) (hn : news.length = m * size) (hc : ∀ j u, news[j]? = some u → w.cell? (ad.add j) = some u) (h1c : ∀ u ∈ news, u.oneCell' = true)
    (b1 : n + m ≤ maxLen) (b2 : (n + m) * bytes ≤ 140737488355328) (hb : base ≤ w.heap.size)
    (hK : ∀ v' w', w'.ownsRow base e size v' (n + m) (olds ++ news) → w.grownBy w' v.ownBlock → K (a.put o.dst v') w') :
    if Region.wanted o (yielded ops a.tmps) = true then Oper.wp P o a w K Q else E := by
  have hw : Region.wanted o (yielded ops a.tmps) = true := by simp [Region.wanted, hg]
  rw [if_pos hw]
  obtain ⟨v', w', hrun, r1, r2, _⟩ := run_append_own (P := P) w base t o.type e i z size bytes h1 h2 h3 h4 h5 h6 h7 v n olds hown ad m c news hn hc h1c b1 b2 hb
  unfold Oper.wp
  simp [execOp, hop, resolve, invoke, builtin, hs, hx, hrun, Result.andThen]
  exact hK v' w' r1 r2
theorem zip_snoc {A B : Type} {a : List A} {b : List B} (h : a.length = b.length) (x : A) (y : B) : (a ++ [x]).zip (b ++ [y]) = a.zip b ++ [(x, y)] := by
  rw [List.zip_append h]; rfl
theorem odd_at {ts : List TaskV} {k : Nat} (hpre : (List.range k).all (okAt ts) = true) (hk : k < ts.length) (hb : okAt ts k = false) : oddOf ts = some k := by
  rw [oddOf, List.find?_eq_some_iff_getElem]
  refine ⟨by simp [hb], k, by simpa using hk, by simp, fun j hj => ?_⟩
  have := List.all_eq_true.1 hpre j (List.mem_range.2 hj)
  simp [this]
def badV (o : Option Nat) : Value := .tuple #[.int .i64 ((o.getD 0 : Nat) : Int), .bool o.isSome]
theorem run_short (p : UInt8 → Bool) (l : List UInt8) : (l.takeWhile p).length ≤ l.length := (List.takeWhile_sublist p).length_le
theorem one_good {l : List UInt8} {t : Tok} {m : Nat} (h : oneOf l = some (t, m)) : I64 t.kind ∧ (0 ≤ t.n ∧ t.n < 1000000000) ∧ t.text.length ≤ l.length := by
  cases l with
  | nil => cases h
  | cons c r =>
    simp only [oneOf] at h
    split at h
    · cases h; simp [I64]
    · split at h
      · rename_i hd
        split at h
        · cases h
        · rename_i h9
          cases h
          exact ⟨by simp [I64], numV_lt _ (while_all _) (by omega), by simp⟩
      · split at h
        · split at h
          · cases h; exact ⟨by simp [I64], by simp, run_short _ _⟩
          · split at h
            · cases h
            · cases h; exact ⟨by simp [I64], by simp, run_short _ _⟩
        · cases h
theorem toks_good (n : Nat) : ∀ (l : List UInt8), l.length ≤ n → ∀ nt i L, toksA nt i l = .ok L → ∀ t ∈ L, I64 t.kind ∧ (0 ≤ t.n ∧ t.n < 1000000000) ∧ t.text.length ≤ l.length := by
  induction n with
  | zero =>
    intro l hl nt i L h
    have : l = [] := List.eq_nil_of_length_eq_zero (by omega)
    subst this; cases h; simp
  | succ n ih =>
    intro l hl nt i L h
    cases l with
    | nil => cases h; simp
    | cons c r =>
      have hr : r.length ≤ n := by simpa using hl
      rw [toksA_cons] at h
      split at h
      · intro t ht; obtain ⟨a, b, e⟩ := ih r hr _ _ _ h t ht; exact ⟨a, b, by simp only [List.length_cons]; omega⟩
      · split at h
        · intro t ht; obtain ⟨a, b, e⟩ := ih r hr _ _ _ h t ht; exact ⟨a, b, by simp only [List.length_cons]; omega⟩
        · cases ho : oneOf (c :: r) with
          | none => rw [ho] at h; cases h
          | some p =>
            obtain ⟨t0, m⟩ := p
            have hm := oneOf_le ho
            rw [ho] at h
            simp only at h
            have hd : ((c :: r).drop m).length ≤ n := by rw [List.length_drop, List.length_cons]; omega
            cases hq : toksA false (i + m) ((c :: r).drop m) with
            | error j => rw [hq] at h; cases h
            | ok M =>
              rw [hq] at h
              cases h
              intro t ht
              rcases List.mem_cons.1 ht with rfl | ht
              · have := one_good ho; exact this
              · obtain ⟨a, b, e⟩ := ih _ hd _ _ _ hq t ht
                rw [List.length_drop] at e
                exact ⟨a, b, by omega⟩
theorem okay_of {l : List UInt8} (h : (tokens l).err = 0) : Okay (tokens l).toks := by
  obtain ⟨hl, L, hL, e⟩ := tokens_zero h
  have hlen := toks_len l.length l (Nat.le_refl _) _ _ _ hL
  rw [e]
  refine ⟨by simp; omega, ⟨L, _, rfl, rfl⟩, fun t ht => ?_⟩
  rcases List.mem_append.1 ht with ht | ht
  · obtain ⟨a, b, c⟩ := toks_good l.length l (Nat.le_refl _) _ _ _ hL t ht
    have := toks_pos l.length l (Nat.le_refl _) _ _ _ hL t ht
    exact ⟨a, b, by unfold I64; omega, by omega⟩
  · simp at ht; subst ht
    exact ⟨by simp [I64], by simp, by unfold I64; simp; omega, by simp⟩
theorem TokAt.not {w : World} {b o : Nat} {t : Tok} {n : Int} {a : Option Addr} {l c : Nat} {ty : TypeId} {fr : Nat × Nat} (h : TokAt w b o t) (hb : w.heap[b]? = some (.cells #[.int .i64 n, .slice a l c] ty fr)) : False := by
  have h1 := h.c1
  rw [cell_block hb] at h1
  match o, h1 with
  | 0, h1 => simp at h1
  | 1, h1 => simp at h1
  | o + 2, h1 => simp at h1
theorem odd_bare (ts : List TaskV) : oddOf (ts.map bareT) = oddOf ts := by
  simp only [oddOf, List.length_map]
  congr 1
  funext j
  rw [bare_okAt]
theorem odd_lt {ts : List TaskV} {i : Nat} (h : oddOf ts = some i) : i < ts.length := by
  have := List.mem_of_find?_eq_some h
  simpa using this
theorem parse_err {l : List UInt8} (h : (tokens l).err ≠ 0) : parseS l = ⟨empty0, (tokens l).pos, (tokens l).err⟩ := by rw [parseS, if_neg h]
theorem parse_form {l : List UInt8} {p : Int × Int} (h : (tokens l).err = 0) (hp : setP (tokens l).toks = .error p) : parseS l = ⟨empty0, p.2, p.1⟩ := by rw [parseS, if_pos h, hp]
theorem zip_parts {T : List TaskV} {P : List Int} (h : T.length = P.length) : ((T.map bareT).zip P).map (·.1) = T.map bareT ∧ ((T.map bareT).zip P).map (·.2) = P := by
  constructor
  · exact List.map_fst_zip (by simp [h])
  · exact List.map_snd_zip (by simp [h])
theorem parse_odd {l : List UInt8} {rl : Int} {T : List TaskV} {P : List Int} {i : Nat} (h : (tokens l).err = 0) (hp : setP (tokens l).toks = .ok (rl, (T.map bareT).zip P)) (hl : T.length = P.length) (ho : oddOf T = some i) : parseS l = ⟨empty0, P.getD i 0, 1⟩ := by
  obtain ⟨e1, e2⟩ := zip_parts hl
  rw [parseS, if_pos h, hp]
  simp only [judged]
  rw [e1, e2, odd_bare, ho]
theorem parse_all {l : List UInt8} {rl : Int} {T : List TaskV} {P : List Int} {ao : Option Addr} {cap : Nat} (h : (tokens l).err = 0) (hp : setP (tokens l).toks = .ok (rl, (T.map bareT).zip P)) (hl : T.length = P.length) (ho : oddOf T = none) : parseS l = if allB ⟨rl, ao, cap, T⟩ then ⟨⟨rl, none, 0, T.map bareT⟩, l.length, 0⟩ else ⟨empty0, 0, 1⟩ := by
  obtain ⟨e1, e2⟩ := zip_parts hl
  rw [parseS, if_pos h, hp]
  simp only [judged]
  rw [e1, odd_bare, ho]
  simp only
  rw [bare_all rl ao cap T]
theorem results_cell_two {fn : Func} {p t u : Tmp} {ty : TypeId} (h : fn.results = #[.cell p ty, .tmp t, .tmp u]) (tmps : Array Value) (P : Program) (w : World) :
    (results fn tmps).run P w = ((asAddr (tmps.getD p undef)).run P w).andThen fun a w₁ => ((loadVar ty a).run P w₁).andThen fun v w₂ => .ok (.tuple #[v, tmps.getD t undef, tmps.getD u undef]) w₂ := by
  simp only [results, h]
  simp only [List.mapM_toArray, List.mapM_cons, List.mapM_nil, Sem.run_bind]
  simp [Sem.run_bind, Result.andThen]
  cases (asAddr (tmps[p]?.getD undef)).run P w with
  | ok a w₁ => simp; cases (loadVar ty a).run P w₁ <;> simp
  | halt h w₁ => simp
theorem empty_in (w : World) : SetIn w empty0 := ⟨by simp [I64, empty0], fun _ => ⟨rfl, rfl⟩, by simp [empty0], by simp [empty0], fun h => absurd rfl h, fun t ht => by simp [empty0] at ht⟩
theorem slice_any {w : World} {B : Nat} {e : TypeId} {size n : Nat} {v : Value} {xs : List Value} (h : w.ownsRow B e size v n xs) : ∃ a cap, v = .slice a n cap := by
  rcases h.2 with ⟨e, h0⟩ | ⟨g, cap, cur, e, -⟩
  · exact ⟨_, _, by rw [h0]; exact e⟩
  · exact ⟨_, _, e⟩
theorem start_at {w : World} {B : Nat} {v : Value} {P : List Int} {i : Nat} (h : w.ownsRow B 3 1 v P.length (P.map intV)) (hi : i < P.length) : ∃ g cap, v = .slice (some ⟨g, 0, none⟩) P.length cap ∧ B ≤ g ∧ w.cell? ⟨g, i, none⟩ = some (.int .i64 (P.getD i 0)) := by
  have h' := h
  rcases h.2 with ⟨-, h0⟩ | ⟨g, cap, cur, rfl, hb, -⟩
  · omega
  · refine ⟨g, cap, rfl, hb, ?_⟩
    rw [h'.cellAt i (by omega)]
    simp [intV, List.getD, hi]
theorem read_in {w2 w3 : World} {R b : Nat} {rl : Int} {vs : Value} {av : Option Addr} {cv : Nat} {T : List TaskV} {P : List Int} (h : SetInv w2 w3 R rl (.slice av T.length cv) vs T P) (hb : b < w2.heap.size) (hrl : 0 ≤ rl ∧ rl < 1000000000) (hl : T.length ≤ 5000) (u u' : Value) :
    SetIn ((w3.setCell ⟨b, 0, none⟩ u).setCell ⟨b, 1, none⟩ u') ⟨rl, av, cv, T⟩ ∧ ((w3.setCell ⟨b, 0, none⟩ u).setCell ⟨b, 1, none⟩ u').ownsRow (w2.heap.size + 1) 3 1 vs P.length (P.map intV) := by
  have off : ∀ {e : TypeId} {s : Nat} {v : Value} {n : Nat} {xs : List Value}, w3.ownsRow (w2.heap.size + 1) e s v n xs → ((w3.setCell ⟨b, 0, none⟩ u).setCell ⟨b, 1, none⟩ u').ownsRow (w2.heap.size + 1) e s v n xs := fun q =>
    own_off (own_off q (grown_set w3 ⟨b, 0, none⟩ u) (.inl (by show b < _; omega))) (grown_set _ ⟨b, 1, none⟩ u') (.inl (by show b < _; omega))
  refine ⟨rows_in (s' := ⟨rl, av, cv, T⟩) (by unfold I64; simp only; omega) (by simp only; omega) (off h.row) (fun t ht => ?_), off h.starts⟩
  exact FitT.taskIn (B := w2.heap.size + 1) { h.each t ht with own := off (h.each t ht).own }
end Go.Proofs.YtlfmnnngadnkpaaDoor.Lex
