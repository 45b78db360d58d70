/- Rows of strings, and the library's functions that package show calls. -/
import Derived.Test.YtlfmnnngadnkpaaDoorShowShelf
import Derived.Test.YtlfmnnngadnkpaaDoorShowLaw
import Derived.Test.YtlfmnnngadnkpaaDoorBitsList
import Derived.Laws.AppendOwn
import Derived.Laws.AppendOwnNone
import Derived.Lib.AppendIntMem
namespace Go.Proofs.YtlfmnnngadnkpaaDoor.Lex
open Go.ChangeShapes Go.WideShapes Go.RowKit

theorem dec_digs (n : Nat) : Lib.decDigits n = digs n := by
  induction n using Nat.strongRecOn with
  | _ n ih =>
    rw [Lib.decDigits]
    split
    · rename_i h; rw [digs_lt h]
    · rename_i h; rw [digs_ge (by omega), ih (n / 10) (by omega)]
theorem fmt_any (n : Nat) (h : n ≤ 9223372036854775807) (w : World) (hP : Pw w) : Calls Tryd.prog 34 #[.int .i64 n, .int .i64 10] w fun e w' => e = .returned (.string (mkS (digs n))) ∧ Below w.heap.size w w' := by
  have C : Calls Tryd.prog 34 #[.int .i64 n, .int .i64 10] w _ := Any.strconv_FormatInt_10 laysM173 n (by omega) (by omega) w hP
  refine C.mono ?_
  rintro e w' ⟨rfl, k, os, rfl⟩
  exact ⟨by rw [Lib.itoa_nonneg, dec_digs]; rfl, Lib.below_grow _ _ (Nat.le_refl _) _ _⟩
theorem itoa_any (n : Nat) (h : n ≤ 9223372036854775807) (w : World) (hP : Pw w) : Calls Tryd.prog 35 #[.int .i64 n] w fun e w' => e = .returned (.string (mkS (digs n))) ∧ Below w.heap.size w w' := by
  have C : Calls Tryd.prog 35 #[.int .i64 n] w _ := Any.strconv_Itoa laysM171 n (by omega) (by omega) w hP
  refine C.mono ?_
  rintro e w' ⟨rfl, k, os, rfl⟩
  exact ⟨by rw [Lib.itoa_nonneg, dec_digs]; rfl, Lib.below_grow _ _ (Nat.le_refl _) _ _⟩
theorem num_any (n : Nat) (h : n ≤ 9223372036854775807) (w : World) (hP : Pw w) : Calls Tryd.prog 18 #[.int .i64 n] w fun e w' => e = .returned (.string (mkS (digs n))) ∧ Below w.heap.size w w' := by
  have C := hide (fmt_any n h w hP)
  clear hP
  generalize mkS (digs n) = D at *
  go_enter Tryd.func18, Tryd.ntmps18
  go_wp2_with fail
  refine (unhide C).mono ?_
  rintro e w1 ⟨rfl, bel⟩
  go_wp2
  go_ret
  exact ⟨rfl, bel⟩

/- a row of strings that a call has made -/
def strs (xs : List (List UInt8)) : List Value := xs.map fun l => Value.string (mkS l)
def SRow (w : World) (B : Nat) (v : Value) (xs : List (List UInt8)) : Prop := w.ownsRow B 9 1 v xs.length (strs xs)
theorem own_keep {w w' : World} {B e n m : Nat} {v : Value} {xs : List Value} (h : w.ownsRow B e n v m xs) (hb : Below w.heap.size w w') : w'.ownsRow B e n v m xs := by
  obtain ⟨hl, h⟩ := h
  refine ⟨hl, ?_⟩
  rcases h with h | ⟨g, cap, cur, h1, h2, h3, h4⟩
  · exact .inl h
  · refine .inr ⟨g, cap, cur, h1, h2, ?_, h4⟩
    have hlt : g < w.heap.size := by
      rcases Nat.lt_or_ge g w.heap.size with h' | h'
      · exact h'
      · simp [Array.getElem?_eq_none h'] at h3
    rw [hb.block g hlt]; exact h3
theorem SRow.bel {w w' : World} {B : Nat} {v : Value} {xs : List (List UInt8)} (h : SRow w B v xs) (hb : Below w.heap.size w w') : SRow w' B v xs := own_keep h hb
theorem SRow.low {w : World} {B C : Nat} {v : Value} {xs : List (List UInt8)} (h : SRow w B v xs) (hC : C ≤ B) : SRow w C v xs := by
  obtain ⟨hl, h⟩ := h
  refine ⟨hl, ?_⟩
  rcases h with h | ⟨g, cap, cur, h1, h2, h3⟩
  · exact .inl h
  · exact .inr ⟨g, cap, cur, h1, by omega, h3⟩
theorem srow_made (w : World) (B : Nat) (hB : B ≤ w.heap.size) (xs : List (List UInt8)) (n : Nat) (hn : n = xs.length) (c : List Value) (hc : c = strs xs) (hx : xs.length ≤ 1000) : SRow (w.alloc (.cells c.toArray 9)) B (.slice (some ⟨w.heap.size, 0, none⟩) n n) xs := by
  subst hc hn
  refine ⟨by simp [strs], .inr ⟨w.heap.size, xs.length, (strs xs).toArray, rfl, hB, (by show (w.heap.push _)[w.heap.size]? = _; exact Array.getElem?_push_size), Nat.le_refl _, by unfold maxLen; omega, by simp [strs], ?_⟩⟩
  show (strs xs).take (xs.length * 1) = strs xs
  rw [List.take_of_length_le (by simp [strs])]
/- rows of two kinds lie apart -/
theorem own_kinds {w : World} {B C d e n m : Nat} {v u : Value} {xs ys : List Value} (h : w.ownsRow B d 1 v n xs) (k : w.ownsRow C e 1 u m ys) (hne : d ≠ e) : v.ownBlock = none ∨ v.ownBlock ≠ u.ownBlock := by
  rcases h.2 with ⟨rfl, -⟩ | ⟨g, cap, cur, rfl, -, h3, -⟩
  · exact .inl rfl
  · refine .inr fun hq => ?_
    rcases k.2 with ⟨rfl, -⟩ | ⟨g', cap', cur', rfl, -, k3, -⟩
    · cases hq
    · have e : g = g' := Option.some.inj hq
      subst e
      rw [h3] at k3
      simp only [Option.some.injEq, Obj.cells.injEq] at k3
      exact hne k3.2.1
theorem Tryd.info_str : (Tryd.prog.info? 9).map (fun i => (i.zero, i.size, i.bytes)) = some (some (.string ⟨#[]⟩), 1, 16) := by kernel_rfl
theorem wpList_append_strs {w : World} {ops : Array Oper} {rest : List Oper} {o : Oper} {a : Act} {Q : Exit → Act → World → Prop} (hgd : o.guard = none) (s x : Operand)
    (ho : o.op = .call { callee := .builtin .append, args := #[s, x], argTypes := #[39, 39] }) (B C : Nat) (v u : Value) (xs ys : List (List UInt8)) (hs : a.eval s = v) (h1 : SRow w B v xs)
    (hx : a.eval x = u) (h2 : SRow w C u ys) (hlen : xs.length + ys.length ≤ 1000000) (hB : B ≤ w.heap.size)
    (h : ∀ v' w', SRow w' B v' (xs ++ ys) → Below B w w' → w.grownBy w' v.ownBlock → wpList Tryd.prog ops Q rest (a.put o.dst v') w') : wpList Tryd.prog ops Q (o :: rest) a w := by
  obtain ⟨i0, hi, hz0, hz1, hz2⟩ := info_parts Tryd.info_str
  have k2 := h2
  obtain ⟨hl2, h2⟩ := h2
  rcases h2 with ⟨e2, n2⟩ | ⟨g, cap, cur, e2, hB2, hk, hle, hcm, hsz, htake⟩
  · have e : ys = [] := List.length_eq_zero_iff.1 n2
    subst e
    refine wpList_append_own_none hgd s x 39 ho B 9 i0 1 (by kernel_rfl) hi v _ _ hs h1 (hx.trans e2) ?_
    exact h v w (by rw [List.append_nil]; exact h1) (Below.refl _ _) ⟨rfl, rfl, rfl, Nat.le_refl _, fun _ _ _ => rfl⟩
  · refine wpList_append_own w hgd s x 39 ho B 9 i0 (.string ⟨#[]⟩) 1 16 (by kernel_rfl) hi hz0 hz1 hz2 rfl (by decide) v xs.length (strs xs) hs h1 ⟨g, 0, none⟩ ys.length cap (strs ys) (hx.trans e2) (by simp [strs]) ?_ ?_ ?_ ?_ hB ?_
    · exact World.ownsRow.cells k2 (by rw [e2]; rfl)
    · intro z hz
      simp only [strs, List.mem_map] at hz
      obtain ⟨l, -, rfl⟩ := hz
      rfl
    · unfold maxLen; omega
    · omega
    · intro v' w' ho' hg _
      refine h v' w' ?_ ((Below.refl _ _).grown hg hB (fun j hj => (World.ownsRow.lt h1 j hj).1)) hg
      unfold SRow strs
      rw [List.length_append, List.map_append]
      exact ho'
theorem mkS_back (xs : List (List UInt8)) : (xs.map mkS).map (·.data.toList) = xs := by
  rw [List.map_map]
  conv => rhs; rw [← List.map_id xs]
  rfl
theorem join_any (v : Value) (xs : List (List UInt8)) (B : Nat) (w : World) (h : SRow w B v xs) (hl : (Lib.join xs [32]).length ≤ 1000000) (hx : xs.length ≤ 1000000) :
    Calls Tryd.prog 21 #[v, .string ⟨#[32]⟩] w fun e w' => e = .returned (.string (mkS (Lib.join xs [32]))) ∧ Below w.heap.size w w' := by
  have k := h
  rcases h.2 with ⟨rfl, n2⟩ | ⟨g, cap, cur, rfl, hB2, hk, hle, hcm, hsz, htake⟩
  · have e : xs = [] := List.length_eq_zero_iff.1 n2
    subst e
    have C : Calls Tryd.prog 21 #[.slice none 0 0, .string ⟨#[32]⟩] w _ := Any.strings_Join_none lays156 Builder_Extra_156 none 0 ⟨#[32]⟩ w
    refine C.mono ?_
    rintro e w' ⟨rfl, rfl⟩
    exact ⟨rfl, Below.refl _ _⟩
  · have hlt : g < w.heap.size := by
      rcases Nat.lt_or_ge g w.heap.size with h' | h'
      · exact h'
      · simp [Array.getElem?_eq_none h'] at hk
    have C := Any.strings_Join_48 lays156 Builder_Extra_156 g 0 cap (xs.map mkS) ⟨#[32]⟩ w (fun j x hj => by
      have := World.ownsRow.cells k (g := g) rfl j (.string x) (by
        rw [List.getElem?_map] at hj
        simp only [strs, List.getElem?_map]
        cases e : xs[j]? with
        | none => rw [e] at hj; cases hj
        | some l => rw [e] at hj; simp only [Option.map_some, Option.some.injEq] at hj ⊢; rw [hj])
      cases j <;> simpa [Addr.add] using this) hlt (by rw [List.length_map]; omega) (by rw [List.length_map]; exact hle) (by rw [mkS_back]; show (Lib.join xs [32]).length ≤ _; omega)
    rw [mkS_back, List.length_map] at C
    exact C
end Go.Proofs.YtlfmnnngadnkpaaDoor.Lex
