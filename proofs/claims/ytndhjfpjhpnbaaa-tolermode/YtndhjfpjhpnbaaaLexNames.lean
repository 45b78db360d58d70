/- What the functions of package lex about names answer: a copy of a text, whether it is a word, its token; the words. -/
import Derived.Test.YtndhjfpjhpnbaaaLexParts
import Derived.Test.YtndhjfpjhpnbaaaLexLaws
namespace Go.Proofs.Ytndhjfpjhpnbaaa.Lex
set_option maxRecDepth 100000
open Go.ChangeShapes Go.WideShapes Go.RowKit

/- a copy: new bytes, and a text over them -/
theorem Try.info_byte : (Try.prog.info? 5).map (fun i => (i.zero, i.size, i.bytes)) = some (some (.int .u8 0), 1, 1) := by kernel_rfl
theorem lite_any (s : ByteArray) (w : World) (h0 : 0 < s.size) (hmax : s.size ≤ 4000) : Calls Try.prog 73 #[.string s] w fun e w' => e = .returned (.string s) ∧ Below w.heap.size w w' := by
  obtain ⟨i, hi, hz, h1, hb⟩ := info_parts Try.info_byte
  have hlen : s.data.toList.length = s.size := Array.length_toList
  have one : Try.prog.cellsOf 5 = 1 := by rw [Program.cellsOf, hi]; exact h1
  -- the new bytes
  have mk : ∀ W : World, (Instr.makeSlice 92 (.int .i64 (s.size : Int)) (.int .i64 (s.size : Int))).run Try.prog W = .ok (.slice (some ⟨W.heap.size, 0, none⟩) s.size s.size) (W.alloc (.cells (madeCells (Value.int .u8 0).cells s.size) 5)) := fun W => by
    have := run_make W 92 5 i (.int .u8 0) Try.underlying92 hi hz .i64 .i64 (s.size : Int) (s.size : Int) (by omega) (by omega) (by rw [hb]; omega) (by omega)
    rw [this, h1, Nat.mul_one, Int.toNat_natCast]
  have hsz := size_madeCells (Value.int .u8 0).cells s.size
  generalize madeCells (Value.int .u8 0).cells s.size = M at mk hsz
  have hM : (w.alloc (.cells M 5)).heap[w.heap.size]? = some (.cells M 5 (0, 0)) := heap_alloc_new w _
  -- the text's bytes in them
  have cp := Lib.run_copy_row_string (P := Try.prog) _ 92 9 3 5 w.heap.size 0 s.size s.size s M 5 Try.underlying92 (by rw [hi]; exact congrArg some h1) hM (Nat.le_refl _) (by omega)
  have hrow : M.toList.take 0 ++ Lib.byteCells s.data.toList ++ M.toList.drop (0 + s.size) = Lib.byteCells s.data.toList := by
    rw [List.drop_of_length_le (by rw [Array.length_toList]; omega)]; simp
  rw [hrow] at cp
  have hB := setRow_heap _ _ M (Lib.byteCells s.data.toList).toArray 5 (0, 0) hM
  have hBl : (Lib.byteCells s.data.toList).toArray.size = s.size := by rw [List.size_toArray, Lib.byteCells_length, hlen]
  have below : Below w.heap.size w ((w.alloc (.cells M 5)).setRow w.heap.size (Lib.byteCells s.data.toList).toArray) :=
    ((Below.refl _ w).alloc (Nat.le_refl _) _).trans ⟨rfl, rfl, rfl, by simp, fun k hk => setRow_other _ _ _ _ (by omega)⟩
  have str := Lib.run_unsafeString_row (P := Try.prog) ((w.alloc (.cells M 5)).setRow w.heap.size (Lib.byteCells s.data.toList).toArray) 93 3 9 5 Try.underlying93 one w.heap.size s.size
    (by rw [World.shape?, hB]; simp [hBl]) s.data.toList (fun e => by rw [e] at hlen; simp at hlen; omega) (by omega) (by omega)
    (fun j x hx => Lib.cells_of_row hB s.size j _ (by rw [List.take_of_length_le (by rw [Array.length_toList, hBl]; exact Nat.le_refl _)]; simp [Lib.byteCells, hx]))
  rw [hlen] at str
  have BEL := hide below
  generalize (w.alloc (.cells M 5)).setRow w.heap.size (Lib.byteCells s.data.toList).toArray = W2 at *
  have hne : ((s.size : Int) == 0) = false := beq_eq_false_iff_ne.2 (by omega)
  have h0' : (0 : Int) < s.size := by omega
  clear below hB hrow
  go_enter Try.func73, Try.ntmps73
  go_wp2
  go_ret
  exact ⟨rfl, Lib.below_freeze (unhide BEL) (Nat.le_refl _) _⟩
theorem clone_any (s : ByteArray) (w : World) (h0 : 0 < s.size) (hmax : s.size ≤ 4000) : Calls Try.prog 67 #[.string s] w fun e w' => e = .returned (.string s) ∧ Below w.heap.size w w' := by
  have CL := hide (fun w => lite_any s w h0 hmax)
  go_enter Try.func67, Try.ntmps67
  go_wp2_with fail
  refine (unhide CL _).mono ?_
  rintro e w1 ⟨rfl, bel⟩
  have B := hide bel
  clear bel
  go_wp2
  go_ret
  exact ⟨rfl, unhide B⟩

/- whether a text is a word -/
def WRow (w : World) (b off : Nat) : Prop := ∀ j, j < 10 → w.cell? ⟨b, off + j, none⟩ = some (.string (mkS (words.getD j [])))
theorem wrow_bel {w w' : World} {b off : Nat} (h : WRow w b off) (hb : Below w.heap.size w w') : WRow w' b off := fun j hj => cell_bel (h j hj) hb
theorem same_text' (d : List UInt8) (s : ByteArray) : (s.toList == (mkS d).toList) = (d == bl s) := by
  rw [toList_bl, toList_bl, bl_mkS, Bool.eq_iff_iff]; simp only [beq_iff_eq]; exact eq_comm
set_option maxHeartbeats 400000 in
theorem index_any (b off cap : Nat) (s : ByteArray) (w : World) (hw : WRow w b off) : Calls Try.prog 72 #[.slice (some ⟨b, off, none⟩) 10 cap, .string s] w fun e w' => ∃ i : Int, e = .returned (.int .i64 i) ∧ decide (0 ≤ i) = wordB (bl s) ∧ w' = w := by
  have HC := hide hw
  clear hw
  go_enter Try.func72, Try.ntmps72
  go_wp2
  go_loop [8] (fun i => ∃ k : Nat, k ≤ 10 ∧ i = .int .i64 k ∧ (words.take k).contains (bl s) = false) (fun i => 10 - (intOf i).toNat)
  case atStart => exact ⟨0, by omega, rfl, rfl⟩
  case round =>
    obtain ⟨k, hk, rfl, hno⟩ := hrel
    by_cases hlt : k < 10
    · have hc := unhide HC k hlt
      have hs := same_text' (words.getD k []) s
      have ht := words_take k hlt
      cases hq : (words.getD k [] == bl s)
      · rw [hq] at hs
        have hno' : (words.take (k + 1)).contains (bl s) = false := by
          rw [ht]
          simp only [List.contains_eq_mem, List.mem_append, List.mem_singleton, decide_eq_false_iff_not, not_or] at hno ⊢
          exact ⟨hno, fun e => by rw [e] at hq; simp at hq⟩
        have HNO := hide hno'
        clear ht hno hno'
        generalize words.getD k [] = d at *
        go_wp2
        go_round
        case rel => exact ⟨k + 1, by omega, by go_num, unhide HNO⟩
        case measure => simp [intOf]; omega
      · rw [hq] at hs
        have hyes : wordB (bl s) = true := by
          have e : words.getD k [] = bl s := by simpa using hq
          have hm : words.getD k [] ∈ words := by
            have hl : words.length = 10 := rfl
            rw [List.getD_eq_getElem?_getD, List.getElem?_eq_getElem (by omega)]
            exact List.getElem_mem _
          simp only [wordB, List.contains_eq_mem, decide_eq_true_eq]
          rw [← e]; exact hm
        have HY := hide hyes
        clear ht hno hyes
        generalize words.getD k [] = d at *
        go_wp2
        go_ret
        exact ⟨_, rfl, by rw [unhide HY]; simp, rfl⟩
    · have hz : wordB (bl s) = false := by
        have e : words.take k = words := List.take_of_length_le (by have : words.length = 10 := rfl; omega)
        rw [e] at hno; exact hno
      have HZ := hide hz
      clear hno hz
      go_wp2
      go_ret
      exact ⟨_, rfl, by rw [unhide HZ]; rfl, rfl⟩
theorem contains_any (b off cap : Nat) (s : ByteArray) (w : World) (hw : WRow w b off) : Calls Try.prog 66 #[.slice (some ⟨b, off, none⟩) 10 cap, .string s] w fun e w' => e = .returned (.bool (wordB (bl s))) ∧ w' = w := by
  have CI := hide (index_any b off cap s w hw)
  clear hw
  go_enter Try.func66, Try.ntmps66
  go_wp2_with fail
  refine (unhide CI).mono ?_
  rintro e w' ⟨i, rfl, hd, hw⟩
  rw [hw]; clear hw w'
  have HD := hide hd
  clear hd
  go_wp2
  go_ret
  exact ⟨ret_bool (by rw [← unhide HD]), rfl⟩

/- a name's token -/
theorem results_one {fn : Func} {p : Tmp} {ty : TypeId} (h : fn.results = #[.cell p ty]) (tmps : Array Value) (P : Program) (w : World) :
    (results fn tmps).run P w = ((asAddr (tmps.getD p undef)).run P w).andThen fun a w₁ => (loadVar ty a).run P w₁ := by
  simp only [results, h]
  simp only [List.mapM_toArray, List.mapM_cons, List.mapM_nil, Sem.run_bind]
  simp [Sem.run_bind, Result.andThen]
  cases (asAddr (tmps[p]?.getD undef)).run P w with
  | ok a w₁ => simp; cases (loadVar ty a).run P w₁ <;> simp
  | halt h w₁ => simp
def nameTok (d : List UInt8) (k : Nat) : Tok := ⟨if wordB d then 3 else 1, d, 0, k⟩
set_option maxHeartbeats 400000 in
theorem named_any (b off cap : Nat) (s : ByteArray) (k : Nat) (w : World) (hw : WRow w b off) (h0 : 0 < s.size) (hmax : s.size ≤ 4000) : Calls Try.prog 59 #[.string s, .int .i64 k, .slice (some ⟨b, off, none⟩) 10 cap] w fun e w' =>
    e = .returned (tokV (nameTok (bl s) k)) ∧ Below w.heap.size w w' := by
  have hz := World.block_lt_of_cell? w _ (hw 0 (by omega))
  have CC := hide (fun w hw => contains_any b off cap s w hw)
  have CL := hide (fun w => clone_any s w h0 hmax)
  have HW := hide hw
  clear hw
  cases hb : wordB (bl s)
  · rw [hb] at CC
    have ht : tokV (nameTok (bl s) k) = .agg #[.int .i64 1, .string s, .int .i64 0, .int .i64 k] := by rw [tokV, nameTok, hb]; simp only [mkS_bl]; rfl
    rw [ht]
    clear hb ht
    go_enter Try.func59, Try.ntmps59
    go_wp2_with fail
    refine (unhide CC _ (wrow_bel (unhide HW) ((Below.refl _ _).alloc (Nat.le_refl _) _))).mono ?_
    rintro e w' ⟨rfl, hw⟩
    rw [hw]; clear hw w'
    go_wp2_with fail
    refine (unhide CL _).mono ?_
    rintro e w1 ⟨rfl, bel⟩
    have B := hide (bel2 ((Below.refl _ _).alloc (Nat.le_refl _) _) bel)
    have hat := bel.block w.heap.size (by simp)
    rw [heap_alloc_new] at hat
    have hfz : ∀ o, w1.frozen? ⟨w.heap.size, o, none⟩ = false := fun o => by simp [World.frozen?, hat]
    have c0 : w1.cell? ⟨w.heap.size, 0, none⟩ = some (.int .i64 0) := by simp [World.cell?, hat]
    have c1 : w1.cell? ⟨w.heap.size, 1, none⟩ = some (.string ⟨#[]⟩) := by simp [World.cell?, hat]
    have c2 : w1.cell? ⟨w.heap.size, 2, none⟩ = some (.int .i64 0) := by simp [World.cell?, hat]
    have c3 : w1.cell? ⟨w.heap.size, 3, none⟩ = some (.int .i64 0) := by simp [World.cell?, hat]
    clear bel hat
    go_wp2
    refine bodyPost_ret (v := .agg #[.int .i64 1, .string s, .int .i64 0, .int .i64 k]) ?_ rfl ⟨rfl, ?_⟩
    · rw [results_one rfl]; go_simp
    · (repeat' (first | exact unhide B | refine Below.setCell ?_ (by simp) _))
  · rw [hb] at CC
    have ht : tokV (nameTok (bl s) k) = .agg #[.int .i64 3, .string s, .int .i64 0, .int .i64 k] := by rw [tokV, nameTok, hb]; simp only [mkS_bl]; rfl
    rw [ht]
    clear hb ht
    go_enter Try.func59, Try.ntmps59
    go_wp2_with fail
    refine (unhide CC _ (wrow_bel (unhide HW) ((Below.refl _ _).alloc (Nat.le_refl _) _))).mono ?_
    rintro e w' ⟨rfl, hw⟩
    rw [hw]; clear hw w'
    go_wp2_with fail
    refine (unhide CL _).mono ?_
    rintro e w1 ⟨rfl, bel⟩
    have B := hide (bel2 ((Below.refl _ _).alloc (Nat.le_refl _) _) bel)
    have hat := bel.block w.heap.size (by simp)
    rw [heap_alloc_new] at hat
    have hfz : ∀ o, w1.frozen? ⟨w.heap.size, o, none⟩ = false := fun o => by simp [World.frozen?, hat]
    have c0 : w1.cell? ⟨w.heap.size, 0, none⟩ = some (.int .i64 0) := by simp [World.cell?, hat]
    have c1 : w1.cell? ⟨w.heap.size, 1, none⟩ = some (.string ⟨#[]⟩) := by simp [World.cell?, hat]
    have c2 : w1.cell? ⟨w.heap.size, 2, none⟩ = some (.int .i64 0) := by simp [World.cell?, hat]
    have c3 : w1.cell? ⟨w.heap.size, 3, none⟩ = some (.int .i64 0) := by simp [World.cell?, hat]
    clear bel hat
    go_wp2
    refine bodyPost_ret (v := .agg #[.int .i64 3, .string s, .int .i64 0, .int .i64 k]) ?_ rfl ⟨rfl, ?_⟩
    · rw [results_one rfl]; go_simp
    · (repeat' (first | exact unhide B | refine Below.setCell ?_ (by simp) _))

/- the words -/
theorem words_any (w : World) : Calls Try.prog 52 #[] w fun e w' => e = .returned (.slice (some ⟨w.heap.size, 0, none⟩) 10 10) ∧ w' = w.alloc (.cells wordCells 9) := by
  go_enter Try.func52, Try.ntmps52
  go_wp2
  go_ret
  exact ⟨rfl, rfl⟩
theorem wrow_new (w : World) : WRow (w.alloc (.cells wordCells 9)) w.heap.size 0 := fun j hj => by rw [Nat.zero_add]; exact wordCells_at w j hj
theorem code_W : LexW := fun w => by
  refine (words_any w).mono ?_
  rintro e w' ⟨rfl, rfl⟩
  exact ⟨_, _, _, rfl, wrow_new w, (Below.refl _ _).alloc (Nat.le_refl _) _⟩
end Go.Proofs.Ytndhjfpjhpnbaaa.Lex
