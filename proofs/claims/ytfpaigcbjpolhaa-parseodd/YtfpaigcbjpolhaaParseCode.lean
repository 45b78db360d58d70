/- What Parse of package parse answers. -/
import Derived.Test.YtfpaigcbjpolhaaParseOkay
import Derived.Test.YtfpaigcbjpolhaaParseLaw
namespace Go.Proofs.Ytfpaigcbjpolhaa.Lex
open Go.ChangeShapes Go.WideShapes Go.RowKit

theorem results_cell_two {fn : Func} {p t u : Tmp} {ty : TypeId} (h : fn.results = #[.cell p ty, .tmp t, .tmp u]) (tmps : Array Value) (P : Program) (w : World) :
    (results fn tmps).run P w = ((asAddr (tmps.getD p undef)).run P w).andThen fun a w₁ => ((loadVar ty a).run P w₁).andThen fun v w₂ => .ok (.tuple #[v, tmps.getD t undef, tmps.getD u undef]) w₂ := by
  simp only [results, h]
  simp only [List.mapM_toArray, List.mapM_cons, List.mapM_nil, Sem.run_bind]
  simp [Sem.run_bind, Result.andThen]
  cases (asAddr (tmps[p]?.getD undef)).run P w with
  | ok a w₁ => simp; cases (loadVar ty a).run P w₁ <;> simp
  | halt h w₁ => simp
theorem empty_in (w : World) : SetIn w empty0 := ⟨by simp [I64, empty0], fun _ => ⟨rfl, rfl⟩, by simp [empty0], by simp [empty0], fun h => absurd rfl h, fun t ht => by simp [empty0] at ht⟩
theorem slice_any {w : World} {B : Nat} {e : TypeId} {size n : Nat} {v : Value} {xs : List Value} (h : w.ownsRow B e size v n xs) : ∃ a cap, v = .slice a n cap := by
  rcases h.2 with ⟨e, h0⟩ | ⟨g, cap, cur, e, -⟩
  · exact ⟨_, _, by rw [h0]; exact e⟩
  · exact ⟨_, _, e⟩
theorem start_at {w : World} {B : Nat} {v : Value} {P : List Int} {i : Nat} (h : w.ownsRow B 3 1 v P.length (P.map intV)) (hi : i < P.length) : ∃ g cap, v = .slice (some ⟨g, 0, none⟩) P.length cap ∧ B ≤ g ∧ w.cell? ⟨g, i, none⟩ = some (.int .i64 (P.getD i 0)) := by
  have h' := h
  rcases h.2 with ⟨-, h0⟩ | ⟨g, cap, cur, rfl, hb, -⟩
  · omega
  · refine ⟨g, cap, rfl, hb, ?_⟩
    rw [h'.cellAt i (by omega)]
    simp [intV, List.getD, hi]
/- the set's own block is put down: all that was read lies there still -/
theorem read_in {w2 w3 : World} {R b : Nat} {rl : Int} {vs : Value} {av : Option Addr} {cv : Nat} {T : List TaskV} {P : List Int} (h : SetInv w2 w3 R rl (.slice av T.length cv) vs T P) (hb : b < w2.heap.size) (hrl : 0 ≤ rl ∧ rl < 1000000000) (hl : T.length ≤ 5000) (u u' : Value) :
    SetIn ((w3.setCell ⟨b, 0, none⟩ u).setCell ⟨b, 1, none⟩ u') ⟨rl, av, cv, T⟩ ∧ ((w3.setCell ⟨b, 0, none⟩ u).setCell ⟨b, 1, none⟩ u').ownsRow (w2.heap.size + 1) 3 1 vs P.length (P.map intV) := by
  have off : ∀ {e : TypeId} {s : Nat} {v : Value} {n : Nat} {xs : List Value}, w3.ownsRow (w2.heap.size + 1) e s v n xs → ((w3.setCell ⟨b, 0, none⟩ u).setCell ⟨b, 1, none⟩ u').ownsRow (w2.heap.size + 1) e s v n xs := fun q =>
    own_off (own_off q (grown_set w3 ⟨b, 0, none⟩ u) (.inl (by show b < _; omega))) (grown_set _ ⟨b, 1, none⟩ u') (.inl (by show b < _; omega))
  refine ⟨rows_in (s' := ⟨rl, av, cv, T⟩) (by unfold I64; simp only; omega) (by simp only; omega) (off h.row) (fun t ht => ?_), off h.starts⟩
  exact FitT.taskIn (B := w2.heap.size + 1) { h.each t ht with own := off (h.each t ht).own }
set_option maxHeartbeats 3200000 in
theorem code_Parse : CParse := fun s w => by
  have CT := hide (fun w => code_T s w)
  have CS := hide (fun R L w h => set_any R L w h)
  have CB := hide (fun s w hs hl => bad_any s w hs hl)
  have CA := hide (fun s w hs => code_AllG s w hs)
  generalize bl s = l at *
  by_cases herr : (tokens l).err = 0
  · have HOK := hide (okay_of herr)
    have hpos : (tokens l).pos = l.length := by obtain ⟨-, L, -, e⟩ := tokens_zero herr; rw [e]
    rw [herr, hpos] at CT
    have PF := hide (fun p h => parse_form (l := l) (p := p) herr h)
    have PO := hide (fun rl T P i => @parse_odd l rl T P i herr)
    have PA := hide (fun rl T P ao cap => @parse_all l rl T P ao cap herr)
    clear herr hpos
    generalize (tokens l).toks = L at *
    generalize parseS l = ANS at *
    go_enter Try.func7, Try.ntmps7
    go_wp2_with fail
    refine (unhide CT _).mono ?_
    rintro e w1 ⟨v, rfl, hown, bel⟩
    have hb1 : w1.heap[w.heap.size]? = some (.cells #[.int .i64 0, .slice none 0 0] 24 (0, 0)) := by
      rw [bel.block w.heap.size (by simp)]; exact heap_alloc_new w _
    have HB1 := hide hb1
    have B1 := hide (bel_box (Below.refl _ _) bel)
    obtain ⟨hrat, g, cap, rfl⟩ := rat_new (unhide HOK) hown rfl
    have HRAT := hide hrat
    have hlt1 := block_lt hb1
    clear hown bel hrat hb1 CT
    go_wp2_with fail
    refine (unhide CS _ _ _ (unhide HRAT)).mono ?_
    rintro e w3 ⟨rl, vt, vs, T, P, rfl, hinv, hlen, hl5, hrl, hread⟩
    obtain ⟨av, cv, rfl⟩ := slice_any hinv.row
    have hb3 := hinv.mv.at (block_alloc (unhide HB1)) (by omega)
    have x0 : w3.cell? ⟨w.heap.size, 0, none⟩ = some (.int .i64 0) := cell_block hb3
    have x1 : w3.cell? ⟨w.heap.size, 1, none⟩ = some (.slice none 0 0) := cell_block hb3
    have fx := fun j => frozen_block (j := j) hb3
    have B3 := hide (((unhide B1).alloc (unhide B1).size _).trans ((hinv.mv.mono (show w.heap.size ≤ _ by simp; omega)).below (by omega)))
    have RI := hide (read_in hinv (b := w.heap.size) (by simp; omega) hrl hl5 (.int .i64 rl) (.slice av T.length cv))
    have HB4 : Hid (((w3.setCell ⟨w.heap.size, 0, none⟩ (.int .i64 rl)).setCell ⟨w.heap.size, 1, none⟩ (.slice av T.length cv)).heap[w.heap.size]? = some (.cells #[.int .i64 rl, .slice av T.length cv] 24 (0, 0))) := by
      show ((w3.setCell ⟨w.heap.size, 0, none⟩ (.int .i64 rl)).setCell ⟨w.heap.size, 1, none⟩ (.slice av T.length cv)).heap[w.heap.size]? = some (.cells #[.int .i64 rl, .slice av T.length cv] 24 (0, 0))
      have := block_set (j := 1) (u := .slice av T.length cv) (block_set (j := 0) (u := .int .i64 rl) hb3)
      simpa using this
    have B4 := hide (((unhide B3).setCell (p := ⟨w.heap.size, 0, none⟩) (Nat.le_refl _) (.int .i64 rl)).setCell (p := ⟨w.heap.size, 1, none⟩) (Nat.le_refl _) (.slice av T.length cv))
    have hneR : w.heap.size ≠ w1.heap.size := by omega
    have HLEN := hide hlen
    have HL5 := hide hl5
    have HB3 := hide hb3
    cases hq : setP L with
    | error p =>
      rw [hq] at hread
      have HA := hide (unhide PF p hq)
      obtain ⟨g2, off2, cap2, M, e2, hl, hs⟩ := hread
      obtain ⟨rfl, hne0, hps⟩ := hs
      cases M with
      | nil => exact absurd rfl hl.ok.ne
      | cons t r =>
        have hp2 : t.pos = p.2 := hps
        have hneg := hl.apart hb3
        have r0 : w3.cell? ⟨w1.heap.size, 0, none⟩ = some (.slice (some ⟨g2, off2, none⟩) (r.length + 1) cap2) := cell_block hl.rd
        have r1 : w3.cell? ⟨w1.heap.size, 1, none⟩ = some (.int .i64 p.1) := cell_block hl.rd
        have d3 : w3.cell? ⟨g2, off2 + 3, none⟩ = some (.int .i64 p.2) := by rw [← hp2]; simpa using (hl.row 0 (by simp)).c3
        have he : (p.1 != 0) = true := bne_iff_ne.2 hne0
        clear hl hps hp2 hne0 hq hinv hlen hl5 hrl hb3
        generalize r.length = rn at r0
        go_wp2_with fail
        go_region_held3 (fun w' => w'.cell? ⟨w1.heap.size, 0, none⟩ = some (.slice (some ⟨g2, off2, none⟩) (rn + 1) cap2) ∧ w'.cell? ⟨w1.heap.size, 1, none⟩ = some (.int .i64 p.1) ∧ w'.cell? ⟨g2, off2 + 3, none⟩ = some (.int .i64 p.2)) (go_keep) (fail)
        go_wp2
        have hz := block_set (j := 1) (u := .slice none 0 0) (block_set (j := 0) (u := .int .i64 0) (unhide HB4))
        have q1 : ((((w3.setCell ⟨w.heap.size, 0, none⟩ (.int .i64 rl)).setCell ⟨w.heap.size, 1, none⟩ (.slice av T.length cv)).setCell ⟨w.heap.size, 0, none⟩ (.int .i64 0)).setCell ⟨w.heap.size, 1, none⟩ (.slice none 0 0)).cell? ⟨w.heap.size, 1, none⟩ = some (.slice none 0 0) := cell_block hz
        refine bodyPost_ret (v := .tuple #[.agg #[.int .i64 0, .slice none 0 0], .int .i64 p.2, .int .i64 p.1]) (by rw [results_cell_two rfl]; go_simp) rfl ?_
        rw [unhide HA]
        exact ⟨empty0, rfl, empty_in _, rfl, rfl, (((unhide B4).drew).setCell (p := ⟨w.heap.size, 0, none⟩) (Nat.le_refl _) _).setCell (p := ⟨w.heap.size, 1, none⟩) (Nat.le_refl _) _⟩
    | ok q =>
      rw [hq] at hread
      obtain ⟨r1, rfl⟩ := hread
      have PO' := hide (fun i h => unhide PO rl T P i hq hlen h)
      have PA' := hide (fun h => unhide PA rl T P av cv hq hlen h)
      have C1 := hide (unhide CB ⟨rl, av, cv, T⟩ _ (unhide RI).1 hl5)
      have hp0 : w.heap.size < w1.heap.size := hlt1
      clear hq hinv hlen hl5 hrl hb3 PF PO PA CB CS HRAT
      go_wp2_with fail
      refine (unhide C1).mono ?_
      clear C1
      rintro e w5 ⟨rfl, bel⟩
      have HIN5 := hide (set_bel (unhide RI).1 bel)
      have hb5 := (unhide HB4)
      rw [← bel.block w.heap.size (block_lt hb5)] at hb5
      have B5 := hide ((unhide B4).trans (bel.mono (unhide B4).size))
      have OS5 := hide (own_belG (unhide RI).2 bel)
      have y0 : w5.cell? ⟨w.heap.size, 0, none⟩ = some (.int .i64 rl) := cell_block hb5
      have y1 : w5.cell? ⟨w.heap.size, 1, none⟩ = some (.slice av T.length cv) := cell_block hb5
      have fy := fun j => frozen_block (j := j) hb5
      have HB5 := hide hb5
      clear bel hb5 RI HB4 x0 x1 fx r1 HB3 B4 B3
      simp only
      cases ho : oddOf T with
      | some i =>
        have hi := odd_lt ho
        obtain ⟨gs, cs, rfl, hgs, hcell⟩ := start_at (i := i) (unhide OS5) (by rw [← unhide HLEN]; exact hi)
        have HA := hide (unhide PO' i ho)
        have hneg : w.heap.size ≠ gs := by simp at hgs; omega
        have hip : i < P.length := by rw [← unhide HLEN]; exact hi
        have hi0 : (0 : Int) ≤ (i : Int) := by omega
        have hi1 : (i : Int) < (P.length : Int) := by omega
        have hi6 : P.length ≤ 5000 := by rw [← unhide HLEN]; exact unhide HL5
        rw [badV]
        simp only [Option.getD_some, Option.isSome_some]
        generalize P.getD i 0 = p at *
        clear ho hi OS5 HLEN HL5 PO' PA' HIN5
        generalize P.length = pn at *
        go_wp2_with fail
        go_region_held3 (fun w' => w'.cell? ⟨gs, i, none⟩ = some (.int .i64 p)) (go_keep) (fail)
        go_wp2
        refine bodyPost_ret (v := .tuple #[.agg #[.int .i64 0, .slice none 0 0], .int .i64 p, .int .i64 1]) (by rw [results_cell_two rfl]; go_simp) rfl ?_
        rw [unhide HA]
        exact ⟨empty0, rfl, empty_in _, rfl, rfl, (((unhide B5).drew).setCell (p := ⟨w.heap.size, 0, none⟩) (Nat.le_refl _) _).setCell (p := ⟨w.heap.size, 1, none⟩) (Nat.le_refl _) _⟩
      | none =>
        have HA := hide (unhide PA' ho)
        have C2 := hide (unhide CA ⟨rl, av, cv, T⟩ w5 (unhide HIN5))
        rw [badV]
        simp only [Option.getD_none, Option.isSome_none]
        clear ho PO' PA' CA OS5
        go_wp2_with fail
        refine (unhide C2).mono ?_
        clear C2
        rintro e w6 ⟨rfl, bel⟩
        have HIN6 := hide (set_bel (unhide HIN5) bel)
        have hb6 := (unhide HB5)
        rw [← bel.block w.heap.size (block_lt hb6)] at hb6
        have B6 := hide ((unhide B5).trans (bel.mono (unhide B5).size))
        have z0 : w6.cell? ⟨w.heap.size, 0, none⟩ = some (.int .i64 rl) := cell_block hb6
        have z1 : w6.cell? ⟨w.heap.size, 1, none⟩ = some (.slice av T.length cv) := cell_block hb6
        have fz := fun j => frozen_block (j := j) hb6
        clear bel hb6 y0 y1 fy HB5 HIN5 B5
        cases hall : allB ⟨rl, av, cv, T⟩
        · rw [hall] at HA
          have HA' : Hid (ANS = ⟨empty0, 0, 1⟩) := HA
          clear hall HA
          go_wp2
          refine bodyPost_ret (v := .tuple #[.agg #[.int .i64 0, .slice none 0 0], .int .i64 0, .int .i64 1]) (by rw [results_cell_two rfl]; go_simp) rfl ?_
          rw [unhide HA']
          exact ⟨empty0, rfl, empty_in _, rfl, rfl, ((unhide B6).setCell (p := ⟨w.heap.size, 0, none⟩) (Nat.le_refl _) _).setCell (p := ⟨w.heap.size, 1, none⟩) (Nat.le_refl _) _⟩
        · rw [hall] at HA
          have HA' : Hid (ANS = ⟨⟨rl, none, 0, T.map bareT⟩, l.length, 0⟩) := HA
          clear hall HA
          go_wp2
          refine bodyPost_ret (v := .tuple #[.agg #[.int .i64 rl, .slice av T.length cv], .int .i64 l.length, .int .i64 0]) (by rw [results_cell_two rfl]; go_simp) rfl ?_
          rw [set_same z0, set_same z1, unhide HA']
          exact ⟨⟨rl, av, cv, T⟩, rfl, unhide HIN6, rfl, rfl, unhide B6⟩
  · rw [parse_err herr]
    have he : ((tokens l).err != 0) = true := bne_iff_ne.2 herr
    clear herr CS CB CA
    generalize tokens l = A at *
    simp only
    go_enter Try.func7, Try.ntmps7
    go_wp2_with fail
    refine (unhide CT _).mono ?_
    rintro e w1 ⟨v, rfl, hown, bel⟩
    have hb1 : w1.heap[w.heap.size]? = some (.cells #[.int .i64 0, .slice none 0 0] 24 (0, 0)) := by
      rw [bel.block w.heap.size (by simp)]; exact heap_alloc_new w _
    have B1 := hide (bel_box (Below.refl _ _) bel)
    have x0 : w1.cell? ⟨w.heap.size, 0, none⟩ = some (.int .i64 0) := cell_block hb1
    have x1 : w1.cell? ⟨w.heap.size, 1, none⟩ = some (.slice none 0 0) := cell_block hb1
    have fx := fun j => frozen_block (j := j) hb1
    clear hown bel hb1 CT
    go_wp2
    refine bodyPost_ret (v := .tuple #[.agg #[.int .i64 0, .slice none 0 0], .int .i64 A.pos, .int .i64 A.err]) (by rw [results_cell_two rfl]; go_simp) rfl ?_
    rw [set_same x0, set_same x1]
    exact ⟨empty0, rfl, empty_in _, rfl, rfl, unhide B1⟩
end Go.Proofs.Ytfpaigcbjpolhaa.Lex
