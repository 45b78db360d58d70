/- What Parse of the reference of chapter 6 answers. -/
import Derived.Test.YtlfmnnngadnkpaaDoorParseP5
namespace Go.Proofs.YtlfmnnngadnkpaaDoor.Lex
open Go.ChangeShapes Go.WideShapes Go.RowKit

theorem task_nextG {rl : Int} {acc : Placed} {t : TaskV} {M : List Tok} {y' : Left} (hn : atEnd M = false) (ht : taskG (wordX wTask (.ok M)) = thenE y' (fun L => .ok (t, L))) : tasksX rl acc (.ok M) = tasksX rl (acc ++ [(t, posOf M)]) y' ∧ mea y' < mea (.ok M) := by
  have hX : taskX (.ok M) = taskG (wordX wTask (.ok M)) := then_word (.ok M) taskP
  cases hb : seesB wTask (.ok M)
  · have hw : isWord wTask M = false := hb
    cases M with
    | nil => simp [atEnd] at hn
    | cons u r =>
      have hx : wordX wTask (.ok (u :: r)) = .error (2, u.pos) := by simp [wordX, thenE, wordP, hw, posOf]
      rw [hx] at ht
      cases y' with
      | ok L => cases ht
      | error p =>
        have hp : ((2, u.pos) : Int × Int) = p := by simpa [taskG, thenE] using ht
        subst hp
        simp [tasksX, thenE, tasksP, hn, wordP, hw, posOf, mea]
  · exact task_next hb (hX.trans ht)
theorem tasks_end {rl : Int} {acc : Placed} {M : List Tok} (h : atEnd M = true) : tasksX rl acc (.ok M) = .ok (rl, acc) := by
  cases M with
  | nil => simp [tasksX, thenE, tasksP]
  | cons u r => simp [tasksX, thenE, tasksP, h]
theorem pat_new {w w' : World} {base : Nat} {v : Value} {L : List Tok} (ok : Okay L) (hown : w.ownsRow base 62 4 v L.length (L.flatMap tokC)) (hw : w' = w.alloc (.cells #[v, .int .i64 0, .int .i64 0, .int .i64 0] 58)) : PAt w' w.heap.size (.ok L) ∧ ∃ g cap, v = .slice (some ⟨g, 0, none⟩) L.length cap := by
  subst hw
  have h' := hown
  rcases hown.2 with ⟨-, h0⟩ | ⟨g, cap, cur, rfl, hb, hg, hc, -⟩
  · exact absurd (List.eq_nil_of_length_eq_zero h0) ok.ne
  · have hlt := block_lt hg
    refine ⟨⟨g, cap, L, 0, 0, 0, ⟨hlt, heap_alloc_new w _, fun j hj => ?_, ok.len, ok⟩, rfl, rfl⟩, g, cap, rfl⟩
    have c : ∀ i, i < 4 → (w.alloc (.cells #[.slice (some ⟨g, 0, none⟩) L.length cap, .int .i64 0, .int .i64 0, .int .i64 0] 58)).cell? ⟨g, j * 4 + i, none⟩ = (tokC (L.getD j tok0))[i]? := fun i hi => by
      rw [(h'.alloc _).cellAt (j * 4 + i) (by omega), flat_at L j hj i hi]
    exact ⟨c 0 (by omega), c 1 (by omega), c 2 (by omega), c 3 (by omega)⟩
theorem read_in0 {w2 w3 : World} {R : Nat} {rl : Int} {vs : Value} {av : Option Addr} {cv : Nat} {T : List TaskV} {P : List Int} (h : SetInv w2 w3 R rl (.slice av T.length cv) vs T P) (hrl : 0 ≤ rl ∧ rl < 1000000000) (hl : T.length ≤ 5000) : SetIn w3 ⟨rl, av, cv, T⟩ :=
  rows_in (s' := ⟨rl, av, cv, T⟩) (by unfold I64; simp only; omega) (by simp only; omega) h.row (fun t ht => (h.each t ht).taskIn)
theorem now_end {M : List Tok} (hne : M ≠ []) : ((nowT (.ok M)).kind == 4) = atEnd M := by
  cases M with
  | nil => exact absurd rfl hne
  | cons u r => rfl
def CParseR : Prop := ∀ (s : ByteArray) (w : World), Calls Tryd.prog 13 #[.string s] w fun e w' => ∃ X : SetV, e = .returned (.tuple #[X.val, .int .i64 (parseS (bl s)).pos, .int .i64 (parseS (bl s)).err]) ∧ SetIn w' X ∧ X.reload = (parseS (bl s)).set.reload ∧ X.ts.map bareT = (parseS (bl s)).set.ts ∧ Below w.heap.size w w'
set_option maxHeartbeats 6400000 in
theorem rparse_any : CParseR := fun s w => by
  obtain ⟨i0, hi, hz0, hz1, hz2⟩ := info_parts Tryd.info_int
  obtain ⟨i9, hi9, iz9, is9, ib9⟩ := info_parts Tryd.info_task
  have CTK := hide (fun w => rtokens_any s w)
  have hss : s.size = (bl s).length := (bl_len s).symm
  generalize bl s = l at *
  by_cases herr : (tokens l).err = 0
  · have HOK := hide (okay_of herr)
    have hpos : (tokens l).pos = l.length := by obtain ⟨-, L, -, e⟩ := tokens_zero herr; rw [e]
    have hl4 : l.length ≤ 4000 := (tokens_zero herr).1
    rw [herr, hpos] at CTK
    have PF := hide (fun p h => parse_form (l := l) (p := p) herr h)
    have PO := hide (fun rl T P i => @parse_odd l rl T P i herr)
    have PA := hide (fun rl T P ao cap => @parse_all l rl T P ao cap herr)
    clear herr hpos
    generalize (tokens l).toks = L at *
    generalize parseS l = ANS at *
    have HSF := hide (set_first (.ok L))
    go_enter Tryd.func13, Tryd.ntmps13
    go_wp2_with fail
    refine (unhide CTK _).mono ?_
    rintro e w1 ⟨v, rfl, hown, bel⟩
    have hb1 : w1.heap[w.heap.size]? = some (.cells #[.int .i64 0, .slice none 0 0] 24 (0, 0)) := by
      rw [bel.block w.heap.size (by simp)]; exact heap_alloc_new w _
    have hlt1 := block_lt hb1
    have B1 := hide (bel_box (Below.refl _ _) bel)
    obtain ⟨hrat, g, cap, rfl⟩ := pat_new (unhide HOK) hown rfl
    obtain ⟨R, hRdef⟩ : ∃ R, R = w1.heap.size := ⟨_, rfl⟩
    obtain ⟨W0, hW0⟩ : ∃ W0, W0 = w1.alloc (.cells #[.slice (some ⟨g, 0, none⟩) L.length cap, .int .i64 0, .int .i64 0, .int .i64 0] 58) := ⟨_, rfl⟩
    have hbA : W0.heap[w.heap.size]? = some (.cells #[.int .i64 0, .slice none 0 0] 24 (0, 0)) := by rw [hW0]; exact block_alloc hb1
    have hR0 : R < W0.heap.size := by rw [hW0, hRdef]; simp
    have hA0 : w.heap.size < W0.heap.size := block_lt hbA
    have hAR : w.heap.size ≠ R := by rw [hRdef]; omega
    have hAR' : w.heap.size ≤ R := by rw [hRdef]; omega
    have HA := hide hbA
    have HX0 : Hid (PAt (W0.alloc (.cells #[.int .i64 0, .slice none 0 0] 24)) R (.ok L)) := by rw [hW0, hRdef]; exact hrat.alloc _
    have INV0 : Hid (SetInv W0 (W0.alloc (.cells #[.int .i64 0, .slice none 0 0] 24)) R 0 (.slice none 0 0) (.slice none 0 0) [] []) :=
      ⟨World.ownsRow_nil _ _ _ _, World.ownsRow_nil _ _ _ _, fun t ht => by simp at ht, heap_alloc_new W0 _, Mv.al W0 _⟩
    have BW : Hid (∀ wr, Mv R W0.heap.size W0 wr → Below w.heap.size w wr) := hide (fun wr m => by
      refine Below.trans (b := W0) ?_ ((m.mono (Nat.le_of_lt hA0)).below hAR')
      rw [hW0]; exact (unhide B1).alloc (unhide B1).size _)
    have CW1 : Hid (∀ (x : Left) (w : World), PAt w R x → Calls Tryd.prog 26 #[.pointer (some ⟨R, 0, none⟩), .string ⟨#[114, 101, 108, 111, 97, 100]⟩] w fun e w' => e = .returned (.tuple #[]) ∧ PAt w' R (wordX wReload x) ∧ Mv R w.heap.size w w') := fun x w h => need_any R ⟨#[114, 101, 108, 111, 97, 100]⟩ x w h
    have CW2 : Hid (∀ (x : Left) (w : World), PAt w R x → Calls Tryd.prog 26 #[.pointer (some ⟨R, 0, none⟩), .string ⟨#[59]⟩] w fun e w' => e = .returned (.tuple #[]) ∧ PAt w' R (wordX wSemi x) ∧ Mv R w.heap.size w w') := fun x w h => need_any R ⟨#[59]⟩ x w h
    have CW3 : Hid (∀ (x : Left) (w : World), PAt w R x → Calls Tryd.prog 26 #[.pointer (some ⟨R, 0, none⟩), .string ⟨#[116, 97, 115, 107]⟩] w fun e w' => e = .returned (.tuple #[]) ∧ PAt w' R (wordX wTask x) ∧ Mv R w.heap.size w w') := fun x w h => need_any R ⟨#[116, 97, 115, 107]⟩ x w h
    have CN := hide (fun x w h => kind_any R 2 (by decide) x w h)
    have CNow := hide (fun x w h => now_any R x w h)
    have CTa := hide (fun x w h => rtaskp_any R x w h)
    have CO := hide (fun s w hs hl => rodd_any s w hs hl)
    have CA := hide (fun s w hs => rall_any s w hs)
    clear hown bel hrat hb1 CTK HOK B1
    generalize hQ : setP L = Q at *
    have HF : Hid (Q = tasksX (takeT 2 (wordX wReload (.ok L))).n [] (wordX wSemi (goneP 2 (wordX wReload (.ok L))))) := hide (hQ.symm.trans (unhide HSF))
    clear hQ HSF
    have HW0 := hide hW0
    have HRD := hide hRdef
    have HSZ : Hid (W0.heap.size = R + 1) := hide (by rw [hW0, hRdef]; simp)
    go_wp2_with fail
    rw [← unhide HW0, ← unhide HRD, ← unhide HSZ]
    clear hW0 hRdef HW0 HRD HSZ hlt1
    clear w1
    refine (unhide CW1 _ _ (unhide HX0)).mono ?_
    rintro e w1 ⟨rfl, hr, hm⟩
    have INV1 := hide ((unhide INV0).mvd hm hR0)
    have HR := hide hr
    clear hr hm INV0 HX0
    generalize wordX wReload (.ok L) = x1 at *
    go_wp2_with fail
    refine (unhide CN _ _ (unhide HR)).mono ?_
    rintro e w2 ⟨rfl, hr, hm⟩
    have HN := hide (ptaken_n (unhide HR) 2)
    have INV2 := hide ((unhide INV1).mvd hm hR0)
    clear HR INV1
    have HR := hide hr
    clear hr hm
    generalize takeT 2 x1 = tn at *
    generalize goneP 2 x1 = x2 at *
    rw [tokV]
    have hfd : ∀ w : World, (Instr.field 62 (.agg #[.int .i64 tn.kind, .string (mkS tn.text), .int .i64 tn.n, .int .i64 tn.pos]) 2).run Tryd.prog w = .ok (.int .i64 tn.n) w := fun _ => by kernel_rfl
    have c0 : w2.cell? ⟨W0.heap.size, 0, none⟩ = some (.int .i64 0) := cell_block (unhide INV2).box
    have fz := fun j => frozen_block (j := j) (unhide INV2).box
    have INV3 : Hid (SetInv W0 (w2.setCell ⟨W0.heap.size, 0, none⟩ (.int .i64 tn.n)) R tn.n (.slice none 0 0) (.slice none 0 0) [] []) :=
      ⟨World.ownsRow_nil _ _ _ _, World.ownsRow_nil _ _ _ _, fun t ht => by simp at ht, by simpa using block_set (j := 0) (u := .int .i64 tn.n) (unhide INV2).box, (unhide INV2).mv.setCell (.inl (Nat.le_refl _)) _⟩
    have HR' := hide ((unhide HR).setCell (p := ⟨W0.heap.size, 0, none⟩) hR0 (.int .i64 tn.n))
    go_wp2_with fail
    refine (unhide CW2 _ _ (unhide HR')).mono ?_
    rintro e w3 ⟨rfl, hr, hm⟩
    have INV4 := hide ((unhide INV3).mvd hm hR0)
    clear HR HR' INV2 INV3 c0 fz hfd
    have HR := hide hr
    clear hr hm
    generalize wordX wSemi x2 = x3 at *
    generalize tn.n = n at *
    go_wp2
    go_loopw [10] (fun v wr => ∃ (vt : Value) (T : List TaskV) (P : List Int) (y : Left), SetInv W0 wr R n vt v T P ∧ T.length = P.length ∧ T.length + mea y ≤ 4003 ∧ PAt wr R y ∧ Q = tasksX n ((T.map bareT).zip P) y) (fun _ wr => meaP R wr)
    case atStart => exact ⟨_, [], [], x3, unhide INV4, rfl, by have := (unhide HR).mle; simp; omega, unhide HR, unhide HF⟩
    case round =>
      clear HF HR INV4 CW1 CW2 CN
      obtain ⟨vt, T, P, y, hinv, hlen, hmle, hr, hq⟩ := hrel
      have HMEA := hide hr.mea
      have HQ := hide hq
      have INV := hide hinv
      have HRY := hide hr
      have hbAr := hinv.mv.at (unhide HA) hAR
      cases y with
      | error q =>
        have HANS := hide (unhide PF q hq)
        obtain ⟨g2, cap2, L2, k2, e2, p2, hl, hs⟩ := hr
        obtain ⟨rfl, hne0, rfl⟩ := hs
        have r2 : wr.cell? ⟨R, 2, none⟩ = some (.int .i64 q.1) := cell_block hl.rd
        have r3 : wr.cell? ⟨R, 3, none⟩ = some (.int .i64 q.2) := cell_block hl.rd
        have he : (q.1 == 0) = false := beq_eq_false_iff_ne.2 hne0
        have he' : (q.1 != 0) = true := bne_iff_ne.2 hne0
        have a0 : wr.cell? ⟨w.heap.size, 0, none⟩ = some (.int .i64 0) := cell_block hbAr
        have a1 : wr.cell? ⟨w.heap.size, 1, none⟩ = some (.slice none 0 0) := cell_block hbAr
        have fa := fun j => frozen_block (j := j) hbAr
        have B := hide (unhide BW _ hinv.mv)
        clear hl hinv hq hlen hmle hbAr hne0 PF PO PA CO CA CTa CNow CW3
        go_wp2_with fail
        go_region_held3 (fun w' => w'.cell? ⟨R, 2, none⟩ = some (.int .i64 q.1) ∧ w'.cell? ⟨R, 3, none⟩ = some (.int .i64 q.2)) (go_keep) (fail)
        go_wp2
        refine bodyPost_ret (v := .tuple #[.agg #[.int .i64 0, .slice none 0 0], .int .i64 q.2, .int .i64 q.1]) (by rw [results_cell_two rfl]; go_simp) rfl ?_
        rw [unhide HANS]
        exact ⟨empty0, rfl, empty_in _, rfl, rfl, (((unhide B).drew).setCell (p := ⟨w.heap.size, 0, none⟩) (Nat.le_refl _) _).setCell (p := ⟨w.heap.size, 1, none⟩) (Nat.le_refl _) _⟩
      | ok M =>
        have hMne := hr.okay.ne
        have hnow := now_end hMne
        have C1 := hide (unhide CNow (.ok M) wr hr)
        have r2 : wr.cell? ⟨R, 2, none⟩ = some (.int .i64 0) := by
          obtain ⟨g2, cap2, L2, k2, e2, p2, hl, hs⟩ := hr
          obtain ⟨rfl, -⟩ := hs
          exact cell_block hl.rd
        cases hend : atEnd M
        · have hpm : (nowT (.ok M)).pos = posOf M := by cases M with
            | nil => exact absurd rfl hMne
            | cons u r => rfl
          rw [hend] at hnow
          have HEND := hide hend
          have CT := hide (unhide CTa (wordX wTask (.ok M)))
          have CNo := hide (unhide CNow (.ok M))
          have CWT := hide (unhide CW3 (.ok M))
          have HLEN := hide hlen
          have HMLE := hide hmle
          have hpl : P.length ≤ 4003 := by omega
          have htl : T.length ≤ 4003 := by omega
          have HTN : Hid (∀ t y', taskG (wordX wTask (.ok M)) = thenE y' (fun L => .ok (t, L)) → tasksX n ((T.map bareT).zip P) (.ok M) = tasksX n ((T.map bareT).zip P ++ [(t, (nowT (.ok M)).pos)]) y' ∧ mea y' < mea (.ok M)) := hide (fun t y' h => by rw [hpm]; exact task_nextG hend h)
          clear hend hq hlen hmle hinv hr hbAr hpm hMne PF PO PA CO CA CTa CW3
          generalize hgu : nowT (.ok M) = u at *
          have hu : (u.kind != 4) = true := by simp [bne, hnow]
          clear hgu hnow
          go_wp2_with fail
          refine (unhide C1).mono ?_
          rintro e w1 ⟨rfl, hr, hm⟩
          have INV1 := hide ((unhide INV).mvd hm hR0)
          have HR1 := hide hr
          clear hr hm INV C1 HRY
          rw [tokV]
          have hfd : ∀ w : World, (Instr.field 62 (.agg #[.int .i64 u.kind, .string (mkS u.text), .int .i64 u.n, .int .i64 u.pos]) 0).run Tryd.prog w = .ok (.int .i64 u.kind) w := fun _ => by kernel_rfl
          have hfd3 : ∀ w : World, (Instr.field 62 (.agg #[.int .i64 u.kind, .string (mkS u.text), .int .i64 u.n, .int .i64 u.pos]) 3).run Tryd.prog w = .ok (.int .i64 u.pos) w := fun _ => by kernel_rfl
          go_wp2_with fail
          refine (unhide CNo _ (unhide HR1)).mono ?_
          rintro e w2 ⟨rfl, hr, hm⟩
          have inv2 := (unhide INV1).mvd hm hR0
          have INV2 := hide inv2
          have HR2 := hide hr
          have OWNS := hide (World.ownsRow.alloc inv2.starts (.cells #[.int .i64 u.pos] 3))
          have hsw := inv2.size
          clear hr hm INV1 HR1 inv2
          rw [tokV]
          go_wp2_with (at_builtin; refine wpList_append_own _ rfl _ _ 59 rfl (W0.heap.size + 1) 3 i0 (.int .i64 0) 1 8 (by kernel_rfl) hi hz0 hz1 hz2 rfl (by decide) _ _ _ rfl (unhide OWNS) ⟨w2.heap.size, 0, none⟩ 1 1 [intV u.pos] rfl rfl (fresh_int w2 u.pos _ rfl) (one_int u.pos) (by unfold maxLen; omega) (by omega) (by simp; omega) ?_)
          intro v3 w3 hown3 hgrow3 _
          have lt : ∀ q, u10.ownBlock = some q → W0.heap.size + 1 ≤ q := fun q e => ((unhide OWNS).lt q e).1
          have INV3 := hide ((unhide INV2).start hgrow3 hown3 hR0)
          have HR3 := hide (((unhide HR2).alloc (.cells #[.int .i64 u.pos] 3)).grown hgrow3 (fun q e => by have := lt q e; omega))
          clear hown3 hgrow3 lt OWNS INV2 HR2 r2
          go_wp2_with fail
          refine (unhide CWT _ (unhide HR3)).mono ?_
          rintro e w4 ⟨rfl, hr, hm⟩
          have INV4 := hide ((unhide INV3).mvd hm hR0)
          have INVD := hide ((unhide INV4).mvd (Mv.dr w4) hR0)
          have HR4 := hide hr
          clear hr hm INV3 HR3
          go_wp2_with fail
          refine wp_region_held_drew (S := fun _ => True) (by kernel_rfl) trivial (fun hHeld => ?_)
          refine take_yes 0 53 (.pointer (some ⟨W0.heap.size, 1, none⟩)) rfl rfl (by kernel_rfl) (by kernel_rfl) (by kernel_rfl) (fun _ _ _ h => h) rfl trivial (by intro w9 hS9; go_simp) ?_
          simp only [List.setIfInBounds_toArray, List.set_cons_zero, List.set_cons_succ]
          refine take_yes 2 55 (.pointer (some ⟨R, 0, none⟩)) rfl rfl (by kernel_rfl) (by kernel_rfl) (by kernel_rfl) (fun _ _ _ h => h) rfl trivial (by intro w9 hS9; go_simp) ?_
          simp only [List.setIfInBounds_toArray, List.set_cons_zero, List.set_cons_succ]
          refine wpAnyH_ready (rs := [1, 3]) (by kernel_rfl) (by decide) (AllReadyH.cons rfl (fun K hK => ?_) (AllReadyH.cons rfl (fun K hK => ?_) AllReadyH.nil))
          · skip
            have c1 : (w4.drew).cell? ⟨W0.heap.size, 1, none⟩ = some vt := cell_block ((unhide INVD).box)
            go_simp
            refine hK.out _ _ trivial (fun hHeld => ?_)
            clear hK K c1
            try simp only [List.setIfInBounds_toArray, List.set_cons_zero, List.set_cons_succ]
            refine wpAnyH_ready (rs := [3]) (by kernel_rfl) (by decide) (AllReadyH.cons rfl (fun K hK => ?_) AllReadyH.nil)
            refine (if_pos rfl).mpr ?_
            go_wp2_with fail
            refine (unhide CT _ (unhide HR4).drew).mono ?_
            rintro e w5 ⟨t, y', rfl, hfit, hr, htx, hm⟩
            have INV5 := hide ((unhide INVD).mvd hm hR0)
            have HF := hide (hfit.base (show W0.heap.size + 1 ≤ w4.drew.heap.size from (unhide INV4).size))
            have HR5 := hide hr
            have HTX := hide htx
            obtain ⟨name, tT, tD, mode, tQ, theta, ao, tcap, ecb, ucb, regs⟩ := t
            rw [TaskV.val, TaskV.cells]
            simp only
            clear hfit hr htx hm
            refine hK.out _ _ trivial (fun hHeld => ?_)
            clear hK K
            try simp only [List.setIfInBounds_toArray, List.set_cons_zero, List.set_cons_succ]
            refine wpAnyH_ready (rs := [4]) (by kernel_rfl) (by decide) (AllReadyH.cons rfl (fun K hK => ?_) AllReadyH.nil)
            go_simp
            refine hK.out _ _ trivial (fun hHeld => ?_)
            clear hK K
            try simp only [List.setIfInBounds_toArray, List.set_cons_zero, List.set_cons_succ]
            have FRESH := hide (fresh_task w5 ⟨name, tT, tD, mode, tQ, theta, ao, tcap, ecb, ucb, regs⟩ 30 rfl)
            have OWN := hide (World.ownsRow.alloc (unhide INV5).row (.cells #[.string name, .int .i64 tT, .int .i64 tD, .int .i64 mode, .int .i64 tQ, .int .i64 theta, .slice ao regs.length tcap, .int .u64 ecb, .int .u64 ucb] 30))
            have hs5 := (unhide INV5).size
            refine wpAnyH_ready (rs := [5]) (by kernel_rfl) (by decide) (AllReadyH.cons rfl (fun K hK => ?_) AllReadyH.nil)
            refine step_append_own rfl (.tmp 54) (.tmp 57) 22 rfl (W0.heap.size + 1) 30 i9 (.agg #[.string ⟨#[]⟩, .int .i64 0, .int .i64 0, .int .i64 0, .int .i64 0, .int .i64 0, .slice none 0 0, .int .u64 0, .int .u64 0]) 9 96 (by kernel_rfl) hi9 iz9 is9 ib9 rfl (by decide) vt T.length (T.flatMap TaskV.cells) rfl (unhide OWN) ⟨w5.heap.size, 0, none⟩ 1 1 (TaskV.cells ⟨name, tT, tD, mode, tQ, theta, ao, tcap, ecb, ucb, regs⟩) rfl rfl (unhide FRESH) (one_task _) (by unfold maxLen; omega) (by omega) (by simp; omega) ?_
            intro v6 w6 hown6 hgrow6
            obtain ⟨g6, c6, rfl⟩ : ∃ g6 c6, v6 = .slice (some ⟨g6, 0, none⟩) (T.length + 1) c6 := by
              rcases hown6.2 with ⟨-, h0⟩ | ⟨g6, c6, cur, e, -⟩
              · omega
              · exact ⟨g6, c6, e⟩
            have lt : ∀ q, vt.ownBlock = some q → W0.heap.size + 1 ≤ q := fun q e => ((unhide OWN).lt q e).1
            have hb6 := block_own (block_alloc (p := .cells #[.string name, .int .i64 tT, .int .i64 tD, .int .i64 mode, .int .i64 tQ, .int .i64 theta, .slice ao regs.length tcap, .int .u64 ecb, .int .u64 ucb] 30) (unhide INV5).box) hgrow6 (fun q e => by have := lt q e; omega)
            have q1 : w6.cell? ⟨W0.heap.size, 1, none⟩ = some vt := cell_block hb6
            have f6 := frozen_block (j := 1) hb6
            have INV6 := hide ((unhide INV5).task (t := ⟨name, tT, tD, mode, tQ, theta, ao, tcap, ecb, ucb, regs⟩) hgrow6 hown6 (unhide HF) hR0)
            have HR6 := hide ((((unhide HR5).alloc _).grown hgrow6 (fun q e => by have := lt q e; omega)).setCell (p := ⟨W0.heap.size, 1, none⟩) hR0 (.slice (some ⟨g6, 0, none⟩) (T.length + 1) c6))
            clear hown6 hgrow6 hb6 lt OWN FRESH
            refine hK.out _ _ trivial (fun hHeld => ?_)
            clear hK K
            rw [put_some (d := 58) _ _ rfl]
            simp only [List.setIfInBounds_toArray, List.set_cons_zero, List.set_cons_succ]
            refine take_yes 6 59 (.pointer (some ⟨W0.heap.size, 1, none⟩)) rfl rfl (by kernel_rfl) (by kernel_rfl) (by kernel_rfl) (fun _ _ _ h => h) rfl trivial (by intro w9 hS9; go_simp) ?_
            simp only [List.setIfInBounds_toArray, List.set_cons_zero, List.set_cons_succ]
            refine wpAnyH_ready (rs := [7]) (by kernel_rfl) (by decide) (AllReadyH.cons rfl (fun K hK => ?_) AllReadyH.nil)
            go_simp
            refine hK.out _ _ trivial (fun hHeld => ?_)
            clear hK K q1 f6
            try simp only [List.setIfInBounds_toArray, List.set_cons_zero, List.set_cons_succ]
            refine wpAnyH_done (by kernel_rfl) ?_ _
            go_wp2
            obtain ⟨n1, n2⟩ := unhide HTN _ _ (unhide HTX)
            have HQ2 := hide (((unhide HQ).trans n1).trans (by rw [← zip_snoc (by simpa using unhide HLEN)]))
            have HL := hide n2
            clear n1 n2
            go_roundw
            case rel => exact ⟨_, T ++ [⟨name, tT, tD, mode, tQ, theta, ao, tcap, ecb, ucb, regs⟩], P ++ [u.pos], y', unhide INV6, by simp [unhide HLEN], by have := unhide HL; have := unhide HMLE; simp; omega, unhide HR6, by rw [List.map_append]; exact unhide HQ2⟩
            case measure => rw [unhide HMEA, (unhide HR6).mea]; exact unhide HL
          · skip
            refine (if_pos rfl).mpr ?_
            go_wp2_with fail
            refine (unhide CT _ (unhide HR4).drew).mono ?_
            rintro e w5 ⟨t, y', rfl, hfit, hr, htx, hm⟩
            have INV5 := hide ((unhide INVD).mvd hm hR0)
            have HF := hide (hfit.base (show W0.heap.size + 1 ≤ w4.drew.heap.size from (unhide INV4).size))
            have HR5 := hide hr
            have HTX := hide htx
            obtain ⟨name, tT, tD, mode, tQ, theta, ao, tcap, ecb, ucb, regs⟩ := t
            rw [TaskV.val, TaskV.cells]
            simp only
            clear hfit hr htx hm
            refine hK.out _ _ trivial (fun hHeld => ?_)
            clear hK K
            try simp only [List.setIfInBounds_toArray, List.set_cons_zero, List.set_cons_succ]
            refine wpAnyH_ready (rs := [1, 4]) (by kernel_rfl) (by decide) (AllReadyH.cons rfl (fun K hK => ?_) (AllReadyH.cons rfl (fun K hK => ?_) AllReadyH.nil))
            · have c1 : (w5).cell? ⟨W0.heap.size, 1, none⟩ = some vt := cell_block ((unhide INV5).box)
              go_simp
              refine hK.out _ _ trivial (fun hHeld => ?_)
              clear hK K c1
              try simp only [List.setIfInBounds_toArray, List.set_cons_zero, List.set_cons_succ]
              refine wpAnyH_ready (rs := [4]) (by kernel_rfl) (by decide) (AllReadyH.cons rfl (fun K hK => ?_) AllReadyH.nil)
              go_simp
              refine hK.out _ _ trivial (fun hHeld => ?_)
              clear hK K
              try simp only [List.setIfInBounds_toArray, List.set_cons_zero, List.set_cons_succ]
              have FRESH := hide (fresh_task w5 ⟨name, tT, tD, mode, tQ, theta, ao, tcap, ecb, ucb, regs⟩ 30 rfl)
              have OWN := hide (World.ownsRow.alloc (unhide INV5).row (.cells #[.string name, .int .i64 tT, .int .i64 tD, .int .i64 mode, .int .i64 tQ, .int .i64 theta, .slice ao regs.length tcap, .int .u64 ecb, .int .u64 ucb] 30))
              have hs5 := (unhide INV5).size
              refine wpAnyH_ready (rs := [5]) (by kernel_rfl) (by decide) (AllReadyH.cons rfl (fun K hK => ?_) AllReadyH.nil)
              refine step_append_own rfl (.tmp 54) (.tmp 57) 22 rfl (W0.heap.size + 1) 30 i9 (.agg #[.string ⟨#[]⟩, .int .i64 0, .int .i64 0, .int .i64 0, .int .i64 0, .int .i64 0, .slice none 0 0, .int .u64 0, .int .u64 0]) 9 96 (by kernel_rfl) hi9 iz9 is9 ib9 rfl (by decide) vt T.length (T.flatMap TaskV.cells) rfl (unhide OWN) ⟨w5.heap.size, 0, none⟩ 1 1 (TaskV.cells ⟨name, tT, tD, mode, tQ, theta, ao, tcap, ecb, ucb, regs⟩) rfl rfl (unhide FRESH) (one_task _) (by unfold maxLen; omega) (by omega) (by simp; omega) ?_
              intro v6 w6 hown6 hgrow6
              obtain ⟨g6, c6, rfl⟩ : ∃ g6 c6, v6 = .slice (some ⟨g6, 0, none⟩) (T.length + 1) c6 := by
                rcases hown6.2 with ⟨-, h0⟩ | ⟨g6, c6, cur, e, -⟩
                · omega
                · exact ⟨g6, c6, e⟩
              have lt : ∀ q, vt.ownBlock = some q → W0.heap.size + 1 ≤ q := fun q e => ((unhide OWN).lt q e).1
              have hb6 := block_own (block_alloc (p := .cells #[.string name, .int .i64 tT, .int .i64 tD, .int .i64 mode, .int .i64 tQ, .int .i64 theta, .slice ao regs.length tcap, .int .u64 ecb, .int .u64 ucb] 30) (unhide INV5).box) hgrow6 (fun q e => by have := lt q e; omega)
              have q1 : w6.cell? ⟨W0.heap.size, 1, none⟩ = some vt := cell_block hb6
              have f6 := frozen_block (j := 1) hb6
              have INV6 := hide ((unhide INV5).task (t := ⟨name, tT, tD, mode, tQ, theta, ao, tcap, ecb, ucb, regs⟩) hgrow6 hown6 (unhide HF) hR0)
              have HR6 := hide ((((unhide HR5).alloc _).grown hgrow6 (fun q e => by have := lt q e; omega)).setCell (p := ⟨W0.heap.size, 1, none⟩) hR0 (.slice (some ⟨g6, 0, none⟩) (T.length + 1) c6))
              clear hown6 hgrow6 hb6 lt OWN FRESH
              refine hK.out _ _ trivial (fun hHeld => ?_)
              clear hK K
              rw [put_some (d := 58) _ _ rfl]
              simp only [List.setIfInBounds_toArray, List.set_cons_zero, List.set_cons_succ]
              refine take_yes 6 59 (.pointer (some ⟨W0.heap.size, 1, none⟩)) rfl rfl (by kernel_rfl) (by kernel_rfl) (by kernel_rfl) (fun _ _ _ h => h) rfl trivial (by intro w9 hS9; go_simp) ?_
              simp only [List.setIfInBounds_toArray, List.set_cons_zero, List.set_cons_succ]
              refine wpAnyH_ready (rs := [7]) (by kernel_rfl) (by decide) (AllReadyH.cons rfl (fun K hK => ?_) AllReadyH.nil)
              go_simp
              refine hK.out _ _ trivial (fun hHeld => ?_)
              clear hK K q1 f6
              try simp only [List.setIfInBounds_toArray, List.set_cons_zero, List.set_cons_succ]
              refine wpAnyH_done (by kernel_rfl) ?_ _
              go_wp2
              obtain ⟨n1, n2⟩ := unhide HTN _ _ (unhide HTX)
              have HQ2 := hide (((unhide HQ).trans n1).trans (by rw [← zip_snoc (by simpa using unhide HLEN)]))
              have HL := hide n2
              clear n1 n2
              go_roundw
              case rel => exact ⟨_, T ++ [⟨name, tT, tD, mode, tQ, theta, ao, tcap, ecb, ucb, regs⟩], P ++ [u.pos], y', unhide INV6, by simp [unhide HLEN], by have := unhide HL; have := unhide HMLE; simp; omega, unhide HR6, by rw [List.map_append]; exact unhide HQ2⟩
              case measure => rw [unhide HMEA, (unhide HR6).mea]; exact unhide HL
            · go_simp
              refine hK.out _ _ trivial (fun hHeld => ?_)
              clear hK K
              try simp only [List.setIfInBounds_toArray, List.set_cons_zero, List.set_cons_succ]
              refine wpAnyH_ready (rs := [1]) (by kernel_rfl) (by decide) (AllReadyH.cons rfl (fun K hK => ?_) AllReadyH.nil)
              have c1 : (w5.alloc (.cells #[.string name, .int .i64 tT, .int .i64 tD, .int .i64 mode, .int .i64 tQ, .int .i64 theta, .slice ao regs.length tcap, .int .u64 ecb, .int .u64 ucb] 30)).cell? ⟨W0.heap.size, 1, none⟩ = some vt := cell_block (block_alloc (unhide INV5).box)
              go_simp
              refine hK.out _ _ trivial (fun hHeld => ?_)
              clear hK K c1
              try simp only [List.setIfInBounds_toArray, List.set_cons_zero, List.set_cons_succ]
              have FRESH := hide (fresh_task w5 ⟨name, tT, tD, mode, tQ, theta, ao, tcap, ecb, ucb, regs⟩ 30 rfl)
              have OWN := hide (World.ownsRow.alloc (unhide INV5).row (.cells #[.string name, .int .i64 tT, .int .i64 tD, .int .i64 mode, .int .i64 tQ, .int .i64 theta, .slice ao regs.length tcap, .int .u64 ecb, .int .u64 ucb] 30))
              have hs5 := (unhide INV5).size
              refine wpAnyH_ready (rs := [5]) (by kernel_rfl) (by decide) (AllReadyH.cons rfl (fun K hK => ?_) AllReadyH.nil)
              refine step_append_own rfl (.tmp 54) (.tmp 57) 22 rfl (W0.heap.size + 1) 30 i9 (.agg #[.string ⟨#[]⟩, .int .i64 0, .int .i64 0, .int .i64 0, .int .i64 0, .int .i64 0, .slice none 0 0, .int .u64 0, .int .u64 0]) 9 96 (by kernel_rfl) hi9 iz9 is9 ib9 rfl (by decide) vt T.length (T.flatMap TaskV.cells) rfl (unhide OWN) ⟨w5.heap.size, 0, none⟩ 1 1 (TaskV.cells ⟨name, tT, tD, mode, tQ, theta, ao, tcap, ecb, ucb, regs⟩) rfl rfl (unhide FRESH) (one_task _) (by unfold maxLen; omega) (by omega) (by simp; omega) ?_
              intro v6 w6 hown6 hgrow6
              obtain ⟨g6, c6, rfl⟩ : ∃ g6 c6, v6 = .slice (some ⟨g6, 0, none⟩) (T.length + 1) c6 := by
                rcases hown6.2 with ⟨-, h0⟩ | ⟨g6, c6, cur, e, -⟩
                · omega
                · exact ⟨g6, c6, e⟩
              have lt : ∀ q, vt.ownBlock = some q → W0.heap.size + 1 ≤ q := fun q e => ((unhide OWN).lt q e).1
              have hb6 := block_own (block_alloc (p := .cells #[.string name, .int .i64 tT, .int .i64 tD, .int .i64 mode, .int .i64 tQ, .int .i64 theta, .slice ao regs.length tcap, .int .u64 ecb, .int .u64 ucb] 30) (unhide INV5).box) hgrow6 (fun q e => by have := lt q e; omega)
              have q1 : w6.cell? ⟨W0.heap.size, 1, none⟩ = some vt := cell_block hb6
              have f6 := frozen_block (j := 1) hb6
              have INV6 := hide ((unhide INV5).task (t := ⟨name, tT, tD, mode, tQ, theta, ao, tcap, ecb, ucb, regs⟩) hgrow6 hown6 (unhide HF) hR0)
              have HR6 := hide ((((unhide HR5).alloc _).grown hgrow6 (fun q e => by have := lt q e; omega)).setCell (p := ⟨W0.heap.size, 1, none⟩) hR0 (.slice (some ⟨g6, 0, none⟩) (T.length + 1) c6))
              clear hown6 hgrow6 hb6 lt OWN FRESH
              refine hK.out _ _ trivial (fun hHeld => ?_)
              clear hK K
              rw [put_some (d := 58) _ _ rfl]
              simp only [List.setIfInBounds_toArray, List.set_cons_zero, List.set_cons_succ]
              refine take_yes 6 59 (.pointer (some ⟨W0.heap.size, 1, none⟩)) rfl rfl (by kernel_rfl) (by kernel_rfl) (by kernel_rfl) (fun _ _ _ h => h) rfl trivial (by intro w9 hS9; go_simp) ?_
              simp only [List.setIfInBounds_toArray, List.set_cons_zero, List.set_cons_succ]
              refine wpAnyH_ready (rs := [7]) (by kernel_rfl) (by decide) (AllReadyH.cons rfl (fun K hK => ?_) AllReadyH.nil)
              go_simp
              refine hK.out _ _ trivial (fun hHeld => ?_)
              clear hK K q1 f6
              try simp only [List.setIfInBounds_toArray, List.set_cons_zero, List.set_cons_succ]
              refine wpAnyH_done (by kernel_rfl) ?_ _
              go_wp2
              obtain ⟨n1, n2⟩ := unhide HTN _ _ (unhide HTX)
              have HQ2 := hide (((unhide HQ).trans n1).trans (by rw [← zip_snoc (by simpa using unhide HLEN)]))
              have HL := hide n2
              clear n1 n2
              go_roundw
              case rel => exact ⟨_, T ++ [⟨name, tT, tD, mode, tQ, theta, ao, tcap, ecb, ucb, regs⟩], P ++ [u.pos], y', unhide INV6, by simp [unhide HLEN], by have := unhide HL; have := unhide HMLE; simp; omega, unhide HR6, by rw [List.map_append]; exact unhide HQ2⟩
              case measure => rw [unhide HMEA, (unhide HR6).mea]; exact unhide HL
        · rw [hend] at hnow
          have hqe := hq.trans (tasks_end hend)
          have HLEN := hide hlen
          have hl5 : T.length ≤ 5000 := by omega
          have HL5 := hide hl5
          have PO' := hide (fun i h => unhide PO n T P i hqe hlen h)
          have PA' := hide (fun ao cap h => unhide PA n T P ao cap hqe hlen h)
          clear hend hq hlen hmle hinv hr hbAr hMne PF PO PA CTa CW3 hqe hl5
          generalize hgu : nowT (.ok M) = u at *
          have hu : (u.kind != 4) = false := by simp [bne, hnow]
          clear hgu hnow
          go_wp2_with fail
          refine (unhide C1).mono ?_
          rintro e w1 ⟨rfl, hr, hm⟩
          have inv1 := (unhide INV).mvd hm hR0
          have r2' : w1.cell? ⟨R, 2, none⟩ = some (.int .i64 0) := by
            obtain ⟨g2, cap2, L2, k2, e2, p2, hl, hs⟩ := hr
            obtain ⟨rfl, -⟩ := hs
            exact cell_block hl.rd
          obtain ⟨av, cv, rfl⟩ := slice_any inv1.row
          have INV1 := hide inv1
          have HIN := hide (read_in0 inv1 (unhide HN) (unhide HL5))
          have x0 : w1.cell? ⟨W0.heap.size, 0, none⟩ = some (.int .i64 n) := cell_block inv1.box
          have x1 : w1.cell? ⟨W0.heap.size, 1, none⟩ = some (.slice av T.length cv) := cell_block inv1.box
          have C2 := hide (unhide CO ⟨n, av, cv, T⟩ w1 (unhide HIN) (unhide HL5))
          clear hr hm INV C1 HRY inv1
          rw [tokV]
          have hfd : ∀ w : World, (Instr.field 62 (.agg #[.int .i64 u.kind, .string (mkS u.text), .int .i64 u.n, .int .i64 u.pos]) 0).run Tryd.prog w = .ok (.int .i64 u.kind) w := fun _ => by kernel_rfl
          go_wp2_with fail
          refine (unhide C2).mono ?_
          rintro e w2 ⟨rfl, bel⟩
          have inv2 := (unhide INV1).mvd (Mv.of bel) hR0
          have hbA2 := inv2.mv.at (unhide HA) hAR
          have INV2 := hide inv2
          have HIN2 := hide (set_bel (unhide HIN) bel)
          have y0 : w2.cell? ⟨W0.heap.size, 0, none⟩ = some (.int .i64 n) := cell_block inv2.box
          have y1 : w2.cell? ⟨W0.heap.size, 1, none⟩ = some (.slice av T.length cv) := cell_block inv2.box
          have a0 : w2.cell? ⟨w.heap.size, 0, none⟩ = some (.int .i64 0) := cell_block hbA2
          have a1 : w2.cell? ⟨w.heap.size, 1, none⟩ = some (.slice none 0 0) := cell_block hbA2
          have fa := fun j => frozen_block (j := j) hbA2
          have B2 := hide (unhide BW _ inv2.mv)
          have hAX : w.heap.size ≠ W0.heap.size := by omega
          clear bel inv2 hbA2 x0 x1 r2 r2' C2 INV1 HIN
          simp only
          cases ho : oddOf T with
          | some i =>
            have hio := odd_lt ho
            obtain ⟨gs, cs, rfl, hgs, hcell⟩ := start_at (i := i) (unhide INV2).starts (by rw [← unhide HLEN]; exact hio)
            have HANS := hide (unhide PO' i ho)
            have hneg : w.heap.size ≠ gs := by omega
            have hip : i < P.length := by rw [← unhide HLEN]; exact hio
            have hi0 : (0 : Int) ≤ (i : Int) := by omega
            have hi1 : (i : Int) < (P.length : Int) := by omega
            have hi6 : P.length ≤ 5000 := by rw [← unhide HLEN]; exact unhide HL5
            rw [oddZ]
            generalize P.getD i 0 = p at *
            clear ho hio HLEN HL5 PO' PA' HIN2 INV2 CO CA
            generalize P.length = pn at *
            go_wp2_with fail
            go_region_held3 (fun w' => w'.cell? ⟨gs, i, none⟩ = some (.int .i64 p)) (go_keep) (fail)
            go_wp2
            refine bodyPost_ret (v := .tuple #[.agg #[.int .i64 0, .slice none 0 0], .int .i64 p, .int .i64 1]) (by rw [results_cell_two rfl]; go_simp) rfl ?_
            rw [unhide HANS]
            exact ⟨empty0, rfl, empty_in _, rfl, rfl, (((unhide B2).drew).setCell (p := ⟨w.heap.size, 0, none⟩) (Nat.le_refl _) _).setCell (p := ⟨w.heap.size, 1, none⟩) (Nat.le_refl _) _⟩
          | none =>
            have HANS := hide (unhide PA' av cv ho)
            have C3 := hide (unhide CA ⟨n, av, cv, T⟩ w2 (unhide HIN2))
            rw [oddZ]
            clear ho PO' PA' CA CO
            go_wp2_with fail
            refine (unhide C3).mono ?_
            rintro e w3 ⟨rfl, bel⟩
            have inv3 := (unhide INV2).mvd (Mv.of bel) hR0
            have hbA3 := inv3.mv.at (unhide HA) hAR
            have z0 : w3.cell? ⟨W0.heap.size, 0, none⟩ = some (.int .i64 n) := cell_block inv3.box
            have z1 : w3.cell? ⟨W0.heap.size, 1, none⟩ = some (.slice av T.length cv) := cell_block inv3.box
            have b0 : w3.cell? ⟨w.heap.size, 0, none⟩ = some (.int .i64 0) := cell_block hbA3
            have b1 : w3.cell? ⟨w.heap.size, 1, none⟩ = some (.slice none 0 0) := cell_block hbA3
            have fb := fun j => frozen_block (j := j) hbA3
            have B3 := hide (unhide BW _ inv3.mv)
            have RI := hide (read_in inv3 (b := w.heap.size) (by omega) (unhide HN) (unhide HL5) (.int .i64 n) (.slice av T.length cv)).1
            clear bel inv3 hbA3 y0 y1 a0 a1 fa C3 HIN2 INV2 B2
            cases hall : allB ⟨n, av, cv, T⟩
            · rw [hall] at HANS
              have HA' : Hid (ANS = ⟨empty0, 0, 1⟩) := HANS
              clear hall HANS
              go_wp2
              refine bodyPost_ret (v := .tuple #[.agg #[.int .i64 0, .slice none 0 0], .int .i64 0, .int .i64 1]) (by rw [results_cell_two rfl]; go_simp) rfl ?_
              rw [set_same b0, set_same b1, unhide HA']
              exact ⟨empty0, rfl, empty_in _, rfl, rfl, unhide B3⟩
            · rw [hall] at HANS
              have HA' : Hid (ANS = ⟨⟨n, none, 0, T.map bareT⟩, l.length, 0⟩) := HANS
              clear hall HANS
              go_wp2
              refine bodyPost_ret (v := .tuple #[.agg #[.int .i64 n, .slice av T.length cv], .int .i64 l.length, .int .i64 0]) (by rw [results_cell_two rfl]; go_simp) rfl ?_
              rw [unhide HA']
              exact ⟨⟨n, av, cv, T⟩, rfl, unhide RI, rfl, rfl, ((unhide B3).setCell (p := ⟨w.heap.size, 0, none⟩) (Nat.le_refl _) _).setCell (p := ⟨w.heap.size, 1, none⟩) (Nat.le_refl _) _⟩
  · rw [parse_err herr]
    have he : ((tokens l).err != 0) = true := bne_iff_ne.2 herr
    clear herr
    generalize tokens l = A at *
    simp only
    go_enter Tryd.func13, Tryd.ntmps13
    go_wp2_with fail
    refine (unhide CTK _).mono ?_
    rintro e w1 ⟨v, rfl, hown, bel⟩
    have hb1 : w1.heap[w.heap.size]? = some (.cells #[.int .i64 0, .slice none 0 0] 24 (0, 0)) := by
      rw [bel.block w.heap.size (by simp)]; exact heap_alloc_new w _
    have B1 := hide (bel_box (Below.refl _ _) bel)
    have x0 : w1.cell? ⟨w.heap.size, 0, none⟩ = some (.int .i64 0) := cell_block hb1
    have x1 : w1.cell? ⟨w.heap.size, 1, none⟩ = some (.slice none 0 0) := cell_block hb1
    have fx := fun j => frozen_block (j := j) hb1
    clear hown bel hb1 CTK
    go_wp2
    refine bodyPost_ret (v := .tuple #[.agg #[.int .i64 0, .slice none 0 0], .int .i64 A.pos, .int .i64 A.err]) (by rw [results_cell_two rfl]; go_simp) rfl ?_
    rw [set_same x0, set_same x1]
    exact ⟨empty0, rfl, empty_in _, rfl, rfl, unhide B1⟩
end Go.Proofs.YtlfmnnngadnkpaaDoor.Lex
