/- The reader's set: what it answers. -/
import Derived.Test.YtfpaigcbjpolhaaParseSetInv
namespace Go.Proofs.Ytfpaigcbjpolhaa.Lex
open Go.ChangeShapes Go.WideShapes Go.RowKit

set_option maxHeartbeats 3200000 in
theorem set_any (R : Nat) (L : List Tok) (w : World) (h : RAt w R (.ok L)) : Calls Try.prog 15 #[.pointer (some ⟨R, 0, none⟩)] w fun e w' => ∃ (rl : Int) (vt vs : Value) (T : List TaskV) (P : List Int), e = .returned (.tuple #[.agg #[.int .i64 rl, vt], vs]) ∧ SetInv w w' R rl vt vs T P ∧ T.length = P.length ∧ T.length ≤ 5000 ∧ (0 ≤ rl ∧ rl < 1000000000) ∧ SetRead w' R rl T P (setP L) := by
  obtain ⟨i0, hi, hz0, hz1, hz2⟩ := info_parts Try.info_int
  obtain ⟨i9, hi9, iz9, is9, ib9⟩ := info_parts Try.info_task
  have hsz := h.size
  have hne : w.heap.size ≠ R := by omega
  have hF : setP L = tasksX (takeT 2 (wordX wReload (.ok L))).n [] (wordX wSemi (goneP 2 (wordX wReload (.ok L)))) := set_first (.ok L)
  have CW1 : Hid (∀ (x : Left) (w : World), RAt w R x → Calls Try.prog 31 #[.pointer (some ⟨R, 0, none⟩), .string ⟨#[114, 101, 108, 111, 97, 100]⟩] w fun e w' => e = .returned (.tuple #[]) ∧ RAt w' R (wordX wReload x) ∧ Mv R w.heap.size w w') := fun x w h => word_any R ⟨#[114, 101, 108, 111, 97, 100]⟩ x w h
  have CW2 : Hid (∀ (x : Left) (w : World), RAt w R x → Calls Try.prog 31 #[.pointer (some ⟨R, 0, none⟩), .string ⟨#[59]⟩] w fun e w' => e = .returned (.tuple #[]) ∧ RAt w' R (wordX wSemi x) ∧ Mv R w.heap.size w w') := fun x w h => word_any R ⟨#[59]⟩ x w h
  have CS : Hid (∀ (x : Left) (w : World), RAt w R x → Calls Try.prog 33 #[.pointer (some ⟨R, 0, none⟩), .string ⟨#[116, 97, 115, 107]⟩] w fun e w' => e = .returned (.bool (seesB wTask x)) ∧ w' = w) := fun x w h => sees_any R ⟨#[116, 97, 115, 107]⟩ x w h
  have CN := hide (fun x w h => number_any R x w h)
  have CTK := hide (fun x w h => ptask_any R x w h)
  have CE := hide (fun x w h => end_any R x w h)
  have HF := hide hF
  have HR := hide (h.alloc (.cells #[.int .i64 0, .slice none 0 0] 24))
  have INV0 : Hid (SetInv w (w.alloc (.cells #[.int .i64 0, .slice none 0 0] 24)) R 0 (.slice none 0 0) (.slice none 0 0) [] []) :=
    ⟨World.ownsRow_nil _ _ _ _, World.ownsRow_nil _ _ _ _, fun t ht => by simp at ht, heap_alloc_new w _, Mv.al w _⟩
  clear hF h
  generalize setP L = Q at *
  go_enter Try.func15, Try.ntmps15
  go_wp2_with fail
  refine (unhide CW1 _ _ (unhide HR)).mono ?_
  rintro e w1 ⟨rfl, hr, hm⟩
  have INV1 := hide ((unhide INV0).mvd hm hsz)
  clear HR INV0
  have HR := hide hr
  clear hr hm
  generalize wordX wReload (.ok L) = x1 at *
  go_wp2_with fail
  refine (unhide CN _ _ (unhide HR)).mono ?_
  rintro e w2 ⟨rfl, hr, hm⟩
  have HN := hide (taken_n (unhide HR) 2)
  have INV2 := hide ((unhide INV1).mvd hm hsz)
  clear HR INV1
  have HR := hide hr
  clear hr hm
  generalize (takeT 2 x1).n = n at *
  generalize goneP 2 x1 = x2 at *
  have c0 : w2.cell? ⟨w.heap.size, 0, none⟩ = some (.int .i64 0) := cell_block (unhide INV2).box
  have fz := fun j => frozen_block (j := j) (unhide INV2).box
  have INV3 : Hid (SetInv w (w2.setCell ⟨w.heap.size, 0, none⟩ (.int .i64 n)) R n (.slice none 0 0) (.slice none 0 0) [] []) :=
    ⟨World.ownsRow_nil _ _ _ _, World.ownsRow_nil _ _ _ _, fun t ht => by simp at ht, by simpa using block_set (j := 0) (u := .int .i64 n) (unhide INV2).box, (unhide INV2).mv.setCell (.inl (Nat.le_refl _)) _⟩
  have HR' := hide ((unhide HR).setCell (p := ⟨w.heap.size, 0, none⟩) hsz (.int .i64 n))
  go_wp2_with fail
  refine (unhide CW2 _ _ (unhide HR')).mono ?_
  rintro e w3 ⟨rfl, hr, hm⟩
  have INV4 := hide ((unhide INV3).mvd hm hsz)
  clear HR HR' INV2 INV3 c0 fz
  have HR := hide hr
  clear hr hm
  generalize wordX wSemi x2 = x3 at *
  go_wp2
  go_loopw [3] (fun v wr => ∃ (vt : Value) (T : List TaskV) (P : List Int) (y : Left), SetInv w wr R n vt v T P ∧ T.length = P.length ∧ T.length + mea y ≤ 4003 ∧ RAt wr R y ∧ Q = tasksX n ((T.map bareT).zip P) y) (fun _ wr => meaW R wr)
  case atStart => exact ⟨_, [], [], x3, unhide INV4, rfl, by have := (unhide HR).mle; simp; omega, unhide HR, unhide HF⟩
  case round =>
    clear HF HR INV4 CW1 CW2 CN
    obtain ⟨vt, T, P, y, hinv, hlen, hmle, hr, hq⟩ := hrel
    have CH := hide (unhide CS y wr hr)
    have HMEA := hide hr.mea
    cases hb : seesB wTask y
    · rw [hb] at CH
      have HQ := hide (hq.trans (task_last hb (fun M e => by subst e; exact hr.okay.ne)))
      have INV := hide hinv
      have C4 := hide (unhide CE y wr hr)
      have hl5 : Hid (T.length ≤ 5000) := hide (by omega)
      have HLEN := hide hlen
      clear hb hq hinv hr hlen hmle
      generalize goneP 4 y = y4 at *
      go_wp2_with fail
      refine (unhide CH).mono ?_
      rintro e w' ⟨rfl, hw⟩
      rw [hw]; clear hw w'
      go_wp2_with fail
      refine (unhide C4).mono ?_
      rintro e w5 ⟨t5, rfl, hend, hm⟩
      have INV5 := hide ((unhide INV).mvd hm hsz)
      have HE := hide hend
      clear hend hm
      obtain ⟨av, lv, cv, rfl⟩ : ∃ av lv cv, vt = .slice av lv cv := by
        rcases (unhide INV).row.2 with ⟨e, -⟩ | ⟨g, cap, cur, e, -⟩
        · exact ⟨_, _, _, e⟩
        · exact ⟨_, _, _, e⟩
      have c0 : w5.cell? ⟨w.heap.size, 0, none⟩ = some (.int .i64 n) := cell_block (unhide INV5).box
      have c1 : w5.cell? ⟨w.heap.size, 1, none⟩ = some (.slice av lv cv) := cell_block (unhide INV5).box
      have fz := fun j => frozen_block (j := j) (unhide INV5).box
      go_wp2
      refine bodyPost_ret (v := .tuple #[.agg #[.int .i64 n, .slice av lv cv], u3]) ?_ rfl ?_
      · rw [results_cell_tmp rfl]; go_simp
      · rw [set_same c0, set_same c1]
        refine ⟨n, .slice av lv cv, u3, T, P, rfl, unhide INV5, unhide HLEN, unhide hl5, unhide HN, ?_⟩
        rw [unhide HQ]; exact set_read (unhide HE)
    · rw [hb] at CH
      have CT := hide (unhide CTK y)
      have HB := hide hb
      have HQ := hide hq
      have INV := hide hinv
      obtain ⟨u, r, rfl, -, -, -⟩ := sees_word hb
      obtain ⟨g, off, cap, M, e, hl, hs⟩ := hr
      obtain ⟨rfl, hML⟩ : e = 0 ∧ M = u :: r := hs
      subst hML
      have HRR : Hid (RAt wr R (.ok (u :: r))) := ⟨g, off, cap, u :: r, 0, hl, rfl, rfl⟩
      have r0 : wr.cell? ⟨R, 0, none⟩ = some (.slice (some ⟨g, off, none⟩) (r.length + 1) cap) := cell_block hl.rd
      have d3 : wr.cell? ⟨g, off + 3, none⟩ = some (.int .i64 u.pos) := by simpa using (hl.row 0 (by simp)).c3
      have hpl : P.length ≤ 4003 := by omega
      have htl : T.length ≤ 4003 := by omega
      have HLEN := hide hlen
      have HMLE := hide hmle
      clear hlen hmle
      have OWNS := hide (World.ownsRow.alloc hinv.starts (.cells #[.int .i64 u.pos] 3))
      have hsw := hinv.size
      clear hb hq hinv hl
      generalize r.length = rn at r0
      go_wp2_with fail
      refine (unhide CH).mono ?_
      rintro e w' ⟨rfl, hw⟩
      rw [hw]; clear hw w'
      go_wp2_with (at_builtin; refine wpList_append_own _ rfl _ _ 34 rfl (w.heap.size + 1) 3 i0 (.int .i64 0) 1 8 (by kernel_rfl) hi hz0 hz1 hz2 rfl (by decide) _ _ _ rfl (unhide OWNS) ⟨wr.heap.size, 0, none⟩ 1 1 [intV u.pos] rfl rfl (fresh_int wr u.pos _ rfl) (one_int u.pos) (by unfold maxLen; omega) (by omega) (by simp; omega) ?_)
      intro v2 w2 hown2 hgrow2 _
      have lt : ∀ q, u3.ownBlock = some q → w.heap.size + 1 ≤ q := fun q e => ((unhide OWNS).lt q e).1
      have INV2 := hide ((unhide INV).start hgrow2 hown2 hsz)
      have INVD := hide ((unhide INV2).mvd (Mv.dr w2) hsz)
      have HR2 := hide (((unhide HRR).alloc (.cells #[.int .i64 u.pos] 3)).grown hgrow2 (fun q e => by have := lt q e; omega))
      clear hown2 hgrow2 lt OWNS r0 d3 CH HRR INV
      have c2 : w2.cell? ⟨w.heap.size, 1, none⟩ = some vt := cell_block (unhide INV2).box
      go_wp2_with fail
      refine wp_region_held_drew (S := fun _ => True) (by kernel_rfl) trivial (fun hHeld => ?_)
      refine take_yes 0 23 (.pointer (some ⟨w.heap.size, 1, none⟩)) rfl rfl (by kernel_rfl) (by kernel_rfl) (by kernel_rfl) (fun _ _ _ h => h) rfl trivial (by intro w9 hS9; go_simp) ?_
      simp only [List.setIfInBounds_toArray, List.set_cons_zero, List.set_cons_succ]
      refine take_yes 2 25 (.pointer (some ⟨R, 0, none⟩)) rfl rfl (by kernel_rfl) (by kernel_rfl) (by kernel_rfl) (fun _ _ _ h => h) rfl trivial (by intro w9 hS9; go_simp) ?_
      simp only [List.setIfInBounds_toArray, List.set_cons_zero, List.set_cons_succ]
      refine wpAnyH_ready (rs := [1, 3]) (by kernel_rfl) (by decide) (AllReadyH.cons rfl (fun K hK => ?_) (AllReadyH.cons rfl (fun K hK => ?_) AllReadyH.nil))
      · clear c2
        have c1 : (w2.drew).cell? ⟨w.heap.size, 1, none⟩ = some vt := cell_block ((unhide INVD).box)
        go_simp
        refine hK.out _ _ trivial (fun hHeld => ?_)
        clear hK K c1
        try simp only [List.setIfInBounds_toArray, List.set_cons_zero, List.set_cons_succ]
        refine wpAnyH_ready (rs := [3]) (by kernel_rfl) (by decide) (AllReadyH.cons rfl (fun K hK => ?_) AllReadyH.nil)
        refine (if_pos rfl).mpr ?_
        go_wp2_with fail
        refine (unhide CT _ (unhide HR2).drew).mono ?_
        rintro e w3 ⟨t, y', rfl, hfit, hr, htx, hm⟩
        have INV3 := hide (((unhide INV2).mvd (Mv.dr w2) hsz).mvd hm hsz)
        have HF := hide (hfit.base (show w.heap.size + 1 ≤ w2.drew.heap.size from (unhide INV2).size))
        have HR3 := hide hr
        have HTX := hide htx
        obtain ⟨name, tT, tD, mode, tQ, theta, ao, tcap, ecb, ucb, regs⟩ := t
        rw [TaskV.val, TaskV.cells]
        simp only
        clear hfit hr htx hm
        refine hK.out _ _ trivial (fun hHeld => ?_)
        clear hK K
        try simp only [List.setIfInBounds_toArray, List.set_cons_zero, List.set_cons_succ]
        refine wpAnyH_ready (rs := [4]) (by kernel_rfl) (by decide) (AllReadyH.cons rfl (fun K hK => ?_) AllReadyH.nil)
        go_simp
        refine hK.out _ _ trivial (fun hHeld => ?_)
        clear hK K
        try simp only [List.setIfInBounds_toArray, List.set_cons_zero, List.set_cons_succ]
        have FRESH := hide (fresh_task w3 ⟨name, tT, tD, mode, tQ, theta, ao, tcap, ecb, ucb, regs⟩ 41 rfl)
        have OWN := hide (World.ownsRow.alloc (unhide INV3).row (.cells #[.string name, .int .i64 tT, .int .i64 tD, .int .i64 mode, .int .i64 tQ, .int .i64 theta, .slice ao regs.length tcap, .int .u64 ecb, .int .u64 ucb] 41))
        have hs3 := (unhide INV3).size
        refine wpAnyH_ready (rs := [5]) (by kernel_rfl) (by decide) (AllReadyH.cons rfl (fun K hK => ?_) AllReadyH.nil)
        refine step_append_own rfl (.tmp 24) (.tmp 27) 22 rfl (w.heap.size + 1) 41 i9 (.agg #[.string ⟨#[]⟩, .int .i64 0, .int .i64 0, .int .i64 0, .int .i64 0, .int .i64 0, .slice none 0 0, .int .u64 0, .int .u64 0]) 9 96 (by kernel_rfl) hi9 iz9 is9 ib9 rfl (by decide) vt T.length (T.flatMap TaskV.cells) rfl (unhide OWN) ⟨w3.heap.size, 0, none⟩ 1 1 (TaskV.cells ⟨name, tT, tD, mode, tQ, theta, ao, tcap, ecb, ucb, regs⟩) rfl rfl (unhide FRESH) (one_task _) (by unfold maxLen; omega) (by omega) (by simp; omega) ?_
        intro v4 w4 hown4 hgrow4
        obtain ⟨g4, c4, rfl⟩ : ∃ g4 c4, v4 = .slice (some ⟨g4, 0, none⟩) (T.length + 1) c4 := by
          rcases hown4.2 with ⟨-, h0⟩ | ⟨g4, c4, cur, e, -⟩
          · omega
          · exact ⟨g4, c4, e⟩
        have lt : ∀ q, vt.ownBlock = some q → w.heap.size + 1 ≤ q := fun q e => ((unhide OWN).lt q e).1
        have hb4 := block_own (block_alloc (p := .cells #[.string name, .int .i64 tT, .int .i64 tD, .int .i64 mode, .int .i64 tQ, .int .i64 theta, .slice ao regs.length tcap, .int .u64 ecb, .int .u64 ucb] 41) (unhide INV3).box) hgrow4 (fun q e => by have := lt q e; omega)
        have q1 : w4.cell? ⟨w.heap.size, 1, none⟩ = some vt := cell_block hb4
        have f4 := frozen_block (j := 1) hb4
        have INV4 := hide ((unhide INV3).task (t := ⟨name, tT, tD, mode, tQ, theta, ao, tcap, ecb, ucb, regs⟩) hgrow4 hown4 (unhide HF) hsz)
        have HR4 := hide ((((unhide HR3).alloc _).grown hgrow4 (fun q e => by have := lt q e; omega)).setCell (p := ⟨w.heap.size, 1, none⟩) hsz (.slice (some ⟨g4, 0, none⟩) (T.length + 1) c4))
        clear hown4 hgrow4 hb4 lt OWN FRESH
        refine hK.out _ _ trivial (fun hHeld => ?_)
        clear hK K
        rw [put_some (d := 28) _ _ rfl]
        simp only [List.setIfInBounds_toArray, List.set_cons_zero, List.set_cons_succ]
        refine take_yes 6 29 (.pointer (some ⟨w.heap.size, 1, none⟩)) rfl rfl (by kernel_rfl) (by kernel_rfl) (by kernel_rfl) (fun _ _ _ h => h) rfl trivial (by intro w9 hS9; go_simp) ?_
        simp only [List.setIfInBounds_toArray, List.set_cons_zero, List.set_cons_succ]
        refine wpAnyH_ready (rs := [7]) (by kernel_rfl) (by decide) (AllReadyH.cons rfl (fun K hK => ?_) AllReadyH.nil)
        go_simp
        refine hK.out _ _ trivial (fun hHeld => ?_)
        clear hK K q1 f4
        try simp only [List.setIfInBounds_toArray, List.set_cons_zero, List.set_cons_succ]
        refine wpAnyH_done (by kernel_rfl) ?_ _
        go_wp2
        obtain ⟨n1, n2⟩ := task_next (rl := n) (acc := (T.map bareT).zip P) (unhide HB) (unhide HTX)
        have HQ2 := hide (((unhide HQ).trans n1).trans (by rw [← zip_snoc (by simpa using unhide HLEN)]))
        have HL := hide n2
        clear n1 n2
        go_roundw
        case rel => exact ⟨_, T ++ [⟨name, tT, tD, mode, tQ, theta, ao, tcap, ecb, ucb, regs⟩], P ++ [u.pos], y', unhide INV4, by simp [unhide HLEN], by have := unhide HL; have := unhide HMLE; simp; omega, unhide HR4, by rw [List.map_append]; exact unhide HQ2⟩
        case measure => rw [unhide HMEA, (unhide HR4).mea]; exact unhide HL
      · clear c2
        refine (if_pos rfl).mpr ?_
        go_wp2_with fail
        refine (unhide CT _ (unhide HR2).drew).mono ?_
        rintro e w3 ⟨t, y', rfl, hfit, hr, htx, hm⟩
        have INV3 := hide (((unhide INV2).mvd (Mv.dr w2) hsz).mvd hm hsz)
        have HF := hide (hfit.base (show w.heap.size + 1 ≤ w2.drew.heap.size from (unhide INV2).size))
        have HR3 := hide hr
        have HTX := hide htx
        obtain ⟨name, tT, tD, mode, tQ, theta, ao, tcap, ecb, ucb, regs⟩ := t
        rw [TaskV.val, TaskV.cells]
        simp only
        clear hfit hr htx hm
        refine hK.out _ _ trivial (fun hHeld => ?_)
        clear hK K
        try simp only [List.setIfInBounds_toArray, List.set_cons_zero, List.set_cons_succ]
        refine wpAnyH_ready (rs := [1, 4]) (by kernel_rfl) (by decide) (AllReadyH.cons rfl (fun K hK => ?_) (AllReadyH.cons rfl (fun K hK => ?_) AllReadyH.nil))
        · have c1 : (w3).cell? ⟨w.heap.size, 1, none⟩ = some vt := cell_block ((unhide INV3).box)
          go_simp
          refine hK.out _ _ trivial (fun hHeld => ?_)
          clear hK K c1
          try simp only [List.setIfInBounds_toArray, List.set_cons_zero, List.set_cons_succ]
          refine wpAnyH_ready (rs := [4]) (by kernel_rfl) (by decide) (AllReadyH.cons rfl (fun K hK => ?_) AllReadyH.nil)
          go_simp
          refine hK.out _ _ trivial (fun hHeld => ?_)
          clear hK K
          try simp only [List.setIfInBounds_toArray, List.set_cons_zero, List.set_cons_succ]
          have FRESH := hide (fresh_task w3 ⟨name, tT, tD, mode, tQ, theta, ao, tcap, ecb, ucb, regs⟩ 41 rfl)
          have OWN := hide (World.ownsRow.alloc (unhide INV3).row (.cells #[.string name, .int .i64 tT, .int .i64 tD, .int .i64 mode, .int .i64 tQ, .int .i64 theta, .slice ao regs.length tcap, .int .u64 ecb, .int .u64 ucb] 41))
          have hs3 := (unhide INV3).size
          refine wpAnyH_ready (rs := [5]) (by kernel_rfl) (by decide) (AllReadyH.cons rfl (fun K hK => ?_) AllReadyH.nil)
          refine step_append_own rfl (.tmp 24) (.tmp 27) 22 rfl (w.heap.size + 1) 41 i9 (.agg #[.string ⟨#[]⟩, .int .i64 0, .int .i64 0, .int .i64 0, .int .i64 0, .int .i64 0, .slice none 0 0, .int .u64 0, .int .u64 0]) 9 96 (by kernel_rfl) hi9 iz9 is9 ib9 rfl (by decide) vt T.length (T.flatMap TaskV.cells) rfl (unhide OWN) ⟨w3.heap.size, 0, none⟩ 1 1 (TaskV.cells ⟨name, tT, tD, mode, tQ, theta, ao, tcap, ecb, ucb, regs⟩) rfl rfl (unhide FRESH) (one_task _) (by unfold maxLen; omega) (by omega) (by simp; omega) ?_
          intro v4 w4 hown4 hgrow4
          obtain ⟨g4, c4, rfl⟩ : ∃ g4 c4, v4 = .slice (some ⟨g4, 0, none⟩) (T.length + 1) c4 := by
            rcases hown4.2 with ⟨-, h0⟩ | ⟨g4, c4, cur, e, -⟩
            · omega
            · exact ⟨g4, c4, e⟩
          have lt : ∀ q, vt.ownBlock = some q → w.heap.size + 1 ≤ q := fun q e => ((unhide OWN).lt q e).1
          have hb4 := block_own (block_alloc (p := .cells #[.string name, .int .i64 tT, .int .i64 tD, .int .i64 mode, .int .i64 tQ, .int .i64 theta, .slice ao regs.length tcap, .int .u64 ecb, .int .u64 ucb] 41) (unhide INV3).box) hgrow4 (fun q e => by have := lt q e; omega)
          have q1 : w4.cell? ⟨w.heap.size, 1, none⟩ = some vt := cell_block hb4
          have f4 := frozen_block (j := 1) hb4
          have INV4 := hide ((unhide INV3).task (t := ⟨name, tT, tD, mode, tQ, theta, ao, tcap, ecb, ucb, regs⟩) hgrow4 hown4 (unhide HF) hsz)
          have HR4 := hide ((((unhide HR3).alloc _).grown hgrow4 (fun q e => by have := lt q e; omega)).setCell (p := ⟨w.heap.size, 1, none⟩) hsz (.slice (some ⟨g4, 0, none⟩) (T.length + 1) c4))
          clear hown4 hgrow4 hb4 lt OWN FRESH
          refine hK.out _ _ trivial (fun hHeld => ?_)
          clear hK K
          rw [put_some (d := 28) _ _ rfl]
          simp only [List.setIfInBounds_toArray, List.set_cons_zero, List.set_cons_succ]
          refine take_yes 6 29 (.pointer (some ⟨w.heap.size, 1, none⟩)) rfl rfl (by kernel_rfl) (by kernel_rfl) (by kernel_rfl) (fun _ _ _ h => h) rfl trivial (by intro w9 hS9; go_simp) ?_
          simp only [List.setIfInBounds_toArray, List.set_cons_zero, List.set_cons_succ]
          refine wpAnyH_ready (rs := [7]) (by kernel_rfl) (by decide) (AllReadyH.cons rfl (fun K hK => ?_) AllReadyH.nil)
          go_simp
          refine hK.out _ _ trivial (fun hHeld => ?_)
          clear hK K q1 f4
          try simp only [List.setIfInBounds_toArray, List.set_cons_zero, List.set_cons_succ]
          refine wpAnyH_done (by kernel_rfl) ?_ _
          go_wp2
          obtain ⟨n1, n2⟩ := task_next (rl := n) (acc := (T.map bareT).zip P) (unhide HB) (unhide HTX)
          have HQ2 := hide (((unhide HQ).trans n1).trans (by rw [← zip_snoc (by simpa using unhide HLEN)]))
          have HL := hide n2
          clear n1 n2
          go_roundw
          case rel => exact ⟨_, T ++ [⟨name, tT, tD, mode, tQ, theta, ao, tcap, ecb, ucb, regs⟩], P ++ [u.pos], y', unhide INV4, by simp [unhide HLEN], by have := unhide HL; have := unhide HMLE; simp; omega, unhide HR4, by rw [List.map_append]; exact unhide HQ2⟩
          case measure => rw [unhide HMEA, (unhide HR4).mea]; exact unhide HL
        · go_simp
          refine hK.out _ _ trivial (fun hHeld => ?_)
          clear hK K
          try simp only [List.setIfInBounds_toArray, List.set_cons_zero, List.set_cons_succ]
          refine wpAnyH_ready (rs := [1]) (by kernel_rfl) (by decide) (AllReadyH.cons rfl (fun K hK => ?_) AllReadyH.nil)
          have c1 : (w3.alloc (.cells #[.string name, .int .i64 tT, .int .i64 tD, .int .i64 mode, .int .i64 tQ, .int .i64 theta, .slice ao regs.length tcap, .int .u64 ecb, .int .u64 ucb] 41)).cell? ⟨w.heap.size, 1, none⟩ = some vt := cell_block (block_alloc (unhide INV3).box)
          go_simp
          refine hK.out _ _ trivial (fun hHeld => ?_)
          clear hK K c1
          try simp only [List.setIfInBounds_toArray, List.set_cons_zero, List.set_cons_succ]
          have FRESH := hide (fresh_task w3 ⟨name, tT, tD, mode, tQ, theta, ao, tcap, ecb, ucb, regs⟩ 41 rfl)
          have OWN := hide (World.ownsRow.alloc (unhide INV3).row (.cells #[.string name, .int .i64 tT, .int .i64 tD, .int .i64 mode, .int .i64 tQ, .int .i64 theta, .slice ao regs.length tcap, .int .u64 ecb, .int .u64 ucb] 41))
          have hs3 := (unhide INV3).size
          refine wpAnyH_ready (rs := [5]) (by kernel_rfl) (by decide) (AllReadyH.cons rfl (fun K hK => ?_) AllReadyH.nil)
          refine step_append_own rfl (.tmp 24) (.tmp 27) 22 rfl (w.heap.size + 1) 41 i9 (.agg #[.string ⟨#[]⟩, .int .i64 0, .int .i64 0, .int .i64 0, .int .i64 0, .int .i64 0, .slice none 0 0, .int .u64 0, .int .u64 0]) 9 96 (by kernel_rfl) hi9 iz9 is9 ib9 rfl (by decide) vt T.length (T.flatMap TaskV.cells) rfl (unhide OWN) ⟨w3.heap.size, 0, none⟩ 1 1 (TaskV.cells ⟨name, tT, tD, mode, tQ, theta, ao, tcap, ecb, ucb, regs⟩) rfl rfl (unhide FRESH) (one_task _) (by unfold maxLen; omega) (by omega) (by simp; omega) ?_
          intro v4 w4 hown4 hgrow4
          obtain ⟨g4, c4, rfl⟩ : ∃ g4 c4, v4 = .slice (some ⟨g4, 0, none⟩) (T.length + 1) c4 := by
            rcases hown4.2 with ⟨-, h0⟩ | ⟨g4, c4, cur, e, -⟩
            · omega
            · exact ⟨g4, c4, e⟩
          have lt : ∀ q, vt.ownBlock = some q → w.heap.size + 1 ≤ q := fun q e => ((unhide OWN).lt q e).1
          have hb4 := block_own (block_alloc (p := .cells #[.string name, .int .i64 tT, .int .i64 tD, .int .i64 mode, .int .i64 tQ, .int .i64 theta, .slice ao regs.length tcap, .int .u64 ecb, .int .u64 ucb] 41) (unhide INV3).box) hgrow4 (fun q e => by have := lt q e; omega)
          have q1 : w4.cell? ⟨w.heap.size, 1, none⟩ = some vt := cell_block hb4
          have f4 := frozen_block (j := 1) hb4
          have INV4 := hide ((unhide INV3).task (t := ⟨name, tT, tD, mode, tQ, theta, ao, tcap, ecb, ucb, regs⟩) hgrow4 hown4 (unhide HF) hsz)
          have HR4 := hide ((((unhide HR3).alloc _).grown hgrow4 (fun q e => by have := lt q e; omega)).setCell (p := ⟨w.heap.size, 1, none⟩) hsz (.slice (some ⟨g4, 0, none⟩) (T.length + 1) c4))
          clear hown4 hgrow4 hb4 lt OWN FRESH
          refine hK.out _ _ trivial (fun hHeld => ?_)
          clear hK K
          rw [put_some (d := 28) _ _ rfl]
          simp only [List.setIfInBounds_toArray, List.set_cons_zero, List.set_cons_succ]
          refine take_yes 6 29 (.pointer (some ⟨w.heap.size, 1, none⟩)) rfl rfl (by kernel_rfl) (by kernel_rfl) (by kernel_rfl) (fun _ _ _ h => h) rfl trivial (by intro w9 hS9; go_simp) ?_
          simp only [List.setIfInBounds_toArray, List.set_cons_zero, List.set_cons_succ]
          refine wpAnyH_ready (rs := [7]) (by kernel_rfl) (by decide) (AllReadyH.cons rfl (fun K hK => ?_) AllReadyH.nil)
          go_simp
          refine hK.out _ _ trivial (fun hHeld => ?_)
          clear hK K q1 f4
          try simp only [List.setIfInBounds_toArray, List.set_cons_zero, List.set_cons_succ]
          refine wpAnyH_done (by kernel_rfl) ?_ _
          go_wp2
          obtain ⟨n1, n2⟩ := task_next (rl := n) (acc := (T.map bareT).zip P) (unhide HB) (unhide HTX)
          have HQ2 := hide (((unhide HQ).trans n1).trans (by rw [← zip_snoc (by simpa using unhide HLEN)]))
          have HL := hide n2
          clear n1 n2
          go_roundw
          case rel => exact ⟨_, T ++ [⟨name, tT, tD, mode, tQ, theta, ao, tcap, ecb, ucb, regs⟩], P ++ [u.pos], y', unhide INV4, by simp [unhide HLEN], by have := unhide HL; have := unhide HMLE; simp; omega, unhide HR4, by rw [List.map_append]; exact unhide HQ2⟩
          case measure => rw [unhide HMEA, (unhide HR4).mea]; exact unhide HL
end Go.Proofs.Ytfpaigcbjpolhaa.Lex
