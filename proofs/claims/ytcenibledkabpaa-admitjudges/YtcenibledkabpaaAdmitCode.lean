/- What package admit answers. -/
import Derived.Test.YtcenibledkabpaaRespCode
import Derived.Test.YtcenibledkabpaaTaskCodeB
import Derived.Test.YtcenibledkabpaaTaskCodeC
import Derived.Test.YtcenibledkabpaaAdmitRef
import Derived.Deep.OwnRows
namespace Go.Proofs.Ytcenibledkabpaa.Lex
set_option maxRecDepth 100000
open Go.ChangeShapes Go.WideShapes Go.RowKit

theorem since_bel {w w' : World} {b n : Nat} {t : TypeId} {f : Nat → Value} (h : w.rowIs b t n f) (hb : Below w.heap.size w w') : w'.rowIs b t n f := h.of_block (hb.block _ h.lt)
/- behind k rounds: the bounds of the first k lie in a row that the call made, the rest is 0 -/
structure JCode (w : World) (s : SetV) (g k : Nat) (wr : World) : Prop where
  row : wr.rowIs g 2 s.ts.length (fun j => if j < k then .int .i64 (rAt s j) else .int .i64 0)
  box : wr.heap[w.heap.size]? = some (.cells #[.int .i64 s.reload, .slice s.ao s.ts.length s.cap] 24 (0, 0))
  res : wr.heap[w.heap.size + 1]? = some (.cells #[.int .i64 0, .int .i64 0, .slice none 0 0] 28 (0, 0))
  far : w.heap.size + 2 ≤ g
  below : Below w.heap.size w wr
theorem JCode.bel {w wr w1 : World} {s : SetV} {g k : Nat} (inv : JCode w s g k wr) (bel : Below wr.heap.size wr w1) : JCode w s g k w1 := by
  have hz := inv.row.lt
  have hf := inv.far
  exact ⟨since_bel inv.row bel, by rw [bel.block _ (by omega)]; exact inv.box, by rw [bel.block _ (by omega)]; exact inv.res, inv.far, below_on inv.below bel⟩
theorem JCode.next {w wr : World} {s : SetV} {g k : Nat} (inv : JCode w s g k wr) : JCode w s g (k + 1) (wr.setCell ⟨g, k, none⟩ (.int .i64 (rAt s k))) := by
  have hf := inv.far
  refine ⟨(inv.row.set k _).congr ?_, ?_, ?_, hf, inv.below.setCell (p := ⟨g, k, none⟩) (by show w.heap.size ≤ g; omega) _⟩
  · intro j hj
    by_cases e : j = k
    · subst e
      simp
    · simp only [if_neg e]
      by_cases l : j < k
      · rw [if_pos l, if_pos (by omega)]
      · rw [if_neg l, if_neg (by omega)]
  · rw [heap_setCell_other _ _ _ _ (by show w.heap.size ≠ g; omega)]; exact inv.box
  · rw [heap_setCell_other _ _ _ _ (by show w.heap.size + 1 ≠ g; omega)]; exact inv.res
theorem JCode.regs {w wr : World} {s : SetV} {g : Nat} (inv : JCode w s g s.ts.length wr) : RegsIn wr (some ⟨g, 0, none⟩) ((List.range s.ts.length).map (rAt s)) := fun _ => by
  refine ⟨g, 0, rfl, fun j hj => ?_⟩
  have hj' : j < s.ts.length := by simpa using hj
  have := inv.row.cell hj'
  rw [if_pos hj'] at this
  rw [Nat.zero_add, this]
  simp [List.getD, hj']
theorem JCode.start {w w1 : World} {s : SetV} (h1 : Below (w.heap.size + 2) ((w.alloc (.cells #[.int .i64 s.reload, .slice s.ao s.ts.length s.cap] 24)).alloc (.cells #[.int .i64 0, .int .i64 0, .slice none 0 0] 28)) w1)
    (hz : w.heap.size + 2 ≤ w1.heap.size) : JCode w s w1.heap.size 0 (w1.alloc (.cells (madeCells #[.int .i64 0] s.ts.length) 2)) := by
  refine ⟨(World.rowIs_made w1 (.int .i64 0) s.ts.length 2).congr (fun i _ => by simp), ?_, ?_, hz, ?_⟩
  · refine block_alloc ?_
    rw [h1.block _ (by omega)]
    exact block_alloc (heap_alloc_new w _)
  · refine block_alloc ?_
    rw [h1.block _ (by omega)]
    simpa using heap_alloc_new (w.alloc _) _
  · exact ((((Below.refl _ w).alloc (Nat.le_refl _) _).alloc (by simp) _).trans (h1.mono (by omega))).alloc (by omega) _
set_option maxHeartbeats 3200000 in
theorem code_Judge : CJudge := fun s w hs ha => by
  have hu : ∀ t ∈ s.ts, U64 t.ecb ∧ U64 t.ucb := fun t ht => ⟨(hs.each t ht).ecb, (hs.each t ht).ucb⟩
  obtain ⟨-, h8, -, -⟩ := all_fits ha hu
  have CA := hide (fun w h => code_AllG s w h)
  rw [ha] at CA
  have CO := hide (fun (k : Nat) (hk : k < s.ts.length) w h => code_ROf s k w h ha (show I64 (k : Int) by unfold I64; omega))
  have HRG := hide (fun (k : Nat) (hk : k < s.ts.length) => with_range ha hu hk (mostZ s k))
  have HIN := hide hs
  have HX : Hid (∀ k : Nat, withR s k (mostZ s k) = rAt s k ∧ withH s k (mostZ s k) = hAt s k) := fun k => ⟨rfl, rfl⟩
  clear hs ha hu
  have hmk := run_make_row' (P := Try.prog) 26 2 (.int .i64 0) 8 rfl Try.info_i64 rfl .i64 .i64 s.ts.length (by omega) (by omega)
  have B2 := hide (((Below.refl w.heap.size w).alloc (Nat.le_refl _) (.cells #[.int .i64 s.reload, .slice s.ao s.ts.length s.cap] 24)).alloc (by simp) (.cells #[.int .i64 0, .int .i64 0, .slice none 0 0] 28))
  have X2 := hide (show SBox ((w.alloc (.cells #[.int .i64 s.reload, .slice s.ao s.ts.length s.cap] 24)).alloc (.cells #[.int .i64 0, .int .i64 0, .slice none 0 0] 28)) w.heap.size s from (sbox_new w s 24).bel ((Below.refl _ _).alloc (Nat.le_refl _) _))
  go_enter Try.func9, Try.ntmps9
  rw [SetV.val]
  go_wp2_with fail
  refine (unhide CA _ (set_bel (unhide HIN) (unhide B2))).mono ?_
  rintro e w1 ⟨rfl, bel⟩
  have hz1 := bel.size
  simp at hz1
  have ST := hide (JCode.start (w := w) (w1 := w1) (s := s) (bel.mono (by simp)) (by omega))
  obtain ⟨c0, c1⟩ := (unhide X2).bel bel
  have hg0 : w.heap.size < w1.heap.size := by omega
  have hg1 : w.heap.size ≠ w1.heap.size := by omega
  clear bel
  go_wp2
  go_loopw [19] (fun i wr => ∃ k : Nat, k ≤ s.ts.length ∧ i = .int .i64 k ∧ badTo s k = none ∧ JCode w s w1.heap.size k wr) (fun i _ => s.ts.length - (intOf i).toNat)
  case atStart => exact ⟨0, Nat.zero_le _, rfl, rfl, unhide ST⟩
  case round =>
    obtain ⟨k, hk, rfl, hbad, inv⟩ := hrel
    clear c0 c1 ST
    have x0 := cell_block (j := 0) inv.box
    have x1 := cell_block (j := 1) inv.box
    simp at x0 x1
    by_cases hlt : k < s.ts.length
    · have CK := hide (unhide CO k hlt)
      obtain ⟨hr64, hh64⟩ := unhide HRG k hlt
      rw [(unhide HX k).1, (unhide HX k).2] at CK
      rw [(unhide HX k).1] at hr64
      rw [(unhide HX k).2] at hh64
      have INV := hide inv
      have HBAD := hide hbad
      have HR64 := hide hr64
      have HH64 := hide hh64
      have HF := hide (bad_first (s := s) (n := k) hbad)
      clear inv hbad hr64 hh64
      go_wp2_with fail
      refine (unhide CK _ (set_bel (unhide HIN) (unhide INV).below)).mono ?_
      rintro e w3 ⟨rfl, bel⟩
      have INV1 := hide ((unhide INV).bel bel)
      clear bel INV x0 x1
      by_cases hh : hAt s k = 1
      · have HN : Hid (badTo s (k + 1) = none) := hide (by rw [badTo, unhide HBAD]; simp only [if_pos hh])
        generalize hAt s k = hk1 at *
        subst hh
        have NX := hide (unhide INV1).next
        have rc := (unhide INV1).row.cell hlt
        have rf := (unhide INV1).row.frozen k
        generalize rAt s k = rk at *
        go_wp2
        go_roundw
        case rel => exact ⟨k + 1, by omega, by go_num, unhide HN, unhide NX⟩
        case measure => simp [intOf]; omega
      · have HB := hide (judge_bad (unhide HF hh hlt))
        have hres := (unhide INV1).res
        have r0 := cell_block (j := 0) hres
        have r1 := cell_block (j := 1) hres
        have r2 := cell_block (j := 2) hres
        have f0 := frozen_block (j := 0) hres
        have f1 := frozen_block (j := 1) hres
        have f2 := frozen_block (j := 2) hres
        simp at r0 r1 r2
        clear hres
        generalize hAt s k = hk1 at *
        go_wp2
        refine bodyPost_ret (v := .tuple #[.agg #[.int .i64 hk1, .int .i64 k, .slice none 0 0], .int .i64 0]) ?_ rfl ⟨⟨hk1, k, none, 0, []⟩, rfl, ⟨(unhide HB).1.symm, (unhide HB).2.1.symm, (unhide HB).2.2.symm⟩, ⟨fun h => absurd rfl h, fun _ => ⟨rfl, rfl⟩, by simp, unhide HH64, (show I64 (k : Int) by unfold I64; omega), fun n hn => by simp at hn⟩, ?_⟩
        · rw [results_cell_tmp rfl]; go_simp
        · exact (((unhide INV1).below.setCell (p := ⟨w.heap.size + 1, 0, none⟩) (by show w.heap.size ≤ w.heap.size + 1; omega) _).setCell (p := ⟨w.heap.size + 1, 1, none⟩) (by show w.heap.size ≤ w.heap.size + 1; omega) _).setCell (p := ⟨w.heap.size + 1, 2, none⟩) (by show w.heap.size ≤ w.heap.size + 1; omega) _
    · have e : k = s.ts.length := by omega
      subst e
      have HJ := hide (judge_ok hbad)
      have r0 := cell_block (j := 0) inv.res
      have r1 := cell_block (j := 1) inv.res
      have r2 := cell_block (j := 2) inv.res
      have f0 := frozen_block (j := 0) inv.res
      have f1 := frozen_block (j := 1) inv.res
      have f2 := frozen_block (j := 2) inv.res
      simp at r0 r1 r2
      have hg : w.heap.size + 2 ≤ w1.heap.size := by omega
      have INV := hide inv
      have HALL : Hid (∀ n ∈ (List.range s.ts.length).map (rAt s), I64 n) := hide (fun n hn => by
        obtain ⟨j, hj, rfl⟩ := List.mem_map.1 hn
        exact (unhide HRG j (List.mem_range.1 hj)).1)
      have HREG := hide (show RegsIn (((wr.setCell ⟨w.heap.size + 1, 0, none⟩ (.int .i64 1)).setCell ⟨w.heap.size + 1, 1, none⟩ (.int .i64 0)).setCell ⟨w.heap.size + 1, 2, none⟩ (.slice (some ⟨w1.heap.size, 0, none⟩) s.ts.length s.ts.length)) (some ⟨w1.heap.size, 0, none⟩) ((List.range s.ts.length).map (rAt s)) from fun hne => by
        obtain ⟨b, off, e, h⟩ := inv.regs hne
        cases e
        refine ⟨_, _, rfl, fun j hj => ?_⟩
        rw [World.cell?_of_block (w := wr) (by
          rw [heap_setCell_other _ _ _ _ (by show w1.heap.size ≠ w.heap.size + 1; omega), heap_setCell_other _ _ _ _ (by show w1.heap.size ≠ w.heap.size + 1; omega), heap_setCell_other _ _ _ _ (by show w1.heap.size ≠ w.heap.size + 1; omega)])]
        exact h j hj)
      have HLEN : Hid (((List.range s.ts.length).map (rAt s)).length = s.ts.length) := hide (by simp)
      clear inv hbad
      generalize (List.range s.ts.length).map (rAt s) = rl at *
      go_wp2
      refine bodyPost_ret (v := .tuple #[.agg #[.int .i64 1, .int .i64 0, .slice (some ⟨w1.heap.size, 0, none⟩) s.ts.length s.ts.length], .int .i64 0]) ?_ rfl ⟨⟨1, 0, some ⟨w1.heap.size, 0, none⟩, s.ts.length, rl⟩, ?_, ⟨(unhide HJ).1.symm, (unhide HJ).2.1.symm, (unhide HJ).2.2.symm⟩, ⟨unhide HREG, fun h => (by cases h), ?_, by simp [I64], by simp [I64], unhide HALL⟩, ?_⟩
      · rw [results_cell_tmp rfl]; go_simp
      · rw [VerdV.val]
        simp only
        rw [unhide HLEN]
      · show rl.length ≤ _
        rw [unhide HLEN]
        omega
      · exact (((unhide INV).below.setCell (p := ⟨w.heap.size + 1, 0, none⟩) (by show w.heap.size ≤ w.heap.size + 1; omega) _).setCell (p := ⟨w.heap.size + 1, 1, none⟩) (by show w.heap.size ≤ w.heap.size + 1; omega) _).setCell (p := ⟨w.heap.size + 1, 2, none⟩) (by show w.heap.size ≤ w.heap.size + 1; omega) _
set_option maxHeartbeats 1600000 in
theorem code_JudgeNo : CJudgeNo := fun s w hs ha => by
  have CA := hide (fun w h => code_AllG s w h)
  rw [ha] at CA
  have HIN := hide hs
  clear hs ha
  have B2 := hide (((Below.refl w.heap.size w).alloc (Nat.le_refl _) (.cells #[.int .i64 s.reload, .slice s.ao s.ts.length s.cap] 24)).alloc (by simp) (.cells #[.int .i64 0, .int .i64 0, .slice none 0 0] 28))
  have R2 := hide (show ((w.alloc (.cells #[.int .i64 s.reload, .slice s.ao s.ts.length s.cap] 24)).alloc (.cells #[.int .i64 0, .int .i64 0, .slice none 0 0] 28)).heap[w.heap.size + 1]? = some (.cells #[.int .i64 0, .int .i64 0, .slice none 0 0] 28 (0, 0)) from by simpa using heap_alloc_new (w.alloc (.cells #[.int .i64 s.reload, .slice s.ao s.ts.length s.cap] 24)) (.cells #[.int .i64 0, .int .i64 0, .slice none 0 0] 28))
  go_enter Try.func9, Try.ntmps9
  rw [SetV.val]
  go_wp2_with fail
  refine (unhide CA _ (set_bel (unhide HIN) (unhide B2))).mono ?_
  rintro e w1 ⟨rfl, bel⟩
  have B3 := hide ((unhide B2).trans (bel.mono (by simp; omega)))
  have hres := blk_bel (unhide R2) bel
  have r0 := cell_block (j := 0) hres
  have r1 := cell_block (j := 1) hres
  have r2 := cell_block (j := 2) hres
  have f0 := frozen_block (j := 0) hres
  have f1 := frozen_block (j := 1) hres
  have f2 := frozen_block (j := 2) hres
  simp at r0 r1 r2
  clear hres bel
  go_wp2
  refine bodyPost_ret (v := .tuple #[.agg #[.int .i64 0, .int .i64 0, .slice none 0 0], .int .i64 1]) ?_ rfl ⟨⟨0, 0, none, 0, []⟩, rfl, ⟨rfl, rfl, rfl⟩, ⟨fun h => absurd rfl h, fun _ => ⟨rfl, rfl⟩, by simp, by simp [I64], by simp [I64], fun n hn => by simp at hn⟩, ?_⟩
  · rw [results_cell_tmp rfl]; go_simp
  · exact (((unhide B3).setCell (p := ⟨w.heap.size + 1, 0, none⟩) (by show w.heap.size ≤ w.heap.size + 1; omega) _).setCell (p := ⟨w.heap.size + 1, 1, none⟩) (by show w.heap.size ≤ w.heap.size + 1; omega) _).setCell (p := ⟨w.heap.size + 1, 2, none⟩) (by show w.heap.size ≤ w.heap.size + 1; omega) _
set_option maxHeartbeats 1600000 in
theorem code_VSame : CVSame := fun a b w ha hb h50 _ => by
  have B2 := hide (((Below.refl w.heap.size w).alloc (Nat.le_refl _) (.cells #[.int .i64 a.how, .int .i64 a.task, .slice a.ao a.r.length a.cap] 28)).alloc (by simp) (.cells #[.int .i64 b.how, .int .i64 b.task, .slice b.ao b.r.length b.cap] 28))
  have CN := hide (fun W (h1 : Below w.heap.size w W) => equal_any a.ao b.ao a.cap b.cap a.r b.r W (regs_bel ha.regs h1) (regs_bel hb.regs h1) (by have := ha.len; omega))
  have HS : Hid (sameV a b = ((a.how == b.how) && ((a.task == b.task) && (a.r == b.r)))) := rfl
  clear ha hb
  obtain ⟨h, t, ao, cp, l⟩ := a
  obtain ⟨h', t', ao', cp', l'⟩ := b
  simp only at CN HS B2
  by_cases c0 : h = h'
  · subst c0
    by_cases c1 : t = t'
    · subst c1
      have HE : Hid (sameV ⟨h, t, ao, cp, l⟩ ⟨h, t, ao', cp', l'⟩ = (l == l')) := hide (by rw [unhide HS]; simp)
      rw [unhide HE]
      generalize (l == l') = o at *
      clear HS HE
      go_enter Try.func11, Try.ntmps11
      rw [VerdV.val, VerdV.val]
      simp only
      go_wp2_with fail
      refine (unhide CN _ (unhide B2)).mono ?_
      rintro e w1 ⟨rfl, bel⟩
      have B3 := hide (below_on (unhide B2) bel)
      clear bel
      go_wp2
      go_ret
      exact ⟨rfl, unhide B3⟩
    · have HE : Hid (sameV ⟨h, t, ao, cp, l⟩ ⟨h, t', ao', cp', l'⟩ = false) := hide (by rw [unhide HS]; simp [c1])
      rw [unhide HE]
      clear HS HE CN
      go_enter Try.func11, Try.ntmps11
      rw [VerdV.val, VerdV.val]
      simp only
      go_wp2
      go_ret
      exact ⟨rfl, unhide B2⟩
  · have HE : Hid (sameV ⟨h, t, ao, cp, l⟩ ⟨h', t', ao', cp', l'⟩ = false) := hide (by rw [unhide HS]; simp [c0])
    rw [unhide HE]
    clear HS HE CN
    go_enter Try.func11, Try.ntmps11
    rw [VerdV.val, VerdV.val]
    simp only
    go_wp2
    go_ret
    exact ⟨rfl, unhide B2⟩
end Go.Proofs.Ytcenibledkabpaa.Lex
