/- The reference of chapter 13: what Judge and Same answer. -/
import Derived.Test.YtcenibledkabpaaAdmitSpec
import Derived.Test.YtcenibledkabpaaRespTell
namespace Go.Proofs.Ytcenibledkabpaa.Lex
set_option maxRecDepth 100000
open Go.ChangeShapes Go.WideShapes Go.RowKit

theorem with_range {s : SetV} (ha : allB s = true) (hu : ∀ t ∈ s.ts, U64 t.ecb ∧ U64 t.ucb) {k : Nat} (hk : k < s.ts.length) (b : Int) : I64 (withR s k b) ∧ I64 (withH s k b) := by
  have hH : withH s k b = 3 ∨ withH s k b = 1 ∨ withH s k b = 2 := by
    unfold withH
    split
    · exact .inl rfl
    · split
      · exact .inr (.inl rfl)
      · exact .inr (.inr rfl)
  refine ⟨?_, by unfold I64; omega⟩
  cases hB : busyO s k b with
  | none => rw [withR, hB]; simp [I64]
  | some L =>
    rw [withR, hB]
    obtain ⟨hm, hl⟩ := busy_parts ha hu hk hB
    have hL := hl.1
    have h0 := (resp_ge s k b (Fix.ceilZ L (s.ts.getD k task0).T).toNat).1
    obtain ⟨-, -, -, hfit⟩ := all_fits ha hu
    have htt := task_time (hfit k hk).is
    have h1 := resp_le (s := s) (k := k) (b := b) (x := L) (by omega) (Fix.ceilZ L (s.ts.getD k task0).T).toNat (fun q hq => by
      have hq' : (q : Int) * (s.ts.getD k task0).T < L := (ceil_iff htt.1.1).1 (by omega)
      have hd := done_is ha hu hk hB hq'
      have h2 : 0 ≤ (q : Int) * (s.ts.getD k task0).T := Int.mul_nonneg (by omega) (by have := htt.1.1; omega)
      have h3 := hd.2
      omega)
    simp only [Int.toNat_natCast]
    unfold I64
    omega
structure JInv (w : World) (s : SetV) (k : Nat) (v : Value) (wr : World) : Prop where
  row : wr.ownsRow (w.heap.size + 3) 2 1 v k (((List.range k).map (rAt s)).map intV)
  box : wr.heap[w.heap.size]? = some (.cells #[.int .i64 s.reload, .slice s.ao s.ts.length s.cap] 24 (0, 0))
  res : wr.heap[w.heap.size + 1]? = some (.cells #[.int .i64 0, .int .i64 0, .slice none 0 0] 28 (0, 0))
  out : wr.heap[w.heap.size + 1 + 1]? = some (.cells #[.int .i64 1, .int .i64 0, v] 28 (0, 0))
  size : w.heap.size + 3 ≤ wr.heap.size
  below : Below w.heap.size w wr
theorem JInv.bel {w wr w1 : World} {s : SetV} {k : Nat} {v : Value} (inv : JInv w s k v wr) (bel : Below wr.heap.size wr w1) : JInv w s k v w1 := by
  have hz := inv.size
  have h1 := bel.size
  exact ⟨own_belG inv.row bel, by rw [bel.block _ (by omega)]; exact inv.box, by rw [bel.block _ (by omega)]; exact inv.res, by rw [bel.block _ (by omega)]; exact inv.out, by omega, below_on inv.below bel⟩
theorem judge_next {w wr w6 : World} {s : SetV} {k : Nat} {v v2 : Value} {o : Obj} (inv : JInv w s k v wr) (hgrow : (wr.alloc o).grownBy w6 v.ownBlock)
    (own6 : w6.ownsRow (w.heap.size + 3) 2 1 v2 (k + 1) (((List.range k).map (rAt s)).map intV ++ [intV (rAt s k)])) (hO6 : w6.heap[w.heap.size + 1 + 1]? = some (.cells #[.int .i64 1, .int .i64 0, v] 28 (0, 0))) :
    JInv w s (k + 1) v2 (w6.setCell ⟨w.heap.size + 1 + 1, 2, none⟩ v2) := by
  have hsz := inv.size
  have hB5 : Below wr.heap.size wr (wr.alloc o) := (Below.refl _ _).alloc (Nat.le_refl _) _
  have hs5 := hB5.size
  have hs6 := hgrow.size
  have hvo : ∀ q, v.ownBlock = some q → w.heap.size + 3 ≤ q := fun q e => (inv.row.lt q e).1
  have blk : ∀ {g : Nat} {ob : Obj}, wr.heap[g]? = some ob → g < w.heap.size + 1 + 1 → (w6.setCell ⟨w.heap.size + 1 + 1, 2, none⟩ v2).heap[g]? = some ob := fun {g ob} h hg => by
    have h5 : (wr.alloc o).heap[g]? = some ob := by rw [hB5.block g (by omega)]; exact h
    exact block_off (block_own h5 hgrow (fun q e => by have := hvo q e; omega)) (grown_set w6 ⟨w.heap.size + 1 + 1, 2, none⟩ v2) (by show g ≠ w.heap.size + 1 + 1; omega)
  refine ⟨?_, blk inv.box (by omega), blk inv.res (by omega), ?_, ?_, ?_⟩
  · rw [List.range_succ, List.map_append, List.map_append]
    exact own_off own6 (grown_set w6 ⟨w.heap.size + 1 + 1, 2, none⟩ v2) (.inl (by show w.heap.size + 1 + 1 < _; omega))
  · have := block_set (j := 2) (u := v2) hO6
    simpa using this
  · simp at hs5 hs6 ⊢; omega
  · refine Below.setCell ((inv.below.trans (hB5.mono inv.below.size)).grown hgrow (by have := inv.below.size; omega) (fun q e => by have := hvo q e; omega)) ?_ _
    show w.heap.size ≤ w.heap.size + 1 + 1
    omega
theorem fresh_one (w : World) (x : Value) (ty : TypeId) : ∀ j u, [x][j]? = some u → (w.alloc (.cells #[x] ty)).cell? ((⟨w.heap.size, 0, none⟩ : Addr).add j) = some u := by
  intro j u hj
  have : j = 0 := by
    rcases Nat.eq_zero_or_pos j with h | h
    · exact h
    · rw [List.getElem?_eq_none (by simp; omega)] at hj; cases hj
  subst this
  simp at hj
  subst hj
  simp [Addr.add]
theorem verd_own {w : World} {B n : Nat} {v : Value} {l : List Int} (h : w.ownsRow B 2 1 v n (l.map intV)) : ∃ ao cap, v = .slice ao l.length cap ∧ RegsIn w ao l ∧ (ao = none → l = [] ∧ cap = 0) := by
  have hn : n = l.length := by have := h.1; simp at this; omega
  subst hn
  rcases h.2 with ⟨e, h0⟩ | ⟨g, cap, cur, e, hb, hg, r⟩
  · have eL : l = [] := List.length_eq_zero_iff.1 h0
    subst eL
    exact ⟨none, 0, e, fun k => absurd rfl k, fun _ => ⟨rfl, rfl⟩⟩
  · subst e
    exact ⟨some ⟨g, 0, none⟩, cap, rfl, regs_own (t := ⟨⟨#[]⟩, 0, 0, 0, 0, 0, some ⟨g, 0, none⟩, cap, 0, 0, l⟩) h, fun k => by cases k⟩
set_option maxHeartbeats 3200000 in
theorem rjudge_any (s : SetV) (w : World) (hs : SetIn w s) (ha : allB s = true) : Calls Try.prog 14 #[s.val] w fun e w' => ∃ v : VerdV, e = .returned v.val ∧ (v.how = judgeH s ∧ v.task = judgeT s ∧ v.r = judgeR s) ∧ VerdIn w' v ∧ Below w.heap.size w w' := by
  have hu : ∀ t ∈ s.ts, U64 t.ecb ∧ U64 t.ucb := fun t ht => ⟨(hs.each t ht).ecb, (hs.each t ht).ucb⟩
  obtain ⟨-, h8, -, -⟩ := all_fits ha hu
  have CO := hide (fun (k : Nat) (hk : k < s.ts.length) w h => rof12_any s k w h ha hk)
  have HRG := hide (fun (k : Nat) (hk : k < s.ts.length) => with_range ha hu hk (mostZ s k))
  have HIN := hide hs
  have HX : Hid (∀ k : Nat, withR s k (mostZ s k) = rAt s k ∧ withH s k (mostZ s k) = hAt s k) := fun k => ⟨rfl, rfl⟩
  clear hs ha hu
  obtain ⟨i1, hi1⟩ : ∃ i, Try.prog.info? 2 = some i := by
    have := Try.info_i64
    cases h : Try.prog.info? 2 with
    | none => rw [h] at this; cases this
    | some i => exact ⟨i, rfl⟩
  obtain ⟨iz1, is1, ib1⟩ : i1.zero = some (.int .i64 0) ∧ i1.size = 1 ∧ i1.bytes = 8 := by
    have := Try.info_i64
    rw [hi1] at this
    simpa using this
  go_enter Try.func14, Try.ntmps14
  rw [SetV.val]
  go_wp2
  go_loopw [4] (fun i wr => ∃ (k : Nat) (v : Value), k ≤ s.ts.length ∧ i = .int .i64 k ∧ badTo s k = none ∧ JInv w s k v wr) (fun i _ => s.ts.length - (intOf i).toNat)
  case atStart =>
    exact ⟨0, .slice none 0 0, Nat.zero_le _, rfl, rfl, World.ownsRow_nil _ _ _ _, block_alloc (block_alloc (heap_alloc_new w _)), block_alloc (by simpa using heap_alloc_new (w.alloc _) _), by simpa using heap_alloc_new ((w.alloc _).alloc _) _, by simp, (((Below.refl _ w).alloc (Nat.le_refl _) _).alloc (by simp) _).alloc (by simp; omega) _⟩
  case round =>
    obtain ⟨k, v, hk, rfl, hbad, inv⟩ := hrel
    have x0 := cell_block (j := 0) inv.box
    have x1 := cell_block (j := 1) inv.box
    simp at x0 x1
    by_cases hlt : k < s.ts.length
    · have CK := hide (unhide CO k hlt)
      obtain ⟨hr64, hh64⟩ := unhide HRG k hlt
      rw [(unhide HX k).1, (unhide HX k).2] at CK
      rw [(unhide HX k).1] at hr64
      rw [(unhide HX k).2] at hh64
      have INV := hide inv
      have HBAD := hide hbad
      have HR64 := hide hr64
      have HH64 := hide hh64
      have HF := hide (bad_first (s := s) (n := k) hbad)
      clear inv hbad hr64 hh64
      go_wp2_with fail
      refine (unhide CK _ (set_bel (unhide HIN) (unhide INV).below)).mono ?_
      rintro e w1 ⟨rfl, bel⟩
      have INV1 := hide ((unhide INV).bel bel)
      clear bel INV x0 x1
      by_cases hh : hAt s k = 1
      · have hO := (unhide INV1).out
        have o2 := cell_block (j := 2) hO
        have f2 := frozen_block (j := 2) hO
        have HO := hide hO
        simp at o2
        clear hO
        have HN : Hid (badTo s (k + 1) = none) := hide (by rw [badTo, unhide HBAD]; simp only [if_pos hh])
        generalize hAt s k = hk1 at *
        subst hh
        have NEWS := hide (fresh_one w1 (intV (rAt s k)) 2)
        have OWN5 := hide ((own_belG (unhide INV1).row ((Below.refl _ _).alloc (Nat.le_refl _) (.cells #[intV (rAt s k)] 2))))
        have hsz1 := (unhide INV1).size
        go_wp2_with (at_builtin; refine wpList_append_own _ rfl _ _ 26 rfl (w.heap.size + 3) 2 i1 (.int .i64 0) 1 8 (by kernel_rfl) hi1 iz1 is1 ib1 rfl (by decide) v k _ rfl (unhide OWN5) ⟨w1.heap.size, 0, none⟩ 1 1 [intV (rAt s k)] rfl rfl (unhide NEWS) (by simp [intV, Value.oneCell']) (by simp [maxLen]; omega) (by omega) (by simp; omega) ?_)
        intro v2 w6 hown6 hgrow6 _
        obtain ⟨g2, c2, rfl⟩ : ∃ g2 c2, v2 = .slice (some ⟨g2, 0, none⟩) (k + 1) c2 := by
          rcases hown6.2 with ⟨-, h0⟩ | ⟨g2, c2, cur, e, -⟩
          · omega
          · exact ⟨g2, c2, e⟩
        have hvo : ∀ q, v.ownBlock = some q → w.heap.size + 3 ≤ q := fun q e => ((unhide INV1).row.lt q e).1
        have hO6 : w6.heap[w.heap.size + 1 + 1]? = _ := block_own (block_alloc (unhide HO)) hgrow6 (fun q e => by have := hvo q e; omega)
        have q2 := cell_block (j := 2) hO6
        have f6 := frozen_block (j := 2) hO6
        simp at q2
        have OWN6 := hide hown6
        have GROW6 := hide hgrow6
        have HO6 := hide hO6
        clear hown6 hgrow6 hO6 OWN5 NEWS o2 f2 hvo
        go_wp2
        go_roundw
        case rel => exact ⟨k + 1, _, by omega, by go_num, unhide HN, judge_next (unhide INV1) (unhide GROW6) (by rw [List.map_map]; exact unhide OWN6) (unhide HO6)⟩
        case measure => simp [intOf]; omega
      · have hb := judge_bad (unhide HF hh hlt)
        have HB := hide hb
        have hres := (unhide INV1).res
        have r0 := cell_block (j := 0) hres
        have r1 := cell_block (j := 1) hres
        have r2 := cell_block (j := 2) hres
        have f0 := frozen_block (j := 0) hres
        have f1 := frozen_block (j := 1) hres
        have f2 := frozen_block (j := 2) hres
        simp at r0 r1 r2
        clear hb hres
        generalize hAt s k = hk1 at *
        go_wp2
        refine bodyPost_ret (v := .agg #[.int .i64 hk1, .int .i64 k, .slice none 0 0]) ?_ rfl ⟨⟨hk1, k, none, 0, []⟩, rfl, ⟨(unhide HB).1.symm, (unhide HB).2.1.symm, (unhide HB).2.2.symm⟩, ⟨fun h => absurd rfl h, fun _ => ⟨rfl, rfl⟩, by simp, unhide HH64, (show I64 (k : Int) by unfold I64; omega), fun n hn => by simp at hn⟩, ?_⟩
        · rw [results_cell1 rfl]; go_simp
        · exact (((unhide INV1).below.setCell (p := ⟨w.heap.size + 1, 0, none⟩) (by show w.heap.size ≤ w.heap.size + 1; omega) _).setCell (p := ⟨w.heap.size + 1, 1, none⟩) (by show w.heap.size ≤ w.heap.size + 1; omega) _).setCell (p := ⟨w.heap.size + 1, 2, none⟩) (by show w.heap.size ≤ w.heap.size + 1; omega) _
    · have e : k = s.ts.length := by omega
      subst e
      have hj := judge_ok hbad
      have HJ := hide hj
      obtain ⟨ao, cp, hv, hreg, hnil⟩ := verd_own inv.row
      have r0 := cell_block (j := 0) inv.res
      have r1 := cell_block (j := 1) inv.res
      have r2 := cell_block (j := 2) inv.res
      have f0 := frozen_block (j := 0) inv.res
      have f1 := frozen_block (j := 1) inv.res
      have f2 := frozen_block (j := 2) inv.res
      have o0 := cell_block (j := 0) inv.out
      have o1 := cell_block (j := 1) inv.out
      have o2 := cell_block (j := 2) inv.out
      simp at r0 r1 r2 o0 o1 o2
      subst hv
      have INV := hide inv
      have HNIL := hide hnil
      have HALL : Hid (∀ n ∈ (List.range s.ts.length).map (rAt s), I64 n) := hide (fun n hn => by
        obtain ⟨j, hj, rfl⟩ := List.mem_map.1 hn
        exact (unhide HRG j (List.mem_range.1 hj)).1)
      have HREG := hide (show RegsIn (((wr.setCell ⟨w.heap.size + 1, 0, none⟩ (.int .i64 1)).setCell ⟨w.heap.size + 1, 1, none⟩ (.int .i64 0)).setCell ⟨w.heap.size + 1, 2, none⟩ (.slice ao ((List.range s.ts.length).map (rAt s)).length cp)) ao ((List.range s.ts.length).map (rAt s)) from by
        have k0 := own_off inv.row (grown_set wr ⟨w.heap.size + 1, 0, none⟩ (.int .i64 1)) (.inl (by show w.heap.size + 1 < _; omega))
        have k1 := own_off k0 (grown_set _ ⟨w.heap.size + 1, 1, none⟩ (.int .i64 0)) (.inl (by show w.heap.size + 1 < _; omega))
        have k2 := own_off k1 (grown_set _ ⟨w.heap.size + 1, 2, none⟩ (.slice ao ((List.range s.ts.length).map (rAt s)).length cp)) (.inl (by show w.heap.size + 1 < _; omega))
        obtain ⟨ao', cp', e, h, -⟩ := verd_own k2
        cases e
        exact h)
      have HLEN : Hid (((List.range s.ts.length).map (rAt s)).length = s.ts.length) := hide (by simp)
      clear inv hj hreg hnil
      generalize (List.range s.ts.length).map (rAt s) = rl at *
      go_wp2
      refine bodyPost_ret (v := .agg #[.int .i64 1, .int .i64 0, .slice ao rl.length cp]) ?_ rfl ⟨⟨1, 0, ao, cp, rl⟩, rfl, ⟨(unhide HJ).1.symm, (unhide HJ).2.1.symm, (unhide HJ).2.2.symm⟩, ⟨unhide HREG, unhide HNIL, ?_, by simp [I64], by simp [I64], unhide HALL⟩, ?_⟩
      · rw [results_cell1 rfl]; go_simp
      · show rl.length ≤ _
        rw [unhide HLEN]
        omega
      · exact (((unhide INV).below.setCell (p := ⟨w.heap.size + 1, 0, none⟩) (by show w.heap.size ≤ w.heap.size + 1; omega) _).setCell (p := ⟨w.heap.size + 1, 1, none⟩) (by show w.heap.size ≤ w.heap.size + 1; omega) _).setCell (p := ⟨w.heap.size + 1, 2, none⟩) (by show w.heap.size ≤ w.heap.size + 1; omega) _
/- one verdict's box -/
structure VBox (w : World) (g : Nat) (v : VerdV) : Prop where
  c0 : w.cell? ⟨g, 0, none⟩ = some (.int .i64 v.how)
  c1 : w.cell? ⟨g, 1, none⟩ = some (.int .i64 v.task)
  c2 : w.cell? ⟨g, 2, none⟩ = some (.slice v.ao v.r.length v.cap)
theorem VBox.bel {w w' : World} {g : Nat} {v : VerdV} (h : VBox w g v) (hb : Below w.heap.size w w') : VBox w' g v := ⟨cell_bel' h.c0 hb, cell_bel' h.c1 hb, cell_bel' h.c2 hb⟩
theorem VBox.drew {w : World} {g : Nat} {v : VerdV} (h : VBox w g v) : VBox w.drew g v := ⟨h.c0, h.c1, h.c2⟩
theorem vbox_new (w : World) (v : VerdV) (ty : TypeId) : VBox (w.alloc (.cells #[.int .i64 v.how, .int .i64 v.task, .slice v.ao v.r.length v.cap] ty)) w.heap.size v := by
  constructor <;> simp
set_option maxHeartbeats 1600000 in
theorem rvsame_any (a b : VerdV) (w : World) (ha : VerdIn w a) (hb : VerdIn w b) : Calls Try.prog 13 #[a.val, b.val] w fun e w' => e = .returned (.bool (sameV a b)) ∧ Below w.heap.size w w' := by
  have B2 := hide (((Below.refl w.heap.size w).alloc (Nat.le_refl _) (.cells #[.int .i64 a.how, .int .i64 a.task, .slice a.ao a.r.length a.cap] 28)).alloc (by simp) (.cells #[.int .i64 b.how, .int .i64 b.task, .slice b.ao b.r.length b.cap] 28))
  have CN := hide (fun W (h1 : Below w.heap.size w W) => rnums_any a.ao b.ao a.cap b.cap a.r b.r W (regs_bel ha.regs h1) (regs_bel hb.regs h1) (by have := ha.len; omega))
  have HS : Hid (sameV a b = ((a.how == b.how) && ((a.task == b.task) && (a.r == b.r)))) := rfl
  clear ha hb
  obtain ⟨h, t, ao, cp, l⟩ := a
  obtain ⟨h', t', ao', cp', l'⟩ := b
  simp only at CN HS B2
  by_cases c0 : h = h'
  · subst c0
    by_cases c1 : t = t'
    · subst c1
      have HE : Hid (sameV ⟨h, t, ao, cp, l⟩ ⟨h, t, ao', cp', l'⟩ = (l == l')) := hide (by rw [unhide HS]; simp)
      rw [unhide HE]
      generalize (l == l') = o at *
      clear HS HE
      go_enter Try.func13, Try.ntmps13
      rw [VerdV.val, VerdV.val]
      simp only
      go_wp2_with fail
      refine (unhide CN _ (unhide B2)).mono ?_
      rintro e w1 ⟨rfl, bel⟩
      have B3 := hide (below_on (unhide B2) bel)
      clear bel
      go_wp2
      go_ret
      exact ⟨rfl, unhide B3⟩
    · have HE : Hid (sameV ⟨h, t, ao, cp, l⟩ ⟨h, t', ao', cp', l'⟩ = false) := hide (by rw [unhide HS]; simp [c1])
      rw [unhide HE]
      clear HS HE CN
      go_enter Try.func13, Try.ntmps13
      rw [VerdV.val, VerdV.val]
      simp only
      go_wp2
      go_ret
      exact ⟨rfl, unhide B2⟩
  · have HE : Hid (sameV ⟨h, t, ao, cp, l⟩ ⟨h', t', ao', cp', l'⟩ = false) := hide (by rw [unhide HS]; simp [c0])
    rw [unhide HE]
    clear HS HE CN
    go_enter Try.func13, Try.ntmps13
    rw [VerdV.val, VerdV.val]
    simp only
    go_wp2
    go_ret
    exact ⟨rfl, unhide B2⟩
end Go.Proofs.Ytcenibledkabpaa.Lex
