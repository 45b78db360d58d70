/- A set's text is read as that set: whole texts. -/
import Derived.Test.YtndhjfpjhpnbaaaParsePure2
namespace Go.Proofs.Ytndhjfpjhpnbaaa.Lex
set_option maxRecDepth 100000
open Go

theorem range_alike {p q : Nat → Bool} {n : Nat} (h : ∀ j, j < n → p j = q j) : (List.range n).all p = (List.range n).all q := by
  rw [Bool.eq_iff_iff]
  simp only [List.all_eq_true, List.mem_range]
  exact ⟨fun hp j hj => by rw [← h j hj]; exact hp j hj, fun hq j hj => by rw [h j hj]; exact hq j hj⟩
theorem bare_getD (ts : List TaskV) (j : Nat) : (ts.map bareT).getD j task0 = bareT (ts.getD j task0) := by
  simp only [List.getD_eq_getElem?_getD, List.getElem?_map]
  cases ts[j]? <;> rfl
theorem bare_okAt (ts : List TaskV) (j : Nat) : okAt (ts.map bareT) j = okAt ts j := by
  rw [okAt, okAt, bare_getD]
  have : ∀ k, (ts.map bareT).getD k task0 = bareT (ts.getD k task0) := bare_getD ts
  simp only [this]
  rfl
theorem bare_all (rl : Int) (ao : Option Addr) (cap : Nat) (ts : List TaskV) : allB ⟨rl, none, 0, ts.map bareT⟩ = allB ⟨rl, ao, cap, ts⟩ := by
  rw [allB, allB]
  simp only [List.length_map]
  rw [range_alike (p := okAt (ts.map bareT)) (q := okAt ts) (fun j _ => bare_okAt ts j)]
theorem odd_none {ts : List TaskV} (h : (List.range ts.length).all (okAt ts) = true) : oddOf ts = none := by
  rw [oddOf, List.find?_eq_none]
  intro j hj
  have := List.all_eq_true.1 h j hj
  simp [this]
theorem task_pieces {t : TaskV} {p : Int} (h : Fits t p) : ∀ q ∈ taskQ t, q.ok := by
  obtain ⟨hn, -, -, hre, ⟨hD, hDT, hT⟩, hm⟩ := fits_parts h.is
  obtain ⟨-, l1, l2, l3, l4, l5, l6, l7, l8, l9⟩ := lexes_all
  intro q hq
  rw [taskQ] at hq
  simp only [List.mem_cons, List.mem_append, List.not_mem_nil, or_false] at hq
  rcases hq with rfl | rfl | rfl | rfl | rfl | rfl | hq | rfl | hq | hq | hq | rfl
  · exact ⟨l1, .inr (.inl rfl)⟩
  · exact ⟨lexes_name hn, .inl rfl⟩
  · exact ⟨l2, .inl rfl⟩
  · exact np_ok (by omega)
  · exact ⟨l3, .inl rfl⟩
  · exact np_ok (by omega)
  · rw [modeQ] at hq
    simp only [modeB] at hm
    split at hq
    · have e : q = wp wFixed := by simpa using hq
      rw [e]; exact ⟨l4, .inl rfl⟩
    · rename_i e0
      rw [if_neg e0] at hm
      split at hq
      · rename_i e1
        rw [if_pos e1] at hm
        simp only [inB, Bool.and_eq_true, decide_eq_true_eq] at hm
        simp only [List.mem_cons, List.not_mem_nil, or_false] at hq
        rcases hq with rfl | rfl
        · exact ⟨l5, .inl rfl⟩
        · exact np_ok (by omega)
      · rename_i e1
        rw [if_neg e1] at hm
        split at hm
        · simp only [Bool.and_eq_true, decide_eq_true_eq] at hm
          simp only [List.mem_cons, List.not_mem_nil, or_false] at hq
          rcases hq with rfl | rfl
          · exact ⟨l6, .inl rfl⟩
          · exact np_ok (Nat.lt_of_le_of_lt (Int.toNat_le_toNat hm.2) h.low)
        · cases hm
  · exact ⟨l7, .inl rfl⟩
  · refine row_ok (fun n hn => ?_) q hq
    obtain ⟨m, hm', rfl⟩ := List.mem_map.1 hn
    have := hre m hm'; omega
  · exact sets_ok l8 _ q hq
  · exact sets_ok l9 _ q hq
  · exact semi_ok
theorem all_fits {s : SetV} (hall : allB s = true) (hu : ∀ t ∈ s.ts, U64 t.ecb ∧ U64 t.ucb) : (0 ≤ s.reload ∧ s.reload ≤ 10000) ∧ s.ts.length ≤ 8 ∧ (List.range s.ts.length).all (okAt s.ts) = true ∧ ∀ j, j < s.ts.length → Fits (s.ts.getD j task0) (j : Int) := by
  simp only [allB, Bool.and_eq_true, decide_eq_true_eq] at hall
  obtain ⟨h0, -, h8, hr⟩ := hall
  refine ⟨by simpa [inB] using h0, h8, hr, fun j hj => ?_⟩
  have h1 := List.all_eq_true.1 hr j (List.mem_range.2 hj)
  simp only [okAt, Bool.and_eq_true] at h1
  have hmem : s.ts.getD j task0 ∈ s.ts := by rw [List.getD_eq_getElem?_getD, List.getElem?_eq_getElem hj]; exact List.getElem_mem _
  exact ⟨h1.1, (hu _ hmem).1, (hu _ hmem).2, by omega⟩
theorem text_toks {s : SetV} (hall : allB s = true) (hu : ∀ t ∈ s.ts, U64 t.ecb ∧ U64 t.ucb) : ∃ L, toksA false 0 (textS s) = .ok L ∧ ∀ n : Int, ∃ r, setP (L ++ [⟨4, [], 0, n⟩]) = .ok (s.reload, r) ∧ r.map (·.1) = s.ts.map bareT := by
  obtain ⟨⟨hr0, hr1⟩, h8, hok, hfit⟩ := all_fits hall hu
  have hp : ∀ p ∈ np s.reload.toNat :: semiP :: s.ts.flatMap taskQ, p.ok := fun p hp => by
    rcases List.mem_cons.1 hp with rfl | hp
    · exact np_ok (by omega)
    · rcases List.mem_cons.1 hp with rfl | hp
      · exact semi_ok
      · obtain ⟨t, ht, hq⟩ := List.mem_flatMap.1 hp
        obtain ⟨j, hj, rfl⟩ := List.getElem_of_mem ht
        have := hfit j hj
        rw [List.getD_eq_getElem?_getD, List.getElem?_eq_getElem hj] at this
        exact task_pieces this p hq
  obtain ⟨L, hL, hb⟩ := toks_flat _ wReload.length hp
  obtain ⟨u, hu1, hub⟩ := lex_step lexes_all.1 0 (stop_flat _ hp) (by rw [Nat.zero_add]; exact hL)
  rw [← text_flat] at hu1
  refine ⟨u :: L, hu1, fun m => ?_⟩
  have h : ((u :: L) ++ [⟨4, [], 0, m⟩] : List Tok).map bare = ⟨3, wReload, 0⟩ :: ⟨2, [], (s.reload.toNat : Nat)⟩ :: ⟨3, wSemi, 0⟩ :: ((s.ts.flatMap taskQ).map (·.tok) ++ [⟨4, [], 0⟩]) := by
    rw [List.map_append, List.map_cons, hb, hub]
    rfl
  obtain ⟨L1, e1, h⟩ := word_ok (w := wReload) h
  obtain ⟨n, L2, e2, -, hn, h⟩ := tok_ok (k := 2) h
  obtain ⟨L3, e3, h⟩ := word_ok (w := wSemi) h
  have hfl : s.ts.length ≤ L3.length := by
    have h1 := congrArg List.length h
    simp only [List.length_map, List.length_append, List.length_singleton] at h1
    have h2 : ∀ ts : List TaskV, ts.length ≤ (ts.flatMap taskQ).length := fun ts => by
      induction ts with
      | nil => simp
      | cons t r ih =>
        rw [List.flatMap_cons, List.length_append, List.length_cons]
        have : 1 ≤ (taskQ t).length := by simp [taskQ]
        omega
    have := h2 s.ts
    omega
  obtain ⟨r, e4, hr⟩ := tasks_read s.ts ((List.range s.ts.length).map fun j : Nat => (j : Int)) L3.length (by simp) (fun j hj => by
    have := hfit j hj
    simpa [List.getD, hj] using this) hfl h
  refine ⟨r, ?_, hr⟩
  rw [setP, thenE_ok _ e1, thenE_ok _ e2, thenE_ok _ e3, thenE_ok _ e4, hn, show ((s.reload.toNat : Nat) : Int) = s.reload by omega]
theorem parse_text {s : SetV} (hall : allB s = true) (hu : ∀ t ∈ s.ts, U64 t.ecb ∧ U64 t.ucb) (hlen : (textS s).length ≤ 4000) : parseS (textS s) = ⟨bareS s, (textS s).length, 0⟩ := by
  obtain ⟨-, h8, hok, -⟩ := all_fits hall hu
  obtain ⟨L, hL, hset⟩ := text_toks hall hu
  obtain ⟨r, hset, hr⟩ := hset (textS s).length
  have ht : tokens (textS s) = ⟨L ++ [⟨4, [], 0, (textS s).length⟩], (textS s).length, 0⟩ := by rw [tokens, if_neg (by omega), hL]
  rw [parseS, ht]
  simp only [if_true]
  rw [hset]
  simp only
  rw [judged, hr, odd_none (by
    rw [List.length_map, range_alike (p := okAt (s.ts.map bareT)) (q := okAt s.ts) (fun j _ => bare_okAt s.ts j)]; exact hok)]
  simp only
  rw [bare_all s.reload s.ao s.cap s.ts, if_pos (show allB ⟨s.reload, s.ao, s.cap, s.ts⟩ = true from hall)]
  rfl
theorem parse_long {l : List UInt8} (h : 4000 < l.length) : parseS l = ⟨empty0, 0, 3⟩ := by
  have : tokens l = ⟨[], 0, 3⟩ := by rw [tokens, if_pos h]
  rw [parseS, this]; rfl
/- two sets have one text just if they are one -/
theorem text_one {a b : SetV} (ha : allB a = true) (hb : allB b = true) (hua : ∀ t ∈ a.ts, U64 t.ecb ∧ U64 t.ucb) (hub : ∀ t ∈ b.ts, U64 t.ecb ∧ U64 t.ucb) (h : textS a = textS b) : a.reload = b.reload ∧ a.ts.map bareT = b.ts.map bareT := by
  obtain ⟨L, hL, hA⟩ := text_toks ha hua
  obtain ⟨M, hM, hB⟩ := text_toks hb hub
  rw [h, hM] at hL
  cases hL
  obtain ⟨r, e1, hr⟩ := hA 0
  obtain ⟨q, e2, hq⟩ := hB 0
  rw [e1] at e2
  have e3 := Except.ok.inj e2
  exact ⟨congrArg Prod.fst e3, by rw [← hr, ← hq, show r = q from congrArg Prod.snd e3]⟩
theorem text_bare {a b : SetV} (hr : a.reload = b.reload) (h : a.ts.map bareT = b.ts.map bareT) : textS a = textS b := by
  have key : ∀ ts : List TaskV, (ts.flatMap fun t => taskT t ++ [10]) = (ts.map bareT).flatMap fun t => taskT t ++ [10] := fun ts => by
    rw [List.flatMap_map]
    rfl
  rw [textS, textS, hr, key a.ts, key b.ts, h]
end Go.Proofs.Ytndhjfpjhpnbaaa.Lex
