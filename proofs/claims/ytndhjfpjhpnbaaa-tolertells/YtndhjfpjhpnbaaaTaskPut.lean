/- What Put of the reference of chapter 5 answers: a set whose tasks are new memory. -/
import Derived.Test.YtndhjfpjhpnbaaaTaskKnown
import Derived.Laws.OwnMore
import Derived.Laws.AppendOwnNone
import Derived.Deep.Onto
namespace Go.Proofs.Ytndhjfpjhpnbaaa.Lex
set_option maxRecDepth 100000
open Go.ChangeShapes Go.WideShapes Go.RowKit

def intV (n : Int) : Value := .int .i64 n
/- a task whose regions are a row of the call's own -/
def OwnTask (w : World) (B : Nat) (t : TaskV) : Prop := w.ownsRow B 2 1 (.slice t.ao t.regs.length t.cap) t.regs.length (t.regs.map intV)
def rowB (t : TaskV) : Option Nat := (Value.slice t.ao t.regs.length t.cap).ownBlock
/- their regions lie in blocks of their own -/
def Apart (t u : TaskV) : Prop := ∀ g, rowB t = some g → rowB u ≠ some g
theorem apart_symm {t u : TaskV} (h : Apart t u) : Apart u t := fun g e k => h g k e
def Copied (t t' : TaskV) : Prop := ∃ ao cap, t' = { t with ao := ao, cap := cap }
theorem grown_set (w : World) (p : Addr) (u : Value) : w.grownBy (w.setCell p u) (some p.block) :=
  ⟨rfl, rfl, rfl, by simp, fun k _ hk => heap_setCell_other w p k u (fun e => hk (by rw [e]))⟩
theorem own_apart {w : World} {B B' : Nat} {e e' : TypeId} {s s' : Nat} {v v' : Value} {n n' : Nat} {xs xs' : List Value} (hne : e ≠ e') (h : w.ownsRow B e s v n xs) (h' : w.ownsRow B' e' s' v' n' xs') : v.ownBlock = none ∨ v.ownBlock ≠ v'.ownBlock := by
  rcases h.2 with ⟨rfl, _⟩ | ⟨g, cap, cur, rfl, hb, hg, _⟩
  · exact .inl rfl
  · rcases h'.2 with ⟨rfl, _⟩ | ⟨g', cap', cur', rfl, hb', hg', _⟩
    · exact .inr (by simp [Value.ownBlock])
    · refine .inr (fun e => ?_)
      have : g = g' := by simpa [Value.ownBlock] using e
      subst this
      rw [hg] at hg'
      cases hg'
      exact hne rfl
theorem own_off {w w' : World} {B : Nat} {e : TypeId} {s : Nat} {v : Value} {n : Nat} {xs : List Value} {row : Nat} (h : w.ownsRow B e s v n xs) (hg : w.grownBy w' (some row)) (hr : row < B ∨ w.heap.size ≤ row) : w'.ownsRow B e s v n xs :=
  h.kept hg (by
    cases hv : v.ownBlock with
    | none => exact .inl rfl
    | some k =>
      have := h.lt k hv
      exact .inr (fun e => by have : k = row := by simpa using e
                              omega))
theorem regs_own {w : World} {B : Nat} {t : TaskV} (h : OwnTask w B t) : RegsIn w t.ao t.regs := fun hne => by
  have h' := h
  rcases h.2 with ⟨e, h0⟩ | ⟨g, cap, cur, e, -⟩
  · exact absurd (List.eq_nil_of_length_eq_zero h0) hne
  · have e1 : t.ao = some ⟨g, 0, none⟩ := by simpa using (Value.slice.inj e).1
    have e2 : t.cap = cap := (Value.slice.inj e).2.2
    refine ⟨g, 0, e1, fun j hj => ?_⟩
    rw [OwnTask, e1] at h'
    rw [Nat.zero_add, h'.cellAt j (by omega)]
    simp [intV, List.getD, hj]
theorem block_set {w : World} {g j : Nat} {cs : Array Value} {ty : TypeId} {u : Value} (h : w.heap[g]? = some (.cells cs ty (0, 0))) : (w.setCell ⟨g, j, none⟩ u).heap[g]? = some (.cells (cs.setIfInBounds j u) ty (0, 0)) := heap_setCell_same w g j cs ty u h
theorem block_off {w w' : World} {g row : Nat} {o : Obj} (h : w.heap[g]? = some o) (hg : w.grownBy w' (some row)) (hne : g ≠ row) : w'.heap[g]? = some o := by
  rw [hg.block g (by
    rcases Nat.lt_or_ge g w.heap.size with l | l
    · exact l
    · rw [Array.getElem?_eq_none l] at h; cases h) (fun e => hne (by simpa using e))]
  exact h
theorem block_own {w w' : World} {g : Nat} {row : Option Nat} {o : Obj} (h : w.heap[g]? = some o) (hg : w.grownBy w' row) (hne : ∀ k, row = some k → g ≠ k) : w'.heap[g]? = some o := by
  rw [hg.block g (by
    rcases Nat.lt_or_ge g w.heap.size with l | l
    · exact l
    · rw [Array.getElem?_eq_none l] at h; cases h) (fun e => hne g e.symm rfl)]
  exact h
theorem block_alloc {w : World} {g : Nat} {o p : Obj} (h : w.heap[g]? = some o) : (w.alloc p).heap[g]? = some o := by
  have hlt : g < w.heap.size := by
    rcases Nat.lt_or_ge g w.heap.size with l | l
    · exact l
    · rw [Array.getElem?_eq_none l] at h; cases h
  show (w.heap.push p)[g]? = _
  rw [Array.getElem?_push, if_neg (Nat.ne_of_lt hlt)]; exact h
theorem cell_block {w : World} {g j : Nat} {cs : Array Value} {ty : TypeId} {fr : Nat × Nat} (h : w.heap[g]? = some (.cells cs ty fr)) : w.cell? ⟨g, j, none⟩ = cs[j]? := by simp [World.cell?, h]
theorem frozen_block {w : World} {g j : Nat} {cs : Array Value} {ty : TypeId} (h : w.heap[g]? = some (.cells cs ty (0, 0))) : w.frozen? ⟨g, j, none⟩ = false := by simp [World.frozen?, h]

theorem Try.info_i64 : (Try.prog.info? 2).map (fun i => (i.zero, i.size, i.bytes)) = some (some (.int .i64 0), 1, 8) := by kernel_rfl
theorem Try.info_task : (Try.prog.info? 38).map (fun i => (i.zero, i.size, i.bytes)) = some (some (.agg #[.string ⟨#[]⟩, .int .i64 0, .int .i64 0, .int .i64 0, .int .i64 0, .int .i64 0, .slice none 0 0, .int .u64 0, .int .u64 0]), 9, 96) := by kernel_rfl

/- what holds ahead of each round -/
structure PutInv (w : World) (s : SetV) (k : Nat) (L : List TaskV) (v : Value) (wr : World) : Prop where
  len : L.length = k
  copy : ∀ j, j < k → Copied (s.ts.getD j task0) (L.getD j task0)
  row : wr.ownsRow (w.heap.size + 3) 38 9 v k (L.flatMap TaskV.cells)
  each : ∀ t ∈ L, OwnTask wr (w.heap.size + 3) t
  box : wr.heap[w.heap.size]? = some (.cells #[.int .i64 s.reload, .slice s.ao s.ts.length s.cap] 24 (0, 0))
  res : wr.heap[w.heap.size + 1]? = some (.cells #[.int .i64 0, .slice none 0 0] 24 (0, 0))
  out : wr.heap[w.heap.size + 1 + 1]? = some (.cells #[.int .i64 s.reload, v] 24 (0, 0))
  size : w.heap.size + 3 ≤ wr.heap.size
  below : Below w.heap.size w wr
  apart : ∀ i j, i < j → j < k → Apart (L.getD i task0) (L.getD j task0)
theorem own_raise {w : World} {a b : Nat} {e : TypeId} {size n : Nat} {v : Value} {xs : List Value} (h : w.ownsRow b e size v n xs) (hab : a ≤ b) : w.ownsRow a e size v n xs :=
  ⟨h.1, h.2.imp id fun ⟨g, cap, cur, e, hg, r⟩ => ⟨g, cap, cur, e, Nat.le_trans hab hg, r⟩⟩
theorem own_belG {w w1 : World} {B : Nat} {e : TypeId} {size : Nat} {v : Value} {n : Nat} {xs : List Value} (h : w.ownsRow B e size v n xs) (hb : Below w.heap.size w w1) : w1.ownsRow B e size v n xs :=
  ⟨h.1, h.2.imp id fun ⟨g, cap, cur, e, hg, hc, r⟩ => ⟨g, cap, cur, e, hg, by
    have hlt : g < w.heap.size := by
      rcases Nat.lt_or_ge g w.heap.size with l | l
      · exact l
      · rw [Array.getElem?_eq_none l] at hc; cases hc
    rw [hb.block g hlt]; exact hc, r⟩⟩
theorem own_not {w : World} {B g : Nat} {e e' : TypeId} {size : Nat} {v : Value} {n : Nat} {xs : List Value} {cs : Array Value} {fr : Nat × Nat} (hne : e ≠ e') (h : w.ownsRow B e size v n xs) (hg : w.heap[g]? = some (.cells cs e' fr)) : v.ownBlock = none ∨ v.ownBlock ≠ some g := by
  rcases h.2 with ⟨rfl, _⟩ | ⟨g', cap, cur, rfl, hb, hg', _⟩
  · exact .inl rfl
  · refine .inr (fun e => ?_)
    have : g' = g := by simpa [Value.ownBlock] using e
    subst this
    rw [hg'] at hg
    cases hg
    exact hne rfl
theorem flat_snoc (L : List TaskV) (t : TaskV) : (L ++ [t]).flatMap TaskV.cells = L.flatMap TaskV.cells ++ t.cells := by simp
theorem getD_snoc (L : List TaskV) (t : TaskV) : (L ++ [t]).getD L.length task0 = t := by simp [List.getD]
theorem getD_left (L : List TaskV) (t : TaskV) {j : Nat} (h : j < L.length) : (L ++ [t]).getD j task0 = L.getD j task0 := by simp [List.getD, List.getElem?_append_left h]
theorem put_next {w wr w3 w6 : World} {s : SetV} {k : Nat} {L : List TaskV} {v v2 V1 : Value} {o : Obj} {cs : Array Value} (inv : PutInv w s k L v wr) (t' : TaskV) (hcopy : Copied (s.ts.getD k task0) t') (BW : Below wr.heap.size wr w3)
    (own3' : OwnTask w3 (wr.heap.size + 1) t') (hM : w3.heap[wr.heap.size]? = some (.cells cs 38 (0, 0))) (hgrow : ((w3.setCell ⟨wr.heap.size, 6, none⟩ V1).alloc o).grownBy w6 v.ownBlock)
    (own6 : w6.ownsRow (w.heap.size + 3) 38 9 v2 (k + 1) (L.flatMap TaskV.cells ++ t'.cells)) (hO6 : w6.heap[w.heap.size + 1 + 1]? = some (.cells #[.int .i64 s.reload, v] 24 (0, 0))) :
    PutInv w s (k + 1) (L ++ [t']) v2 (w6.setCell ⟨w.heap.size + 1 + 1, 1, none⟩ v2) := by
  have hsz := inv.size
  have own3 : OwnTask w3 (w.heap.size + 3) t' := own_raise own3' (by omega)
  have hB5 : Below wr.heap.size wr ((w3.setCell ⟨wr.heap.size, 6, none⟩ V1).alloc o) := (BW.setCell (Nat.le_refl _) _).alloc (by simpa using BW.size) _
  have hs5 := hB5.size
  have hs6 := hgrow.size
  have row5 := own_belG inv.row hB5
  have hvo : ∀ q, v.ownBlock = some q → w.heap.size + 3 ≤ q := fun q e => (inv.row.lt q e).1
  have keep : ∀ {v1 : Value} {n : Nat} {xs : List Value}, ((w3.setCell ⟨wr.heap.size, 6, none⟩ V1).alloc o).ownsRow (w.heap.size + 3) 2 1 v1 n xs → (w6.setCell ⟨w.heap.size + 1 + 1, 1, none⟩ v2).ownsRow (w.heap.size + 3) 2 1 v1 n xs := fun h =>
    own_off (h.kept hgrow (own_apart (by decide) h row5)) (grown_set w6 ⟨w.heap.size + 1 + 1, 1, none⟩ v2) (.inl (by show w.heap.size + 1 + 1 < _; omega))
  have blk : ∀ {g : Nat} {ob : Obj}, wr.heap[g]? = some ob → g < w.heap.size + 1 + 1 → (w6.setCell ⟨w.heap.size + 1 + 1, 1, none⟩ v2).heap[g]? = some ob := fun {g ob} h hg => by
    have h5 : ((w3.setCell ⟨wr.heap.size, 6, none⟩ V1).alloc o).heap[g]? = some ob := by rw [hB5.block g (by omega)]; exact h
    exact block_off (block_own h5 hgrow (fun q e => by have := hvo q e; omega)) (grown_set w6 ⟨w.heap.size + 1 + 1, 1, none⟩ v2) (by show g ≠ w.heap.size + 1 + 1; omega)
  refine ⟨by simp [inv.len], fun j hj => ?_, ?_, fun t ht => ?_, blk inv.box (by omega), blk inv.res (by omega), ?_, ?_, ?_, ?_⟩
  · by_cases e : j = k
    · subst e
      have := getD_snoc L t'
      rw [inv.len] at this
      rw [this]; exact hcopy
    · rw [getD_left L t' (by rw [inv.len]; omega)]; exact inv.copy j (by omega)
  · rw [flat_snoc]
    exact own_off own6 (grown_set w6 ⟨w.heap.size + 1 + 1, 1, none⟩ v2) (.inl (by show w.heap.size + 1 + 1 < _; omega))
  · rcases List.mem_append.1 ht with h | h
    · exact keep (own_belG (inv.each t h) hB5)
    · have : t = t' := by simpa using h
      subst this
      exact keep ((own3.kept (grown_set w3 ⟨wr.heap.size, 6, none⟩ V1) (own_not (by decide) own3 hM)).alloc o)
  · have := block_set (j := 1) (u := v2) hO6
    simpa using this
  · simp at hs5 hs6 ⊢; omega
  · refine Below.setCell ((inv.below.trans (hB5.mono inv.below.size)).grown hgrow (by have := inv.below.size; omega) (fun q e => by have := hvo q e; omega)) ?_ _
    show w.heap.size ≤ w.heap.size + 1 + 1
    omega
  · intro i j hij hj
    by_cases e : j = k
    · subst e
      have e1 := getD_snoc L t'
      rw [inv.len] at e1
      rw [e1, getD_left L t' (by rw [inv.len]; omega)]
      intro g hg hg'
      have hi : i < L.length := by rw [inv.len]; omega
      have m : L.getD i task0 ∈ L := by rw [List.getD_eq_getElem?_getD, List.getElem?_eq_getElem hi]; exact List.getElem_mem _
      have a1 := ((inv.each _ m).lt g hg).2
      have a2 := (own3'.lt g hg').1
      omega
    · rw [getD_left L t' (by rw [inv.len]; omega), getD_left L t' (by rw [inv.len]; omega)]
      exact inv.apart i j hij (by omega)
/- 'append(row, xs...)', xs nil or not -/
theorem append_any {P : Program} {w : World} {ops : Array Oper} {rest : List Oper} {o : Oper} {a : Act} {Q : Exit → Act → World → Prop} (hgd : o.guard = none) (s x : Operand) (t : TypeId)
    (ho : o.op = .call { callee := .builtin .append, args := #[s, x], argTypes := #[t, t] })
    (base : Nat) (e : TypeId) (i : TypeInfo) (z : Value) (size bytes : Nat) (ht : P.underlying t = some (.slice e)) (hi : P.info? e = some i) (hz : i.zero = some z)
    (hsize : i.size = size) (hby : i.bytes = bytes) (hzs : z.cells.size = size) (hsz : 0 < size)
    (v : Value) (n : Nat) (xs : List Value) (hs : a.eval s = v) (hown : w.ownsRow base e size v n xs) (hv : v ≠ .slice none 0 0)
    (ao : Option Addr) (m c : Nat) (news : List Value) (hx : a.eval x = .slice ao m c) (hnil : ao = none → m = 0 ∧ c = 0) (hl : news.length = m * size) (hnews : ∀ ad, ao = some ad → ∀ j u, news[j]? = some u → w.cell? (ad.add j) = some u) (h1 : ∀ u ∈ news, u.oneCell' = true)
    (h63 : n + m ≤ maxLen) (hbytes : (n + m) * bytes ≤ 140737488355328) (hbase : base ≤ w.heap.size)
    (h : ∀ v' w', w'.ownsRow base e size v' (n + m) (xs ++ news) → w.grownBy w' v.ownBlock → v' ≠ .slice none 0 0 → wpList P ops Q rest (a.put o.dst v') w') : wpList P ops Q (o :: rest) a w := by
  cases ao with
  | none =>
    obtain ⟨rfl, rfl⟩ := hnil rfl
    have : news = [] := List.eq_nil_of_length_eq_zero (by rw [hl]; simp)
    subst this
    exact wpList_append_own_none hgd s x t ho base e i size ht hi v n xs hs hown hx (h v w (by simpa using hown) ⟨rfl, rfl, rfl, Nat.le_refl _, fun _ _ _ => rfl⟩ hv)
  | some ad =>
    exact wpList_append_own w hgd s x t ho base e i z size bytes ht hi hz hsize hby hzs hsz v n xs hs hown ad m c news hx hl (hnews ad rfl) h1 h63 hbytes hbase fun v' w' h2 h3 h4 => h v' w' h2 h3 (fun e => hv (h4.1 e).1)
theorem fresh_task (w : World) (t : TaskV) (ty : TypeId) {n : Nat} (hn : w.heap.size = n) : ∀ j u, t.cells[j]? = some u → (w.alloc (.cells #[.string t.name, .int .i64 t.T, .int .i64 t.D, .int .i64 t.mode, .int .i64 t.Q, .int .i64 t.theta, .slice t.ao t.regs.length t.cap, .int .u64 t.ecb, .int .u64 t.ucb] ty)).cell? ((⟨n, 0, none⟩ : Addr).add j) = some u := by
  subst hn
  intro j u hj
  have hlt : j < 9 := by
    rcases Nat.lt_or_ge j 9 with l | l
    · exact l
    · rw [List.getElem?_eq_none (by simpa [TaskV.cells] using l)] at hj; cases hj
  have : j = 0 ∨ j = 1 ∨ j = 2 ∨ j = 3 ∨ j = 4 ∨ j = 5 ∨ j = 6 ∨ j = 7 ∨ j = 8 := by omega
  rcases this with rfl | rfl | rfl | rfl | rfl | rfl | rfl | rfl | rfl <;> (simp [TaskV.cells] at hj; subst hj; simp [Addr.add])
theorem one_task (t : TaskV) : ∀ u ∈ t.cells, u.oneCell' = true := by
  intro u hu
  simp [TaskV.cells] at hu
  rcases hu with rfl | rfl | rfl | rfl | rfl | rfl | rfl | rfl | rfl <;> rfl
theorem one_ints (l : List Int) : ∀ u ∈ l.map intV, u.oneCell' = true := by
  intro u hu
  obtain ⟨n, -, rfl⟩ := List.mem_map.1 hu
  rfl
theorem regs_news {w w' : World} {ao : Option Addr} {l : List Int} (h : RegsIn w ao l) (hc : ∀ (a : Addr) (u : Value), w.cell? a = some u → w'.cell? a = some u) : ∀ ad, ao = some ad → ∀ j u, (l.map intV)[j]? = some u → w'.cell? (ad.add j) = some u := fun ad e j u hj => by
  have hlt : j < l.length := by
    rcases Nat.lt_or_ge j l.length with x | x
    · exact x
    · rw [List.getElem?_eq_none (by simpa using x)] at hj; cases hj
  obtain ⟨b, off, e', hcell⟩ := h (fun e => by rw [e] at hlt; simp at hlt)
  rw [e] at e'
  cases e'
  rw [add_plain]
  refine hc _ _ ((hcell j hlt).trans ?_)
  rw [← hj]
  simp [intV, List.getD, hlt]
theorem slice_form {w : World} {B : Nat} {e : TypeId} {size n : Nat} {v : Value} {xs : List Value} (h : w.ownsRow B e size v n xs) (hv : v ≠ .slice none 0 0) : ∃ g cap, v = .slice (some ⟨g, 0, none⟩) n cap := by
  rcases h.2 with ⟨e, -⟩ | ⟨g, cap, cur, e, -⟩
  · exact absurd e hv
  · exact ⟨g, cap, e⟩
set_option maxHeartbeats 3200000 in
theorem rput_some (rl : Int) (b off cap : Nat) (ts : List TaskV) (w : World) (hs : SetIn w ⟨rl, some ⟨b, off, none⟩, cap, ts⟩) (hne : ts ≠ []) (h30 : ts.length ≤ 30) : Calls Try.prog 15 #[.agg #[.int .i64 rl, .slice (some ⟨b, off, none⟩) ts.length cap]] w fun e w' =>
    ∃ (L : List TaskV) (v : Value), e = .returned (.agg #[.int .i64 rl, v]) ∧ L.length = ts.length ∧ (∀ j, j < ts.length → Copied (ts.getD j task0) (L.getD j task0)) ∧ w'.ownsRow (w.heap.size + 3) 38 9 v ts.length (L.flatMap TaskV.cells) ∧ (∀ t ∈ L, OwnTask w' (w.heap.size + 3) t) ∧ Below w.heap.size w w' ∧ ∀ i j, i < j → j < ts.length → Apart (L.getD i task0) (L.getD j task0) := by
  obtain ⟨i8, hi8, iz8, is8, ib8⟩ := info_parts Try.info_i64
  obtain ⟨i9, hi9, iz9, is9, ib9⟩ := info_parts Try.info_task
  obtain ⟨b', off', e, ht⟩ := set_task hs hne
  cases e
  simp only at ht
  have HT := hide ht
  clear ht hs hne
  go_enter Try.func15, Try.ntmps15
  go_wp2
  go_loopw [4] (fun i wr => ∃ (k : Nat) (L : List TaskV) (v : Value), k ≤ ts.length ∧ i = .int .i64 k ∧ PutInv w ⟨rl, some ⟨b, off, none⟩, cap, ts⟩ k L v wr) (fun i _ => ts.length - (intOf i).toNat)
  case atStart => exact ⟨0, [], .slice none 0 0, Nat.zero_le _, rfl, ⟨rfl, fun j hj => absurd hj (by omega), World.ownsRow_nil _ _ _ _, fun t ht => by simp at ht, block_alloc (block_alloc (heap_alloc_new w _)), block_alloc (by simpa using heap_alloc_new (w.alloc _) _), by simpa using heap_alloc_new ((w.alloc _).alloc _) _, by simp, (((Below.refl _ w).alloc (Nat.le_refl _) _).alloc (by simp) _).alloc (by simp; omega) _, fun i j _ hj => absurd hj (by omega)⟩⟩
  case round =>
    obtain ⟨k, L, v, hk, rfl, inv⟩ := hrel
    have eb := cell_block (j := 1) inv.box
    have eo := cell_block (j := 1) inv.out
    by_cases hlt : k < ts.length
    · obtain ⟨t0, t1, t2, t3, t4, t5, t6, t7, t8⟩ := (unhide HT k hlt).1.bel inv.below
      have hin := task_bel (unhide HT k hlt).2 inv.below
      generalize htk : ts.getD k task0 = t at t0 t1 t2 t3 t4 t5 t6 t7 t8 hin
      obtain ⟨name, T, D, mode, Q, theta, ao, tcap, ecb, ucb, l⟩ := t
      simp only at t0 t1 t2 t3 t4 t5 t6 t7 t8
      have INV := hide inv
      have IN := hide hin
      have HTK := hide htk
      have hsz := inv.size
      clear inv hin htk
      have own0 : ((wr.alloc (.cells #[.string name, .int .i64 T, .int .i64 D, .int .i64 mode, .int .i64 Q, .int .i64 theta, .slice ao l.length tcap, .int .u64 ecb, .int .u64 ucb] 38)).alloc (.cells #[] 2)).ownsRow (wr.heap.size + 1) 2 1 (.slice (some ⟨wr.heap.size + 1, 0, none⟩) 0 0) 0 [] := by
        have := World.ownsRow_lit (base := wr.heap.size + 1) (e := 2) (size := 1) (wr.alloc (.cells #[.string name, .int .i64 T, .int .i64 D, .int .i64 mode, .int .i64 Q, .int .i64 theta, .slice ao l.length tcap, .int .u64 ecb, .int .u64 ucb] 38)) #[] 0 (by simp) (by decide) rfl
        simpa using this
      have news := regs_news (w' := (wr.alloc (.cells #[.string name, .int .i64 T, .int .i64 D, .int .i64 mode, .int .i64 Q, .int .i64 theta, .slice ao l.length tcap, .int .u64 ecb, .int .u64 ucb] 38)).alloc (.cells #[] 2)) (unhide IN).regs (fun a u h => cell_bel' h (((Below.refl _ wr).alloc (Nat.le_refl _) _).alloc (by simp) _))
      have hnil := (unhide IN).nil
      have hln := (unhide IN).len
      simp only at news hnil hln
      have hnil' : ao = none → l.length = 0 ∧ tcap = 0 := fun e => ⟨by rw [(hnil e).1]; rfl, (hnil e).2⟩
      have OWN0 := hide own0
      have NEWS := hide news
      have HNIL := hide hnil'
      clear own0 news hnil hnil'
      go_wp2_with (at_builtin; refine append_any rfl _ _ 26 rfl (wr.heap.size + 1) 2 i8 (.int .i64 0) 1 8 (by kernel_rfl) hi8 iz8 is8 ib8 rfl (by decide) (.slice (some ⟨wr.heap.size + 1, 0, none⟩) 0 0) 0 [] rfl (unhide OWN0) (by simp) ao l.length tcap (l.map intV) rfl (unhide HNIL) (by simp) (unhide NEWS) (one_ints l) (by unfold maxLen; omega) (by omega) (by simp) ?_)
      intro v1 w3 hown3 hgrow3 hv1
      obtain ⟨g1, c1, rfl⟩ := slice_form hown3 hv1
      have hrow : ∀ k, (Value.slice (some ⟨wr.heap.size + 1, 0, none⟩) 0 0).ownBlock = some k → k = wr.heap.size + 1 := fun k e => by
        have : wr.heap.size + 1 = k := by simpa [Value.ownBlock] using e
        exact this.symm
      have hM : w3.heap[wr.heap.size]? = _ := block_own (block_alloc (heap_alloc_new wr _)) hgrow3 (fun k e => by have := hrow k e; omega)
      have hO : w3.heap[w.heap.size + 1 + 1]? = _ := block_own (block_alloc (block_alloc (unhide INV).out)) hgrow3 (fun k e => by have := hrow k e; omega)
      have BW : Below wr.heap.size wr w3 := (((Below.refl _ wr).alloc (Nat.le_refl _) _).alloc (by simp) _).grown hgrow3 (by simp; omega) (fun k e => by have := hrow k e; omega)
      have m0 := cell_block (j := 0) hM
      have m1 := cell_block (j := 1) hM
      have m2 := cell_block (j := 2) hM
      have m3 := cell_block (j := 3) hM
      have m4 := cell_block (j := 4) hM
      have m5 := cell_block (j := 5) hM
      have m6 := cell_block (j := 6) hM
      have m7 := cell_block (j := 7) hM
      have m8 := cell_block (j := 8) hM
      have fM := frozen_block (j := 6) hM
      have o1 := cell_block (j := 1) hO
      have fO := frozen_block (j := 1) hO
      simp at m0 m1 m2 m3 m4 m5 m6 m7 m8 o1
      have hsz3 := BW.size
      have hneM : wr.heap.size ≠ w.heap.size + 1 + 1 := by omega
      have OWN3 := hide hown3
      have HM := hide hM
      have HO := hide hO
      have HBW := hide BW
      clear hown3 hgrow3 hv1 hM hO BW t0 t1 t2 t3 t4 t5 t6 t7 t8 eb eo OWN0 NEWS HNIL
      have B4 := hide (((unhide HBW).setCell (p := ⟨wr.heap.size, 6, none⟩) (Nat.le_refl _) (.slice (some ⟨g1, 0, none⟩) l.length c1)).alloc (by simpa using hsz3) (.cells #[.string name, .int .i64 T, .int .i64 D, .int .i64 mode, .int .i64 Q, .int .i64 theta, .slice (some ⟨g1, 0, none⟩) l.length c1, .int .u64 ecb, .int .u64 ucb] 38))
      have hown5 := own_belG (unhide INV).row (unhide B4)
      have hlk := (unhide INV).len
      have FRESH := hide (fresh_task (w3.setCell ⟨wr.heap.size, 6, none⟩ (.slice (some ⟨g1, 0, none⟩) l.length c1)) ⟨name, T, D, mode, Q, theta, some ⟨g1, 0, none⟩, c1, ecb, ucb, l⟩ 38 (n := w3.heap.size) (by simp))
      have OWN5 := hide hown5
      clear hown5
      go_wp2_with (at_builtin; refine wpList_append_own _ rfl _ _ 22 rfl (w.heap.size + 3) 38 i9 (.agg #[.string ⟨#[]⟩, .int .i64 0, .int .i64 0, .int .i64 0, .int .i64 0, .int .i64 0, .slice none 0 0, .int .u64 0, .int .u64 0]) 9 96 (by kernel_rfl) hi9 iz9 is9 ib9 rfl (by decide) v k (L.flatMap TaskV.cells) rfl (unhide OWN5) ⟨w3.heap.size, 0, none⟩ 1 1 (TaskV.cells ⟨name, T, D, mode, Q, theta, some ⟨g1, 0, none⟩, c1, ecb, ucb, l⟩) rfl rfl (unhide FRESH) (one_task _) (by unfold maxLen; omega) (by omega) (by simp; omega) ?_)
      intro v2 w6 hown6 hgrow6 _
      obtain ⟨g2, c2, rfl⟩ : ∃ g2 c2, v2 = .slice (some ⟨g2, 0, none⟩) (k + 1) c2 := by
        rcases hown6.2 with ⟨-, h0⟩ | ⟨g2, c2, cur, e, -⟩
        · omega
        · exact ⟨g2, c2, e⟩
      have hvo : ∀ k, v.ownBlock = some k → w.heap.size + 3 ≤ k := fun q e => ((unhide INV).row.lt q e).1
      have hO6 : w6.heap[w.heap.size + 1 + 1]? = _ := block_own (block_alloc (block_off (unhide HO) (grown_set w3 ⟨wr.heap.size, 6, none⟩ _) (by simpa using hneM.symm))) hgrow6 (fun q e => by have := hvo q e; omega)
      have q1 := cell_block (j := 1) hO6
      have f6 := frozen_block (j := 1) hO6
      simp at q1
      have OWN6 := hide hown6
      have GROW6 := hide hgrow6
      have HO6 := hide hO6
      clear hown6 hgrow6 hO6 OWN5 FRESH m0 m1 m2 m3 m4 m5 m6 m7 m8 fM o1 fO
      go_wp2
      go_roundw
      case rel => exact ⟨k + 1, L ++ [⟨name, T, D, mode, Q, theta, some ⟨g1, 0, none⟩, c1, ecb, ucb, l⟩], _, by omega, by go_num, put_next (unhide INV) ⟨name, T, D, mode, Q, theta, some ⟨g1, 0, none⟩, c1, ecb, ucb, l⟩ (by show Copied (ts.getD k task0) _; rw [unhide HTK]; exact ⟨_, _, rfl⟩) (unhide HBW) (unhide OWN3) (unhide HM) (unhide GROW6) (unhide OWN6) (unhide HO6)⟩
      case measure => simp [intOf]; omega
    · have e : k = ts.length := by omega
      subst e
      have fres := frozen_block (j := 0) inv.res
      have fres1 := frozen_block (j := 1) inv.res
      have r0 := cell_block (j := 0) inv.res
      have r1 := cell_block (j := 1) inv.res
      have eo0 := cell_block (j := 0) inv.out
      simp at r0 r1 eo0
      obtain ⟨av, lv, cv, rfl⟩ : ∃ av lv cv, v = .slice av lv cv := by
        rcases inv.row.2 with ⟨e, -⟩ | ⟨g, cap, cur, e, -⟩
        · exact ⟨_, _, _, e⟩
        · exact ⟨_, _, _, e⟩
      have INV := hide inv
      clear inv
      go_wp2
      have keep : ∀ {e : TypeId} {sz : Nat} {v1 : Value} {n : Nat} {xs : List Value}, wr.ownsRow (w.heap.size + 3) e sz v1 n xs → ((wr.setCell ⟨w.heap.size + 1, 0, none⟩ (.int .i64 rl)).setCell ⟨w.heap.size + 1, 1, none⟩ (.slice av lv cv)).ownsRow (w.heap.size + 3) e sz v1 n xs := fun h =>
        own_off (own_off h (grown_set wr ⟨w.heap.size + 1, 0, none⟩ _) (.inl (by show w.heap.size + 1 < _; omega))) (grown_set _ ⟨w.heap.size + 1, 1, none⟩ _) (.inl (by show w.heap.size + 1 < _; omega))
      refine bodyPost_ret (v := .agg #[.int .i64 rl, .slice av lv cv]) ?_ rfl ⟨L, .slice av lv cv, rfl, (unhide INV).len, fun j hj => (unhide INV).copy j hj, keep (unhide INV).row, fun t ht => keep ((unhide INV).each t ht), ?_, (unhide INV).apart⟩
      · rw [results_cell1 rfl]; go_simp
      · exact ((unhide INV).below.setCell (p := ⟨w.heap.size + 1, 0, none⟩) (by show w.heap.size ≤ w.heap.size + 1; omega) _).setCell (p := ⟨w.heap.size + 1, 1, none⟩) (by show w.heap.size ≤ w.heap.size + 1; omega) _

/- a set that was put -/
structure PutOf (w w' : World) (s s' : SetV) : Prop where
  reload : s'.reload = s.reload
  len : s'.ts.length = s.ts.length
  copy : ∀ j, j < s.ts.length → Copied (s.ts.getD j task0) (s'.ts.getD j task0)
  row : w'.ownsRow (w.heap.size + 3) 38 9 (.slice s'.ao s'.ts.length s'.cap) s'.ts.length (s'.ts.flatMap TaskV.cells)
  each : ∀ t ∈ s'.ts, OwnTask w' (w.heap.size + 3) t
  below : Below w.heap.size w w'
  apart : ∀ i j, i < j → j < s.ts.length → Apart (s'.ts.getD i task0) (s'.ts.getD j task0)
theorem rput_nil (rl : Int) (ao : Option Addr) (cap : Nat) (w : World) : Calls Try.prog 15 #[.agg #[.int .i64 rl, .slice ao 0 cap]] w fun e w' =>
    e = .returned (.agg #[.int .i64 rl, .slice none 0 0]) ∧ Below w.heap.size w w' := by
  go_enter Try.func15, Try.ntmps15
  go_wp2
  refine wp_loop_rounds 1 ?_
  rw [rounds_succ]
  go_wp2
  refine bodyPost_ret (v := .agg #[.int .i64 rl, .slice none 0 0]) ?_ rfl ⟨rfl, ?_⟩
  · rw [results_cell1 rfl]; go_simp
  · (repeat' (first | exact Below.refl _ _ | refine Below.setCell ?_ (by simp <;> omega) _ | refine Below.alloc ?_ (by simp <;> omega) _))
theorem rput_any (s : SetV) (w : World) (hs : SetIn w s) (h30 : s.ts.length ≤ 30) : Calls Try.prog 15 #[s.val] w fun e w' => ∃ s', e = .returned s'.val ∧ PutOf w w' s s' := by
  obtain ⟨rl, ao, cap, ts⟩ := s
  by_cases hne : ts = []
  · subst hne
    refine (rput_nil rl ao cap w).mono ?_
    rintro e w' ⟨rfl, bel⟩
    exact ⟨⟨rl, none, 0, []⟩, rfl, ⟨rfl, rfl, fun j hj => absurd hj (by simp), World.ownsRow_nil _ _ _ _, fun t ht => by simp at ht, bel, fun i j _ hj => absurd hj (by simp)⟩⟩
  · obtain ⟨b, off, e, -⟩ := set_task hs hne
    simp only at e
    subst e
    refine (rput_some rl b off cap ts w hs hne h30).mono ?_
    rintro e w' ⟨L, v, rfl, hl, hc, hrow, heach, bel, hap⟩
    have hp : 0 < ts.length := List.length_pos_iff.2 hne
    obtain ⟨g, c, rfl⟩ : ∃ g c, v = .slice (some ⟨g, 0, none⟩) ts.length c := by
      rcases hrow.2 with ⟨-, h0⟩ | ⟨g, c, cur, e, -⟩
      · omega
      · exact ⟨g, c, e⟩
    rw [← hl] at hrow
    refine ⟨⟨rl, some ⟨g, 0, none⟩, c, L⟩, ?_, ⟨rfl, hl, hc, hrow, heach, bel, hap⟩⟩
    rw [SetV.val, hl]
theorem copied_in {w w' : World} {B : Nat} {t t' : TaskV} (h : TaskIn w t) (hc : Copied t t') (ho : OwnTask w' B t') : TaskIn w' t' := by
  obtain ⟨ao, cap, rfl⟩ := hc
  refine ⟨regs_own ho, fun e => ?_, h.len, h.name, h.T, h.D, h.mode, h.Q, h.theta, h.ecb, h.ucb, h.each⟩
  simp only at e
  subst e
  rcases ho.2 with ⟨e, h0⟩ | ⟨g, c, cur, e, -⟩
  · exact ⟨List.eq_nil_of_length_eq_zero h0, (Value.slice.inj e).2.2⟩
  · cases (Value.slice.inj e).1
theorem task_flat (L : List TaskV) : ∀ j, j < L.length → ∀ i, i < 9 → (L.flatMap TaskV.cells)[j * 9 + i]? = (L.getD j task0).cells[i]? := by
  induction L with
  | nil => intro j hj; simp at hj
  | cons t r ih =>
    intro j hj i hi
    have hl : t.cells.length = 9 := rfl
    cases j with
    | zero =>
      rw [List.flatMap_cons, List.getElem?_append_left (by omega)]
      simp
    | succ j =>
      rw [List.flatMap_cons, List.getElem?_append_right (by omega), hl, show (j + 1) * 9 + i - 9 = j * 9 + i by omega, ih j (by simpa using hj) i hi]
      simp
theorem rows_in {w' : World} {B : Nat} {s' : SetV} (hr : I64 s'.reload) (hl : s'.ts.length ≤ 9223372036854775807) (row : w'.ownsRow B 38 9 (.slice s'.ao s'.ts.length s'.cap) s'.ts.length (s'.ts.flatMap TaskV.cells)) (each : ∀ t ∈ s'.ts, TaskIn w' t) : SetIn w' s' := by
  refine ⟨hr, fun e => ?_, hl, ?_, fun hne => ?_, each⟩
  · rcases row.2 with ⟨e', h0⟩ | ⟨g, c, cur, e', -⟩
    · exact ⟨List.eq_nil_of_length_eq_zero h0, (Value.slice.inj e').2.2⟩
    · rw [e] at e'; cases (Value.slice.inj e').1
  · rcases row.2 with ⟨-, h0⟩ | ⟨g, c, cur, e', -, -, hc, -⟩
    · rw [h0]; exact Nat.zero_le _
    · rw [(Value.slice.inj e').2.2]; exact hc
  · have row' := row
    rcases row.2 with ⟨-, h0⟩ | ⟨g, c, cur, e', -⟩
    · exact absurd (List.eq_nil_of_length_eq_zero h0) hne
    · have e1 : s'.ao = some ⟨g, 0, none⟩ := (Value.slice.inj e').1
      rw [e1] at row'
      refine ⟨g, 0, e1, fun j hj i hi => ?_⟩
      rw [Nat.zero_add, row'.cellAt (j * 9 + i) (by omega), task_flat _ j hj i hi]
theorem put_in {w w' : World} {s s' : SetV} (hs : SetIn w s) (h : PutOf w w' s s') : SetIn w' s' := by
  refine rows_in (by rw [h.reload]; exact hs.reload) (by rw [h.len]; exact hs.len) h.row (fun t ht => ?_)
  obtain ⟨j, hj, rfl⟩ := List.getElem_of_mem ht
  have hj' : j < s.ts.length := by rw [← h.len]; exact hj
  have e1 : s'.ts.getD j task0 = s'.ts[j] := by simp [List.getD, hj]
  have e2 : s.ts.getD j task0 ∈ s.ts := by rw [List.getD_eq_getElem?_getD, List.getElem?_eq_getElem hj']; exact List.getElem_mem _
  rw [← e1]
  exact copied_in (hs.each _ e2) (h.copy j hj') (h.each _ (by rw [e1]; exact ht))
theorem same_copied {t t' : TaskV} (h : Copied t t') : sameT t t' = true := by
  obtain ⟨ao, cap, rfl⟩ := h
  simp [sameT]
theorem put_same {w w' : World} {s s' : SetV} (h : PutOf w w' s s') : sameB s s' = true := by
  rw [sameB, h.reload, h.len]
  simp only [beq_self_eq_true, Bool.true_and]
  rw [List.all_eq_true]
  intro j hj
  exact same_copied (h.copy j (List.mem_range.1 hj))
end Go.Proofs.Ytndhjfpjhpnbaaa.Lex
