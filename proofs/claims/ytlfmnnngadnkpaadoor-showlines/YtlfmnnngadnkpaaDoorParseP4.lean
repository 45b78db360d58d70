/- The reference's parser: a task. -/
import Derived.Test.YtlfmnnngadnkpaaDoorParseP3
namespace Go.Proofs.YtlfmnnngadnkpaaDoor.Lex
open Go.ChangeShapes Go.WideShapes Go.RowKit

def taskG (x : Left) : Reads TaskV := thenE x taskP
theorem task_chain1 {x y6 y8 y9 y10 : Left} {m : Mode3} {l : List Int} {e u : Nat}
    (hm : modeX (goneP 2 (wordX wDeadline (goneP 2 (wordX wPeriod (goneP 1 x))))) = thenE y6 (fun L => .ok (m, L)))
    (hr : regsX (wordX wRegions y6) = thenE y8 (fun L => .ok (l, L)))
    (he : setsX wEcb y8 = thenE y9 (fun L => .ok (e, L)))
    (hu : setsX wUcb y9 = thenE y10 (fun L => .ok (u, L))) :
    taskG x = thenE (wordX wSemi y10) (fun L => .ok (⟨⟨(takeT 1 x).text.toArray⟩, (takeT 2 (wordX wPeriod (goneP 1 x))).n, (takeT 2 (wordX wDeadline (goneP 2 (wordX wPeriod (goneP 1 x))))).n, m.1, m.2.1, m.2.2, none, 0, e, u, l⟩, L)) := by
  have hr' : thenE (wordX wRegions y6) regsQ = thenE y8 (fun L => .ok (l, L)) := hr
  show thenE x (fun L => taskP L) = _
  simp only [taskP]
  rw [then_tok]; dsimp only; rw [then_word, then_tok]; dsimp only; rw [then_word, then_tok]; dsimp only; rw [then_any hm]; dsimp only; rw [then_word]
  rw [show (fun L => thenE (tokP 2 L) fun r => thenE (setsOf wEcb (numsP r.2).2) fun e => thenE (setsOf wUcb e.2) fun u => thenE (wordP wSemi u.2) fun L => Except.ok ((⟨⟨(takeT 1 x).text.toArray⟩, (takeT 2 (wordX wPeriod (goneP 1 x))).n, (takeT 2 (wordX wDeadline (goneP 2 (wordX wPeriod (goneP 1 x))))).n, m.1, m.2.1, m.2.2, none, 0, e.1, u.1, r.1.n :: (numsP r.2).1⟩ : TaskV), L))
    = (fun L => thenE (regsQ L) fun r => thenE (setsOf wEcb r.2) fun e => thenE (setsOf wUcb e.2) fun u => thenE (wordP wSemi u.2) fun L => Except.ok ((⟨⟨(takeT 1 x).text.toArray⟩, (takeT 2 (wordX wPeriod (goneP 1 x))).n, (takeT 2 (wordX wDeadline (goneP 2 (wordX wPeriod (goneP 1 x))))).n, m.1, m.2.1, m.2.2, none, 0, e.1, u.1, r.1⟩ : TaskV), L)) from funext fun L => regs_then L (fun r => thenE (setsOf wEcb r.2) fun e => thenE (setsOf wUcb e.2) fun u => thenE (wordP wSemi u.2) fun L => Except.ok ((⟨⟨(takeT 1 x).text.toArray⟩, (takeT 2 (wordX wPeriod (goneP 1 x))).n, (takeT 2 (wordX wDeadline (goneP 2 (wordX wPeriod (goneP 1 x))))).n, m.1, m.2.1, m.2.2, none, 0, e.1, u.1, r.1⟩ : TaskV), L))]
  rw [then_any hr']; dsimp only; rw [then_any he]; dsimp only; rw [then_any hu]; dsimp only; rw [then_word]
theorem setsX_yes {nm : List UInt8} {x : Left} (h : seesB nm x = true) : setsX nm x = setsG (-1) 0 (wordX nm x) := by
  obtain ⟨t, r, rfl, hk, ht, hx⟩ := sees_word h
  have h1 : isWord nm (t :: r) = true := h
  rw [hx]
  show setsOf nm (t :: r) = _
  rw [setsOf, if_pos h1]; rfl
theorem setsX_no {nm : List UInt8} {x : Left} (h : seesB nm x = false) : setsX nm x = thenE x (fun L => .ok (0, L)) := by
  cases x with
  | error p => rfl
  | ok L => have h1 : isWord nm L = false := h; simp [setsX, thenE, setsOf, h1]
/- the task that is being read -/
structure TInv (w0 w : World) (R : Nat) (cs : Array Value) (x : Left) : Prop where
  res : w.heap[w0.heap.size]? = some (.cells #[.string ⟨#[]⟩, .int .i64 0, .int .i64 0, .int .i64 0, .int .i64 0, .int .i64 0, .slice none 0 0, .int .u64 0, .int .u64 0] 30 (0, 0))
  box : w.heap[w0.heap.size + 1]? = some (.cells cs 30 (0, 0))
  pat : PAt w R x
  mv : Mv R w0.heap.size w0 w
theorem TInv.size {w0 w : World} {R : Nat} {cs : Array Value} {x : Left} (h : TInv w0 w R cs x) : w0.heap.size + 1 < w.heap.size := block_lt h.box
theorem TInv.call {w0 w w' : World} {R : Nat} {cs : Array Value} {x y : Left} (h : TInv w0 w R cs x) (hR : R < w0.heap.size) (p : PAt w' R y) (m : Mv R w.heap.size w w') : TInv w0 w' R cs y :=
  ⟨m.at h.res (by omega), m.at h.box (by omega), p, h.mv.trans (m.mono h.mv.size)⟩
theorem TInv.put {w0 w : World} {R : Nat} {cs : Array Value} {x : Left} (h : TInv w0 w R cs x) (hR : R < w0.heap.size) (j : Nat) (u : Value) : TInv w0 (w.setCell ⟨w0.heap.size + 1, j, none⟩ u) R (cs.setIfInBounds j u) x :=
  ⟨by rw [heap_setCell_other w ⟨w0.heap.size + 1, j, none⟩ w0.heap.size u (by simp)]; exact h.res, block_set h.box, h.pat.setCell (by show R < w0.heap.size + 1; omega) u, h.mv.setCell (.inl (by show w0.heap.size ≤ w0.heap.size + 1; omega)) u⟩
theorem TInv.drew {w0 w : World} {R : Nat} {cs : Array Value} {x : Left} (h : TInv w0 w R cs x) : TInv w0 w.drew R cs x := ⟨h.res, h.box, h.pat.drew, h.mv.drew⟩
theorem TInv.alloc {w0 w : World} {R : Nat} {cs : Array Value} {x : Left} (h : TInv w0 w R cs x) (o : Obj) : TInv w0 (w.alloc o) R cs x := ⟨block_alloc h.res, block_alloc h.box, h.pat.alloc o, h.mv.alloc h.mv.size o⟩
theorem TInv.grown {w0 w w' : World} {R : Nat} {cs : Array Value} {x : Left} (h : TInv w0 w R cs x) (hR : R < w0.heap.size) {row : Option Nat} (hg : w.grownBy w' row) (hr : ∀ k, row = some k → w0.heap.size + 2 ≤ k) : TInv w0 w' R cs x :=
  ⟨block_own h.res hg (fun k e => by have := hr k e; omega), block_own h.box hg (fun k e => by have := hr k e; omega), h.pat.grown hg (fun k e => by have := hr k e; omega), h.mv.grown hg (by have := h.size; omega) (fun k e => by have := hr k e; omega)⟩
theorem TInv.mode {w0 w w' : World} {R : Nat} {cs cs' : Array Value} {x y : Left} (h : TInv w0 w R cs x) (hR : R < w0.heap.size) (b : w'.heap[w0.heap.size + 1]? = some (.cells cs' 30 (0, 0))) (p : PAt w' R y) (m : Mv R (w0.heap.size + 1) w w') : TInv w0 w' R cs' y :=
  ⟨by rw [m.block w0.heap.size (by omega) (by omega)]; exact h.res, b, p, h.mv.trans (m.mono (by omega))⟩
structure Done (w0 w : World) (R : Nat) (x : Left) (v : Value) (n : Nat) (xs : List Value) : Prop where
  pat : PAt w R x
  mv : Mv R w0.heap.size w0 w
  own : w.ownsRow (w0.heap.size + 2) 2 1 v n xs
theorem Done.put {w0 w : World} {R : Nat} {x : Left} {v : Value} {n : Nat} {xs : List Value} (h : Done w0 w R x v n xs) (hR : R < w0.heap.size) (j : Nat) (u : Value) : Done w0 (w.setCell ⟨w0.heap.size, j, none⟩ u) R x v n xs :=
  ⟨h.pat.setCell hR u, h.mv.setCell (.inl (Nat.le_refl _)) u, own_off h.own (grown_set w ⟨w0.heap.size, j, none⟩ u) (.inl (by show w0.heap.size < w0.heap.size + 2; omega))⟩
theorem own_call {w w' : World} {R B : Nat} {e : TypeId} {s : Nat} {v : Value} {n : Nat} {xs : List Value} (h : w.ownsRow B e s v n xs) (m : Mv R w.heap.size w w') (hR : R < B) : w'.ownsRow B e s v n xs := m.own h hR
set_option maxHeartbeats 6400000 in
theorem rtaskp_any (R : Nat) (x : Left) (w : World) (h : PAt w R x) : Calls Tryd.prog 29 #[.pointer (some ⟨R, 0, none⟩)] w fun e w' => ∃ (t : TaskV) (y : Left), e = .returned t.val ∧ FitT w' w.heap.size t ∧ PAt w' R y ∧ taskG x = thenE y (fun L => .ok (bareT t, L)) ∧ Mv R w.heap.size w w' := by
  have iz : ∀ n : Int, 0 ≤ n ∧ n < 1000000000 → I64 n := fun n hn => by unfold I64; omega
  have uz : ∀ n : Nat, n < 18446744073709551616 → U64 (n : Int) := fun n hn => by unfold U64; omega
  obtain ⟨i0, hi, hz0, hz1, hz2⟩ := info_parts Tryd.info_i64
  have hsz := h.size
  have CH := hide (fun y6 y8 y9 y10 m l e u => @task_chain1 x y6 y8 y9 y10 m l e u)
  have HB0 := heap_alloc_new w (.cells #[.string ⟨#[]⟩, .int .i64 0, .int .i64 0, .int .i64 0, .int .i64 0, .int .i64 0, .slice none 0 0, .int .u64 0, .int .u64 0] 30)
  have INV : Hid (TInv w ((w.alloc (.cells #[.string ⟨#[]⟩, .int .i64 0, .int .i64 0, .int .i64 0, .int .i64 0, .int .i64 0, .slice none 0 0, .int .u64 0, .int .u64 0] 30)).alloc (.cells #[.string ⟨#[]⟩, .int .i64 0, .int .i64 0, .int .i64 0, .int .i64 0, .int .i64 0, .slice none 0 0, .int .u64 0, .int .u64 0] 30)) R #[.string ⟨#[]⟩, .int .i64 0, .int .i64 0, .int .i64 0, .int .i64 0, .int .i64 0, .slice none 0 0, .int .u64 0, .int .u64 0] x) :=
    ⟨block_alloc HB0, by have := heap_alloc_new (w.alloc (.cells #[.string ⟨#[]⟩, .int .i64 0, .int .i64 0, .int .i64 0, .int .i64 0, .int .i64 0, .slice none 0 0, .int .u64 0, .int .u64 0] 30)) (.cells #[.string ⟨#[]⟩, .int .i64 0, .int .i64 0, .int .i64 0, .int .i64 0, .int .i64 0, .slice none 0 0, .int .u64 0, .int .u64 0] 30); simpa using this, (h.alloc _).alloc _, ((Mv.refl _ _ _).alloc (Nat.le_refl _) _).alloc (by simp) _⟩

  have CWPeriod : Hid (∀ (x : Left) (w : World), PAt w R x → Calls Tryd.prog 26 #[.pointer (some ⟨R, 0, none⟩), .string ⟨#[112, 101, 114, 105, 111, 100]⟩] w fun e w' => e = .returned (.tuple #[]) ∧ PAt w' R (wordX wPeriod x) ∧ Mv R w.heap.size w w') := fun x w h => need_any R ⟨#[112, 101, 114, 105, 111, 100]⟩ x w h
  have CWDeadline : Hid (∀ (x : Left) (w : World), PAt w R x → Calls Tryd.prog 26 #[.pointer (some ⟨R, 0, none⟩), .string ⟨#[100, 101, 97, 100, 108, 105, 110, 101]⟩] w fun e w' => e = .returned (.tuple #[]) ∧ PAt w' R (wordX wDeadline x) ∧ Mv R w.heap.size w w') := fun x w h => need_any R ⟨#[100, 101, 97, 100, 108, 105, 110, 101]⟩ x w h
  have CWRegions : Hid (∀ (x : Left) (w : World), PAt w R x → Calls Tryd.prog 26 #[.pointer (some ⟨R, 0, none⟩), .string ⟨#[114, 101, 103, 105, 111, 110, 115]⟩] w fun e w' => e = .returned (.tuple #[]) ∧ PAt w' R (wordX wRegions x) ∧ Mv R w.heap.size w w') := fun x w h => need_any R ⟨#[114, 101, 103, 105, 111, 110, 115]⟩ x w h
  have CWSemi : Hid (∀ (x : Left) (w : World), PAt w R x → Calls Tryd.prog 26 #[.pointer (some ⟨R, 0, none⟩), .string ⟨#[59]⟩] w fun e w' => e = .returned (.tuple #[]) ∧ PAt w' R (wordX wSemi x) ∧ Mv R w.heap.size w w') := fun x w h => need_any R ⟨#[59]⟩ x w h
  have CEEcb : Hid (∀ (x : Left) (w : World), PAt w R x → Calls Tryd.prog 41 #[.pointer (some ⟨R, 0, none⟩), .string ⟨#[101, 99, 98]⟩] w fun e w' => e = .returned (.bool (seesB wEcb x)) ∧ PAt w' R (eatX wEcb x) ∧ Mv R w.heap.size w w') := fun x w h => eat_any R ⟨#[101, 99, 98]⟩ x w h
  have CEUcb : Hid (∀ (x : Left) (w : World), PAt w R x → Calls Tryd.prog 41 #[.pointer (some ⟨R, 0, none⟩), .string ⟨#[117, 99, 98]⟩] w fun e w' => e = .returned (.bool (seesB wUcb x)) ∧ PAt w' R (eatX wUcb x) ∧ Mv R w.heap.size w w') := fun x w h => eat_any R ⟨#[117, 99, 98]⟩ x w h
  have CT := hide (fun x w h => kind_any R 1 (by decide) x w h)
  have CN := hide (fun x w h => kind_any R 2 (by decide) x w h)
  have CNow := hide (fun x w h => now_any R x w h)
  have CM := hide (fun x w h hRB c0 c1 c2 c6 c7 c8 hT => rmode_any R (w : World).heap.size x w h hRB c0 c1 c2 c6 c7 c8 hT)
  have CM := hide (fun B x w h hRB c0 c1 c2 c6 c7 c8 hT => rmode_any R B x w h hRB c0 c1 c2 c6 c7 c8 hT)
  have CG := hide (fun x w h => rcsets_any R x w h)
  clear h HB0
  generalize taskG x = Q at *
  go_enter Tryd.func29, Tryd.ntmps29
  go_wp2_with fail
  refine (unhide CT _ _ (unhide INV).pat).mono ?_
  rintro e w1 ⟨rfl, hr, hm⟩
  have T1 := hide (ptaken_text (unhide INV).pat 1)
  have INV' := hide ((unhide INV).call hsz hr hm)
  clear INV hr hm
  have INV := INV'
  clear INV'
  generalize takeT 1 x = t1 at *
  generalize goneP 1 x = x2 at *
  rw [tokV]
  have hfd : ∀ w : World, (Instr.field 62 (.agg #[.int .i64 t1.kind, .string (mkS t1.text), .int .i64 t1.n, .int .i64 t1.pos]) 1).run Tryd.prog w = .ok (.string (mkS t1.text)) w := fun _ => by kernel_rfl
  have c0 : w1.cell? ⟨w.heap.size + 1, 0, none⟩ = some (.string ⟨#[]⟩) := cell_block (unhide INV).box
  have c1 : w1.cell? ⟨w.heap.size + 1, 1, none⟩ = some (.int .i64 0) := cell_block (unhide INV).box
  have c2 : w1.cell? ⟨w.heap.size + 1, 2, none⟩ = some (.int .i64 0) := cell_block (unhide INV).box
  have c3 : w1.cell? ⟨w.heap.size + 1, 3, none⟩ = some (.int .i64 0) := cell_block (unhide INV).box
  have c4 : w1.cell? ⟨w.heap.size + 1, 4, none⟩ = some (.int .i64 0) := cell_block (unhide INV).box
  have c5 : w1.cell? ⟨w.heap.size + 1, 5, none⟩ = some (.int .i64 0) := cell_block (unhide INV).box
  have c6 : w1.cell? ⟨w.heap.size + 1, 6, none⟩ = some (.slice none 0 0) := cell_block (unhide INV).box
  have c7 : w1.cell? ⟨w.heap.size + 1, 7, none⟩ = some (.int .u64 0) := cell_block (unhide INV).box
  have c8 : w1.cell? ⟨w.heap.size + 1, 8, none⟩ = some (.int .u64 0) := cell_block (unhide INV).box
  have fz := fun j => frozen_block (j := j) (unhide INV).box
  go_wp2_with fail
  refine (unhide CWPeriod _ _ (TInv.put (unhide INV) hsz 0 (.string (mkS t1.text))).pat).mono ?_
  rintro e w2 ⟨rfl, hr, hm⟩
  have INV' := hide ((TInv.put (unhide INV) hsz 0 (.string (mkS t1.text))).call hsz hr hm)
  clear INV hr hm
  have INV := INV'
  clear INV'
  simp only [List.setIfInBounds_toArray, List.set_cons_zero] at INV
  clear c0 c1 c2 c3 c4 c5 c6 c7 c8 fz
  clear hfd
  generalize wordX wPeriod x2 = x3 at *
  go_wp2_with fail
  refine (unhide CN _ _ (unhide INV).pat).mono ?_
  rintro e w3 ⟨rfl, hr, hm⟩
  have T3 := hide (ptaken_n (unhide INV).pat 2)
  have INV' := hide ((unhide INV).call hsz hr hm)
  clear INV hr hm
  have INV := INV'
  clear INV'
  generalize takeT 2 x3 = t3 at *
  generalize goneP 2 x3 = x4 at *
  rw [tokV]
  have hfd : ∀ w : World, (Instr.field 62 (.agg #[.int .i64 t3.kind, .string (mkS t3.text), .int .i64 t3.n, .int .i64 t3.pos]) 2).run Tryd.prog w = .ok (.int .i64 t3.n) w := fun _ => by kernel_rfl
  have c0 : w3.cell? ⟨w.heap.size + 1, 0, none⟩ = some (.string (mkS t1.text)) := cell_block (unhide INV).box
  have c1 : w3.cell? ⟨w.heap.size + 1, 1, none⟩ = some (.int .i64 0) := cell_block (unhide INV).box
  have c2 : w3.cell? ⟨w.heap.size + 1, 2, none⟩ = some (.int .i64 0) := cell_block (unhide INV).box
  have c3 : w3.cell? ⟨w.heap.size + 1, 3, none⟩ = some (.int .i64 0) := cell_block (unhide INV).box
  have c4 : w3.cell? ⟨w.heap.size + 1, 4, none⟩ = some (.int .i64 0) := cell_block (unhide INV).box
  have c5 : w3.cell? ⟨w.heap.size + 1, 5, none⟩ = some (.int .i64 0) := cell_block (unhide INV).box
  have c6 : w3.cell? ⟨w.heap.size + 1, 6, none⟩ = some (.slice none 0 0) := cell_block (unhide INV).box
  have c7 : w3.cell? ⟨w.heap.size + 1, 7, none⟩ = some (.int .u64 0) := cell_block (unhide INV).box
  have c8 : w3.cell? ⟨w.heap.size + 1, 8, none⟩ = some (.int .u64 0) := cell_block (unhide INV).box
  have fz := fun j => frozen_block (j := j) (unhide INV).box
  go_wp2_with fail
  refine (unhide CWDeadline _ _ (TInv.put (unhide INV) hsz 1 (.int .i64 t3.n)).pat).mono ?_
  rintro e w4 ⟨rfl, hr, hm⟩
  have INV' := hide ((TInv.put (unhide INV) hsz 1 (.int .i64 t3.n)).call hsz hr hm)
  clear INV hr hm
  have INV := INV'
  clear INV'
  simp only [List.setIfInBounds_toArray, List.set_cons_zero, List.set_cons_succ] at INV
  clear c0 c1 c2 c3 c4 c5 c6 c7 c8 fz
  clear hfd
  generalize wordX wDeadline x4 = x5 at *
  go_wp2_with fail
  refine (unhide CN _ _ (unhide INV).pat).mono ?_
  rintro e w5 ⟨rfl, hr, hm⟩
  have T5 := hide (ptaken_n (unhide INV).pat 2)
  have INV' := hide ((unhide INV).call hsz hr hm)
  clear INV hr hm
  have INV := INV'
  clear INV'
  generalize takeT 2 x5 = t5 at *
  generalize goneP 2 x5 = x6 at *
  rw [tokV]
  have hfd : ∀ w : World, (Instr.field 62 (.agg #[.int .i64 t5.kind, .string (mkS t5.text), .int .i64 t5.n, .int .i64 t5.pos]) 2).run Tryd.prog w = .ok (.int .i64 t5.n) w := fun _ => by kernel_rfl
  have c0 : w5.cell? ⟨w.heap.size + 1, 0, none⟩ = some (.string (mkS t1.text)) := cell_block (unhide INV).box
  have c1 : w5.cell? ⟨w.heap.size + 1, 1, none⟩ = some (.int .i64 t3.n) := cell_block (unhide INV).box
  have c2 : w5.cell? ⟨w.heap.size + 1, 2, none⟩ = some (.int .i64 0) := cell_block (unhide INV).box
  have c3 : w5.cell? ⟨w.heap.size + 1, 3, none⟩ = some (.int .i64 0) := cell_block (unhide INV).box
  have c4 : w5.cell? ⟨w.heap.size + 1, 4, none⟩ = some (.int .i64 0) := cell_block (unhide INV).box
  have c5 : w5.cell? ⟨w.heap.size + 1, 5, none⟩ = some (.int .i64 0) := cell_block (unhide INV).box
  have c6 : w5.cell? ⟨w.heap.size + 1, 6, none⟩ = some (.slice none 0 0) := cell_block (unhide INV).box
  have c7 : w5.cell? ⟨w.heap.size + 1, 7, none⟩ = some (.int .u64 0) := cell_block (unhide INV).box
  have c8 : w5.cell? ⟨w.heap.size + 1, 8, none⟩ = some (.int .u64 0) := cell_block (unhide INV).box
  have fz := fun j => frozen_block (j := j) (unhide INV).box
  have INV' := hide ((unhide INV).put hsz 2 (.int .i64 t5.n))
  simp only [List.setIfInBounds_toArray, List.set_cons_zero, List.set_cons_succ] at INV'
  go_wp2_with fail
  refine (unhide CM (w.heap.size + 1) _ _ (unhide INV').pat (by omega) _ _ _ _ _ _ (unhide INV').box).mono ?_
  rintro e w6 ⟨md, mq, mth, y6, rfl, hmi, hbox, hr, hmx, hm⟩
  have INV2 := hide ((unhide INV').mode hsz hbox hr hm)
  have HMX := hide hmx
  have HMI := hide hmi
  clear INV INV' hbox hr hm hmx hmi c0 c1 c2 c3 c4 c5 c6 c7 c8 fz hfd
  have INV := INV2
  clear INV2
  go_wp2_with fail
  refine (unhide CWRegions _ _ (unhide INV).pat).mono ?_
  rintro e w7 ⟨rfl, hr, hm⟩
  have INV' := hide ((unhide INV).call hsz hr hm)
  clear INV hr hm
  have INV := INV'
  clear INV'
  generalize hx7 : wordX wRegions y6 = x7 at *
  have HF := hide (regs_first x7)
  have HR0 : Hid (regsX (wordX wRegions y6) = regsX x7) := hide (by rw [hx7])
  clear hx7
  have OWN0 := hide (World.ownsRow_nil w7 (w.heap.size + 2) 2 1)
  have hN0 : (0 : Nat) ≤ 5000 := by decide
  go_wp2_with fail
  refine Code.wp_mono (Q := fun e a' w' => e = .normal ∧ ∃ (g c : Nat) (n : Int) (y : Left), TInv w w' R #[.string (mkS t1.text), .int .i64 t3.n, .int .i64 t5.n, .int .i64 md, .int .i64 mq, .int .i64 mth, .slice (some ⟨g, 0, none⟩) 1 c, .int .u64 0, .int .u64 0] y ∧ w'.ownsRow (w.heap.size + 2) 2 1 (.slice (some ⟨g, 0, none⟩) 1 c) 1 [intV n] ∧ (0 ≤ n ∧ n < 1000000000) ∧ regsX x7 = numsX [n] y ∧ ∃ f : Nat → Value, a' = { tmps := #[.pointer (some ⟨R, 0, none⟩), f 1, .pointer (some ⟨w.heap.size, 0, none⟩), .pointer (some ⟨w.heap.size + 1, 0, none⟩), f 4, f 5, f 6, f 7, f 8, f 9, f 10, f 11, f 12, f 13, f 14, f 15, f 16, f 17, f 18, f 19, f 20, f 21, f 22, f 23, f 24, f 25, f 26, f 27, f 28, f 29, f 30, f 31, f 32, f 33, f 34, f 35, f 36, f 37, f 38, f 39, f 40, f 41, f 42, f 43, f 44, f 45, f 46, f 47, f 48, f 49, f 50, f 51, f 52, f 53, f 54, f 55, f 56], defers := [] }) ?_ ?_
  rotate_left
  · have INVD := hide (unhide INV).drew
    refine wp_region_held_drew (S := fun _ => True) (by kernel_rfl) trivial (fun hHeld => ?_)
    refine take_yes 0 24 (.pointer (some ⟨w.heap.size + 1, 6, none⟩)) rfl rfl (by kernel_rfl) (by kernel_rfl) (by kernel_rfl) (fun _ _ _ h => nomatch h.1) rfl trivial (by intro w9 hS9; go_simp) ?_
    simp only [List.setIfInBounds_toArray, List.set_cons_zero, List.set_cons_succ]
    refine take_yes 2 26 (.pointer (some ⟨R, 0, none⟩)) rfl rfl (by kernel_rfl) (by kernel_rfl) (by kernel_rfl) (fun _ _ _ h => nomatch h.1) rfl trivial (by intro w9 hS9; go_simp) ?_
    simp only [List.setIfInBounds_toArray, List.set_cons_zero, List.set_cons_succ]
    refine wpAnyH_ready (rs := [1, 3]) (by kernel_rfl) (by decide) (AllReadyH.cons rfl (fun K hK => ?_) (AllReadyH.cons rfl (fun K hK => ?_) AllReadyH.nil))
    · have c6 : (w7.drew).cell? ⟨w.heap.size + 1, 6, none⟩ = some (.slice none 0 0) := cell_block (unhide INVD).box
      go_simp
      refine hK.out _ _ trivial (fun hHeld => ?_)
      clear hK K c6
      try simp only [List.setIfInBounds_toArray, List.set_cons_zero, List.set_cons_succ]
      refine wpAnyH_ready (rs := [3]) (by kernel_rfl) (by decide) (AllReadyH.cons rfl (fun K hK => ?_) AllReadyH.nil)
      refine (if_pos rfl).mpr ?_
      go_wp2_with fail
      refine (unhide CN _ _ (unhide INVD).pat).mono ?_
      rintro e w3 ⟨rfl, hr, hm⟩
      have INV3 := hide ((unhide INVD).call hsz hr hm)
      have OWN3 := hide (Mv.own hm (unhide OWN0).drew (by omega))
      have HN := hide (ptaken_n (unhide INVD).pat 2)
      clear hr hm
      generalize takeT 2 x7 = t at *
      generalize goneP 2 x7 = y3 at *
      rw [tokV]
      have hfd : ∀ w : World, (Instr.field 62 (.agg #[.int .i64 t.kind, .string (mkS t.text), .int .i64 t.n, .int .i64 t.pos]) 2).run Tryd.prog w = .ok (.int .i64 t.n) w := fun _ => by kernel_rfl
      refine hK.out _ _ trivial (fun hHeld => ?_)
      clear hK K
      try simp only [List.setIfInBounds_toArray, List.set_cons_zero, List.set_cons_succ]
      refine take_yes 4 28 (.int .i64 t.n) rfl rfl (by kernel_rfl) (by kernel_rfl) (by kernel_rfl) (fun _ _ _ h => nomatch h.1) rfl trivial (by intro w9 hS9; go_simp) ?_
      simp only [List.setIfInBounds_toArray, List.set_cons_zero, List.set_cons_succ]
      refine wpAnyH_ready (rs := [5]) (by kernel_rfl) (by decide) (AllReadyH.cons rfl (fun K hK => ?_) AllReadyH.nil)
      go_simp
      refine hK.out _ _ trivial (fun hHeld => ?_)
      clear hK K
      try simp only [List.setIfInBounds_toArray, List.set_cons_zero, List.set_cons_succ]
      have FRESH := hide (fresh_int w3 t.n 2 rfl)
      have OWN := hide (World.ownsRow.alloc (unhide OWN3) (.cells #[.int .i64 t.n] 2))
      have hs3 := (unhide INV3).size
      refine wpAnyH_ready (rs := [6]) (by kernel_rfl) (by decide) (AllReadyH.cons rfl (fun K hK => ?_) AllReadyH.nil)
      refine step_append_own rfl (.tmp 25) (.tmp 29) 27 rfl (w.heap.size + 2) 2 i0 (.int .i64 0) 1 8 (by kernel_rfl) hi hz0 hz1 hz2 rfl (by decide) _ _ _ rfl (unhide OWN) ⟨w3.heap.size, 0, none⟩ 1 1 [intV t.n] rfl rfl (unhide FRESH) (one_int t.n) (by unfold maxLen; omega) (by omega) (by simp; omega) ?_
      intro v4 w4 hown4 hgrow4
      obtain ⟨g4, c4, rfl⟩ : ∃ g4 c4, v4 = .slice (some ⟨g4, 0, none⟩) (0 + 1) c4 := by
        rcases hown4.2 with ⟨-, h0⟩ | ⟨g4, c4, cur, e, -⟩
        · omega
        · exact ⟨g4, c4, e⟩
      have lt : ∀ q, Value.ownBlock (.slice none 0 0) = some q → w.heap.size + 2 ≤ q := fun q e => ((unhide OWN).lt q e).1
      have inv4 := ((unhide INV3).alloc (.cells #[.int .i64 t.n] 2)).grown hsz hgrow4 lt
      have q6 : w4.cell? ⟨w.heap.size + 1, 6, none⟩ = some (.slice none 0 0) := cell_block inv4.box
      have f4 := frozen_block (j := 6) inv4.box
      have INV4 := hide (inv4.put hsz 6 (.slice (some ⟨g4, 0, none⟩) (0 + 1) c4))
      have OWN4 := hide (own_set hown4 inv4.box (by decide) 6 (.slice (some ⟨g4, 0, none⟩) (0 + 1) c4))
      simp only [List.setIfInBounds_toArray, List.set_cons_zero, List.set_cons_succ] at INV4
      clear hown4 hgrow4 inv4 lt OWN FRESH
      refine hK.out _ _ trivial (fun hHeld => ?_)
      clear hK K
      rw [put_some (d := 30) _ _ rfl]
      simp only [List.setIfInBounds_toArray, List.set_cons_zero, List.set_cons_succ]
      refine take_yes 7 31 (.pointer (some ⟨w.heap.size + 1, 6, none⟩)) rfl rfl (by kernel_rfl) (by kernel_rfl) (by kernel_rfl) (fun _ _ _ h => nomatch h.1) rfl trivial (by intro w9 hS9; go_simp) ?_
      simp only [List.setIfInBounds_toArray, List.set_cons_zero, List.set_cons_succ]
      refine wpAnyH_ready (rs := [8]) (by kernel_rfl) (by decide) (AllReadyH.cons rfl (fun K hK => ?_) AllReadyH.nil)
      go_simp
      refine hK.out _ _ trivial (fun hHeld => ?_)
      clear hK K q6 f4
      try simp only [List.setIfInBounds_toArray, List.set_cons_zero, List.set_cons_succ]
      refine wpAnyH_done (by kernel_rfl) ?_ _
      exact ⟨rfl, g4, c4, t.n, y3, unhide INV4, unhide OWN4, unhide HN, unhide HF, frame_at rfl⟩
    · refine (if_pos rfl).mpr ?_
      go_wp2_with fail
      refine (unhide CN _ _ (unhide INVD).pat).mono ?_
      rintro e w3 ⟨rfl, hr, hm⟩
      have INV3 := hide ((unhide INVD).call hsz hr hm)
      have OWN3 := hide (Mv.own hm (unhide OWN0).drew (by omega))
      have HN := hide (ptaken_n (unhide INVD).pat 2)
      clear hr hm
      generalize takeT 2 x7 = t at *
      generalize goneP 2 x7 = y3 at *
      rw [tokV]
      have hfd : ∀ w : World, (Instr.field 62 (.agg #[.int .i64 t.kind, .string (mkS t.text), .int .i64 t.n, .int .i64 t.pos]) 2).run Tryd.prog w = .ok (.int .i64 t.n) w := fun _ => by kernel_rfl
      refine hK.out _ _ trivial (fun hHeld => ?_)
      clear hK K
      try simp only [List.setIfInBounds_toArray, List.set_cons_zero, List.set_cons_succ]
      refine take_yes 4 28 (.int .i64 t.n) rfl rfl (by kernel_rfl) (by kernel_rfl) (by kernel_rfl) (fun _ _ _ h => nomatch h.1) rfl trivial (by intro w9 hS9; go_simp) ?_
      simp only [List.setIfInBounds_toArray, List.set_cons_zero, List.set_cons_succ]
      refine wpAnyH_ready (rs := [1, 5]) (by kernel_rfl) (by decide) (AllReadyH.cons rfl (fun K hK => ?_) (AllReadyH.cons rfl (fun K hK => ?_) AllReadyH.nil))
      · have c6 : (w3).cell? ⟨w.heap.size + 1, 6, none⟩ = some (.slice none 0 0) := cell_block (unhide INV3).box
        go_simp
        refine hK.out _ _ trivial (fun hHeld => ?_)
        clear hK K c6
        try simp only [List.setIfInBounds_toArray, List.set_cons_zero, List.set_cons_succ]
        refine wpAnyH_ready (rs := [5]) (by kernel_rfl) (by decide) (AllReadyH.cons rfl (fun K hK => ?_) AllReadyH.nil)
        go_simp
        refine hK.out _ _ trivial (fun hHeld => ?_)
        clear hK K
        try simp only [List.setIfInBounds_toArray, List.set_cons_zero, List.set_cons_succ]
        have FRESH := hide (fresh_int w3 t.n 2 rfl)
        have OWN := hide (World.ownsRow.alloc (unhide OWN3) (.cells #[.int .i64 t.n] 2))
        have hs3 := (unhide INV3).size
        refine wpAnyH_ready (rs := [6]) (by kernel_rfl) (by decide) (AllReadyH.cons rfl (fun K hK => ?_) AllReadyH.nil)
        refine step_append_own rfl (.tmp 25) (.tmp 29) 27 rfl (w.heap.size + 2) 2 i0 (.int .i64 0) 1 8 (by kernel_rfl) hi hz0 hz1 hz2 rfl (by decide) _ _ _ rfl (unhide OWN) ⟨w3.heap.size, 0, none⟩ 1 1 [intV t.n] rfl rfl (unhide FRESH) (one_int t.n) (by unfold maxLen; omega) (by omega) (by simp; omega) ?_
        intro v4 w4 hown4 hgrow4
        obtain ⟨g4, c4, rfl⟩ : ∃ g4 c4, v4 = .slice (some ⟨g4, 0, none⟩) (0 + 1) c4 := by
          rcases hown4.2 with ⟨-, h0⟩ | ⟨g4, c4, cur, e, -⟩
          · omega
          · exact ⟨g4, c4, e⟩
        have lt : ∀ q, Value.ownBlock (.slice none 0 0) = some q → w.heap.size + 2 ≤ q := fun q e => ((unhide OWN).lt q e).1
        have inv4 := ((unhide INV3).alloc (.cells #[.int .i64 t.n] 2)).grown hsz hgrow4 lt
        have q6 : w4.cell? ⟨w.heap.size + 1, 6, none⟩ = some (.slice none 0 0) := cell_block inv4.box
        have f4 := frozen_block (j := 6) inv4.box
        have INV4 := hide (inv4.put hsz 6 (.slice (some ⟨g4, 0, none⟩) (0 + 1) c4))
        have OWN4 := hide (own_set hown4 inv4.box (by decide) 6 (.slice (some ⟨g4, 0, none⟩) (0 + 1) c4))
        simp only [List.setIfInBounds_toArray, List.set_cons_zero, List.set_cons_succ] at INV4
        clear hown4 hgrow4 inv4 lt OWN FRESH
        refine hK.out _ _ trivial (fun hHeld => ?_)
        clear hK K
        rw [put_some (d := 30) _ _ rfl]
        simp only [List.setIfInBounds_toArray, List.set_cons_zero, List.set_cons_succ]
        refine take_yes 7 31 (.pointer (some ⟨w.heap.size + 1, 6, none⟩)) rfl rfl (by kernel_rfl) (by kernel_rfl) (by kernel_rfl) (fun _ _ _ h => nomatch h.1) rfl trivial (by intro w9 hS9; go_simp) ?_
        simp only [List.setIfInBounds_toArray, List.set_cons_zero, List.set_cons_succ]
        refine wpAnyH_ready (rs := [8]) (by kernel_rfl) (by decide) (AllReadyH.cons rfl (fun K hK => ?_) AllReadyH.nil)
        go_simp
        refine hK.out _ _ trivial (fun hHeld => ?_)
        clear hK K q6 f4
        try simp only [List.setIfInBounds_toArray, List.set_cons_zero, List.set_cons_succ]
        refine wpAnyH_done (by kernel_rfl) ?_ _
        exact ⟨rfl, g4, c4, t.n, y3, unhide INV4, unhide OWN4, unhide HN, unhide HF, frame_at rfl⟩
      · go_simp
        refine hK.out _ _ trivial (fun hHeld => ?_)
        clear hK K
        try simp only [List.setIfInBounds_toArray, List.set_cons_zero, List.set_cons_succ]
        refine wpAnyH_ready (rs := [1]) (by kernel_rfl) (by decide) (AllReadyH.cons rfl (fun K hK => ?_) AllReadyH.nil)
        have c6 : (w3.alloc (.cells #[.int .i64 t.n] 2)).cell? ⟨w.heap.size + 1, 6, none⟩ = some (.slice none 0 0) := cell_block (block_alloc (unhide INV3).box)
        go_simp
        refine hK.out _ _ trivial (fun hHeld => ?_)
        clear hK K c6
        try simp only [List.setIfInBounds_toArray, List.set_cons_zero, List.set_cons_succ]
        have FRESH := hide (fresh_int w3 t.n 2 rfl)
        have OWN := hide (World.ownsRow.alloc (unhide OWN3) (.cells #[.int .i64 t.n] 2))
        have hs3 := (unhide INV3).size
        refine wpAnyH_ready (rs := [6]) (by kernel_rfl) (by decide) (AllReadyH.cons rfl (fun K hK => ?_) AllReadyH.nil)
        refine step_append_own rfl (.tmp 25) (.tmp 29) 27 rfl (w.heap.size + 2) 2 i0 (.int .i64 0) 1 8 (by kernel_rfl) hi hz0 hz1 hz2 rfl (by decide) _ _ _ rfl (unhide OWN) ⟨w3.heap.size, 0, none⟩ 1 1 [intV t.n] rfl rfl (unhide FRESH) (one_int t.n) (by unfold maxLen; omega) (by omega) (by simp; omega) ?_
        intro v4 w4 hown4 hgrow4
        obtain ⟨g4, c4, rfl⟩ : ∃ g4 c4, v4 = .slice (some ⟨g4, 0, none⟩) (0 + 1) c4 := by
          rcases hown4.2 with ⟨-, h0⟩ | ⟨g4, c4, cur, e, -⟩
          · omega
          · exact ⟨g4, c4, e⟩
        have lt : ∀ q, Value.ownBlock (.slice none 0 0) = some q → w.heap.size + 2 ≤ q := fun q e => ((unhide OWN).lt q e).1
        have inv4 := ((unhide INV3).alloc (.cells #[.int .i64 t.n] 2)).grown hsz hgrow4 lt
        have q6 : w4.cell? ⟨w.heap.size + 1, 6, none⟩ = some (.slice none 0 0) := cell_block inv4.box
        have f4 := frozen_block (j := 6) inv4.box
        have INV4 := hide (inv4.put hsz 6 (.slice (some ⟨g4, 0, none⟩) (0 + 1) c4))
        have OWN4 := hide (own_set hown4 inv4.box (by decide) 6 (.slice (some ⟨g4, 0, none⟩) (0 + 1) c4))
        simp only [List.setIfInBounds_toArray, List.set_cons_zero, List.set_cons_succ] at INV4
        clear hown4 hgrow4 inv4 lt OWN FRESH
        refine hK.out _ _ trivial (fun hHeld => ?_)
        clear hK K
        rw [put_some (d := 30) _ _ rfl]
        simp only [List.setIfInBounds_toArray, List.set_cons_zero, List.set_cons_succ]
        refine take_yes 7 31 (.pointer (some ⟨w.heap.size + 1, 6, none⟩)) rfl rfl (by kernel_rfl) (by kernel_rfl) (by kernel_rfl) (fun _ _ _ h => nomatch h.1) rfl trivial (by intro w9 hS9; go_simp) ?_
        simp only [List.setIfInBounds_toArray, List.set_cons_zero, List.set_cons_succ]
        refine wpAnyH_ready (rs := [8]) (by kernel_rfl) (by decide) (AllReadyH.cons rfl (fun K hK => ?_) AllReadyH.nil)
        go_simp
        refine hK.out _ _ trivial (fun hHeld => ?_)
        clear hK K q6 f4
        try simp only [List.setIfInBounds_toArray, List.set_cons_zero, List.set_cons_succ]
        refine wpAnyH_done (by kernel_rfl) ?_ _
        exact ⟨rfl, g4, c4, t.n, y3, unhide INV4, unhide OWN4, unhide HN, unhide HF, frame_at rfl⟩
  clear INV OWN0 HF
  rintro e a9 w9 ⟨rfl, g9, c9, n9, y9, hinv, hown, hn9, hrx, f, rfl⟩
  have INV := hide hinv
  have HOW := hide hown
  have HRX := hide ((unhide HR0).trans hrx)
  have HN9 := hide hn9
  clear hinv hown hrx hn9 HR0

  have hm9 := (unhide INV).pat.mle
  go_wp2
  go_loopw [] (fun wr => ∃ (g c : Nat) (l : List Int) (y : Left), TInv w wr R #[.string (mkS t1.text), .int .i64 t3.n, .int .i64 t5.n, .int .i64 md, .int .i64 mq, .int .i64 mth, .slice (some ⟨g, 0, none⟩) l.length c, .int .u64 0, .int .u64 0] y ∧ wr.ownsRow (w.heap.size + 2) 2 1 (.slice (some ⟨g, 0, none⟩) l.length c) l.length (l.map intV) ∧ l.length + mea y ≤ 4003 ∧ (∀ n ∈ l, 0 ≤ n ∧ n < 1000000000) ∧ regsX (wordX wRegions y6) = numsX l y) (fun wr => meaP R wr)
  case atStart => exact ⟨g9, c9, [n9], y9, unhide INV, unhide HOW, by simp; omega, fun n hn => by rw [List.mem_singleton.1 hn]; exact unhide HN9, unhide HRX⟩
  case round =>
    clear INV HOW HN9 HRX hm9
    obtain ⟨g, c, l, y, hinv, hown, hlen, hall, hrx⟩ := hrel
    have HMEA := hide hinv.pat.mea
    have hnow := now_head (k := 2) (by decide) hinv.pat.ne
    have INV := hide hinv
    have HOW := hide hown
    have HALL := hide hall
    clear hown hall
    go_wp2_with fail
    refine (unhide CNow _ _ (unhide INV).pat).mono ?_
    rintro e w1 ⟨rfl, hr, hm⟩
    have INV1 := hide ((unhide INV).call hsz hr hm)
    have HOW1 := hide (Mv.own hm (unhide HOW) (by omega))
    clear hr hm INV HOW hinv
    have INV := INV1
    have HOW := HOW1
    clear INV1 HOW1
    generalize nowT y = u at *
    rw [tokV]
    have hfd : ∀ w : World, (Instr.field 62 (.agg #[.int .i64 u.kind, .string (mkS u.text), .int .i64 u.n, .int .i64 u.pos]) 0).run Tryd.prog w = .ok (.int .i64 u.kind) w := fun _ => by kernel_rfl
    cases hb : headIs 2 y
    · rw [hb] at hnow
      have HR8 := hide (hrx.trans (nums_last hb))
      have HLEN : Hid (l.length ≤ 5000) := hide (by omega)
      clear hb hlen hrx
      cases hbe : seesB wEcb y
      · have HE := hide (setsX_no hbe)
        have CE := hide (unhide CEEcb y)
        rw [hbe, eat_no hbe] at CE
        clear hbe
        go_wp2_with fail
        refine (unhide CE _ (unhide INV).pat).mono ?_
        rintro e w2 ⟨rfl, hr, hm⟩
        have INV' := hide ((unhide INV).call hsz hr hm)
        have HOW' := hide (Mv.own hm (unhide HOW) (by omega))
        clear INV HOW hr hm
        have INV := INV'
        have HOW := HOW'
        clear INV' HOW'
        cases hbu : seesB wUcb y
        · have HU := hide (setsX_no hbu)
          have CU := hide (unhide CEUcb y)
          rw [hbu, eat_no hbu] at CU
          clear hbu
          go_wp2_with fail
          refine (unhide CU _ (unhide INV).pat).mono ?_
          rintro e w3 ⟨rfl, hr, hm⟩
          have INV' := hide ((unhide INV).call hsz hr hm)
          have HOW' := hide (Mv.own hm (unhide HOW) (by omega))
          clear INV HOW hr hm
          have INV := INV'
          have HOW := HOW'
          clear INV' HOW'
          go_wp2_with fail
          refine (unhide CWSemi _ _ (unhide INV).pat).mono ?_
          rintro e w4 ⟨rfl, hr, hm⟩
          have INV' := hide ((unhide INV).call hsz hr hm)
          have HOW' := hide (Mv.own hm (unhide HOW) (by omega))
          clear INV HOW hr hm
          have INV := INV'
          have HOW := HOW'
          clear INV' HOW'
          have HX := hide (unhide CH _ _ _ _ _ _ _ _ (unhide HMX) (unhide HR8) (unhide HE) (unhide HU))
          have c0 : w4.cell? ⟨w.heap.size + 1, 0, none⟩ = some (.string (mkS t1.text)) := cell_block (unhide INV).box
          have c1 : w4.cell? ⟨w.heap.size + 1, 1, none⟩ = some (.int .i64 t3.n) := cell_block (unhide INV).box
          have c2 : w4.cell? ⟨w.heap.size + 1, 2, none⟩ = some (.int .i64 t5.n) := cell_block (unhide INV).box
          have c3 : w4.cell? ⟨w.heap.size + 1, 3, none⟩ = some (.int .i64 md) := cell_block (unhide INV).box
          have c4 : w4.cell? ⟨w.heap.size + 1, 4, none⟩ = some (.int .i64 mq) := cell_block (unhide INV).box
          have c5 : w4.cell? ⟨w.heap.size + 1, 5, none⟩ = some (.int .i64 mth) := cell_block (unhide INV).box
          have c6 : w4.cell? ⟨w.heap.size + 1, 6, none⟩ = some (.slice (some ⟨g, 0, none⟩) l.length c) := cell_block (unhide INV).box
          have c7 : w4.cell? ⟨w.heap.size + 1, 7, none⟩ = some (.int .u64 0) := cell_block (unhide INV).box
          have c8 : w4.cell? ⟨w.heap.size + 1, 8, none⟩ = some (.int .u64 0) := cell_block (unhide INV).box
          have fz := fun j => frozen_block (j := j) (unhide INV).box
          have z : ∀ j, w4.cell? ⟨w.heap.size, j, none⟩ = _ := fun j => cell_block (j := j) (unhide INV).res
          have fy := fun j => frozen_block (j := j) (unhide INV).res
          have z0 : w4.cell? ⟨w.heap.size, 0, none⟩ = some (.string ⟨#[]⟩) := z 0
          have z1 : w4.cell? ⟨w.heap.size, 1, none⟩ = some (.int .i64 0) := z 1
          have z2 : w4.cell? ⟨w.heap.size, 2, none⟩ = some (.int .i64 0) := z 2
          have z3 : w4.cell? ⟨w.heap.size, 3, none⟩ = some (.int .i64 0) := z 3
          have z4 : w4.cell? ⟨w.heap.size, 4, none⟩ = some (.int .i64 0) := z 4
          have z5 : w4.cell? ⟨w.heap.size, 5, none⟩ = some (.int .i64 0) := z 5
          have z6 : w4.cell? ⟨w.heap.size, 6, none⟩ = some (.slice none 0 0) := z 6
          have z7 : w4.cell? ⟨w.heap.size, 7, none⟩ = some (.int .u64 0) := z 7
          have z8 : w4.cell? ⟨w.heap.size, 8, none⟩ = some (.int .u64 0) := z 8
          clear z
          have hne2 : w.heap.size ≠ w.heap.size + 1 := by omega
          have HD := hide (Done.put (Done.put (Done.put (Done.put (Done.put (Done.put (Done.put (Done.put (Done.put ((⟨(unhide INV).pat, (unhide INV).mv, unhide HOW⟩ : Done w _ R _ _ _ _)) hsz 0 (.string (mkS t1.text))) hsz 1 (.int .i64 t3.n)) hsz 2 (.int .i64 t5.n)) hsz 3 (.int .i64 md)) hsz 4 (.int .i64 mq)) hsz 5 (.int .i64 mth)) hsz 6 (.slice (some ⟨g, 0, none⟩) l.length c)) hsz 7 (.int .u64 0)) hsz 8 (.int .u64 0))
          go_wp2
          refine bodyPost_ret (v := (⟨mkS t1.text, t3.n, t5.n, md, mq, mth, some ⟨g, 0, none⟩, c, (0 : Nat), (0 : Nat), l⟩ : TaskV).val) (by rw [results_cell1 rfl]; go_simp; rfl) rfl ?_
          exact ⟨⟨mkS t1.text, t3.n, t5.n, md, mq, mth, some ⟨g, 0, none⟩, c, (0 : Nat), (0 : Nat), l⟩, _, rfl, ⟨own_base (unhide HD).own (by omega), by simp, unhide HLEN, unhide T1, iz _ (unhide T3), iz _ (unhide T5), (unhide HMI).1, (unhide HMI).2.1, (unhide HMI).2.2, uz _ (by decide), uz _ (by decide), fun n hn => iz n (unhide HALL n hn)⟩, (unhide HD).pat, unhide HX, (unhide HD).mv⟩
        · have HU0 := hide (setsX_yes hbu)
          have CU := hide (unhide CEUcb y)
          rw [hbu, eat_yes hbu] at CU
          clear hbu
          go_wp2_with fail
          refine (unhide CU _ (unhide INV).pat).mono ?_
          rintro e w3 ⟨rfl, hr, hm⟩
          have INV' := hide ((unhide INV).call hsz hr hm)
          have HOW' := hide (Mv.own hm (unhide HOW) (by omega))
          clear INV HOW hr hm
          have INV := INV'
          have HOW := HOW'
          clear INV' HOW'
          go_wp2_with fail
          refine (unhide CG _ _ (unhide INV).pat).mono ?_
          rintro e w4 ⟨vu, y10, rfl, hvu, hr, hux, hm⟩
          have HU := hide ((unhide HU0).trans hux)
          have HVU := hide hvu
          clear hux hvu HU0
          have INV' := hide ((unhide INV).call hsz hr hm)
          have HOW' := hide (Mv.own hm (unhide HOW) (by omega))
          clear INV HOW hr hm
          have INV := INV'
          have HOW := HOW'
          clear INV' HOW'
          have c0 : w4.cell? ⟨w.heap.size + 1, 0, none⟩ = some (.string (mkS t1.text)) := cell_block (unhide INV).box
          have c1 : w4.cell? ⟨w.heap.size + 1, 1, none⟩ = some (.int .i64 t3.n) := cell_block (unhide INV).box
          have c2 : w4.cell? ⟨w.heap.size + 1, 2, none⟩ = some (.int .i64 t5.n) := cell_block (unhide INV).box
          have c3 : w4.cell? ⟨w.heap.size + 1, 3, none⟩ = some (.int .i64 md) := cell_block (unhide INV).box
          have c4 : w4.cell? ⟨w.heap.size + 1, 4, none⟩ = some (.int .i64 mq) := cell_block (unhide INV).box
          have c5 : w4.cell? ⟨w.heap.size + 1, 5, none⟩ = some (.int .i64 mth) := cell_block (unhide INV).box
          have c6 : w4.cell? ⟨w.heap.size + 1, 6, none⟩ = some (.slice (some ⟨g, 0, none⟩) l.length c) := cell_block (unhide INV).box
          have c7 : w4.cell? ⟨w.heap.size + 1, 7, none⟩ = some (.int .u64 0) := cell_block (unhide INV).box
          have c8 : w4.cell? ⟨w.heap.size + 1, 8, none⟩ = some (.int .u64 0) := cell_block (unhide INV).box
          have fz := fun j => frozen_block (j := j) (unhide INV).box
          go_wp2_with fail
          refine (unhide CWSemi _ _ (TInv.put (unhide INV) hsz 8 (.int .u64 vu)).pat).mono ?_
          rintro e w5 ⟨rfl, hr, hm⟩
          have INV' := hide ((TInv.put (unhide INV) hsz 8 (.int .u64 vu)).call hsz hr hm)
          have HOW' := hide (Mv.own hm (own_set (unhide HOW) (unhide INV).box (by decide) 8 (.int .u64 vu)) (by omega))
          clear INV HOW hr hm
          have INV := INV'
          have HOW := HOW'
          clear INV' HOW'
          simp only [List.setIfInBounds_toArray, List.set_cons_zero, List.set_cons_succ] at INV
          clear c0 c1 c2 c3 c4 c5 c6 c7 c8 fz
          have HX := hide (unhide CH _ _ _ _ _ _ _ _ (unhide HMX) (unhide HR8) (unhide HE) (unhide HU))
          have c0 : w5.cell? ⟨w.heap.size + 1, 0, none⟩ = some (.string (mkS t1.text)) := cell_block (unhide INV).box
          have c1 : w5.cell? ⟨w.heap.size + 1, 1, none⟩ = some (.int .i64 t3.n) := cell_block (unhide INV).box
          have c2 : w5.cell? ⟨w.heap.size + 1, 2, none⟩ = some (.int .i64 t5.n) := cell_block (unhide INV).box
          have c3 : w5.cell? ⟨w.heap.size + 1, 3, none⟩ = some (.int .i64 md) := cell_block (unhide INV).box
          have c4 : w5.cell? ⟨w.heap.size + 1, 4, none⟩ = some (.int .i64 mq) := cell_block (unhide INV).box
          have c5 : w5.cell? ⟨w.heap.size + 1, 5, none⟩ = some (.int .i64 mth) := cell_block (unhide INV).box
          have c6 : w5.cell? ⟨w.heap.size + 1, 6, none⟩ = some (.slice (some ⟨g, 0, none⟩) l.length c) := cell_block (unhide INV).box
          have c7 : w5.cell? ⟨w.heap.size + 1, 7, none⟩ = some (.int .u64 0) := cell_block (unhide INV).box
          have c8 : w5.cell? ⟨w.heap.size + 1, 8, none⟩ = some (.int .u64 vu) := cell_block (unhide INV).box
          have fz := fun j => frozen_block (j := j) (unhide INV).box
          have z : ∀ j, w5.cell? ⟨w.heap.size, j, none⟩ = _ := fun j => cell_block (j := j) (unhide INV).res
          have fy := fun j => frozen_block (j := j) (unhide INV).res
          have z0 : w5.cell? ⟨w.heap.size, 0, none⟩ = some (.string ⟨#[]⟩) := z 0
          have z1 : w5.cell? ⟨w.heap.size, 1, none⟩ = some (.int .i64 0) := z 1
          have z2 : w5.cell? ⟨w.heap.size, 2, none⟩ = some (.int .i64 0) := z 2
          have z3 : w5.cell? ⟨w.heap.size, 3, none⟩ = some (.int .i64 0) := z 3
          have z4 : w5.cell? ⟨w.heap.size, 4, none⟩ = some (.int .i64 0) := z 4
          have z5 : w5.cell? ⟨w.heap.size, 5, none⟩ = some (.int .i64 0) := z 5
          have z6 : w5.cell? ⟨w.heap.size, 6, none⟩ = some (.slice none 0 0) := z 6
          have z7 : w5.cell? ⟨w.heap.size, 7, none⟩ = some (.int .u64 0) := z 7
          have z8 : w5.cell? ⟨w.heap.size, 8, none⟩ = some (.int .u64 0) := z 8
          clear z
          have hne2 : w.heap.size ≠ w.heap.size + 1 := by omega
          have HD := hide (Done.put (Done.put (Done.put (Done.put (Done.put (Done.put (Done.put (Done.put (Done.put ((⟨(unhide INV).pat, (unhide INV).mv, unhide HOW⟩ : Done w _ R _ _ _ _)) hsz 0 (.string (mkS t1.text))) hsz 1 (.int .i64 t3.n)) hsz 2 (.int .i64 t5.n)) hsz 3 (.int .i64 md)) hsz 4 (.int .i64 mq)) hsz 5 (.int .i64 mth)) hsz 6 (.slice (some ⟨g, 0, none⟩) l.length c)) hsz 7 (.int .u64 0)) hsz 8 (.int .u64 vu))
          go_wp2
          refine bodyPost_ret (v := (⟨mkS t1.text, t3.n, t5.n, md, mq, mth, some ⟨g, 0, none⟩, c, (0 : Nat), vu, l⟩ : TaskV).val) (by rw [results_cell1 rfl]; go_simp; rfl) rfl ?_
          exact ⟨⟨mkS t1.text, t3.n, t5.n, md, mq, mth, some ⟨g, 0, none⟩, c, (0 : Nat), vu, l⟩, _, rfl, ⟨own_base (unhide HD).own (by omega), by simp, unhide HLEN, unhide T1, iz _ (unhide T3), iz _ (unhide T5), (unhide HMI).1, (unhide HMI).2.1, (unhide HMI).2.2, uz _ (by decide), uz _ (unhide HVU), fun n hn => iz n (unhide HALL n hn)⟩, (unhide HD).pat, unhide HX, (unhide HD).mv⟩
      · have HE0 := hide (setsX_yes hbe)
        have CE := hide (unhide CEEcb y)
        rw [hbe, eat_yes hbe] at CE
        clear hbe
        go_wp2_with fail
        refine (unhide CE _ (unhide INV).pat).mono ?_
        rintro e w2 ⟨rfl, hr, hm⟩
        have INV' := hide ((unhide INV).call hsz hr hm)
        have HOW' := hide (Mv.own hm (unhide HOW) (by omega))
        clear INV HOW hr hm
        have INV := INV'
        have HOW := HOW'
        clear INV' HOW'
        go_wp2_with fail
        refine (unhide CG _ _ (unhide INV).pat).mono ?_
        rintro e w3 ⟨ve, y9, rfl, hve, hr, hex, hm⟩
        have HE := hide ((unhide HE0).trans hex)
        have HVE := hide hve
        clear hex hve HE0
        have INV' := hide ((unhide INV).call hsz hr hm)
        have HOW' := hide (Mv.own hm (unhide HOW) (by omega))
        clear INV HOW hr hm
        have INV := INV'
        have HOW := HOW'
        clear INV' HOW'
        cases hbu : seesB wUcb y9
        · have HU := hide (setsX_no hbu)
          have CU := hide (unhide CEUcb y9)
          rw [hbu, eat_no hbu] at CU
          clear hbu
          have c0 : w3.cell? ⟨w.heap.size + 1, 0, none⟩ = some (.string (mkS t1.text)) := cell_block (unhide INV).box
          have c1 : w3.cell? ⟨w.heap.size + 1, 1, none⟩ = some (.int .i64 t3.n) := cell_block (unhide INV).box
          have c2 : w3.cell? ⟨w.heap.size + 1, 2, none⟩ = some (.int .i64 t5.n) := cell_block (unhide INV).box
          have c3 : w3.cell? ⟨w.heap.size + 1, 3, none⟩ = some (.int .i64 md) := cell_block (unhide INV).box
          have c4 : w3.cell? ⟨w.heap.size + 1, 4, none⟩ = some (.int .i64 mq) := cell_block (unhide INV).box
          have c5 : w3.cell? ⟨w.heap.size + 1, 5, none⟩ = some (.int .i64 mth) := cell_block (unhide INV).box
          have c6 : w3.cell? ⟨w.heap.size + 1, 6, none⟩ = some (.slice (some ⟨g, 0, none⟩) l.length c) := cell_block (unhide INV).box
          have c7 : w3.cell? ⟨w.heap.size + 1, 7, none⟩ = some (.int .u64 0) := cell_block (unhide INV).box
          have c8 : w3.cell? ⟨w.heap.size + 1, 8, none⟩ = some (.int .u64 0) := cell_block (unhide INV).box
          have fz := fun j => frozen_block (j := j) (unhide INV).box
          go_wp2_with fail
          refine (unhide CU _ (TInv.put (unhide INV) hsz 7 (.int .u64 ve)).pat).mono ?_
          rintro e w4 ⟨rfl, hr, hm⟩
          have INV' := hide ((TInv.put (unhide INV) hsz 7 (.int .u64 ve)).call hsz hr hm)
          have HOW' := hide (Mv.own hm (own_set (unhide HOW) (unhide INV).box (by decide) 7 (.int .u64 ve)) (by omega))
          clear INV HOW hr hm
          have INV := INV'
          have HOW := HOW'
          clear INV' HOW'
          simp only [List.setIfInBounds_toArray, List.set_cons_zero, List.set_cons_succ] at INV
          clear c0 c1 c2 c3 c4 c5 c6 c7 c8 fz
          go_wp2_with fail
          refine (unhide CWSemi _ _ (unhide INV).pat).mono ?_
          rintro e w5 ⟨rfl, hr, hm⟩
          have INV' := hide ((unhide INV).call hsz hr hm)
          have HOW' := hide (Mv.own hm (unhide HOW) (by omega))
          clear INV HOW hr hm
          have INV := INV'
          have HOW := HOW'
          clear INV' HOW'
          have HX := hide (unhide CH _ _ _ _ _ _ _ _ (unhide HMX) (unhide HR8) (unhide HE) (unhide HU))
          have c0 : w5.cell? ⟨w.heap.size + 1, 0, none⟩ = some (.string (mkS t1.text)) := cell_block (unhide INV).box
          have c1 : w5.cell? ⟨w.heap.size + 1, 1, none⟩ = some (.int .i64 t3.n) := cell_block (unhide INV).box
          have c2 : w5.cell? ⟨w.heap.size + 1, 2, none⟩ = some (.int .i64 t5.n) := cell_block (unhide INV).box
          have c3 : w5.cell? ⟨w.heap.size + 1, 3, none⟩ = some (.int .i64 md) := cell_block (unhide INV).box
          have c4 : w5.cell? ⟨w.heap.size + 1, 4, none⟩ = some (.int .i64 mq) := cell_block (unhide INV).box
          have c5 : w5.cell? ⟨w.heap.size + 1, 5, none⟩ = some (.int .i64 mth) := cell_block (unhide INV).box
          have c6 : w5.cell? ⟨w.heap.size + 1, 6, none⟩ = some (.slice (some ⟨g, 0, none⟩) l.length c) := cell_block (unhide INV).box
          have c7 : w5.cell? ⟨w.heap.size + 1, 7, none⟩ = some (.int .u64 ve) := cell_block (unhide INV).box
          have c8 : w5.cell? ⟨w.heap.size + 1, 8, none⟩ = some (.int .u64 0) := cell_block (unhide INV).box
          have fz := fun j => frozen_block (j := j) (unhide INV).box
          have z : ∀ j, w5.cell? ⟨w.heap.size, j, none⟩ = _ := fun j => cell_block (j := j) (unhide INV).res
          have fy := fun j => frozen_block (j := j) (unhide INV).res
          have z0 : w5.cell? ⟨w.heap.size, 0, none⟩ = some (.string ⟨#[]⟩) := z 0
          have z1 : w5.cell? ⟨w.heap.size, 1, none⟩ = some (.int .i64 0) := z 1
          have z2 : w5.cell? ⟨w.heap.size, 2, none⟩ = some (.int .i64 0) := z 2
          have z3 : w5.cell? ⟨w.heap.size, 3, none⟩ = some (.int .i64 0) := z 3
          have z4 : w5.cell? ⟨w.heap.size, 4, none⟩ = some (.int .i64 0) := z 4
          have z5 : w5.cell? ⟨w.heap.size, 5, none⟩ = some (.int .i64 0) := z 5
          have z6 : w5.cell? ⟨w.heap.size, 6, none⟩ = some (.slice none 0 0) := z 6
          have z7 : w5.cell? ⟨w.heap.size, 7, none⟩ = some (.int .u64 0) := z 7
          have z8 : w5.cell? ⟨w.heap.size, 8, none⟩ = some (.int .u64 0) := z 8
          clear z
          have hne2 : w.heap.size ≠ w.heap.size + 1 := by omega
          have HD := hide (Done.put (Done.put (Done.put (Done.put (Done.put (Done.put (Done.put (Done.put (Done.put ((⟨(unhide INV).pat, (unhide INV).mv, unhide HOW⟩ : Done w _ R _ _ _ _)) hsz 0 (.string (mkS t1.text))) hsz 1 (.int .i64 t3.n)) hsz 2 (.int .i64 t5.n)) hsz 3 (.int .i64 md)) hsz 4 (.int .i64 mq)) hsz 5 (.int .i64 mth)) hsz 6 (.slice (some ⟨g, 0, none⟩) l.length c)) hsz 7 (.int .u64 ve)) hsz 8 (.int .u64 0))
          go_wp2
          refine bodyPost_ret (v := (⟨mkS t1.text, t3.n, t5.n, md, mq, mth, some ⟨g, 0, none⟩, c, ve, (0 : Nat), l⟩ : TaskV).val) (by rw [results_cell1 rfl]; go_simp; rfl) rfl ?_
          exact ⟨⟨mkS t1.text, t3.n, t5.n, md, mq, mth, some ⟨g, 0, none⟩, c, ve, (0 : Nat), l⟩, _, rfl, ⟨own_base (unhide HD).own (by omega), by simp, unhide HLEN, unhide T1, iz _ (unhide T3), iz _ (unhide T5), (unhide HMI).1, (unhide HMI).2.1, (unhide HMI).2.2, uz _ (unhide HVE), uz _ (by decide), fun n hn => iz n (unhide HALL n hn)⟩, (unhide HD).pat, unhide HX, (unhide HD).mv⟩
        · have HU0 := hide (setsX_yes hbu)
          have CU := hide (unhide CEUcb y9)
          rw [hbu, eat_yes hbu] at CU
          clear hbu
          have c0 : w3.cell? ⟨w.heap.size + 1, 0, none⟩ = some (.string (mkS t1.text)) := cell_block (unhide INV).box
          have c1 : w3.cell? ⟨w.heap.size + 1, 1, none⟩ = some (.int .i64 t3.n) := cell_block (unhide INV).box
          have c2 : w3.cell? ⟨w.heap.size + 1, 2, none⟩ = some (.int .i64 t5.n) := cell_block (unhide INV).box
          have c3 : w3.cell? ⟨w.heap.size + 1, 3, none⟩ = some (.int .i64 md) := cell_block (unhide INV).box
          have c4 : w3.cell? ⟨w.heap.size + 1, 4, none⟩ = some (.int .i64 mq) := cell_block (unhide INV).box
          have c5 : w3.cell? ⟨w.heap.size + 1, 5, none⟩ = some (.int .i64 mth) := cell_block (unhide INV).box
          have c6 : w3.cell? ⟨w.heap.size + 1, 6, none⟩ = some (.slice (some ⟨g, 0, none⟩) l.length c) := cell_block (unhide INV).box
          have c7 : w3.cell? ⟨w.heap.size + 1, 7, none⟩ = some (.int .u64 0) := cell_block (unhide INV).box
          have c8 : w3.cell? ⟨w.heap.size + 1, 8, none⟩ = some (.int .u64 0) := cell_block (unhide INV).box
          have fz := fun j => frozen_block (j := j) (unhide INV).box
          go_wp2_with fail
          refine (unhide CU _ (TInv.put (unhide INV) hsz 7 (.int .u64 ve)).pat).mono ?_
          rintro e w4 ⟨rfl, hr, hm⟩
          have INV' := hide ((TInv.put (unhide INV) hsz 7 (.int .u64 ve)).call hsz hr hm)
          have HOW' := hide (Mv.own hm (own_set (unhide HOW) (unhide INV).box (by decide) 7 (.int .u64 ve)) (by omega))
          clear INV HOW hr hm
          have INV := INV'
          have HOW := HOW'
          clear INV' HOW'
          simp only [List.setIfInBounds_toArray, List.set_cons_zero, List.set_cons_succ] at INV
          clear c0 c1 c2 c3 c4 c5 c6 c7 c8 fz
          go_wp2_with fail
          refine (unhide CG _ _ (unhide INV).pat).mono ?_
          rintro e w5 ⟨vu, y10, rfl, hvu, hr, hux, hm⟩
          have HU := hide ((unhide HU0).trans hux)
          have HVU := hide hvu
          clear hux hvu HU0
          have INV' := hide ((unhide INV).call hsz hr hm)
          have HOW' := hide (Mv.own hm (unhide HOW) (by omega))
          clear INV HOW hr hm
          have INV := INV'
          have HOW := HOW'
          clear INV' HOW'
          have c0 : w5.cell? ⟨w.heap.size + 1, 0, none⟩ = some (.string (mkS t1.text)) := cell_block (unhide INV).box
          have c1 : w5.cell? ⟨w.heap.size + 1, 1, none⟩ = some (.int .i64 t3.n) := cell_block (unhide INV).box
          have c2 : w5.cell? ⟨w.heap.size + 1, 2, none⟩ = some (.int .i64 t5.n) := cell_block (unhide INV).box
          have c3 : w5.cell? ⟨w.heap.size + 1, 3, none⟩ = some (.int .i64 md) := cell_block (unhide INV).box
          have c4 : w5.cell? ⟨w.heap.size + 1, 4, none⟩ = some (.int .i64 mq) := cell_block (unhide INV).box
          have c5 : w5.cell? ⟨w.heap.size + 1, 5, none⟩ = some (.int .i64 mth) := cell_block (unhide INV).box
          have c6 : w5.cell? ⟨w.heap.size + 1, 6, none⟩ = some (.slice (some ⟨g, 0, none⟩) l.length c) := cell_block (unhide INV).box
          have c7 : w5.cell? ⟨w.heap.size + 1, 7, none⟩ = some (.int .u64 ve) := cell_block (unhide INV).box
          have c8 : w5.cell? ⟨w.heap.size + 1, 8, none⟩ = some (.int .u64 0) := cell_block (unhide INV).box
          have fz := fun j => frozen_block (j := j) (unhide INV).box
          go_wp2_with fail
          refine (unhide CWSemi _ _ (TInv.put (unhide INV) hsz 8 (.int .u64 vu)).pat).mono ?_
          rintro e w6 ⟨rfl, hr, hm⟩
          have INV' := hide ((TInv.put (unhide INV) hsz 8 (.int .u64 vu)).call hsz hr hm)
          have HOW' := hide (Mv.own hm (own_set (unhide HOW) (unhide INV).box (by decide) 8 (.int .u64 vu)) (by omega))
          clear INV HOW hr hm
          have INV := INV'
          have HOW := HOW'
          clear INV' HOW'
          simp only [List.setIfInBounds_toArray, List.set_cons_zero, List.set_cons_succ] at INV
          clear c0 c1 c2 c3 c4 c5 c6 c7 c8 fz
          have HX := hide (unhide CH _ _ _ _ _ _ _ _ (unhide HMX) (unhide HR8) (unhide HE) (unhide HU))
          have c0 : w6.cell? ⟨w.heap.size + 1, 0, none⟩ = some (.string (mkS t1.text)) := cell_block (unhide INV).box
          have c1 : w6.cell? ⟨w.heap.size + 1, 1, none⟩ = some (.int .i64 t3.n) := cell_block (unhide INV).box
          have c2 : w6.cell? ⟨w.heap.size + 1, 2, none⟩ = some (.int .i64 t5.n) := cell_block (unhide INV).box
          have c3 : w6.cell? ⟨w.heap.size + 1, 3, none⟩ = some (.int .i64 md) := cell_block (unhide INV).box
          have c4 : w6.cell? ⟨w.heap.size + 1, 4, none⟩ = some (.int .i64 mq) := cell_block (unhide INV).box
          have c5 : w6.cell? ⟨w.heap.size + 1, 5, none⟩ = some (.int .i64 mth) := cell_block (unhide INV).box
          have c6 : w6.cell? ⟨w.heap.size + 1, 6, none⟩ = some (.slice (some ⟨g, 0, none⟩) l.length c) := cell_block (unhide INV).box
          have c7 : w6.cell? ⟨w.heap.size + 1, 7, none⟩ = some (.int .u64 ve) := cell_block (unhide INV).box
          have c8 : w6.cell? ⟨w.heap.size + 1, 8, none⟩ = some (.int .u64 vu) := cell_block (unhide INV).box
          have fz := fun j => frozen_block (j := j) (unhide INV).box
          have z : ∀ j, w6.cell? ⟨w.heap.size, j, none⟩ = _ := fun j => cell_block (j := j) (unhide INV).res
          have fy := fun j => frozen_block (j := j) (unhide INV).res
          have z0 : w6.cell? ⟨w.heap.size, 0, none⟩ = some (.string ⟨#[]⟩) := z 0
          have z1 : w6.cell? ⟨w.heap.size, 1, none⟩ = some (.int .i64 0) := z 1
          have z2 : w6.cell? ⟨w.heap.size, 2, none⟩ = some (.int .i64 0) := z 2
          have z3 : w6.cell? ⟨w.heap.size, 3, none⟩ = some (.int .i64 0) := z 3
          have z4 : w6.cell? ⟨w.heap.size, 4, none⟩ = some (.int .i64 0) := z 4
          have z5 : w6.cell? ⟨w.heap.size, 5, none⟩ = some (.int .i64 0) := z 5
          have z6 : w6.cell? ⟨w.heap.size, 6, none⟩ = some (.slice none 0 0) := z 6
          have z7 : w6.cell? ⟨w.heap.size, 7, none⟩ = some (.int .u64 0) := z 7
          have z8 : w6.cell? ⟨w.heap.size, 8, none⟩ = some (.int .u64 0) := z 8
          clear z
          have hne2 : w.heap.size ≠ w.heap.size + 1 := by omega
          have HD := hide (Done.put (Done.put (Done.put (Done.put (Done.put (Done.put (Done.put (Done.put (Done.put ((⟨(unhide INV).pat, (unhide INV).mv, unhide HOW⟩ : Done w _ R _ _ _ _)) hsz 0 (.string (mkS t1.text))) hsz 1 (.int .i64 t3.n)) hsz 2 (.int .i64 t5.n)) hsz 3 (.int .i64 md)) hsz 4 (.int .i64 mq)) hsz 5 (.int .i64 mth)) hsz 6 (.slice (some ⟨g, 0, none⟩) l.length c)) hsz 7 (.int .u64 ve)) hsz 8 (.int .u64 vu))
          go_wp2
          refine bodyPost_ret (v := (⟨mkS t1.text, t3.n, t5.n, md, mq, mth, some ⟨g, 0, none⟩, c, ve, vu, l⟩ : TaskV).val) (by rw [results_cell1 rfl]; go_simp; rfl) rfl ?_
          exact ⟨⟨mkS t1.text, t3.n, t5.n, md, mq, mth, some ⟨g, 0, none⟩, c, ve, vu, l⟩, _, rfl, ⟨own_base (unhide HD).own (by omega), by simp, unhide HLEN, unhide T1, iz _ (unhide T3), iz _ (unhide T5), (unhide HMI).1, (unhide HMI).2.1, (unhide HMI).2.2, uz _ (unhide HVE), uz _ (unhide HVU), fun n hn => iz n (unhide HALL n hn)⟩, (unhide HD).pat, unhide HX, (unhide HD).mv⟩
    · rw [hb] at hnow
      have HNX := hide (nums_next (l := l) hb)
      have HRX := hide hrx
      have hll : l.length ≤ 4003 := by omega
      have HLL := hide hlen
      clear hb hlen hrx
      go_wp2_with fail
      have INVD := hide (unhide INV).drew
      refine wp_region_held_drew (S := fun _ => True) (by kernel_rfl) trivial (fun hHeld => ?_)
      refine take_yes 0 36 (.pointer (some ⟨w.heap.size + 1, 6, none⟩)) rfl rfl (by kernel_rfl) (by kernel_rfl) (by kernel_rfl) (fun _ _ _ h => h) rfl trivial (by intro w9 hS9; go_simp) ?_
      simp only [List.setIfInBounds_toArray, List.set_cons_zero, List.set_cons_succ]
      refine take_yes 2 38 (.pointer (some ⟨R, 0, none⟩)) rfl rfl (by kernel_rfl) (by kernel_rfl) (by kernel_rfl) (fun _ _ _ h => h) rfl trivial (by intro w9 hS9; go_simp) ?_
      simp only [List.setIfInBounds_toArray, List.set_cons_zero, List.set_cons_succ]
      refine wpAnyH_ready (rs := [1, 3]) (by kernel_rfl) (by decide) (AllReadyH.cons rfl (fun K hK => ?_) (AllReadyH.cons rfl (fun K hK => ?_) AllReadyH.nil))
      · have c6 : (w1.drew).cell? ⟨w.heap.size + 1, 6, none⟩ = some (.slice (some ⟨g, 0, none⟩) l.length c) := cell_block (unhide INVD).box
        go_simp
        refine hK.out _ _ trivial (fun hHeld => ?_)
        clear hK K c6
        try simp only [List.setIfInBounds_toArray, List.set_cons_zero, List.set_cons_succ]
        refine wpAnyH_ready (rs := [3]) (by kernel_rfl) (by decide) (AllReadyH.cons rfl (fun K hK => ?_) AllReadyH.nil)
        refine (if_pos rfl).mpr ?_
        go_wp2_with fail
        refine (unhide CN _ _ (unhide INVD).pat).mono ?_
        rintro e w3 ⟨rfl, hr, hm⟩
        have INV3 := hide ((unhide INVD).call hsz hr hm)
        have OWN3 := hide (Mv.own hm (unhide HOW).drew (by omega))
        have HN := hide (ptaken_n (unhide INVD).pat 2)
        clear hr hm
        generalize takeT 2 y = t at *
        generalize goneP 2 y = y3 at *
        rw [tokV]
        have hfd : ∀ w : World, (Instr.field 62 (.agg #[.int .i64 t.kind, .string (mkS t.text), .int .i64 t.n, .int .i64 t.pos]) 2).run Tryd.prog w = .ok (.int .i64 t.n) w := fun _ => by kernel_rfl
        refine hK.out _ _ trivial (fun hHeld => ?_)
        clear hK K
        try simp only [List.setIfInBounds_toArray, List.set_cons_zero, List.set_cons_succ]
        refine take_yes 4 40 (.int .i64 t.n) rfl rfl (by kernel_rfl) (by kernel_rfl) (by kernel_rfl) (fun _ _ _ h => h) rfl trivial (by intro w9 hS9; go_simp) ?_
        simp only [List.setIfInBounds_toArray, List.set_cons_zero, List.set_cons_succ]
        refine wpAnyH_ready (rs := [5]) (by kernel_rfl) (by decide) (AllReadyH.cons rfl (fun K hK => ?_) AllReadyH.nil)
        go_simp
        refine hK.out _ _ trivial (fun hHeld => ?_)
        clear hK K
        try simp only [List.setIfInBounds_toArray, List.set_cons_zero, List.set_cons_succ]
        have FRESH := hide (fresh_int w3 t.n 2 rfl)
        have OWN := hide (World.ownsRow.alloc (unhide OWN3) (.cells #[.int .i64 t.n] 2))
        have hs3 := (unhide INV3).size
        refine wpAnyH_ready (rs := [6]) (by kernel_rfl) (by decide) (AllReadyH.cons rfl (fun K hK => ?_) AllReadyH.nil)
        refine step_append_own rfl (.tmp 37) (.tmp 41) 27 rfl (w.heap.size + 2) 2 i0 (.int .i64 0) 1 8 (by kernel_rfl) hi hz0 hz1 hz2 rfl (by decide) _ _ _ rfl (unhide OWN) ⟨w3.heap.size, 0, none⟩ 1 1 [intV t.n] rfl rfl (unhide FRESH) (one_int t.n) (by unfold maxLen; omega) (by omega) (by simp; omega) ?_
        intro v4 w4 hown4 hgrow4
        obtain ⟨g4, c4, rfl⟩ : ∃ g4 c4, v4 = .slice (some ⟨g4, 0, none⟩) (l.length + 1) c4 := by
          rcases hown4.2 with ⟨-, h0⟩ | ⟨g4, c4, cur, e, -⟩
          · omega
          · exact ⟨g4, c4, e⟩
        have lt : ∀ q, Value.ownBlock (.slice (some ⟨g, 0, none⟩) l.length c) = some q → w.heap.size + 2 ≤ q := fun q e => ((unhide OWN).lt q e).1
        have inv4 := ((unhide INV3).alloc (.cells #[.int .i64 t.n] 2)).grown hsz hgrow4 lt
        have q6 : w4.cell? ⟨w.heap.size + 1, 6, none⟩ = some (.slice (some ⟨g, 0, none⟩) l.length c) := cell_block inv4.box
        have f4 := frozen_block (j := 6) inv4.box
        have INV4 := hide (inv4.put hsz 6 (.slice (some ⟨g4, 0, none⟩) (l.length + 1) c4))
        have OWN4 := hide (own_set hown4 inv4.box (by decide) 6 (.slice (some ⟨g4, 0, none⟩) (l.length + 1) c4))
        simp only [List.setIfInBounds_toArray, List.set_cons_zero, List.set_cons_succ] at INV4
        clear hown4 hgrow4 inv4 lt OWN FRESH
        refine hK.out _ _ trivial (fun hHeld => ?_)
        clear hK K
        rw [put_some (d := 42) _ _ rfl]
        simp only [List.setIfInBounds_toArray, List.set_cons_zero, List.set_cons_succ]
        refine take_yes 7 43 (.pointer (some ⟨w.heap.size + 1, 6, none⟩)) rfl rfl (by kernel_rfl) (by kernel_rfl) (by kernel_rfl) (fun _ _ _ h => h) rfl trivial (by intro w9 hS9; go_simp) ?_
        simp only [List.setIfInBounds_toArray, List.set_cons_zero, List.set_cons_succ]
        refine wpAnyH_ready (rs := [8]) (by kernel_rfl) (by decide) (AllReadyH.cons rfl (fun K hK => ?_) AllReadyH.nil)
        go_simp
        refine hK.out _ _ trivial (fun hHeld => ?_)
        clear hK K q6 f4
        try simp only [List.setIfInBounds_toArray, List.set_cons_zero, List.set_cons_succ]
        refine wpAnyH_done (by kernel_rfl) ?_ _
        go_wp2
        go_roundw
        case rel => exact ⟨g4, c4, l ++ [t.n], y3, by rw [List.length_append]; exact unhide INV4, by rw [List.length_append, List.map_append]; exact unhide OWN4, by have := (unhide HNX).2; have := unhide HLL; simp; omega, fun n hn => by
          rcases List.mem_append.1 hn with q | q
          · exact unhide HALL n q
          · rw [List.mem_singleton.1 q]; exact unhide HN, (unhide HRX).trans (unhide HNX).1⟩
        case measure => rw [unhide HMEA, (unhide INV4).pat.mea]; have := (unhide HNX).2; omega
      · refine (if_pos rfl).mpr ?_
        go_wp2_with fail
        refine (unhide CN _ _ (unhide INVD).pat).mono ?_
        rintro e w3 ⟨rfl, hr, hm⟩
        have INV3 := hide ((unhide INVD).call hsz hr hm)
        have OWN3 := hide (Mv.own hm (unhide HOW).drew (by omega))
        have HN := hide (ptaken_n (unhide INVD).pat 2)
        clear hr hm
        generalize takeT 2 y = t at *
        generalize goneP 2 y = y3 at *
        rw [tokV]
        have hfd : ∀ w : World, (Instr.field 62 (.agg #[.int .i64 t.kind, .string (mkS t.text), .int .i64 t.n, .int .i64 t.pos]) 2).run Tryd.prog w = .ok (.int .i64 t.n) w := fun _ => by kernel_rfl
        refine hK.out _ _ trivial (fun hHeld => ?_)
        clear hK K
        try simp only [List.setIfInBounds_toArray, List.set_cons_zero, List.set_cons_succ]
        refine take_yes 4 40 (.int .i64 t.n) rfl rfl (by kernel_rfl) (by kernel_rfl) (by kernel_rfl) (fun _ _ _ h => h) rfl trivial (by intro w9 hS9; go_simp) ?_
        simp only [List.setIfInBounds_toArray, List.set_cons_zero, List.set_cons_succ]
        refine wpAnyH_ready (rs := [1, 5]) (by kernel_rfl) (by decide) (AllReadyH.cons rfl (fun K hK => ?_) (AllReadyH.cons rfl (fun K hK => ?_) AllReadyH.nil))
        · have c6 : (w3).cell? ⟨w.heap.size + 1, 6, none⟩ = some (.slice (some ⟨g, 0, none⟩) l.length c) := cell_block (unhide INV3).box
          go_simp
          refine hK.out _ _ trivial (fun hHeld => ?_)
          clear hK K c6
          try simp only [List.setIfInBounds_toArray, List.set_cons_zero, List.set_cons_succ]
          refine wpAnyH_ready (rs := [5]) (by kernel_rfl) (by decide) (AllReadyH.cons rfl (fun K hK => ?_) AllReadyH.nil)
          go_simp
          refine hK.out _ _ trivial (fun hHeld => ?_)
          clear hK K
          try simp only [List.setIfInBounds_toArray, List.set_cons_zero, List.set_cons_succ]
          have FRESH := hide (fresh_int w3 t.n 2 rfl)
          have OWN := hide (World.ownsRow.alloc (unhide OWN3) (.cells #[.int .i64 t.n] 2))
          have hs3 := (unhide INV3).size
          refine wpAnyH_ready (rs := [6]) (by kernel_rfl) (by decide) (AllReadyH.cons rfl (fun K hK => ?_) AllReadyH.nil)
          refine step_append_own rfl (.tmp 37) (.tmp 41) 27 rfl (w.heap.size + 2) 2 i0 (.int .i64 0) 1 8 (by kernel_rfl) hi hz0 hz1 hz2 rfl (by decide) _ _ _ rfl (unhide OWN) ⟨w3.heap.size, 0, none⟩ 1 1 [intV t.n] rfl rfl (unhide FRESH) (one_int t.n) (by unfold maxLen; omega) (by omega) (by simp; omega) ?_
          intro v4 w4 hown4 hgrow4
          obtain ⟨g4, c4, rfl⟩ : ∃ g4 c4, v4 = .slice (some ⟨g4, 0, none⟩) (l.length + 1) c4 := by
            rcases hown4.2 with ⟨-, h0⟩ | ⟨g4, c4, cur, e, -⟩
            · omega
            · exact ⟨g4, c4, e⟩
          have lt : ∀ q, Value.ownBlock (.slice (some ⟨g, 0, none⟩) l.length c) = some q → w.heap.size + 2 ≤ q := fun q e => ((unhide OWN).lt q e).1
          have inv4 := ((unhide INV3).alloc (.cells #[.int .i64 t.n] 2)).grown hsz hgrow4 lt
          have q6 : w4.cell? ⟨w.heap.size + 1, 6, none⟩ = some (.slice (some ⟨g, 0, none⟩) l.length c) := cell_block inv4.box
          have f4 := frozen_block (j := 6) inv4.box
          have INV4 := hide (inv4.put hsz 6 (.slice (some ⟨g4, 0, none⟩) (l.length + 1) c4))
          have OWN4 := hide (own_set hown4 inv4.box (by decide) 6 (.slice (some ⟨g4, 0, none⟩) (l.length + 1) c4))
          simp only [List.setIfInBounds_toArray, List.set_cons_zero, List.set_cons_succ] at INV4
          clear hown4 hgrow4 inv4 lt OWN FRESH
          refine hK.out _ _ trivial (fun hHeld => ?_)
          clear hK K
          rw [put_some (d := 42) _ _ rfl]
          simp only [List.setIfInBounds_toArray, List.set_cons_zero, List.set_cons_succ]
          refine take_yes 7 43 (.pointer (some ⟨w.heap.size + 1, 6, none⟩)) rfl rfl (by kernel_rfl) (by kernel_rfl) (by kernel_rfl) (fun _ _ _ h => h) rfl trivial (by intro w9 hS9; go_simp) ?_
          simp only [List.setIfInBounds_toArray, List.set_cons_zero, List.set_cons_succ]
          refine wpAnyH_ready (rs := [8]) (by kernel_rfl) (by decide) (AllReadyH.cons rfl (fun K hK => ?_) AllReadyH.nil)
          go_simp
          refine hK.out _ _ trivial (fun hHeld => ?_)
          clear hK K q6 f4
          try simp only [List.setIfInBounds_toArray, List.set_cons_zero, List.set_cons_succ]
          refine wpAnyH_done (by kernel_rfl) ?_ _
          go_wp2
          go_roundw
          case rel => exact ⟨g4, c4, l ++ [t.n], y3, by rw [List.length_append]; exact unhide INV4, by rw [List.length_append, List.map_append]; exact unhide OWN4, by have := (unhide HNX).2; have := unhide HLL; simp; omega, fun n hn => by
            rcases List.mem_append.1 hn with q | q
            · exact unhide HALL n q
            · rw [List.mem_singleton.1 q]; exact unhide HN, (unhide HRX).trans (unhide HNX).1⟩
          case measure => rw [unhide HMEA, (unhide INV4).pat.mea]; have := (unhide HNX).2; omega
        · go_simp
          refine hK.out _ _ trivial (fun hHeld => ?_)
          clear hK K
          try simp only [List.setIfInBounds_toArray, List.set_cons_zero, List.set_cons_succ]
          refine wpAnyH_ready (rs := [1]) (by kernel_rfl) (by decide) (AllReadyH.cons rfl (fun K hK => ?_) AllReadyH.nil)
          have c6 : (w3.alloc (.cells #[.int .i64 t.n] 2)).cell? ⟨w.heap.size + 1, 6, none⟩ = some (.slice (some ⟨g, 0, none⟩) l.length c) := cell_block (block_alloc (unhide INV3).box)
          go_simp
          refine hK.out _ _ trivial (fun hHeld => ?_)
          clear hK K c6
          try simp only [List.setIfInBounds_toArray, List.set_cons_zero, List.set_cons_succ]
          have FRESH := hide (fresh_int w3 t.n 2 rfl)
          have OWN := hide (World.ownsRow.alloc (unhide OWN3) (.cells #[.int .i64 t.n] 2))
          have hs3 := (unhide INV3).size
          refine wpAnyH_ready (rs := [6]) (by kernel_rfl) (by decide) (AllReadyH.cons rfl (fun K hK => ?_) AllReadyH.nil)
          refine step_append_own rfl (.tmp 37) (.tmp 41) 27 rfl (w.heap.size + 2) 2 i0 (.int .i64 0) 1 8 (by kernel_rfl) hi hz0 hz1 hz2 rfl (by decide) _ _ _ rfl (unhide OWN) ⟨w3.heap.size, 0, none⟩ 1 1 [intV t.n] rfl rfl (unhide FRESH) (one_int t.n) (by unfold maxLen; omega) (by omega) (by simp; omega) ?_
          intro v4 w4 hown4 hgrow4
          obtain ⟨g4, c4, rfl⟩ : ∃ g4 c4, v4 = .slice (some ⟨g4, 0, none⟩) (l.length + 1) c4 := by
            rcases hown4.2 with ⟨-, h0⟩ | ⟨g4, c4, cur, e, -⟩
            · omega
            · exact ⟨g4, c4, e⟩
          have lt : ∀ q, Value.ownBlock (.slice (some ⟨g, 0, none⟩) l.length c) = some q → w.heap.size + 2 ≤ q := fun q e => ((unhide OWN).lt q e).1
          have inv4 := ((unhide INV3).alloc (.cells #[.int .i64 t.n] 2)).grown hsz hgrow4 lt
          have q6 : w4.cell? ⟨w.heap.size + 1, 6, none⟩ = some (.slice (some ⟨g, 0, none⟩) l.length c) := cell_block inv4.box
          have f4 := frozen_block (j := 6) inv4.box
          have INV4 := hide (inv4.put hsz 6 (.slice (some ⟨g4, 0, none⟩) (l.length + 1) c4))
          have OWN4 := hide (own_set hown4 inv4.box (by decide) 6 (.slice (some ⟨g4, 0, none⟩) (l.length + 1) c4))
          simp only [List.setIfInBounds_toArray, List.set_cons_zero, List.set_cons_succ] at INV4
          clear hown4 hgrow4 inv4 lt OWN FRESH
          refine hK.out _ _ trivial (fun hHeld => ?_)
          clear hK K
          rw [put_some (d := 42) _ _ rfl]
          simp only [List.setIfInBounds_toArray, List.set_cons_zero, List.set_cons_succ]
          refine take_yes 7 43 (.pointer (some ⟨w.heap.size + 1, 6, none⟩)) rfl rfl (by kernel_rfl) (by kernel_rfl) (by kernel_rfl) (fun _ _ _ h => h) rfl trivial (by intro w9 hS9; go_simp) ?_
          simp only [List.setIfInBounds_toArray, List.set_cons_zero, List.set_cons_succ]
          refine wpAnyH_ready (rs := [8]) (by kernel_rfl) (by decide) (AllReadyH.cons rfl (fun K hK => ?_) AllReadyH.nil)
          go_simp
          refine hK.out _ _ trivial (fun hHeld => ?_)
          clear hK K q6 f4
          try simp only [List.setIfInBounds_toArray, List.set_cons_zero, List.set_cons_succ]
          refine wpAnyH_done (by kernel_rfl) ?_ _
          go_wp2
          go_roundw
          case rel => exact ⟨g4, c4, l ++ [t.n], y3, by rw [List.length_append]; exact unhide INV4, by rw [List.length_append, List.map_append]; exact unhide OWN4, by have := (unhide HNX).2; have := unhide HLL; simp; omega, fun n hn => by
            rcases List.mem_append.1 hn with q | q
            · exact unhide HALL n q
            · rw [List.mem_singleton.1 q]; exact unhide HN, (unhide HRX).trans (unhide HNX).1⟩
          case measure => rw [unhide HMEA, (unhide INV4).pat.mea]; have := (unhide HNX).2; omega
end Go.Proofs.YtlfmnnngadnkpaaDoor.Lex

