/- The reader's task: what it answers. -/
import Derived.Test.YtfpaigcbjpolhaaParseRd4
namespace Go.Proofs.Ytfpaigcbjpolhaa.Lex
open Go.ChangeShapes Go.WideShapes Go.RowKit

theorem then_word {B : Type} {nm : List UInt8} (x : Left) (f : List Tok → Except (Int × Int) B) : thenE x (fun L => thenE (wordP nm L) f) = thenE (wordX nm x) f := by
  cases x <;> rfl
theorem then_tok {B : Type} {k : Int} (x : Left) (f : Tok × List Tok → Except (Int × Int) B) : thenE x (fun L => thenE (tokP k L) f) = thenE (goneP k x) (fun M => f (takeT k x, M)) := by
  cases x with
  | error p => rfl
  | ok L =>
    cases L with
    | nil => rfl
    | cons t r => cases hk : t.kind == k <;> simp [thenE, tokP, goneP, takeT, hk]
theorem then_any {A B : Type} {P : List Tok → Reads A} {x y : Left} {a : A} (h : thenE x P = thenE y (fun L => .ok (a, L))) (f : A × List Tok → Except (Int × Int) B) : thenE x (fun L => thenE (P L) f) = thenE y (fun M => f (a, M)) := by
  cases x with
  | error p =>
    cases y with
    | error q => have : p = q := by simpa [thenE] using h
                 subst this; rfl
    | ok M => simp [thenE] at h
  | ok L =>
    cases y with
    | error q => have h' : P L = .error q := h
                 simp [thenE, h']
    | ok M => have h' : P L = .ok (a, M) := h
              simp [thenE, h']
def regsQ (L : List Tok) : Reads (List Int) := thenE (tokP 2 L) fun r => .ok (r.1.n :: (numsP r.2).1, (numsP r.2).2)
theorem regs_then {B : Type} (L : List Tok) (f : List Int × List Tok → Except (Int × Int) B) : thenE (tokP 2 L) (fun r => f (r.1.n :: (numsP r.2).1, (numsP r.2).2)) = thenE (regsQ L) f := by
  rw [regsQ]
  cases tokP 2 L <;> rfl
/- a task behind its word, as the code goes -/
def taskX (x : Left) : Reads TaskV := thenE x fun L => thenE (wordP wTask L) taskP
theorem task_chain {x y6 y8 y9 y10 : Left} {m : Mode3} {l : List Int} {e u : Nat}
    (hm : modeX (goneP 2 (wordX wDeadline (goneP 2 (wordX wPeriod (goneP 1 (wordX wTask x)))))) = thenE y6 (fun L => .ok (m, L)))
    (hr : regsX (wordX wRegions y6) = thenE y8 (fun L => .ok (l, L)))
    (he : setsX wEcb y8 = thenE y9 (fun L => .ok (e, L)))
    (hu : setsX wUcb y9 = thenE y10 (fun L => .ok (u, L))) :
    taskX x = thenE (wordX wSemi y10) (fun L => .ok (⟨⟨(takeT 1 (wordX wTask x)).text.toArray⟩, (takeT 2 (wordX wPeriod (goneP 1 (wordX wTask x)))).n, (takeT 2 (wordX wDeadline (goneP 2 (wordX wPeriod (goneP 1 (wordX wTask x)))))).n, m.1, m.2.1, m.2.2, none, 0, e, u, l⟩, L)) := by
  have hr' : thenE (wordX wRegions y6) regsQ = thenE y8 (fun L => .ok (l, L)) := hr
  rw [taskX, then_word]
  show thenE _ (fun L => taskP L) = _
  simp only [taskP]
  rw [then_tok]; dsimp only; rw [then_word, then_tok]; dsimp only; rw [then_word, then_tok]; dsimp only; rw [then_any hm]; dsimp only; rw [then_word]
  rw [show (fun L => thenE (tokP 2 L) fun r => thenE (setsOf wEcb (numsP r.2).2) fun e => thenE (setsOf wUcb e.2) fun u => thenE (wordP wSemi u.2) fun L => Except.ok ((⟨⟨(takeT 1 (wordX wTask x)).text.toArray⟩, (takeT 2 (wordX wPeriod (goneP 1 (wordX wTask x)))).n, (takeT 2 (wordX wDeadline (goneP 2 (wordX wPeriod (goneP 1 (wordX wTask x)))))).n, m.1, m.2.1, m.2.2, none, 0, e.1, u.1, r.1.n :: (numsP r.2).1⟩ : TaskV), L))
    = (fun L => thenE (regsQ L) fun r => thenE (setsOf wEcb r.2) fun e => thenE (setsOf wUcb e.2) fun u => thenE (wordP wSemi u.2) fun L => Except.ok ((⟨⟨(takeT 1 (wordX wTask x)).text.toArray⟩, (takeT 2 (wordX wPeriod (goneP 1 (wordX wTask x)))).n, (takeT 2 (wordX wDeadline (goneP 2 (wordX wPeriod (goneP 1 (wordX wTask x)))))).n, m.1, m.2.1, m.2.2, none, 0, e.1, u.1, r.1⟩ : TaskV), L)) from funext fun L => regs_then L (fun r => thenE (setsOf wEcb r.2) fun e => thenE (setsOf wUcb e.2) fun u => thenE (wordP wSemi u.2) fun L => Except.ok ((⟨⟨(takeT 1 (wordX wTask x)).text.toArray⟩, (takeT 2 (wordX wPeriod (goneP 1 (wordX wTask x)))).n, (takeT 2 (wordX wDeadline (goneP 2 (wordX wPeriod (goneP 1 (wordX wTask x)))))).n, m.1, m.2.1, m.2.2, none, 0, e.1, u.1, r.1⟩ : TaskV), L))]
  rw [then_any hr']; dsimp only; rw [then_any he]; dsimp only; rw [then_any hu]; dsimp only; rw [then_word]
/- a task with its regions in rows of its own -/
structure FitT (w : World) (B : Nat) (t : TaskV) : Prop where
  own : OwnTask w B t
  nn : t.ao ≠ none
  len : t.regs.length ≤ 5000
  name : t.name.size ≤ 4000
  T : I64 t.T
  D : I64 t.D
  mode : I64 t.mode
  Q : I64 t.Q
  theta : I64 t.theta
  ecb : U64 t.ecb
  ucb : U64 t.ucb
  each : ∀ n ∈ t.regs, I64 n
theorem FitT.taskIn {w : World} {B : Nat} {t : TaskV} (h : FitT w B t) : TaskIn w t :=
  ⟨regs_own h.own, fun e => absurd e h.nn, by have := h.len; omega, by have := h.name; omega, h.T, h.D, h.mode, h.Q, h.theta, h.ecb, h.ucb, h.each⟩
theorem taken_text {w : World} {R : Nat} {x : Left} (h : RAt w R x) (k : Int) : (mkS (takeT k x).text).size ≤ 4000 := by
  have : (takeT k x).text.length ≤ 4000 := by
    cases x with
    | error p => simp [takeT, noTok]
    | ok L =>
      cases L with
      | nil => simp [takeT, noTok]
      | cons t r =>
        simp only [takeT]
        split
        · exact (h.okay.each t (List.mem_cons_self ..)).text
        · simp [noTok]
  rw [← bl_len, bl_mkS]; exact this
theorem gone_len {k : Int} {x : Left} : mea (goneP k x) ≤ mea x := gone_mea k x
theorem set_same {w : World} {a : Addr} {v : Value} (h : w.cell? a = some v) : w.setCell a v = w := by
  have key : (w.setCell a v).heap = w.heap := by
    unfold World.setCell
    dsimp only
    apply Array.ext_getElem?
    intro i
    rw [Array.getElem?_modify]
    split
    · rename_i e
      subst e
      unfold World.cell? at h
      cases hb : w.heap[a.block]? with
      | none => rfl
      | some o =>
        rw [hb] at h
        cases o with
        | cells c el fr =>
          simp only at h
          split at h
          · cases h
          · rename_i hs
            simp only [Option.map_some, Option.some.injEq, Obj.cells.injEq, and_true]
            rw [if_neg hs]
            apply Array.ext_getElem?
            intro k
            rw [Array.getElem?_setIfInBounds]
            split
            · rename_i e; subst e
              split
              · exact h.symm
              · rename_i hl; rw [Array.getElem?_eq_none (by omega)] at h; cases h
            · rfl
        | _ => rfl
    · rfl
  show ({ w with heap := (w.setCell a v).heap } : World) = w
  rw [key]
theorem own_base {w : World} {a b : Nat} {e : TypeId} {s : Nat} {v : Value} {n : Nat} {xs : List Value} (h : w.ownsRow b e s v n xs) (hab : a ≤ b) : w.ownsRow a e s v n xs :=
  ⟨h.1, h.2.imp id fun ⟨g, cap, cur, e, hg, r⟩ => ⟨g, cap, cur, e, Nat.le_trans hab hg, r⟩⟩
theorem own_set {w : World} {B g : Nat} {e e' : TypeId} {s : Nat} {v : Value} {n : Nat} {xs : List Value} {cs : Array Value} {fr : Nat × Nat} (h : w.ownsRow B e s v n xs) (hg : w.heap[g]? = some (.cells cs e' fr)) (hne : e ≠ e') (j : Nat) (u : Value) : (w.setCell ⟨g, j, none⟩ u).ownsRow B e s v n xs :=
  h.kept (grown_set w ⟨g, j, none⟩ u) (own_not hne h hg)
set_option maxHeartbeats 3200000 in
theorem ptask_any (R : Nat) (x : Left) (w : World) (h : RAt w R x) : Calls Try.prog 34 #[.pointer (some ⟨R, 0, none⟩)] w fun e w' => ∃ (t : TaskV) (y : Left), e = .returned t.val ∧ FitT w' w.heap.size t ∧ RAt w' R y ∧ taskX x = thenE y (fun L => .ok (bareT t, L)) ∧ Mv R w.heap.size w w' := by
  have iz : ∀ n : Int, 0 ≤ n ∧ n < 1000000000 → I64 n := fun n hn => by unfold I64; omega
  have uz : ∀ n : Nat, n < 18446744073709551616 → U64 (n : Int) := fun n hn => by unfold U64; omega
  have hsz := h.size
  have hne : w.heap.size ≠ R := by omega
  have CH := hide (fun y6 y8 y9 y10 m l e u => @task_chain x y6 y8 y9 y10 m l e u)
  have HR := hide (h.alloc (.cells #[.string ⟨#[]⟩, .int .i64 0, .int .i64 0, .int .i64 0, .int .i64 0, .int .i64 0, .slice none 0 0, .int .u64 0, .int .u64 0] 41))
  have HB : Hid ((w.alloc (.cells #[.string ⟨#[]⟩, .int .i64 0, .int .i64 0, .int .i64 0, .int .i64 0, .int .i64 0, .slice none 0 0, .int .u64 0, .int .u64 0] 41)).heap[w.heap.size]? = some (.cells #[.string ⟨#[]⟩, .int .i64 0, .int .i64 0, .int .i64 0, .int .i64 0, .int .i64 0, .slice none 0 0, .int .u64 0, .int .u64 0] 41)) := heap_alloc_new w _
  have HM := hide ((Mv.refl R w.heap.size w).alloc (Nat.le_refl _) (.cells #[.string ⟨#[]⟩, .int .i64 0, .int .i64 0, .int .i64 0, .int .i64 0, .int .i64 0, .slice none 0 0, .int .u64 0, .int .u64 0] 41))
  have CWTask : Hid (∀ (x : Left) (w : World), RAt w R x → Calls Try.prog 31 #[.pointer (some ⟨R, 0, none⟩), .string ⟨#[116, 97, 115, 107]⟩] w fun e w' => e = .returned (.tuple #[]) ∧ RAt w' R (wordX wTask x) ∧ Mv R w.heap.size w w') := fun x w h => word_any R ⟨#[116, 97, 115, 107]⟩ x w h
  have CWPeriod : Hid (∀ (x : Left) (w : World), RAt w R x → Calls Try.prog 31 #[.pointer (some ⟨R, 0, none⟩), .string ⟨#[112, 101, 114, 105, 111, 100]⟩] w fun e w' => e = .returned (.tuple #[]) ∧ RAt w' R (wordX wPeriod x) ∧ Mv R w.heap.size w w') := fun x w h => word_any R ⟨#[112, 101, 114, 105, 111, 100]⟩ x w h
  have CWDeadline : Hid (∀ (x : Left) (w : World), RAt w R x → Calls Try.prog 31 #[.pointer (some ⟨R, 0, none⟩), .string ⟨#[100, 101, 97, 100, 108, 105, 110, 101]⟩] w fun e w' => e = .returned (.tuple #[]) ∧ RAt w' R (wordX wDeadline x) ∧ Mv R w.heap.size w w') := fun x w h => word_any R ⟨#[100, 101, 97, 100, 108, 105, 110, 101]⟩ x w h
  have CWRegions : Hid (∀ (x : Left) (w : World), RAt w R x → Calls Try.prog 31 #[.pointer (some ⟨R, 0, none⟩), .string ⟨#[114, 101, 103, 105, 111, 110, 115]⟩] w fun e w' => e = .returned (.tuple #[]) ∧ RAt w' R (wordX wRegions x) ∧ Mv R w.heap.size w w') := fun x w h => word_any R ⟨#[114, 101, 103, 105, 111, 110, 115]⟩ x w h
  have CWSemi : Hid (∀ (x : Left) (w : World), RAt w R x → Calls Try.prog 31 #[.pointer (some ⟨R, 0, none⟩), .string ⟨#[59]⟩] w fun e w' => e = .returned (.tuple #[]) ∧ RAt w' R (wordX wSemi x) ∧ Mv R w.heap.size w w') := fun x w h => word_any R ⟨#[59]⟩ x w h
  have CEEcb : Hid (∀ (x : Left) (w : World), RAt w R x → Calls Try.prog 48 #[.pointer (some ⟨R, 0, none⟩), .string ⟨#[101, 99, 98]⟩] w fun e w' => ∃ (v : Nat) (y : Left), e = .returned (.int .u64 v) ∧ v < 18446744073709551616 ∧ RAt w' R y ∧ setsX wEcb x = thenE y (fun L => .ok (v, L)) ∧ Mv R w.heap.size w w') := fun x w h => sets_any R ⟨#[101, 99, 98]⟩ x w h
  have CEUcb : Hid (∀ (x : Left) (w : World), RAt w R x → Calls Try.prog 48 #[.pointer (some ⟨R, 0, none⟩), .string ⟨#[117, 99, 98]⟩] w fun e w' => ∃ (v : Nat) (y : Left), e = .returned (.int .u64 v) ∧ v < 18446744073709551616 ∧ RAt w' R y ∧ setsX wUcb x = thenE y (fun L => .ok (v, L)) ∧ Mv R w.heap.size w w') := fun x w h => sets_any R ⟨#[117, 99, 98]⟩ x w h
  have CT := hide (fun x w h => take_any R 1 (by decide) x w h)
  have CN := hide (fun x w h => number_any R x w h)
  have CM := hide (fun x w h => mode3_any R x w h)
  have CG := hide (fun x w h => regs_any R x w h)
  clear h
  generalize taskX x = Q at *
  go_enter Try.func34, Try.ntmps34
  go_wp2_with fail
  refine (unhide CWTask _ _ (unhide HR)).mono ?_
  rintro e w1 ⟨rfl, hr, hm⟩
  have HB' := hide (hm.at (unhide HB) hne)
  have HM' := hide ((unhide HM).trans (hm.mono (unhide HM).size))
  clear HR HB HM
  have HR := hide hr
  have HB := HB'
  have HM := HM'
  clear hr hm HB' HM'
  go_wp2_with fail
  refine (unhide CT _ _ (unhide HR)).mono ?_
  rintro e w2 ⟨rfl, hr, hm⟩
  have T1 := hide (taken_text (unhide HR) 1)
  have HB' := hide (hm.at (unhide HB) hne)
  have HM' := hide ((unhide HM).trans (hm.mono (unhide HM).size))
  clear HR HB HM
  have HR := hide hr
  have HB := HB'
  have HM := HM'
  clear hr hm HB' HM'
  generalize wordX wTask x = x1 at *
  generalize takeT 1 x1 = t1 at *
  generalize goneP 1 x1 = x2 at *
  rw [tokV]
  have hfd : ∀ w : World, (Instr.field 53 (.agg #[.int .i64 t1.kind, .string (mkS t1.text), .int .i64 t1.n, .int .i64 t1.pos]) 1).run Try.prog w = .ok (.string (mkS t1.text)) w := fun _ => by kernel_rfl
  have c0 : w2.cell? ⟨w.heap.size, 0, none⟩ = some (.string ⟨#[]⟩) := cell_block (unhide HB)
  have c1 : w2.cell? ⟨w.heap.size, 1, none⟩ = some (.int .i64 0) := cell_block (unhide HB)
  have c2 : w2.cell? ⟨w.heap.size, 2, none⟩ = some (.int .i64 0) := cell_block (unhide HB)
  have c3 : w2.cell? ⟨w.heap.size, 3, none⟩ = some (.int .i64 0) := cell_block (unhide HB)
  have c4 : w2.cell? ⟨w.heap.size, 4, none⟩ = some (.int .i64 0) := cell_block (unhide HB)
  have c5 : w2.cell? ⟨w.heap.size, 5, none⟩ = some (.int .i64 0) := cell_block (unhide HB)
  have c6 : w2.cell? ⟨w.heap.size, 6, none⟩ = some (.slice none 0 0) := cell_block (unhide HB)
  have c7 : w2.cell? ⟨w.heap.size, 7, none⟩ = some (.int .u64 0) := cell_block (unhide HB)
  have c8 : w2.cell? ⟨w.heap.size, 8, none⟩ = some (.int .u64 0) := cell_block (unhide HB)
  have fz := fun j => frozen_block (j := j) (unhide HB)
  go_wp2_with fail
  refine (unhide CWPeriod _ _ (RAt.setCell (unhide HR) (p := ⟨w.heap.size, 0, none⟩) hsz (.string (mkS t1.text)))).mono ?_
  rintro e w3 ⟨rfl, hr, hm⟩
  have HB' := hide (hm.at (block_set (j := 0) (u := .string (mkS t1.text)) (unhide HB)) hne)
  have HM' := hide ((Mv.setCell (unhide HM) (p := ⟨w.heap.size, 0, none⟩) (.inl (Nat.le_refl _)) (.string (mkS t1.text))).trans (hm.mono (Mv.setCell (unhide HM) (p := ⟨w.heap.size, 0, none⟩) (.inl (Nat.le_refl _)) (.string (mkS t1.text))).size))
  clear HR HB HM
  have HR := hide hr
  have HB := HB'
  have HM := HM'
  clear hr hm HB' HM'
  simp only [List.setIfInBounds_toArray, List.set_cons_zero] at HB
  clear c0 c1 c2 c3 c4 c5 c6 c7 c8 fz
  clear hfd
  generalize wordX wPeriod x2 = x3 at *
  go_wp2_with fail
  refine (unhide CN _ _ (unhide HR)).mono ?_
  rintro e w4 ⟨rfl, hr, hm⟩
  have T3 := hide (taken_n (unhide HR) 2)
  have HB' := hide (hm.at (unhide HB) hne)
  have HM' := hide ((unhide HM).trans (hm.mono (unhide HM).size))
  clear HR HB HM
  have HR := hide hr
  have HB := HB'
  have HM := HM'
  clear hr hm HB' HM'
  generalize (takeT 2 x3).n = n3 at *
  generalize goneP 2 x3 = x4 at *
  have c0 : w4.cell? ⟨w.heap.size, 0, none⟩ = some (.string (mkS t1.text)) := cell_block (unhide HB)
  have c1 : w4.cell? ⟨w.heap.size, 1, none⟩ = some (.int .i64 0) := cell_block (unhide HB)
  have c2 : w4.cell? ⟨w.heap.size, 2, none⟩ = some (.int .i64 0) := cell_block (unhide HB)
  have c3 : w4.cell? ⟨w.heap.size, 3, none⟩ = some (.int .i64 0) := cell_block (unhide HB)
  have c4 : w4.cell? ⟨w.heap.size, 4, none⟩ = some (.int .i64 0) := cell_block (unhide HB)
  have c5 : w4.cell? ⟨w.heap.size, 5, none⟩ = some (.int .i64 0) := cell_block (unhide HB)
  have c6 : w4.cell? ⟨w.heap.size, 6, none⟩ = some (.slice none 0 0) := cell_block (unhide HB)
  have c7 : w4.cell? ⟨w.heap.size, 7, none⟩ = some (.int .u64 0) := cell_block (unhide HB)
  have c8 : w4.cell? ⟨w.heap.size, 8, none⟩ = some (.int .u64 0) := cell_block (unhide HB)
  have fz := fun j => frozen_block (j := j) (unhide HB)
  go_wp2_with fail
  refine (unhide CWDeadline _ _ (RAt.setCell (unhide HR) (p := ⟨w.heap.size, 1, none⟩) hsz (.int .i64 n3))).mono ?_
  rintro e w5 ⟨rfl, hr, hm⟩
  have HB' := hide (hm.at (block_set (j := 1) (u := .int .i64 n3) (unhide HB)) hne)
  have HM' := hide ((Mv.setCell (unhide HM) (p := ⟨w.heap.size, 1, none⟩) (.inl (Nat.le_refl _)) (.int .i64 n3)).trans (hm.mono (Mv.setCell (unhide HM) (p := ⟨w.heap.size, 1, none⟩) (.inl (Nat.le_refl _)) (.int .i64 n3)).size))
  clear HR HB HM
  have HR := hide hr
  have HB := HB'
  have HM := HM'
  clear hr hm HB' HM'
  simp only [List.setIfInBounds_toArray, List.set_cons_zero, List.set_cons_succ] at HB
  clear c0 c1 c2 c3 c4 c5 c6 c7 c8 fz
  generalize wordX wDeadline x4 = x5 at *
  go_wp2_with fail
  refine (unhide CN _ _ (unhide HR)).mono ?_
  rintro e w6 ⟨rfl, hr, hm⟩
  have T5 := hide (taken_n (unhide HR) 2)
  have HB' := hide (hm.at (unhide HB) hne)
  have HM' := hide ((unhide HM).trans (hm.mono (unhide HM).size))
  clear HR HB HM
  have HR := hide hr
  have HB := HB'
  have HM := HM'
  clear hr hm HB' HM'
  generalize (takeT 2 x5).n = n5 at *
  generalize goneP 2 x5 = x6 at *
  have c0 : w6.cell? ⟨w.heap.size, 0, none⟩ = some (.string (mkS t1.text)) := cell_block (unhide HB)
  have c1 : w6.cell? ⟨w.heap.size, 1, none⟩ = some (.int .i64 n3) := cell_block (unhide HB)
  have c2 : w6.cell? ⟨w.heap.size, 2, none⟩ = some (.int .i64 0) := cell_block (unhide HB)
  have c3 : w6.cell? ⟨w.heap.size, 3, none⟩ = some (.int .i64 0) := cell_block (unhide HB)
  have c4 : w6.cell? ⟨w.heap.size, 4, none⟩ = some (.int .i64 0) := cell_block (unhide HB)
  have c5 : w6.cell? ⟨w.heap.size, 5, none⟩ = some (.int .i64 0) := cell_block (unhide HB)
  have c6 : w6.cell? ⟨w.heap.size, 6, none⟩ = some (.slice none 0 0) := cell_block (unhide HB)
  have c7 : w6.cell? ⟨w.heap.size, 7, none⟩ = some (.int .u64 0) := cell_block (unhide HB)
  have c8 : w6.cell? ⟨w.heap.size, 8, none⟩ = some (.int .u64 0) := cell_block (unhide HB)
  have fz := fun j => frozen_block (j := j) (unhide HB)
  go_wp2_with fail
  refine (unhide CM _ _ (RAt.setCell (unhide HR) (p := ⟨w.heap.size, 2, none⟩) hsz (.int .i64 n5))).mono ?_
  rintro e w7 ⟨md, mq, mth, y6, rfl, hmi, hr, hmx, hm⟩
  have HB' := hide (hm.at (block_set (j := 2) (u := .int .i64 n5) (unhide HB)) hne)
  have HM' := hide ((Mv.setCell (unhide HM) (p := ⟨w.heap.size, 2, none⟩) (.inl (Nat.le_refl _)) (.int .i64 n5)).trans (hm.mono (Mv.setCell (unhide HM) (p := ⟨w.heap.size, 2, none⟩) (.inl (Nat.le_refl _)) (.int .i64 n5)).size))
  clear HR HB HM
  have HR := hide hr
  have HB := HB'
  have HM := HM'
  clear hr hm HB' HM'
  simp only [List.setIfInBounds_toArray, List.set_cons_zero, List.set_cons_succ] at HB
  clear c0 c1 c2 c3 c4 c5 c6 c7 c8 fz
  have HMX := hide hmx
  have HMI := hide hmi
  clear hmx hmi
  have c0 : w7.cell? ⟨w.heap.size, 0, none⟩ = some (.string (mkS t1.text)) := cell_block (unhide HB)
  have c1 : w7.cell? ⟨w.heap.size, 1, none⟩ = some (.int .i64 n3) := cell_block (unhide HB)
  have c2 : w7.cell? ⟨w.heap.size, 2, none⟩ = some (.int .i64 n5) := cell_block (unhide HB)
  have c3 : w7.cell? ⟨w.heap.size, 3, none⟩ = some (.int .i64 0) := cell_block (unhide HB)
  have c4 : w7.cell? ⟨w.heap.size, 4, none⟩ = some (.int .i64 0) := cell_block (unhide HB)
  have c5 : w7.cell? ⟨w.heap.size, 5, none⟩ = some (.int .i64 0) := cell_block (unhide HB)
  have c6 : w7.cell? ⟨w.heap.size, 6, none⟩ = some (.slice none 0 0) := cell_block (unhide HB)
  have c7 : w7.cell? ⟨w.heap.size, 7, none⟩ = some (.int .u64 0) := cell_block (unhide HB)
  have c8 : w7.cell? ⟨w.heap.size, 8, none⟩ = some (.int .u64 0) := cell_block (unhide HB)
  have fz := fun j => frozen_block (j := j) (unhide HB)
  go_wp2_with fail
  refine (unhide CWRegions _ _ (RAt.setCell (RAt.setCell (RAt.setCell (unhide HR) (p := ⟨w.heap.size, 3, none⟩) hsz (.int .i64 md)) (p := ⟨w.heap.size, 4, none⟩) hsz (.int .i64 mq)) (p := ⟨w.heap.size, 5, none⟩) hsz (.int .i64 mth))).mono ?_
  rintro e w8 ⟨rfl, hr, hm⟩
  have HB' := hide (hm.at (block_set (j := 5) (u := .int .i64 mth) (block_set (j := 4) (u := .int .i64 mq) (block_set (j := 3) (u := .int .i64 md) (unhide HB)))) hne)
  have HM' := hide ((Mv.setCell (Mv.setCell (Mv.setCell (unhide HM) (p := ⟨w.heap.size, 3, none⟩) (.inl (Nat.le_refl _)) (.int .i64 md)) (p := ⟨w.heap.size, 4, none⟩) (.inl (Nat.le_refl _)) (.int .i64 mq)) (p := ⟨w.heap.size, 5, none⟩) (.inl (Nat.le_refl _)) (.int .i64 mth)).trans (hm.mono (Mv.setCell (Mv.setCell (Mv.setCell (unhide HM) (p := ⟨w.heap.size, 3, none⟩) (.inl (Nat.le_refl _)) (.int .i64 md)) (p := ⟨w.heap.size, 4, none⟩) (.inl (Nat.le_refl _)) (.int .i64 mq)) (p := ⟨w.heap.size, 5, none⟩) (.inl (Nat.le_refl _)) (.int .i64 mth)).size))
  clear HR HB HM
  have HR := hide hr
  have HB := HB'
  have HM := HM'
  clear hr hm HB' HM'
  simp only [List.setIfInBounds_toArray, List.set_cons_zero, List.set_cons_succ] at HB
  clear c0 c1 c2 c3 c4 c5 c6 c7 c8 fz
  go_wp2_with fail
  refine (unhide CG _ _ (unhide HR)).mono ?_
  rintro e w9 ⟨rv, rl, y8, rfl, hown, hrv, hrl, hrn, hr, hrx, hm⟩
  have HRX := hide hrx
  have HRN := hide hrn
  have HRL := hide hrl
  obtain ⟨rg, rcap, rfl⟩ := slice_form hown hrv
  have HOW := hide (own_base hown (unhide HM).size)
  clear hrx hrn hrl hown hrv
  have HB' := hide (hm.at (unhide HB) hne)
  have HM' := hide ((unhide HM).trans (hm.mono (unhide HM).size))
  clear HR HB HM
  have HR := hide hr
  have HB := HB'
  have HM := HM'
  clear hr hm HB' HM'
  have c0 : w9.cell? ⟨w.heap.size, 0, none⟩ = some (.string (mkS t1.text)) := cell_block (unhide HB)
  have c1 : w9.cell? ⟨w.heap.size, 1, none⟩ = some (.int .i64 n3) := cell_block (unhide HB)
  have c2 : w9.cell? ⟨w.heap.size, 2, none⟩ = some (.int .i64 n5) := cell_block (unhide HB)
  have c3 : w9.cell? ⟨w.heap.size, 3, none⟩ = some (.int .i64 md) := cell_block (unhide HB)
  have c4 : w9.cell? ⟨w.heap.size, 4, none⟩ = some (.int .i64 mq) := cell_block (unhide HB)
  have c5 : w9.cell? ⟨w.heap.size, 5, none⟩ = some (.int .i64 mth) := cell_block (unhide HB)
  have c6 : w9.cell? ⟨w.heap.size, 6, none⟩ = some (.slice none 0 0) := cell_block (unhide HB)
  have c7 : w9.cell? ⟨w.heap.size, 7, none⟩ = some (.int .u64 0) := cell_block (unhide HB)
  have c8 : w9.cell? ⟨w.heap.size, 8, none⟩ = some (.int .u64 0) := cell_block (unhide HB)
  have fz := fun j => frozen_block (j := j) (unhide HB)
  go_wp2_with fail
  refine (unhide CEEcb _ _ (RAt.setCell (unhide HR) (p := ⟨w.heap.size, 6, none⟩) hsz (.slice (some ⟨rg, 0, none⟩) rl.length rcap))).mono ?_
  rintro e w10 ⟨ve, y9, rfl, hve, hr, hex, hm⟩
  have HOW1 := hide (hm.own (own_set (unhide HOW) (unhide HB) (by decide) 6 (.slice (some ⟨rg, 0, none⟩) rl.length rcap)) hsz)
  have HEX := hide hex
  have HVE := hide hve
  clear hex hve HOW
  have HB' := hide (hm.at (block_set (j := 6) (u := .slice (some ⟨rg, 0, none⟩) rl.length rcap) (unhide HB)) hne)
  have HM' := hide ((Mv.setCell (unhide HM) (p := ⟨w.heap.size, 6, none⟩) (.inl (Nat.le_refl _)) (.slice (some ⟨rg, 0, none⟩) rl.length rcap)).trans (hm.mono (Mv.setCell (unhide HM) (p := ⟨w.heap.size, 6, none⟩) (.inl (Nat.le_refl _)) (.slice (some ⟨rg, 0, none⟩) rl.length rcap)).size))
  clear HR HB HM
  have HR := hide hr
  have HB := HB'
  have HM := HM'
  clear hr hm HB' HM'
  simp only [List.setIfInBounds_toArray, List.set_cons_zero, List.set_cons_succ] at HB
  clear c0 c1 c2 c3 c4 c5 c6 c7 c8 fz
  have c0 : w10.cell? ⟨w.heap.size, 0, none⟩ = some (.string (mkS t1.text)) := cell_block (unhide HB)
  have c1 : w10.cell? ⟨w.heap.size, 1, none⟩ = some (.int .i64 n3) := cell_block (unhide HB)
  have c2 : w10.cell? ⟨w.heap.size, 2, none⟩ = some (.int .i64 n5) := cell_block (unhide HB)
  have c3 : w10.cell? ⟨w.heap.size, 3, none⟩ = some (.int .i64 md) := cell_block (unhide HB)
  have c4 : w10.cell? ⟨w.heap.size, 4, none⟩ = some (.int .i64 mq) := cell_block (unhide HB)
  have c5 : w10.cell? ⟨w.heap.size, 5, none⟩ = some (.int .i64 mth) := cell_block (unhide HB)
  have c6 : w10.cell? ⟨w.heap.size, 6, none⟩ = some (.slice (some ⟨rg, 0, none⟩) rl.length rcap) := cell_block (unhide HB)
  have c7 : w10.cell? ⟨w.heap.size, 7, none⟩ = some (.int .u64 0) := cell_block (unhide HB)
  have c8 : w10.cell? ⟨w.heap.size, 8, none⟩ = some (.int .u64 0) := cell_block (unhide HB)
  have fz := fun j => frozen_block (j := j) (unhide HB)
  go_wp2_with fail
  refine (unhide CEUcb _ _ (RAt.setCell (unhide HR) (p := ⟨w.heap.size, 7, none⟩) hsz (.int .u64 ve))).mono ?_
  rintro e w11 ⟨vu, y10, rfl, hvu, hr, hux, hm⟩
  have HOW2 := hide (hm.own (own_set (unhide HOW1) (unhide HB) (by decide) 7 (.int .u64 ve)) hsz)
  have HUX := hide hux
  have HVU := hide hvu
  clear hux hvu HOW1
  have HB' := hide (hm.at (block_set (j := 7) (u := .int .u64 ve) (unhide HB)) hne)
  have HM' := hide ((Mv.setCell (unhide HM) (p := ⟨w.heap.size, 7, none⟩) (.inl (Nat.le_refl _)) (.int .u64 ve)).trans (hm.mono (Mv.setCell (unhide HM) (p := ⟨w.heap.size, 7, none⟩) (.inl (Nat.le_refl _)) (.int .u64 ve)).size))
  clear HR HB HM
  have HR := hide hr
  have HB := HB'
  have HM := HM'
  clear hr hm HB' HM'
  simp only [List.setIfInBounds_toArray, List.set_cons_zero, List.set_cons_succ] at HB
  clear c0 c1 c2 c3 c4 c5 c6 c7 c8 fz
  have c0 : w11.cell? ⟨w.heap.size, 0, none⟩ = some (.string (mkS t1.text)) := cell_block (unhide HB)
  have c1 : w11.cell? ⟨w.heap.size, 1, none⟩ = some (.int .i64 n3) := cell_block (unhide HB)
  have c2 : w11.cell? ⟨w.heap.size, 2, none⟩ = some (.int .i64 n5) := cell_block (unhide HB)
  have c3 : w11.cell? ⟨w.heap.size, 3, none⟩ = some (.int .i64 md) := cell_block (unhide HB)
  have c4 : w11.cell? ⟨w.heap.size, 4, none⟩ = some (.int .i64 mq) := cell_block (unhide HB)
  have c5 : w11.cell? ⟨w.heap.size, 5, none⟩ = some (.int .i64 mth) := cell_block (unhide HB)
  have c6 : w11.cell? ⟨w.heap.size, 6, none⟩ = some (.slice (some ⟨rg, 0, none⟩) rl.length rcap) := cell_block (unhide HB)
  have c7 : w11.cell? ⟨w.heap.size, 7, none⟩ = some (.int .u64 ve) := cell_block (unhide HB)
  have c8 : w11.cell? ⟨w.heap.size, 8, none⟩ = some (.int .u64 0) := cell_block (unhide HB)
  have fz := fun j => frozen_block (j := j) (unhide HB)
  go_wp2_with fail
  refine (unhide CWSemi _ _ (RAt.setCell (unhide HR) (p := ⟨w.heap.size, 8, none⟩) hsz (.int .u64 vu))).mono ?_
  rintro e w12 ⟨rfl, hr, hm⟩
  have HOW3 := hide (hm.own (own_set (unhide HOW2) (unhide HB) (by decide) 8 (.int .u64 vu)) hsz)
  clear HOW2
  have HB' := hide (hm.at (block_set (j := 8) (u := .int .u64 vu) (unhide HB)) hne)
  have HM' := hide ((Mv.setCell (unhide HM) (p := ⟨w.heap.size, 8, none⟩) (.inl (Nat.le_refl _)) (.int .u64 vu)).trans (hm.mono (Mv.setCell (unhide HM) (p := ⟨w.heap.size, 8, none⟩) (.inl (Nat.le_refl _)) (.int .u64 vu)).size))
  clear HR HB HM
  have HR := hide hr
  have HB := HB'
  have HM := HM'
  clear hr hm HB' HM'
  simp only [List.setIfInBounds_toArray, List.set_cons_zero, List.set_cons_succ] at HB
  clear c0 c1 c2 c3 c4 c5 c6 c7 c8 fz
  have HX := hide (unhide CH _ _ _ _ _ _ _ _ (unhide HMX) (unhide HRX) (unhide HEX) (unhide HUX))
  have c0 : w12.cell? ⟨w.heap.size, 0, none⟩ = some (.string (mkS t1.text)) := cell_block (unhide HB)
  have c1 : w12.cell? ⟨w.heap.size, 1, none⟩ = some (.int .i64 n3) := cell_block (unhide HB)
  have c2 : w12.cell? ⟨w.heap.size, 2, none⟩ = some (.int .i64 n5) := cell_block (unhide HB)
  have c3 : w12.cell? ⟨w.heap.size, 3, none⟩ = some (.int .i64 md) := cell_block (unhide HB)
  have c4 : w12.cell? ⟨w.heap.size, 4, none⟩ = some (.int .i64 mq) := cell_block (unhide HB)
  have c5 : w12.cell? ⟨w.heap.size, 5, none⟩ = some (.int .i64 mth) := cell_block (unhide HB)
  have c6 : w12.cell? ⟨w.heap.size, 6, none⟩ = some (.slice (some ⟨rg, 0, none⟩) rl.length rcap) := cell_block (unhide HB)
  have c7 : w12.cell? ⟨w.heap.size, 7, none⟩ = some (.int .u64 ve) := cell_block (unhide HB)
  have c8 : w12.cell? ⟨w.heap.size, 8, none⟩ = some (.int .u64 vu) := cell_block (unhide HB)
  have fz := fun j => frozen_block (j := j) (unhide HB)
  go_wp2
  refine bodyPost_ret (v := (⟨mkS t1.text, n3, n5, md, mq, mth, some ⟨rg, 0, none⟩, rcap, ve, vu, rl⟩ : TaskV).val) (by rw [results_one rfl]; go_simp; rfl) rfl ?_
  rw [set_same c0, set_same c1, set_same c2, set_same c3, set_same c4, set_same c5, set_same c6, set_same c7, set_same c8]
  refine ⟨⟨mkS t1.text, n3, n5, md, mq, mth, some ⟨rg, 0, none⟩, rcap, ve, vu, rl⟩, wordX wSemi y10, rfl, ⟨unhide HOW3, by simp, unhide HRL, unhide T1, iz _ (unhide T3), iz _ (unhide T5), (unhide HMI).1, (unhide HMI).2.1, (unhide HMI).2.2, uz _ (unhide HVE), uz _ (unhide HVU), fun n hn => iz n (unhide HRN n hn)⟩, unhide HR, unhide HX, unhide HM⟩
end Go.Proofs.Ytfpaigcbjpolhaa.Lex
