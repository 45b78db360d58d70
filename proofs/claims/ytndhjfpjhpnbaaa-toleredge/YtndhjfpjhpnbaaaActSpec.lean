/- Chapter 11: the document's answers, and what package active must be shown to answer. -/
import Derived.Test.YtndhjfpjhpnbaaaAgainLaw
import Derived.Test.YtndhjfpjhpnbaaaFixLaw2
import Derived.Test.YtndhjfpjhpnbaaaFixRow
namespace Go.Proofs.Ytndhjfpjhpnbaaa.Lex
set_option maxRecDepth 100000
open Go.ChangeShapes Go.WideShapes Go.RowKit

def loadZ (s : SetV) (h : Nat) : Fix.LoadV := ⟨(s.ts.getD h task0).T, workZ (s.ts.getD h task0).regs + madeZ s h⟩
def loadsTo (s : SetV) (k : Nat) : List Fix.LoadV := (List.range k).map (loadZ s)
def loadsI (s : SetV) (i : Int) : List Fix.LoadV := if inI s i then loadsTo s i.toNat else []
def ownL (s : SetV) (k : Nat) : Fix.LoadV := ⟨(s.ts.getD k task0).T, workZ (s.ts.getD k task0).regs⟩
def allL (s : SetV) (k : Nat) : List Fix.LoadV := loadsTo s k ++ [ownL s k]
def OfP (s : SetV) (i b : Int) (e : Ending) : Prop := if inI s i then Fix.LeastP b (allL s i.toNat) e else e = .returned (.tuple #[.int .i64 0, .bool false])
def CALoads : Prop := ∀ (s : SetV) (i : Int) (w : World), SetIn w s → allB s = true → I64 i → Calls Try.prog 48 #[s.val, .int .i64 i] w fun e w' => ∃ ao cap, e = .returned (.slice ao (loadsI s i).length cap) ∧ Fix.LoadsIn w' ao (loadsI s i) ∧ Below w.heap.size w w'
def CAOf : Prop := ∀ (s : SetV) (i b : Int) (w : World), SetIn w s → allB s = true → I64 i → I64 b → Calls Try.prog 38 #[s.val, .int .i64 i, .int .i64 b] w fun e w' => OfP s i b e ∧ Below w.heap.size w w'
theorem loads_next (s : SetV) (k : Nat) : loadsTo s (k + 1) = loadsTo s k ++ [loadZ s k] := by rw [loadsTo, List.range_succ, List.map_append]; rfl
theorem loads_len (s : SetV) (k : Nat) : (loadsTo s k).length = k := by simp [loadsTo]
theorem task_time {t : TaskV} {p : Int} (h : isB t p = true) : (1 ≤ t.T ∧ t.T ≤ 10000) ∧ 1 ≤ workZ t.regs ∧ workZ t.regs ≤ 80000 := by
  obtain ⟨-, h1, h8, he, ⟨hD, hDT, hT⟩, -⟩ := fits_parts h
  have hb := work_bound t.regs he
  have hw : 1 ≤ workZ t.regs := by
    match hq : t.regs, h1, he with
    | x :: r, _, he =>
      have hx := he x (List.mem_cons_self ..)
      have hm : ∀ (l : List Int) (a : Int), (∀ n ∈ l, 1 ≤ n ∧ n ≤ 10000) → a ≤ l.foldl (· + ·) a := by
        intro l
        induction l with
        | nil => intro a _; simp
        | cons y l ih => intro a h; simp only [List.foldl_cons]; have := ih (a + y) (fun n hn => h n (List.mem_cons_of_mem _ hn)); have := (h y (List.mem_cons_self ..)).1; omega
      have := hm r (0 + x) (fun n hn => he n (List.mem_cons_of_mem _ hn))
      show 1 ≤ (x :: r).foldl (· + ·) 0
      simp only [List.foldl_cons]
      omega
  have hwd : workZ t.regs ≤ t.D := by
    simp only [isB, Bool.and_eq_true, decide_eq_true_eq] at h
    exact h.2.2.2.2.2.1
  refine ⟨⟨by omega, hT⟩, hw, by omega⟩
theorem loads_ok {s : SetV} (ha : allB s = true) (hu : ∀ t ∈ s.ts, U64 t.ecb ∧ U64 t.ucb) {k : Nat} (hk : k < s.ts.length) : Fix.OkL (allL s k) := by
  obtain ⟨hr, h8, -, hfit⟩ := all_fits ha hu
  intro x hx
  rcases List.mem_append.1 hx with h | h
  · obtain ⟨j, hj, rfl⟩ := List.mem_map.1 h
    have hj' : j < k := List.mem_range.1 hj
    have h1 := task_time (hfit j (by omega)).is
    have h2 := made_range hr (j : Int)
    exact ⟨⟨h1.1.1, by show (s.ts.getD j task0).T ≤ _; omega⟩, by show 0 ≤ workZ _ + madeZ _ _; omega, by show workZ _ + madeZ _ _ ≤ _; omega⟩
  · have : x = ownL s k := by simpa using h
    subst this
    have h1 := task_time (hfit k hk).is
    exact ⟨⟨h1.1.1, by show (s.ts.getD k task0).T ≤ _; omega⟩, by show 0 ≤ workZ _; omega, by show workZ _ ≤ _; omega⟩
end Go.Proofs.Ytndhjfpjhpnbaaa.Lex
