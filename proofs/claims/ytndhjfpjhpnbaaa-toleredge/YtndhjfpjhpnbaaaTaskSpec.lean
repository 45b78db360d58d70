/- The document's answer to chapter 5 as plain functions. -/
import Derived.Test.YtndhjfpjhpnbaaaLexSpec
import Derived.WalkKit
namespace Go.Proofs.Ytndhjfpjhpnbaaa.Lex
set_option maxRecDepth 100000
open Go

/- a task, as it is handed about; its regions beside it -/
structure TaskV where
  name : ByteArray
  T : Int
  D : Int
  mode : Int
  Q : Int
  theta : Int
  ao : Option Addr
  cap : Nat
  ecb : Int
  ucb : Int
  regs : List Int
def TaskV.cells (t : TaskV) : List Value := [.string t.name, .int .i64 t.T, .int .i64 t.D, .int .i64 t.mode, .int .i64 t.Q, .int .i64 t.theta, .slice t.ao t.regs.length t.cap, .int .u64 t.ecb, .int .u64 t.ucb]
def TaskV.val (t : TaskV) : Value := .agg t.cells.toArray
def I64 (n : Int) : Prop := -9223372036854775808 ≤ n ∧ n ≤ 9223372036854775807
def U64 (n : Int) : Prop := 0 ≤ n ∧ n ≤ 18446744073709551615
/- its regions lie there; all numbers are numbers -/
def RegsIn (w : World) (ao : Option Addr) (l : List Int) : Prop := l ≠ [] → ∃ b off, ao = some ⟨b, off, none⟩ ∧ ∀ j, j < l.length → w.cell? ⟨b, off + j, none⟩ = some (.int .i64 (l.getD j 0))
structure TaskIn (w : World) (t : TaskV) : Prop where
  regs : RegsIn w t.ao t.regs
  nil : t.ao = none → t.regs = [] ∧ t.cap = 0
  len : t.regs.length ≤ 17592186043904
  name : t.name.size ≤ 9223372036854775807
  T : I64 t.T
  D : I64 t.D
  mode : I64 t.mode
  Q : I64 t.Q
  theta : I64 t.theta
  ecb : U64 t.ecb
  ucb : U64 t.ucb
  each : ∀ n ∈ t.regs, I64 n

def inB (n a b : Int) : Bool := decide (a ≤ n) && decide (n ≤ b)
def workZ (l : List Int) : Int := l.foldl (· + ·) 0
def modeB (mode Q theta p : Int) : Bool :=
  if mode = 0 then Q == 0 && theta == 0 else if mode = 1 then inB Q 0 10000 && theta == 0 else if mode = 2 then Q == 0 && decide (0 ≤ theta) && decide (theta ≤ p) else false
def maskB (u e : Int) : Bool := bits .andNot .u64 u e == 0
def nameB (l : List UInt8) : Bool := match l with
  | [] => false
  | c :: r => smallC c && (match oneOf (c :: r) with | some (t, m) => m == (c :: r).length && t.kind == 1 | none => false)
def isB (t : TaskV) (p : Int) : Bool :=
  nameB t.name.data.toList && (decide (1 ≤ t.regs.length) && (decide (t.regs.length ≤ 8) && (maskB t.ucb t.ecb && (t.regs.all (inB · 1 10000) && (decide (workZ t.regs ≤ t.D) && (decide (t.D ≤ t.T) && (decide (t.T ≤ 10000) && modeB t.mode t.Q t.theta p)))))))
/- a set -/
structure SetV where
  reload : Int
  ao : Option Addr
  cap : Nat
  ts : List TaskV
def SetV.val (s : SetV) : Value := .agg #[.int .i64 s.reload, .slice s.ao s.ts.length s.cap]
def task0 : TaskV := ⟨⟨#[]⟩, 0, 0, 0, 0, 0, none, 0, 0, 0, []⟩
structure SetIn (w : World) (s : SetV) : Prop where
  reload : I64 s.reload
  nil : s.ao = none → s.ts = [] ∧ s.cap = 0
  len : s.ts.length ≤ 9223372036854775807
  fits : s.ts.length ≤ s.cap
  row : s.ts ≠ [] → ∃ b off, s.ao = some ⟨b, off, none⟩ ∧ ∀ j, j < s.ts.length → ∀ i, i < 9 → w.cell? ⟨b, off + j * 9 + i, none⟩ = (s.ts.getD j task0).cells[i]?
  each : ∀ t ∈ s.ts, TaskIn w t
def okAt (ts : List TaskV) (i : Nat) : Bool := isB (ts.getD i task0) i && (List.range i).all fun k => !((ts.getD k task0).name.data.toList == (ts.getD i task0).name.data.toList)
def allB (s : SetV) : Bool := inB s.reload 0 10000 && (decide (1 ≤ s.ts.length) && (decide (s.ts.length ≤ 8) && (List.range s.ts.length).all (okAt s.ts)))
def sameT (a b : TaskV) : Bool :=
  a.name.data.toList == b.name.data.toList && (a.T == b.T && (a.D == b.D && (a.mode == b.mode && (a.Q == b.Q && (a.theta == b.theta && (a.ecb == b.ecb && (a.ucb == b.ucb && a.regs == b.regs)))))))
def sameB (a b : SetV) : Bool := a.reload == b.reload && (a.ts.length == b.ts.length && (List.range a.ts.length).all fun i => sameT (a.ts.getD i task0) (b.ts.getD i task0))
end Go.Proofs.Ytndhjfpjhpnbaaa.Lex
