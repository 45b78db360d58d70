/- The document's answer to chapter 6 as plain functions of a text's bytes, and a set's text (chapter 7). -/
import Derived.Test.YtndhjfpjhpnbaaaTaskSpec
import Derived.Test.YtndhjfpjhpnbaaaBitsMath
namespace Go.Proofs.Ytndhjfpjhpnbaaa.Lex
set_option maxRecDepth 100000
open Go

def wReload : List UInt8 := [114, 101, 108, 111, 97, 100]
def wTask : List UInt8 := [116, 97, 115, 107]
def wPeriod : List UInt8 := [112, 101, 114, 105, 111, 100]
def wDeadline : List UInt8 := [100, 101, 97, 100, 108, 105, 110, 101]
def wFixed : List UInt8 := [102, 105, 120, 101, 100]
def wFloat : List UInt8 := [102, 108, 111, 97, 116]
def wThresh : List UInt8 := [116, 104, 114, 101, 115, 104]
def wRegions : List UInt8 := [114, 101, 103, 105, 111, 110, 115]
def wEcb : List UInt8 := [101, 99, 98]
def wUcb : List UInt8 := [117, 99, 98]
def wSemi : List UInt8 := [59]

/- one step behind another; an error stays -/
def thenE {E A B : Type} (x : Except E A) (f : A → Except E B) : Except E B := match x with
  | .ok a => f a
  | .error e => .error e
/- from a row of tokens: what is read, and the rest; or the error and its place -/
def isWord (w : List UInt8) (L : List Tok) : Bool := match L with
  | t :: _ => t.kind == 3 && t.text == w
  | [] => false
def isNum (L : List Tok) : Bool := match L with
  | t :: _ => t.kind == 2
  | [] => false
def posOf (L : List Tok) : Int := match L with
  | t :: _ => t.pos
  | [] => 0
def wordP (w : List UInt8) (L : List Tok) : Except (Int × Int) (List Tok) := if isWord w L then .ok L.tail else .error (2, posOf L)
def tokP (k : Int) (L : List Tok) : Except (Int × Int) (Tok × List Tok) := match L with
  | t :: r => if t.kind == k then .ok (t, r) else .error (2, t.pos)
  | [] => .error (2, 0)
def numsP : List Tok → List Int × List Tok
  | t :: r => if t.kind == 2 then (t.n :: (numsP r).1, (numsP r).2) else ([], t :: r)
  | [] => ([], [])
def setsP : Int → Nat → List Tok → Except (Int × Int) (Nat × List Tok)
  | last, x, t :: r => if t.kind == 2 then (if 64 ≤ t.n ∨ t.n ≤ last then .error (3, t.pos) else setsP t.n (x ||| 2 ^ t.n.toNat) r) else .ok (x, t :: r)
  | _, x, [] => .ok (x, [])
def setsOf (w : List UInt8) (L : List Tok) : Except (Int × Int) (Nat × List Tok) :=
  if isWord w L then (if isNum L.tail then setsP (-1) 0 L.tail else .error (2, posOf L.tail)) else .ok (0, L)
def modeP (L : List Tok) : Except (Int × Int) ((Int × Int × Int) × List Tok) :=
  if isWord wFixed L then .ok ((0, 0, 0), L.tail)
  else if isWord wFloat L then thenE (tokP 2 L.tail) fun q => .ok ((1, q.1.n, 0), q.2)
  else if isWord wThresh L then thenE (tokP 2 L.tail) fun q => .ok ((2, 0, q.1.n), q.2)
  else .error (2, posOf L)
def taskP (L : List Tok) : Except (Int × Int) (TaskV × List Tok) :=
  thenE (tokP 1 L) fun n => thenE (wordP wPeriod n.2) fun L => thenE (tokP 2 L) fun T => thenE (wordP wDeadline T.2) fun L => thenE (tokP 2 L) fun D => thenE (modeP D.2) fun m => thenE (wordP wRegions m.2) fun L => thenE (tokP 2 L) fun r =>
    thenE (setsOf wEcb (numsP r.2).2) fun e => thenE (setsOf wUcb e.2) fun u => thenE (wordP wSemi u.2) fun L =>
      .ok (⟨⟨n.1.text.toArray⟩, T.1.n, D.1.n, m.1.1, m.1.2.1, m.1.2.2, none, 0, e.1, u.1, r.1.n :: (numsP r.2).1⟩, L)
def atEnd (L : List Tok) : Bool := match L with
  | t :: _ => t.kind == 4
  | [] => true
/- all tasks, each with its place; as much fuel as tokens -/
def tasksP : Nat → List Tok → Except (Int × Int) (List (TaskV × Int))
  | 0, _ => .ok []
  | f + 1, L => if atEnd L then .ok [] else thenE (wordP wTask L) fun M => thenE (taskP M) fun t => thenE (tasksP f t.2) fun r => .ok ((t.1, posOf L) :: r)
def setP (L : List Tok) : Except (Int × Int) (Int × List (TaskV × Int)) :=
  thenE (wordP wReload L) fun L => thenE (tokP 2 L) fun n => thenE (wordP wSemi n.2) fun L => thenE (tasksP L.length L) fun ts => .ok (n.1.n, ts)
/- a whole text: its set, the place, the error -/
structure PAns where
  set : SetV
  pos : Int
  err : Int
def empty0 : SetV := ⟨0, none, 0, []⟩
def oddOf (ts : List TaskV) : Option Nat := (List.range ts.length).find? fun i => !okAt ts i
def judged (n : Nat) (rl : Int) (ts : List (TaskV × Int)) : PAns := match oddOf (ts.map (·.1)) with
  | some i => ⟨empty0, (ts.map (·.2)).getD i 0, 1⟩
  | none => if allB ⟨rl, none, 0, ts.map (·.1)⟩ then ⟨⟨rl, none, 0, ts.map (·.1)⟩, n, 0⟩ else ⟨empty0, 0, 1⟩
def parseS (l : List UInt8) : PAns :=
  if (tokens l).err = 0 then (match setP (tokens l).toks with
    | .error e => ⟨empty0, e.2, e.1⟩
    | .ok r => judged l.length r.1 r.2) else ⟨empty0, (tokens l).pos, (tokens l).err⟩

/- a number's digits, a set's text -/
def digs (n : Nat) : List UInt8 := if n < 10 then [UInt8.ofNat (48 + n)] else digs (n / 10) ++ [UInt8.ofNat (48 + n % 10)]
termination_by n
decreasing_by omega
def rowT (l : List Nat) : List UInt8 := l.flatMap fun n => 32 :: digs n
def setsT (w : List UInt8) (x : Nat) : List UInt8 := if (Bits.bl x).length = 0 then [] else 32 :: w ++ rowT (Bits.bl x)
def modeT (t : TaskV) : List UInt8 := if t.mode = 0 then 32 :: wFixed else if t.mode = 1 then 32 :: wFloat ++ 32 :: digs t.Q.toNat else 32 :: wThresh ++ 32 :: digs t.theta.toNat
def taskT (t : TaskV) : List UInt8 :=
  wTask ++ 32 :: t.name.data.toList ++ 32 :: wPeriod ++ 32 :: digs t.T.toNat ++ 32 :: wDeadline ++ 32 :: digs t.D.toNat ++ modeT t ++ 32 :: wRegions ++ rowT (t.regs.map Int.toNat) ++ setsT wEcb t.ecb.toNat ++ setsT wUcb t.ucb.toNat ++ [59]
def textS (s : SetV) : List UInt8 := wReload ++ 32 :: digs s.reload.toNat ++ [59, 10] ++ s.ts.flatMap fun t => taskT t ++ [10]
def bareT (t : TaskV) : TaskV := { t with ao := none, cap := 0 }
def bareS (s : SetV) : SetV := ⟨s.reload, none, 0, s.ts.map bareT⟩
end Go.Proofs.Ytndhjfpjhpnbaaa.Lex
