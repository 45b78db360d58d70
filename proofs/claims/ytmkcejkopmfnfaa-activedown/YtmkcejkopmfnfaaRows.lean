/-
  No cell of these rows narrows 'for every input' (looked for: loops, veiled, ifaces, maps, wideKeys, modest, calm, conditions, laid).
  DERIVED. THE GIVEN ROWS OF THIS SEAT. 4 by the template 'for every input the law returns true; each argument reads behind the call as it read before'; 0 by the template 'total and deterministic' (their statements: YtmkcejkopmfnfaaTotals.lean).
  GIVEN WITH THE SEED: the statements are not yours to turn. If you find one false, say at which input.
  Laid BY PROGRAM, IN A SANDBOX (cutbox-rows.mjs): the forced cells as the released guide's own fill.sh prints them over the translation 681da295dfe0aa9b… (all of the seat's roots in one cut). By AI agents, Wed Nov 11 2026. No macro, syntax, notation, axiom, sorry.
-/
import Derived.Test.YtmkcejkopmfnfaaChecked
import GoSem.Claim
import GoSem.ClaimJoined
import GoSem.ClaimMapViews
import Derived.JoinedTies
import Derived.KernelRfl
namespace Go.Proofs.Ytmkcejkopmfnfaa
/- THE CELL 'sum', in the pinned program and in every row, IS THE sha256 OF THE DUMP (.gsa) THAT YtmkcejkopmfnfaaProg.lean LOADS. Nothing in Lean hashes anything: it is a label: what it is worth is what the hold of that sum in a sandbox is worth. -/
noncomputable def Try.pinned : Pinned := { name := "ytmkcejkopmfnfaa", sum := "681da295dfe0aa9b33416379e1d9709c441706245eac0f095d609498468a83a3", checked := Try.checked }
namespace Rows
def none {H : Type} : Left H := { results := [], args := [] }

/-- 'taskmasterlaw11.ActiveTells': WHATEVER THE INPUT: true; the input reads as it did. -/
def activeTellsSpec : ChangeSpec := { name := "activeTells", fn := fun _ => fun
  | [d1, d2, d3] => { results := [.lit (.bool true)], args := [d1, d2, d3] }
  | _ => none }
def activeTellsRow : OpenClaim := { program := "ytmkcejkopmfnfaa", sum := "681da295dfe0aa9b33416379e1d9709c441706245eac0f095d609498468a83a3", func := "taskmaster/taskmasterlaw11.ActiveTells", spec := "activeTells", unfollowed := true, recurses := true, apart := false }
def ActiveTellsSaid : Prop := activeTellsRow.holds Try.pinned (OpenSpec.ofChange activeTellsSpec)

/-- ITS FALSE NEIGHBOUR: 'it returns false'. Refute it at one input. -/
def activeTellsWrong : ChangeSpec := { name := "activeTells", fn := fun _ => fun
  | [d1, d2, d3] => { results := [.lit (.bool false)], args := [d1, d2, d3] }
  | _ => none }
def ActiveTellsWrongFalsely : Prop := activeTellsRow.holds Try.pinned (OpenSpec.ofChange activeTellsWrong)

/-- 'taskmasterlaw11.ActiveLess': WHATEVER THE INPUT: true; the input reads as it did. -/
def activeLessSpec : ChangeSpec := { name := "activeLess", fn := fun _ => fun
  | [d1, d2, d3, d4] => { results := [.lit (.bool true)], args := [d1, d2, d3, d4] }
  | _ => none }
def activeLessRow : OpenClaim := { program := "ytmkcejkopmfnfaa", sum := "681da295dfe0aa9b33416379e1d9709c441706245eac0f095d609498468a83a3", func := "taskmaster/taskmasterlaw11.ActiveLess", spec := "activeLess", unfollowed := true, recurses := true, apart := false }
def ActiveLessSaid : Prop := activeLessRow.holds Try.pinned (OpenSpec.ofChange activeLessSpec)

/-- ITS FALSE NEIGHBOUR: 'it returns false'. Refute it at one input. -/
def activeLessWrong : ChangeSpec := { name := "activeLess", fn := fun _ => fun
  | [d1, d2, d3, d4] => { results := [.lit (.bool false)], args := [d1, d2, d3, d4] }
  | _ => none }
def ActiveLessWrongFalsely : Prop := activeLessRow.holds Try.pinned (OpenSpec.ofChange activeLessWrong)

/-- 'taskmasterlaw11.ActiveDown': WHATEVER THE INPUT: true; the input reads as it did. -/
def activeDownSpec : ChangeSpec := { name := "activeDown", fn := fun _ => fun
  | [d1, d2] => { results := [.lit (.bool true)], args := [d1, d2] }
  | _ => none }
def activeDownRow : OpenClaim := { program := "ytmkcejkopmfnfaa", sum := "681da295dfe0aa9b33416379e1d9709c441706245eac0f095d609498468a83a3", func := "taskmaster/taskmasterlaw11.ActiveDown", spec := "activeDown", unfollowed := true, recurses := true, apart := false }
def ActiveDownSaid : Prop := activeDownRow.holds Try.pinned (OpenSpec.ofChange activeDownSpec)

/-- ITS FALSE NEIGHBOUR: 'it returns false'. Refute it at one input. -/
def activeDownWrong : ChangeSpec := { name := "activeDown", fn := fun _ => fun
  | [d1, d2] => { results := [.lit (.bool false)], args := [d1, d2] }
  | _ => none }
def ActiveDownWrongFalsely : Prop := activeDownRow.holds Try.pinned (OpenSpec.ofChange activeDownWrong)

/-- 'taskmasterlaw11.ActiveSum': WHATEVER THE INPUT: true; the input reads as it did. -/
def activeSumSpec : ChangeSpec := { name := "activeSum", fn := fun _ => fun
  | [d1, d2, d3] => { results := [.lit (.bool true)], args := [d1, d2, d3] }
  | _ => none }
def activeSumRow : OpenClaim := { program := "ytmkcejkopmfnfaa", sum := "681da295dfe0aa9b33416379e1d9709c441706245eac0f095d609498468a83a3", func := "taskmaster/taskmasterlaw11.ActiveSum", spec := "activeSum", unfollowed := true, recurses := true, apart := false }
def ActiveSumSaid : Prop := activeSumRow.holds Try.pinned (OpenSpec.ofChange activeSumSpec)

/-- ITS FALSE NEIGHBOUR: 'it returns false'. Refute it at one input. -/
def activeSumWrong : ChangeSpec := { name := "activeSum", fn := fun _ => fun
  | [d1, d2, d3] => { results := [.lit (.bool false)], args := [d1, d2, d3] }
  | _ => none }
def ActiveSumWrongFalsely : Prop := activeSumRow.holds Try.pinned (OpenSpec.ofChange activeSumWrong)

/- THE SECOND FORM. 'bulk': how many values and letters a reading holds, each counted each time it is reached (what is shared counts as often as it is met; a slice's spare places count too). A statement '..UptoSaid' is the law's where the arguments, and the package variables that the reading takes, are together of bulk at most 1048576: NARROWER than '..Said'. Prove '..Said' where nothing that the law and all that it calls make is longer than what came in: it says more and counts as full. Else prove '..UptoSaid'. A law counts once. -/
mutual
def uptoBulk {H : Type} : DataW H → Nat
  | .lit (.string bytes) => bytes.length + 1
  | .lit _ => 1
  | .nil => 1
  | .ptr d => uptoBulk d + 1
  | .slice elems spare => uptoBulkAll elems + uptoBulkAll spare + 1
  | .agg parts => uptoBulkAll parts + 1
  | .iface _ d => uptoBulk d + 1
  | .map entries => uptoBulkEntries entries + 1
  | .held _ => 1
def uptoBulkAll {H : Type} : List (DataW H) → Nat
  | [] => 0
  | d :: r => uptoBulk d + uptoBulkAll r
def uptoBulkEntries {H : Type} : List (Lit × DataW H) → Nat
  | [] => 0
  | x :: r => uptoBulkEntry x + uptoBulkEntries r
def uptoBulkEntry {H : Type} : Lit × DataW H → Nat
  | (.string bytes, d) => bytes.length + uptoBulk d + 1
  | (_, d) => uptoBulk d + 1
 end
def uptoSmall : (H : Type) → List (DataW H) → Bool := fun _ ds => decide (uptoBulkAll ds ≤ 1048576)
def OpenSpec.upto (s : _root_.Go.ChangeSpec) : _root_.Go.OpenSpec := { _root_.Go.OpenSpec.ofChange s with cond := some uptoSmall }

/-- 'taskmasterlaw11.ActiveTells', WHERE WHAT IT READS IS OF BULK AT MOST 1048576: true; the input reads as it did. -/
def activeTellsUptoRow : OpenClaim := { program := "ytmkcejkopmfnfaa", sum := "681da295dfe0aa9b33416379e1d9709c441706245eac0f095d609498468a83a3", func := "taskmaster/taskmasterlaw11.ActiveTells", spec := "activeTells", unfollowed := true, recurses := true, apart := false, narrowed := true }
def ActiveTellsUptoSaid : Prop := activeTellsUptoRow.holds Try.pinned (OpenSpec.upto activeTellsSpec)

/-- 'taskmasterlaw11.ActiveLess', WHERE WHAT IT READS IS OF BULK AT MOST 1048576: true; the input reads as it did. -/
def activeLessUptoRow : OpenClaim := { program := "ytmkcejkopmfnfaa", sum := "681da295dfe0aa9b33416379e1d9709c441706245eac0f095d609498468a83a3", func := "taskmaster/taskmasterlaw11.ActiveLess", spec := "activeLess", unfollowed := true, recurses := true, apart := false, narrowed := true }
def ActiveLessUptoSaid : Prop := activeLessUptoRow.holds Try.pinned (OpenSpec.upto activeLessSpec)

/-- 'taskmasterlaw11.ActiveDown', WHERE WHAT IT READS IS OF BULK AT MOST 1048576: true; the input reads as it did. -/
def activeDownUptoRow : OpenClaim := { program := "ytmkcejkopmfnfaa", sum := "681da295dfe0aa9b33416379e1d9709c441706245eac0f095d609498468a83a3", func := "taskmaster/taskmasterlaw11.ActiveDown", spec := "activeDown", unfollowed := true, recurses := true, apart := false, narrowed := true }
def ActiveDownUptoSaid : Prop := activeDownUptoRow.holds Try.pinned (OpenSpec.upto activeDownSpec)

/-- 'taskmasterlaw11.ActiveSum', WHERE WHAT IT READS IS OF BULK AT MOST 1048576: true; the input reads as it did. -/
def activeSumUptoRow : OpenClaim := { program := "ytmkcejkopmfnfaa", sum := "681da295dfe0aa9b33416379e1d9709c441706245eac0f095d609498468a83a3", func := "taskmaster/taskmasterlaw11.ActiveSum", spec := "activeSum", unfollowed := true, recurses := true, apart := false, narrowed := true }
def ActiveSumUptoSaid : Prop := activeSumUptoRow.holds Try.pinned (OpenSpec.upto activeSumSpec)

end Rows
end Go.Proofs.Ytmkcejkopmfnfaa
