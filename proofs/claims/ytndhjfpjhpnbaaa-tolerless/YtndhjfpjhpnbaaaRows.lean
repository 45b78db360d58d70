/-
  No cell of these rows narrows 'for every input' (looked for: loops, veiled, ifaces, maps, wideKeys, modest, calm, conditions, laid).
  DERIVED. THE GIVEN ROWS OF THIS SEAT. 4 by the template 'for every input the law returns true; each argument reads behind the call as it read before'; 0 by the template 'total and deterministic' (their statements: YtndhjfpjhpnbaaaTotals.lean).
  GIVEN WITH THE SEED: the statements are not yours to turn. If you find one false, say at which input.
  Laid BY PROGRAM, IN A SANDBOX (cutbox-rows.mjs): the forced cells as the released guide's own fill.sh prints them over the translation b9bbf37f6c06414e… (all of the seat's roots in one cut). By AI agents, Wed Nov 11 2026. No macro, syntax, notation, axiom, sorry.
-/
import Derived.Test.YtndhjfpjhpnbaaaChecked
import GoSem.Claim
import GoSem.ClaimJoined
import GoSem.ClaimMapViews
import Derived.JoinedTies
import Derived.KernelRfl
namespace Go.Proofs.Ytndhjfpjhpnbaaa
/- THE CELL 'sum', in the pinned program and in every row, IS THE sha256 OF THE DUMP (.gsa) THAT YtndhjfpjhpnbaaaProg.lean LOADS. Nothing in Lean hashes anything: it is a label: what it is worth is what the hold of that sum in a sandbox is worth. -/
noncomputable def Try.pinned : Pinned := { name := "ytndhjfpjhpnbaaa", sum := "b9bbf37f6c06414e229670901f41f111a8468a2524817cc7ee0cbaa9b150886c", checked := Try.checked }
namespace Rows
def none {H : Type} : Left H := { results := [], args := [] }

/-- 'taskmasterlaw14.TolerTells': WHATEVER THE INPUT: true; the input reads as it did. -/
def tolerTellsSpec : ChangeSpec := { name := "tolerTells", fn := fun _ => fun
  | [d1, d2] => { results := [.lit (.bool true)], args := [d1, d2] }
  | _ => none }
def tolerTellsRow : OpenClaim := { program := "ytndhjfpjhpnbaaa", sum := "b9bbf37f6c06414e229670901f41f111a8468a2524817cc7ee0cbaa9b150886c", func := "taskmaster/taskmasterlaw14.TolerTells", spec := "tolerTells", unfollowed := true, recurses := true, apart := false }
def TolerTellsSaid : Prop := tolerTellsRow.holds Try.pinned (OpenSpec.ofChange tolerTellsSpec)

/-- ITS FALSE NEIGHBOUR: 'it returns false'. Refute it at one input. -/
def tolerTellsWrong : ChangeSpec := { name := "tolerTells", fn := fun _ => fun
  | [d1, d2] => { results := [.lit (.bool false)], args := [d1, d2] }
  | _ => none }
def TolerTellsWrongFalsely : Prop := tolerTellsRow.holds Try.pinned (OpenSpec.ofChange tolerTellsWrong)

/-- 'taskmasterlaw14.TolerEdge': WHATEVER THE INPUT: true; the input reads as it did. -/
def tolerEdgeSpec : ChangeSpec := { name := "tolerEdge", fn := fun _ => fun
  | [d1, d2, d3] => { results := [.lit (.bool true)], args := [d1, d2, d3] }
  | _ => none }
def tolerEdgeRow : OpenClaim := { program := "ytndhjfpjhpnbaaa", sum := "b9bbf37f6c06414e229670901f41f111a8468a2524817cc7ee0cbaa9b150886c", func := "taskmaster/taskmasterlaw14.TolerEdge", spec := "tolerEdge", unfollowed := true, recurses := true, apart := false }
def TolerEdgeSaid : Prop := tolerEdgeRow.holds Try.pinned (OpenSpec.ofChange tolerEdgeSpec)

/-- ITS FALSE NEIGHBOUR: 'it returns false'. Refute it at one input. -/
def tolerEdgeWrong : ChangeSpec := { name := "tolerEdge", fn := fun _ => fun
  | [d1, d2, d3] => { results := [.lit (.bool false)], args := [d1, d2, d3] }
  | _ => none }
def TolerEdgeWrongFalsely : Prop := tolerEdgeRow.holds Try.pinned (OpenSpec.ofChange tolerEdgeWrong)

/-- 'taskmasterlaw14.TolerMode': WHATEVER THE INPUT: true; the input reads as it did. -/
def tolerModeSpec : ChangeSpec := { name := "tolerMode", fn := fun _ => fun
  | [d1, d2, d3, d4] => { results := [.lit (.bool true)], args := [d1, d2, d3, d4] }
  | _ => none }
def tolerModeRow : OpenClaim := { program := "ytndhjfpjhpnbaaa", sum := "b9bbf37f6c06414e229670901f41f111a8468a2524817cc7ee0cbaa9b150886c", func := "taskmaster/taskmasterlaw14.TolerMode", spec := "tolerMode", unfollowed := true, recurses := true, apart := false }
def TolerModeSaid : Prop := tolerModeRow.holds Try.pinned (OpenSpec.ofChange tolerModeSpec)

/-- ITS FALSE NEIGHBOUR: 'it returns false'. Refute it at one input. -/
def tolerModeWrong : ChangeSpec := { name := "tolerMode", fn := fun _ => fun
  | [d1, d2, d3, d4] => { results := [.lit (.bool false)], args := [d1, d2, d3, d4] }
  | _ => none }
def TolerModeWrongFalsely : Prop := tolerModeRow.holds Try.pinned (OpenSpec.ofChange tolerModeWrong)

/-- 'taskmasterlaw14.TolerLess': WHATEVER THE INPUT: true; the input reads as it did. -/
def tolerLessSpec : ChangeSpec := { name := "tolerLess", fn := fun _ => fun
  | [d1, d2, d3, d4] => { results := [.lit (.bool true)], args := [d1, d2, d3, d4] }
  | _ => none }
def tolerLessRow : OpenClaim := { program := "ytndhjfpjhpnbaaa", sum := "b9bbf37f6c06414e229670901f41f111a8468a2524817cc7ee0cbaa9b150886c", func := "taskmaster/taskmasterlaw14.TolerLess", spec := "tolerLess", unfollowed := true, recurses := true, apart := false }
def TolerLessSaid : Prop := tolerLessRow.holds Try.pinned (OpenSpec.ofChange tolerLessSpec)

/-- ITS FALSE NEIGHBOUR: 'it returns false'. Refute it at one input. -/
def tolerLessWrong : ChangeSpec := { name := "tolerLess", fn := fun _ => fun
  | [d1, d2, d3, d4] => { results := [.lit (.bool false)], args := [d1, d2, d3, d4] }
  | _ => none }
def TolerLessWrongFalsely : Prop := tolerLessRow.holds Try.pinned (OpenSpec.ofChange tolerLessWrong)

/- THE SECOND FORM. 'bulk': how many values and letters a reading holds, each counted each time it is reached (what is shared counts as often as it is met; a slice's spare places count too). A statement '..UptoSaid' is the law's where the arguments, and the package variables that the reading takes, are together of bulk at most 1048576: NARROWER than '..Said'. Prove '..Said' where nothing that the law and all that it calls make is longer than what came in: it says more and counts as full. Else prove '..UptoSaid'. A law counts once. -/
mutual
def uptoBulk {H : Type} : DataW H → Nat
  | .lit (.string bytes) => bytes.length + 1
  | .lit _ => 1
  | .nil => 1
  | .ptr d => uptoBulk d + 1
  | .slice elems spare => uptoBulkAll elems + uptoBulkAll spare + 1
  | .agg parts => uptoBulkAll parts + 1
  | .iface _ d => uptoBulk d + 1
  | .map entries => uptoBulkEntries entries + 1
  | .held _ => 1
def uptoBulkAll {H : Type} : List (DataW H) → Nat
  | [] => 0
  | d :: r => uptoBulk d + uptoBulkAll r
def uptoBulkEntries {H : Type} : List (Lit × DataW H) → Nat
  | [] => 0
  | x :: r => uptoBulkEntry x + uptoBulkEntries r
def uptoBulkEntry {H : Type} : Lit × DataW H → Nat
  | (.string bytes, d) => bytes.length + uptoBulk d + 1
  | (_, d) => uptoBulk d + 1
 end
def uptoSmall : (H : Type) → List (DataW H) → Bool := fun _ ds => decide (uptoBulkAll ds ≤ 1048576)
def OpenSpec.upto (s : _root_.Go.ChangeSpec) : _root_.Go.OpenSpec := { _root_.Go.OpenSpec.ofChange s with cond := some uptoSmall }

/-- 'taskmasterlaw14.TolerTells', WHERE WHAT IT READS IS OF BULK AT MOST 1048576: true; the input reads as it did. -/
def tolerTellsUptoRow : OpenClaim := { program := "ytndhjfpjhpnbaaa", sum := "b9bbf37f6c06414e229670901f41f111a8468a2524817cc7ee0cbaa9b150886c", func := "taskmaster/taskmasterlaw14.TolerTells", spec := "tolerTells", unfollowed := true, recurses := true, apart := false, narrowed := true }
def TolerTellsUptoSaid : Prop := tolerTellsUptoRow.holds Try.pinned (OpenSpec.upto tolerTellsSpec)

/-- 'taskmasterlaw14.TolerEdge', WHERE WHAT IT READS IS OF BULK AT MOST 1048576: true; the input reads as it did. -/
def tolerEdgeUptoRow : OpenClaim := { program := "ytndhjfpjhpnbaaa", sum := "b9bbf37f6c06414e229670901f41f111a8468a2524817cc7ee0cbaa9b150886c", func := "taskmaster/taskmasterlaw14.TolerEdge", spec := "tolerEdge", unfollowed := true, recurses := true, apart := false, narrowed := true }
def TolerEdgeUptoSaid : Prop := tolerEdgeUptoRow.holds Try.pinned (OpenSpec.upto tolerEdgeSpec)

/-- 'taskmasterlaw14.TolerMode', WHERE WHAT IT READS IS OF BULK AT MOST 1048576: true; the input reads as it did. -/
def tolerModeUptoRow : OpenClaim := { program := "ytndhjfpjhpnbaaa", sum := "b9bbf37f6c06414e229670901f41f111a8468a2524817cc7ee0cbaa9b150886c", func := "taskmaster/taskmasterlaw14.TolerMode", spec := "tolerMode", unfollowed := true, recurses := true, apart := false, narrowed := true }
def TolerModeUptoSaid : Prop := tolerModeUptoRow.holds Try.pinned (OpenSpec.upto tolerModeSpec)

/-- 'taskmasterlaw14.TolerLess', WHERE WHAT IT READS IS OF BULK AT MOST 1048576: true; the input reads as it did. -/
def tolerLessUptoRow : OpenClaim := { program := "ytndhjfpjhpnbaaa", sum := "b9bbf37f6c06414e229670901f41f111a8468a2524817cc7ee0cbaa9b150886c", func := "taskmaster/taskmasterlaw14.TolerLess", spec := "tolerLess", unfollowed := true, recurses := true, apart := false, narrowed := true }
def TolerLessUptoSaid : Prop := tolerLessUptoRow.holds Try.pinned (OpenSpec.upto tolerLessSpec)

end Rows
end Go.Proofs.Ytndhjfpjhpnbaaa
