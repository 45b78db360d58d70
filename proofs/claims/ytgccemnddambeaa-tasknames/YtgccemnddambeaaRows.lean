/-
  No cell of these rows narrows 'for every input' (looked for: loops, veiled, ifaces, maps, wideKeys, modest, calm, conditions, laid).
  DERIVED. THE GIVEN ROWS OF THIS SEAT. 6 by the template 'for every input the law returns true; each argument reads behind the call as it read before'; 0 by the template 'total and deterministic' (their statements: YtgccemnddambeaaTotals.lean).
  GIVEN WITH THE SEED: the statements are not yours to turn. If you find one false, say at which input.
  Laid BY PROGRAM, IN A SANDBOX (cutbox-rows.mjs): the forced cells as the released guide's own fill.sh prints them over the translation 8dc3360e761298d0… (all of the seat's roots in one cut). By AI agents, Wed Nov 11 2026. No macro, syntax, notation, axiom, sorry.
-/
import Derived.Test.YtgccemnddambeaaChecked
import GoSem.Claim
import GoSem.ClaimJoined
import GoSem.ClaimMapViews
import Derived.JoinedTies
import Derived.KernelRfl
namespace Go.Proofs.Ytgccemnddambeaa
/- THE CELL 'sum', in the pinned program and in every row, IS THE sha256 OF THE DUMP (.gsa) THAT YtgccemnddambeaaProg.lean LOADS. Nothing in Lean hashes anything: it is a label: what it is worth is what the hold of that sum in a sandbox is worth. -/
noncomputable def Try.pinned : Pinned := { name := "ytgccemnddambeaa", sum := "8dc3360e761298d04cef0559b0ba2b2a62ebc6de9ac7e3795951713df45f200b", checked := Try.checked }
namespace Rows
def none {H : Type} : Left H := { results := [], args := [] }

/-- 'taskmasterlaw5.TaskIs': WHATEVER THE INPUT: true; the input reads as it did. -/
def taskIsSpec : ChangeSpec := { name := "taskIs", fn := fun _ => fun
  | [d1, d2] => { results := [.lit (.bool true)], args := [d1, d2] }
  | _ => none }
def taskIsRow : OpenClaim := { program := "ytgccemnddambeaa", sum := "8dc3360e761298d04cef0559b0ba2b2a62ebc6de9ac7e3795951713df45f200b", func := "taskmaster/taskmasterlaw5.TaskIs", spec := "taskIs", unfollowed := true, recurses := true, apart := false }
def TaskIsSaid : Prop := taskIsRow.holds Try.pinned (OpenSpec.ofChange taskIsSpec)

/-- ITS FALSE NEIGHBOUR: 'it returns false'. Refute it at one input. -/
def taskIsWrong : ChangeSpec := { name := "taskIs", fn := fun _ => fun
  | [d1, d2] => { results := [.lit (.bool false)], args := [d1, d2] }
  | _ => none }
def TaskIsWrongFalsely : Prop := taskIsRow.holds Try.pinned (OpenSpec.ofChange taskIsWrong)

/-- 'taskmasterlaw5.TaskAll': WHATEVER THE INPUT: true; the input reads as it did. -/
def taskAllSpec : ChangeSpec := { name := "taskAll", fn := fun _ => fun
  | [d] => { results := [.lit (.bool true)], args := [d] }
  | _ => none }
def taskAllRow : OpenClaim := { program := "ytgccemnddambeaa", sum := "8dc3360e761298d04cef0559b0ba2b2a62ebc6de9ac7e3795951713df45f200b", func := "taskmaster/taskmasterlaw5.TaskAll", spec := "taskAll", unfollowed := true, recurses := true, apart := false }
def TaskAllSaid : Prop := taskAllRow.holds Try.pinned (OpenSpec.ofChange taskAllSpec)

/-- ITS FALSE NEIGHBOUR: 'it returns false'. Refute it at one input. -/
def taskAllWrong : ChangeSpec := { name := "taskAll", fn := fun _ => fun
  | [d] => { results := [.lit (.bool false)], args := [d] }
  | _ => none }
def TaskAllWrongFalsely : Prop := taskAllRow.holds Try.pinned (OpenSpec.ofChange taskAllWrong)

/-- 'taskmasterlaw5.TaskSame': WHATEVER THE INPUT: true; the input reads as it did. -/
def taskSameSpec : ChangeSpec := { name := "taskSame", fn := fun _ => fun
  | [d1, d2] => { results := [.lit (.bool true)], args := [d1, d2] }
  | _ => none }
def taskSameRow : OpenClaim := { program := "ytgccemnddambeaa", sum := "8dc3360e761298d04cef0559b0ba2b2a62ebc6de9ac7e3795951713df45f200b", func := "taskmaster/taskmasterlaw5.TaskSame", spec := "taskSame", unfollowed := true, recurses := true, apart := false }
def TaskSameSaid : Prop := taskSameRow.holds Try.pinned (OpenSpec.ofChange taskSameSpec)

/-- ITS FALSE NEIGHBOUR: 'it returns false'. Refute it at one input. -/
def taskSameWrong : ChangeSpec := { name := "taskSame", fn := fun _ => fun
  | [d1, d2] => { results := [.lit (.bool false)], args := [d1, d2] }
  | _ => none }
def TaskSameWrongFalsely : Prop := taskSameRow.holds Try.pinned (OpenSpec.ofChange taskSameWrong)

/-- 'taskmasterlaw5.TaskOdd': WHATEVER THE INPUT: true; the input reads as it did. -/
def taskOddSpec : ChangeSpec := { name := "taskOdd", fn := fun _ => fun
  | [d] => { results := [.lit (.bool true)], args := [d] }
  | _ => none }
def taskOddRow : OpenClaim := { program := "ytgccemnddambeaa", sum := "8dc3360e761298d04cef0559b0ba2b2a62ebc6de9ac7e3795951713df45f200b", func := "taskmaster/taskmasterlaw5.TaskOdd", spec := "taskOdd", unfollowed := true, recurses := true, apart := false }
def TaskOddSaid : Prop := taskOddRow.holds Try.pinned (OpenSpec.ofChange taskOddSpec)

/-- ITS FALSE NEIGHBOUR: 'it returns false'. Refute it at one input. -/
def taskOddWrong : ChangeSpec := { name := "taskOdd", fn := fun _ => fun
  | [d] => { results := [.lit (.bool false)], args := [d] }
  | _ => none }
def TaskOddWrongFalsely : Prop := taskOddRow.holds Try.pinned (OpenSpec.ofChange taskOddWrong)

/-- 'taskmasterlaw5.TaskPriority': WHATEVER THE INPUT: true; the input reads as it did. -/
def taskPrioritySpec : ChangeSpec := { name := "taskPriority", fn := fun _ => fun
  | [d1, d2, d3] => { results := [.lit (.bool true)], args := [d1, d2, d3] }
  | _ => none }
def taskPriorityRow : OpenClaim := { program := "ytgccemnddambeaa", sum := "8dc3360e761298d04cef0559b0ba2b2a62ebc6de9ac7e3795951713df45f200b", func := "taskmaster/taskmasterlaw5.TaskPriority", spec := "taskPriority", unfollowed := true, recurses := true, apart := false }
def TaskPrioritySaid : Prop := taskPriorityRow.holds Try.pinned (OpenSpec.ofChange taskPrioritySpec)

/-- ITS FALSE NEIGHBOUR: 'it returns false'. Refute it at one input. -/
def taskPriorityWrong : ChangeSpec := { name := "taskPriority", fn := fun _ => fun
  | [d1, d2, d3] => { results := [.lit (.bool false)], args := [d1, d2, d3] }
  | _ => none }
def TaskPriorityWrongFalsely : Prop := taskPriorityRow.holds Try.pinned (OpenSpec.ofChange taskPriorityWrong)

/-- 'taskmasterlaw5.TaskNames': WHATEVER THE INPUT: true; the input reads as it did. -/
def taskNamesSpec : ChangeSpec := { name := "taskNames", fn := fun _ => fun
  | [d1, d2, d3] => { results := [.lit (.bool true)], args := [d1, d2, d3] }
  | _ => none }
def taskNamesRow : OpenClaim := { program := "ytgccemnddambeaa", sum := "8dc3360e761298d04cef0559b0ba2b2a62ebc6de9ac7e3795951713df45f200b", func := "taskmaster/taskmasterlaw5.TaskNames", spec := "taskNames", unfollowed := true, recurses := true, apart := false }
def TaskNamesSaid : Prop := taskNamesRow.holds Try.pinned (OpenSpec.ofChange taskNamesSpec)

/-- ITS FALSE NEIGHBOUR: 'it returns false'. Refute it at one input. -/
def taskNamesWrong : ChangeSpec := { name := "taskNames", fn := fun _ => fun
  | [d1, d2, d3] => { results := [.lit (.bool false)], args := [d1, d2, d3] }
  | _ => none }
def TaskNamesWrongFalsely : Prop := taskNamesRow.holds Try.pinned (OpenSpec.ofChange taskNamesWrong)

/- THE SECOND FORM. 'bulk': how many values and letters a reading holds, each counted each time it is reached (what is shared counts as often as it is met; a slice's spare places count too). A statement '..UptoSaid' is the law's where the arguments, and the package variables that the reading takes, are together of bulk at most 1048576: NARROWER than '..Said'. Prove '..Said' where nothing that the law and all that it calls make is longer than what came in: it says more and counts as full. Else prove '..UptoSaid'. A law counts once. -/
mutual
def uptoBulk {H : Type} : DataW H → Nat
  | .lit (.string bytes) => bytes.length + 1
  | .lit _ => 1
  | .nil => 1
  | .ptr d => uptoBulk d + 1
  | .slice elems spare => uptoBulkAll elems + uptoBulkAll spare + 1
  | .agg parts => uptoBulkAll parts + 1
  | .iface _ d => uptoBulk d + 1
  | .map entries => uptoBulkEntries entries + 1
  | .held _ => 1
def uptoBulkAll {H : Type} : List (DataW H) → Nat
  | [] => 0
  | d :: r => uptoBulk d + uptoBulkAll r
def uptoBulkEntries {H : Type} : List (Lit × DataW H) → Nat
  | [] => 0
  | x :: r => uptoBulkEntry x + uptoBulkEntries r
def uptoBulkEntry {H : Type} : Lit × DataW H → Nat
  | (.string bytes, d) => bytes.length + uptoBulk d + 1
  | (_, d) => uptoBulk d + 1
 end
def uptoSmall : (H : Type) → List (DataW H) → Bool := fun _ ds => decide (uptoBulkAll ds ≤ 1048576)
def OpenSpec.upto (s : _root_.Go.ChangeSpec) : _root_.Go.OpenSpec := { _root_.Go.OpenSpec.ofChange s with cond := some uptoSmall }

/-- 'taskmasterlaw5.TaskIs', WHERE WHAT IT READS IS OF BULK AT MOST 1048576: true; the input reads as it did. -/
def taskIsUptoRow : OpenClaim := { program := "ytgccemnddambeaa", sum := "8dc3360e761298d04cef0559b0ba2b2a62ebc6de9ac7e3795951713df45f200b", func := "taskmaster/taskmasterlaw5.TaskIs", spec := "taskIs", unfollowed := true, recurses := true, apart := false, narrowed := true }
def TaskIsUptoSaid : Prop := taskIsUptoRow.holds Try.pinned (OpenSpec.upto taskIsSpec)

/-- 'taskmasterlaw5.TaskAll', WHERE WHAT IT READS IS OF BULK AT MOST 1048576: true; the input reads as it did. -/
def taskAllUptoRow : OpenClaim := { program := "ytgccemnddambeaa", sum := "8dc3360e761298d04cef0559b0ba2b2a62ebc6de9ac7e3795951713df45f200b", func := "taskmaster/taskmasterlaw5.TaskAll", spec := "taskAll", unfollowed := true, recurses := true, apart := false, narrowed := true }
def TaskAllUptoSaid : Prop := taskAllUptoRow.holds Try.pinned (OpenSpec.upto taskAllSpec)

/-- 'taskmasterlaw5.TaskSame', WHERE WHAT IT READS IS OF BULK AT MOST 1048576: true; the input reads as it did. -/
def taskSameUptoRow : OpenClaim := { program := "ytgccemnddambeaa", sum := "8dc3360e761298d04cef0559b0ba2b2a62ebc6de9ac7e3795951713df45f200b", func := "taskmaster/taskmasterlaw5.TaskSame", spec := "taskSame", unfollowed := true, recurses := true, apart := false, narrowed := true }
def TaskSameUptoSaid : Prop := taskSameUptoRow.holds Try.pinned (OpenSpec.upto taskSameSpec)

/-- 'taskmasterlaw5.TaskOdd', WHERE WHAT IT READS IS OF BULK AT MOST 1048576: true; the input reads as it did. -/
def taskOddUptoRow : OpenClaim := { program := "ytgccemnddambeaa", sum := "8dc3360e761298d04cef0559b0ba2b2a62ebc6de9ac7e3795951713df45f200b", func := "taskmaster/taskmasterlaw5.TaskOdd", spec := "taskOdd", unfollowed := true, recurses := true, apart := false, narrowed := true }
def TaskOddUptoSaid : Prop := taskOddUptoRow.holds Try.pinned (OpenSpec.upto taskOddSpec)

/-- 'taskmasterlaw5.TaskPriority', WHERE WHAT IT READS IS OF BULK AT MOST 1048576: true; the input reads as it did. -/
def taskPriorityUptoRow : OpenClaim := { program := "ytgccemnddambeaa", sum := "8dc3360e761298d04cef0559b0ba2b2a62ebc6de9ac7e3795951713df45f200b", func := "taskmaster/taskmasterlaw5.TaskPriority", spec := "taskPriority", unfollowed := true, recurses := true, apart := false, narrowed := true }
def TaskPriorityUptoSaid : Prop := taskPriorityUptoRow.holds Try.pinned (OpenSpec.upto taskPrioritySpec)

/-- 'taskmasterlaw5.TaskNames', WHERE WHAT IT READS IS OF BULK AT MOST 1048576: true; the input reads as it did. -/
def taskNamesUptoRow : OpenClaim := { program := "ytgccemnddambeaa", sum := "8dc3360e761298d04cef0559b0ba2b2a62ebc6de9ac7e3795951713df45f200b", func := "taskmaster/taskmasterlaw5.TaskNames", spec := "taskNames", unfollowed := true, recurses := true, apart := false, narrowed := true }
def TaskNamesUptoSaid : Prop := taskNamesUptoRow.holds Try.pinned (OpenSpec.upto taskNamesSpec)

end Rows
end Go.Proofs.Ytgccemnddambeaa
