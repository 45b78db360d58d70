/-
  No cell of these rows narrows 'for every input' (looked for: loops, veiled, ifaces, maps, wideKeys, modest, calm, conditions, laid).
  DERIVED. THE GIVEN ROWS OF THIS SEAT. 5 by the template 'for every input the law returns true; each argument reads behind the call as it read before'; 0 by the template 'total and deterministic' (their statements: YtcenibledkabpaaTotals.lean).
  GIVEN WITH THE SEED: the statements are not yours to turn. If you find one false, say at which input.
  Laid BY PROGRAM, IN A SANDBOX (cutbox-rows.mjs): the forced cells as the released guide's own fill.sh prints them over the translation d736770e9a2e7f9d… (all of the seat's roots in one cut). By AI agents, Wed Nov 11 2026. No macro, syntax, notation, axiom, sorry.
-/
import Derived.Test.YtcenibledkabpaaChecked
import GoSem.Claim
import GoSem.ClaimJoined
import GoSem.ClaimMapViews
import Derived.JoinedTies
import Derived.KernelRfl
namespace Go.Proofs.Ytcenibledkabpaa
/- THE CELL 'sum', in the pinned program and in every row, IS THE sha256 OF THE DUMP (.gsa) THAT YtcenibledkabpaaProg.lean LOADS. Nothing in Lean hashes anything: it is a label: what it is worth is what the hold of that sum in a sandbox is worth. -/
noncomputable def Try.pinned : Pinned := { name := "ytcenibledkabpaa", sum := "d736770e9a2e7f9d91f1ad4384d50004ec5f7c7203f16e9ce704383fdc6155b9", checked := Try.checked }
namespace Rows
def none {H : Type} : Left H := { results := [], args := [] }

/-- 'taskmasterlaw13.AdmitJudges': WHATEVER THE INPUT: true; the input reads as it did. -/
def admitJudgesSpec : ChangeSpec := { name := "admitJudges", fn := fun _ => fun
  | [d] => { results := [.lit (.bool true)], args := [d] }
  | _ => none }
def admitJudgesRow : OpenClaim := { program := "ytcenibledkabpaa", sum := "d736770e9a2e7f9d91f1ad4384d50004ec5f7c7203f16e9ce704383fdc6155b9", func := "taskmaster/taskmasterlaw13.AdmitJudges", spec := "admitJudges", unfollowed := true, recurses := true, apart := false }
def AdmitJudgesSaid : Prop := admitJudgesRow.holds Try.pinned (OpenSpec.ofChange admitJudgesSpec)

/-- ITS FALSE NEIGHBOUR: 'it returns false'. Refute it at one input. -/
def admitJudgesWrong : ChangeSpec := { name := "admitJudges", fn := fun _ => fun
  | [d] => { results := [.lit (.bool false)], args := [d] }
  | _ => none }
def AdmitJudgesWrongFalsely : Prop := admitJudgesRow.holds Try.pinned (OpenSpec.ofChange admitJudgesWrong)

/-- 'taskmasterlaw13.AdmitOne': WHATEVER THE INPUT: true; the input reads as it did. -/
def admitOneSpec : ChangeSpec := { name := "admitOne", fn := fun _ => fun
  | [d1, d2] => { results := [.lit (.bool true)], args := [d1, d2] }
  | _ => none }
def admitOneRow : OpenClaim := { program := "ytcenibledkabpaa", sum := "d736770e9a2e7f9d91f1ad4384d50004ec5f7c7203f16e9ce704383fdc6155b9", func := "taskmaster/taskmasterlaw13.AdmitOne", spec := "admitOne", unfollowed := true, recurses := true, apart := false }
def AdmitOneSaid : Prop := admitOneRow.holds Try.pinned (OpenSpec.ofChange admitOneSpec)

/-- ITS FALSE NEIGHBOUR: 'it returns false'. Refute it at one input. -/
def admitOneWrong : ChangeSpec := { name := "admitOne", fn := fun _ => fun
  | [d1, d2] => { results := [.lit (.bool false)], args := [d1, d2] }
  | _ => none }
def AdmitOneWrongFalsely : Prop := admitOneRow.holds Try.pinned (OpenSpec.ofChange admitOneWrong)

/-- 'taskmasterlaw13.AdmitBounds': WHATEVER THE INPUT: true; the input reads as it did. -/
def admitBoundsSpec : ChangeSpec := { name := "admitBounds", fn := fun _ => fun
  | [d] => { results := [.lit (.bool true)], args := [d] }
  | _ => none }
def admitBoundsRow : OpenClaim := { program := "ytcenibledkabpaa", sum := "d736770e9a2e7f9d91f1ad4384d50004ec5f7c7203f16e9ce704383fdc6155b9", func := "taskmaster/taskmasterlaw13.AdmitBounds", spec := "admitBounds", unfollowed := true, recurses := true, apart := false }
def AdmitBoundsSaid : Prop := admitBoundsRow.holds Try.pinned (OpenSpec.ofChange admitBoundsSpec)

/-- ITS FALSE NEIGHBOUR: 'it returns false'. Refute it at one input. -/
def admitBoundsWrong : ChangeSpec := { name := "admitBounds", fn := fun _ => fun
  | [d] => { results := [.lit (.bool false)], args := [d] }
  | _ => none }
def AdmitBoundsWrongFalsely : Prop := admitBoundsRow.holds Try.pinned (OpenSpec.ofChange admitBoundsWrong)

/-- 'taskmasterlaw13.AdmitSame': WHATEVER THE INPUT: true; the input reads as it did. -/
def admitSameSpec : ChangeSpec := { name := "admitSame", fn := fun _ => fun
  | [d1, d2] => { results := [.lit (.bool true)], args := [d1, d2] }
  | _ => none }
def admitSameRow : OpenClaim := { program := "ytcenibledkabpaa", sum := "d736770e9a2e7f9d91f1ad4384d50004ec5f7c7203f16e9ce704383fdc6155b9", func := "taskmaster/taskmasterlaw13.AdmitSame", spec := "admitSame", unfollowed := true, recurses := true, apart := false }
def AdmitSameSaid : Prop := admitSameRow.holds Try.pinned (OpenSpec.ofChange admitSameSpec)

/-- ITS FALSE NEIGHBOUR: 'it returns false'. Refute it at one input. -/
def admitSameWrong : ChangeSpec := { name := "admitSame", fn := fun _ => fun
  | [d1, d2] => { results := [.lit (.bool false)], args := [d1, d2] }
  | _ => none }
def AdmitSameWrongFalsely : Prop := admitSameRow.holds Try.pinned (OpenSpec.ofChange admitSameWrong)

/-- 'taskmasterlaw13.AdmitLess': WHATEVER THE INPUT: true; the input reads as it did. -/
def admitLessSpec : ChangeSpec := { name := "admitLess", fn := fun _ => fun
  | [d1, d2, d3] => { results := [.lit (.bool true)], args := [d1, d2, d3] }
  | _ => none }
def admitLessRow : OpenClaim := { program := "ytcenibledkabpaa", sum := "d736770e9a2e7f9d91f1ad4384d50004ec5f7c7203f16e9ce704383fdc6155b9", func := "taskmaster/taskmasterlaw13.AdmitLess", spec := "admitLess", unfollowed := true, recurses := true, apart := false }
def AdmitLessSaid : Prop := admitLessRow.holds Try.pinned (OpenSpec.ofChange admitLessSpec)

/-- ITS FALSE NEIGHBOUR: 'it returns false'. Refute it at one input. -/
def admitLessWrong : ChangeSpec := { name := "admitLess", fn := fun _ => fun
  | [d1, d2, d3] => { results := [.lit (.bool false)], args := [d1, d2, d3] }
  | _ => none }
def AdmitLessWrongFalsely : Prop := admitLessRow.holds Try.pinned (OpenSpec.ofChange admitLessWrong)

/- THE SECOND FORM. 'bulk': how many values and letters a reading holds, each counted each time it is reached (what is shared counts as often as it is met; a slice's spare places count too). A statement '..UptoSaid' is the law's where the arguments, and the package variables that the reading takes, are together of bulk at most 1048576: NARROWER than '..Said'. Prove '..Said' where nothing that the law and all that it calls make is longer than what came in: it says more and counts as full. Else prove '..UptoSaid'. A law counts once. -/
mutual
def uptoBulk {H : Type} : DataW H → Nat
  | .lit (.string bytes) => bytes.length + 1
  | .lit _ => 1
  | .nil => 1
  | .ptr d => uptoBulk d + 1
  | .slice elems spare => uptoBulkAll elems + uptoBulkAll spare + 1
  | .agg parts => uptoBulkAll parts + 1
  | .iface _ d => uptoBulk d + 1
  | .map entries => uptoBulkEntries entries + 1
  | .held _ => 1
def uptoBulkAll {H : Type} : List (DataW H) → Nat
  | [] => 0
  | d :: r => uptoBulk d + uptoBulkAll r
def uptoBulkEntries {H : Type} : List (Lit × DataW H) → Nat
  | [] => 0
  | x :: r => uptoBulkEntry x + uptoBulkEntries r
def uptoBulkEntry {H : Type} : Lit × DataW H → Nat
  | (.string bytes, d) => bytes.length + uptoBulk d + 1
  | (_, d) => uptoBulk d + 1
 end
def uptoSmall : (H : Type) → List (DataW H) → Bool := fun _ ds => decide (uptoBulkAll ds ≤ 1048576)
def OpenSpec.upto (s : _root_.Go.ChangeSpec) : _root_.Go.OpenSpec := { _root_.Go.OpenSpec.ofChange s with cond := some uptoSmall }

/-- 'taskmasterlaw13.AdmitJudges', WHERE WHAT IT READS IS OF BULK AT MOST 1048576: true; the input reads as it did. -/
def admitJudgesUptoRow : OpenClaim := { program := "ytcenibledkabpaa", sum := "d736770e9a2e7f9d91f1ad4384d50004ec5f7c7203f16e9ce704383fdc6155b9", func := "taskmaster/taskmasterlaw13.AdmitJudges", spec := "admitJudges", unfollowed := true, recurses := true, apart := false, narrowed := true }
def AdmitJudgesUptoSaid : Prop := admitJudgesUptoRow.holds Try.pinned (OpenSpec.upto admitJudgesSpec)

/-- 'taskmasterlaw13.AdmitOne', WHERE WHAT IT READS IS OF BULK AT MOST 1048576: true; the input reads as it did. -/
def admitOneUptoRow : OpenClaim := { program := "ytcenibledkabpaa", sum := "d736770e9a2e7f9d91f1ad4384d50004ec5f7c7203f16e9ce704383fdc6155b9", func := "taskmaster/taskmasterlaw13.AdmitOne", spec := "admitOne", unfollowed := true, recurses := true, apart := false, narrowed := true }
def AdmitOneUptoSaid : Prop := admitOneUptoRow.holds Try.pinned (OpenSpec.upto admitOneSpec)

/-- 'taskmasterlaw13.AdmitBounds', WHERE WHAT IT READS IS OF BULK AT MOST 1048576: true; the input reads as it did. -/
def admitBoundsUptoRow : OpenClaim := { program := "ytcenibledkabpaa", sum := "d736770e9a2e7f9d91f1ad4384d50004ec5f7c7203f16e9ce704383fdc6155b9", func := "taskmaster/taskmasterlaw13.AdmitBounds", spec := "admitBounds", unfollowed := true, recurses := true, apart := false, narrowed := true }
def AdmitBoundsUptoSaid : Prop := admitBoundsUptoRow.holds Try.pinned (OpenSpec.upto admitBoundsSpec)

/-- 'taskmasterlaw13.AdmitSame', WHERE WHAT IT READS IS OF BULK AT MOST 1048576: true; the input reads as it did. -/
def admitSameUptoRow : OpenClaim := { program := "ytcenibledkabpaa", sum := "d736770e9a2e7f9d91f1ad4384d50004ec5f7c7203f16e9ce704383fdc6155b9", func := "taskmaster/taskmasterlaw13.AdmitSame", spec := "admitSame", unfollowed := true, recurses := true, apart := false, narrowed := true }
def AdmitSameUptoSaid : Prop := admitSameUptoRow.holds Try.pinned (OpenSpec.upto admitSameSpec)

/-- 'taskmasterlaw13.AdmitLess', WHERE WHAT IT READS IS OF BULK AT MOST 1048576: true; the input reads as it did. -/
def admitLessUptoRow : OpenClaim := { program := "ytcenibledkabpaa", sum := "d736770e9a2e7f9d91f1ad4384d50004ec5f7c7203f16e9ce704383fdc6155b9", func := "taskmaster/taskmasterlaw13.AdmitLess", spec := "admitLess", unfollowed := true, recurses := true, apart := false, narrowed := true }
def AdmitLessUptoSaid : Prop := admitLessUptoRow.holds Try.pinned (OpenSpec.upto admitLessSpec)

end Rows
end Go.Proofs.Ytcenibledkabpaa
