/-
  No cell of these rows narrows 'for every input' (looked for: loops, veiled, ifaces, maps, wideKeys, modest, calm, conditions, laid).
  DERIVED. THE GIVEN ROWS OF THIS SEAT. 13 by the template 'for every input the law returns true; each argument reads behind the call as it read before'; 0 by the template 'total and deterministic' (their statements: YteioljgkfhkllaaTotals.lean).
  GIVEN WITH THE SEED: the statements are not yours to turn. If you find one false, say at which input.
  Laid BY PROGRAM, IN A SANDBOX (cutbox-rows.mjs): the forced cells as the released guide's own fill.sh prints them over the translation e1d5b3f78a0e35bc… (all of the seat's roots in one cut). By AI agents, Wed Nov 11 2026. No macro, syntax, notation, axiom, sorry.
-/
import Derived.Test.YteioljgkfhkllaaChecked
import GoSem.Claim
import GoSem.ClaimJoined
import GoSem.ClaimMapViews
import Derived.JoinedTies
import Derived.KernelRfl
namespace Go.Proofs.Yteioljgkfhkllaa
/- THE CELL 'sum', in the pinned program and in every row, IS THE sha256 OF THE DUMP (.gsa) THAT YteioljgkfhkllaaProg.lean LOADS. Nothing in Lean hashes anything: it is a label: what it is worth is what the hold of that sum in a sandbox is worth. -/
noncomputable def Try.pinned : Pinned := { name := "yteioljgkfhkllaa", sum := "e1d5b3f78a0e35bce3949dc3d507b411c5fae9056d88284ecb1efc88a190fe40", checked := Try.checked }
namespace Rows
def none {H : Type} : Left H := { results := [], args := [] }

/-- 'retorterlaw4.AigChecks': WHATEVER THE INPUT: true; the input reads as it did. -/
def aigChecksSpec : ChangeSpec := { name := "aigChecks", fn := fun _ => fun
  | [d] => { results := [.lit (.bool true)], args := [d] }
  | _ => none }
def aigChecksRow : OpenClaim := { program := "yteioljgkfhkllaa", sum := "e1d5b3f78a0e35bce3949dc3d507b411c5fae9056d88284ecb1efc88a190fe40", func := "retorter/retorterlaw4.AigChecks", spec := "aigChecks", unfollowed := true, recurses := true, plainKeys := false, apart := false }
def AigChecksSaid : Prop := aigChecksRow.holds Try.pinned (OpenSpec.ofChange aigChecksSpec)

/-- ITS FALSE NEIGHBOUR: 'it returns false'. Refute it at one input. -/
def aigChecksWrong : ChangeSpec := { name := "aigChecks", fn := fun _ => fun
  | [d] => { results := [.lit (.bool false)], args := [d] }
  | _ => none }
def AigChecksWrongFalsely : Prop := aigChecksRow.holds Try.pinned (OpenSpec.ofChange aigChecksWrong)

/-- 'retorterlaw4.AigNormals': WHATEVER THE INPUT: true; the input reads as it did. -/
def aigNormalsSpec : ChangeSpec := { name := "aigNormals", fn := fun _ => fun
  | [d] => { results := [.lit (.bool true)], args := [d] }
  | _ => none }
def aigNormalsRow : OpenClaim := { program := "yteioljgkfhkllaa", sum := "e1d5b3f78a0e35bce3949dc3d507b411c5fae9056d88284ecb1efc88a190fe40", func := "retorter/retorterlaw4.AigNormals", spec := "aigNormals", unfollowed := true, recurses := true, plainKeys := false, apart := false }
def AigNormalsSaid : Prop := aigNormalsRow.holds Try.pinned (OpenSpec.ofChange aigNormalsSpec)

/-- ITS FALSE NEIGHBOUR: 'it returns false'. Refute it at one input. -/
def aigNormalsWrong : ChangeSpec := { name := "aigNormals", fn := fun _ => fun
  | [d] => { results := [.lit (.bool false)], args := [d] }
  | _ => none }
def AigNormalsWrongFalsely : Prop := aigNormalsRow.holds Try.pinned (OpenSpec.ofChange aigNormalsWrong)

/-- 'retorterlaw4.AigAgain': WHATEVER THE INPUT: true; the input reads as it did. -/
def aigAgainSpec : ChangeSpec := { name := "aigAgain", fn := fun _ => fun
  | [d] => { results := [.lit (.bool true)], args := [d] }
  | _ => none }
def aigAgainRow : OpenClaim := { program := "yteioljgkfhkllaa", sum := "e1d5b3f78a0e35bce3949dc3d507b411c5fae9056d88284ecb1efc88a190fe40", func := "retorter/retorterlaw4.AigAgain", spec := "aigAgain", unfollowed := true, recurses := true, plainKeys := false, apart := false }
def AigAgainSaid : Prop := aigAgainRow.holds Try.pinned (OpenSpec.ofChange aigAgainSpec)

/-- ITS FALSE NEIGHBOUR: 'it returns false'. Refute it at one input. -/
def aigAgainWrong : ChangeSpec := { name := "aigAgain", fn := fun _ => fun
  | [d] => { results := [.lit (.bool false)], args := [d] }
  | _ => none }
def AigAgainWrongFalsely : Prop := aigAgainRow.holds Try.pinned (OpenSpec.ofChange aigAgainWrong)

/-- 'retorterlaw4.AigSame': WHATEVER THE INPUT: true; the input reads as it did. -/
def aigSameSpec : ChangeSpec := { name := "aigSame", fn := fun _ => fun
  | [d1, d2] => { results := [.lit (.bool true)], args := [d1, d2] }
  | _ => none }
def aigSameRow : OpenClaim := { program := "yteioljgkfhkllaa", sum := "e1d5b3f78a0e35bce3949dc3d507b411c5fae9056d88284ecb1efc88a190fe40", func := "retorter/retorterlaw4.AigSame", spec := "aigSame", unfollowed := true, recurses := true, plainKeys := false, apart := false }
def AigSameSaid : Prop := aigSameRow.holds Try.pinned (OpenSpec.ofChange aigSameSpec)

/-- ITS FALSE NEIGHBOUR: 'it returns false'. Refute it at one input. -/
def aigSameWrong : ChangeSpec := { name := "aigSame", fn := fun _ => fun
  | [d1, d2] => { results := [.lit (.bool false)], args := [d1, d2] }
  | _ => none }
def AigSameWrongFalsely : Prop := aigSameRow.holds Try.pinned (OpenSpec.ofChange aigSameWrong)

/-- 'retorterlaw4.AigLimits': WHATEVER THE INPUT: true; the input reads as it did. -/
def aigLimitsSpec : ChangeSpec := { name := "aigLimits", fn := fun _ => fun
  | [d1, d2] => { results := [.lit (.bool true)], args := [d1, d2] }
  | _ => none }
def aigLimitsRow : OpenClaim := { program := "yteioljgkfhkllaa", sum := "e1d5b3f78a0e35bce3949dc3d507b411c5fae9056d88284ecb1efc88a190fe40", func := "retorter/retorterlaw4.AigLimits", spec := "aigLimits", unfollowed := true, recurses := true, plainKeys := false, apart := false }
def AigLimitsSaid : Prop := aigLimitsRow.holds Try.pinned (OpenSpec.ofChange aigLimitsSpec)

/-- ITS FALSE NEIGHBOUR: 'it returns false'. Refute it at one input. -/
def aigLimitsWrong : ChangeSpec := { name := "aigLimits", fn := fun _ => fun
  | [d1, d2] => { results := [.lit (.bool false)], args := [d1, d2] }
  | _ => none }
def AigLimitsWrongFalsely : Prop := aigLimitsRow.holds Try.pinned (OpenSpec.ofChange aigLimitsWrong)

/-- 'retorterlaw4.AigRings': WHATEVER THE INPUT: true; the input reads as it did. -/
def aigRingsSpec : ChangeSpec := { name := "aigRings", fn := fun _ => fun
  | [d1, d2, d3] => { results := [.lit (.bool true)], args := [d1, d2, d3] }
  | _ => none }
def aigRingsRow : OpenClaim := { program := "yteioljgkfhkllaa", sum := "e1d5b3f78a0e35bce3949dc3d507b411c5fae9056d88284ecb1efc88a190fe40", func := "retorter/retorterlaw4.AigRings", spec := "aigRings", unfollowed := true, recurses := true, plainKeys := false, apart := false }
def AigRingsSaid : Prop := aigRingsRow.holds Try.pinned (OpenSpec.ofChange aigRingsSpec)

/-- ITS FALSE NEIGHBOUR: 'it returns false'. Refute it at one input. -/
def aigRingsWrong : ChangeSpec := { name := "aigRings", fn := fun _ => fun
  | [d1, d2, d3] => { results := [.lit (.bool false)], args := [d1, d2, d3] }
  | _ => none }
def AigRingsWrongFalsely : Prop := aigRingsRow.holds Try.pinned (OpenSpec.ofChange aigRingsWrong)

/-- 'retorterlaw4.AigWrong': WHATEVER THE INPUT: true; the input reads as it did. -/
def aigWrongSpec : ChangeSpec := { name := "aigWrong", fn := fun _ => fun
  | [d] => { results := [.lit (.bool true)], args := [d] }
  | _ => none }
def aigWrongRow : OpenClaim := { program := "yteioljgkfhkllaa", sum := "e1d5b3f78a0e35bce3949dc3d507b411c5fae9056d88284ecb1efc88a190fe40", func := "retorter/retorterlaw4.AigWrong", spec := "aigWrong", unfollowed := true, recurses := true, plainKeys := false, apart := false }
def AigWrongSaid : Prop := aigWrongRow.holds Try.pinned (OpenSpec.ofChange aigWrongSpec)

/-- ITS FALSE NEIGHBOUR: 'it returns false'. Refute it at one input. -/
def aigWrongWrong : ChangeSpec := { name := "aigWrong", fn := fun _ => fun
  | [d] => { results := [.lit (.bool false)], args := [d] }
  | _ => none }
def AigWrongWrongFalsely : Prop := aigWrongRow.holds Try.pinned (OpenSpec.ofChange aigWrongWrong)

/-- 'retorterlaw8.SimSteps': WHATEVER THE INPUT: true; the input reads as it did. -/
def simStepsSpec : ChangeSpec := { name := "simSteps", fn := fun _ => fun
  | [d1, d2, d3] => { results := [.lit (.bool true)], args := [d1, d2, d3] }
  | _ => none }
def simStepsRow : OpenClaim := { program := "yteioljgkfhkllaa", sum := "e1d5b3f78a0e35bce3949dc3d507b411c5fae9056d88284ecb1efc88a190fe40", func := "retorter/retorterlaw8.SimSteps", spec := "simSteps", unfollowed := true, recurses := true, plainKeys := false, apart := false }
def SimStepsSaid : Prop := simStepsRow.holds Try.pinned (OpenSpec.ofChange simStepsSpec)

/-- ITS FALSE NEIGHBOUR: 'it returns false'. Refute it at one input. -/
def simStepsWrong : ChangeSpec := { name := "simSteps", fn := fun _ => fun
  | [d1, d2, d3] => { results := [.lit (.bool false)], args := [d1, d2, d3] }
  | _ => none }
def SimStepsWrongFalsely : Prop := simStepsRow.holds Try.pinned (OpenSpec.ofChange simStepsWrong)

/-- 'retorterlaw8.SimFirsts': WHATEVER THE INPUT: true; the input reads as it did. -/
def simFirstsSpec : ChangeSpec := { name := "simFirsts", fn := fun _ => fun
  | [d1, d2] => { results := [.lit (.bool true)], args := [d1, d2] }
  | _ => none }
def simFirstsRow : OpenClaim := { program := "yteioljgkfhkllaa", sum := "e1d5b3f78a0e35bce3949dc3d507b411c5fae9056d88284ecb1efc88a190fe40", func := "retorter/retorterlaw8.SimFirsts", spec := "simFirsts", unfollowed := true, recurses := true, plainKeys := false, apart := false }
def SimFirstsSaid : Prop := simFirstsRow.holds Try.pinned (OpenSpec.ofChange simFirstsSpec)

/-- ITS FALSE NEIGHBOUR: 'it returns false'. Refute it at one input. -/
def simFirstsWrong : ChangeSpec := { name := "simFirsts", fn := fun _ => fun
  | [d1, d2] => { results := [.lit (.bool false)], args := [d1, d2] }
  | _ => none }
def SimFirstsWrongFalsely : Prop := simFirstsRow.holds Try.pinned (OpenSpec.ofChange simFirstsWrong)

/-- 'retorterlaw8.SimNormal': WHATEVER THE INPUT: true; the input reads as it did. -/
def simNormalSpec : ChangeSpec := { name := "simNormal", fn := fun _ => fun
  | [d1, d2, d3] => { results := [.lit (.bool true)], args := [d1, d2, d3] }
  | _ => none }
def simNormalRow : OpenClaim := { program := "yteioljgkfhkllaa", sum := "e1d5b3f78a0e35bce3949dc3d507b411c5fae9056d88284ecb1efc88a190fe40", func := "retorter/retorterlaw8.SimNormal", spec := "simNormal", unfollowed := true, recurses := true, plainKeys := false, apart := false }
def SimNormalSaid : Prop := simNormalRow.holds Try.pinned (OpenSpec.ofChange simNormalSpec)

/-- ITS FALSE NEIGHBOUR: 'it returns false'. Refute it at one input. -/
def simNormalWrong : ChangeSpec := { name := "simNormal", fn := fun _ => fun
  | [d1, d2, d3] => { results := [.lit (.bool false)], args := [d1, d2, d3] }
  | _ => none }
def SimNormalWrongFalsely : Prop := simNormalRow.holds Try.pinned (OpenSpec.ofChange simNormalWrong)

/-- 'retorterlaw8.SimCounts': WHATEVER THE INPUT: true; the input reads as it did. -/
def simCountsSpec : ChangeSpec := { name := "simCounts", fn := fun _ => fun
  | [d1, d2] => { results := [.lit (.bool true)], args := [d1, d2] }
  | _ => none }
def simCountsRow : OpenClaim := { program := "yteioljgkfhkllaa", sum := "e1d5b3f78a0e35bce3949dc3d507b411c5fae9056d88284ecb1efc88a190fe40", func := "retorter/retorterlaw8.SimCounts", spec := "simCounts", unfollowed := true, recurses := true, plainKeys := false, apart := false }
def SimCountsSaid : Prop := simCountsRow.holds Try.pinned (OpenSpec.ofChange simCountsSpec)

/-- ITS FALSE NEIGHBOUR: 'it returns false'. Refute it at one input. -/
def simCountsWrong : ChangeSpec := { name := "simCounts", fn := fun _ => fun
  | [d1, d2] => { results := [.lit (.bool false)], args := [d1, d2] }
  | _ => none }
def SimCountsWrongFalsely : Prop := simCountsRow.holds Try.pinned (OpenSpec.ofChange simCountsWrong)

/-- 'retorterlaw8.SimHolds': WHATEVER THE INPUT: true; the input reads as it did. -/
def simHoldsSpec : ChangeSpec := { name := "simHolds", fn := fun _ => fun
  | [d1, d2, d3] => { results := [.lit (.bool true)], args := [d1, d2, d3] }
  | _ => none }
def simHoldsRow : OpenClaim := { program := "yteioljgkfhkllaa", sum := "e1d5b3f78a0e35bce3949dc3d507b411c5fae9056d88284ecb1efc88a190fe40", func := "retorter/retorterlaw8.SimHolds", spec := "simHolds", unfollowed := true, recurses := true, plainKeys := false, apart := false }
def SimHoldsSaid : Prop := simHoldsRow.holds Try.pinned (OpenSpec.ofChange simHoldsSpec)

/-- ITS FALSE NEIGHBOUR: 'it returns false'. Refute it at one input. -/
def simHoldsWrong : ChangeSpec := { name := "simHolds", fn := fun _ => fun
  | [d1, d2, d3] => { results := [.lit (.bool false)], args := [d1, d2, d3] }
  | _ => none }
def SimHoldsWrongFalsely : Prop := simHoldsRow.holds Try.pinned (OpenSpec.ofChange simHoldsWrong)

/-- 'retorterlaw8.SimGates': WHATEVER THE INPUT: true; the input reads as it did. -/
def simGatesSpec : ChangeSpec := { name := "simGates", fn := fun _ => fun
  | [d1, d2, d3, d4] => { results := [.lit (.bool true)], args := [d1, d2, d3, d4] }
  | _ => none }
def simGatesRow : OpenClaim := { program := "yteioljgkfhkllaa", sum := "e1d5b3f78a0e35bce3949dc3d507b411c5fae9056d88284ecb1efc88a190fe40", func := "retorter/retorterlaw8.SimGates", spec := "simGates", unfollowed := true, recurses := true, plainKeys := false, apart := false }
def SimGatesSaid : Prop := simGatesRow.holds Try.pinned (OpenSpec.ofChange simGatesSpec)

/-- ITS FALSE NEIGHBOUR: 'it returns false'. Refute it at one input. -/
def simGatesWrong : ChangeSpec := { name := "simGates", fn := fun _ => fun
  | [d1, d2, d3, d4] => { results := [.lit (.bool false)], args := [d1, d2, d3, d4] }
  | _ => none }
def SimGatesWrongFalsely : Prop := simGatesRow.holds Try.pinned (OpenSpec.ofChange simGatesWrong)

/- THE SECOND FORM. 'bulk': how many values and letters a reading holds, each counted each time it is reached (what is shared counts as often as it is met; a slice's spare places count too). A statement '..UptoSaid' is the law's where the arguments, and the package variables that the reading takes, are together of bulk at most 1048576: NARROWER than '..Said'. Prove '..Said' where nothing that the law and all that it calls make is longer than what came in: it says more and counts as full. Else prove '..UptoSaid'. A law counts once. -/
mutual
def uptoBulk {H : Type} : DataW H → Nat
  | .lit (.string bytes) => bytes.length + 1
  | .lit _ => 1
  | .nil => 1
  | .ptr d => uptoBulk d + 1
  | .slice elems spare => uptoBulkAll elems + uptoBulkAll spare + 1
  | .agg parts => uptoBulkAll parts + 1
  | .iface _ d => uptoBulk d + 1
  | .map entries => uptoBulkEntries entries + 1
  | .held _ => 1
def uptoBulkAll {H : Type} : List (DataW H) → Nat
  | [] => 0
  | d :: r => uptoBulk d + uptoBulkAll r
def uptoBulkEntries {H : Type} : List (Lit × DataW H) → Nat
  | [] => 0
  | x :: r => uptoBulkEntry x + uptoBulkEntries r
def uptoBulkEntry {H : Type} : Lit × DataW H → Nat
  | (.string bytes, d) => bytes.length + uptoBulk d + 1
  | (_, d) => uptoBulk d + 1
 end
def uptoSmall : (H : Type) → List (DataW H) → Bool := fun _ ds => decide (uptoBulkAll ds ≤ 1048576)
def OpenSpec.upto (s : _root_.Go.ChangeSpec) : _root_.Go.OpenSpec := { _root_.Go.OpenSpec.ofChange s with cond := some uptoSmall }

/-- 'retorterlaw4.AigChecks', WHERE WHAT IT READS IS OF BULK AT MOST 1048576: true; the input reads as it did. -/
def aigChecksUptoRow : OpenClaim := { program := "yteioljgkfhkllaa", sum := "e1d5b3f78a0e35bce3949dc3d507b411c5fae9056d88284ecb1efc88a190fe40", func := "retorter/retorterlaw4.AigChecks", spec := "aigChecks", unfollowed := true, recurses := true, plainKeys := false, apart := false, narrowed := true }
def AigChecksUptoSaid : Prop := aigChecksUptoRow.holds Try.pinned (OpenSpec.upto aigChecksSpec)

/-- 'retorterlaw4.AigNormals', WHERE WHAT IT READS IS OF BULK AT MOST 1048576: true; the input reads as it did. -/
def aigNormalsUptoRow : OpenClaim := { program := "yteioljgkfhkllaa", sum := "e1d5b3f78a0e35bce3949dc3d507b411c5fae9056d88284ecb1efc88a190fe40", func := "retorter/retorterlaw4.AigNormals", spec := "aigNormals", unfollowed := true, recurses := true, plainKeys := false, apart := false, narrowed := true }
def AigNormalsUptoSaid : Prop := aigNormalsUptoRow.holds Try.pinned (OpenSpec.upto aigNormalsSpec)

/-- 'retorterlaw4.AigAgain', WHERE WHAT IT READS IS OF BULK AT MOST 1048576: true; the input reads as it did. -/
def aigAgainUptoRow : OpenClaim := { program := "yteioljgkfhkllaa", sum := "e1d5b3f78a0e35bce3949dc3d507b411c5fae9056d88284ecb1efc88a190fe40", func := "retorter/retorterlaw4.AigAgain", spec := "aigAgain", unfollowed := true, recurses := true, plainKeys := false, apart := false, narrowed := true }
def AigAgainUptoSaid : Prop := aigAgainUptoRow.holds Try.pinned (OpenSpec.upto aigAgainSpec)

/-- 'retorterlaw4.AigSame', WHERE WHAT IT READS IS OF BULK AT MOST 1048576: true; the input reads as it did. -/
def aigSameUptoRow : OpenClaim := { program := "yteioljgkfhkllaa", sum := "e1d5b3f78a0e35bce3949dc3d507b411c5fae9056d88284ecb1efc88a190fe40", func := "retorter/retorterlaw4.AigSame", spec := "aigSame", unfollowed := true, recurses := true, plainKeys := false, apart := false, narrowed := true }
def AigSameUptoSaid : Prop := aigSameUptoRow.holds Try.pinned (OpenSpec.upto aigSameSpec)

/-- 'retorterlaw4.AigLimits', WHERE WHAT IT READS IS OF BULK AT MOST 1048576: true; the input reads as it did. -/
def aigLimitsUptoRow : OpenClaim := { program := "yteioljgkfhkllaa", sum := "e1d5b3f78a0e35bce3949dc3d507b411c5fae9056d88284ecb1efc88a190fe40", func := "retorter/retorterlaw4.AigLimits", spec := "aigLimits", unfollowed := true, recurses := true, plainKeys := false, apart := false, narrowed := true }
def AigLimitsUptoSaid : Prop := aigLimitsUptoRow.holds Try.pinned (OpenSpec.upto aigLimitsSpec)

/-- 'retorterlaw4.AigRings', WHERE WHAT IT READS IS OF BULK AT MOST 1048576: true; the input reads as it did. -/
def aigRingsUptoRow : OpenClaim := { program := "yteioljgkfhkllaa", sum := "e1d5b3f78a0e35bce3949dc3d507b411c5fae9056d88284ecb1efc88a190fe40", func := "retorter/retorterlaw4.AigRings", spec := "aigRings", unfollowed := true, recurses := true, plainKeys := false, apart := false, narrowed := true }
def AigRingsUptoSaid : Prop := aigRingsUptoRow.holds Try.pinned (OpenSpec.upto aigRingsSpec)

/-- 'retorterlaw4.AigWrong', WHERE WHAT IT READS IS OF BULK AT MOST 1048576: true; the input reads as it did. -/
def aigWrongUptoRow : OpenClaim := { program := "yteioljgkfhkllaa", sum := "e1d5b3f78a0e35bce3949dc3d507b411c5fae9056d88284ecb1efc88a190fe40", func := "retorter/retorterlaw4.AigWrong", spec := "aigWrong", unfollowed := true, recurses := true, plainKeys := false, apart := false, narrowed := true }
def AigWrongUptoSaid : Prop := aigWrongUptoRow.holds Try.pinned (OpenSpec.upto aigWrongSpec)

/-- 'retorterlaw8.SimSteps', WHERE WHAT IT READS IS OF BULK AT MOST 1048576: true; the input reads as it did. -/
def simStepsUptoRow : OpenClaim := { program := "yteioljgkfhkllaa", sum := "e1d5b3f78a0e35bce3949dc3d507b411c5fae9056d88284ecb1efc88a190fe40", func := "retorter/retorterlaw8.SimSteps", spec := "simSteps", unfollowed := true, recurses := true, plainKeys := false, apart := false, narrowed := true }
def SimStepsUptoSaid : Prop := simStepsUptoRow.holds Try.pinned (OpenSpec.upto simStepsSpec)

/-- 'retorterlaw8.SimFirsts', WHERE WHAT IT READS IS OF BULK AT MOST 1048576: true; the input reads as it did. -/
def simFirstsUptoRow : OpenClaim := { program := "yteioljgkfhkllaa", sum := "e1d5b3f78a0e35bce3949dc3d507b411c5fae9056d88284ecb1efc88a190fe40", func := "retorter/retorterlaw8.SimFirsts", spec := "simFirsts", unfollowed := true, recurses := true, plainKeys := false, apart := false, narrowed := true }
def SimFirstsUptoSaid : Prop := simFirstsUptoRow.holds Try.pinned (OpenSpec.upto simFirstsSpec)

/-- 'retorterlaw8.SimNormal', WHERE WHAT IT READS IS OF BULK AT MOST 1048576: true; the input reads as it did. -/
def simNormalUptoRow : OpenClaim := { program := "yteioljgkfhkllaa", sum := "e1d5b3f78a0e35bce3949dc3d507b411c5fae9056d88284ecb1efc88a190fe40", func := "retorter/retorterlaw8.SimNormal", spec := "simNormal", unfollowed := true, recurses := true, plainKeys := false, apart := false, narrowed := true }
def SimNormalUptoSaid : Prop := simNormalUptoRow.holds Try.pinned (OpenSpec.upto simNormalSpec)

/-- 'retorterlaw8.SimCounts', WHERE WHAT IT READS IS OF BULK AT MOST 1048576: true; the input reads as it did. -/
def simCountsUptoRow : OpenClaim := { program := "yteioljgkfhkllaa", sum := "e1d5b3f78a0e35bce3949dc3d507b411c5fae9056d88284ecb1efc88a190fe40", func := "retorter/retorterlaw8.SimCounts", spec := "simCounts", unfollowed := true, recurses := true, plainKeys := false, apart := false, narrowed := true }
def SimCountsUptoSaid : Prop := simCountsUptoRow.holds Try.pinned (OpenSpec.upto simCountsSpec)

/-- 'retorterlaw8.SimHolds', WHERE WHAT IT READS IS OF BULK AT MOST 1048576: true; the input reads as it did. -/
def simHoldsUptoRow : OpenClaim := { program := "yteioljgkfhkllaa", sum := "e1d5b3f78a0e35bce3949dc3d507b411c5fae9056d88284ecb1efc88a190fe40", func := "retorter/retorterlaw8.SimHolds", spec := "simHolds", unfollowed := true, recurses := true, plainKeys := false, apart := false, narrowed := true }
def SimHoldsUptoSaid : Prop := simHoldsUptoRow.holds Try.pinned (OpenSpec.upto simHoldsSpec)

/-- 'retorterlaw8.SimGates', WHERE WHAT IT READS IS OF BULK AT MOST 1048576: true; the input reads as it did. -/
def simGatesUptoRow : OpenClaim := { program := "yteioljgkfhkllaa", sum := "e1d5b3f78a0e35bce3949dc3d507b411c5fae9056d88284ecb1efc88a190fe40", func := "retorter/retorterlaw8.SimGates", spec := "simGates", unfollowed := true, recurses := true, plainKeys := false, apart := false, narrowed := true }
def SimGatesUptoSaid : Prop := simGatesUptoRow.holds Try.pinned (OpenSpec.upto simGatesSpec)

end Rows
end Go.Proofs.Yteioljgkfhkllaa
