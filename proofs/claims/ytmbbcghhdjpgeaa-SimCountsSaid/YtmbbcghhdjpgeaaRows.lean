/-
  No cell of these rows narrows 'for every input' (looked for: loops, veiled, ifaces, maps, wideKeys, modest, calm, conditions, laid).
  DERIVED. THE GIVEN ROWS OF THIS SEAT. 10 by the template 'for every input the law returns true; each argument reads behind the call as it read before'; 0 by the template 'total and deterministic' (their statements: YtmbbcghhdjpgeaaTotals.lean).
  GIVEN WITH THE SEED: the statements are not yours to turn. If you find one false, say at which input.
  Laid BY PROGRAM, IN A SANDBOX (cutbox-rows.mjs): the forced cells as the released guide's own fill.sh prints them over the translation d7d637191cad8117… (all of the seat's roots in one cut). By AI agents, Wed Nov 11 2026. No macro, syntax, notation, axiom, sorry.
-/
import Derived.Test.YtmbbcghhdjpgeaaChecked
import GoSem.Claim
import GoSem.ClaimJoined
import GoSem.ClaimMapViews
import Derived.JoinedTies
import Derived.KernelRfl
namespace Go.Proofs.Ytmbbcghhdjpgeaa
/- THE CELL 'sum', in the pinned program and in every row, IS THE sha256 OF THE DUMP (.gsa) THAT YtmbbcghhdjpgeaaProg.lean LOADS. Nothing in Lean hashes anything: it is a label: what it is worth is what the hold of that sum in a sandbox is worth. -/
noncomputable def Try.pinned : Pinned := { name := "ytmbbcghhdjpgeaa", sum := "d7d637191cad8117de9f5b49ae01b72bd302ab9c97d748f18c1a6b085a56dc98", checked := Try.checked }
namespace Rows
def none {H : Type} : Left H := { results := [], args := [] }

/-- 'retorterlaw8.SimSteps': WHATEVER THE INPUT: true; the input reads as it did. -/
def simStepsSpec : ChangeSpec := { name := "simSteps", fn := fun _ => fun
  | [d1, d2, d3] => { results := [.lit (.bool true)], args := [d1, d2, d3] }
  | _ => none }
def simStepsRow : OpenClaim := { program := "ytmbbcghhdjpgeaa", sum := "d7d637191cad8117de9f5b49ae01b72bd302ab9c97d748f18c1a6b085a56dc98", func := "retorter/retorterlaw8.SimSteps", spec := "simSteps", unfollowed := true, recurses := true, plainKeys := false, apart := false }
def SimStepsSaid : Prop := simStepsRow.holds Try.pinned (OpenSpec.ofChange simStepsSpec)

/-- ITS FALSE NEIGHBOUR: 'it returns false'. Refute it at one input. -/
def simStepsWrong : ChangeSpec := { name := "simSteps", fn := fun _ => fun
  | [d1, d2, d3] => { results := [.lit (.bool false)], args := [d1, d2, d3] }
  | _ => none }
def SimStepsWrongFalsely : Prop := simStepsRow.holds Try.pinned (OpenSpec.ofChange simStepsWrong)

/-- 'retorterlaw8.SimFirsts': WHATEVER THE INPUT: true; the input reads as it did. -/
def simFirstsSpec : ChangeSpec := { name := "simFirsts", fn := fun _ => fun
  | [d1, d2] => { results := [.lit (.bool true)], args := [d1, d2] }
  | _ => none }
def simFirstsRow : OpenClaim := { program := "ytmbbcghhdjpgeaa", sum := "d7d637191cad8117de9f5b49ae01b72bd302ab9c97d748f18c1a6b085a56dc98", func := "retorter/retorterlaw8.SimFirsts", spec := "simFirsts", unfollowed := true, recurses := true, plainKeys := false, apart := false }
def SimFirstsSaid : Prop := simFirstsRow.holds Try.pinned (OpenSpec.ofChange simFirstsSpec)

/-- ITS FALSE NEIGHBOUR: 'it returns false'. Refute it at one input. -/
def simFirstsWrong : ChangeSpec := { name := "simFirsts", fn := fun _ => fun
  | [d1, d2] => { results := [.lit (.bool false)], args := [d1, d2] }
  | _ => none }
def SimFirstsWrongFalsely : Prop := simFirstsRow.holds Try.pinned (OpenSpec.ofChange simFirstsWrong)

/-- 'retorterlaw8.SimNormal': WHATEVER THE INPUT: true; the input reads as it did. -/
def simNormalSpec : ChangeSpec := { name := "simNormal", fn := fun _ => fun
  | [d1, d2, d3] => { results := [.lit (.bool true)], args := [d1, d2, d3] }
  | _ => none }
def simNormalRow : OpenClaim := { program := "ytmbbcghhdjpgeaa", sum := "d7d637191cad8117de9f5b49ae01b72bd302ab9c97d748f18c1a6b085a56dc98", func := "retorter/retorterlaw8.SimNormal", spec := "simNormal", unfollowed := true, recurses := true, plainKeys := false, apart := false }
def SimNormalSaid : Prop := simNormalRow.holds Try.pinned (OpenSpec.ofChange simNormalSpec)

/-- ITS FALSE NEIGHBOUR: 'it returns false'. Refute it at one input. -/
def simNormalWrong : ChangeSpec := { name := "simNormal", fn := fun _ => fun
  | [d1, d2, d3] => { results := [.lit (.bool false)], args := [d1, d2, d3] }
  | _ => none }
def SimNormalWrongFalsely : Prop := simNormalRow.holds Try.pinned (OpenSpec.ofChange simNormalWrong)

/-- 'retorterlaw8.SimCounts': WHATEVER THE INPUT: true; the input reads as it did. -/
def simCountsSpec : ChangeSpec := { name := "simCounts", fn := fun _ => fun
  | [d1, d2] => { results := [.lit (.bool true)], args := [d1, d2] }
  | _ => none }
def simCountsRow : OpenClaim := { program := "ytmbbcghhdjpgeaa", sum := "d7d637191cad8117de9f5b49ae01b72bd302ab9c97d748f18c1a6b085a56dc98", func := "retorter/retorterlaw8.SimCounts", spec := "simCounts", unfollowed := true, recurses := true, plainKeys := false, apart := false }
def SimCountsSaid : Prop := simCountsRow.holds Try.pinned (OpenSpec.ofChange simCountsSpec)

/-- ITS FALSE NEIGHBOUR: 'it returns false'. Refute it at one input. -/
def simCountsWrong : ChangeSpec := { name := "simCounts", fn := fun _ => fun
  | [d1, d2] => { results := [.lit (.bool false)], args := [d1, d2] }
  | _ => none }
def SimCountsWrongFalsely : Prop := simCountsRow.holds Try.pinned (OpenSpec.ofChange simCountsWrong)

/-- 'retorterlaw8.SimHolds': WHATEVER THE INPUT: true; the input reads as it did. -/
def simHoldsSpec : ChangeSpec := { name := "simHolds", fn := fun _ => fun
  | [d1, d2, d3] => { results := [.lit (.bool true)], args := [d1, d2, d3] }
  | _ => none }
def simHoldsRow : OpenClaim := { program := "ytmbbcghhdjpgeaa", sum := "d7d637191cad8117de9f5b49ae01b72bd302ab9c97d748f18c1a6b085a56dc98", func := "retorter/retorterlaw8.SimHolds", spec := "simHolds", unfollowed := true, recurses := true, plainKeys := false, apart := false }
def SimHoldsSaid : Prop := simHoldsRow.holds Try.pinned (OpenSpec.ofChange simHoldsSpec)

/-- ITS FALSE NEIGHBOUR: 'it returns false'. Refute it at one input. -/
def simHoldsWrong : ChangeSpec := { name := "simHolds", fn := fun _ => fun
  | [d1, d2, d3] => { results := [.lit (.bool false)], args := [d1, d2, d3] }
  | _ => none }
def SimHoldsWrongFalsely : Prop := simHoldsRow.holds Try.pinned (OpenSpec.ofChange simHoldsWrong)

/-- 'retorterlaw8.SimGates': WHATEVER THE INPUT: true; the input reads as it did. -/
def simGatesSpec : ChangeSpec := { name := "simGates", fn := fun _ => fun
  | [d1, d2, d3, d4] => { results := [.lit (.bool true)], args := [d1, d2, d3, d4] }
  | _ => none }
def simGatesRow : OpenClaim := { program := "ytmbbcghhdjpgeaa", sum := "d7d637191cad8117de9f5b49ae01b72bd302ab9c97d748f18c1a6b085a56dc98", func := "retorter/retorterlaw8.SimGates", spec := "simGates", unfollowed := true, recurses := true, plainKeys := false, apart := false }
def SimGatesSaid : Prop := simGatesRow.holds Try.pinned (OpenSpec.ofChange simGatesSpec)

/-- ITS FALSE NEIGHBOUR: 'it returns false'. Refute it at one input. -/
def simGatesWrong : ChangeSpec := { name := "simGates", fn := fun _ => fun
  | [d1, d2, d3, d4] => { results := [.lit (.bool false)], args := [d1, d2, d3, d4] }
  | _ => none }
def SimGatesWrongFalsely : Prop := simGatesRow.holds Try.pinned (OpenSpec.ofChange simGatesWrong)

/-- 'retorterlaw9.TernarySteps': WHATEVER THE INPUT: true; the input reads as it did. -/
def ternaryStepsSpec : ChangeSpec := { name := "ternarySteps", fn := fun _ => fun
  | [d1, d2, d3, d4] => { results := [.lit (.bool true)], args := [d1, d2, d3, d4] }
  | _ => none }
def ternaryStepsRow : OpenClaim := { program := "ytmbbcghhdjpgeaa", sum := "d7d637191cad8117de9f5b49ae01b72bd302ab9c97d748f18c1a6b085a56dc98", func := "retorter/retorterlaw9.TernarySteps", spec := "ternarySteps", unfollowed := true, recurses := true, plainKeys := false, apart := false }
def TernaryStepsSaid : Prop := ternaryStepsRow.holds Try.pinned (OpenSpec.ofChange ternaryStepsSpec)

/-- ITS FALSE NEIGHBOUR: 'it returns false'. Refute it at one input. -/
def ternaryStepsWrong : ChangeSpec := { name := "ternarySteps", fn := fun _ => fun
  | [d1, d2, d3, d4] => { results := [.lit (.bool false)], args := [d1, d2, d3, d4] }
  | _ => none }
def TernaryStepsWrongFalsely : Prop := ternaryStepsRow.holds Try.pinned (OpenSpec.ofChange ternaryStepsWrong)

/-- 'retorterlaw9.TernaryTrue': WHATEVER THE INPUT: true; the input reads as it did. -/
def ternaryTrueSpec : ChangeSpec := { name := "ternaryTrue", fn := fun _ => fun
  | [d1, d2, d3, d4] => { results := [.lit (.bool true)], args := [d1, d2, d3, d4] }
  | _ => none }
def ternaryTrueRow : OpenClaim := { program := "ytmbbcghhdjpgeaa", sum := "d7d637191cad8117de9f5b49ae01b72bd302ab9c97d748f18c1a6b085a56dc98", func := "retorter/retorterlaw9.TernaryTrue", spec := "ternaryTrue", unfollowed := true, recurses := true, plainKeys := false, apart := false }
def TernaryTrueSaid : Prop := ternaryTrueRow.holds Try.pinned (OpenSpec.ofChange ternaryTrueSpec)

/-- ITS FALSE NEIGHBOUR: 'it returns false'. Refute it at one input. -/
def ternaryTrueWrong : ChangeSpec := { name := "ternaryTrue", fn := fun _ => fun
  | [d1, d2, d3, d4] => { results := [.lit (.bool false)], args := [d1, d2, d3, d4] }
  | _ => none }
def TernaryTrueWrongFalsely : Prop := ternaryTrueRow.holds Try.pinned (OpenSpec.ofChange ternaryTrueWrong)

/-- 'retorterlaw9.TernaryAll': WHATEVER THE INPUT: true; the input reads as it did. -/
def ternaryAllSpec : ChangeSpec := { name := "ternaryAll", fn := fun _ => fun
  | [d1, d2, d3] => { results := [.lit (.bool true)], args := [d1, d2, d3] }
  | _ => none }
def ternaryAllRow : OpenClaim := { program := "ytmbbcghhdjpgeaa", sum := "d7d637191cad8117de9f5b49ae01b72bd302ab9c97d748f18c1a6b085a56dc98", func := "retorter/retorterlaw9.TernaryAll", spec := "ternaryAll", unfollowed := true, recurses := true, plainKeys := false, apart := false }
def TernaryAllSaid : Prop := ternaryAllRow.holds Try.pinned (OpenSpec.ofChange ternaryAllSpec)

/-- ITS FALSE NEIGHBOUR: 'it returns false'. Refute it at one input. -/
def ternaryAllWrong : ChangeSpec := { name := "ternaryAll", fn := fun _ => fun
  | [d1, d2, d3] => { results := [.lit (.bool false)], args := [d1, d2, d3] }
  | _ => none }
def TernaryAllWrongFalsely : Prop := ternaryAllRow.holds Try.pinned (OpenSpec.ofChange ternaryAllWrong)

/-- 'retorterlaw9.TernaryLess': WHATEVER THE INPUT: true; the input reads as it did. -/
def ternaryLessSpec : ChangeSpec := { name := "ternaryLess", fn := fun _ => fun
  | [d1, d2, d3, d4] => { results := [.lit (.bool true)], args := [d1, d2, d3, d4] }
  | _ => none }
def ternaryLessRow : OpenClaim := { program := "ytmbbcghhdjpgeaa", sum := "d7d637191cad8117de9f5b49ae01b72bd302ab9c97d748f18c1a6b085a56dc98", func := "retorter/retorterlaw9.TernaryLess", spec := "ternaryLess", unfollowed := true, recurses := true, plainKeys := false, apart := false }
def TernaryLessSaid : Prop := ternaryLessRow.holds Try.pinned (OpenSpec.ofChange ternaryLessSpec)

/-- ITS FALSE NEIGHBOUR: 'it returns false'. Refute it at one input. -/
def ternaryLessWrong : ChangeSpec := { name := "ternaryLess", fn := fun _ => fun
  | [d1, d2, d3, d4] => { results := [.lit (.bool false)], args := [d1, d2, d3, d4] }
  | _ => none }
def TernaryLessWrongFalsely : Prop := ternaryLessRow.holds Try.pinned (OpenSpec.ofChange ternaryLessWrong)

/- THE SECOND FORM. 'bulk': how many values and letters a reading holds, each counted each time it is reached (what is shared counts as often as it is met; a slice's spare places count too). A statement '..UptoSaid' is the law's where the arguments, and the package variables that the reading takes, are together of bulk at most 1048576: NARROWER than '..Said'. Prove '..Said' where nothing that the law and all that it calls make is longer than what came in: it says more and counts as full. Else prove '..UptoSaid'. A law counts once. -/
mutual
def uptoBulk {H : Type} : DataW H → Nat
  | .lit (.string bytes) => bytes.length + 1
  | .lit _ => 1
  | .nil => 1
  | .ptr d => uptoBulk d + 1
  | .slice elems spare => uptoBulkAll elems + uptoBulkAll spare + 1
  | .agg parts => uptoBulkAll parts + 1
  | .iface _ d => uptoBulk d + 1
  | .map entries => uptoBulkEntries entries + 1
  | .held _ => 1
def uptoBulkAll {H : Type} : List (DataW H) → Nat
  | [] => 0
  | d :: r => uptoBulk d + uptoBulkAll r
def uptoBulkEntries {H : Type} : List (Lit × DataW H) → Nat
  | [] => 0
  | x :: r => uptoBulkEntry x + uptoBulkEntries r
def uptoBulkEntry {H : Type} : Lit × DataW H → Nat
  | (.string bytes, d) => bytes.length + uptoBulk d + 1
  | (_, d) => uptoBulk d + 1
 end
def uptoSmall : (H : Type) → List (DataW H) → Bool := fun _ ds => decide (uptoBulkAll ds ≤ 1048576)
def OpenSpec.upto (s : _root_.Go.ChangeSpec) : _root_.Go.OpenSpec := { _root_.Go.OpenSpec.ofChange s with cond := some uptoSmall }

/-- 'retorterlaw8.SimSteps', WHERE WHAT IT READS IS OF BULK AT MOST 1048576: true; the input reads as it did. -/
def simStepsUptoRow : OpenClaim := { program := "ytmbbcghhdjpgeaa", sum := "d7d637191cad8117de9f5b49ae01b72bd302ab9c97d748f18c1a6b085a56dc98", func := "retorter/retorterlaw8.SimSteps", spec := "simSteps", unfollowed := true, recurses := true, plainKeys := false, apart := false, narrowed := true }
def SimStepsUptoSaid : Prop := simStepsUptoRow.holds Try.pinned (OpenSpec.upto simStepsSpec)

/-- 'retorterlaw8.SimFirsts', WHERE WHAT IT READS IS OF BULK AT MOST 1048576: true; the input reads as it did. -/
def simFirstsUptoRow : OpenClaim := { program := "ytmbbcghhdjpgeaa", sum := "d7d637191cad8117de9f5b49ae01b72bd302ab9c97d748f18c1a6b085a56dc98", func := "retorter/retorterlaw8.SimFirsts", spec := "simFirsts", unfollowed := true, recurses := true, plainKeys := false, apart := false, narrowed := true }
def SimFirstsUptoSaid : Prop := simFirstsUptoRow.holds Try.pinned (OpenSpec.upto simFirstsSpec)

/-- 'retorterlaw8.SimNormal', WHERE WHAT IT READS IS OF BULK AT MOST 1048576: true; the input reads as it did. -/
def simNormalUptoRow : OpenClaim := { program := "ytmbbcghhdjpgeaa", sum := "d7d637191cad8117de9f5b49ae01b72bd302ab9c97d748f18c1a6b085a56dc98", func := "retorter/retorterlaw8.SimNormal", spec := "simNormal", unfollowed := true, recurses := true, plainKeys := false, apart := false, narrowed := true }
def SimNormalUptoSaid : Prop := simNormalUptoRow.holds Try.pinned (OpenSpec.upto simNormalSpec)

/-- 'retorterlaw8.SimCounts', WHERE WHAT IT READS IS OF BULK AT MOST 1048576: true; the input reads as it did. -/
def simCountsUptoRow : OpenClaim := { program := "ytmbbcghhdjpgeaa", sum := "d7d637191cad8117de9f5b49ae01b72bd302ab9c97d748f18c1a6b085a56dc98", func := "retorter/retorterlaw8.SimCounts", spec := "simCounts", unfollowed := true, recurses := true, plainKeys := false, apart := false, narrowed := true }
def SimCountsUptoSaid : Prop := simCountsUptoRow.holds Try.pinned (OpenSpec.upto simCountsSpec)

/-- 'retorterlaw8.SimHolds', WHERE WHAT IT READS IS OF BULK AT MOST 1048576: true; the input reads as it did. -/
def simHoldsUptoRow : OpenClaim := { program := "ytmbbcghhdjpgeaa", sum := "d7d637191cad8117de9f5b49ae01b72bd302ab9c97d748f18c1a6b085a56dc98", func := "retorter/retorterlaw8.SimHolds", spec := "simHolds", unfollowed := true, recurses := true, plainKeys := false, apart := false, narrowed := true }
def SimHoldsUptoSaid : Prop := simHoldsUptoRow.holds Try.pinned (OpenSpec.upto simHoldsSpec)

/-- 'retorterlaw8.SimGates', WHERE WHAT IT READS IS OF BULK AT MOST 1048576: true; the input reads as it did. -/
def simGatesUptoRow : OpenClaim := { program := "ytmbbcghhdjpgeaa", sum := "d7d637191cad8117de9f5b49ae01b72bd302ab9c97d748f18c1a6b085a56dc98", func := "retorter/retorterlaw8.SimGates", spec := "simGates", unfollowed := true, recurses := true, plainKeys := false, apart := false, narrowed := true }
def SimGatesUptoSaid : Prop := simGatesUptoRow.holds Try.pinned (OpenSpec.upto simGatesSpec)

/-- 'retorterlaw9.TernarySteps', WHERE WHAT IT READS IS OF BULK AT MOST 1048576: true; the input reads as it did. -/
def ternaryStepsUptoRow : OpenClaim := { program := "ytmbbcghhdjpgeaa", sum := "d7d637191cad8117de9f5b49ae01b72bd302ab9c97d748f18c1a6b085a56dc98", func := "retorter/retorterlaw9.TernarySteps", spec := "ternarySteps", unfollowed := true, recurses := true, plainKeys := false, apart := false, narrowed := true }
def TernaryStepsUptoSaid : Prop := ternaryStepsUptoRow.holds Try.pinned (OpenSpec.upto ternaryStepsSpec)

/-- 'retorterlaw9.TernaryTrue', WHERE WHAT IT READS IS OF BULK AT MOST 1048576: true; the input reads as it did. -/
def ternaryTrueUptoRow : OpenClaim := { program := "ytmbbcghhdjpgeaa", sum := "d7d637191cad8117de9f5b49ae01b72bd302ab9c97d748f18c1a6b085a56dc98", func := "retorter/retorterlaw9.TernaryTrue", spec := "ternaryTrue", unfollowed := true, recurses := true, plainKeys := false, apart := false, narrowed := true }
def TernaryTrueUptoSaid : Prop := ternaryTrueUptoRow.holds Try.pinned (OpenSpec.upto ternaryTrueSpec)

/-- 'retorterlaw9.TernaryAll', WHERE WHAT IT READS IS OF BULK AT MOST 1048576: true; the input reads as it did. -/
def ternaryAllUptoRow : OpenClaim := { program := "ytmbbcghhdjpgeaa", sum := "d7d637191cad8117de9f5b49ae01b72bd302ab9c97d748f18c1a6b085a56dc98", func := "retorter/retorterlaw9.TernaryAll", spec := "ternaryAll", unfollowed := true, recurses := true, plainKeys := false, apart := false, narrowed := true }
def TernaryAllUptoSaid : Prop := ternaryAllUptoRow.holds Try.pinned (OpenSpec.upto ternaryAllSpec)

/-- 'retorterlaw9.TernaryLess', WHERE WHAT IT READS IS OF BULK AT MOST 1048576: true; the input reads as it did. -/
def ternaryLessUptoRow : OpenClaim := { program := "ytmbbcghhdjpgeaa", sum := "d7d637191cad8117de9f5b49ae01b72bd302ab9c97d748f18c1a6b085a56dc98", func := "retorter/retorterlaw9.TernaryLess", spec := "ternaryLess", unfollowed := true, recurses := true, plainKeys := false, apart := false, narrowed := true }
def TernaryLessUptoSaid : Prop := ternaryLessUptoRow.holds Try.pinned (OpenSpec.upto ternaryLessSpec)

end Rows
end Go.Proofs.Ytmbbcghhdjpgeaa
