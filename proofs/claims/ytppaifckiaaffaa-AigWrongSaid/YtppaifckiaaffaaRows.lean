/-
  No cell of these rows narrows 'for every input' (looked for: loops, veiled, ifaces, maps, wideKeys, modest, calm, conditions, laid).
  DERIVED. THE GIVEN ROWS OF THIS SEAT. 11 by the template 'for every input the law returns true; each argument reads behind the call as it read before'; 0 by the template 'total and deterministic' (their statements: YtppaifckiaaffaaTotals.lean).
  GIVEN WITH THE SEED: the statements are not yours to turn. If you find one false, say at which input.
  Laid BY PROGRAM, IN A SANDBOX (cutbox-rows.mjs): the forced cells as the released guide's own fill.sh prints them over the translation 5676b783443df17a… (all of the seat's roots in one cut). By AI agents, Wed Nov 11 2026. No macro, syntax, notation, axiom, sorry.
-/
import Derived.Test.YtppaifckiaaffaaChecked
import GoSem.Claim
import GoSem.ClaimJoined
import GoSem.ClaimMapViews
import Derived.JoinedTies
import Derived.KernelRfl
namespace Go.Proofs.Ytppaifckiaaffaa
/- THE CELL 'sum', in the pinned program and in every row, IS THE sha256 OF THE DUMP (.gsa) THAT YtppaifckiaaffaaProg.lean LOADS. Nothing in Lean hashes anything: it is a label: what it is worth is what the hold of that sum in a sandbox is worth. -/
noncomputable def Try.pinned : Pinned := { name := "ytppaifckiaaffaa", sum := "5676b783443df17aafb9ade844692b30ff7257aa8a9164d64efb063812bcecab", checked := Try.checked }
namespace Rows
def none {H : Type} : Left H := { results := [], args := [] }

/-- 'retorterlaw4.AigChecks': WHATEVER THE INPUT: true; the input reads as it did. -/
def aigChecksSpec : ChangeSpec := { name := "aigChecks", fn := fun _ => fun
  | [d] => { results := [.lit (.bool true)], args := [d] }
  | _ => none }
def aigChecksRow : OpenClaim := { program := "ytppaifckiaaffaa", sum := "5676b783443df17aafb9ade844692b30ff7257aa8a9164d64efb063812bcecab", func := "retorter/retorterlaw4.AigChecks", spec := "aigChecks", unfollowed := true, recurses := true, plainKeys := false, apart := false }
def AigChecksSaid : Prop := aigChecksRow.holds Try.pinned (OpenSpec.ofChange aigChecksSpec)

/-- ITS FALSE NEIGHBOUR: 'it returns false'. Refute it at one input. -/
def aigChecksWrong : ChangeSpec := { name := "aigChecks", fn := fun _ => fun
  | [d] => { results := [.lit (.bool false)], args := [d] }
  | _ => none }
def AigChecksWrongFalsely : Prop := aigChecksRow.holds Try.pinned (OpenSpec.ofChange aigChecksWrong)

/-- 'retorterlaw4.AigNormals': WHATEVER THE INPUT: true; the input reads as it did. -/
def aigNormalsSpec : ChangeSpec := { name := "aigNormals", fn := fun _ => fun
  | [d] => { results := [.lit (.bool true)], args := [d] }
  | _ => none }
def aigNormalsRow : OpenClaim := { program := "ytppaifckiaaffaa", sum := "5676b783443df17aafb9ade844692b30ff7257aa8a9164d64efb063812bcecab", func := "retorter/retorterlaw4.AigNormals", spec := "aigNormals", unfollowed := true, recurses := true, plainKeys := false, apart := false }
def AigNormalsSaid : Prop := aigNormalsRow.holds Try.pinned (OpenSpec.ofChange aigNormalsSpec)

/-- ITS FALSE NEIGHBOUR: 'it returns false'. Refute it at one input. -/
def aigNormalsWrong : ChangeSpec := { name := "aigNormals", fn := fun _ => fun
  | [d] => { results := [.lit (.bool false)], args := [d] }
  | _ => none }
def AigNormalsWrongFalsely : Prop := aigNormalsRow.holds Try.pinned (OpenSpec.ofChange aigNormalsWrong)

/-- 'retorterlaw4.AigAgain': WHATEVER THE INPUT: true; the input reads as it did. -/
def aigAgainSpec : ChangeSpec := { name := "aigAgain", fn := fun _ => fun
  | [d] => { results := [.lit (.bool true)], args := [d] }
  | _ => none }
def aigAgainRow : OpenClaim := { program := "ytppaifckiaaffaa", sum := "5676b783443df17aafb9ade844692b30ff7257aa8a9164d64efb063812bcecab", func := "retorter/retorterlaw4.AigAgain", spec := "aigAgain", unfollowed := true, recurses := true, plainKeys := false, apart := false }
def AigAgainSaid : Prop := aigAgainRow.holds Try.pinned (OpenSpec.ofChange aigAgainSpec)

/-- ITS FALSE NEIGHBOUR: 'it returns false'. Refute it at one input. -/
def aigAgainWrong : ChangeSpec := { name := "aigAgain", fn := fun _ => fun
  | [d] => { results := [.lit (.bool false)], args := [d] }
  | _ => none }
def AigAgainWrongFalsely : Prop := aigAgainRow.holds Try.pinned (OpenSpec.ofChange aigAgainWrong)

/-- 'retorterlaw4.AigSame': WHATEVER THE INPUT: true; the input reads as it did. -/
def aigSameSpec : ChangeSpec := { name := "aigSame", fn := fun _ => fun
  | [d1, d2] => { results := [.lit (.bool true)], args := [d1, d2] }
  | _ => none }
def aigSameRow : OpenClaim := { program := "ytppaifckiaaffaa", sum := "5676b783443df17aafb9ade844692b30ff7257aa8a9164d64efb063812bcecab", func := "retorter/retorterlaw4.AigSame", spec := "aigSame", unfollowed := true, recurses := true, plainKeys := false, apart := false }
def AigSameSaid : Prop := aigSameRow.holds Try.pinned (OpenSpec.ofChange aigSameSpec)

/-- ITS FALSE NEIGHBOUR: 'it returns false'. Refute it at one input. -/
def aigSameWrong : ChangeSpec := { name := "aigSame", fn := fun _ => fun
  | [d1, d2] => { results := [.lit (.bool false)], args := [d1, d2] }
  | _ => none }
def AigSameWrongFalsely : Prop := aigSameRow.holds Try.pinned (OpenSpec.ofChange aigSameWrong)

/-- 'retorterlaw4.AigLimits': WHATEVER THE INPUT: true; the input reads as it did. -/
def aigLimitsSpec : ChangeSpec := { name := "aigLimits", fn := fun _ => fun
  | [d1, d2] => { results := [.lit (.bool true)], args := [d1, d2] }
  | _ => none }
def aigLimitsRow : OpenClaim := { program := "ytppaifckiaaffaa", sum := "5676b783443df17aafb9ade844692b30ff7257aa8a9164d64efb063812bcecab", func := "retorter/retorterlaw4.AigLimits", spec := "aigLimits", unfollowed := true, recurses := true, plainKeys := false, apart := false }
def AigLimitsSaid : Prop := aigLimitsRow.holds Try.pinned (OpenSpec.ofChange aigLimitsSpec)

/-- ITS FALSE NEIGHBOUR: 'it returns false'. Refute it at one input. -/
def aigLimitsWrong : ChangeSpec := { name := "aigLimits", fn := fun _ => fun
  | [d1, d2] => { results := [.lit (.bool false)], args := [d1, d2] }
  | _ => none }
def AigLimitsWrongFalsely : Prop := aigLimitsRow.holds Try.pinned (OpenSpec.ofChange aigLimitsWrong)

/-- 'retorterlaw4.AigRings': WHATEVER THE INPUT: true; the input reads as it did. -/
def aigRingsSpec : ChangeSpec := { name := "aigRings", fn := fun _ => fun
  | [d1, d2, d3] => { results := [.lit (.bool true)], args := [d1, d2, d3] }
  | _ => none }
def aigRingsRow : OpenClaim := { program := "ytppaifckiaaffaa", sum := "5676b783443df17aafb9ade844692b30ff7257aa8a9164d64efb063812bcecab", func := "retorter/retorterlaw4.AigRings", spec := "aigRings", unfollowed := true, recurses := true, plainKeys := false, apart := false }
def AigRingsSaid : Prop := aigRingsRow.holds Try.pinned (OpenSpec.ofChange aigRingsSpec)

/-- ITS FALSE NEIGHBOUR: 'it returns false'. Refute it at one input. -/
def aigRingsWrong : ChangeSpec := { name := "aigRings", fn := fun _ => fun
  | [d1, d2, d3] => { results := [.lit (.bool false)], args := [d1, d2, d3] }
  | _ => none }
def AigRingsWrongFalsely : Prop := aigRingsRow.holds Try.pinned (OpenSpec.ofChange aigRingsWrong)

/-- 'retorterlaw4.AigWrong': WHATEVER THE INPUT: true; the input reads as it did. -/
def aigWrongSpec : ChangeSpec := { name := "aigWrong", fn := fun _ => fun
  | [d] => { results := [.lit (.bool true)], args := [d] }
  | _ => none }
def aigWrongRow : OpenClaim := { program := "ytppaifckiaaffaa", sum := "5676b783443df17aafb9ade844692b30ff7257aa8a9164d64efb063812bcecab", func := "retorter/retorterlaw4.AigWrong", spec := "aigWrong", unfollowed := true, recurses := true, plainKeys := false, apart := false }
def AigWrongSaid : Prop := aigWrongRow.holds Try.pinned (OpenSpec.ofChange aigWrongSpec)

/-- ITS FALSE NEIGHBOUR: 'it returns false'. Refute it at one input. -/
def aigWrongWrong : ChangeSpec := { name := "aigWrong", fn := fun _ => fun
  | [d] => { results := [.lit (.bool false)], args := [d] }
  | _ => none }
def AigWrongWrongFalsely : Prop := aigWrongRow.holds Try.pinned (OpenSpec.ofChange aigWrongWrong)

/-- 'retorterlaw10.ConeOfs': WHATEVER THE INPUT: true; the input reads as it did. -/
def coneOfsSpec : ChangeSpec := { name := "coneOfs", fn := fun _ => fun
  | [d1, d2] => { results := [.lit (.bool true)], args := [d1, d2] }
  | _ => none }
def coneOfsRow : OpenClaim := { program := "ytppaifckiaaffaa", sum := "5676b783443df17aafb9ade844692b30ff7257aa8a9164d64efb063812bcecab", func := "retorter/retorterlaw10.ConeOfs", spec := "coneOfs", unfollowed := true, recurses := true, plainKeys := false, apart := false }
def ConeOfsSaid : Prop := coneOfsRow.holds Try.pinned (OpenSpec.ofChange coneOfsSpec)

/-- ITS FALSE NEIGHBOUR: 'it returns false'. Refute it at one input. -/
def coneOfsWrong : ChangeSpec := { name := "coneOfs", fn := fun _ => fun
  | [d1, d2] => { results := [.lit (.bool false)], args := [d1, d2] }
  | _ => none }
def ConeOfsWrongFalsely : Prop := coneOfsRow.holds Try.pinned (OpenSpec.ofChange coneOfsWrong)

/-- 'retorterlaw10.ConeCuts': WHATEVER THE INPUT: true; the input reads as it did. -/
def coneCutsSpec : ChangeSpec := { name := "coneCuts", fn := fun _ => fun
  | [d1, d2] => { results := [.lit (.bool true)], args := [d1, d2] }
  | _ => none }
def coneCutsRow : OpenClaim := { program := "ytppaifckiaaffaa", sum := "5676b783443df17aafb9ade844692b30ff7257aa8a9164d64efb063812bcecab", func := "retorter/retorterlaw10.ConeCuts", spec := "coneCuts", unfollowed := true, recurses := true, plainKeys := false, apart := false }
def ConeCutsSaid : Prop := coneCutsRow.holds Try.pinned (OpenSpec.ofChange coneCutsSpec)

/-- ITS FALSE NEIGHBOUR: 'it returns false'. Refute it at one input. -/
def coneCutsWrong : ChangeSpec := { name := "coneCuts", fn := fun _ => fun
  | [d1, d2] => { results := [.lit (.bool false)], args := [d1, d2] }
  | _ => none }
def ConeCutsWrongFalsely : Prop := coneCutsRow.holds Try.pinned (OpenSpec.ofChange coneCutsWrong)

/-- 'retorterlaw10.ConeSame': WHATEVER THE INPUT: true; the input reads as it did. -/
def coneSameSpec : ChangeSpec := { name := "coneSame", fn := fun _ => fun
  | [d1, d2] => { results := [.lit (.bool true)], args := [d1, d2] }
  | _ => none }
def coneSameRow : OpenClaim := { program := "ytppaifckiaaffaa", sum := "5676b783443df17aafb9ade844692b30ff7257aa8a9164d64efb063812bcecab", func := "retorter/retorterlaw10.ConeSame", spec := "coneSame", unfollowed := true, recurses := true, plainKeys := false, apart := false }
def ConeSameSaid : Prop := coneSameRow.holds Try.pinned (OpenSpec.ofChange coneSameSpec)

/-- ITS FALSE NEIGHBOUR: 'it returns false'. Refute it at one input. -/
def coneSameWrong : ChangeSpec := { name := "coneSame", fn := fun _ => fun
  | [d1, d2] => { results := [.lit (.bool false)], args := [d1, d2] }
  | _ => none }
def ConeSameWrongFalsely : Prop := coneSameRow.holds Try.pinned (OpenSpec.ofChange coneSameWrong)

/-- 'retorterlaw10.ConeGrows': WHATEVER THE INPUT: true; the input reads as it did. -/
def coneGrowsSpec : ChangeSpec := { name := "coneGrows", fn := fun _ => fun
  | [d1, d2, d3] => { results := [.lit (.bool true)], args := [d1, d2, d3] }
  | _ => none }
def coneGrowsRow : OpenClaim := { program := "ytppaifckiaaffaa", sum := "5676b783443df17aafb9ade844692b30ff7257aa8a9164d64efb063812bcecab", func := "retorter/retorterlaw10.ConeGrows", spec := "coneGrows", unfollowed := true, recurses := true, plainKeys := false, apart := false }
def ConeGrowsSaid : Prop := coneGrowsRow.holds Try.pinned (OpenSpec.ofChange coneGrowsSpec)

/-- ITS FALSE NEIGHBOUR: 'it returns false'. Refute it at one input. -/
def coneGrowsWrong : ChangeSpec := { name := "coneGrows", fn := fun _ => fun
  | [d1, d2, d3] => { results := [.lit (.bool false)], args := [d1, d2, d3] }
  | _ => none }
def ConeGrowsWrongFalsely : Prop := coneGrowsRow.holds Try.pinned (OpenSpec.ofChange coneGrowsWrong)

/- THE SECOND FORM. 'bulk': how many values and letters a reading holds, each counted each time it is reached (what is shared counts as often as it is met; a slice's spare places count too). A statement '..UptoSaid' is the law's where the arguments, and the package variables that the reading takes, are together of bulk at most 1048576: NARROWER than '..Said'. Prove '..Said' where nothing that the law and all that it calls make is longer than what came in: it says more and counts as full. Else prove '..UptoSaid'. A law counts once. -/
mutual
def uptoBulk {H : Type} : DataW H → Nat
  | .lit (.string bytes) => bytes.length + 1
  | .lit _ => 1
  | .nil => 1
  | .ptr d => uptoBulk d + 1
  | .slice elems spare => uptoBulkAll elems + uptoBulkAll spare + 1
  | .agg parts => uptoBulkAll parts + 1
  | .iface _ d => uptoBulk d + 1
  | .map entries => uptoBulkEntries entries + 1
  | .held _ => 1
def uptoBulkAll {H : Type} : List (DataW H) → Nat
  | [] => 0
  | d :: r => uptoBulk d + uptoBulkAll r
def uptoBulkEntries {H : Type} : List (Lit × DataW H) → Nat
  | [] => 0
  | x :: r => uptoBulkEntry x + uptoBulkEntries r
def uptoBulkEntry {H : Type} : Lit × DataW H → Nat
  | (.string bytes, d) => bytes.length + uptoBulk d + 1
  | (_, d) => uptoBulk d + 1
 end
def uptoSmall : (H : Type) → List (DataW H) → Bool := fun _ ds => decide (uptoBulkAll ds ≤ 1048576)
def OpenSpec.upto (s : _root_.Go.ChangeSpec) : _root_.Go.OpenSpec := { _root_.Go.OpenSpec.ofChange s with cond := some uptoSmall }

/-- 'retorterlaw4.AigChecks', WHERE WHAT IT READS IS OF BULK AT MOST 1048576: true; the input reads as it did. -/
def aigChecksUptoRow : OpenClaim := { program := "ytppaifckiaaffaa", sum := "5676b783443df17aafb9ade844692b30ff7257aa8a9164d64efb063812bcecab", func := "retorter/retorterlaw4.AigChecks", spec := "aigChecks", unfollowed := true, recurses := true, plainKeys := false, apart := false, narrowed := true }
def AigChecksUptoSaid : Prop := aigChecksUptoRow.holds Try.pinned (OpenSpec.upto aigChecksSpec)

/-- 'retorterlaw4.AigNormals', WHERE WHAT IT READS IS OF BULK AT MOST 1048576: true; the input reads as it did. -/
def aigNormalsUptoRow : OpenClaim := { program := "ytppaifckiaaffaa", sum := "5676b783443df17aafb9ade844692b30ff7257aa8a9164d64efb063812bcecab", func := "retorter/retorterlaw4.AigNormals", spec := "aigNormals", unfollowed := true, recurses := true, plainKeys := false, apart := false, narrowed := true }
def AigNormalsUptoSaid : Prop := aigNormalsUptoRow.holds Try.pinned (OpenSpec.upto aigNormalsSpec)

/-- 'retorterlaw4.AigAgain', WHERE WHAT IT READS IS OF BULK AT MOST 1048576: true; the input reads as it did. -/
def aigAgainUptoRow : OpenClaim := { program := "ytppaifckiaaffaa", sum := "5676b783443df17aafb9ade844692b30ff7257aa8a9164d64efb063812bcecab", func := "retorter/retorterlaw4.AigAgain", spec := "aigAgain", unfollowed := true, recurses := true, plainKeys := false, apart := false, narrowed := true }
def AigAgainUptoSaid : Prop := aigAgainUptoRow.holds Try.pinned (OpenSpec.upto aigAgainSpec)

/-- 'retorterlaw4.AigSame', WHERE WHAT IT READS IS OF BULK AT MOST 1048576: true; the input reads as it did. -/
def aigSameUptoRow : OpenClaim := { program := "ytppaifckiaaffaa", sum := "5676b783443df17aafb9ade844692b30ff7257aa8a9164d64efb063812bcecab", func := "retorter/retorterlaw4.AigSame", spec := "aigSame", unfollowed := true, recurses := true, plainKeys := false, apart := false, narrowed := true }
def AigSameUptoSaid : Prop := aigSameUptoRow.holds Try.pinned (OpenSpec.upto aigSameSpec)

/-- 'retorterlaw4.AigLimits', WHERE WHAT IT READS IS OF BULK AT MOST 1048576: true; the input reads as it did. -/
def aigLimitsUptoRow : OpenClaim := { program := "ytppaifckiaaffaa", sum := "5676b783443df17aafb9ade844692b30ff7257aa8a9164d64efb063812bcecab", func := "retorter/retorterlaw4.AigLimits", spec := "aigLimits", unfollowed := true, recurses := true, plainKeys := false, apart := false, narrowed := true }
def AigLimitsUptoSaid : Prop := aigLimitsUptoRow.holds Try.pinned (OpenSpec.upto aigLimitsSpec)

/-- 'retorterlaw4.AigRings', WHERE WHAT IT READS IS OF BULK AT MOST 1048576: true; the input reads as it did. -/
def aigRingsUptoRow : OpenClaim := { program := "ytppaifckiaaffaa", sum := "5676b783443df17aafb9ade844692b30ff7257aa8a9164d64efb063812bcecab", func := "retorter/retorterlaw4.AigRings", spec := "aigRings", unfollowed := true, recurses := true, plainKeys := false, apart := false, narrowed := true }
def AigRingsUptoSaid : Prop := aigRingsUptoRow.holds Try.pinned (OpenSpec.upto aigRingsSpec)

/-- 'retorterlaw4.AigWrong', WHERE WHAT IT READS IS OF BULK AT MOST 1048576: true; the input reads as it did. -/
def aigWrongUptoRow : OpenClaim := { program := "ytppaifckiaaffaa", sum := "5676b783443df17aafb9ade844692b30ff7257aa8a9164d64efb063812bcecab", func := "retorter/retorterlaw4.AigWrong", spec := "aigWrong", unfollowed := true, recurses := true, plainKeys := false, apart := false, narrowed := true }
def AigWrongUptoSaid : Prop := aigWrongUptoRow.holds Try.pinned (OpenSpec.upto aigWrongSpec)

/-- 'retorterlaw10.ConeOfs', WHERE WHAT IT READS IS OF BULK AT MOST 1048576: true; the input reads as it did. -/
def coneOfsUptoRow : OpenClaim := { program := "ytppaifckiaaffaa", sum := "5676b783443df17aafb9ade844692b30ff7257aa8a9164d64efb063812bcecab", func := "retorter/retorterlaw10.ConeOfs", spec := "coneOfs", unfollowed := true, recurses := true, plainKeys := false, apart := false, narrowed := true }
def ConeOfsUptoSaid : Prop := coneOfsUptoRow.holds Try.pinned (OpenSpec.upto coneOfsSpec)

/-- 'retorterlaw10.ConeCuts', WHERE WHAT IT READS IS OF BULK AT MOST 1048576: true; the input reads as it did. -/
def coneCutsUptoRow : OpenClaim := { program := "ytppaifckiaaffaa", sum := "5676b783443df17aafb9ade844692b30ff7257aa8a9164d64efb063812bcecab", func := "retorter/retorterlaw10.ConeCuts", spec := "coneCuts", unfollowed := true, recurses := true, plainKeys := false, apart := false, narrowed := true }
def ConeCutsUptoSaid : Prop := coneCutsUptoRow.holds Try.pinned (OpenSpec.upto coneCutsSpec)

/-- 'retorterlaw10.ConeSame', WHERE WHAT IT READS IS OF BULK AT MOST 1048576: true; the input reads as it did. -/
def coneSameUptoRow : OpenClaim := { program := "ytppaifckiaaffaa", sum := "5676b783443df17aafb9ade844692b30ff7257aa8a9164d64efb063812bcecab", func := "retorter/retorterlaw10.ConeSame", spec := "coneSame", unfollowed := true, recurses := true, plainKeys := false, apart := false, narrowed := true }
def ConeSameUptoSaid : Prop := coneSameUptoRow.holds Try.pinned (OpenSpec.upto coneSameSpec)

/-- 'retorterlaw10.ConeGrows', WHERE WHAT IT READS IS OF BULK AT MOST 1048576: true; the input reads as it did. -/
def coneGrowsUptoRow : OpenClaim := { program := "ytppaifckiaaffaa", sum := "5676b783443df17aafb9ade844692b30ff7257aa8a9164d64efb063812bcecab", func := "retorter/retorterlaw10.ConeGrows", spec := "coneGrows", unfollowed := true, recurses := true, plainKeys := false, apart := false, narrowed := true }
def ConeGrowsUptoSaid : Prop := coneGrowsUptoRow.holds Try.pinned (OpenSpec.upto coneGrowsSpec)

end Rows
end Go.Proofs.Ytppaifckiaaffaa
