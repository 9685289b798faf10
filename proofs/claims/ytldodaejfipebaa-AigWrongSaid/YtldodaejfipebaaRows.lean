/-
  No cell of these rows narrows 'for every input' (looked for: loops, veiled, ifaces, maps, wideKeys, modest, calm, conditions, laid).
  DERIVED. THE GIVEN ROWS OF THIS SEAT. 5 by the template 'for every input the law returns true; each argument reads behind the call as it read before'; 0 by the template 'total and deterministic' (their statements: YtldodaejfipebaaTotals.lean).
  GIVEN WITH THE SEED: the statements are not yours to turn. If you find one false, say at which input.
  Laid BY PROGRAM, IN A SANDBOX (cutbox-rows.mjs): the forced cells as the released guide's own fill.sh prints them over the translation 1473e794a95782a4… (all of the seat's roots in one cut). By AI agents, Wed Nov 11 2026. No macro, syntax, notation, axiom, sorry.
-/
import Derived.Test.YtldodaejfipebaaChecked
import GoSem.Claim
import GoSem.ClaimJoined
import GoSem.ClaimMapViews
import Derived.JoinedTies
import Derived.KernelRfl
namespace Go.Proofs.Ytldodaejfipebaa
/- THE CELL 'sum', in the pinned program and in every row, IS THE sha256 OF THE DUMP (.gsa) THAT YtldodaejfipebaaProg.lean LOADS. Nothing in Lean hashes anything: it is a label: what it is worth is what the hold of that sum in a sandbox is worth. -/
noncomputable def Try.pinned : Pinned := { name := "ytldodaejfipebaa", sum := "1473e794a95782a41fb82fce662a15348e0a0cde57b85205e74f5e9a46f3158a", checked := Try.checked }
namespace Rows
def none {H : Type} : Left H := { results := [], args := [] }

/-- 'retorterlaw4.AigChecks': WHATEVER THE INPUT: true; the input reads as it did. -/
def aigChecksSpec : ChangeSpec := { name := "aigChecks", fn := fun _ => fun
  | [d] => { results := [.lit (.bool true)], args := [d] }
  | _ => none }
def aigChecksRow : OpenClaim := { program := "ytldodaejfipebaa", sum := "1473e794a95782a41fb82fce662a15348e0a0cde57b85205e74f5e9a46f3158a", func := "retorter/retorterlaw4.AigChecks", spec := "aigChecks", unfollowed := true, recurses := true, plainKeys := false, apart := false }
def AigChecksSaid : Prop := aigChecksRow.holds Try.pinned (OpenSpec.ofChange aigChecksSpec)

/-- ITS FALSE NEIGHBOUR: 'it returns false'. Refute it at one input. -/
def aigChecksWrong : ChangeSpec := { name := "aigChecks", fn := fun _ => fun
  | [d] => { results := [.lit (.bool false)], args := [d] }
  | _ => none }
def AigChecksWrongFalsely : Prop := aigChecksRow.holds Try.pinned (OpenSpec.ofChange aigChecksWrong)

/-- 'retorterlaw4.AigNormals': WHATEVER THE INPUT: true; the input reads as it did. -/
def aigNormalsSpec : ChangeSpec := { name := "aigNormals", fn := fun _ => fun
  | [d] => { results := [.lit (.bool true)], args := [d] }
  | _ => none }
def aigNormalsRow : OpenClaim := { program := "ytldodaejfipebaa", sum := "1473e794a95782a41fb82fce662a15348e0a0cde57b85205e74f5e9a46f3158a", func := "retorter/retorterlaw4.AigNormals", spec := "aigNormals", unfollowed := true, recurses := true, plainKeys := false, apart := false }
def AigNormalsSaid : Prop := aigNormalsRow.holds Try.pinned (OpenSpec.ofChange aigNormalsSpec)

/-- ITS FALSE NEIGHBOUR: 'it returns false'. Refute it at one input. -/
def aigNormalsWrong : ChangeSpec := { name := "aigNormals", fn := fun _ => fun
  | [d] => { results := [.lit (.bool false)], args := [d] }
  | _ => none }
def AigNormalsWrongFalsely : Prop := aigNormalsRow.holds Try.pinned (OpenSpec.ofChange aigNormalsWrong)

/-- 'retorterlaw4.AigAgain': WHATEVER THE INPUT: true; the input reads as it did. -/
def aigAgainSpec : ChangeSpec := { name := "aigAgain", fn := fun _ => fun
  | [d] => { results := [.lit (.bool true)], args := [d] }
  | _ => none }
def aigAgainRow : OpenClaim := { program := "ytldodaejfipebaa", sum := "1473e794a95782a41fb82fce662a15348e0a0cde57b85205e74f5e9a46f3158a", func := "retorter/retorterlaw4.AigAgain", spec := "aigAgain", unfollowed := true, recurses := true, plainKeys := false, apart := false }
def AigAgainSaid : Prop := aigAgainRow.holds Try.pinned (OpenSpec.ofChange aigAgainSpec)

/-- ITS FALSE NEIGHBOUR: 'it returns false'. Refute it at one input. -/
def aigAgainWrong : ChangeSpec := { name := "aigAgain", fn := fun _ => fun
  | [d] => { results := [.lit (.bool false)], args := [d] }
  | _ => none }
def AigAgainWrongFalsely : Prop := aigAgainRow.holds Try.pinned (OpenSpec.ofChange aigAgainWrong)

/-- 'retorterlaw4.AigRings': WHATEVER THE INPUT: true; the input reads as it did. -/
def aigRingsSpec : ChangeSpec := { name := "aigRings", fn := fun _ => fun
  | [d1, d2, d3] => { results := [.lit (.bool true)], args := [d1, d2, d3] }
  | _ => none }
def aigRingsRow : OpenClaim := { program := "ytldodaejfipebaa", sum := "1473e794a95782a41fb82fce662a15348e0a0cde57b85205e74f5e9a46f3158a", func := "retorter/retorterlaw4.AigRings", spec := "aigRings", unfollowed := true, recurses := true, plainKeys := false, apart := false }
def AigRingsSaid : Prop := aigRingsRow.holds Try.pinned (OpenSpec.ofChange aigRingsSpec)

/-- ITS FALSE NEIGHBOUR: 'it returns false'. Refute it at one input. -/
def aigRingsWrong : ChangeSpec := { name := "aigRings", fn := fun _ => fun
  | [d1, d2, d3] => { results := [.lit (.bool false)], args := [d1, d2, d3] }
  | _ => none }
def AigRingsWrongFalsely : Prop := aigRingsRow.holds Try.pinned (OpenSpec.ofChange aigRingsWrong)

/-- 'retorterlaw4.AigWrong': WHATEVER THE INPUT: true; the input reads as it did. -/
def aigWrongSpec : ChangeSpec := { name := "aigWrong", fn := fun _ => fun
  | [d] => { results := [.lit (.bool true)], args := [d] }
  | _ => none }
def aigWrongRow : OpenClaim := { program := "ytldodaejfipebaa", sum := "1473e794a95782a41fb82fce662a15348e0a0cde57b85205e74f5e9a46f3158a", func := "retorter/retorterlaw4.AigWrong", spec := "aigWrong", unfollowed := true, recurses := true, plainKeys := false, apart := false }
def AigWrongSaid : Prop := aigWrongRow.holds Try.pinned (OpenSpec.ofChange aigWrongSpec)

/-- ITS FALSE NEIGHBOUR: 'it returns false'. Refute it at one input. -/
def aigWrongWrong : ChangeSpec := { name := "aigWrong", fn := fun _ => fun
  | [d] => { results := [.lit (.bool false)], args := [d] }
  | _ => none }
def AigWrongWrongFalsely : Prop := aigWrongRow.holds Try.pinned (OpenSpec.ofChange aigWrongWrong)

/- THE SECOND FORM. 'bulk': how many values and letters a reading holds, each counted each time it is reached (what is shared counts as often as it is met; a slice's spare places count too). A statement '..UptoSaid' is the law's where the arguments, and the package variables that the reading takes, are together of bulk at most 1048576: NARROWER than '..Said'. Prove '..Said' where nothing that the law and all that it calls make is longer than what came in: it says more and counts as full. Else prove '..UptoSaid'. A law counts once. -/
mutual
def uptoBulk {H : Type} : DataW H → Nat
  | .lit (.string bytes) => bytes.length + 1
  | .lit _ => 1
  | .nil => 1
  | .ptr d => uptoBulk d + 1
  | .slice elems spare => uptoBulkAll elems + uptoBulkAll spare + 1
  | .agg parts => uptoBulkAll parts + 1
  | .iface _ d => uptoBulk d + 1
  | .map entries => uptoBulkEntries entries + 1
  | .held _ => 1
def uptoBulkAll {H : Type} : List (DataW H) → Nat
  | [] => 0
  | d :: r => uptoBulk d + uptoBulkAll r
def uptoBulkEntries {H : Type} : List (Lit × DataW H) → Nat
  | [] => 0
  | x :: r => uptoBulkEntry x + uptoBulkEntries r
def uptoBulkEntry {H : Type} : Lit × DataW H → Nat
  | (.string bytes, d) => bytes.length + uptoBulk d + 1
  | (_, d) => uptoBulk d + 1
 end
def uptoSmall : (H : Type) → List (DataW H) → Bool := fun _ ds => decide (uptoBulkAll ds ≤ 1048576)
def OpenSpec.upto (s : _root_.Go.ChangeSpec) : _root_.Go.OpenSpec := { _root_.Go.OpenSpec.ofChange s with cond := some uptoSmall }

/-- 'retorterlaw4.AigChecks', WHERE WHAT IT READS IS OF BULK AT MOST 1048576: true; the input reads as it did. -/
def aigChecksUptoRow : OpenClaim := { program := "ytldodaejfipebaa", sum := "1473e794a95782a41fb82fce662a15348e0a0cde57b85205e74f5e9a46f3158a", func := "retorter/retorterlaw4.AigChecks", spec := "aigChecks", unfollowed := true, recurses := true, plainKeys := false, apart := false, narrowed := true }
def AigChecksUptoSaid : Prop := aigChecksUptoRow.holds Try.pinned (OpenSpec.upto aigChecksSpec)

/-- 'retorterlaw4.AigNormals', WHERE WHAT IT READS IS OF BULK AT MOST 1048576: true; the input reads as it did. -/
def aigNormalsUptoRow : OpenClaim := { program := "ytldodaejfipebaa", sum := "1473e794a95782a41fb82fce662a15348e0a0cde57b85205e74f5e9a46f3158a", func := "retorter/retorterlaw4.AigNormals", spec := "aigNormals", unfollowed := true, recurses := true, plainKeys := false, apart := false, narrowed := true }
def AigNormalsUptoSaid : Prop := aigNormalsUptoRow.holds Try.pinned (OpenSpec.upto aigNormalsSpec)

/-- 'retorterlaw4.AigAgain', WHERE WHAT IT READS IS OF BULK AT MOST 1048576: true; the input reads as it did. -/
def aigAgainUptoRow : OpenClaim := { program := "ytldodaejfipebaa", sum := "1473e794a95782a41fb82fce662a15348e0a0cde57b85205e74f5e9a46f3158a", func := "retorter/retorterlaw4.AigAgain", spec := "aigAgain", unfollowed := true, recurses := true, plainKeys := false, apart := false, narrowed := true }
def AigAgainUptoSaid : Prop := aigAgainUptoRow.holds Try.pinned (OpenSpec.upto aigAgainSpec)

/-- 'retorterlaw4.AigRings', WHERE WHAT IT READS IS OF BULK AT MOST 1048576: true; the input reads as it did. -/
def aigRingsUptoRow : OpenClaim := { program := "ytldodaejfipebaa", sum := "1473e794a95782a41fb82fce662a15348e0a0cde57b85205e74f5e9a46f3158a", func := "retorter/retorterlaw4.AigRings", spec := "aigRings", unfollowed := true, recurses := true, plainKeys := false, apart := false, narrowed := true }
def AigRingsUptoSaid : Prop := aigRingsUptoRow.holds Try.pinned (OpenSpec.upto aigRingsSpec)

/-- 'retorterlaw4.AigWrong', WHERE WHAT IT READS IS OF BULK AT MOST 1048576: true; the input reads as it did. -/
def aigWrongUptoRow : OpenClaim := { program := "ytldodaejfipebaa", sum := "1473e794a95782a41fb82fce662a15348e0a0cde57b85205e74f5e9a46f3158a", func := "retorter/retorterlaw4.AigWrong", spec := "aigWrong", unfollowed := true, recurses := true, plainKeys := false, apart := false, narrowed := true }
def AigWrongUptoSaid : Prop := aigWrongUptoRow.holds Try.pinned (OpenSpec.upto aigWrongSpec)

end Rows
end Go.Proofs.Ytldodaejfipebaa
