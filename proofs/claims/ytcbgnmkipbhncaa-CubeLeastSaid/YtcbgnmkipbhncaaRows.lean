/-
  No cell of these rows narrows 'for every input' (looked for: loops, veiled, ifaces, maps, wideKeys, modest, calm, conditions, laid).
  DERIVED. THE GIVEN ROWS OF THIS SEAT. 6 by the template 'for every input the law returns true; each argument reads behind the call as it read before'; 0 by the template 'total and deterministic' (their statements: YtcbgnmkipbhncaaTotals.lean).
  GIVEN WITH THE SEED: the statements are not yours to turn. If you find one false, say at which input.
  Laid BY PROGRAM, IN A SANDBOX (cutbox-rows.mjs): the forced cells as the released guide's own fill.sh prints them over the translation 4deb7f5fa53d1eb4… (all of the seat's roots in one cut). By AI agents, Wed Nov 11 2026. No macro, syntax, notation, axiom, sorry.
-/
import Derived.Test.YtcbgnmkipbhncaaChecked
import GoSem.Claim
import GoSem.ClaimJoined
import GoSem.ClaimMapViews
import Derived.JoinedTies
import Derived.KernelRfl
namespace Go.Proofs.Ytcbgnmkipbhncaa
/- THE CELL 'sum', in the pinned program and in every row, IS THE sha256 OF THE DUMP (.gsa) THAT YtcbgnmkipbhncaaProg.lean LOADS. Nothing in Lean hashes anything: it is a label: what it is worth is what the hold of that sum in a sandbox is worth. -/
noncomputable def Try.pinned : Pinned := { name := "ytcbgnmkipbhncaa", sum := "4deb7f5fa53d1eb49a9b5646c0e6967ef6372b76fae3bf49febcef77ac4e3cd4", checked := Try.checked }
namespace Rows
def none {H : Type} : Left H := { results := [], args := [] }

/-- 'retorterlaw3.CubeOfs': WHATEVER THE INPUT: true; the input reads as it did. -/
def cubeOfsSpec : ChangeSpec := { name := "cubeOfs", fn := fun _ => fun
  | [d] => { results := [.lit (.bool true)], args := [d] }
  | _ => none }
def cubeOfsRow : OpenClaim := { program := "ytcbgnmkipbhncaa", sum := "4deb7f5fa53d1eb49a9b5646c0e6967ef6372b76fae3bf49febcef77ac4e3cd4", func := "retorter/retorterlaw3.CubeOfs", spec := "cubeOfs", unfollowed := true, recurses := true, apart := false }
def CubeOfsSaid : Prop := cubeOfsRow.holds Try.pinned (OpenSpec.ofChange cubeOfsSpec)

/-- ITS FALSE NEIGHBOUR: 'it returns false'. Refute it at one input. -/
def cubeOfsWrong : ChangeSpec := { name := "cubeOfs", fn := fun _ => fun
  | [d] => { results := [.lit (.bool false)], args := [d] }
  | _ => none }
def CubeOfsWrongFalsely : Prop := cubeOfsRow.holds Try.pinned (OpenSpec.ofChange cubeOfsWrong)

/-- 'retorterlaw3.CubeSets': WHATEVER THE INPUT: true; the input reads as it did. -/
def cubeSetsSpec : ChangeSpec := { name := "cubeSets", fn := fun _ => fun
  | [d1, d2] => { results := [.lit (.bool true)], args := [d1, d2] }
  | _ => none }
def cubeSetsRow : OpenClaim := { program := "ytcbgnmkipbhncaa", sum := "4deb7f5fa53d1eb49a9b5646c0e6967ef6372b76fae3bf49febcef77ac4e3cd4", func := "retorter/retorterlaw3.CubeSets", spec := "cubeSets", unfollowed := true, recurses := true, apart := false }
def CubeSetsSaid : Prop := cubeSetsRow.holds Try.pinned (OpenSpec.ofChange cubeSetsSpec)

/-- ITS FALSE NEIGHBOUR: 'it returns false'. Refute it at one input. -/
def cubeSetsWrong : ChangeSpec := { name := "cubeSets", fn := fun _ => fun
  | [d1, d2] => { results := [.lit (.bool false)], args := [d1, d2] }
  | _ => none }
def CubeSetsWrongFalsely : Prop := cubeSetsRow.holds Try.pinned (OpenSpec.ofChange cubeSetsWrong)

/-- 'retorterlaw3.CubeResolves': WHATEVER THE INPUT: true; the input reads as it did. -/
def cubeResolvesSpec : ChangeSpec := { name := "cubeResolves", fn := fun _ => fun
  | [d1, d2, d3, d4] => { results := [.lit (.bool true)], args := [d1, d2, d3, d4] }
  | _ => none }
def cubeResolvesRow : OpenClaim := { program := "ytcbgnmkipbhncaa", sum := "4deb7f5fa53d1eb49a9b5646c0e6967ef6372b76fae3bf49febcef77ac4e3cd4", func := "retorter/retorterlaw3.CubeResolves", spec := "cubeResolves", unfollowed := true, recurses := true, apart := false }
def CubeResolvesSaid : Prop := cubeResolvesRow.holds Try.pinned (OpenSpec.ofChange cubeResolvesSpec)

/-- ITS FALSE NEIGHBOUR: 'it returns false'. Refute it at one input. -/
def cubeResolvesWrong : ChangeSpec := { name := "cubeResolves", fn := fun _ => fun
  | [d1, d2, d3, d4] => { results := [.lit (.bool false)], args := [d1, d2, d3, d4] }
  | _ => none }
def CubeResolvesWrongFalsely : Prop := cubeResolvesRow.holds Try.pinned (OpenSpec.ofChange cubeResolvesWrong)

/-- 'retorterlaw3.CubeLeast': WHATEVER THE INPUT: true; the input reads as it did. -/
def cubeLeastSpec : ChangeSpec := { name := "cubeLeast", fn := fun _ => fun
  | [d] => { results := [.lit (.bool true)], args := [d] }
  | _ => none }
def cubeLeastRow : OpenClaim := { program := "ytcbgnmkipbhncaa", sum := "4deb7f5fa53d1eb49a9b5646c0e6967ef6372b76fae3bf49febcef77ac4e3cd4", func := "retorter/retorterlaw3.CubeLeast", spec := "cubeLeast", unfollowed := true, recurses := true, apart := false }
def CubeLeastSaid : Prop := cubeLeastRow.holds Try.pinned (OpenSpec.ofChange cubeLeastSpec)

/-- ITS FALSE NEIGHBOUR: 'it returns false'. Refute it at one input. -/
def cubeLeastWrong : ChangeSpec := { name := "cubeLeast", fn := fun _ => fun
  | [d] => { results := [.lit (.bool false)], args := [d] }
  | _ => none }
def CubeLeastWrongFalsely : Prop := cubeLeastRow.holds Try.pinned (OpenSpec.ofChange cubeLeastWrong)

/-- 'retorterlaw3.CubeStands': WHATEVER THE INPUT: true; the input reads as it did. -/
def cubeStandsSpec : ChangeSpec := { name := "cubeStands", fn := fun _ => fun
  | [d] => { results := [.lit (.bool true)], args := [d] }
  | _ => none }
def cubeStandsRow : OpenClaim := { program := "ytcbgnmkipbhncaa", sum := "4deb7f5fa53d1eb49a9b5646c0e6967ef6372b76fae3bf49febcef77ac4e3cd4", func := "retorter/retorterlaw3.CubeStands", spec := "cubeStands", unfollowed := true, recurses := true, apart := false }
def CubeStandsSaid : Prop := cubeStandsRow.holds Try.pinned (OpenSpec.ofChange cubeStandsSpec)

/-- ITS FALSE NEIGHBOUR: 'it returns false'. Refute it at one input. -/
def cubeStandsWrong : ChangeSpec := { name := "cubeStands", fn := fun _ => fun
  | [d] => { results := [.lit (.bool false)], args := [d] }
  | _ => none }
def CubeStandsWrongFalsely : Prop := cubeStandsRow.holds Try.pinned (OpenSpec.ofChange cubeStandsWrong)

/-- 'retorterlaw3.CubeNots': WHATEVER THE INPUT: true; the input reads as it did. -/
def cubeNotsSpec : ChangeSpec := { name := "cubeNots", fn := fun _ => fun
  | [d] => { results := [.lit (.bool true)], args := [d] }
  | _ => none }
def cubeNotsRow : OpenClaim := { program := "ytcbgnmkipbhncaa", sum := "4deb7f5fa53d1eb49a9b5646c0e6967ef6372b76fae3bf49febcef77ac4e3cd4", func := "retorter/retorterlaw3.CubeNots", spec := "cubeNots", unfollowed := true, recurses := true, apart := false }
def CubeNotsSaid : Prop := cubeNotsRow.holds Try.pinned (OpenSpec.ofChange cubeNotsSpec)

/-- ITS FALSE NEIGHBOUR: 'it returns false'. Refute it at one input. -/
def cubeNotsWrong : ChangeSpec := { name := "cubeNots", fn := fun _ => fun
  | [d] => { results := [.lit (.bool false)], args := [d] }
  | _ => none }
def CubeNotsWrongFalsely : Prop := cubeNotsRow.holds Try.pinned (OpenSpec.ofChange cubeNotsWrong)

/- THE SECOND FORM. 'bulk': how many values and letters a reading holds, each counted each time it is reached (what is shared counts as often as it is met; a slice's spare places count too). A statement '..UptoSaid' is the law's where the arguments, and the package variables that the reading takes, are together of bulk at most 1048576: NARROWER than '..Said'. Prove '..Said' where nothing that the law and all that it calls make is longer than what came in: it says more and counts as full. Else prove '..UptoSaid'. A law counts once. -/
mutual
def uptoBulk {H : Type} : DataW H → Nat
  | .lit (.string bytes) => bytes.length + 1
  | .lit _ => 1
  | .nil => 1
  | .ptr d => uptoBulk d + 1
  | .slice elems spare => uptoBulkAll elems + uptoBulkAll spare + 1
  | .agg parts => uptoBulkAll parts + 1
  | .iface _ d => uptoBulk d + 1
  | .map entries => uptoBulkEntries entries + 1
  | .held _ => 1
def uptoBulkAll {H : Type} : List (DataW H) → Nat
  | [] => 0
  | d :: r => uptoBulk d + uptoBulkAll r
def uptoBulkEntries {H : Type} : List (Lit × DataW H) → Nat
  | [] => 0
  | x :: r => uptoBulkEntry x + uptoBulkEntries r
def uptoBulkEntry {H : Type} : Lit × DataW H → Nat
  | (.string bytes, d) => bytes.length + uptoBulk d + 1
  | (_, d) => uptoBulk d + 1
 end
def uptoSmall : (H : Type) → List (DataW H) → Bool := fun _ ds => decide (uptoBulkAll ds ≤ 1048576)
def OpenSpec.upto (s : _root_.Go.ChangeSpec) : _root_.Go.OpenSpec := { _root_.Go.OpenSpec.ofChange s with cond := some uptoSmall }

/-- 'retorterlaw3.CubeOfs', WHERE WHAT IT READS IS OF BULK AT MOST 1048576: true; the input reads as it did. -/
def cubeOfsUptoRow : OpenClaim := { program := "ytcbgnmkipbhncaa", sum := "4deb7f5fa53d1eb49a9b5646c0e6967ef6372b76fae3bf49febcef77ac4e3cd4", func := "retorter/retorterlaw3.CubeOfs", spec := "cubeOfs", unfollowed := true, recurses := true, apart := false, narrowed := true }
def CubeOfsUptoSaid : Prop := cubeOfsUptoRow.holds Try.pinned (OpenSpec.upto cubeOfsSpec)

/-- 'retorterlaw3.CubeSets', WHERE WHAT IT READS IS OF BULK AT MOST 1048576: true; the input reads as it did. -/
def cubeSetsUptoRow : OpenClaim := { program := "ytcbgnmkipbhncaa", sum := "4deb7f5fa53d1eb49a9b5646c0e6967ef6372b76fae3bf49febcef77ac4e3cd4", func := "retorter/retorterlaw3.CubeSets", spec := "cubeSets", unfollowed := true, recurses := true, apart := false, narrowed := true }
def CubeSetsUptoSaid : Prop := cubeSetsUptoRow.holds Try.pinned (OpenSpec.upto cubeSetsSpec)

/-- 'retorterlaw3.CubeResolves', WHERE WHAT IT READS IS OF BULK AT MOST 1048576: true; the input reads as it did. -/
def cubeResolvesUptoRow : OpenClaim := { program := "ytcbgnmkipbhncaa", sum := "4deb7f5fa53d1eb49a9b5646c0e6967ef6372b76fae3bf49febcef77ac4e3cd4", func := "retorter/retorterlaw3.CubeResolves", spec := "cubeResolves", unfollowed := true, recurses := true, apart := false, narrowed := true }
def CubeResolvesUptoSaid : Prop := cubeResolvesUptoRow.holds Try.pinned (OpenSpec.upto cubeResolvesSpec)

/-- 'retorterlaw3.CubeLeast', WHERE WHAT IT READS IS OF BULK AT MOST 1048576: true; the input reads as it did. -/
def cubeLeastUptoRow : OpenClaim := { program := "ytcbgnmkipbhncaa", sum := "4deb7f5fa53d1eb49a9b5646c0e6967ef6372b76fae3bf49febcef77ac4e3cd4", func := "retorter/retorterlaw3.CubeLeast", spec := "cubeLeast", unfollowed := true, recurses := true, apart := false, narrowed := true }
def CubeLeastUptoSaid : Prop := cubeLeastUptoRow.holds Try.pinned (OpenSpec.upto cubeLeastSpec)

/-- 'retorterlaw3.CubeStands', WHERE WHAT IT READS IS OF BULK AT MOST 1048576: true; the input reads as it did. -/
def cubeStandsUptoRow : OpenClaim := { program := "ytcbgnmkipbhncaa", sum := "4deb7f5fa53d1eb49a9b5646c0e6967ef6372b76fae3bf49febcef77ac4e3cd4", func := "retorter/retorterlaw3.CubeStands", spec := "cubeStands", unfollowed := true, recurses := true, apart := false, narrowed := true }
def CubeStandsUptoSaid : Prop := cubeStandsUptoRow.holds Try.pinned (OpenSpec.upto cubeStandsSpec)

/-- 'retorterlaw3.CubeNots', WHERE WHAT IT READS IS OF BULK AT MOST 1048576: true; the input reads as it did. -/
def cubeNotsUptoRow : OpenClaim := { program := "ytcbgnmkipbhncaa", sum := "4deb7f5fa53d1eb49a9b5646c0e6967ef6372b76fae3bf49febcef77ac4e3cd4", func := "retorter/retorterlaw3.CubeNots", spec := "cubeNots", unfollowed := true, recurses := true, apart := false, narrowed := true }
def CubeNotsUptoSaid : Prop := cubeNotsUptoRow.holds Try.pinned (OpenSpec.upto cubeNotsSpec)

end Rows
end Go.Proofs.Ytcbgnmkipbhncaa
