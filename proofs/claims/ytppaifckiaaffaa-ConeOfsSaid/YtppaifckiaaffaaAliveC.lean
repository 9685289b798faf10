/-
  A SMALL CIRCUIT that the laws' own functions build.
-/
import Derived.Test.YtppaifckiaaffaaAigAlive
namespace Go.Proofs.Ytppaifckiaaffaa
def aliveC : Circ := ⟨2, [2], [], [], [], [], [(4, 2, 1)], []⟩
def aliveV (b : Nat) : CV := ⟨2, some ⟨b, 0, none⟩, 1, 1, none, 0, 0, none, 0, 0, none, 0, 0, none, 0, 0, some ⟨b + 1, 0, none⟩, 1, 1, none, 0, 0⟩
end Go.Proofs.Ytppaifckiaaffaa
