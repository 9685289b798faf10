/-
  TWO CLOSED FACTS of the program that every plain row's proof asks.
-/
import Derived.Test.YtppaifckiaaffaaBase
import Derived.ProofKit
namespace Go.Proofs.Ytppaifckiaaffaa
theorem own : ownKnob Try.prog.godebug = none := by kernel_rfl
theorem laidOut : laidOutB Try.prog = true := by kernel_rfl
end Go.Proofs.Ytppaifckiaaffaa
