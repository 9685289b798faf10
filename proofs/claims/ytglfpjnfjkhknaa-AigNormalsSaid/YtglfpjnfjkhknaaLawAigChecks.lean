/-
  THE WALK of the law AigChecks.
-/
import Derived.Test.YtglfpjnfjkhknaaAigCopy
import Derived.Test.YtglfpjnfjkhknaaAigTwo
import Derived.Test.YtglfpjnfjkhknaaRefCheck
namespace Go.Proofs.Ytglfpjnfjkhknaa
open Go.RowKit

theorem fits_read {w : World} {c : CV} {C : Circ} (_h : Holds w c C) (r : Read c) (hm : I64 c.m) (hN : NamesFit C) : Fits c C :=
  ⟨by have := r.n1; omega, by have := r.n2; omega, by have := r.n3; omega, by have := r.n4; omega, by have := r.n5; omega, hm.1, hN⟩
theorem refCheck_read (c : CV) (C : Circ) (w : World) (h : Holds w c C) (r : Read c) (hm : I64 c.m) (hN : NamesFit C) :
    Calls Try.prog 18 #[c.v] w fun e w' => e = .returned (.int .i64 C.checkI) ∧ Below w.heap.size w w' :=
  refCheck_any c C w h hm (by have := r.n1; omega) (by have := r.n2; omega) (by have := r.n3; omega) (by have := r.n4; omega) (by have := r.n5; omega) (by have := r.n6; omega) (by have := r.n7; omega) hN
theorem same_self (A : Circ) : sameB A A = true := by unfold sameB; simp

theorem two8_put {w0 w : World} {b1 : Nat} {c d : CV} {A : Circ} (hc : Holds w c A) (hd : Holds w d A) (hb : Box w b1 c) (hbl : Below w0.heap.size w0 w) : Two8 w0 b1 w.heap.size c d A A (w.alloc (.cells #[.int .i64 d.m, .slice d.a1 d.n1 d.c1, .slice d.a2 d.n2 d.c2, .slice d.a3 d.n3 d.c3, .slice d.a4 d.n4 d.c4, .slice d.a5 d.n5 d.c5, .slice d.a6 d.n6 d.c6, .slice d.a7 d.n7 d.c7] 27)) :=
  ⟨hc.below (below_alloc w _), hd.below (below_alloc w _), hb.alloc _, box_new w d, belowThen hbl (below_alloc w _)⟩

end Go.Proofs.Ytglfpjnfjkhknaa
