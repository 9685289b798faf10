/-
  TWO CIRCUITS IN BOXES: their cells; a circuit that came in is carried over later calls.
-/
import Derived.Test.YtppaifckiaaffaaAigRefSame
import Derived.Test.YtppaifckiaaffaaAigAlive
namespace Go.Proofs.Ytppaifckiaaffaa
open Go.RowKit

theorem two8_cells {w0 w' : World} {b1 b2 : Nat} {c d : CV} {A B : Circ} (t : Two8 w0 b1 b2 c d A B w') : w'.cell? ⟨b1, 0, none⟩ = some (.int .i64 c.m) ∧ w'.cell? ⟨b1, 1, none⟩ = some (.slice c.a1 c.n1 c.c1) ∧ w'.cell? ⟨b1, 2, none⟩ = some (.slice c.a2 c.n2 c.c2) ∧ w'.cell? ⟨b1, 3, none⟩ = some (.slice c.a3 c.n3 c.c3) ∧ w'.cell? ⟨b1, 4, none⟩ = some (.slice c.a4 c.n4 c.c4) ∧ w'.cell? ⟨b1, 5, none⟩ = some (.slice c.a5 c.n5 c.c5) ∧ w'.cell? ⟨b1, 6, none⟩ = some (.slice c.a6 c.n6 c.c6) ∧ w'.cell? ⟨b1, 7, none⟩ = some (.slice c.a7 c.n7 c.c7) ∧ w'.cell? ⟨b2, 0, none⟩ = some (.int .i64 d.m) ∧ w'.cell? ⟨b2, 1, none⟩ = some (.slice d.a1 d.n1 d.c1) ∧ w'.cell? ⟨b2, 2, none⟩ = some (.slice d.a2 d.n2 d.c2) ∧ w'.cell? ⟨b2, 3, none⟩ = some (.slice d.a3 d.n3 d.c3) ∧ w'.cell? ⟨b2, 4, none⟩ = some (.slice d.a4 d.n4 d.c4) ∧ w'.cell? ⟨b2, 5, none⟩ = some (.slice d.a5 d.n5 d.c5) ∧ w'.cell? ⟨b2, 6, none⟩ = some (.slice d.a6 d.n6 d.c6) ∧ w'.cell? ⟨b2, 7, none⟩ = some (.slice d.a7 d.n7 d.c7) := by
  obtain ⟨p0, p1, p2, p3, p4, p5, p6, p7⟩ := t.bc.cells
  obtain ⟨r0, r1, r2, r3, r4, r5, r6, r7⟩ := t.bd.cells
  exact ⟨p0, p1, p2, p3, p4, p5, p6, p7, r0, r1, r2, r3, r4, r5, r6, r7⟩
theorem Came.below {w w' : World} {c : CV} {C : Circ} (h : Came w c C) (hb : Below w.heap.size w w') : Came w' c C := ⟨h.holds.below hb, h.n1, h.n2, h.n3, h.n4, h.n5, h.n6, h.n7, h.m, h.names⟩
theorem read_of {w : World} {c : CV} {C : Circ} (h : Came w c C) (hb : C.bigB = false) : Read c := by
  obtain ⟨⟨a1, a2, a3, a4, a5, a6, a7⟩, a8⟩ := big_no hb
  have l1 := h.holds.l1
  have l2 := h.holds.l2
  have l3 := h.holds.l3
  have l4 := h.holds.l4
  have l5 := h.holds.l5
  have l6 := h.holds.l6
  have l7 := h.holds.l7
  exact ⟨by omega, by omega, by omega, by omega, by omega, by omega, by omega⟩

end Go.Proofs.Ytppaifckiaaffaa
