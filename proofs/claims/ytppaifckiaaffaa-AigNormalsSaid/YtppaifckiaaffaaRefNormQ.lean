/-
  WORDS for the reference's Normal: the new circuit while it is made.
  WORDS for the last part of the reference's Normal: rows of three cells, what is told at the end.
-/
import Derived.Test.YtppaifckiaaffaaRefAll
import Derived.Test.YtppaifckiaaffaaNormGood
import Derived.Test.YtppaifckiaaffaaLawAigChecks
import Derived.Deep.RegionHeld3
import Derived.Test.YtppaifckiaaffaaOwnQ

namespace Go.Proofs.Ytppaifckiaaffaa
open Go.RowKit

/-- What stands when the order of the Ands is known. -/
structure R3 (w0 : World) (c : CV) (C : Circ) (oa : Option Addr) (w3 : World) : Prop where
  box : Box w3 w0.heap.size c
  res : Box w3 (w0.heap.size + 1) CV.nil
  holds : Holds w3 c C
  ord : RowK .i64 w3 oa (C.turn.map (fun k : Nat => (k : Int)))
  below : Below w0.heap.size w0 w3
theorem R3.then {w0 w3 W : World} {c : CV} {C : Circ} {oa : Option Addr} (h : R3 w0 c C oa w3) (hb : Below w3.heap.size w3 W) : R3 w0 c C oa W :=
  ⟨h.box.below hb, h.res.below hb, h.holds.below hb, h.ord.below hb, belowThen h.below hb⟩
/-- The same, and the renaming. -/
structure NT (w0 : World) (c : CV) (C : Circ) (oa : Option Addr) (w3 : World) (g n : Nat) (W : World) : Prop where
  r3 : R3 w0 c C oa W
  lm : LMk w3 g n C.ren W
theorem NT.then {w0 w3 W W' : World} {c : CV} {C : Circ} {oa : Option Addr} {g n : Nat} (h : NT w0 c C oa w3 g n W) (hb : Below W.heap.size W W') : NT w0 c C oa w3 g n W' := ⟨h.r3.then hb, own_below h.lm.own hb, belowThen h.lm.below hb⟩

theorem box_nil_t {w0 w3 W w' : World} {c : CV} {C : Circ} {oa : Option Addr} {g n : Nat} (hb : Below (W.alloc (.cells #[.int .i64 0, .slice none 0 0, .slice none 0 0, .slice none 0 0, .slice none 0 0, .slice none 0 0, .slice none 0 0, .slice none 0 0] 27)).heap.size (W.alloc (.cells #[.int .i64 0, .slice none 0 0, .slice none 0 0, .slice none 0 0, .slice none 0 0, .slice none 0 0, .slice none 0 0, .slice none 0 0] 27)) w') (t : NT w0 c C oa w3 g n W) : Box w' W.heap.size CV.nil ∧ w3.heap.size ≤ W.heap.size := ⟨(box_new W CV.nil).below hb, t.lm.below.size⟩

/-- The new circuit while it is made. -/
structure RD (w3 : World) (C : Circ) (g n b : Nat) (L2 L6 : List Tri) (d : CV) (W : World) : Prop where
  lm : LMk w3 g n C.ren W
  box : Box W b d
  le : w3.heap.size ≤ b
  o1 : W.ownsRow w3.heap.size 3 1 (.slice d.a1 d.n1 d.c1) d.n1 ((C.ins.map (renL C.ren)).map (Value.int .i64))
  o2 : W.ownsRow w3.heap.size 43 3 (.slice d.a2 d.n2 d.c2) d.n2 (cellsT L2)
  o3 : W.ownsRow w3.heap.size 3 1 (.slice d.a3 d.n3 d.c3) d.n3 ((C.outs.map (renL C.ren)).map (Value.int .i64))
  o4 : W.ownsRow w3.heap.size 3 1 (.slice d.a4 d.n4 d.c4) d.n4 ((C.bads.map (renL C.ren)).map (Value.int .i64))
  o5 : W.ownsRow w3.heap.size 3 1 (.slice d.a5 d.n5 d.c5) d.n5 ((C.cons.map (renL C.ren)).map (Value.int .i64))
  o6 : W.ownsRow w3.heap.size 46 3 (.slice d.a6 d.n6 d.c6) d.n6 (cellsT L6)
  o7 : W.ownsRow w3.heap.size 49 3 (.slice d.a7 d.n7 d.c7) d.n7 (cellsS C.names)
theorem RD.then {w3 W W' : World} {C : Circ} {g n b : Nat} {L2 L6 : List Tri} {d : CV} (h : RD w3 C g n b L2 L6 d W) (hb : Below W.heap.size W W') : RD w3 C g n b L2 L6 d W' :=
  ⟨⟨own_below h.lm.own hb, belowThen h.lm.below hb⟩, h.box.below hb, h.le, own_below h.o1 hb, own_below h.o2 hb, own_below h.o3 hb, own_below h.o4 hb, own_below h.o5 hb, own_below h.o6 hb, own_below h.o7 hb⟩
theorem rd_last {w3 X : World} {C : Circ} {g n : Nat} {d : CV} (lm : LMk w3 g n C.ren X) (h2 : d.a2 = none ∧ d.n2 = 0 ∧ d.c2 = 0) (h6 : d.a6 = none ∧ d.n6 = 0 ∧ d.c6 = 0)
    (o1 : X.ownsRow w3.heap.size 3 1 (.slice d.a1 d.n1 d.c1) d.n1 ((C.ins.map (renL C.ren)).map (Value.int .i64))) (o3 : X.ownsRow w3.heap.size 3 1 (.slice d.a3 d.n3 d.c3) d.n3 ((C.outs.map (renL C.ren)).map (Value.int .i64))) (o4 : X.ownsRow w3.heap.size 3 1 (.slice d.a4 d.n4 d.c4) d.n4 ((C.bads.map (renL C.ren)).map (Value.int .i64))) (o5 : X.ownsRow w3.heap.size 3 1 (.slice d.a5 d.n5 d.c5) d.n5 ((C.cons.map (renL C.ren)).map (Value.int .i64))) (o7 : X.ownsRow w3.heap.size 49 3 (.slice d.a7 d.n7 d.c7) d.n7 (cellsS C.names)) :
    RD w3 C g n X.heap.size [] [] d (X.alloc (.cells #[.int .i64 d.m, .slice d.a1 d.n1 d.c1, .slice d.a2 d.n2 d.c2, .slice d.a3 d.n3 d.c3, .slice d.a4 d.n4 d.c4, .slice d.a5 d.n5 d.c5, .slice d.a6 d.n6 d.c6, .slice d.a7 d.n7 d.c7] 27)) := by
  refine ⟨⟨lm.own.alloc _, belowThen lm.below (below_alloc _ _)⟩, box_new X d, lm.below.size, o1.alloc _, ?_, o3.alloc _, o4.alloc _, o5.alloc _, ?_, o7.alloc _⟩
  · rw [h2.1, h2.2.1, h2.2.2]; exact World.ownsRow_nil _ _ _ _
  · rw [h6.1, h6.2.1, h6.2.2]; exact World.ownsRow_nil _ _ _ _
theorem rd_put {w3 X : World} {C : Circ} {g n b : Nat} {d d0 : CV} (lm : LMk w3 g n C.ren X) (hb : Box X b d0) (hle : w3.heap.size ≤ b) (h2 : d.a2 = none ∧ d.n2 = 0 ∧ d.c2 = 0) (h6 : d.a6 = none ∧ d.n6 = 0 ∧ d.c6 = 0)
    (o1 : X.ownsRow w3.heap.size 3 1 (.slice d.a1 d.n1 d.c1) d.n1 ((C.ins.map (renL C.ren)).map (Value.int .i64))) (o3 : X.ownsRow w3.heap.size 3 1 (.slice d.a3 d.n3 d.c3) d.n3 ((C.outs.map (renL C.ren)).map (Value.int .i64))) (o4 : X.ownsRow w3.heap.size 3 1 (.slice d.a4 d.n4 d.c4) d.n4 ((C.bads.map (renL C.ren)).map (Value.int .i64))) (o5 : X.ownsRow w3.heap.size 3 1 (.slice d.a5 d.n5 d.c5) d.n5 ((C.cons.map (renL C.ren)).map (Value.int .i64))) (o7 : X.ownsRow w3.heap.size 49 3 (.slice d.a7 d.n7 d.c7) d.n7 (cellsS C.names)) :
    RD w3 C g n b [] [] d (putBox X b d) := by
  have n1 : 3 ≠ 27 := by decide
  have n7 : 49 ≠ 27 := by decide
  refine ⟨⟨own_put lm.own hb n1, (two_put X b d).below lm.below (Nat.le_refl _) hle hle⟩, box_put d hb, hle, own_put o1 hb n1, ?_, own_put o3 hb n1, own_put o4 hb n1, own_put o5 hb n1, ?_, own_put o7 hb n7⟩
  · rw [h2.1, h2.2.1, h2.2.2]; exact World.ownsRow_nil _ _ _ _
  · rw [h6.1, h6.2.1, h6.2.2]; exact World.ownsRow_nil _ _ _ _
/-- One latch more. -/
theorem RD.lat {w3 wr W w4 : World} {C : Circ} {g n b K4 m : Nat} {L2 L6 L2' : List Tri} {d : CV} {A4 : Option Addr} (h : RD w3 C g n b L2 L6 d wr) (hb : Below wr.heap.size wr W) (hg : W.grownBy w4 (Value.slice d.a2 d.n2 d.c2).ownBlock)
    (hown : w4.ownsRow w3.heap.size 43 3 (.slice A4 m K4) m (cellsT L2')) : RD w3 C g n b L2' L6 { d with a2 := A4, n2 := m, c2 := K4 } (w4.setCell ⟨b, 2, none⟩ (.slice A4 m K4)) := by
  have k := h.then hb
  have n1 : 3 ≠ 27 := by decide
  have n2 : 43 ≠ 27 := by decide
  have n6 : 46 ≠ 27 := by decide
  have n7 : 49 ≠ 27 := by decide
  have m1 : 3 ≠ 43 := by decide
  have m6 : 46 ≠ 43 := by decide
  have m7 : 49 ≠ 43 := by decide
  have bx : Box w4 b d := k.box.grown hg (own_ne_box k.o2 k.box n2)
  refine ⟨⟨own_cellQ (own_grown k.lm.own k.o2 m1 hg) bx n1, ?_⟩, box_eight (c' := { d with a2 := A4, n2 := m, c2 := K4 }) bx 2 _ rfl, h.le, own_cellQ (own_grown k.o1 k.o2 m1 hg) bx n1, own_cellQ hown bx n2, own_cellQ (own_grown k.o3 k.o2 m1 hg) bx n1, own_cellQ (own_grown k.o4 k.o2 m1 hg) bx n1, own_cellQ (own_grown k.o5 k.o2 m1 hg) bx n1, own_cellQ (own_grown k.o6 k.o2 m6 hg) bx n6, own_cellQ (own_grown k.o7 k.o2 m7 hg) bx n7⟩
  exact (k.lm.below.grown hg k.lm.below.size (fun i hi => (k.o2.lt i hi).1)).setCell (p := ⟨b, 2, none⟩) h.le _
theorem RD.and {w3 wr W w4 : World} {C : Circ} {g n b K4 m : Nat} {L2 L6 L6' : List Tri} {d : CV} {A4 : Option Addr} (h : RD w3 C g n b L2 L6 d wr) (hb : Below wr.heap.size wr W) (hg : W.grownBy w4 (Value.slice d.a6 d.n6 d.c6).ownBlock)
    (hown : w4.ownsRow w3.heap.size 46 3 (.slice A4 m K4) m (cellsT L6')) : RD w3 C g n b L2 L6' { d with a6 := A4, n6 := m, c6 := K4 } (w4.setCell ⟨b, 6, none⟩ (.slice A4 m K4)) := by
  have k := h.then hb
  have n1 : 3 ≠ 27 := by decide
  have n2 : 43 ≠ 27 := by decide
  have n6 : 46 ≠ 27 := by decide
  have n7 : 49 ≠ 27 := by decide
  have m1 : 3 ≠ 46 := by decide
  have m2 : 43 ≠ 46 := by decide
  have m7 : 49 ≠ 46 := by decide
  have bx : Box w4 b d := k.box.grown hg (own_ne_box k.o6 k.box n6)
  refine ⟨⟨own_cellQ (own_grown k.lm.own k.o6 m1 hg) bx n1, ?_⟩, box_eight (c' := { d with a6 := A4, n6 := m, c6 := K4 }) bx 6 _ rfl, h.le, own_cellQ (own_grown k.o1 k.o6 m1 hg) bx n1, own_cellQ (own_grown k.o2 k.o6 m2 hg) bx n2, own_cellQ (own_grown k.o3 k.o6 m1 hg) bx n1, own_cellQ (own_grown k.o4 k.o6 m1 hg) bx n1, own_cellQ (own_grown k.o5 k.o6 m1 hg) bx n1, own_cellQ hown bx n6, own_cellQ (own_grown k.o7 k.o6 m7 hg) bx n7⟩
  exact (k.lm.below.grown hg k.lm.below.size (fun i hi => (k.o6.lt i hi).1)).setCell (p := ⟨b, 6, none⟩) h.le _

theorem below_none {W w' : World} (hg : W.grownBy w' (Value.slice none 0 0).ownBlock) : Below W.heap.size W w' := (Below.refl _ _).grown hg (Nat.le_refl _) (fun k hk => by cases hk)
theorem five_cells {w0 w3 w' : World} {c : CV} {C : Circ} {oa : Option Addr} {g n : Nat} (t : NT w0 c C oa w3 g n w') : w'.cell? ⟨w0.heap.size, 1, none⟩ = some (.slice c.a1 c.n1 c.c1) ∧ w'.cell? ⟨w0.heap.size, 3, none⟩ = some (.slice c.a3 c.n3 c.c3) ∧ w'.cell? ⟨w0.heap.size, 4, none⟩ = some (.slice c.a4 c.n4 c.c4) ∧ w'.cell? ⟨w0.heap.size, 5, none⟩ = some (.slice c.a5 c.n5 c.c5) ∧ w'.cell? ⟨w0.heap.size, 7, none⟩ = some (.slice c.a7 c.n7 c.c7) := by
  obtain ⟨-, q1, -, q3, q4, q5, -, q7⟩ := t.r3.box.cells
  exact ⟨q1, q3, q4, q5, q7⟩
theorem five_put {w0 w3 W : World} {c : CV} {C : Circ} {oa : Option Addr} {g n b : Nat} (t : NT w0 c C oa w3 g n W) (hb : w0.heap.size < b) (u0 u1 u2 u3 u4 u5 u6 u7 : Value) :
    ((((((((W.setCell ⟨b, 0, none⟩ u0).setCell ⟨b, 1, none⟩ u1).setCell ⟨b, 2, none⟩ u2).setCell ⟨b, 3, none⟩ u3).setCell ⟨b, 4, none⟩ u4).setCell ⟨b, 5, none⟩ u5).setCell ⟨b, 6, none⟩ u6).setCell ⟨b, 7, none⟩ u7).cell? ⟨w0.heap.size, 1, none⟩ = some (.slice c.a1 c.n1 c.c1) ∧ ((((((((W.setCell ⟨b, 0, none⟩ u0).setCell ⟨b, 1, none⟩ u1).setCell ⟨b, 2, none⟩ u2).setCell ⟨b, 3, none⟩ u3).setCell ⟨b, 4, none⟩ u4).setCell ⟨b, 5, none⟩ u5).setCell ⟨b, 6, none⟩ u6).setCell ⟨b, 7, none⟩ u7).cell? ⟨w0.heap.size, 3, none⟩ = some (.slice c.a3 c.n3 c.c3) ∧ ((((((((W.setCell ⟨b, 0, none⟩ u0).setCell ⟨b, 1, none⟩ u1).setCell ⟨b, 2, none⟩ u2).setCell ⟨b, 3, none⟩ u3).setCell ⟨b, 4, none⟩ u4).setCell ⟨b, 5, none⟩ u5).setCell ⟨b, 6, none⟩ u6).setCell ⟨b, 7, none⟩ u7).cell? ⟨w0.heap.size, 4, none⟩ = some (.slice c.a4 c.n4 c.c4) ∧ ((((((((W.setCell ⟨b, 0, none⟩ u0).setCell ⟨b, 1, none⟩ u1).setCell ⟨b, 2, none⟩ u2).setCell ⟨b, 3, none⟩ u3).setCell ⟨b, 4, none⟩ u4).setCell ⟨b, 5, none⟩ u5).setCell ⟨b, 6, none⟩ u6).setCell ⟨b, 7, none⟩ u7).cell? ⟨w0.heap.size, 5, none⟩ = some (.slice c.a5 c.n5 c.c5) ∧ ((((((((W.setCell ⟨b, 0, none⟩ u0).setCell ⟨b, 1, none⟩ u1).setCell ⟨b, 2, none⟩ u2).setCell ⟨b, 3, none⟩ u3).setCell ⟨b, 4, none⟩ u4).setCell ⟨b, 5, none⟩ u5).setCell ⟨b, 6, none⟩ u6).setCell ⟨b, 7, none⟩ u7).cell? ⟨w0.heap.size, 7, none⟩ = some (.slice c.a7 c.n7 c.c7) := by
  have hne : ∀ (V : World) (i j : Nat) (u : Value), (V.setCell ⟨b, i, none⟩ u).cell? ⟨w0.heap.size, j, none⟩ = V.cell? ⟨w0.heap.size, j, none⟩ := fun V i j u => cell_set_other (fun e => by have := congrArg Addr.block e; simp at this; omega)
  obtain ⟨q1, q3, q4, q5, q7⟩ := five_cells t
  simp only [hne]
  exact ⟨q1, q3, q4, q5, q7⟩

theorem nil_facts {w : World} {b : Nat} (h : Box w b CV.nil) : w.cell? ⟨b, 0, none⟩ = some (.int .i64 0) ∧ w.cell? ⟨b, 1, none⟩ = some (.slice none 0 0) ∧ w.cell? ⟨b, 2, none⟩ = some (.slice none 0 0) ∧ w.cell? ⟨b, 3, none⟩ = some (.slice none 0 0) ∧ w.cell? ⟨b, 4, none⟩ = some (.slice none 0 0) ∧ w.cell? ⟨b, 5, none⟩ = some (.slice none 0 0) ∧ w.cell? ⟨b, 6, none⟩ = some (.slice none 0 0) ∧ w.cell? ⟨b, 7, none⟩ = some (.slice none 0 0) ∧ w.frozen? ⟨b, 0, none⟩ = false ∧ w.frozen? ⟨b, 1, none⟩ = false ∧ w.frozen? ⟨b, 2, none⟩ = false ∧ w.frozen? ⟨b, 3, none⟩ = false ∧ w.frozen? ⟨b, 4, none⟩ = false ∧ w.frozen? ⟨b, 5, none⟩ = false ∧ w.frozen? ⟨b, 6, none⟩ = false ∧ w.frozen? ⟨b, 7, none⟩ = false := by
  obtain ⟨z0, z1, z2, z3, z4, z5, z6, z7⟩ := h.cells
  exact ⟨z0, z1, z2, z3, z4, z5, z6, z7, box_frozen h 0, box_frozen h 1, box_frozen h 2, box_frozen h 3, box_frozen h 4, box_frozen h 5, box_frozen h 6, box_frozen h 7⟩
end Go.Proofs.Ytppaifckiaaffaa

namespace Go.Proofs.Ytppaifckiaaffaa
open Go.RowKit

theorem lats_succ (r : List Int) (L : List Tri) (k : Nat) (h : k < L.length) : cellsT ((L.take (k + 1)).map (renT r)) = cellsT ((L.take k).map (renT r)) ++ [.int .i64 (renL r (atP L k).1), .int .i64 (renL r (atP L k).2.1), .int .i64 (renL r (atP L k).2.2)] := by
  rw [take_snocP L k h, List.map_append, cellsT_append]; rfl
def andK (C : Circ) (k : Nat) : List Tri := (C.turn.take k).map (fun i => renA C.ren (atP C.ands i))
theorem andK_succ (C : Circ) (k : Nat) (h : k < C.turn.length) : cellsT (andK C (k + 1)) = cellsT (andK C k) ++ [.int .i64 (renA C.ren (atP C.ands (atP C.turn k))).1, .int .i64 (renA C.ren (atP C.ands (atP C.turn k))).2.1, .int .i64 (renA C.ren (atP C.ands (atP C.turn k))).2.2] := by
  unfold andK; rw [take_snocP C.turn k h, List.map_append, cellsT_append]; rfl
theorem RD.ren {w3 W : World} {C : Circ} {g n b : Nat} {L2 L6 : List Tri} {d : CV} (h : RD w3 C g n b L2 L6 d W) (hn : n ≤ 10000) (hs : ∀ x ∈ C.ren, 0 ≤ x ∧ x ≤ 10000) : Ren W g n C.ren := ren_of h.lm.own hn hs
theorem RD.out {w0 w3 W : World} {c d : CV} {C : Circ} {oa : Option Addr} {g n b : Nat} (h : RD w3 C g n b (C.lats.map (renT C.ren)) (C.turn.map (fun i => renA C.ren (atP C.ands i))) d W) (hm : d.m = C.norm.max) (r3 : R3 w0 c C oa w3) (hR : Right C) :
    Holds (putBox W (w0.heap.size + 1) d) d C.norm ∧ Read d ∧ Below w0.heap.size w0 (putBox W (w0.heap.size + 1) d) := by
  have hlt := r3.res.lt
  have ht := two_put W (w0.heap.size + 1) d
  have R1 := rowC_own' (own_two h.o1 ht hlt hlt)
  have R2 := rowC_own' (own_two h.o2 ht hlt hlt)
  have R3 := rowC_own' (own_two h.o3 ht hlt hlt)
  have R4 := rowC_own' (own_two h.o4 ht hlt hlt)
  have R5 := rowC_own' (own_two h.o5 ht hlt hlt)
  have R6 := rowC_own' (own_two h.o6 ht hlt hlt)
  have R7 := rowC_own' (own_two h.o7 ht hlt hlt)
  have l1 : (C.ins.map (renL C.ren)).length = d.n1 := by have := h.o1.1; simpa using this
  have l3 : (C.outs.map (renL C.ren)).length = d.n3 := by have := h.o3.1; simpa using this
  have l4 : (C.bads.map (renL C.ren)).length = d.n4 := by have := h.o4.1; simpa using this
  have l5 : (C.cons.map (renL C.ren)).length = d.n5 := by have := h.o5.1; simpa using this
  have l2 : (C.lats.map (renT C.ren)).length = d.n2 := by have := h.o2.1; rw [cellsT_len] at this; omega
  have l6 : (C.turn.map (fun i => renA C.ren (atP C.ands i))).length = d.n6 := by have := h.o6.1; rw [cellsT_len] at this; omega
  have l7 : C.names.length = d.n7 := by have := h.o7.1; rw [cellsS_len] at this; omega
  have s := hR.small
  have hT := hR.turn
  refine ⟨⟨hm, rowK_of_C R1.1, l1, R1.2, R2.1, l2, R2.2, rowK_of_C R3.1, l3, R3.2, rowK_of_C R4.1, l4, R4.2, rowK_of_C R5.1, l5, R5.2, R6.1, l6, R6.2, R7.1, l7, R7.2⟩, ⟨?_, ?_, ?_, ?_, ?_, ?_, ?_⟩, ht.below (r3.below.trans (h.lm.below.mono r3.below.size)) (Nat.le_refl _) (Nat.le_succ _) (Nat.le_succ _)⟩
  · rw [← l1, List.length_map]; have := s.ins; omega
  · rw [← l2, List.length_map]; have := s.lats; omega
  · rw [← l3, List.length_map]; have := s.outs; omega
  · rw [← l4, List.length_map]; have := s.bads; omega
  · rw [← l5, List.length_map]; have := s.cons; omega
  · rw [← l6, List.length_map, hT]; have := s.ands; omega
  · rw [← l7]; have := s.names; omega

theorem box_nil_d {w0 w3 W w' : World} {c : CV} {C : Circ} {oa : Option Addr} {g n : Nat} (hb : Below (W.alloc (.cells #[.int .i64 0, .slice none 0 0, .slice none 0 0, .slice none 0 0, .slice none 0 0, .slice none 0 0, .slice none 0 0, .slice none 0 0] 27)).drew.heap.size (W.alloc (.cells #[.int .i64 0, .slice none 0 0, .slice none 0 0, .slice none 0 0, .slice none 0 0, .slice none 0 0, .slice none 0 0, .slice none 0 0] 27)).drew w') (t : NT w0 c C oa w3 g n W) : Box w' W.heap.size CV.nil ∧ w3.heap.size ≤ W.heap.size := ⟨((box_new W CV.nil).below (Drew.below ⟨1, rfl⟩)).below hb, t.lm.below.size⟩
end Go.Proofs.Ytppaifckiaaffaa
