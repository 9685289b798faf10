/-
  WHEN TWO CIRCUITS ARE ONE: plain words, and two circuits side by side in memory.
-/
import Derived.Test.YtikjbbebfjleaaaGreatDoorJ10
import Derived.Laws.StructEq
namespace Go.Proofs.YtikjbbebfjleaaaGreatDoor
open Go.RowKit

theorem bytes_ne {a b : ByteArray} (h : a ≠ b) : (a.toList == b.toList) = false := by
  rw [beq_eq_false_iff_ne]
  intro e
  rw [ByteArray.toList_eq, ByteArray.toList_eq] at e
  apply h
  obtain ⟨⟨x⟩⟩ := a
  obtain ⟨⟨y⟩⟩ := b
  simp at e
  rw [e]

/-- Are two circuits one? -/
def sameB (A B : Circ) : Bool := decide (A.max = B.max) && (decide (A.ins = B.ins) && (decide (A.lats = B.lats) && (decide (A.outs = B.outs) && (decide (A.bads = B.bads) && (decide (A.cons = B.cons) && (decide (A.ands = B.ands) && decide (A.names = B.names)))))))

/-- Sizes that are read. -/
structure Read (c : CV) : Prop where
  n1 : c.n1 ≤ 1000000
  n2 : c.n2 ≤ 1000000
  n3 : c.n3 ≤ 1000000
  n4 : c.n4 ≤ 1000000
  n5 : c.n5 ≤ 1000000
  n6 : c.n6 ≤ 1000000
  n7 : c.n7 ≤ 1000000

/-- Two circuits and their boxes. -/
structure Two8 (w0 : World) (b1 b2 : Nat) (c d : CV) (A B : Circ) (w : World) : Prop where
  h : Holds w c A
  k : Holds w d B
  bc : Box w b1 c
  bd : Box w b2 d
  below : Below w0.heap.size w0 w
theorem Two8.then {w0 w w' : World} {b1 b2 : Nat} {c d : CV} {A B : Circ} (h : Two8 w0 b1 b2 c d A B w) (hb : Below w.heap.size w w') : Two8 w0 b1 b2 c d A B w' :=
  ⟨h.h.below hb, h.k.below hb, h.bc.below hb, h.bd.below hb, belowThen h.below hb⟩
theorem two8_new {w : World} {c d : CV} {A B : Circ} (h : Holds w c A) (k : Holds w d B) : Two8 w w.heap.size (w.heap.size + 1) c d A B ((w.alloc (.cells #[.int .i64 c.m, .slice c.a1 c.n1 c.c1, .slice c.a2 c.n2 c.c2, .slice c.a3 c.n3 c.c3, .slice c.a4 c.n4 c.c4, .slice c.a5 c.n5 c.c5, .slice c.a6 c.n6 c.c6, .slice c.a7 c.n7 c.c7] 29)).alloc (.cells #[.int .i64 d.m, .slice d.a1 d.n1 d.c1, .slice d.a2 d.n2 d.c2, .slice d.a3 d.n3 d.c3, .slice d.a4 d.n4 d.c4, .slice d.a5 d.n5 d.c5, .slice d.a6 d.n6 d.c6, .slice d.a7 d.n7 d.c7] 29)) := by
  have hb := belowThen (below_alloc w (.cells #[.int .i64 c.m, .slice c.a1 c.n1 c.c1, .slice c.a2 c.n2 c.c2, .slice c.a3 c.n3 c.c3, .slice c.a4 c.n4 c.c4, .slice c.a5 c.n5 c.c5, .slice c.a6 c.n6 c.c6, .slice c.a7 c.n7 c.c7] 29)) (below_alloc _ (.cells #[.int .i64 d.m, .slice d.a1 d.n1 d.c1, .slice d.a2 d.n2 d.c2, .slice d.a3 d.n3 d.c3, .slice d.a4 d.n4 d.c4, .slice d.a5 d.n5 d.c5, .slice d.a6 d.n6 d.c6, .slice d.a7 d.n7 d.c7] 29))
  refine ⟨h.below hb, k.below hb, (box_new w c).alloc _, ?_, hb⟩
  have := box_new (w.alloc (.cells #[.int .i64 c.m, .slice c.a1 c.n1 c.c1, .slice c.a2 c.n2 c.c2, .slice c.a3 c.n3 c.c3, .slice c.a4 c.n4 c.c4, .slice c.a5 c.n5 c.c5, .slice c.a6 c.n6 c.c6, .slice c.a7 c.n7 c.c7] 29)) d
  simpa using this

end Go.Proofs.YtikjbbebfjleaaaGreatDoor
