/-
  THE WALK of layer 4's newRenaming: the closure 'give', and its three loops.
-/
import Derived.Test.YtldodaejfipebaaAigPlaces
import Derived.Test.YtldodaejfipebaaNormP
namespace Go.Proofs.Ytldodaejfipebaa
open Go.RowKit

/-- The renaming while it is made: its row, the two variables that the closure holds, the circuit's box. -/
structure RMid (w0 : World) (c : CV) (g n b5 b6 : Nat) (ps : List Int) (nx : Int) (wr : World) : Prop where
  own : wr.ownsRow (w0.heap.size + 1) 3 1 (.slice (some ⟨g, 0, none⟩) n n) n (ps.map (Value.int .i64))
  below : Below w0.heap.size w0 wr
  box : Box wr w0.heap.size c
  p5 : wr.heap[b5]? = some (.cells #[.slice (some ⟨g, 0, none⟩) n n] 58 (0, 0))
  p6 : wr.heap[b6]? = some (.cells #[.int .i64 nx] 3 (0, 0))
  g5 : g < b5
  l5 : b5 < b6
  l0 : w0.heap.size < g

theorem RMid.alloc {w0 wr : World} {c : CV} {g n b5 b6 : Nat} {ps : List Int} {nx : Int} (h : RMid w0 c g n b5 b6 ps nx wr) (o : Obj) : RMid w0 c g n b5 b6 ps nx (wr.alloc o) :=
  ⟨h.own.alloc o, belowThen h.below (below_alloc wr o), h.box.alloc o, ((below_alloc wr o).block b5 (lt_of_block h.p5)).trans h.p5, ((below_alloc wr o).block b6 (lt_of_block h.p6)).trans h.p6, h.g5, h.l5, h.l0⟩

theorem RMid.give {w0 wr : World} {c : CV} {g n b5 b6 : Nat} {ps : List Int} {nx : Int} (h : RMid w0 c g n b5 b6 ps nx wr) (i : Nat) (ny : Int) : RMid w0 c g n b5 b6 (ps.set i nx) ny ((wr.setCell ⟨g, i, none⟩ (.int .i64 nx)).setCell ⟨b6, 0, none⟩ (.int .i64 ny)) := by
  obtain ⟨h1, h2⟩ := h.own.stored i (.int .i64 nx)
  have hg5 := h.g5
  have hl5 := h.l5
  have hl0 := h.l0
  have hbx := h.box.lt
  have p6' : (wr.setCell ⟨g, i, none⟩ (.int .i64 nx)).heap[b6]? = some (.cells #[.int .i64 nx] 3 (0, 0)) := (heap_setCell_other wr ⟨g, i, none⟩ b6 _ (by show b6 ≠ g; omega)).trans h.p6
  refine ⟨?_, ?_, ?_, ?_, ?_, hg5, hl5, hl0⟩
  · rw [List.map_set]
    exact ownsRow_setCell_other h1 (a := ⟨b6, 0, none⟩) (by show some g ≠ some b6; intro e; cases e; omega) _
  · exact (h.below.grown h2 h.below.size (fun k hk => by cases hk; omega)).setCell (p := ⟨b6, 0, none⟩) (by show w0.heap.size ≤ b6; omega) _
  · exact (heap_setCell_other _ ⟨b6, 0, none⟩ _ _ (by show w0.heap.size ≠ b6; omega)).trans (h.box.grown h2 (by simp; omega))
  · exact (heap_setCell_other _ ⟨b6, 0, none⟩ b5 _ (by show b5 ≠ b6; omega)).trans ((heap_setCell_other wr ⟨g, i, none⟩ b5 _ (by show b5 ≠ g; omega)).trans h.p5)
  · exact heap_setCell_same _ b6 0 _ _ _ p6'

set_option maxRecDepth 100000 in
set_option maxHeartbeats 1000000 in
theorem give_any (w0 : World) (c : CV) (g n b5 b6 : Nat) (ps : List Int) (nx : Nat) (w : World) (l : Int) (h : RMid w0 c g n b5 b6 ps nx w) (hl0 : 0 ≤ l) (hv : varN l < n) (hn : n ≤ 10000) (hx : nx ≤ 10000) :
    Calls Try.prog 51 #[.int .i64 l, .pointer (some ⟨b6, 0, none⟩), .pointer (some ⟨b5, 0, none⟩)] w fun e w' => e = .returned (.tuple #[]) ∧ RMid w0 c g n b5 b6 (ps.set (varN l) nx) ((nx + 1 : Nat) : Int) w' := by
  have c5 := cell_of_one h.p5
  have c6 := cell_of_one h.p6
  have f6 := free_of_one h.p6
  have hq := tdiv_two hl0
  have hfin := hide (h.give (varN l) ((nx + 1 : Nat) : Int))
  obtain ⟨v, HV⟩ : ∃ v, Hid (v = varN l) := ⟨_, rfl⟩
  rw [← HV.out] at hq hv hfin ⊢
  have hcv := row_at h.own v hv
  have hfv := h.own.frozenAt v
  obtain ⟨y, HY⟩ : ∃ y, Hid (y = atP ps v) := ⟨_, rfl⟩
  rw [← HY.out] at hcv
  have hne : g ≠ b6 := by have := h.g5; have := h.l5; omega
  have hne5 : g ≠ b5 := by have := h.g5; omega
  have c6' : (w.setCell ⟨g, v, none⟩ (.int .i64 (nx : Int))).cell? ⟨b6, 0, none⟩ = some (.int .i64 (nx : Int)) := (cell_set_other (fun e => hne (congrArg Addr.block e))).trans c6
  have f6' : (w.setCell ⟨g, v, none⟩ (.int .i64 (nx : Int))).frozen? ⟨b6, 0, none⟩ = false := by
    rw [World.frozen?_of_block (w := w) (a := ⟨b6, 0, none⟩) (heap_setCell_other w ⟨g, v, none⟩ b6 _ (fun e => hne e.symm))]; exact f6
  clear h
  go_enter Try.func51, Try.ntmps51
  go_wp2
  go_end0
  exact ⟨rfl, by simpa using hfin.out⟩
end Go.Proofs.Ytldodaejfipebaa
