/-
  THE WALK of the reference's Copy: a circuit in memory of its own.
-/
import Derived.Test.YtmbbcghhdjpgeaaAigBox
import Derived.Test.YtmbbcghhdjpgeaaAigSameP
import Derived.Test.YtmbbcghhdjpgeaaAigAlive
namespace Go.Proofs.Ytmbbcghhdjpgeaa
open Go.RowKit

structure CopyS (w0 : World) (b : Nat) (c : CV) (W : World) : Prop where
  box : Box W b c
  res : Box W (b + 1) CV.nil
  below : Below w0.heap.size w0 W
  le : w0.heap.size ≤ b

theorem CopyS.step {w0 W w4 : World} {b j : Nat} {c c' : CV} {v : Value} (h : CopyS w0 b c W) (hg : W.grownBy w4 none)
    (hc : ((#[.int .i64 c.m, .slice c.a1 c.n1 c.c1, .slice c.a2 c.n2 c.c2, .slice c.a3 c.n3 c.c3, .slice c.a4 c.n4 c.c4, .slice c.a5 c.n5 c.c5, .slice c.a6 c.n6 c.c6, .slice c.a7 c.n7 c.c7] : Array Value).setIfInBounds j v) = #[.int .i64 c'.m, .slice c'.a1 c'.n1 c'.c1, .slice c'.a2 c'.n2 c'.c2, .slice c'.a3 c'.n3 c'.c3, .slice c'.a4 c'.n4 c'.c4, .slice c'.a5 c'.n5 c'.c5, .slice c'.a6 c'.n6 c'.c6, .slice c'.a7 c'.n7 c'.c7]) : CopyS w0 b c' (w4.setCell ⟨b, j, none⟩ v) := by
  have hb : Below W.heap.size W w4 := (Below.refl _ _).grown hg (Nat.le_refl _) (fun k hk => by cases hk)
  exact ⟨box_eight (h.box.below hb) j v hc, (heap_setCell_other w4 ⟨b, j, none⟩ (b + 1) v (by simp)).trans (h.res.below hb), (belowThen h.below hb).setCell (p := ⟨b, j, none⟩) h.le v, h.le⟩
theorem copy_start (w : World) (c : CV) : CopyS w w.heap.size c ((w.alloc (.cells #[.int .i64 c.m, .slice c.a1 c.n1 c.c1, .slice c.a2 c.n2 c.c2, .slice c.a3 c.n3 c.c3, .slice c.a4 c.n4 c.c4, .slice c.a5 c.n5 c.c5, .slice c.a6 c.n6 c.c6, .slice c.a7 c.n7 c.c7] 27)).alloc (.cells #[.int .i64 0, .slice none 0 0, .slice none 0 0, .slice none 0 0, .slice none 0 0, .slice none 0 0, .slice none 0 0, .slice none 0 0] 27)) := by
  refine ⟨(box_new w c).alloc _, ?_, belowThen (below_alloc w _) (below_alloc _ _), Nat.le_refl _⟩
  have := box_new (w.alloc (.cells #[.int .i64 c.m, .slice c.a1 c.n1 c.c1, .slice c.a2 c.n2 c.c2, .slice c.a3 c.n3 c.c3, .slice c.a4 c.n4 c.c4, .slice c.a5 c.n5 c.c5, .slice c.a6 c.n6 c.c6, .slice c.a7 c.n7 c.c7] 27)) CV.nil
  have e : ∀ o, (w.alloc o).heap.size = w.heap.size + 1 := fun o => by simp
  rw [e] at this
  exact this
theorem ints_one (xs : List Int) : ∀ u ∈ xs.map (Value.int .i64), u.oneCell' = true := one_ints .i64 xs

end Go.Proofs.Ytmbbcghhdjpgeaa
