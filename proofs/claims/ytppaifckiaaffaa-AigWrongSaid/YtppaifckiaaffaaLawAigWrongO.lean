/-
  THE WALK of the law AigWrong.
-/
import Derived.Test.YtppaifckiaaffaaWrongP
import Derived.Test.YtppaifckiaaffaaLawAigChecks
namespace Go.Proofs.Ytppaifckiaaffaa
open Go.RowKit

/-- One of them, and what is wanted of it. -/
structure Lk (w0 : World) (B k : Nat) (c : CV) (C : Circ) (x : Int) (W : World) : Prop where
  below : Below w0.heap.size w0 W
  cells : W.cell? ⟨B + 25, k * 8, none⟩ = some (.int .i64 c.m) ∧ W.cell? ⟨B + 25, k * 8 + 1, none⟩ = some (.slice c.a1 c.n1 c.c1) ∧ W.cell? ⟨B + 25, k * 8 + 2, none⟩ = some (.slice c.a2 c.n2 c.c2) ∧ W.cell? ⟨B + 25, k * 8 + 3, none⟩ = some (.slice c.a3 c.n3 c.c3) ∧ W.cell? ⟨B + 25, k * 8 + 4, none⟩ = some (.slice c.a4 c.n4 c.c4) ∧ W.cell? ⟨B + 25, k * 8 + 5, none⟩ = some (.slice c.a5 c.n5 c.c5) ∧ W.cell? ⟨B + 25, k * 8 + 6, none⟩ = some (.slice c.a6 c.n6 c.c6) ∧ W.cell? ⟨B + 25, k * 8 + 7, none⟩ = some (.slice c.a7 c.n7 c.c7) ∧ W.cell? ⟨B + 26, k, none⟩ = some (.int .i64 x)
  holds : Holds W c C
theorem lk_all {w1 W : World} {B k : Nat} (h : Wr w1 B W) (hk : k < 24) : Lk w1 B k (wrCV B k) (wrC k) (atP wrWant k) W :=
  ⟨h.below, ⟨h.cells k 0 _ hk rfl, h.cells k 1 _ hk rfl, h.cells k 2 _ hk rfl, h.cells k 3 _ hk rfl, h.cells k 4 _ hk rfl, h.cells k 5 _ hk rfl, h.cells k 6 _ hk rfl, h.cells k 7 _ hk rfl, h.want k hk⟩, h.holds k hk⟩
theorem Lk.then {w0 W W' : World} {B k : Nat} {c : CV} {C : Circ} {x : Int} (h : Lk w0 B k c C x W) (hb : Below W.heap.size W W') : Lk w0 B k c C x W' := by
  have hc : ∀ p u, W.cell? p = some u → W'.cell? p = some u := fun p u h1 => (hb.cell (block_lt_of_cell h1)).trans h1
  obtain ⟨x0, x1, x2, x3, x4, x5, x6, x7, x8⟩ := h.cells
  exact ⟨belowThen h.below hb, ⟨hc _ _ x0, hc _ _ x1, hc _ _ x2, hc _ _ x3, hc _ _ x4, hc _ _ x5, hc _ _ x6, hc _ _ x7, hc _ _ x8⟩, h.holds.below hb⟩

set_option maxRecDepth 100000 in
set_option maxHeartbeats 8000000 in
theorem aigWrong_out (which : Int) (w : World) (_hw0 : -9223372036854775808 ≤ which) (_hw1 : which ≤ 9223372036854775807) (hout : which < 0 ∨ (0 ≤ which ∧ 24 ≤ which)) :
    Calls Try.prog 9 #[.int .i64 which] w fun e w' => e = .returned (.bool true) ∧ Below w.heap.size w w' := by
  have HAl := hide (fun W => alive_any W)
  go_enter Try.func9, Try.ntmps9
  go_wp2_with fail
  refine (HAl.out _).mono ?_
  rintro e w1 ⟨rfl, hb1⟩
  have HB1 := hide hb1
  clear hb1 HAl
  rcases hout with hn | ⟨hn, hm⟩
  · go_wp2_with (first | (refine Great.wpList_buildSliceTo rfl 50 27 24 _ rfl (w1.heap.size + 25) (by simp) (some 89) rfl Try.underlying50 (wrRow w1.heap.size).toArray (by kernel_rfl) ?_) | (refine wpList_buildFlatAt rfl 22 3 24 _ rfl .i64 wrWant (w1.heap.size + 26) (by simp) (some 90) rfl Try.underlying22 (by kernel_rfl) (by kernel_rfl) rfl (by decide) (by decide) (by kernel_rfl) ?_; change wpList _ _ _ _ _ (wrAll w1); have HWr := hide (wr_all w1).below; generalize wrAll w1 = W at HWr ⊢))
    go_ret
    exact ⟨rfl, belowThen HB1.out HWr.out⟩
  · go_wp2_with (first | (refine Great.wpList_buildSliceTo rfl 50 27 24 _ rfl (w1.heap.size + 25) (by simp) (some 89) rfl Try.underlying50 (wrRow w1.heap.size).toArray (by kernel_rfl) ?_) | (refine wpList_buildFlatAt rfl 22 3 24 _ rfl .i64 wrWant (w1.heap.size + 26) (by simp) (some 90) rfl Try.underlying22 (by kernel_rfl) (by kernel_rfl) rfl (by decide) (by decide) (by kernel_rfl) ?_; change wpList _ _ _ _ _ (wrAll w1); have HWr := hide (wr_all w1).below; generalize wrAll w1 = W at HWr ⊢))
    go_ret
    exact ⟨rfl, belowThen HB1.out HWr.out⟩
end Go.Proofs.Ytppaifckiaaffaa
