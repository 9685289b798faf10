/-
  THE WALK of the law AigWrong, at a circuit of its list.
-/
import Derived.Test.YtppaifckiaaffaaLawAigWrongO
namespace Go.Proofs.Ytppaifckiaaffaa
open Go.RowKit

/-- The same, and what Normal told, in a box. -/
structure Ln (w0 : World) (B k b7 : Nat) (c d : CV) (C D : Circ) (x : Int) (W : World) : Prop where
  lk : Lk w0 B k c C x W
  box : Box W b7 d
  dh : Holds W d D
theorem Ln.then {w0 W W' : World} {B k b7 : Nat} {c d : CV} {C D : Circ} {x : Int} (h : Ln w0 B k b7 c d C D x W) (hb : Below W.heap.size W W') : Ln w0 B k b7 c d C D x W' := ⟨h.lk.then hb, h.box.below hb, h.dh.below hb⟩
theorem Ln.cells {w0 W : World} {B k b7 : Nat} {c d : CV} {C D : Circ} {x : Int} (h : Ln w0 B k b7 c d C D x W) : W.cell? ⟨B + 25, k * 8, none⟩ = some (.int .i64 c.m) ∧ W.cell? ⟨B + 25, k * 8 + 1, none⟩ = some (.slice c.a1 c.n1 c.c1) ∧ W.cell? ⟨B + 25, k * 8 + 2, none⟩ = some (.slice c.a2 c.n2 c.c2) ∧ W.cell? ⟨B + 25, k * 8 + 3, none⟩ = some (.slice c.a3 c.n3 c.c3) ∧ W.cell? ⟨B + 25, k * 8 + 4, none⟩ = some (.slice c.a4 c.n4 c.c4) ∧ W.cell? ⟨B + 25, k * 8 + 5, none⟩ = some (.slice c.a5 c.n5 c.c5) ∧ W.cell? ⟨B + 25, k * 8 + 6, none⟩ = some (.slice c.a6 c.n6 c.c6) ∧ W.cell? ⟨B + 25, k * 8 + 7, none⟩ = some (.slice c.a7 c.n7 c.c7) ∧ W.cell? ⟨B + 26, k, none⟩ = some (.int .i64 x) ∧ W.cell? ⟨b7, 0, none⟩ = some (.int .i64 d.m) ∧ W.cell? ⟨b7, 1, none⟩ = some (.slice d.a1 d.n1 d.c1) ∧ W.cell? ⟨b7, 2, none⟩ = some (.slice d.a2 d.n2 d.c2) ∧ W.cell? ⟨b7, 3, none⟩ = some (.slice d.a3 d.n3 d.c3) ∧ W.cell? ⟨b7, 4, none⟩ = some (.slice d.a4 d.n4 d.c4) ∧ W.cell? ⟨b7, 5, none⟩ = some (.slice d.a5 d.n5 d.c5) ∧ W.cell? ⟨b7, 6, none⟩ = some (.slice d.a6 d.n6 d.c6) ∧ W.cell? ⟨b7, 7, none⟩ = some (.slice d.a7 d.n7 d.c7) := by
  obtain ⟨x0, x1, x2, x3, x4, x5, x6, x7, x8⟩ := h.lk.cells
  exact ⟨x0, x1, x2, x3, x4, x5, x6, x7, x8, h.box.cells⟩

set_option maxRecDepth 100000 in
set_option maxHeartbeats 8000000 in
theorem aigWrong_in (k : Nat) (w : World) (hk : k < 24) :
    Calls Try.prog 9 #[.int .i64 (k : Int)] w fun e w' => e = .returned (.bool true) ∧ Below w.heap.size w w' := by
  have HAl := hide (fun W => alive_any W)
  have hk0 : (0 : Int) ≤ (k : Int) := by omega
  have hk1 : (k : Int) < 24 := by omega
  go_enter Try.func9, Try.ntmps9
  go_wp2_with fail
  refine (HAl.out _).mono ?_
  rintro e w1 ⟨rfl, hb1⟩
  have HB1 := hide hb1
  have HI := hide (And.intro (wr_check k hk) (And.intro (wr_read w1.heap.size k hk) (And.intro (wr_names k hk) (wr_max w1.heap.size k hk))))
  clear hb1 HAl
  go_wp2_with (first | (refine Great.wpList_buildSliceTo rfl 50 27 24 _ rfl (w1.heap.size + 25) (by simp) (some 89) rfl Try.underlying50 (wrRow w1.heap.size).toArray (by kernel_rfl) ?_) | (refine wpList_buildFlatAt rfl 22 3 24 _ rfl .i64 wrWant (w1.heap.size + 26) (by simp) (some 90) rfl Try.underlying22 (by kernel_rfl) (by kernel_rfl) rfl (by decide) (by decide) (by kernel_rfl) ?_; change wpList _ _ _ _ _ (wrAll w1); have HWr := hide (wr_all w1); generalize wrAll w1 = W at HWr ⊢; have HL := hide (lk_all HWr.out hk); have hx := HL.out.cells; obtain ⟨x0, x1, x2, x3, x4, x5, x6, x7, x8⟩ := hx; generalize wrCV w1.heap.size k = c at HL HI x0 x1 x2 x3 x4 x5 x6 x7; generalize atP wrWant k = ck at HL HI x8; generalize wrC k = C at HL HI))
  have hcv : c.v = .agg #[.int .i64 c.m, .slice c.a1 c.n1 c.c1, .slice c.a2 c.n2 c.c2, .slice c.a3 c.n3 c.c3, .slice c.a4 c.n4 c.c4, .slice c.a5 c.n5 c.c5, .slice c.a6 c.n6 c.c6, .slice c.a7 c.n7 c.c7] := rfl
  have HN := hide (normal_bad c C W HL.out.holds (fits_read HL.out.holds HI.out.2.1 HI.out.2.2.2 HI.out.2.2.1) HI.out.1.2)
  rw [hcv, HI.out.1.1] at HN
  refine HN.out.mono ?_
  rintro e w5 ⟨rfl, hb5⟩
  have hdv : CV.nil.v = .agg #[.int .i64 0, .slice none 0 0, .slice none 0 0, .slice none 0 0, .slice none 0 0, .slice none 0 0, .slice none 0 0, .slice none 0 0] := rfl
  rw [hdv]
  have HT : Hid (Ln w1 w1.heap.size k w5.heap.size c CV.nil C Circ.nil ck (w5.alloc (.cells #[.int .i64 0, .slice none 0 0, .slice none 0 0, .slice none 0 0, .slice none 0 0, .slice none 0 0, .slice none 0 0, .slice none 0 0] 27))) := ⟨(HL.out.then hb5).then (below_alloc _ _), box_new w5 CV.nil, holds_nil _⟩
  obtain ⟨b7, hb7⟩ : ∃ b, b = w5.heap.size := ⟨_, rfl⟩
  rw [← hb7] at HT
  have H1 := hide (fun W (t : Ln w1 w1.heap.size k b7 c CV.nil C Circ.nil ck W) => refSame_any CV.nil CV.nil Circ.nil Circ.nil W t.dh t.dh ⟨by decide, by decide, by decide, by decide, by decide, by decide, by decide⟩ ⟨by decide, by decide, by decide, by decide, by decide, by decide, by decide⟩)
  have H2 := hide (fun W (t : Ln w1 w1.heap.size k b7 c CV.nil C Circ.nil ck W) => check_any c C W t.lk.holds (fits_read t.lk.holds HI.out.2.1 HI.out.2.2.2 HI.out.2.2.1))
  rw [same_self, hdv] at H1
  rw [hcv, HI.out.1.1] at H2
  have hckb : (ck == ck) = true := by simp
  clear x0 x1 x2 x3 x4 x5 x6 x7 x8 HN hb5 HL hcv hdv HWr HI
  go_wp2
  rw [← hb7]
  generalize w5.alloc (.cells #[.int .i64 0, .slice none 0 0, .slice none 0 0, .slice none 0 0, .slice none 0 0, .slice none 0 0, .slice none 0 0, .slice none 0 0] 27) = W5 at HT ⊢
  clear hb7
  obtain ⟨p0, p1, p2, p3, p4, p5, p6, p7, p8, q0, q1, q2, q3, q4, q5, q6, q7⟩ := HT.out.cells
  simp only [CV.nil] at q0 q1 q2 q3 q4 q5 q6 q7
  have TD : Hid (∀ q, Ln w1 w1.heap.size k b7 c CV.nil C Circ.nil ck (W5.drewN q)) := fun q => HT.out.then (Drew.below ⟨q, rfl⟩)
  go_region_held3 (fun w' => w'.cell? ⟨w1.heap.size + 25, k * 8, none⟩ = some (.int .i64 c.m) ∧ w'.cell? ⟨w1.heap.size + 25, k * 8 + 1, none⟩ = some (.slice c.a1 c.n1 c.c1) ∧ w'.cell? ⟨w1.heap.size + 25, k * 8 + 2, none⟩ = some (.slice c.a2 c.n2 c.c2) ∧ w'.cell? ⟨w1.heap.size + 25, k * 8 + 3, none⟩ = some (.slice c.a3 c.n3 c.c3) ∧ w'.cell? ⟨w1.heap.size + 25, k * 8 + 4, none⟩ = some (.slice c.a4 c.n4 c.c4) ∧ w'.cell? ⟨w1.heap.size + 25, k * 8 + 5, none⟩ = some (.slice c.a5 c.n5 c.c5) ∧ w'.cell? ⟨w1.heap.size + 25, k * 8 + 6, none⟩ = some (.slice c.a6 c.n6 c.c6) ∧ w'.cell? ⟨w1.heap.size + 25, k * 8 + 7, none⟩ = some (.slice c.a7 c.n7 c.c7) ∧ w'.cell? ⟨w1.heap.size + 26, k, none⟩ = some (.int .i64 ck) ∧ w'.cell? ⟨b7, 0, none⟩ = some (.int .i64 0) ∧ w'.cell? ⟨b7, 1, none⟩ = some (.slice none 0 0) ∧ w'.cell? ⟨b7, 2, none⟩ = some (.slice none 0 0) ∧ w'.cell? ⟨b7, 3, none⟩ = some (.slice none 0 0) ∧ w'.cell? ⟨b7, 4, none⟩ = some (.slice none 0 0) ∧ w'.cell? ⟨b7, 5, none⟩ = some (.slice none 0 0) ∧ w'.cell? ⟨b7, 6, none⟩ = some (.slice none 0 0) ∧ w'.cell? ⟨b7, 7, none⟩ = some (.slice none 0 0)) (first | exact t7.cells | exact t6.cells | go_keep) (first | (go_at_call 18; refine (H2.out _ (TD.out _)).mono ?_; rintro e w6 ⟨rfl, hb6⟩; have t6 := (TD.out _).then hb6; clear hb6) | (go_at_call 17; refine (num_any _ _).mono ?_; rintro e w' ⟨rfl, hw'⟩; obtain rfl := hw'.symm) | (go_at_call 20; refine (H1.out _ t6).mono ?_; rintro e w7 ⟨rfl, hb7⟩; have t7 := t6.then hb7; clear hb7))
  all_goals go_wp2
  all_goals go_ret
  all_goals exact ⟨rfl, belowThen HB1.out t7.lk.below⟩

theorem aigWrong_any (which : Int) (w : World) (hw0 : -9223372036854775808 ≤ which) (hw1 : which ≤ 9223372036854775807) :
    Calls Try.prog 9 #[.int .i64 which] w fun e w' => e = .returned (.bool true) ∧ Below w.heap.size w w' := by
  by_cases hin : 0 ≤ which ∧ which < 24
  · obtain ⟨k, rfl⟩ : ∃ k : Nat, which = (k : Int) := ⟨which.toNat, by omega⟩
    exact aigWrong_in k w (by omega)
  · exact aigWrong_out which w hw0 hw1 (by omega)
end Go.Proofs.Ytppaifckiaaffaa
