/-
  THE WALK of the reference's Copy: a circuit in memory of its own.
-/
import Derived.Test.YtppaifckiaaffaaAigBox
import Derived.Test.YtppaifckiaaffaaAigSameP
import Derived.Test.YtppaifckiaaffaaAigAlive
namespace Go.Proofs.Ytppaifckiaaffaa
open Go.RowKit

structure CopyS (w0 : World) (b : Nat) (c : CV) (W : World) : Prop where
  box : Box W b c
  res : Box W (b + 1) CV.nil
  below : Below w0.heap.size w0 W
  le : w0.heap.size ≤ b

theorem CopyS.step {w0 W w4 : World} {b j : Nat} {c c' : CV} {v : Value} (h : CopyS w0 b c W) (hg : W.grownBy w4 none)
    (hc : ((#[.int .i64 c.m, .slice c.a1 c.n1 c.c1, .slice c.a2 c.n2 c.c2, .slice c.a3 c.n3 c.c3, .slice c.a4 c.n4 c.c4, .slice c.a5 c.n5 c.c5, .slice c.a6 c.n6 c.c6, .slice c.a7 c.n7 c.c7] : Array Value).setIfInBounds j v) = #[.int .i64 c'.m, .slice c'.a1 c'.n1 c'.c1, .slice c'.a2 c'.n2 c'.c2, .slice c'.a3 c'.n3 c'.c3, .slice c'.a4 c'.n4 c'.c4, .slice c'.a5 c'.n5 c'.c5, .slice c'.a6 c'.n6 c'.c6, .slice c'.a7 c'.n7 c'.c7]) : CopyS w0 b c' (w4.setCell ⟨b, j, none⟩ v) := by
  have hb : Below W.heap.size W w4 := (Below.refl _ _).grown hg (Nat.le_refl _) (fun k hk => by cases hk)
  exact ⟨box_eight (h.box.below hb) j v hc, (heap_setCell_other w4 ⟨b, j, none⟩ (b + 1) v (by simp)).trans (h.res.below hb), (belowThen h.below hb).setCell (p := ⟨b, j, none⟩) h.le v, h.le⟩
theorem copy_start (w : World) (c : CV) : CopyS w w.heap.size c ((w.alloc (.cells #[.int .i64 c.m, .slice c.a1 c.n1 c.c1, .slice c.a2 c.n2 c.c2, .slice c.a3 c.n3 c.c3, .slice c.a4 c.n4 c.c4, .slice c.a5 c.n5 c.c5, .slice c.a6 c.n6 c.c6, .slice c.a7 c.n7 c.c7] 27)).alloc (.cells #[.int .i64 0, .slice none 0 0, .slice none 0 0, .slice none 0 0, .slice none 0 0, .slice none 0 0, .slice none 0 0, .slice none 0 0] 27)) := by
  refine ⟨(box_new w c).alloc _, ?_, belowThen (below_alloc w _) (below_alloc _ _), Nat.le_refl _⟩
  have := box_new (w.alloc (.cells #[.int .i64 c.m, .slice c.a1 c.n1 c.c1, .slice c.a2 c.n2 c.c2, .slice c.a3 c.n3 c.c3, .slice c.a4 c.n4 c.c4, .slice c.a5 c.n5 c.c5, .slice c.a6 c.n6 c.c6, .slice c.a7 c.n7 c.c7] 27)) CV.nil
  have e : ∀ o, (w.alloc o).heap.size = w.heap.size + 1 := fun o => by simp
  rw [e] at this
  exact this
theorem ints_one (xs : List Int) : ∀ u ∈ xs.map (Value.int .i64), u.oneCell' = true := one_ints .i64 xs

set_option maxRecDepth 100000 in
set_option maxHeartbeats 4000000 in
theorem copy_any (c : CV) (C : Circ) (w : World) (h : Holds w c C) (rc : Read c) :
    Calls Try.prog 16 #[c.v] w fun e w' => ∃ d : CV, e = .returned d.v ∧ Holds w' d C ∧ Read d ∧ Below w.heap.size w w' := by
  obtain ⟨i0, hi, hz0, hz1, hz2⟩ := info_parts infoInt
  obtain ⟨i2, hi2, hy0, hy1, hy2⟩ := info_parts infoT2
  obtain ⟨i6, hi6, hx0, hx1, hx2⟩ := info_parts infoT6
  obtain ⟨i7, hi7, hv0, hv1, hv2⟩ := info_parts infoT7
  have m1 := rc.n1
  have m2 := rc.n2
  have m3 := rc.n3
  have m4 := rc.n4
  have m5 := rc.n5
  have m6 := rc.n6
  have m7 := rc.n7
  have HRc := hide rc
  have HM := hide h.m
  have HL1 := hide h.l1
  have HE1 : Hid ((C.ins.map (Value.int .i64)).length = c.n1 * 1) := by show (C.ins.map (Value.int .i64)).length = c.n1 * 1; rw [List.length_map, h.l1, Nat.mul_one]
  have HR1 := hide (fun W (hb : Below w.heap.size w W) => rowC_of (h.r1.below hb))
  have HZ1 := hide h.z1
  have HL2 := hide h.l2
  have HE2 : Hid ((cellsT C.lats).length = c.n2 * 3) := by show (cellsT C.lats).length = c.n2 * 3; rw [cellsT_len, h.l2]
  have HR2 := hide (fun W (hb : Below w.heap.size w W) => h.r2.below hb)
  have HZ2 := hide h.z2
  have HL3 := hide h.l3
  have HE3 : Hid ((C.outs.map (Value.int .i64)).length = c.n3 * 1) := by show (C.outs.map (Value.int .i64)).length = c.n3 * 1; rw [List.length_map, h.l3, Nat.mul_one]
  have HR3 := hide (fun W (hb : Below w.heap.size w W) => rowC_of (h.r3.below hb))
  have HZ3 := hide h.z3
  have HL4 := hide h.l4
  have HE4 : Hid ((C.bads.map (Value.int .i64)).length = c.n4 * 1) := by show (C.bads.map (Value.int .i64)).length = c.n4 * 1; rw [List.length_map, h.l4, Nat.mul_one]
  have HR4 := hide (fun W (hb : Below w.heap.size w W) => rowC_of (h.r4.below hb))
  have HZ4 := hide h.z4
  have HL5 := hide h.l5
  have HE5 : Hid ((C.cons.map (Value.int .i64)).length = c.n5 * 1) := by show (C.cons.map (Value.int .i64)).length = c.n5 * 1; rw [List.length_map, h.l5, Nat.mul_one]
  have HR5 := hide (fun W (hb : Below w.heap.size w W) => rowC_of (h.r5.below hb))
  have HZ5 := hide h.z5
  have HL6 := hide h.l6
  have HE6 : Hid ((cellsT C.ands).length = c.n6 * 3) := by show (cellsT C.ands).length = c.n6 * 3; rw [cellsT_len, h.l6]
  have HR6 := hide (fun W (hb : Below w.heap.size w W) => h.r6.below hb)
  have HZ6 := hide h.z6
  have HL7 := hide h.l7
  have HE7 : Hid ((cellsS C.names).length = c.n7 * 3) := by show (cellsS C.names).length = c.n7 * 3; rw [cellsS_len, h.l7]
  have HR7 := hide (fun W (hb : Below w.heap.size w W) => h.r7.below hb)
  have HZ7 := hide h.z7
  have S0 := hide (copy_start w c)
  clear h rc
  unfold CV.v
  go_enter Try.func16, Try.ntmps16
  go_wp2_with (first | (at_builtin; refine wpList_append_rowC _ rfl (.const (.slice none 0 0)) (.tmp 4) 22 rfl (w.heap.size + 2) 3 i0 (.int .i64 0) 1 8 Try.underlying22 hi hz0 hz1 hz2 rfl (by decide) _ 0 [] rfl (World.ownsRow_nil _ _ _ _) c.a1 c.n1 c.c1 (C.ins.map (Value.int .i64)) rfl HE1.out (HR1.out _ S0.out.below) HZ1.out (ints_one _) (by unfold maxLen; omega) (by omega) (by have := S0.out.res.lt; omega) ?_; intro v1 w1 hown1 hg1; rw [List.nil_append, Nat.zero_add] at hown1; obtain ⟨A1, K1, rfl⟩ := own_form hown1; have B1 := S0.out.box.below ((Below.refl _ _).grown hg1 (Nat.le_refl _) (fun k hk => by cases hk)); have F1 := box_frozen B1 1; obtain ⟨p0, p1, p2, p3, p4, p5, p6, p7⟩ := B1.cells; (try dsimp only at p0 p1 p2 p3 p4 p5 p6 p7); clear B1; have S1 := hide (S0.out.step (j := 1) (v := .slice A1 c.n1 K1) (c' := ⟨c.m, A1, c.n1, K1, c.a2, c.n2, c.c2, c.a3, c.n3, c.c3, c.a4, c.n4, c.c4, c.a5, c.n5, c.c5, c.a6, c.n6, c.c6, c.a7, c.n7, c.c7⟩) hg1 rfl); have O1 := hide (ownsRow_setCell_below hown1 (a := ⟨w.heap.size, 1, none⟩) (show w.heap.size < w.heap.size + 2 by omega) (.slice A1 c.n1 K1)); clear hown1 hg1) | (at_builtin; refine wpList_append_rowC _ rfl (.const (.slice none 0 0)) (.tmp 8) 23 rfl (w.heap.size + 2) 43 i2 (.agg #[.int .i64 0, .int .i64 0, .int .i64 0]) 3 24 Try.underlying23 hi2 hy0 hy1 hy2 rfl (by decide) _ 0 [] rfl (World.ownsRow_nil _ _ _ _) c.a2 c.n2 c.c2 (cellsT C.lats) rfl HE2.out (HR2.out _ S1.out.below) HZ2.out (cellsT_one _) (by unfold maxLen; omega) (by omega) (by have := S1.out.res.lt; omega) ?_; intro v2 w2 hown2 hg2; rw [List.nil_append, Nat.zero_add] at hown2; obtain ⟨A2, K2, rfl⟩ := own_form hown2; have B2 := S1.out.box.below ((Below.refl _ _).grown hg2 (Nat.le_refl _) (fun k hk => by cases hk)); have F2 := box_frozen B2 2; obtain ⟨p0, p1, p2, p3, p4, p5, p6, p7⟩ := B2.cells; (try dsimp only at p0 p1 p2 p3 p4 p5 p6 p7); clear B2; have S2 := hide (S1.out.step (j := 2) (v := .slice A2 c.n2 K2) (c' := ⟨c.m, A1, c.n1, K1, A2, c.n2, K2, c.a3, c.n3, c.c3, c.a4, c.n4, c.c4, c.a5, c.n5, c.c5, c.a6, c.n6, c.c6, c.a7, c.n7, c.c7⟩) hg2 rfl); replace O1 := hide (own_carry (j := 2) (u := .slice A2 c.n2 K2) O1.out hg2 (show w.heap.size < w.heap.size + 2 by omega)); have O2 := hide (ownsRow_setCell_below hown2 (a := ⟨w.heap.size, 2, none⟩) (show w.heap.size < w.heap.size + 2 by omega) (.slice A2 c.n2 K2)); clear hown2 hg2) | (at_builtin; refine wpList_append_rowC _ rfl (.const (.slice none 0 0)) (.tmp 12) 22 rfl (w.heap.size + 2) 3 i0 (.int .i64 0) 1 8 Try.underlying22 hi hz0 hz1 hz2 rfl (by decide) _ 0 [] rfl (World.ownsRow_nil _ _ _ _) c.a3 c.n3 c.c3 (C.outs.map (Value.int .i64)) rfl HE3.out (HR3.out _ S2.out.below) HZ3.out (ints_one _) (by unfold maxLen; omega) (by omega) (by have := S2.out.res.lt; omega) ?_; intro v3 w3 hown3 hg3; rw [List.nil_append, Nat.zero_add] at hown3; obtain ⟨A3, K3, rfl⟩ := own_form hown3; have B3 := S2.out.box.below ((Below.refl _ _).grown hg3 (Nat.le_refl _) (fun k hk => by cases hk)); have F3 := box_frozen B3 3; obtain ⟨p0, p1, p2, p3, p4, p5, p6, p7⟩ := B3.cells; (try dsimp only at p0 p1 p2 p3 p4 p5 p6 p7); clear B3; have S3 := hide (S2.out.step (j := 3) (v := .slice A3 c.n3 K3) (c' := ⟨c.m, A1, c.n1, K1, A2, c.n2, K2, A3, c.n3, K3, c.a4, c.n4, c.c4, c.a5, c.n5, c.c5, c.a6, c.n6, c.c6, c.a7, c.n7, c.c7⟩) hg3 rfl); replace O1 := hide (own_carry (j := 3) (u := .slice A3 c.n3 K3) O1.out hg3 (show w.heap.size < w.heap.size + 2 by omega)); replace O2 := hide (own_carry (j := 3) (u := .slice A3 c.n3 K3) O2.out hg3 (show w.heap.size < w.heap.size + 2 by omega)); have O3 := hide (ownsRow_setCell_below hown3 (a := ⟨w.heap.size, 3, none⟩) (show w.heap.size < w.heap.size + 2 by omega) (.slice A3 c.n3 K3)); clear hown3 hg3) | (at_builtin; refine wpList_append_rowC _ rfl (.const (.slice none 0 0)) (.tmp 16) 22 rfl (w.heap.size + 2) 3 i0 (.int .i64 0) 1 8 Try.underlying22 hi hz0 hz1 hz2 rfl (by decide) _ 0 [] rfl (World.ownsRow_nil _ _ _ _) c.a4 c.n4 c.c4 (C.bads.map (Value.int .i64)) rfl HE4.out (HR4.out _ S3.out.below) HZ4.out (ints_one _) (by unfold maxLen; omega) (by omega) (by have := S3.out.res.lt; omega) ?_; intro v4 w4 hown4 hg4; rw [List.nil_append, Nat.zero_add] at hown4; obtain ⟨A4, K4, rfl⟩ := own_form hown4; have B4 := S3.out.box.below ((Below.refl _ _).grown hg4 (Nat.le_refl _) (fun k hk => by cases hk)); have F4 := box_frozen B4 4; obtain ⟨p0, p1, p2, p3, p4, p5, p6, p7⟩ := B4.cells; (try dsimp only at p0 p1 p2 p3 p4 p5 p6 p7); clear B4; have S4 := hide (S3.out.step (j := 4) (v := .slice A4 c.n4 K4) (c' := ⟨c.m, A1, c.n1, K1, A2, c.n2, K2, A3, c.n3, K3, A4, c.n4, K4, c.a5, c.n5, c.c5, c.a6, c.n6, c.c6, c.a7, c.n7, c.c7⟩) hg4 rfl); replace O1 := hide (own_carry (j := 4) (u := .slice A4 c.n4 K4) O1.out hg4 (show w.heap.size < w.heap.size + 2 by omega)); replace O2 := hide (own_carry (j := 4) (u := .slice A4 c.n4 K4) O2.out hg4 (show w.heap.size < w.heap.size + 2 by omega)); replace O3 := hide (own_carry (j := 4) (u := .slice A4 c.n4 K4) O3.out hg4 (show w.heap.size < w.heap.size + 2 by omega)); have O4 := hide (ownsRow_setCell_below hown4 (a := ⟨w.heap.size, 4, none⟩) (show w.heap.size < w.heap.size + 2 by omega) (.slice A4 c.n4 K4)); clear hown4 hg4) | (at_builtin; refine wpList_append_rowC _ rfl (.const (.slice none 0 0)) (.tmp 20) 22 rfl (w.heap.size + 2) 3 i0 (.int .i64 0) 1 8 Try.underlying22 hi hz0 hz1 hz2 rfl (by decide) _ 0 [] rfl (World.ownsRow_nil _ _ _ _) c.a5 c.n5 c.c5 (C.cons.map (Value.int .i64)) rfl HE5.out (HR5.out _ S4.out.below) HZ5.out (ints_one _) (by unfold maxLen; omega) (by omega) (by have := S4.out.res.lt; omega) ?_; intro v5 w5 hown5 hg5; rw [List.nil_append, Nat.zero_add] at hown5; obtain ⟨A5, K5, rfl⟩ := own_form hown5; have B5 := S4.out.box.below ((Below.refl _ _).grown hg5 (Nat.le_refl _) (fun k hk => by cases hk)); have F5 := box_frozen B5 5; obtain ⟨p0, p1, p2, p3, p4, p5, p6, p7⟩ := B5.cells; (try dsimp only at p0 p1 p2 p3 p4 p5 p6 p7); clear B5; have S5 := hide (S4.out.step (j := 5) (v := .slice A5 c.n5 K5) (c' := ⟨c.m, A1, c.n1, K1, A2, c.n2, K2, A3, c.n3, K3, A4, c.n4, K4, A5, c.n5, K5, c.a6, c.n6, c.c6, c.a7, c.n7, c.c7⟩) hg5 rfl); replace O1 := hide (own_carry (j := 5) (u := .slice A5 c.n5 K5) O1.out hg5 (show w.heap.size < w.heap.size + 2 by omega)); replace O2 := hide (own_carry (j := 5) (u := .slice A5 c.n5 K5) O2.out hg5 (show w.heap.size < w.heap.size + 2 by omega)); replace O3 := hide (own_carry (j := 5) (u := .slice A5 c.n5 K5) O3.out hg5 (show w.heap.size < w.heap.size + 2 by omega)); replace O4 := hide (own_carry (j := 5) (u := .slice A5 c.n5 K5) O4.out hg5 (show w.heap.size < w.heap.size + 2 by omega)); have O5 := hide (ownsRow_setCell_below hown5 (a := ⟨w.heap.size, 5, none⟩) (show w.heap.size < w.heap.size + 2 by omega) (.slice A5 c.n5 K5)); clear hown5 hg5) | (at_builtin; refine wpList_append_rowC _ rfl (.const (.slice none 0 0)) (.tmp 24) 24 rfl (w.heap.size + 2) 46 i6 (.agg #[.int .i64 0, .int .i64 0, .int .i64 0]) 3 24 Try.underlying24 hi6 hx0 hx1 hx2 rfl (by decide) _ 0 [] rfl (World.ownsRow_nil _ _ _ _) c.a6 c.n6 c.c6 (cellsT C.ands) rfl HE6.out (HR6.out _ S5.out.below) HZ6.out (cellsT_one _) (by unfold maxLen; omega) (by omega) (by have := S5.out.res.lt; omega) ?_; intro v6 w6 hown6 hg6; rw [List.nil_append, Nat.zero_add] at hown6; obtain ⟨A6, K6, rfl⟩ := own_form hown6; have B6 := S5.out.box.below ((Below.refl _ _).grown hg6 (Nat.le_refl _) (fun k hk => by cases hk)); have F6 := box_frozen B6 6; obtain ⟨p0, p1, p2, p3, p4, p5, p6, p7⟩ := B6.cells; (try dsimp only at p0 p1 p2 p3 p4 p5 p6 p7); clear B6; have S6 := hide (S5.out.step (j := 6) (v := .slice A6 c.n6 K6) (c' := ⟨c.m, A1, c.n1, K1, A2, c.n2, K2, A3, c.n3, K3, A4, c.n4, K4, A5, c.n5, K5, A6, c.n6, K6, c.a7, c.n7, c.c7⟩) hg6 rfl); replace O1 := hide (own_carry (j := 6) (u := .slice A6 c.n6 K6) O1.out hg6 (show w.heap.size < w.heap.size + 2 by omega)); replace O2 := hide (own_carry (j := 6) (u := .slice A6 c.n6 K6) O2.out hg6 (show w.heap.size < w.heap.size + 2 by omega)); replace O3 := hide (own_carry (j := 6) (u := .slice A6 c.n6 K6) O3.out hg6 (show w.heap.size < w.heap.size + 2 by omega)); replace O4 := hide (own_carry (j := 6) (u := .slice A6 c.n6 K6) O4.out hg6 (show w.heap.size < w.heap.size + 2 by omega)); replace O5 := hide (own_carry (j := 6) (u := .slice A6 c.n6 K6) O5.out hg6 (show w.heap.size < w.heap.size + 2 by omega)); have O6 := hide (ownsRow_setCell_below hown6 (a := ⟨w.heap.size, 6, none⟩) (show w.heap.size < w.heap.size + 2 by omega) (.slice A6 c.n6 K6)); clear hown6 hg6) | (at_builtin; refine wpList_append_rowC _ rfl (.const (.slice none 0 0)) (.tmp 28) 25 rfl (w.heap.size + 2) 49 i7 (.agg #[.int .u8 0, .int .i64 0, .string ⟨#[]⟩]) 3 32 Try.underlying25 hi7 hv0 hv1 hv2 rfl (by decide) _ 0 [] rfl (World.ownsRow_nil _ _ _ _) c.a7 c.n7 c.c7 (cellsS C.names) rfl HE7.out (HR7.out _ S6.out.below) HZ7.out (cellsS_one _) (by unfold maxLen; omega) (by omega) (by have := S6.out.res.lt; omega) ?_; intro v7 w7 hown7 hg7; rw [List.nil_append, Nat.zero_add] at hown7; obtain ⟨A7, K7, rfl⟩ := own_form hown7; have B7 := S6.out.box.below ((Below.refl _ _).grown hg7 (Nat.le_refl _) (fun k hk => by cases hk)); have F7 := box_frozen B7 7; obtain ⟨p0, p1, p2, p3, p4, p5, p6, p7⟩ := B7.cells; (try dsimp only at p0 p1 p2 p3 p4 p5 p6 p7); clear B7; have S7 := hide (S6.out.step (j := 7) (v := .slice A7 c.n7 K7) (c' := ⟨c.m, A1, c.n1, K1, A2, c.n2, K2, A3, c.n3, K3, A4, c.n4, K4, A5, c.n5, K5, A6, c.n6, K6, A7, c.n7, K7⟩) hg7 rfl); replace O1 := hide (own_carry (j := 7) (u := .slice A7 c.n7 K7) O1.out hg7 (show w.heap.size < w.heap.size + 2 by omega)); replace O2 := hide (own_carry (j := 7) (u := .slice A7 c.n7 K7) O2.out hg7 (show w.heap.size < w.heap.size + 2 by omega)); replace O3 := hide (own_carry (j := 7) (u := .slice A7 c.n7 K7) O3.out hg7 (show w.heap.size < w.heap.size + 2 by omega)); replace O4 := hide (own_carry (j := 7) (u := .slice A7 c.n7 K7) O4.out hg7 (show w.heap.size < w.heap.size + 2 by omega)); replace O5 := hide (own_carry (j := 7) (u := .slice A7 c.n7 K7) O5.out hg7 (show w.heap.size < w.heap.size + 2 by omega)); replace O6 := hide (own_carry (j := 7) (u := .slice A7 c.n7 K7) O6.out hg7 (show w.heap.size < w.heap.size + 2 by omega)); have O7 := hide (ownsRow_setCell_below hown7 (a := ⟨w.heap.size, 7, none⟩) (show w.heap.size < w.heap.size + 2 by omega) (.slice A7 c.n7 K7)); clear hown7 hg7; obtain ⟨q0, q1, q2, q3, q4, q5, q6, q7⟩ := S7.out.res.cells; have f0 := box_frozen S7.out.res 0; have f1 := box_frozen S7.out.res 1; have f2 := box_frozen S7.out.res 2; have f3 := box_frozen S7.out.res 3; have f4 := box_frozen S7.out.res 4; have f5 := box_frozen S7.out.res 5; have f6 := box_frozen S7.out.res 6; have f7 := box_frozen S7.out.res 7) | fail)
  have hb := hide (box_put ⟨c.m, A1, c.n1, K1, A2, c.n2, K2, A3, c.n3, K3, A4, c.n4, K4, A5, c.n5, K5, A6, c.n6, K6, A7, c.n7, K7⟩ S7.out.res)
  have ht := hide (two_put (w7.setCell ⟨w.heap.size, 7, none⟩ (.slice A7 c.n7 K7)) (w.heap.size + 1) ⟨c.m, A1, c.n1, K1, A2, c.n2, K2, A3, c.n3, K3, A4, c.n4, K4, A5, c.n5, K5, A6, c.n6, K6, A7, c.n7, K7⟩)
  have hbel : Hid (Below w.heap.size w (putBox (w7.setCell ⟨w.heap.size, 7, none⟩ (.slice A7 c.n7 K7)) (w.heap.size + 1) ⟨c.m, A1, c.n1, K1, A2, c.n2, K2, A3, c.n3, K3, A4, c.n4, K4, A5, c.n5, K5, A6, c.n6, K6, A7, c.n7, K7⟩)) := ht.out.below S7.out.below (Nat.le_refl _) (Nat.le_succ _) (Nat.le_succ _)
  clear p0 p1 p2 p3 p4 p5 p6 p7 q0 q1 q2 q3 q4 q5 q6 q7 f0 f1 f2 f3 f4 f5 f6 f7
  show bodyPost _ _ _ _ _ (putBox (w7.setCell ⟨w.heap.size, 7, none⟩ (.slice A7 c.n7 K7)) (w.heap.size + 1) ⟨c.m, A1, c.n1, K1, A2, c.n2, K2, A3, c.n3, K3, A4, c.n4, K4, A5, c.n5, K5, A6, c.n6, K6, A7, c.n7, K7⟩)
  have R1 := hide (rowC_own' (own_two O1.out ht.out (Nat.lt_succ_self _) (Nat.lt_succ_self _)))
  have R2 := hide (rowC_own' (own_two O2.out ht.out (Nat.lt_succ_self _) (Nat.lt_succ_self _)))
  have R3 := hide (rowC_own' (own_two O3.out ht.out (Nat.lt_succ_self _) (Nat.lt_succ_self _)))
  have R4 := hide (rowC_own' (own_two O4.out ht.out (Nat.lt_succ_self _) (Nat.lt_succ_self _)))
  have R5 := hide (rowC_own' (own_two O5.out ht.out (Nat.lt_succ_self _) (Nat.lt_succ_self _)))
  have R6 := hide (rowC_own' (own_two O6.out ht.out (Nat.lt_succ_self _) (Nat.lt_succ_self _)))
  have R7 := hide (rowC_own' (own_two O7.out ht.out (Nat.lt_succ_self _) (Nat.lt_succ_self _)))
  generalize putBox (w7.setCell ⟨w.heap.size, 7, none⟩ (.slice A7 c.n7 K7)) (w.heap.size + 1) ⟨c.m, A1, c.n1, K1, A2, c.n2, K2, A3, c.n3, K3, A4, c.n4, K4, A5, c.n5, K5, A6, c.n6, K6, A7, c.n7, K7⟩ = Wf at *
  obtain ⟨r0, r1, r2, r3, r4, r5, r6, r7⟩ := hb.out.cells
  dsimp only at r0 r1 r2 r3 r4 r5 r6 r7
  refine bodyPost_ret (v := .agg #[.int .i64 c.m, .slice A1 c.n1 K1, .slice A2 c.n2 K2, .slice A3 c.n3 K3, .slice A4 c.n4 K4, .slice A5 c.n5 K5, .slice A6 c.n6 K6, .slice A7 c.n7 K7]) (by simp [results, Try.results16, go_sem, *]) rfl ?_
  refine ⟨⟨c.m, A1, c.n1, K1, A2, c.n2, K2, A3, c.n3, K3, A4, c.n4, K4, A5, c.n5, K5, A6, c.n6, K6, A7, c.n7, K7⟩, rfl, ⟨HM.out, rowK_of_C R1.out.1, HL1.out, R1.out.2, R2.out.1, HL2.out, R2.out.2, rowK_of_C R3.out.1, HL3.out, R3.out.2, rowK_of_C R4.out.1, HL4.out, R4.out.2, rowK_of_C R5.out.1, HL5.out, R5.out.2, R6.out.1, HL6.out, R6.out.2, R7.out.1, HL7.out, R7.out.2⟩, ⟨m1, m2, m3, m4, m5, m6, m7⟩, hbel.out⟩
end Go.Proofs.Ytppaifckiaaffaa
