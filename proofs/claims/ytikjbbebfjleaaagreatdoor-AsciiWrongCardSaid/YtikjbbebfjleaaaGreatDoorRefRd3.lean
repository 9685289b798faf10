/-
  THE WALK of the reference's end.
-/
import Derived.Test.YtikjbbebfjleaaaGreatDoorRefRd2
namespace Go.Proofs.YtikjbbebfjleaaaGreatDoor
open Go.RowKit

/-- WHAT end TELLS of a circuit d that holds CC where the reader has not failed. -/
def endE (CC : Circ) (st : Option Nat) : Int := if st.isSome = true then toldI CC.checkI else 2
theorem told_cases (e : Int) : (toldI e = 0 ∧ e = 0) ∨ (toldI e = e ∧ e = 9) ∨ (toldI e = e ∧ e = 10) ∨ (toldI e = e ∧ e = 8) ∨ (toldI e = 2 ∧ e ≠ 0 ∧ e ≠ 9 ∧ e ≠ 10 ∧ e ≠ 8) := by
  unfold toldI
  by_cases h : e = 0 ∨ e = 8 ∨ e = 9 ∨ e = 10
  · rw [if_pos h]; omega
  · rw [if_neg h]; omega
/-- A reader's cell, when a circuit's box is written anew. -/
theorem put_far {W : World} {b q j : Nat} {u : Value} (d : CV) (hne : q ≠ b) (h : W.cell? ⟨q, j, none⟩ = some u) : (putBox W b d).cell? ⟨q, j, none⟩ = some u := two_cell (two_put W b d) h hne hne

theorem drew_cell (w : World) (x : Addr) : w.drew.cell? x = w.cell? x := rfl
theorem Box.drew {W : World} {b : Nat} {d : CV} (h : Box W b d) : Box W.drew b d := h
theorem nil_far {W : World} {b q j : Nat} {u : Value} (hne : q ≠ b) (h : W.cell? ⟨q, j, none⟩ = some u) : ((((((((W.setCell ⟨b, 0, none⟩ (.int .i64 0)).setCell ⟨b, 1, none⟩ (.slice none 0 0)).setCell ⟨b, 2, none⟩ (.slice none 0 0)).setCell ⟨b, 3, none⟩ (.slice none 0 0)).setCell ⟨b, 4, none⟩ (.slice none 0 0)).setCell ⟨b, 5, none⟩ (.slice none 0 0)).setCell ⟨b, 6, none⟩ (.slice none 0 0)).setCell ⟨b, 7, none⟩ (.slice none 0 0)).drew.cell? ⟨q, j, none⟩ = some u := by
  rw [drew_cell]
  have := put_far (W := W) (b := b) cvN hne h
  unfold putBox at this
  simp only [cvN] at this
  exact this

set_option maxRecDepth 100000 in
set_option maxHeartbeats 4000000 in
theorem refEnd_any (p : Nat) (a : Option Addr) (n c : Nat) (xs : List Int) (top : Int) (st : Option Nat) (w : World) (h : RdR p a n c xs top st w) (d : CV) (CC : Circ) (hd : st.isSome = true → Holds w d CC) (hs : st.isSome = true → SmallC CC) (hmx : CC.max ≤ 100000) :
    Calls Tryz.prog 43 #[.pointer (some ⟨p, 0, none⟩), d.v] w fun e w' => ∃ d' : CV, e = .returned (.tuple #[d'.v, .int .i64 (endE CC st)]) ∧ (endE CC st = 0 → d' = d) ∧ (endE CC st ≠ 0 → d' = cvN) ∧ Below w.heap.size w w' := by
  obtain ⟨k, hk, c0, c1, c2, c3⟩ := h.cells
  have hpl := h.lt
  have hW0 : Box ((w.alloc (.cells #[.int .i64 d.m, .slice d.a1 d.n1 d.c1, .slice d.a2 d.n2 d.c2, .slice d.a3 d.n3 d.c3, .slice d.a4 d.n4 d.c4, .slice d.a5 d.n5 d.c5, .slice d.a6 d.n6 d.c6, .slice d.a7 d.n7 d.c7] 29)).alloc (.cells #[.int .i64 0, .slice none 0 0, .slice none 0 0, .slice none 0 0, .slice none 0 0, .slice none 0 0, .slice none 0 0, .slice none 0 0] 29)) w.heap.size d ∧ Box ((w.alloc (.cells #[.int .i64 d.m, .slice d.a1 d.n1 d.c1, .slice d.a2 d.n2 d.c2, .slice d.a3 d.n3 d.c3, .slice d.a4 d.n4 d.c4, .slice d.a5 d.n5 d.c5, .slice d.a6 d.n6 d.c6, .slice d.a7 d.n7 d.c7] 29)).alloc (.cells #[.int .i64 0, .slice none 0 0, .slice none 0 0, .slice none 0 0, .slice none 0 0, .slice none 0 0, .slice none 0 0, .slice none 0 0] 29)) (w.heap.size + 1) cvN ∧ Below w.heap.size w ((w.alloc (.cells #[.int .i64 d.m, .slice d.a1 d.n1 d.c1, .slice d.a2 d.n2 d.c2, .slice d.a3 d.n3 d.c3, .slice d.a4 d.n4 d.c4, .slice d.a5 d.n5 d.c5, .slice d.a6 d.n6 d.c6, .slice d.a7 d.n7 d.c7] 29)).alloc (.cells #[.int .i64 0, .slice none 0 0, .slice none 0 0, .slice none 0 0, .slice none 0 0, .slice none 0 0, .slice none 0 0, .slice none 0 0] 29)) := by
    have s1 : (w.alloc (.cells #[.int .i64 d.m, .slice d.a1 d.n1 d.c1, .slice d.a2 d.n2 d.c2, .slice d.a3 d.n3 d.c3, .slice d.a4 d.n4 d.c4, .slice d.a5 d.n5 d.c5, .slice d.a6 d.n6 d.c6, .slice d.a7 d.n7 d.c7] 29)).heap.size = w.heap.size + 1 := by simp
    have b2 := boxN (w.alloc (.cells #[.int .i64 d.m, .slice d.a1 d.n1 d.c1, .slice d.a2 d.n2 d.c2, .slice d.a3 d.n3 d.c3, .slice d.a4 d.n4 d.c4, .slice d.a5 d.n5 d.c5, .slice d.a6 d.n6 d.c6, .slice d.a7 d.n7 d.c7] 29))
    rw [s1] at b2
    exact ⟨(box_new w d).alloc _, b2, belowThen (below_alloc w _) (below_alloc _ _)⟩
  obtain ⟨hbd, hbz, hbl⟩ := hW0
  have BD := hide hbd
  have BX := hide hbz
  have BL := hide hbl
  have e3 := (hbl.cell (block_lt_of_cell c3)).trans c3
  clear c0 c1 c2 hk hbd hbz hbl
  cases st with
  | none =>
    unfold endE
    rw [if_neg (by decide)]
    rw [show errR none = 2 from rfl] at c3 e3
    clear h hd hs hmx
    unfold CV.v
    go_enter Tryz.func43, Tryz.ntmps43
    go_upto_region 2 with fail
    generalize (w.alloc (.cells #[.int .i64 d.m, .slice d.a1 d.n1 d.c1, .slice d.a2 d.n2 d.c2, .slice d.a3 d.n3 d.c3, .slice d.a4 d.n4 d.c4, .slice d.a5 d.n5 d.c5, .slice d.a6 d.n6 d.c6, .slice d.a7 d.n7 d.c7] 29)).alloc (.cells #[.int .i64 0, .slice none 0 0, .slice none 0 0, .slice none 0 0, .slice none 0 0, .slice none 0 0, .slice none 0 0, .slice none 0 0] 29) = W0 at *
    have e3d : W0.drew.cell? ⟨p, 3, none⟩ = some (.int .i64 2) := e3
    have hne : p ≠ w.heap.size + 1 := by omega
    obtain ⟨z0, z1, z2, z3, z4, z5, z6, z7⟩ := BX.out.cells
    simp only [cvN] at z0 z1 z2 z3 z4 z5 z6 z7
    have f0 := box_frozen BX.out 0
    have f1 := box_frozen BX.out 1
    have f2 := box_frozen BX.out 2
    have f3 := box_frozen BX.out 3
    have f4 := box_frozen BX.out 4
    have f5 := box_frozen BX.out 5
    have f6 := box_frozen BX.out 6
    have f7 := box_frozen BX.out 7
    go_region_held3 (fun w' => w'.cell? ⟨p, 3, none⟩ = some (.int .i64 2)) (first | with_reducible exact e3d | with_reducible exact nil_far hne e3) (fail)
    all_goals go_wp2
    have hb := hide (box_put cvN BX.out).drew
    have hbel := hide (below_drew ((two_put W0 (w.heap.size + 1) cvN).below BL.out (Nat.le_refl _) (Nat.le_succ _) (Nat.le_succ _)))
    clear z0 z1 z2 z3 z4 z5 z6 z7 f0 f1 f2 f3 f4 f5 f6 f7 e3 e3d c3
    show bodyPost _ _ _ _ _ (putBox W0 (w.heap.size + 1) cvN).drew
    generalize (putBox W0 (w.heap.size + 1) cvN).drew = Wf at *
    obtain ⟨r0, r1, r2, r3, r4, r5, r6, r7⟩ := hb.out.cells
    simp only [cvN] at r0 r1 r2 r3 r4 r5 r6 r7
    refine bodyPost_ret (v := .tuple #[.agg #[.int .i64 0, .slice none 0 0, .slice none 0 0, .slice none 0 0, .slice none 0 0, .slice none 0 0, .slice none 0 0, .slice none 0 0], .int .i64 2]) (by simp [results, Tryz.results43, go_sem, *]) rfl ?_
    exact ⟨cvN, rfl, fun e => absurd e (by decide), fun _ => rfl, hbel.out⟩
  | some j =>
    unfold endE
    rw [if_pos (show (some j).isSome = true from rfl)]
    rw [show errR (some j) = 0 from rfl] at c3 e3
    have hdd := hd rfl
    obtain ⟨hfi, hrd⟩ := small_fits hdd (hs rfl)
    have hCk := hide (refCheck_any d CC _ (hdd.below BL.out) ⟨hfi.m, by rw [hdd.m]; omega⟩ hfi.n1 hfi.n2 hfi.n3 hfi.n4 hfi.n5 (by have := hrd.n6; omega) (by have := hrd.n7; omega) hfi.names)
    have htc := told_cases CC.checkI
    generalize CC.checkI = ck at *
    clear h hd hs hmx hdd hfi hrd
    unfold CV.v at hCk ⊢
    generalize hWe : (w.alloc (.cells #[.int .i64 d.m, .slice d.a1 d.n1 d.c1, .slice d.a2 d.n2 d.c2, .slice d.a3 d.n3 d.c3, .slice d.a4 d.n4 d.c4, .slice d.a5 d.n5 d.c5, .slice d.a6 d.n6 d.c6, .slice d.a7 d.n7 d.c7] 29)).alloc (.cells #[.int .i64 0, .slice none 0 0, .slice none 0 0, .slice none 0 0, .slice none 0 0, .slice none 0 0, .slice none 0 0, .slice none 0 0] 29) = W0 at *
    obtain ⟨y0, y1, y2, y3, y4, y5, y6, y7⟩ := BD.out.cells
    rcases htc with ⟨ht, rfl⟩ | ⟨ht, rfl⟩ | ⟨ht, rfl⟩ | ⟨ht, rfl⟩ | ⟨ht, h0, h9, h10, h8⟩
    · rw [ht]
      go_enter Tryz.func43, Tryz.ntmps43
      go_upto_region 3 with fail
      (try rw [hWe])
      clear hWe
      go_wp2_with (first | (go_at_call 30; refine hCk.out.mono ?_; rintro e w5 ⟨rfl, hb5⟩; have BL5 := hide (belowThen BL.out hb5); have BX5 := hide (BX.out.below hb5); have BD5 := hide (BD.out.below hb5); clear hb5; obtain ⟨z0, z1, z2, z3, z4, z5, z6, z7⟩ := BX5.out.cells; simp only [cvN] at z0 z1 z2 z3 z4 z5 z6 z7; obtain ⟨x0, x1, x2, x3, x4, x5, x6, x7⟩ := BD5.out.cells; have f0 := box_frozen BX5.out 0; have f1 := box_frozen BX5.out 1; have f2 := box_frozen BX5.out 2; have f3 := box_frozen BX5.out 3; have f4 := box_frozen BX5.out 4; have f5 := box_frozen BX5.out 5; have f6 := box_frozen BX5.out 6; have f7 := box_frozen BX5.out 7))
      replace BX := BX5
      replace BL := BL5
      have hb := hide (box_put d BX.out)
      have hbel : Hid (Below w.heap.size w (putBox w5 (w.heap.size + 1) d)) := (two_put w5 (w.heap.size + 1) d).below BL.out (Nat.le_refl _) (Nat.le_succ _) (Nat.le_succ _)
      clear z0 z1 z2 z3 z4 z5 z6 z7 f0 f1 f2 f3 f4 f5 f6 f7 e3 c3 x0 x1 x2 x3 x4 x5 x6 x7 y0 y1 y2 y3 y4 y5 y6 y7
      show bodyPost _ _ _ _ _ (putBox w5 (w.heap.size + 1) d)
      generalize putBox w5 (w.heap.size + 1) d = Wf at *
      obtain ⟨r0, r1, r2, r3, r4, r5, r6, r7⟩ := hb.out.cells
      refine bodyPost_ret (v := .tuple #[.agg #[.int .i64 d.m, .slice d.a1 d.n1 d.c1, .slice d.a2 d.n2 d.c2, .slice d.a3 d.n3 d.c3, .slice d.a4 d.n4 d.c4, .slice d.a5 d.n5 d.c5, .slice d.a6 d.n6 d.c6, .slice d.a7 d.n7 d.c7], .int .i64 0]) (by simp [results, Tryz.results43, go_sem, *]) rfl ?_
      exact ⟨d, rfl, fun _ => rfl, fun e => absurd rfl e, hbel.out⟩
    · rw [ht]
      go_enter Tryz.func43, Tryz.ntmps43
      go_upto_region 3 with fail
      (try rw [hWe])
      clear hWe
      go_wp2_with (first | (go_at_call 30; refine hCk.out.mono ?_; rintro e w5 ⟨rfl, hb5⟩; have BL5 := hide (belowThen BL.out hb5); have BX5 := hide (BX.out.below hb5); have BD5 := hide (BD.out.below hb5); clear hb5; obtain ⟨z0, z1, z2, z3, z4, z5, z6, z7⟩ := BX5.out.cells; simp only [cvN] at z0 z1 z2 z3 z4 z5 z6 z7; obtain ⟨x0, x1, x2, x3, x4, x5, x6, x7⟩ := BD5.out.cells; have f0 := box_frozen BX5.out 0; have f1 := box_frozen BX5.out 1; have f2 := box_frozen BX5.out 2; have f3 := box_frozen BX5.out 3; have f4 := box_frozen BX5.out 4; have f5 := box_frozen BX5.out 5; have f6 := box_frozen BX5.out 6; have f7 := box_frozen BX5.out 7))
      replace BX := BX5
      replace BL := BL5
      have hb := hide (box_put cvN BX.out)
      have hbel : Hid (Below w.heap.size w (putBox w5 (w.heap.size + 1) cvN)) := (two_put w5 (w.heap.size + 1) cvN).below BL.out (Nat.le_refl _) (Nat.le_succ _) (Nat.le_succ _)
      clear z0 z1 z2 z3 z4 z5 z6 z7 f0 f1 f2 f3 f4 f5 f6 f7 e3 c3 x0 x1 x2 x3 x4 x5 x6 x7 y0 y1 y2 y3 y4 y5 y6 y7
      show bodyPost _ _ _ _ _ (putBox w5 (w.heap.size + 1) cvN)
      generalize putBox w5 (w.heap.size + 1) cvN = Wf at *
      obtain ⟨r0, r1, r2, r3, r4, r5, r6, r7⟩ := hb.out.cells
      simp only [cvN] at r0 r1 r2 r3 r4 r5 r6 r7
      refine bodyPost_ret (v := .tuple #[.agg #[.int .i64 0, .slice none 0 0, .slice none 0 0, .slice none 0 0, .slice none 0 0, .slice none 0 0, .slice none 0 0, .slice none 0 0], .int .i64 9]) (by simp [results, Tryz.results43, go_sem, *]) rfl ?_
      exact ⟨cvN, rfl, fun e => absurd e (by decide), fun _ => rfl, hbel.out⟩
    · rw [ht]
      go_enter Tryz.func43, Tryz.ntmps43
      go_upto_region 3 with fail
      (try rw [hWe])
      clear hWe
      go_wp2_with (first | (go_at_call 30; refine hCk.out.mono ?_; rintro e w5 ⟨rfl, hb5⟩; have BL5 := hide (belowThen BL.out hb5); have BX5 := hide (BX.out.below hb5); have BD5 := hide (BD.out.below hb5); clear hb5; obtain ⟨z0, z1, z2, z3, z4, z5, z6, z7⟩ := BX5.out.cells; simp only [cvN] at z0 z1 z2 z3 z4 z5 z6 z7; obtain ⟨x0, x1, x2, x3, x4, x5, x6, x7⟩ := BD5.out.cells; have f0 := box_frozen BX5.out 0; have f1 := box_frozen BX5.out 1; have f2 := box_frozen BX5.out 2; have f3 := box_frozen BX5.out 3; have f4 := box_frozen BX5.out 4; have f5 := box_frozen BX5.out 5; have f6 := box_frozen BX5.out 6; have f7 := box_frozen BX5.out 7))
      replace BX := BX5
      replace BL := BL5
      have hb := hide (box_put cvN BX.out)
      have hbel : Hid (Below w.heap.size w (putBox w5 (w.heap.size + 1) cvN)) := (two_put w5 (w.heap.size + 1) cvN).below BL.out (Nat.le_refl _) (Nat.le_succ _) (Nat.le_succ _)
      clear z0 z1 z2 z3 z4 z5 z6 z7 f0 f1 f2 f3 f4 f5 f6 f7 e3 c3 x0 x1 x2 x3 x4 x5 x6 x7 y0 y1 y2 y3 y4 y5 y6 y7
      show bodyPost _ _ _ _ _ (putBox w5 (w.heap.size + 1) cvN)
      generalize putBox w5 (w.heap.size + 1) cvN = Wf at *
      obtain ⟨r0, r1, r2, r3, r4, r5, r6, r7⟩ := hb.out.cells
      simp only [cvN] at r0 r1 r2 r3 r4 r5 r6 r7
      refine bodyPost_ret (v := .tuple #[.agg #[.int .i64 0, .slice none 0 0, .slice none 0 0, .slice none 0 0, .slice none 0 0, .slice none 0 0, .slice none 0 0, .slice none 0 0], .int .i64 10]) (by simp [results, Tryz.results43, go_sem, *]) rfl ?_
      exact ⟨cvN, rfl, fun e => absurd e (by decide), fun _ => rfl, hbel.out⟩
    · rw [ht]
      go_enter Tryz.func43, Tryz.ntmps43
      go_upto_region 3 with fail
      (try rw [hWe])
      clear hWe
      go_wp2_with (first | (go_at_call 30; refine hCk.out.mono ?_; rintro e w5 ⟨rfl, hb5⟩; have BL5 := hide (belowThen BL.out hb5); have BX5 := hide (BX.out.below hb5); have BD5 := hide (BD.out.below hb5); clear hb5; obtain ⟨z0, z1, z2, z3, z4, z5, z6, z7⟩ := BX5.out.cells; simp only [cvN] at z0 z1 z2 z3 z4 z5 z6 z7; obtain ⟨x0, x1, x2, x3, x4, x5, x6, x7⟩ := BD5.out.cells; have f0 := box_frozen BX5.out 0; have f1 := box_frozen BX5.out 1; have f2 := box_frozen BX5.out 2; have f3 := box_frozen BX5.out 3; have f4 := box_frozen BX5.out 4; have f5 := box_frozen BX5.out 5; have f6 := box_frozen BX5.out 6; have f7 := box_frozen BX5.out 7))
      replace BX := BX5
      replace BL := BL5
      have hb := hide (box_put cvN BX.out)
      have hbel : Hid (Below w.heap.size w (putBox w5 (w.heap.size + 1) cvN)) := (two_put w5 (w.heap.size + 1) cvN).below BL.out (Nat.le_refl _) (Nat.le_succ _) (Nat.le_succ _)
      clear z0 z1 z2 z3 z4 z5 z6 z7 f0 f1 f2 f3 f4 f5 f6 f7 e3 c3 x0 x1 x2 x3 x4 x5 x6 x7 y0 y1 y2 y3 y4 y5 y6 y7
      show bodyPost _ _ _ _ _ (putBox w5 (w.heap.size + 1) cvN)
      generalize putBox w5 (w.heap.size + 1) cvN = Wf at *
      obtain ⟨r0, r1, r2, r3, r4, r5, r6, r7⟩ := hb.out.cells
      simp only [cvN] at r0 r1 r2 r3 r4 r5 r6 r7
      refine bodyPost_ret (v := .tuple #[.agg #[.int .i64 0, .slice none 0 0, .slice none 0 0, .slice none 0 0, .slice none 0 0, .slice none 0 0, .slice none 0 0, .slice none 0 0], .int .i64 8]) (by simp [results, Tryz.results43, go_sem, *]) rfl ?_
      exact ⟨cvN, rfl, fun e => absurd e (by decide), fun _ => rfl, hbel.out⟩
    · rw [ht]
      have q0 : (ck == 0) = false := by rw [beq_eq_false_iff_ne]; exact h0
      have q9 : (ck == 9) = false := by rw [beq_eq_false_iff_ne]; exact h9
      have q10 : (ck == 10) = false := by rw [beq_eq_false_iff_ne]; exact h10
      have q8 : (ck == 8) = false := by rw [beq_eq_false_iff_ne]; exact h8
      have q0n : (ck != 0) = true := by rw [bne, q0]; rfl
      clear h0 h9 h10 h8
      go_enter Tryz.func43, Tryz.ntmps43
      go_upto_region 3 with fail
      (try rw [hWe])
      clear hWe
      go_wp2_with (first | (go_at_call 30; refine hCk.out.mono ?_; rintro e w5 ⟨rfl, hb5⟩; have BL5 := hide (belowThen BL.out hb5); have BX5 := hide (BX.out.below hb5); have BD5 := hide (BD.out.below hb5); clear hb5; obtain ⟨z0, z1, z2, z3, z4, z5, z6, z7⟩ := BX5.out.cells; simp only [cvN] at z0 z1 z2 z3 z4 z5 z6 z7; obtain ⟨x0, x1, x2, x3, x4, x5, x6, x7⟩ := BD5.out.cells; have f0 := box_frozen BX5.out 0; have f1 := box_frozen BX5.out 1; have f2 := box_frozen BX5.out 2; have f3 := box_frozen BX5.out 3; have f4 := box_frozen BX5.out 4; have f5 := box_frozen BX5.out 5; have f6 := box_frozen BX5.out 6; have f7 := box_frozen BX5.out 7))
      replace BX := BX5
      replace BL := BL5
      have hb := hide (box_put cvN BX.out)
      have hbel : Hid (Below w.heap.size w (putBox w5 (w.heap.size + 1) cvN)) := (two_put w5 (w.heap.size + 1) cvN).below BL.out (Nat.le_refl _) (Nat.le_succ _) (Nat.le_succ _)
      clear z0 z1 z2 z3 z4 z5 z6 z7 f0 f1 f2 f3 f4 f5 f6 f7 e3 c3 x0 x1 x2 x3 x4 x5 x6 x7 y0 y1 y2 y3 y4 y5 y6 y7
      show bodyPost _ _ _ _ _ (putBox w5 (w.heap.size + 1) cvN)
      generalize putBox w5 (w.heap.size + 1) cvN = Wf at *
      obtain ⟨r0, r1, r2, r3, r4, r5, r6, r7⟩ := hb.out.cells
      simp only [cvN] at r0 r1 r2 r3 r4 r5 r6 r7
      refine bodyPost_ret (v := .tuple #[.agg #[.int .i64 0, .slice none 0 0, .slice none 0 0, .slice none 0 0, .slice none 0 0, .slice none 0 0, .slice none 0 0, .slice none 0 0], .int .i64 2]) (by simp [results, Tryz.results43, go_sem, *]) rfl ?_
      exact ⟨cvN, rfl, fun e => absurd e (by decide), fun _ => rfl, hbel.out⟩
end Go.Proofs.YtikjbbebfjleaaaGreatDoor
