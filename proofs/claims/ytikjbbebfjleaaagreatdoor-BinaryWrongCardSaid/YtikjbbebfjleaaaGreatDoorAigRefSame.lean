/-
  THE WALK of the reference's Same.
-/
import Derived.Test.YtikjbbebfjleaaaGreatDoorAigSameP
namespace Go.Proofs.YtikjbbebfjleaaaGreatDoor
open Go.RowKit

theorem same_yes {A B : Circ} (h0 : A.max = B.max) (h1 : A.ins = B.ins) (h2 : A.lats = B.lats) (h3 : A.outs = B.outs) (h4 : A.bads = B.bads) (h5 : A.cons = B.cons) (h6 : A.ands = B.ands) (h7 : A.names = B.names) : sameB A B = true := by
  unfold sameB; rw [decide_eq_true h0, decide_eq_true h1, decide_eq_true h2, decide_eq_true h3, decide_eq_true h4, decide_eq_true h5, decide_eq_true h6, decide_eq_true h7]; rfl
theorem same_no {A B : Circ} (h : A.max ≠ B.max ∨ A.ins ≠ B.ins ∨ A.lats ≠ B.lats ∨ A.outs ≠ B.outs ∨ A.bads ≠ B.bads ∨ A.cons ≠ B.cons ∨ A.ands ≠ B.ands ∨ A.names ≠ B.names) : sameB A B = false := by
  unfold sameB
  rcases h with h | h | h | h | h | h | h | h <;> rw [decide_eq_false h] <;> simp

set_option maxRecDepth 100000 in
set_option maxHeartbeats 4000000 in
theorem refSame_any (c d : CV) (A B : Circ) (w : World) (h : Holds w c A) (k : Holds w d B) (rc : Read c) (rd : Read d) :
    Calls Tryz.prog 15 #[c.v, d.v] w fun e w' => e = .returned (.bool (sameB A B)) ∧ Below w.heap.size w w' := by
  have HT := hide (two8_new h k)
  have m1 := rc.n1
  have m2 := rc.n2
  have m3 := rc.n3
  have m4 := rc.n4
  have m5 := rc.n5
  have m6 := rc.n6
  have m7 := rc.n7
  have u1 := rd.n1
  have u2 := rd.n2
  have u3 := rd.n3
  have u4 := rd.n4
  have u5 := rd.n5
  have u6 := rd.n6
  have u7 := rd.n7
  have E1 := hide (fun W (t : Two8 w w.heap.size (w.heap.size + 1) c d A B W) => same_any c.a1 d.a1 c.n1 c.c1 d.n1 d.c1 A.ins B.ins W t.h.r1 t.h.l1 t.k.r1 t.k.l1 (by omega) (by omega))
  have E3 := hide (fun W (t : Two8 w w.heap.size (w.heap.size + 1) c d A B W) => same_any c.a3 d.a3 c.n3 c.c3 d.n3 d.c3 A.outs B.outs W t.h.r3 t.h.l3 t.k.r3 t.k.l3 (by omega) (by omega))
  have E4 := hide (fun W (t : Two8 w w.heap.size (w.heap.size + 1) c d A B W) => same_any c.a4 d.a4 c.n4 c.c4 d.n4 d.c4 A.bads B.bads W t.h.r4 t.h.l4 t.k.r4 t.k.l4 (by omega) (by omega))
  have E5 := hide (fun W (t : Two8 w w.heap.size (w.heap.size + 1) c d A B W) => same_any c.a5 d.a5 c.n5 c.c5 d.n5 d.c5 A.cons B.cons W t.h.r5 t.h.l5 t.k.r5 t.k.l5 (by omega) (by omega))
  generalize hP : (fun (e : Ending) (w' : World) => e = .returned (.bool (sameB A B)) ∧ Below w.heap.size w w') = Post
  have HP := hide hP
  have HMx : Hid (c.m = d.m → A.max = B.max) := fun e => by rw [← h.m, ← k.m, e]
  have HMn : Hid (c.m ≠ d.m → A.max ≠ B.max) := fun e e2 => e (by rw [h.m, k.m, e2])
  have hno : Hid ((A.max ≠ B.max ∨ A.ins ≠ B.ins ∨ A.lats ≠ B.lats ∨ A.outs ≠ B.outs ∨ A.bads ≠ B.bads ∨ A.cons ≠ B.cons ∨ A.ands ≠ B.ands ∨ A.names ≠ B.names) → ∀ W, Below w.heap.size w W → Post (.returned (.bool false)) W) := fun hh W hW => by rw [← HP.out]; exact ⟨ret_bool (same_no hh).symm, hW⟩
  have hyes : Hid (A.max = B.max → A.ins = B.ins → A.lats = B.lats → A.outs = B.outs → A.bads = B.bads → A.cons = B.cons → A.ands = B.ands → A.names = B.names → ∀ W, Below w.heap.size w W → Post (.returned (.bool true)) W) := fun h0 h1 h2 h3 h4 h5 h6 h7 W hW => by rw [← HP.out]; exact ⟨ret_bool (same_yes h0 h1 h2 h3 h4 h5 h6 h7).symm, hW⟩
  have HL2 : Hid (A.lats.length = c.n2 ∧ B.lats.length = d.n2) := ⟨h.l2, k.l2⟩
  have HL6 : Hid (A.ands.length = c.n6 ∧ B.ands.length = d.n6) := ⟨h.l6, k.l6⟩
  have HL7 : Hid (A.names.length = c.n7 ∧ B.names.length = d.n7) := ⟨h.l7, k.l7⟩
  clear h k rc rd hP HP
  unfold CV.v
  by_cases hm : c.m = d.m
  · have hmb : (c.m != d.m) = false := by simp [hm]
    have G0 := hide (HMx.out hm)
    clear hm
    go_enter Tryz.func15, Tryz.ntmps15
    go_wp2_with fail
    refine (E1.out _ HT.out).mono ?_
    rintro e w1 ⟨rfl, hd1⟩
    have T1 := hide (HT.out.then hd1.below)
    clear hd1 E1
    obtain ⟨p0, p1, p2, p3, p4, p5, p6, p7⟩ := T1.out.bc.cells
    obtain ⟨r0, r1, r2, r3, r4, r5, r6, r7⟩ := T1.out.bd.cells
    by_cases g : A.ins = B.ins
    · rw [decide_eq_true g]
      have G1 := hide g
      clear g
      go_wp2_with fail
      refine (E3.out _ T1.out).mono ?_
      rintro e w3 ⟨rfl, hd3⟩
      have T3 := hide (T1.out.then hd3.below)
      clear hd3 E3 p0 p1 p2 p3 p4 p5 p6 p7 r0 r1 r2 r3 r4 r5 r6 r7
      obtain ⟨p0, p1, p2, p3, p4, p5, p6, p7⟩ := T3.out.bc.cells
      obtain ⟨r0, r1, r2, r3, r4, r5, r6, r7⟩ := T3.out.bd.cells
      by_cases g : A.outs = B.outs
      · rw [decide_eq_true g]
        have G3 := hide g
        clear g
        go_wp2_with fail
        refine (E4.out _ T3.out).mono ?_
        rintro e w4 ⟨rfl, hd4⟩
        have T4 := hide (T3.out.then hd4.below)
        clear hd4 E4 p0 p1 p2 p3 p4 p5 p6 p7 r0 r1 r2 r3 r4 r5 r6 r7
        obtain ⟨p0, p1, p2, p3, p4, p5, p6, p7⟩ := T4.out.bc.cells
        obtain ⟨r0, r1, r2, r3, r4, r5, r6, r7⟩ := T4.out.bd.cells
        by_cases g : A.bads = B.bads
        · rw [decide_eq_true g]
          have G4 := hide g
          clear g
          go_wp2_with fail
          refine (E5.out _ T4.out).mono ?_
          rintro e w5 ⟨rfl, hd5⟩
          have T5 := hide (T4.out.then hd5.below)
          clear hd5 E5 p0 p1 p2 p3 p4 p5 p6 p7 r0 r1 r2 r3 r4 r5 r6 r7
          obtain ⟨p0, p1, p2, p3, p4, p5, p6, p7⟩ := T5.out.bc.cells
          obtain ⟨r0, r1, r2, r3, r4, r5, r6, r7⟩ := T5.out.bd.cells
          by_cases g : A.cons = B.cons
          · rw [decide_eq_true g]
            have G5 := hide g
            clear g
            have hq2 : Hid (Two8 w w.heap.size (w.heap.size + 1) c d A B w5) := T5.out
            by_cases g2 : c.n2 = d.n2
            · have gb2 : ((c.n2 : Int) != (d.n2 : Int)) = false := by simp [g2]
              have gc2 : (c.n2 != d.n2) = false := by simp [g2]
              have GN2 := hide g2
              clear g2
              by_cases g6 : c.n6 = d.n6
              · have gb6 : ((c.n6 : Int) != (d.n6 : Int)) = false := by simp [g6]
                have gc6 : (c.n6 != d.n6) = false := by simp [g6]
                have GN6 := hide g6
                clear g6
                by_cases g7 : c.n7 = d.n7
                · have gb7 : ((c.n7 : Int) != (d.n7 : Int)) = false := by simp [g7]
                  have gc7 : (c.n7 != d.n7) = false := by simp [g7]
                  have GN7 := hide g7
                  clear g7
                  go_wp2
                  rename World => wo2
                  go_loopw [5] (fun i wr => ∃ kk : Nat, i = .int .i64 kk ∧ kk ≤ c.n2 ∧ Hid (Two8 w w.heap.size (w.heap.size + 1) c d A B wr ∧ ∀ j, j < kk → atP A.lats j = atP B.lats j)) (fun i _ => c.n2 - (intOf i).toNat)
                  case atStart => exact ⟨0, rfl, Nat.zero_le _, hq2.out, fun j hj => absurd hj (Nat.not_lt_zero _)⟩
                  case round =>
                    clear p0 p1 p2 p3 p4 p5 p6 p7 r0 r1 r2 r3 r4 r5 r6 r7
                    obtain ⟨kk, rfl, hk, HF⟩ := hrel
                    obtain ⟨p0, p1, p2, p3, p4, p5, p6, p7⟩ := HF.out.1.bc.cells
                    obtain ⟨r0, r1, r2, r3, r4, r5, r6, r7⟩ := HF.out.1.bd.cells
                    by_cases hlt : kk < c.n2
                    · have hlt2 : kk < d.n2 := by have := GN2.out; omega
                      obtain ⟨g, off, ha, -, hcell⟩ := HF.out.1.h.r2.addr (by rw [cellsT_len, HL2.out.1]; omega)
                      obtain ⟨g2, off2, ha2, -, hcell2⟩ := HF.out.1.k.r2.addr (by rw [cellsT_len, HL2.out.2]; omega)
                      rw [ha] at p2
                      rw [ha2] at r2
                      have hat := cellsT_at A.lats kk (by rw [HL2.out.1]; exact hlt)
                      have hat2 := cellsT_at B.lats kk (by rw [HL2.out.2]; exact hlt2)
                      have hc0 : wr.cell? ⟨g, off + kk * 3, none⟩ = _ := hcell _ _ hat.1
                      have hc1 : wr.cell? ⟨g, off + kk * 3 + 1, none⟩ = _ := hcell _ _ hat.2.1
                      have hc2 : wr.cell? ⟨g, off + kk * 3 + 2, none⟩ = _ := hcell _ _ hat.2.2
                      have hd0 : wr.cell? ⟨g2, off2 + kk * 3, none⟩ = _ := hcell2 _ _ hat2.1
                      have hd1 : wr.cell? ⟨g2, off2 + kk * 3 + 1, none⟩ = _ := hcell2 _ _ hat2.2.1
                      have hd2 : wr.cell? ⟨g2, off2 + kk * 3 + 2, none⟩ = _ := hcell2 _ _ hat2.2.2
                      obtain ⟨x, HXX⟩ : ∃ x, Hid (x = atP A.lats kk) := ⟨_, rfl⟩
                      obtain ⟨y, HYY⟩ : ∃ y, Hid (y = atP B.lats kk) := ⟨_, rfl⟩
                      rw [← HXX.out] at hc0 hc1 hc2
                      rw [← HYY.out] at hd0 hd1 hd2
                      obtain ⟨x0, x1, x2⟩ := x
                      obtain ⟨y0, y1, y2⟩ := y
                      dsimp only at hc0 hc1 hc2 hd0 hd1 hd2
                      clear hcell hcell2 hat hat2 ha ha2
                      have HDr : Hid (∀ q, Two8 w w.heap.size (w.heap.size + 1) c d A B (wr.drewN q)) := fun q => HF.out.1.then (Drew.below ⟨q, rfl⟩)
                      have hfin : Hid ((x0, x1, x2) ≠ (y0, y1, y2) → ∀ q, Post (.returned (.bool false)) (wr.drewN q)) := fun he q => hno.out (.inr (.inr (.inl (fun h => he (by rw [HXX.out, HYY.out, h]))))) _ (HDr.out q).below
                      by_cases h0 : x0 = y0
                      · subst h0
                        by_cases h1 : x1 = y1
                        · subst h1
                          by_cases h2 : x2 = y2
                          · subst h2
                            clear hfin
                            go_wp2
                            go_quiet (fail)
                            go_wp2
                            go_roundw
                            case rel =>
                              refine ⟨kk + 1, by go_num, by omega, HDr.out _, fun j hj => ?_⟩
                              by_cases hjk : j < kk
                              · exact HF.out.2 j hjk
                              · obtain rfl : j = kk := by omega
                                rw [← HXX.out]; exact HYY.out
                            case measure => simp [intOf]; omega
                          · have h2b : (x2 == y2) = false := by rw [beq_eq_false_iff_ne]; exact h2
                            have hend := hide (hfin.out (fun e => h2 (by cases e; rfl)))
                            clear hfin
                            go_wp2
                            go_quiet (fail)
                            go_wp2
                            exact hend.out _
                        · have h1b : (x1 == y1) = false := by rw [beq_eq_false_iff_ne]; exact h1
                          have hend := hide (hfin.out (fun e => h1 (by cases e; rfl)))
                          clear hfin
                          go_wp2
                          go_quiet (fail)
                          go_wp2
                          exact hend.out _
                      · have h0b : (x0 == y0) = false := by rw [beq_eq_false_iff_ne]; exact h0
                        have hend := hide (hfin.out (fun e => h0 (by cases e; rfl)))
                        clear hfin
                        go_wp2
                        go_quiet (fail)
                        go_wp2
                        exact hend.out _
                    · obtain rfl : kk = c.n2 := by omega
                      have GL2 : Hid (A.lats = B.lats) := ext_atP _ _ (by rw [HL2.out.1, HL2.out.2, GN2.out]) (fun j hj => HF.out.2 j (by rw [← HL2.out.1]; exact hj))
                      have HT2 := hide HF.out.1
                      clear HF hk hlt
                      go_wp2
                      rename World => wo6
                      go_loopw [6] (fun i wr => ∃ kk : Nat, i = .int .i64 kk ∧ kk ≤ c.n6 ∧ Hid (Two8 w w.heap.size (w.heap.size + 1) c d A B wr ∧ ∀ j, j < kk → atP A.ands j = atP B.ands j)) (fun i _ => c.n6 - (intOf i).toNat)
                      case atStart => exact ⟨0, rfl, Nat.zero_le _, HT2.out, fun j hj => absurd hj (Nat.not_lt_zero _)⟩
                      case round =>
                        clear p0 p1 p2 p3 p4 p5 p6 p7 r0 r1 r2 r3 r4 r5 r6 r7
                        obtain ⟨kk, rfl, hk, HF⟩ := hrel
                        obtain ⟨p0, p1, p2, p3, p4, p5, p6, p7⟩ := HF.out.1.bc.cells
                        obtain ⟨r0, r1, r2, r3, r4, r5, r6, r7⟩ := HF.out.1.bd.cells
                        by_cases hlt : kk < c.n6
                        · have hlt2 : kk < d.n6 := by have := GN6.out; omega
                          obtain ⟨g, off, ha, -, hcell⟩ := HF.out.1.h.r6.addr (by rw [cellsT_len, HL6.out.1]; omega)
                          obtain ⟨g2, off2, ha2, -, hcell2⟩ := HF.out.1.k.r6.addr (by rw [cellsT_len, HL6.out.2]; omega)
                          rw [ha] at p6
                          rw [ha2] at r6
                          have hat := cellsT_at A.ands kk (by rw [HL6.out.1]; exact hlt)
                          have hat2 := cellsT_at B.ands kk (by rw [HL6.out.2]; exact hlt2)
                          have hc0 : wr.cell? ⟨g, off + kk * 3, none⟩ = _ := hcell _ _ hat.1
                          have hc1 : wr.cell? ⟨g, off + kk * 3 + 1, none⟩ = _ := hcell _ _ hat.2.1
                          have hc2 : wr.cell? ⟨g, off + kk * 3 + 2, none⟩ = _ := hcell _ _ hat.2.2
                          have hd0 : wr.cell? ⟨g2, off2 + kk * 3, none⟩ = _ := hcell2 _ _ hat2.1
                          have hd1 : wr.cell? ⟨g2, off2 + kk * 3 + 1, none⟩ = _ := hcell2 _ _ hat2.2.1
                          have hd2 : wr.cell? ⟨g2, off2 + kk * 3 + 2, none⟩ = _ := hcell2 _ _ hat2.2.2
                          obtain ⟨x, HXX⟩ : ∃ x, Hid (x = atP A.ands kk) := ⟨_, rfl⟩
                          obtain ⟨y, HYY⟩ : ∃ y, Hid (y = atP B.ands kk) := ⟨_, rfl⟩
                          rw [← HXX.out] at hc0 hc1 hc2
                          rw [← HYY.out] at hd0 hd1 hd2
                          obtain ⟨x0, x1, x2⟩ := x
                          obtain ⟨y0, y1, y2⟩ := y
                          dsimp only at hc0 hc1 hc2 hd0 hd1 hd2
                          clear hcell hcell2 hat hat2 ha ha2
                          have HDr : Hid (∀ q, Two8 w w.heap.size (w.heap.size + 1) c d A B (wr.drewN q)) := fun q => HF.out.1.then (Drew.below ⟨q, rfl⟩)
                          have hfin : Hid ((x0, x1, x2) ≠ (y0, y1, y2) → ∀ q, Post (.returned (.bool false)) (wr.drewN q)) := fun he q => hno.out (.inr (.inr (.inr (.inr (.inr (.inr (.inl (fun h => he (by rw [HXX.out, HYY.out, h]))))))))) _ (HDr.out q).below
                          by_cases h0 : x0 = y0
                          · subst h0
                            by_cases h1 : x1 = y1
                            · subst h1
                              by_cases h2 : x2 = y2
                              · subst h2
                                clear hfin
                                go_wp2
                                go_quiet (fail)
                                go_wp2
                                go_roundw
                                case rel =>
                                  refine ⟨kk + 1, by go_num, by omega, HDr.out _, fun j hj => ?_⟩
                                  by_cases hjk : j < kk
                                  · exact HF.out.2 j hjk
                                  · obtain rfl : j = kk := by omega
                                    rw [← HXX.out]; exact HYY.out
                                case measure => simp [intOf]; omega
                              · have h2b : (x2 == y2) = false := by rw [beq_eq_false_iff_ne]; exact h2
                                have hend := hide (hfin.out (fun e => h2 (by cases e; rfl)))
                                clear hfin
                                go_wp2
                                go_quiet (fail)
                                go_wp2
                                exact hend.out _
                            · have h1b : (x1 == y1) = false := by rw [beq_eq_false_iff_ne]; exact h1
                              have hend := hide (hfin.out (fun e => h1 (by cases e; rfl)))
                              clear hfin
                              go_wp2
                              go_quiet (fail)
                              go_wp2
                              exact hend.out _
                          · have h0b : (x0 == y0) = false := by rw [beq_eq_false_iff_ne]; exact h0
                            have hend := hide (hfin.out (fun e => h0 (by cases e; rfl)))
                            clear hfin
                            go_wp2
                            go_quiet (fail)
                            go_wp2
                            exact hend.out _
                        · obtain rfl : kk = c.n6 := by omega
                          have GL6 : Hid (A.ands = B.ands) := ext_atP _ _ (by rw [HL6.out.1, HL6.out.2, GN6.out]) (fun j hj => HF.out.2 j (by rw [← HL6.out.1]; exact hj))
                          have HT6 := hide HF.out.1
                          clear HF hk hlt
                          go_wp2
                          rename World => wo7
                          go_loopw [7] (fun i wr => ∃ kk : Nat, i = .int .i64 kk ∧ kk ≤ c.n7 ∧ Hid (Two8 w w.heap.size (w.heap.size + 1) c d A B wr ∧ ∀ j, j < kk → atP A.names j = atP B.names j)) (fun i _ => c.n7 - (intOf i).toNat)
                          case atStart => exact ⟨0, rfl, Nat.zero_le _, HT6.out, fun j hj => absurd hj (Nat.not_lt_zero _)⟩
                          case round =>
                            clear p0 p1 p2 p3 p4 p5 p6 p7 r0 r1 r2 r3 r4 r5 r6 r7
                            obtain ⟨kk, rfl, hk, HF⟩ := hrel
                            obtain ⟨p0, p1, p2, p3, p4, p5, p6, p7⟩ := HF.out.1.bc.cells
                            obtain ⟨r0, r1, r2, r3, r4, r5, r6, r7⟩ := HF.out.1.bd.cells
                            by_cases hlt : kk < c.n7
                            · have hlt2 : kk < d.n7 := by have := GN7.out; omega
                              obtain ⟨g, off, ha, -, hcell⟩ := HF.out.1.h.r7.addr (by rw [cellsS_len, HL7.out.1]; omega)
                              obtain ⟨g2, off2, ha2, -, hcell2⟩ := HF.out.1.k.r7.addr (by rw [cellsS_len, HL7.out.2]; omega)
                              rw [ha] at p7
                              rw [ha2] at r7
                              have hat := cellsS_at A.names kk (by rw [HL7.out.1]; exact hlt)
                              have hat2 := cellsS_at B.names kk (by rw [HL7.out.2]; exact hlt2)
                              have hc0 : wr.cell? ⟨g, off + kk * 3, none⟩ = _ := hcell _ _ hat.1
                              have hc1 : wr.cell? ⟨g, off + kk * 3 + 1, none⟩ = _ := hcell _ _ hat.2.1
                              have hc2 : wr.cell? ⟨g, off + kk * 3 + 2, none⟩ = _ := hcell _ _ hat.2.2
                              have hd0 : wr.cell? ⟨g2, off2 + kk * 3, none⟩ = _ := hcell2 _ _ hat2.1
                              have hd1 : wr.cell? ⟨g2, off2 + kk * 3 + 1, none⟩ = _ := hcell2 _ _ hat2.2.1
                              have hd2 : wr.cell? ⟨g2, off2 + kk * 3 + 2, none⟩ = _ := hcell2 _ _ hat2.2.2
                              obtain ⟨x, HXX⟩ : ∃ x, Hid (x = atP A.names kk) := ⟨_, rfl⟩
                              obtain ⟨y, HYY⟩ : ∃ y, Hid (y = atP B.names kk) := ⟨_, rfl⟩
                              rw [← HXX.out] at hc0 hc1 hc2
                              rw [← HYY.out] at hd0 hd1 hd2
                              obtain ⟨x0, x1, x2⟩ := x
                              obtain ⟨y0, y1, y2⟩ := y
                              dsimp only at hc0 hc1 hc2 hd0 hd1 hd2
                              clear hcell hcell2 hat hat2 ha ha2
                              have HDr : Hid (∀ q, Two8 w w.heap.size (w.heap.size + 1) c d A B (wr.drewN q)) := fun q => HF.out.1.then (Drew.below ⟨q, rfl⟩)
                              have hfin : Hid ((x0, x1, x2) ≠ (y0, y1, y2) → ∀ q, Post (.returned (.bool false)) (wr.drewN q)) := fun he q => hno.out (.inr (.inr (.inr (.inr (.inr (.inr (.inr (fun h => he (by rw [HXX.out, HYY.out, h]))))))))) _ (HDr.out q).below
                              by_cases h0 : x0 = y0
                              · subst h0
                                by_cases h1 : x1 = y1
                                · subst h1
                                  by_cases h2 : x2 = y2
                                  · subst h2
                                    clear hfin
                                    go_wp2
                                    go_quiet (fail)
                                    go_wp2
                                    go_roundw
                                    case rel =>
                                      refine ⟨kk + 1, by go_num, by omega, HDr.out _, fun j hj => ?_⟩
                                      by_cases hjk : j < kk
                                      · exact HF.out.2 j hjk
                                      · obtain rfl : j = kk := by omega
                                        rw [← HXX.out]; exact HYY.out
                                    case measure => simp [intOf]; omega
                                  · have h2b := bytes_ne h2
                                    have hend := hide (hfin.out (fun e => h2 (by cases e; rfl)))
                                    clear hfin
                                    go_wp2
                                    go_quiet (fail)
                                    go_wp2
                                    exact hend.out _
                                · have h1b : (x1 == y1) = false := by rw [beq_eq_false_iff_ne]; exact h1
                                  have hend := hide (hfin.out (fun e => h1 (by cases e; rfl)))
                                  clear hfin
                                  go_wp2
                                  go_quiet (fail)
                                  go_wp2
                                  exact hend.out _
                              · have h0b : (x0 == y0) = false := by rw [beq_eq_false_iff_ne]; exact h0
                                have hend := hide (hfin.out (fun e => h0 (by cases e; rfl)))
                                clear hfin
                                go_wp2
                                go_quiet (fail)
                                go_wp2
                                exact hend.out _
                            · obtain rfl : kk = c.n7 := by omega
                              have GL7 : Hid (A.names = B.names) := ext_atP _ _ (by rw [HL7.out.1, HL7.out.2, GN7.out]) (fun j hj => HF.out.2 j (by rw [← HL7.out.1]; exact hj))
                              have HT7 := hide HF.out.1
                              clear HF hk hlt
                              have hend := hide (hyes.out G0.out G1.out GL2.out G3.out G4.out G5.out GL6.out GL7.out _ HT7.out.below)
                              go_wp2
                              exact hend.out
                · have gb7 : ((c.n7 : Int) != (d.n7 : Int)) = true := by simp; omega
                  have gc7 : (c.n7 != d.n7) = true := by simp [g7]
                  have hend := hide (hno.out (.inr (.inr (.inr (.inr (.inr (.inr (.inr fun e => g7 (by rw [← HL7.out.1, ← HL7.out.2, e])))))))) _ hq2.out.below)
                  clear hno hyes
                  go_wp2
                  exact hend.out
              · have gb6 : ((c.n6 : Int) != (d.n6 : Int)) = true := by simp; omega
                have gc6 : (c.n6 != d.n6) = true := by simp [g6]
                have hend := hide (hno.out (.inr (.inr (.inr (.inr (.inr (.inr (.inl fun e => g6 (by rw [← HL6.out.1, ← HL6.out.2, e])))))))) _ hq2.out.below)
                clear hno hyes
                go_wp2
                exact hend.out
            · have gb2 : ((c.n2 : Int) != (d.n2 : Int)) = true := by simp; omega
              have gc2 : (c.n2 != d.n2) = true := by simp [g2]
              have hend := hide (hno.out (.inr (.inr (.inl fun e => g2 (by rw [← HL2.out.1, ← HL2.out.2, e])))) _ hq2.out.below)
              clear hno hyes
              go_wp2
              exact hend.out
          · rw [decide_eq_false g]
            have hend := hide (hno.out (.inr (.inr (.inr (.inr (.inr (.inl g)))))) _ T5.out.below)
            clear hno hyes g
            go_wp2
            exact hend.out
        · rw [decide_eq_false g]
          have hend := hide (hno.out (.inr (.inr (.inr (.inr (.inl g))))) _ T4.out.below)
          clear hno hyes g
          go_wp2
          exact hend.out
      · rw [decide_eq_false g]
        have hend := hide (hno.out (.inr (.inr (.inr (.inl g)))) _ T3.out.below)
        clear hno hyes g
        go_wp2
        exact hend.out
    · rw [decide_eq_false g]
      have hend := hide (hno.out (.inr (.inl g)) _ T1.out.below)
      clear hno hyes g
      go_wp2
      exact hend.out
  · have hmb : (c.m != d.m) = true := by simp [hm]
    have hend := hide (hno.out (.inl (HMn.out hm)) _ HT.out.below)
    clear hno hyes hm
    go_enter Tryz.func15, Tryz.ntmps15
    go_wp2
    exact hend.out
end Go.Proofs.YtikjbbebfjleaaaGreatDoor
