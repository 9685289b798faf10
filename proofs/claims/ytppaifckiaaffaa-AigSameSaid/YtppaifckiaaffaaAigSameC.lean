/-
  THE WALK of layer 4's Same.
-/
import Derived.Test.YtppaifckiaaffaaAigEqual
namespace Go.Proofs.Ytppaifckiaaffaa
open Go.RowKit

set_option maxRecDepth 100000 in
set_option maxHeartbeats 4000000 in
theorem same_circ (c d : CV) (A B : Circ) (w : World) (h : Holds w c A) (k : Holds w d B) (rc : Read c) (rd : Read d) :
    Calls Try.prog 28 #[c.v, d.v] w fun e w' => e = .returned (.bool (sameB A B)) ∧ Below w.heap.size w w' := by
  have HT := hide (two8_new h k)
  have E1 := hide (fun W (t : Two8 w w.heap.size (w.heap.size + 1) c d A B W) => eqInts_any c.a1 d.a1 c.n1 c.c1 d.n1 d.c1 A.ins B.ins W t.h.r1 t.h.l1 t.k.r1 t.k.l1 rc.n1 rd.n1)
  have E2 := hide (fun W (t : Two8 w w.heap.size (w.heap.size + 1) c d A B W) => eqLats_any c.a2 d.a2 c.n2 c.c2 d.n2 d.c2 A.lats B.lats W t.h.r2 t.h.l2 t.k.r2 t.k.l2 rc.n2 rd.n2)
  have E3 := hide (fun W (t : Two8 w w.heap.size (w.heap.size + 1) c d A B W) => eqInts_any c.a3 d.a3 c.n3 c.c3 d.n3 d.c3 A.outs B.outs W t.h.r3 t.h.l3 t.k.r3 t.k.l3 rc.n3 rd.n3)
  have E4 := hide (fun W (t : Two8 w w.heap.size (w.heap.size + 1) c d A B W) => eqInts_any c.a4 d.a4 c.n4 c.c4 d.n4 d.c4 A.bads B.bads W t.h.r4 t.h.l4 t.k.r4 t.k.l4 rc.n4 rd.n4)
  have E5 := hide (fun W (t : Two8 w w.heap.size (w.heap.size + 1) c d A B W) => eqInts_any c.a5 d.a5 c.n5 c.c5 d.n5 d.c5 A.cons B.cons W t.h.r5 t.h.l5 t.k.r5 t.k.l5 rc.n5 rd.n5)
  have E6 := hide (fun W (t : Two8 w w.heap.size (w.heap.size + 1) c d A B W) => eqAnds_any c.a6 d.a6 c.n6 c.c6 d.n6 d.c6 A.ands B.ands W t.h.r6 t.h.l6 t.k.r6 t.k.l6 rc.n6 rd.n6)
  have E7 := hide (fun W (t : Two8 w w.heap.size (w.heap.size + 1) c d A B W) => eqSyms_any c.a7 d.a7 c.n7 c.c7 d.n7 d.c7 A.names B.names W t.h.r7 t.h.l7 t.k.r7 t.k.l7 rc.n7 rd.n7)
  have hmax : sameB A B = (decide (c.m = d.m) && (decide (A.ins = B.ins) && (decide (A.lats = B.lats) && (decide (A.outs = B.outs) && (decide (A.bads = B.bads) && (decide (A.cons = B.cons) && (decide (A.ands = B.ands) && decide (A.names = B.names)))))))) := by unfold sameB; rw [h.m, k.m]
  rw [hmax]
  clear h k rc rd hmax
  unfold CV.v
  generalize decide (A.ins = B.ins) = b1 at E1 ⊢
  generalize decide (A.lats = B.lats) = b2 at E2 ⊢
  generalize decide (A.outs = B.outs) = b3 at E3 ⊢
  generalize decide (A.bads = B.bads) = b4 at E4 ⊢
  generalize decide (A.cons = B.cons) = b5 at E5 ⊢
  generalize decide (A.ands = B.ands) = b6 at E6 ⊢
  generalize decide (A.names = B.names) = b7 at E7 ⊢
  by_cases hm : c.m = d.m
  · have hmb : (c.m == d.m) = true := by rw [beq_iff_eq]; exact hm
    rw [decide_eq_true hm, Bool.true_and]
    clear hm
    go_enter Try.func28, Try.ntmps28
    go_wp2_with fail
    refine (E1.out _ HT.out).mono ?_
    rintro e w1 ⟨rfl, hd1⟩
    have T1 := hide (HT.out.then hd1.below)
    clear hd1 E1
    obtain ⟨p0, p1, p2, p3, p4, p5, p6, p7⟩ := T1.out.bc.cells
    obtain ⟨r0, r1, r2, r3, r4, r5, r6, r7⟩ := T1.out.bd.cells
    cases b1 with
    | false =>
      go_wp2
      go_ret
      exact ⟨rfl, T1.out.below⟩
    | true =>
      go_wp2_with fail
      refine (E2.out _ T1.out).mono ?_
      rintro e w2 ⟨rfl, hd2⟩
      have T2 := hide (T1.out.then hd2.below)
      clear hd2 E2 p0 p1 p2 p3 p4 p5 p6 p7 r0 r1 r2 r3 r4 r5 r6 r7
      obtain ⟨p0, p1, p2, p3, p4, p5, p6, p7⟩ := T2.out.bc.cells
      obtain ⟨r0, r1, r2, r3, r4, r5, r6, r7⟩ := T2.out.bd.cells
      cases b2 with
      | false =>
        go_wp2
        go_ret
        exact ⟨rfl, T2.out.below⟩
      | true =>
        go_wp2_with fail
        refine (E3.out _ T2.out).mono ?_
        rintro e w3 ⟨rfl, hd3⟩
        have T3 := hide (T2.out.then hd3.below)
        clear hd3 E3 p0 p1 p2 p3 p4 p5 p6 p7 r0 r1 r2 r3 r4 r5 r6 r7
        obtain ⟨p0, p1, p2, p3, p4, p5, p6, p7⟩ := T3.out.bc.cells
        obtain ⟨r0, r1, r2, r3, r4, r5, r6, r7⟩ := T3.out.bd.cells
        cases b3 with
        | false =>
          go_wp2
          go_ret
          exact ⟨rfl, T3.out.below⟩
        | true =>
          go_wp2_with fail
          refine (E4.out _ T3.out).mono ?_
          rintro e w4 ⟨rfl, hd4⟩
          have T4 := hide (T3.out.then hd4.below)
          clear hd4 E4 p0 p1 p2 p3 p4 p5 p6 p7 r0 r1 r2 r3 r4 r5 r6 r7
          obtain ⟨p0, p1, p2, p3, p4, p5, p6, p7⟩ := T4.out.bc.cells
          obtain ⟨r0, r1, r2, r3, r4, r5, r6, r7⟩ := T4.out.bd.cells
          cases b4 with
          | false =>
            go_wp2
            go_ret
            exact ⟨rfl, T4.out.below⟩
          | true =>
            go_wp2_with fail
            refine (E5.out _ T4.out).mono ?_
            rintro e w5 ⟨rfl, hd5⟩
            have T5 := hide (T4.out.then hd5.below)
            clear hd5 E5 p0 p1 p2 p3 p4 p5 p6 p7 r0 r1 r2 r3 r4 r5 r6 r7
            obtain ⟨p0, p1, p2, p3, p4, p5, p6, p7⟩ := T5.out.bc.cells
            obtain ⟨r0, r1, r2, r3, r4, r5, r6, r7⟩ := T5.out.bd.cells
            cases b5 with
            | false =>
              go_wp2
              go_ret
              exact ⟨rfl, T5.out.below⟩
            | true =>
              go_wp2_with fail
              refine (E6.out _ T5.out).mono ?_
              rintro e w6 ⟨rfl, hd6⟩
              have T6 := hide (T5.out.then hd6.below)
              clear hd6 E6 p0 p1 p2 p3 p4 p5 p6 p7 r0 r1 r2 r3 r4 r5 r6 r7
              obtain ⟨p0, p1, p2, p3, p4, p5, p6, p7⟩ := T6.out.bc.cells
              obtain ⟨r0, r1, r2, r3, r4, r5, r6, r7⟩ := T6.out.bd.cells
              cases b6 with
              | false =>
                go_wp2
                go_ret
                exact ⟨rfl, T6.out.below⟩
              | true =>
                go_wp2_with fail
                refine (E7.out _ T6.out).mono ?_
                rintro e w7 ⟨rfl, hd7⟩
                have T7 := hide (T6.out.then hd7.below)
                clear hd7 E7 p0 p1 p2 p3 p4 p5 p6 p7 r0 r1 r2 r3 r4 r5 r6 r7
                obtain ⟨p0, p1, p2, p3, p4, p5, p6, p7⟩ := T7.out.bc.cells
                obtain ⟨r0, r1, r2, r3, r4, r5, r6, r7⟩ := T7.out.bd.cells
                go_wp2
                go_ret
                exact ⟨by simp, T7.out.below⟩
  · have hmb : (c.m == d.m) = false := by rw [beq_eq_false_iff_ne]; exact hm
    rw [decide_eq_false hm, Bool.false_and]
    go_enter Try.func28, Try.ntmps28
    go_wp2
    go_ret
    exact ⟨rfl, HT.out.below⟩
end Go.Proofs.Ytppaifckiaaffaa
