/-
  THE WALK of layer 4's Normal, of a circuit that is right.
-/
import Derived.Test.YtppaifckiaaffaaNormBad
namespace Go.Proofs.Ytppaifckiaaffaa
open Go.RowKit

set_option maxRecDepth 100000 in
set_option maxHeartbeats 4000000 in
theorem normal_good (c : CV) (C : Circ) (w : World) (h : Holds w c C) (hf : Fits c C) (hgood : C.checkI = 0) :
    Calls Try.prog 26 #[c.v] w fun e w' => ∃ d : CV, e = .returned (.tuple #[d.v, .int .i64 0]) ∧ Holds w' d C.norm ∧ Read d ∧ d.m = C.norm.max ∧ Below w.heap.size w w' := by
  have HRt := hide (right_of hgood)
  have hol : Hid (C.turn.length = c.n6) := HRt.out.turn.trans h.l6
  have HL := hide h
  have HT : Hid (∀ W, Below w.heap.size w W → Calls Try.prog 39 #[c.v] W fun e w' => ∃ oa oc, e = .returned (.tuple #[.slice oa c.n6 oc, .int .i64 0]) ∧ RowK .i64 w' oa (C.turn.map (fun k : Nat => (k : Int))) ∧ Below W.heap.size W w') := fun W hb => (order_any c C W (HL.out.below hb) hf).mono (fun e w' hh => by
    rcases hh.2 with ⟨h0, -⟩ | ⟨-, a, k, rfl, hn⟩
    · exact absurd hgood h0
    · have e0 : C.turn.length = (C.turn.map (fun k : Nat => (k : Int))).length := (List.length_map _).symm
      rw [e0] at hn
      obtain ⟨a', cp, e1, hr, -⟩ := row_of_own hn.1
      cases e1
      exact ⟨a, k, by rw [hol.out], hr, hh.1⟩)
  have hn1 : c.n1 ≤ 64 := by rw [← h.l1]; exact HRt.out.small.ins
  have hn2 : c.n2 ≤ 64 := by rw [← h.l2]; exact HRt.out.small.lats
  have hn3 : c.n3 ≤ 64 := by rw [← h.l3]; exact HRt.out.small.outs
  have hn4 : c.n4 ≤ 64 := by rw [← h.l4]; exact HRt.out.small.bads
  have hn5 : c.n5 ≤ 64 := by rw [← h.l5]; exact HRt.out.small.cons
  have hn6 : c.n6 ≤ 2000 := by rw [← h.l6]; exact HRt.out.small.ands
  have hn7 : c.n7 ≤ 320 := by rw [← h.l7]; exact HRt.out.small.names
  have HNf := hide hf.names
  have S0 := hide (copy_start w c)
  have hN : ∀ W, Below w.heap.size w W → ∀ oa oc, RowK .i64 W oa (C.turn.map (fun k : Nat => (k : Int))) → Calls Try.prog 45 #[c.v, .slice oa c.n6 oc] W (NewRen W C (C.max.toNat + 1)) := fun W hb oa oc hr => newRenaming_any c C W oa c.n6 oc (HL.out.below hb) HRt.out.small HRt.out.lits hr hol.out
  obtain ⟨n, hn⟩ : ∃ n, n = C.max.toNat + 1 := ⟨_, rfl⟩
  have hnb : Hid (n ≤ 10000) := by
    show n ≤ 10000
    have := HRt.out.small.max
    omega
  have HNn := hide hn
  rw [← hn] at hN
  have HN := hide hN
  clear h hf hgood hn hN
  have hcv : c.v = .agg #[.int .i64 c.m, .slice c.a1 c.n1 c.c1, .slice c.a2 c.n2 c.c2, .slice c.a3 c.n3 c.c3, .slice c.a4 c.n4 c.c4, .slice c.a5 c.n5 c.c5, .slice c.a6 c.n6 c.c6, .slice c.a7 c.n7 c.c7] := rfl
  have HCV := hide hcv
  rw [hcv] at HT HN ⊢
  clear hcv
  go_enter Try.func26, Try.ntmps26
  go_wp2_with fail
  refine (HT.out _ S0.out.below).mono ?_
  rintro e w2 ⟨oa, oc, rfl, ho2, hb2⟩
  have S2 : Hid (CopyS w w.heap.size c w2) := ⟨S0.out.box.below hb2, S0.out.res.below hb2, belowThen S0.out.below hb2, Nat.le_refl _⟩
  have HO2 := hide ho2
  clear S0 HT hb2 ho2
  obtain ⟨p0, p1, p2, p3, p4, p5, p6, p7⟩ := S2.out.box.cells
  go_wp2_with fail
  refine (HN.out _ S2.out.below oa oc HO2.out).mono ?_
  rintro e w3 ⟨g, rfl, hb3, hown3⟩
  have S3 : Hid (NS w c C w.heap.size g n oa w3) := ⟨HL.out.below (belowThen S2.out.below hb3), S2.out.box.below hb3, S2.out.res.below hb3, ren_of hown3 hnb.out (ren_small HRt.out.small), HO2.out.below hb3, belowThen S2.out.below hb3⟩
  clear p0 p1 p2 p3 p4 p5 p6 p7 S2 HN HO2 hb3 hown3
  have TD : Hid (∀ q, NS w c C w.heap.size g n oa (w3.drewN q)) := fun q => S3.out.then (Drew.below ⟨q, rfl⟩)
  obtain ⟨p0, p1, p2, p3, p4, p5, p6, p7⟩ := S3.out.box.cells
  have H0 := hide (fun W (t : NS w c C w.heap.size g n oa W) => vars_of c C W t.holds (by omega) (by omega) (by omega))
  have hnv : Hid (((C.numVars : Nat) : Int) = C.norm.max) := rfl
  rw [HCV.out] at H0
  generalize ((C.numVars : Nat) : Int) = nv at H0 hnv

  have H1 : Hid (∀ W, NS w c C w.heap.size g n oa W → Calls Try.prog 46 #[.slice (some ⟨g, 0, none⟩) n n, .slice c.a1 c.n1 c.c1] W fun e w' => ∃ a cp, e = .returned (.slice a c.n1 cp) ∧ w'.ownsRow (w.heap.size + 2) 3 1 (.slice a c.n1 cp) c.n1 ((C.ins.map (renL C.ren)).map (Value.int .i64)) ∧ Below W.heap.size W w') := fun W t => (literals_any g n C.ren c.a1 c.n1 c.c1 C.ins W t.ren t.holds.r1 t.holds.l1 (by omega) (by rw [HNn.out]; exact in_ins HRt.out)).mono (fun e w' hh => by
    obtain ⟨v, rfl, hn, hbl⟩ := hh
    rw [List.length_map, t.holds.l1] at hn
    obtain ⟨a, cp, rfl⟩ := own_form hn
    exact ⟨a, cp, rfl, own_le hn t.res.lt, hbl⟩)
  have H3 : Hid (∀ W, NS w c C w.heap.size g n oa W → Calls Try.prog 46 #[.slice (some ⟨g, 0, none⟩) n n, .slice c.a3 c.n3 c.c3] W fun e w' => ∃ a cp, e = .returned (.slice a c.n3 cp) ∧ w'.ownsRow (w.heap.size + 2) 3 1 (.slice a c.n3 cp) c.n3 ((C.outs.map (renL C.ren)).map (Value.int .i64)) ∧ Below W.heap.size W w') := fun W t => (literals_any g n C.ren c.a3 c.n3 c.c3 C.outs W t.ren t.holds.r3 t.holds.l3 (by omega) (by rw [HNn.out]; exact in_outs HRt.out)).mono (fun e w' hh => by
    obtain ⟨v, rfl, hn, hbl⟩ := hh
    rw [List.length_map, t.holds.l3] at hn
    obtain ⟨a, cp, rfl⟩ := own_form hn
    exact ⟨a, cp, rfl, own_le hn t.res.lt, hbl⟩)
  have H4 : Hid (∀ W, NS w c C w.heap.size g n oa W → Calls Try.prog 46 #[.slice (some ⟨g, 0, none⟩) n n, .slice c.a4 c.n4 c.c4] W fun e w' => ∃ a cp, e = .returned (.slice a c.n4 cp) ∧ w'.ownsRow (w.heap.size + 2) 3 1 (.slice a c.n4 cp) c.n4 ((C.bads.map (renL C.ren)).map (Value.int .i64)) ∧ Below W.heap.size W w') := fun W t => (literals_any g n C.ren c.a4 c.n4 c.c4 C.bads W t.ren t.holds.r4 t.holds.l4 (by omega) (by rw [HNn.out]; exact in_bads HRt.out)).mono (fun e w' hh => by
    obtain ⟨v, rfl, hn, hbl⟩ := hh
    rw [List.length_map, t.holds.l4] at hn
    obtain ⟨a, cp, rfl⟩ := own_form hn
    exact ⟨a, cp, rfl, own_le hn t.res.lt, hbl⟩)
  have H5 : Hid (∀ W, NS w c C w.heap.size g n oa W → Calls Try.prog 46 #[.slice (some ⟨g, 0, none⟩) n n, .slice c.a5 c.n5 c.c5] W fun e w' => ∃ a cp, e = .returned (.slice a c.n5 cp) ∧ w'.ownsRow (w.heap.size + 2) 3 1 (.slice a c.n5 cp) c.n5 ((C.cons.map (renL C.ren)).map (Value.int .i64)) ∧ Below W.heap.size W w') := fun W t => (literals_any g n C.ren c.a5 c.n5 c.c5 C.cons W t.ren t.holds.r5 t.holds.l5 (by omega) (by rw [HNn.out]; exact in_cons HRt.out)).mono (fun e w' hh => by
    obtain ⟨v, rfl, hn, hbl⟩ := hh
    rw [List.length_map, t.holds.l5] at hn
    obtain ⟨a, cp, rfl⟩ := own_form hn
    exact ⟨a, cp, rfl, own_le hn t.res.lt, hbl⟩)
  have H2 : Hid (∀ W, NS w c C w.heap.size g n oa W → Calls Try.prog 47 #[.slice (some ⟨g, 0, none⟩) n n, .slice c.a2 c.n2 c.c2] W fun e w' => ∃ a cp, e = .returned (.slice a c.n2 cp) ∧ w'.ownsRow (w.heap.size + 2) 43 3 (.slice a c.n2 cp) c.n2 (cellsT (C.lats.map (renT C.ren))) ∧ Below W.heap.size W w') := fun W t => (latches_any g n C.ren c.a2 c.n2 c.c2 C.lats W t.ren t.holds.r2 t.holds.l2 (by omega) (by rw [HNn.out]; exact in_lats HRt.out)).mono (fun e w' hh => by
    obtain ⟨v, rfl, hn, hbl⟩ := hh
    obtain ⟨a, cp, rfl⟩ := own_form hn
    exact ⟨a, cp, rfl, own_le hn t.res.lt, hbl⟩)
  have H6 : Hid (∀ W, NS w c C w.heap.size g n oa W → Calls Try.prog 48 #[.slice (some ⟨g, 0, none⟩) n n, .slice c.a6 c.n6 c.c6, .slice oa c.n6 oc] W fun e w' => ∃ a cp, e = .returned (.slice a c.n6 cp) ∧ w'.ownsRow (w.heap.size + 2) 46 3 (.slice a c.n6 cp) c.n6 (cellsT (C.turn.map (fun i => renA C.ren (atP C.ands i)))) ∧ Below W.heap.size W w') := fun W t => (ands_any g n C.ren c.a6 oa c.n6 c.c6 c.n6 oc C.ands C.turn W t.ren t.holds.r6 t.holds.l6 t.ord hol.out turn_lt (by omega) (by omega) (by rw [HNn.out]; exact in_ands HRt.out)).mono (fun e w' hh => by
    obtain ⟨v, rfl, hn, hbl⟩ := hh
    obtain ⟨a, cp, rfl⟩ := own_form hn
    exact ⟨a, cp, rfl, own_le hn t.res.lt, hbl⟩)
  have H7 : Hid (∀ W, NS w c C w.heap.size g n oa W → Calls Try.prog 49 #[.slice c.a7 c.n7 c.c7] W fun e w' => ∃ a cp, e = .returned (.slice a c.n7 cp) ∧ w'.ownsRow (w.heap.size + 2) 49 3 (.slice a c.n7 cp) c.n7 (cellsS C.names) ∧ Below W.heap.size W w') := fun W t => (copied_any c.a7 c.n7 c.c7 C.names W t.holds.r7 t.holds.l7 (by omega) HNf.out).mono (fun e w' hh => by
    obtain ⟨v, rfl, hn, hbl⟩ := hh
    obtain ⟨a, cp, rfl⟩ := own_form hn
    exact ⟨a, cp, rfl, own_le hn t.res.lt, hbl⟩)
  clear HNf HCV S3
  go_wp2
  go_region_held3 (fun w' => w'.cell? ⟨w.heap.size, 0, none⟩ = some (.int .i64 c.m) ∧ w'.cell? ⟨w.heap.size, 1, none⟩ = some (.slice c.a1 c.n1 c.c1) ∧ w'.cell? ⟨w.heap.size, 2, none⟩ = some (.slice c.a2 c.n2 c.c2) ∧ w'.cell? ⟨w.heap.size, 3, none⟩ = some (.slice c.a3 c.n3 c.c3) ∧ w'.cell? ⟨w.heap.size, 4, none⟩ = some (.slice c.a4 c.n4 c.c4) ∧ w'.cell? ⟨w.heap.size, 5, none⟩ = some (.slice c.a5 c.n5 c.c5) ∧ w'.cell? ⟨w.heap.size, 6, none⟩ = some (.slice c.a6 c.n6 c.c6) ∧ w'.cell? ⟨w.heap.size, 7, none⟩ = some (.slice c.a7 c.n7 c.c7)) (first | with_reducible exact t8.box.cells | with_reducible exact t7.box.cells | with_reducible exact t6.box.cells | with_reducible exact t5.box.cells | with_reducible exact t4.box.cells | with_reducible exact t3.box.cells | with_reducible exact t2.box.cells | with_reducible exact t1.box.cells | go_keep) (first | (go_at_call 21; refine (H0.out _ (TD.out _)).mono ?_; rintro e v1 ⟨rfl, hb⟩; have t1 := (TD.out _).then hb; clear hb) | (go_at_call_of 46 (Value.slice c.a1 c.n1 c.c1); refine (H1.out _ t1).mono ?_; rintro e v2 ⟨A1, K1, rfl, ho, hb⟩; have t2 := t1.then hb; have O1 := hide ho; clear ho hb) | (go_at_call 47; refine (H2.out _ t2).mono ?_; rintro e v3 ⟨A2, K2, rfl, ho, hb⟩; have t3 := t2.then hb; replace O1 := hide (own_below O1.out hb); have O2 := hide ho; clear ho hb) | (go_at_call_of 46 (Value.slice c.a3 c.n3 c.c3); refine (H3.out _ t3).mono ?_; rintro e v4 ⟨A3, K3, rfl, ho, hb⟩; have t4 := t3.then hb; replace O1 := hide (own_below O1.out hb); replace O2 := hide (own_below O2.out hb); have O3 := hide ho; clear ho hb) | (go_at_call_of 46 (Value.slice c.a4 c.n4 c.c4); refine (H4.out _ t4).mono ?_; rintro e v5 ⟨A4, K4, rfl, ho, hb⟩; have t5 := t4.then hb; replace O1 := hide (own_below O1.out hb); replace O2 := hide (own_below O2.out hb); replace O3 := hide (own_below O3.out hb); have O4 := hide ho; clear ho hb) | (go_at_call_of 46 (Value.slice c.a5 c.n5 c.c5); refine (H5.out _ t5).mono ?_; rintro e v6 ⟨A5, K5, rfl, ho, hb⟩; have t6 := t5.then hb; replace O1 := hide (own_below O1.out hb); replace O2 := hide (own_below O2.out hb); replace O3 := hide (own_below O3.out hb); replace O4 := hide (own_below O4.out hb); have O5 := hide ho; clear ho hb) | (go_at_call 48; refine (H6.out _ t6).mono ?_; rintro e v7 ⟨A6, K6, rfl, ho, hb⟩; have t7 := t6.then hb; replace O1 := hide (own_below O1.out hb); replace O2 := hide (own_below O2.out hb); replace O3 := hide (own_below O3.out hb); replace O4 := hide (own_below O4.out hb); replace O5 := hide (own_below O5.out hb); have O6 := hide ho; clear ho hb) | (go_at_call 49; refine (H7.out _ t7).mono ?_; rintro e v8 ⟨A7, K7, rfl, ho, hb⟩; have t8 := t7.then hb; replace O1 := hide (own_below O1.out hb); replace O2 := hide (own_below O2.out hb); replace O3 := hide (own_below O3.out hb); replace O4 := hide (own_below O4.out hb); replace O5 := hide (own_below O5.out hb); replace O6 := hide (own_below O6.out hb); have O7 := hide ho; clear ho hb; obtain ⟨q0, q1, q2, q3, q4, q5, q6, q7⟩ := t8.res.cells; have f0 := box_frozen t8.res 0; have f1 := box_frozen t8.res 1; have f2 := box_frozen t8.res 2; have f3 := box_frozen t8.res 3; have f4 := box_frozen t8.res 4; have f5 := box_frozen t8.res 5; have f6 := box_frozen t8.res 6; have f7 := box_frozen t8.res 7))
  go_wp2
  have hb := hide (box_put ⟨nv, A1, c.n1, K1, A2, c.n2, K2, A3, c.n3, K3, A4, c.n4, K4, A5, c.n5, K5, A6, c.n6, K6, A7, c.n7, K7⟩ t8.res)
  have ht := hide (two_put v8 (w.heap.size + 1) ⟨nv, A1, c.n1, K1, A2, c.n2, K2, A3, c.n3, K3, A4, c.n4, K4, A5, c.n5, K5, A6, c.n6, K6, A7, c.n7, K7⟩)
  have hbel : Hid (Below w.heap.size w (putBox v8 (w.heap.size + 1) ⟨nv, A1, c.n1, K1, A2, c.n2, K2, A3, c.n3, K3, A4, c.n4, K4, A5, c.n5, K5, A6, c.n6, K6, A7, c.n7, K7⟩)) := ht.out.below t8.below (Nat.le_refl _) (Nat.le_succ _) (Nat.le_succ _)
  clear p0 p1 p2 p3 p4 p5 p6 p7 q0 q1 q2 q3 q4 q5 q6 q7 f0 f1 f2 f3 f4 f5 f6 f7
  show bodyPost _ _ _ _ _ (putBox v8 (w.heap.size + 1) ⟨nv, A1, c.n1, K1, A2, c.n2, K2, A3, c.n3, K3, A4, c.n4, K4, A5, c.n5, K5, A6, c.n6, K6, A7, c.n7, K7⟩)
  have R1 := hide (rowC_own' (own_two O1.out ht.out (Nat.lt_succ_self _) (Nat.lt_succ_self _)))
  have R2 := hide (rowC_own' (own_two O2.out ht.out (Nat.lt_succ_self _) (Nat.lt_succ_self _)))
  have R3 := hide (rowC_own' (own_two O3.out ht.out (Nat.lt_succ_self _) (Nat.lt_succ_self _)))
  have R4 := hide (rowC_own' (own_two O4.out ht.out (Nat.lt_succ_self _) (Nat.lt_succ_self _)))
  have R5 := hide (rowC_own' (own_two O5.out ht.out (Nat.lt_succ_self _) (Nat.lt_succ_self _)))
  have R6 := hide (rowC_own' (own_two O6.out ht.out (Nat.lt_succ_self _) (Nat.lt_succ_self _)))
  have R7 := hide (rowC_own' (own_two O7.out ht.out (Nat.lt_succ_self _) (Nat.lt_succ_self _)))
  clear t1 t2 t3 t4 t5 t6 t7 TD H0 H1 H2 H3 H4 H5 H6 H7 O1 O2 O3 O4 O5 O6 O7
  generalize putBox v8 (w.heap.size + 1) ⟨nv, A1, c.n1, K1, A2, c.n2, K2, A3, c.n3, K3, A4, c.n4, K4, A5, c.n5, K5, A6, c.n6, K6, A7, c.n7, K7⟩ = Wf at *
  obtain ⟨r0, r1, r2, r3, r4, r5, r6, r7⟩ := hb.out.cells
  dsimp only at r0 r1 r2 r3 r4 r5 r6 r7
  refine bodyPost_ret (v := .tuple #[.agg #[.int .i64 nv, .slice A1 c.n1 K1, .slice A2 c.n2 K2, .slice A3 c.n3 K3, .slice A4 c.n4 K4, .slice A5 c.n5 K5, .slice A6 c.n6 K6, .slice A7 c.n7 K7], .int .i64 0]) (by simp [results, Try.results26, go_sem, *]) rfl ?_
  have hl := HL.out
  refine ⟨⟨nv, A1, c.n1, K1, A2, c.n2, K2, A3, c.n3, K3, A4, c.n4, K4, A5, c.n5, K5, A6, c.n6, K6, A7, c.n7, K7⟩, rfl, ⟨hnv.out, rowK_of_C R1.out.1, (List.length_map _).trans hl.l1, R1.out.2, R2.out.1, (List.length_map _).trans hl.l2, R2.out.2, rowK_of_C R3.out.1, (List.length_map _).trans hl.l3, R3.out.2, rowK_of_C R4.out.1, (List.length_map _).trans hl.l4, R4.out.2, rowK_of_C R5.out.1, (List.length_map _).trans hl.l5, R5.out.2, R6.out.1, (List.length_map _).trans hol.out, R6.out.2, R7.out.1, hl.l7, R7.out.2⟩, ⟨?_, ?_, ?_, ?_, ?_, ?_, ?_⟩, hnv.out, hbel.out⟩
  · show c.n1 ≤ 1000000; omega
  · show c.n2 ≤ 1000000; omega
  · show c.n3 ≤ 1000000; omega
  · show c.n4 ≤ 1000000; omega
  · show c.n5 ≤ 1000000; omega
  · show c.n6 ≤ 1000000; omega
  · show c.n7 ≤ 1000000; omega

theorem normal_any (c : CV) (C : Circ) (w : World) (h : Holds w c C) (hf : Fits c C) :
    Calls Try.prog 26 #[c.v] w fun e w' => ∃ d : CV, e = .returned (.tuple #[d.v, .int .i64 C.checkI]) ∧ Holds w' d C.normE ∧ Read d ∧ d.m = C.normE.max ∧ Below w.heap.size w w' := by
  by_cases hg : C.checkI = 0
  · rw [show C.normE = C.norm from if_pos hg, hg]
    exact normal_good c C w h hf hg
  · rw [show C.normE = Circ.nil from if_neg hg]
    refine (normal_bad c C w h hf hg).mono (fun e w' hh => ⟨CV.nil, hh.1, holds_nil w', ⟨by decide, by decide, by decide, by decide, by decide, by decide, by decide⟩, rfl, hh.2⟩)
end Go.Proofs.Ytppaifckiaaffaa
