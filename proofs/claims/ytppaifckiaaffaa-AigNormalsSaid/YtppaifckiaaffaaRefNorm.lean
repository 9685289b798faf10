/-
  THE WALK of the reference's Normal, of a circuit that is right.
-/
import Derived.Test.YtppaifckiaaffaaRefNormQ
import Derived.Deep.Cut
import Derived.Deep.CutRange
import Derived.Deep.Light
namespace Go.Proofs.Ytppaifckiaaffaa
open Go.RowKit

set_option maxRecDepth 100000 in
set_option maxHeartbeats 16000000 in
theorem refNormal_good (c : CV) (C : Circ) (w : World) (h : Holds w c C) (rc : Read c) (hm63 : I64 c.m) (hN : NamesFit C) (hgood : C.checkI = 0) :
    Calls Try.prog 27 #[c.v] w fun e w' => ∃ d : CV, e = .returned (.tuple #[d.v, .int .i64 0]) ∧ Holds w' d C.norm ∧ Read d ∧ Below w.heap.size w w' := by
  obtain ⟨i0, hi, hz0, hz1, hz2⟩ := info_parts infoInt
  obtain ⟨i7, hi7, hv0, hv1, hv2⟩ := info_parts infoT7
  have HRt := hide (right_of hgood)
  have HC := hide (fun W (hb : Below w.heap.size w W) => refCheck_read c C W (h.below hb) rc hm63 hN)
  rw [hgood] at HC
  have hol : Hid (C.turn.length = c.n6) := HRt.out.turn.trans h.l6
  have HL := hide h
  have HK := hide (fun W (hb : Below w.heap.size w W) => kinds_any c C W (HL.out.below hb) HRt.out.small HRt.out.lits)
  have HSo : Hid (∀ W, Below w.heap.size w W → ∀ g ks, Kd (C.max.toNat + 1) C.kindT ks → W.ownsRow w.heap.size 3 1 (.slice (some ⟨g, 0, none⟩) (C.max.toNat + 1) (C.max.toNat + 1)) (C.max.toNat + 1) (ks.map (Value.int .i64)) → Calls Try.prog 44 #[c.v, .slice (some ⟨g, 0, none⟩) (C.max.toNat + 1) (C.max.toNat + 1)] W fun e w' => ∃ oa oc, e = .returned (.tuple #[.slice oa c.n6 oc, .bool true]) ∧ RowK .i64 w' oa (C.turn.map (fun k : Nat => (k : Int))) ∧ Below W.heap.size W w') := fun W hb g ks hK hown => by
    obtain ⟨a, cp, e, hr, -, hl, -⟩ := row_of_own hown
    cases e
    refine (sort_any c C (some ⟨g, 0, none⟩) (C.max.toNat + 1) (C.max.toNat + 1) ks W (HL.out.below hb) HRt.out.small HRt.out.lits rfl hr hl (kind_three hK HRt.out.once)).mono (fun e w' hh => ?_)
    obtain ⟨hbl, ⟨-, v, rfl, hn⟩ | ⟨hlt, -⟩⟩ := hh
    · have e2 : C.turn.map natV = (C.turn.map (fun k : Nat => (k : Int))).map (Value.int .i64) := by rw [List.map_map]; rfl
      rw [e2] at hn
      obtain ⟨a2, c2, rfl, hr2, -⟩ := row_of_own hn
      exact ⟨a2, c2, by rw [hol.out], hr2, hbl⟩
    · have := HRt.out.turn
      omega
  have hn1 : c.n1 ≤ 64 := by rw [← h.l1]; exact HRt.out.small.ins
  have hn2 : c.n2 ≤ 64 := by rw [← h.l2]; exact HRt.out.small.lats
  have hn3 : c.n3 ≤ 64 := by rw [← h.l3]; exact HRt.out.small.outs
  have hn4 : c.n4 ≤ 64 := by rw [← h.l4]; exact HRt.out.small.bads
  have hn5 : c.n5 ≤ 64 := by rw [← h.l5]; exact HRt.out.small.cons
  have hn6 : c.n6 ≤ 2000 := by rw [← h.l6]; exact HRt.out.small.ands
  have hn7 : c.n7 ≤ 320 := by rw [← h.l7]; exact HRt.out.small.names
  have hm0 : 0 ≤ c.m := by rw [h.m]; exact HRt.out.lits.max
  have hm5 : c.m ≤ 5000 := by rw [h.m]; exact HRt.out.small.max
  have HLn : Hid (C.order.length = c.n1 + c.n2 + c.n6) := by show C.order.length = _; rw [order_len, h.l1, h.l2, hol.out]
  have HNf := hide hN
  have S0 := hide (copy_start w c)
  obtain ⟨n, hn⟩ : ∃ n, n = C.max.toNat + 1 := ⟨_, rfl⟩
  have hnm : c.m + 1 = (n : Int) := by rw [hn, ← h.m]; omega
  have hnb : n ≤ 10000 := by omega
  have HNn := hide hn
  rw [← hn] at HK HSo
  clear h rc hm63 hN hgood hn
  have hcv : c.v = .agg #[.int .i64 c.m, .slice c.a1 c.n1 c.c1, .slice c.a2 c.n2 c.c2, .slice c.a3 c.n3 c.c3, .slice c.a4 c.n4 c.c4, .slice c.a5 c.n5 c.c5, .slice c.a6 c.n6 c.c6, .slice c.a7 c.n7 c.c7] := rfl
  have HCV := hide hcv
  rw [hcv] at HC HK HSo ⊢
  clear hcv
  go_enter Try.func27, Try.ntmps27
  go_wp2_with fail
  refine (HC.out _ S0.out.below).mono ?_
  rintro e w1 ⟨rfl, hb1⟩
  have S1 : Hid (CopyS w w.heap.size c w1) := ⟨S0.out.box.below hb1, S0.out.res.below hb1, belowThen S0.out.below hb1, Nat.le_refl _⟩
  obtain ⟨p0, p1, p2, p3, p4, p5, p6, p7⟩ := S1.out.box.cells
  clear S0 HC hb1
  go_wp2_with fail
  refine (HK.out _ S1.out.below).mono ?_
  rintro e w2 ⟨hb2, gk, ks, rfl, hKd, hown2⟩
  have S2 : Hid (CopyS w w.heap.size c w2) := ⟨S1.out.box.below hb2, S1.out.res.below hb2, belowThen S1.out.below hb2, Nat.le_refl _⟩
  have HS2 := hide (HSo.out w2 S2.out.below gk ks hKd (own_le hown2 S1.out.below.size))
  clear p0 p1 p2 p3 p4 p5 p6 p7 S1 HK hb2 hKd hown2 HSo
  obtain ⟨p0, p1, p2, p3, p4, p5, p6, p7⟩ := S2.out.box.cells
  go_wp2_with fail
  refine HS2.out.mono ?_
  rintro e w3 ⟨oa, oc, rfl, ho3, hb3⟩
  have S3 : Hid (R3 w c C oa w3) := ⟨S2.out.box.below hb3, S2.out.res.below hb3, HL.out.below (belowThen S2.out.below hb3), ho3, belowThen S2.out.below hb3⟩
  clear p0 p1 p2 p3 p4 p5 p6 p7 S2 HS2 hb3 ho3
  obtain ⟨p0, p1, p2, p3, p4, p5, p6, p7⟩ := S3.out.box.cells
  go_wp2_with (first | (at_make; refine wpList_make_full _ rfl _ _ 22 rfl w3.heap.size 3 i0 (.int .i64 0) 1 Try.underlying22 hi hz0 hz1 .i64 .i64 _ _ n rfl rfl (by first | rfl | omega) (by first | rfl | omega) (by rw [hz2]; omega) (by unfold maxLen; omega) (by simp) ?_; intro w4 hown hg4; rw [madeI] at hown; have HM0 : Hid (LMk w3 w3.heap.size n (List.replicate n 0) w4) := ⟨hown, (Below.refl _ _).grown hg4 (Nat.le_refl _) (fun k hk => by cases hk)⟩; clear hown hg4))
  rw [show List.replicate n (0 : Int) = C.renK 0 by rw [HNn.out]; rfl] at HM0
  clear p0 p1 p2 p3 p4 p5 p6 p7
  go_loopw [10, 11] (fun nn i wr => ∃ (k : Nat), i = .int .i64 k ∧ nn = .int .i64 k ∧ k ≤ c.n1 ∧ Hid (LMk w3 w3.heap.size n (C.renK k) wr)) (fun _ i _ => c.n1 - (intOf i).toNat)
  case atStart => exact ⟨0, rfl, rfl, Nat.zero_le _, HM0.out⟩
  case round =>
    clear HM0
    obtain ⟨k, rfl, rfl, hk, HF⟩ := hrel
    obtain ⟨-, q1, q2, -, -, -, q6, -⟩ := (S3.out.then HF.out.below).box.cells
    by_cases hlt : k < c.n1
    · obtain ⟨b, off, ha, hbw, hcell⟩ := S3.out.holds.r1.addr (by rw [HL.out.l1]; omega)
      have hc0 := (HF.out.below.cell (p := ⟨b, off + k, none⟩) hbw).trans (hcell k (by rw [HL.out.l1]; exact hlt))
      rw [atP_getD] at hc0
      have hlo := own_lit HRt.out.lits (made_in (k := k) (by rw [HL.out.l1]; exact hlt))
      have HS : Hid (C.renK (k + 1) = (C.renK k).set (varN (atP C.ins k)) ((k + 1 : Nat) : Int)) := by
        show C.renK (k + 1) = _
        rw [renK_succ (by rw [HLn.out]; omega), order_in (by rw [HL.out.l1]; exact hlt)]
      rw [← HNn.out] at hlo
      generalize atP C.ins k = x at hc0 hlo HS
      obtain ⟨x0, xv⟩ := hlo
      have hq := tdiv_two x0
      generalize varN x = v at hq xv HS
      have hcm := row_at HF.out.own v xv
      have hfm := HF.out.own.frozenAt v
      generalize atP (C.renK k) v = y0 at hcm
      have HSt := hide (HF.out.set v ((k + 1 : Nat) : Int))
      rw [ha] at q1
      have HA := hide ha
      clear hcell ha q2 q6
      go_wp2
      go_roundw
      case rel => exact ⟨k + 1, by go_num, by go_num, by omega, by rw [HS.out]; exact HSt.out⟩
      case measure => simp [intOf]; omega
    · obtain rfl : k = c.n1 := by omega
      have HM1 := hide HF.out
      clear HF hlt hk q6
      go_wp2
      rename World => wo
      go_loopw [10, 12] (fun nn i wr => ∃ (k : Nat), i = .int .i64 k ∧ nn = .int .i64 ((c.n1 + k : Nat) : Int) ∧ k ≤ c.n2 ∧ Hid (LMk w3 w3.heap.size n (C.renK (c.n1 + k)) wr)) (fun _ i _ => c.n2 - (intOf i).toNat)
      case atStart => exact ⟨0, rfl, rfl, Nat.zero_le _, HM1.out⟩
      case round =>
        clear HM1 q1 q2
        obtain ⟨k, rfl, rfl, hk, HF⟩ := hrel
        obtain ⟨-, q1, q2, -, -, -, q6, -⟩ := (S3.out.then HF.out.below).box.cells
        by_cases hlt : k < c.n2
        · obtain ⟨b, off, ha, hbw, hcell⟩ := S3.out.holds.r2.addr (by rw [cellsT_len, HL.out.l2]; omega)
          have hat := cellsT_at C.lats k (by rw [HL.out.l2]; exact hlt)
          have hc0 := (HF.out.below.cell (p := ⟨b, off + k * 3, none⟩) hbw).trans (hcell _ _ hat.1)
          have hlo := own_lit HRt.out.lits (made_lat (k := k) (by rw [HL.out.l2]; exact hlt))
          have HS : Hid (C.renK (c.n1 + (k + 1)) = (C.renK (c.n1 + k)).set (varN (atP C.lats k).1) ((c.n1 + k + 1 : Nat) : Int)) := by
            show C.renK (c.n1 + (k + 1)) = _
            have e := order_lat (C := C) (k := k) (by rw [HL.out.l2]; exact hlt)
            rw [HL.out.l1] at e
            rw [← Nat.add_assoc, renK_succ (by rw [HLn.out]; omega), e]
          rw [← HNn.out] at hlo
          generalize (atP C.lats k).1 = x at hc0 hlo HS
          obtain ⟨x0, xv⟩ := hlo
          have hq := tdiv_two x0
          generalize varN x = v at hq xv HS
          have hcm := row_at HF.out.own v xv
          have hfm := HF.out.own.frozenAt v
          generalize atP (C.renK (c.n1 + k)) v = y0 at hcm
          have HSt := hide (HF.out.set v ((c.n1 + k + 1 : Nat) : Int))
          rw [ha] at q2
          have HA := hide ha
          clear hcell ha q1 q6 hat
          go_wp2
          go_roundw
          case rel => exact ⟨k + 1, by go_num, by go_num, by omega, by rw [HS.out]; exact HSt.out⟩
          case measure => simp [intOf]; omega
        · obtain rfl : k = c.n2 := by omega
          have HM1 := hide HF.out
          clear HF hlt hk q1 q6
          go_wp2
          rename World => wo2
          go_loopw [10, 13] (fun nn i wr => ∃ (k : Nat), i = .int .i64 k ∧ nn = .int .i64 ((c.n1 + c.n2 + k : Nat) : Int) ∧ k ≤ c.n6 ∧ Hid (LMk w3 w3.heap.size n (C.renK (c.n1 + c.n2 + k)) wr)) (fun _ i _ => c.n6 - (intOf i).toNat)
          case atStart => exact ⟨0, rfl, rfl, Nat.zero_le _, HM1.out⟩
          case round =>
            clear HM1 q2
            obtain ⟨k, rfl, rfl, hk, HF⟩ := hrel
            obtain ⟨-, q1, q2, q3, q4, q5, q6, q7⟩ := (S3.out.then HF.out.below).box.cells
            by_cases hlt : k < c.n6
            · obtain ⟨bo, oo, hao, hbo, hocell⟩ := S3.out.ord.addr (by rw [List.length_map, hol.out]; omega)
              have ho0 := (HF.out.below.cell (p := ⟨bo, oo + k, none⟩) hbo).trans (hocell k (by rw [List.length_map, hol.out]; exact hlt))
              rw [atP_getD, atP_map _ _ _ (by rw [hol.out]; exact hlt)] at ho0
              have hpl := turn_lt _ (atP_mem C.turn k (by rw [hol.out]; exact hlt))
              have HS : Hid (C.renK (c.n1 + c.n2 + (k + 1)) = (C.renK (c.n1 + c.n2 + k)).set (varN (atP C.ands (atP C.turn k)).1) ((c.n1 + c.n2 + k + 1 : Nat) : Int)) := by
                show C.renK (c.n1 + c.n2 + (k + 1)) = _
                have e := order_and (C := C) (k := k) (by rw [hol.out]; exact hlt)
                rw [HL.out.l1, HL.out.l2] at e
                rw [← Nat.add_assoc, renK_succ (by rw [HLn.out]; omega), e]
                rfl
              generalize atP C.turn k = p at ho0 hpl HS
              obtain ⟨b, off, ha, hbw, hcell⟩ := S3.out.holds.r6.addr (by rw [cellsT_len]; omega)
              have hat := cellsT_at C.ands p hpl
              have hc0 := (HF.out.below.cell (p := ⟨b, off + p * 3, none⟩) hbw).trans (hcell _ _ hat.1)
              have hlo := own_lit HRt.out.lits (made_and hpl)
              rw [← HNn.out] at hlo
              rw [HL.out.l6] at hpl
              generalize (atP C.ands p).1 = x at hc0 hlo HS
              obtain ⟨x0, xv⟩ := hlo
              have hq := tdiv_two x0
              generalize varN x = v at hq xv HS
              have hcm := row_at HF.out.own v xv
              have hfm := HF.out.own.frozenAt v
              generalize atP (C.renK (c.n1 + c.n2 + k)) v = y0 at hcm
              have HSt : Hid (∀ q, LMk w3 w3.heap.size n ((C.renK (c.n1 + c.n2 + k)).set v ((c.n1 + c.n2 + k + 1 : Nat) : Int)) ((wr.drewN q).setCell ⟨w3.heap.size, v, none⟩ (.int .i64 ((c.n1 + c.n2 + k + 1 : Nat) : Int)))) := fun q => LMk.set (wr := wr.drewN q) ⟨own_like HF.out.own rfl, belowThen HF.out.below (Drew.below ⟨q, rfl⟩)⟩ v _
              rw [ha] at q6
              subst hao
              have HA := hide ha
              have hk0 : (0 : Int) ≤ (k : Int) := by omega
              have hk1 : (k : Int) < (c.n6 : Int) := by omega
              have hp0 : (0 : Int) ≤ (p : Int) := by omega
              have hp1 : (p : Int) < (c.n6 : Int) := by omega
              have hv0 : (0 : Int) ≤ (v : Int) := by omega
              have hv1 : (v : Int) < (n : Int) := by omega
              have hqw : IntKind.i64.wrap (x.tdiv 2) = (v : Int) := by rw [hq, IntKind.wrap_i64]; omega
              have hwv : IntKind.i64.wrap (v : Int) = (v : Int) := by rw [IntKind.wrap_i64]; omega
              have hne1 : w3.heap.size ≠ w.heap.size := by have := S3.out.box.lt; omega
              have hne2 : w3.heap.size ≠ bo := by omega
              have hne3 : w3.heap.size ≠ b := by omega
              have HSt1 : Hid (LMk w3 w3.heap.size n ((C.renK (c.n1 + c.n2 + k)).set v ((c.n1 + c.n2 + k + 1 : Nat) : Int)) ((wr.setCell ⟨w3.heap.size, v, none⟩ (.int .i64 ((c.n1 + c.n2 + k + 1 : Nat) : Int))).drew)) := ⟨own_like (HF.out.set v _).own rfl, belowThen (HF.out.set v _).below (Drew.below ⟨1, rfl⟩)⟩
              have hqd : x / 2 = (v : Int) := by rw [← hq]; exact (Int.tdiv_eq_ediv_of_nonneg x0).symm
              clear hcell hocell ha hat q1 q2 q3 q4 q5 q7
              go_wp2
              go_region_held3 (fun w' => w'.cell? ⟨w.heap.size, 6, none⟩ = some (.slice (some ⟨b, off, none⟩) c.n6 c.c6) ∧ w'.cell? ⟨bo, oo + k, none⟩ = some (.int .i64 (p : Int)) ∧ w'.cell? ⟨b, off + p * 3, none⟩ = some (.int .i64 x)) (go_keep) (fail)
              all_goals go_wp2
              all_goals go_roundw
              case rel => exact ⟨k + 1, by go_num, by go_num, by omega, by rw [HS.out]; first | exact HSt1.out | exact HSt.out _⟩
              case measure => simp [intOf]; omega
            · obtain rfl : k = c.n6 := by omega
              have HM1 := hide HF.out
              rw [renK_all C (by rw [HLn.out])] at HM1
              have t0 : Hid (NT w c C oa w3 w3.heap.size n wr) := ⟨S3.out.then HM1.out.below, HM1.out⟩
              have TD1 : Hid (NT w c C oa w3 w3.heap.size n wr.drew) := t0.out.then (Drew.below ⟨1, rfl⟩)
              have TD2 : Hid (∀ o, NT w c C oa w3 w3.heap.size n (wr.alloc o).drew) := fun o => t0.out.then (belowThen (below_alloc _ o) (Drew.below ⟨1, rfl⟩))
              have HW3 : Hid (w.heap.size < w3.heap.size) := S3.out.box.lt
              have HZ7 := hide HL.out.z7
              have HX7 : Hid (0 + c.n7 ≤ maxLen) := by show 0 + c.n7 ≤ maxLen; unfold maxLen; omega
              have HY7 : Hid ((0 + c.n7) * 32 ≤ 140737488355328) := by show (0 + c.n7) * 32 ≤ 140737488355328; omega
              have HE7 : Hid ((cellsS C.names).length = c.n7 * 3) := by show (cellsS C.names).length = c.n7 * 3; rw [cellsS_len, HL.out.l7]
              have HNv : Hid (((c.n1 + c.n2 + c.n6 : Nat) : Int) = C.norm.max) := by
                show ((c.n1 + c.n2 + c.n6 : Nat) : Int) = C.norm.max
                rw [← HL.out.l1, ← HL.out.l2, ← HL.out.l6]; rfl
              generalize ((c.n1 + c.n2 + c.n6 : Nat) : Int) = nv at HNv ⊢
              have H1 : Hid (∀ W, NT w c C oa w3 w3.heap.size n W → Calls Try.prog 50 #[.slice (some ⟨w3.heap.size, 0, none⟩) n n, .slice c.a1 c.n1 c.c1] W fun e w' => ∃ a cp, e = .returned (.slice a c.n1 cp) ∧ w'.ownsRow w3.heap.size 3 1 (.slice a c.n1 cp) c.n1 ((C.ins.map (renL C.ren)).map (Value.int .i64)) ∧ Below W.heap.size W w') := fun W t => (all_any w3.heap.size n C.ren c.a1 c.n1 c.c1 C.ins W (ren_of t.lm.own hnb (ren_small HRt.out.small)) t.r3.holds.r1 t.r3.holds.l1 (by omega) (by rw [HNn.out]; exact in_ins HRt.out)).mono (fun e w' hh => by
                obtain ⟨v, rfl, hn, hbl⟩ := hh
                rw [List.length_map, t.r3.holds.l1] at hn
                obtain ⟨a, cp, rfl⟩ := own_form hn
                exact ⟨a, cp, rfl, own_le hn t.lm.below.size, hbl⟩)
              have H3 : Hid (∀ W, NT w c C oa w3 w3.heap.size n W → Calls Try.prog 50 #[.slice (some ⟨w3.heap.size, 0, none⟩) n n, .slice c.a3 c.n3 c.c3] W fun e w' => ∃ a cp, e = .returned (.slice a c.n3 cp) ∧ w'.ownsRow w3.heap.size 3 1 (.slice a c.n3 cp) c.n3 ((C.outs.map (renL C.ren)).map (Value.int .i64)) ∧ Below W.heap.size W w') := fun W t => (all_any w3.heap.size n C.ren c.a3 c.n3 c.c3 C.outs W (ren_of t.lm.own hnb (ren_small HRt.out.small)) t.r3.holds.r3 t.r3.holds.l3 (by omega) (by rw [HNn.out]; exact in_outs HRt.out)).mono (fun e w' hh => by
                obtain ⟨v, rfl, hn, hbl⟩ := hh
                rw [List.length_map, t.r3.holds.l3] at hn
                obtain ⟨a, cp, rfl⟩ := own_form hn
                exact ⟨a, cp, rfl, own_le hn t.lm.below.size, hbl⟩)
              have H4 : Hid (∀ W, NT w c C oa w3 w3.heap.size n W → Calls Try.prog 50 #[.slice (some ⟨w3.heap.size, 0, none⟩) n n, .slice c.a4 c.n4 c.c4] W fun e w' => ∃ a cp, e = .returned (.slice a c.n4 cp) ∧ w'.ownsRow w3.heap.size 3 1 (.slice a c.n4 cp) c.n4 ((C.bads.map (renL C.ren)).map (Value.int .i64)) ∧ Below W.heap.size W w') := fun W t => (all_any w3.heap.size n C.ren c.a4 c.n4 c.c4 C.bads W (ren_of t.lm.own hnb (ren_small HRt.out.small)) t.r3.holds.r4 t.r3.holds.l4 (by omega) (by rw [HNn.out]; exact in_bads HRt.out)).mono (fun e w' hh => by
                obtain ⟨v, rfl, hn, hbl⟩ := hh
                rw [List.length_map, t.r3.holds.l4] at hn
                obtain ⟨a, cp, rfl⟩ := own_form hn
                exact ⟨a, cp, rfl, own_le hn t.lm.below.size, hbl⟩)
              have H5 : Hid (∀ W, NT w c C oa w3 w3.heap.size n W → Calls Try.prog 50 #[.slice (some ⟨w3.heap.size, 0, none⟩) n n, .slice c.a5 c.n5 c.c5] W fun e w' => ∃ a cp, e = .returned (.slice a c.n5 cp) ∧ w'.ownsRow w3.heap.size 3 1 (.slice a c.n5 cp) c.n5 ((C.cons.map (renL C.ren)).map (Value.int .i64)) ∧ Below W.heap.size W w') := fun W t => (all_any w3.heap.size n C.ren c.a5 c.n5 c.c5 C.cons W (ren_of t.lm.own hnb (ren_small HRt.out.small)) t.r3.holds.r5 t.r3.holds.l5 (by omega) (by rw [HNn.out]; exact in_cons HRt.out)).mono (fun e w' hh => by
                obtain ⟨v, rfl, hn, hbl⟩ := hh
                rw [List.length_map, t.r3.holds.l5] at hn
                obtain ⟨a, cp, rfl⟩ := own_form hn
                exact ⟨a, cp, rfl, own_le hn t.lm.below.size, hbl⟩)
              clear HF hlt hk q2 q6 hol
              go_upto_region 23 with fail
              go_cut [14] from 99 to 119 (fun p wx => ∃ b : Nat, p = .pointer (some ⟨b, 0, none⟩) ∧ Hid (∃ d : CV, RD w3 C w3.heap.size n b [] [] d wx ∧ d.m = nv))
              case first =>
                rename_i J K2 hJ hK
                have hMK : ∀ a w, J a w → K2 a w := fun a w h => hK a w (Met.intro h)
                clear hK
                go_light
                clear S3 HM1 HRt HLn HNf HCV HNn hm0 hm5 hnm hnb hi hz0 hz1 hz2
                go_region_held3 (fun w' => w'.cell? ⟨w.heap.size, 1, none⟩ = some (.slice c.a1 c.n1 c.c1) ∧ w'.cell? ⟨w.heap.size, 3, none⟩ = some (.slice c.a3 c.n3 c.c3) ∧ w'.cell? ⟨w.heap.size, 4, none⟩ = some (.slice c.a4 c.n4 c.c4) ∧ w'.cell? ⟨w.heap.size, 5, none⟩ = some (.slice c.a5 c.n5 c.c5) ∧ w'.cell? ⟨w.heap.size, 7, none⟩ = some (.slice c.a7 c.n7 c.c7)) (first | with_reducible exact five_put t (Nat.lt_of_lt_of_le HW3.out PB.out.2) _ _ _ _ _ _ _ _ | with_reducible exact five_cells t | with_reducible exact five_cells (t.then (below_alloc _ _)) | with_reducible exact five_cells TD1.out | with_reducible exact five_cells (TD1.out.then (below_alloc _ _))) (first | (go_at_call_of 50 (Value.slice c.a1 c.n1 c.c1); refine (H1.out _ (by first | with_reducible exact t | with_reducible exact TD2.out _ | with_reducible exact t.then (below_alloc _ _) | with_reducible exact TD1.out | with_reducible exact TD1.out.then (below_alloc _ _))).mono ?_; rintro e v1 ⟨A1, K1, rfl, ho, hb⟩; (first | (with_reducible replace PB := hide (And.intro (PB.out.1.below hb) PB.out.2)) | (with_reducible have PB := hide (box_nil_t hb t)) | (with_reducible have PB := hide (box_nil_t hb TD1.out)) | (with_reducible have PB := hide (box_nil_d hb t0.out)) | skip); have t' : NT w c C oa w3 w3.heap.size n v1 := (by first | with_reducible exact t.then hb | with_reducible exact (TD2.out _).then hb | with_reducible exact (t.then (below_alloc _ _)).then hb | with_reducible exact TD1.out.then hb | with_reducible exact (TD1.out.then (below_alloc _ _)).then hb); (try clear t); have t := t'; clear t'; (first | with_reducible replace O3 := hide (own_below O3.out hb) | with_reducible replace O3 := hide (own_below (O3.out.alloc _) hb) | skip); (first | with_reducible replace O4 := hide (own_below O4.out hb) | with_reducible replace O4 := hide (own_below (O4.out.alloc _) hb) | skip); (first | with_reducible replace O5 := hide (own_below O5.out hb) | with_reducible replace O5 := hide (own_below (O5.out.alloc _) hb) | skip); (first | with_reducible replace O7 := hide (own_below O7.out hb) | with_reducible replace O7 := hide (own_below (O7.out.alloc _) hb) | skip); have O1 := hide ho; clear ho hb) | (go_at_call_of 50 (Value.slice c.a3 c.n3 c.c3); refine (H3.out _ (by first | with_reducible exact t | with_reducible exact t.then (below_alloc _ _) | with_reducible exact TD1.out | with_reducible exact TD1.out.then (below_alloc _ _))).mono ?_; rintro e v3 ⟨A3, K3, rfl, ho, hb⟩; (first | (with_reducible replace PB := hide (And.intro (PB.out.1.below hb) PB.out.2)) | (with_reducible have PB := hide (box_nil_t hb t)) | (with_reducible have PB := hide (box_nil_t hb TD1.out)) | skip); have t' : NT w c C oa w3 w3.heap.size n v3 := (by first | with_reducible exact t.then hb | with_reducible exact (t.then (below_alloc _ _)).then hb | with_reducible exact TD1.out.then hb | with_reducible exact (TD1.out.then (below_alloc _ _)).then hb); (try clear t); have t := t'; clear t'; (first | with_reducible replace O1 := hide (own_below O1.out hb) | with_reducible replace O1 := hide (own_below (O1.out.alloc _) hb) | skip); (first | with_reducible replace O4 := hide (own_below O4.out hb) | with_reducible replace O4 := hide (own_below (O4.out.alloc _) hb) | skip); (first | with_reducible replace O5 := hide (own_below O5.out hb) | with_reducible replace O5 := hide (own_below (O5.out.alloc _) hb) | skip); (first | with_reducible replace O7 := hide (own_below O7.out hb) | with_reducible replace O7 := hide (own_below (O7.out.alloc _) hb) | skip); have O3 := hide ho; clear ho hb) | (go_at_call_of 50 (Value.slice c.a4 c.n4 c.c4); refine (H4.out _ (by first | with_reducible exact t | with_reducible exact t.then (below_alloc _ _) | with_reducible exact TD1.out | with_reducible exact TD1.out.then (below_alloc _ _))).mono ?_; rintro e v4 ⟨A4, K4, rfl, ho, hb⟩; (first | (with_reducible replace PB := hide (And.intro (PB.out.1.below hb) PB.out.2)) | (with_reducible have PB := hide (box_nil_t hb t)) | (with_reducible have PB := hide (box_nil_t hb TD1.out)) | skip); have t' : NT w c C oa w3 w3.heap.size n v4 := (by first | with_reducible exact t.then hb | with_reducible exact (t.then (below_alloc _ _)).then hb | with_reducible exact TD1.out.then hb | with_reducible exact (TD1.out.then (below_alloc _ _)).then hb); (try clear t); have t := t'; clear t'; (first | with_reducible replace O1 := hide (own_below O1.out hb) | with_reducible replace O1 := hide (own_below (O1.out.alloc _) hb) | skip); (first | with_reducible replace O3 := hide (own_below O3.out hb) | with_reducible replace O3 := hide (own_below (O3.out.alloc _) hb) | skip); (first | with_reducible replace O5 := hide (own_below O5.out hb) | with_reducible replace O5 := hide (own_below (O5.out.alloc _) hb) | skip); (first | with_reducible replace O7 := hide (own_below O7.out hb) | with_reducible replace O7 := hide (own_below (O7.out.alloc _) hb) | skip); have O4 := hide ho; clear ho hb) | (go_at_call_of 50 (Value.slice c.a5 c.n5 c.c5); refine (H5.out _ (by first | with_reducible exact t | with_reducible exact t.then (below_alloc _ _) | with_reducible exact TD1.out | with_reducible exact TD1.out.then (below_alloc _ _))).mono ?_; rintro e v5 ⟨A5, K5, rfl, ho, hb⟩; (first | (with_reducible replace PB := hide (And.intro (PB.out.1.below hb) PB.out.2)) | (with_reducible have PB := hide (box_nil_t hb t)) | (with_reducible have PB := hide (box_nil_t hb TD1.out)) | skip); have t' : NT w c C oa w3 w3.heap.size n v5 := (by first | with_reducible exact t.then hb | with_reducible exact (t.then (below_alloc _ _)).then hb | with_reducible exact TD1.out.then hb | with_reducible exact (TD1.out.then (below_alloc _ _)).then hb); (try clear t); have t := t'; clear t'; (first | with_reducible replace O1 := hide (own_below O1.out hb) | with_reducible replace O1 := hide (own_below (O1.out.alloc _) hb) | skip); (first | with_reducible replace O3 := hide (own_below O3.out hb) | with_reducible replace O3 := hide (own_below (O3.out.alloc _) hb) | skip); (first | with_reducible replace O4 := hide (own_below O4.out hb) | with_reducible replace O4 := hide (own_below (O4.out.alloc _) hb) | skip); (first | with_reducible replace O7 := hide (own_below O7.out hb) | with_reducible replace O7 := hide (own_below (O7.out.alloc _) hb) | skip); have O5 := hide ho; clear ho hb; (first | (have hz := nil_facts PB.out.1; obtain ⟨z0, z1, z2, z3, z4, z5, z6, z7, f0, f1, f2, f3, f4, f5, f6, f7⟩ := hz) | skip)) | (refine step_append_wr (.const (.slice none 0 0)) (.tmp 117) 25 w3.heap.size 49 i7 (.agg #[.int .u8 0, .int .i64 0, .string ⟨#[]⟩]) 3 32 Try.underlying25 hi7 hv0 hv1 hv2 rfl (Nat.succ_pos 2) (.slice none 0 0) 0 [] c.a7 c.n7 c.c7 (cellsS C.names) HE7.out HZ7.out (cellsS_one _) HX7.out HY7.out (by simp [Act.eval]) (by simp [Act.eval]) (World.ownsRow_nil _ _ _ _) (by first | with_reducible exact t.r3.holds.r7 | with_reducible exact (t.then (below_alloc _ _)).r3.holds.r7 | with_reducible exact TD1.out.r3.holds.r7 | with_reducible exact (TD1.out.then (below_alloc _ _)).r3.holds.r7) (by first | with_reducible exact t.lm.below.size | with_reducible exact (t.then (below_alloc _ _)).lm.below.size | with_reducible exact TD1.out.lm.below.size | with_reducible exact (TD1.out.then (below_alloc _ _)).lm.below.size) ?_; intro v7 w7 ho hg7; rw [List.nil_append, Nat.zero_add] at ho; obtain ⟨A7, K7, rfl⟩ := own_form ho; have hb := below_none hg7; clear hg7; (first | (with_reducible replace PB := hide (And.intro (PB.out.1.below hb) PB.out.2)) | (with_reducible have PB := hide (box_nil_t hb t)) | (with_reducible have PB := hide (box_nil_t hb TD1.out)) | skip); have t' : NT w c C oa w3 w3.heap.size n w7 := (by first | with_reducible exact t.then hb | with_reducible exact (t.then (below_alloc _ _)).then hb | with_reducible exact TD1.out.then hb | with_reducible exact (TD1.out.then (below_alloc _ _)).then hb); (try clear t); have t := t'; clear t'; (first | with_reducible replace O1 := hide (own_below O1.out hb) | with_reducible replace O1 := hide (own_below (O1.out.alloc _) hb) | skip); (first | with_reducible replace O3 := hide (own_below O3.out hb) | with_reducible replace O3 := hide (own_below (O3.out.alloc _) hb) | skip); (first | with_reducible replace O4 := hide (own_below O4.out hb) | with_reducible replace O4 := hide (own_below (O4.out.alloc _) hb) | skip); (first | with_reducible replace O5 := hide (own_below O5.out hb) | with_reducible replace O5 := hide (own_below (O5.out.alloc _) hb) | skip); have O7 := hide ho; clear ho hb; (first | (have hz := nil_facts PB.out.1; obtain ⟨z0, z1, z2, z3, z4, z5, z6, z7, f0, f1, f2, f3, f4, f5, f6, f7⟩ := hz) | skip)))
                all_goals go_step
                all_goals go_step
                all_goals go_step
                all_goals ((repeat apply Exists.intro); refine ⟨?_, rfl⟩)
                all_goals (first | (have rd : RD w3 C w3.heap.size n _ [] [] (⟨nv, A1, c.n1, K1, none, 0, 0, A3, c.n3, K3, A4, c.n4, K4, A5, c.n5, K5, none, 0, 0, A7, c.n7, K7⟩ : CV) _ := rd_last t.lm ⟨rfl, rfl, rfl⟩ ⟨rfl, rfl, rfl⟩ O1.out O3.out O4.out O5.out O7.out; exact ⟨_, rfl, ⟨_, rd, rfl⟩⟩) | (have rd : RD w3 C w3.heap.size n _ [] [] (⟨nv, A1, c.n1, K1, none, 0, 0, A3, c.n3, K3, A4, c.n4, K4, A5, c.n5, K5, none, 0, 0, A7, c.n7, K7⟩ : CV) _ := rd_put t.lm PB.out.1 PB.out.2 ⟨rfl, rfl, rfl⟩ ⟨rfl, rfl, rfl⟩ O1.out O3.out O4.out O5.out O7.out; exact ⟨_, rfl, ⟨_, rd, rfl⟩⟩))
              case rest =>
                obtain ⟨b, rfl, HD⟩ := hcut
                clear TD1 TD2 HX7 HY7 HE7 HZ7 H1 H3 H4 H5 t0 HM1
                obtain ⟨i2, hi2, hy0, hy1, hy2⟩ := info_parts infoT2
                obtain ⟨i6, hi6, hx0, hx1, hx2⟩ := info_parts infoT6
                have HRs : Hid (∀ x ∈ C.ren, 0 ≤ x ∧ x ≤ 10000) := ren_small HRt.out.small
                try clear q1 q3 q4 q5 q7
                go_wp2
                go_loopw [15] (fun i wr => ∃ (k : Nat) (d : CV), i = .int .i64 k ∧ k ≤ c.n2 ∧ Hid (RD w3 C w3.heap.size n b ((C.lats.take k).map (renT C.ren)) [] d wr) ∧ Hid (d.m = nv)) (fun i _ => c.n2 - (intOf i).toNat)
                case atStart =>
                  obtain ⟨d, rd, hd⟩ := HD.out
                  exact ⟨0, d, rfl, Nat.zero_le _, rd, hd⟩
                case round =>
                  clear HD
                  obtain ⟨k, d, rfl, hk, HF, HDm⟩ := hrel
                  obtain ⟨-, -, q2, -, -, -, q6, -⟩ := (S3.out.then HF.out.lm.below).box.cells
                  by_cases hlt : k < c.n2
                  · obtain ⟨b2, off, ha, hbw, hcell⟩ := S3.out.holds.r2.addr (by rw [cellsT_len, HL.out.l2]; omega)
                    have hat := cellsT_at C.lats k (by rw [HL.out.l2]; exact hlt)
                    have hc0 := (HF.out.lm.below.cell (p := ⟨b2, off + k * 3, none⟩) hbw).trans (hcell _ _ hat.1)
                    have hc1 := (HF.out.lm.below.cell (p := ⟨b2, off + k * 3 + 1, none⟩) hbw).trans (hcell _ _ hat.2.1)
                    have hc2 := (HF.out.lm.below.cell (p := ⟨b2, off + k * 3 + 2, none⟩) hbw).trans (hcell _ _ hat.2.2)
                    have hli := hide (in_lats HRt.out _ (atP_mem C.lats k (by rw [HL.out.l2]; exact hlt)))
                    rw [← HNn.out] at hli
                    have HS := hide (lats_succ C.ren C.lats k (by rw [HL.out.l2]; exact hlt))
                    generalize atP C.lats k = x at hc0 hc1 hc2 hli HS
                    obtain ⟨x0, x1, x2⟩ := x
                    dsimp only at hc0 hc1 hc2 HS
                    have HN2 : Hid (d.n2 = k) := by
                      show d.n2 = k
                      have h1 := HF.out.o2.1
                      have h2 := HL.out.l2
                      rw [cellsT_len, List.length_map, List.length_take] at h1
                      omega
                    have HB0 : Hid (Below wr.heap.size wr (wr.alloc (.cells #[.int .i64 x0, .int .i64 x1, .int .i64 x2] 43)).drew) := belowThen (below_alloc _ _) (Drew.below ⟨1, rfl⟩)
                    have HGa : Hid (∀ l, LitIn n l → Calls Try.prog 51 #[.slice (some ⟨w3.heap.size, 0, none⟩) n n, .int .i64 l] (wr.alloc (.cells #[.int .i64 x0, .int .i64 x1, .int .i64 x2] 43)).drew fun e w' => e = .returned (.int .i64 (renL C.ren l)) ∧ w' = (wr.alloc (.cells #[.int .i64 x0, .int .i64 x1, .int .i64 x2] 43)).drew) := fun l hl => renamed_any w3.heap.size n C.ren l _ ((HF.out.then HB0.out).ren hnb HRs.out) hl
                    have HG0 := hide (HGa.out x0 hli.out.1)
                    have HG1 := hide (HGa.out x1 hli.out.2.1)
                    have HG2 := hide (HGa.out x2 hli.out.2.2)
                    clear HGa hli
                    have hd2 : (wr.alloc (.cells #[.int .i64 x0, .int .i64 x1, .int .i64 x2] 43)).drew.cell? ⟨b, 2, none⟩ = some (.slice d.a2 d.n2 d.c2) := (HF.out.then HB0.out).box.cells.2.2.1
                    have hd3 : ∀ o, ((wr.alloc (.cells #[.int .i64 x0, .int .i64 x1, .int .i64 x2] 43)).alloc o).drew.cell? ⟨b, 2, none⟩ = some (.slice d.a2 d.n2 d.c2) := fun o => (HF.out.then (belowThen HB0.out (below_alloc _ _))).box.cells.2.2.1
                    have HLat := hide (fun o w4 (A4 : Option Addr) (m K4 : Nat) (L2' : List Tri) (hg : ((wr.alloc (.cells #[.int .i64 x0, .int .i64 x1, .int .i64 x2] 43)).drew.alloc o).grownBy w4 (Value.slice d.a2 d.n2 d.c2).ownBlock) ho => RD.lat (L2' := L2') (A4 := A4) (m := m) (K4 := K4) HF.out (belowThen HB0.out (below_alloc _ o)) hg ho)
                    have HBx := hide (fun o w4 (hg : ((wr.alloc (.cells #[.int .i64 x0, .int .i64 x1, .int .i64 x2] 43)).drew.alloc o).grownBy w4 (Value.slice d.a2 d.n2 d.c2).ownBlock) => (HF.out.then (belowThen HB0.out (below_alloc _ o))).box.grown hg (own_ne_box (HF.out.then (belowThen HB0.out (below_alloc _ o))).o2 (HF.out.then (belowThen HB0.out (below_alloc _ o))).box (by decide)))
                    have HO2 := hide (fun o => (HF.out.then (belowThen HB0.out (below_alloc _ o))).o2)
                    have HSz := hide (fun o => (HF.out.then (belowThen HB0.out (below_alloc _ o))).lm.below.size)
                    have HT3 := hide (three_new wr (.int .i64 x0) (.int .i64 x1) (.int .i64 x2) 43)
                    have HNe : Hid (some wr.heap.size ≠ (Value.slice d.a2 d.n2 d.c2).ownBlock) := fun e => absurd (HF.out.o2.lt _ e.symm).2 (by omega)
                    have HOne : Hid (∀ u ∈ [Value.int .i64 (renL C.ren x0), .int .i64 (renL C.ren x1), .int .i64 (renL C.ren x2)], u.oneCell' = true) := by
                      show ∀ u ∈ [Value.int .i64 (renL C.ren x0), .int .i64 (renL C.ren x1), .int .i64 (renL C.ren x2)], u.oneCell' = true
                      intro u hu
                      simp at hu
                      rcases hu with rfl | rfl | rfl <;> rfl
                    have HX2 : Hid (d.n2 + 1 ≤ maxLen) := by show d.n2 + 1 ≤ maxLen; rw [HN2.out]; unfold maxLen; omega
                    have HY2 : Hid ((d.n2 + 1) * 24 ≤ 140737488355328) := by show (d.n2 + 1) * 24 ≤ 140737488355328; rw [HN2.out]; omega
                    have hbl : b < wr.heap.size := HF.out.box.lt
                    have hk0 : (0 : Int) ≤ (k : Int) := by omega
                    have hk1 : (k : Int) < (c.n2 : Int) := by omega
                    rw [ha] at q2
                    have HA := hide ha
                    clear hcell hat q6 ha
                    have HF0 := hide HF.out
                    clear HF HB0
                    go_wp2
                    generalize wr.alloc (.cells #[.int .i64 x0, .int .i64 x1, .int .i64 x2] 43) = W at HG0 HG1 HG2 hd2 hd3 HLat HBx HO2 HSz HT3 ⊢
                    generalize renL C.ren x0 = y0 at HG0 HOne HS
                    generalize renL C.ren x1 = y1 at HG1 HOne HS
                    generalize renL C.ren x2 = y2 at HG2 HOne HS
                    clear hc0 hc1 hc2
                    refine wp_region_held_drew (S := fun w' => w'.cell? ⟨wr.heap.size, 0, none⟩ = some (.int .i64 x0) ∧ w'.cell? ⟨wr.heap.size, 1, none⟩ = some (.int .i64 x1) ∧ w'.cell? ⟨wr.heap.size, 2, none⟩ = some (.int .i64 x2)) (by kernel_rfl) HT3.out (fun hHeld => ?_)
                    refine wpAnyH_take (i := 0) (oi := { dst := some 132, op := Op.fieldAddr 27 (Operand.tmp 14) 2, type := 0, pos := "aig.go:547", after := #[], guard := none }) (v := ?_) rfl (by kernel_rfl) (by kernel_rfl) (by kernel_rfl) (fun _ _ _ h => h) (Or.inl ⟨by rfl, ?_⟩) (by assumption) ?_
                    rotate_left
                    · (intro w0 hSw; (try dsimp only at hSw); go_simp; try with_reducible rfl)
                    try simp only [Act.put, List.setIfInBounds_toArray, List.set_cons_zero, List.set_cons_succ]
                    refine wpAnyH_take (i := 2) (oi := { dst := some 134, op := Op.move (Operand.tmp 9), type := 22, pos := "aig.go:547", after := #[], guard := none }) (v := ?_) rfl (by kernel_rfl) (by kernel_rfl) (by kernel_rfl) (fun _ _ _ h => h) (Or.inl ⟨by rfl, ?_⟩) (by assumption) ?_
                    rotate_left
                    · (intro w0 hSw; (try dsimp only at hSw); go_simp; try with_reducible rfl)
                    try simp only [Act.put, List.setIfInBounds_toArray, List.set_cons_zero, List.set_cons_succ]
                    refine wpAnyH_take (i := 3) (oi := { dst := some 135, op := Op.fieldAddr 43 (Operand.tmp 16) 0, type := 0, pos := "aig.go:547", after := #[], guard := none }) (v := ?_) rfl (by kernel_rfl) (by kernel_rfl) (by kernel_rfl) (fun _ _ _ h => h) (Or.inl ⟨by rfl, ?_⟩) (by assumption) ?_
                    rotate_left
                    · (intro w0 hSw; (try dsimp only at hSw); go_simp; try with_reducible rfl)
                    try simp only [Act.put, List.setIfInBounds_toArray, List.set_cons_zero, List.set_cons_succ]
                    refine wpAnyH_take (i := 4) (oi := { dst := some 136, op := Op.load 3 (Operand.tmp 135), type := 3, pos := "aig.go:547", after := #[{ on := 3, ground := Ground.data }], guard := none }) (v := ?_) rfl (by kernel_rfl) (by kernel_rfl) (by kernel_rfl) (fun _ _ _ h => h) (Or.inl ⟨by rfl, ?_⟩) (by assumption) ?_
                    rotate_left
                    · (intro w0 hSw; (try dsimp only at hSw); go_simp; try with_reducible rfl)
                    try simp only [Act.put, List.setIfInBounds_toArray, List.set_cons_zero, List.set_cons_succ]
                    refine wpAnyH_take (i := 6) (oi := { dst := some 138, op := Op.move (Operand.tmp 9), type := 22, pos := "aig.go:547", after := #[], guard := none }) (v := ?_) rfl (by kernel_rfl) (by kernel_rfl) (by kernel_rfl) (fun _ _ _ h => h) (Or.inl ⟨by rfl, ?_⟩) (by assumption) ?_
                    rotate_left
                    · (intro w0 hSw; (try dsimp only at hSw); go_simp; try with_reducible rfl)
                    try simp only [Act.put, List.setIfInBounds_toArray, List.set_cons_zero, List.set_cons_succ]
                    refine wpAnyH_take (i := 7) (oi := { dst := some 139, op := Op.fieldAddr 43 (Operand.tmp 16) 1, type := 0, pos := "aig.go:547", after := #[], guard := none }) (v := ?_) rfl (by kernel_rfl) (by kernel_rfl) (by kernel_rfl) (fun _ _ _ h => h) (Or.inl ⟨by rfl, ?_⟩) (by assumption) ?_
                    rotate_left
                    · (intro w0 hSw; (try dsimp only at hSw); go_simp; try with_reducible rfl)
                    try simp only [Act.put, List.setIfInBounds_toArray, List.set_cons_zero, List.set_cons_succ]
                    refine wpAnyH_take (i := 8) (oi := { dst := some 140, op := Op.load 3 (Operand.tmp 139), type := 3, pos := "aig.go:547", after := #[{ on := 7, ground := Ground.data }], guard := none }) (v := ?_) rfl (by kernel_rfl) (by kernel_rfl) (by kernel_rfl) (fun _ _ _ h => h) (Or.inl ⟨by rfl, ?_⟩) (by assumption) ?_
                    rotate_left
                    · (intro w0 hSw; (try dsimp only at hSw); go_simp; try with_reducible rfl)
                    try simp only [Act.put, List.setIfInBounds_toArray, List.set_cons_zero, List.set_cons_succ]
                    refine wpAnyH_take (i := 10) (oi := { dst := some 142, op := Op.move (Operand.tmp 9), type := 22, pos := "aig.go:547", after := #[], guard := none }) (v := ?_) rfl (by kernel_rfl) (by kernel_rfl) (by kernel_rfl) (fun _ _ _ h => h) (Or.inl ⟨by rfl, ?_⟩) (by assumption) ?_
                    rotate_left
                    · (intro w0 hSw; (try dsimp only at hSw); go_simp; try with_reducible rfl)
                    try simp only [Act.put, List.setIfInBounds_toArray, List.set_cons_zero, List.set_cons_succ]
                    refine wpAnyH_take (i := 11) (oi := { dst := some 143, op := Op.fieldAddr 43 (Operand.tmp 16) 2, type := 0, pos := "aig.go:547", after := #[], guard := none }) (v := ?_) rfl (by kernel_rfl) (by kernel_rfl) (by kernel_rfl) (fun _ _ _ h => h) (Or.inl ⟨by rfl, ?_⟩) (by assumption) ?_
                    rotate_left
                    · (intro w0 hSw; (try dsimp only at hSw); go_simp; try with_reducible rfl)
                    try simp only [Act.put, List.setIfInBounds_toArray, List.set_cons_zero, List.set_cons_succ]
                    refine wpAnyH_take (i := 12) (oi := { dst := some 144, op := Op.load 3 (Operand.tmp 143), type := 3, pos := "aig.go:547", after := #[{ on := 11, ground := Ground.data }], guard := none }) (v := ?_) rfl (by kernel_rfl) (by kernel_rfl) (by kernel_rfl) (fun _ _ _ h => h) (Or.inl ⟨by rfl, ?_⟩) (by assumption) ?_
                    rotate_left
                    · (intro w0 hSw; (try dsimp only at hSw); go_simp; try with_reducible rfl)
                    try simp only [Act.put, List.setIfInBounds_toArray, List.set_cons_zero, List.set_cons_succ]
                    refine wpAnyH_ready (rs := [1, 5]) (by kernel_rfl) (by simp) ?_
                    refine AllReadyH.cons (o := { dst := some 133, op := Op.load 23 (Operand.tmp 132), type := 23, pos := "aig.go:547", after := #[{ on := 0, ground := Ground.data }], guard := none }) rfl (fun K hK => ?_) ?_
                    · skip
                      go_simp
                      refine hK.out _ _ ?_ (fun hHeld => ?_)
                      · exact HT3.out
                      clear hK K
                      try simp only [Act.put, List.setIfInBounds_toArray, List.set_cons_zero, List.set_cons_succ]
                      refine wpAnyH_ready (rs := [5]) (by kernel_rfl) (by simp) ?_
                      refine AllReadyH.cons (o := { dst := some 137, op := Op.call { callee := Callee.value (Operand.func 51), args := #[Operand.tmp 134, Operand.tmp 136], argTypes := #[22, 3] }, type := 3, pos := "aig.go:547", after := #[{ on := 2, ground := Ground.data }, { on := 4, ground := Ground.data }], guard := none }) rfl (fun K hK => ?_) ?_
                      · skip
                        go_simp
                        refine HG0.out.mono ?_
                        rintro e w5 ⟨rfl, hw5⟩
                        obtain rfl := hw5.symm
                        go_wp2_with fail
                        refine hK.out _ _ ?_ (fun hHeld => ?_)
                        · exact HT3.out
                        clear hK K
                        try simp only [Act.put, List.setIfInBounds_toArray, List.set_cons_zero, List.set_cons_succ]
                        refine wpAnyH_ready (rs := [9]) (by kernel_rfl) (by simp) ?_
                        refine AllReadyH.cons (o := { dst := some 141, op := Op.call { callee := Callee.value (Operand.func 51), args := #[Operand.tmp 138, Operand.tmp 140], argTypes := #[22, 3] }, type := 3, pos := "aig.go:547", after := #[{ on := 6, ground := Ground.data }, { on := 8, ground := Ground.data }, { on := 5, ground := Ground.chain }], guard := none }) rfl (fun K hK => ?_) ?_
                        · skip
                          go_simp
                          refine HG1.out.mono ?_
                          rintro e w5 ⟨rfl, hw5⟩
                          obtain rfl := hw5.symm
                          go_wp2_with fail
                          refine hK.out _ _ ?_ (fun hHeld => ?_)
                          · exact HT3.out
                          clear hK K
                          try simp only [Act.put, List.setIfInBounds_toArray, List.set_cons_zero, List.set_cons_succ]
                          refine wpAnyH_ready (rs := [13]) (by kernel_rfl) (by simp) ?_
                          refine AllReadyH.cons (o := { dst := some 145, op := Op.call { callee := Callee.value (Operand.func 51), args := #[Operand.tmp 142, Operand.tmp 144], argTypes := #[22, 3] }, type := 3, pos := "aig.go:547", after := #[{ on := 10, ground := Ground.data }, { on := 12, ground := Ground.data }, { on := 9, ground := Ground.chain }], guard := none }) rfl (fun K hK => ?_) ?_
                          · skip
                            go_simp
                            refine HG2.out.mono ?_
                            rintro e w5 ⟨rfl, hw5⟩
                            obtain rfl := hw5.symm
                            go_wp2_with fail
                            refine hK.out _ _ ?_ (fun hHeld => ?_)
                            · exact HT3.out
                            clear hK K
                            try simp only [Act.put, List.setIfInBounds_toArray, List.set_cons_zero, List.set_cons_succ]
                            refine wpAnyH_take (i := 14) (oi := { dst := some 146, op := Op.build 43 #[(0, Operand.tmp 137), (1, Operand.tmp 141), (2, Operand.tmp 145)], type := 43, pos := "aig.go:547", after := #[{ on := 5, ground := Ground.data }, { on := 9, ground := Ground.data }, { on := 13, ground := Ground.data }], guard := none }) (v := ?_) rfl (by kernel_rfl) (by kernel_rfl) (by kernel_rfl) (fun _ _ _ h => h) (Or.inl ⟨by rfl, ?_⟩) (by assumption) ?_
                            rotate_left
                            · (intro w0 hSw; (try dsimp only at hSw); go_simp; try with_reducible rfl)
                            try simp only [Act.put, List.setIfInBounds_toArray, List.set_cons_zero, List.set_cons_succ]
                            refine wpAnyH_ready (rs := [15]) (by kernel_rfl) (by simp) ?_
                            refine AllReadyH.cons (o := { dst := some 147, op := Op.buildSlice 23 1 #[(0, Operand.tmp 146)], type := 23, pos := "aig.go:547", after := #[{ on := 14, ground := Ground.data }], guard := none }) rfl (fun K hK => ?_) ?_
                            · skip
                              go_simp
                              refine hK.out _ _ ?_ (fun hHeld => ?_)
                              · exact three_belowQ HT3.out (below_alloc _ _)
                              clear hK K
                              try simp only [Act.put, List.setIfInBounds_toArray, List.set_cons_zero, List.set_cons_succ]
                              refine wpAnyH_ready (rs := [16]) (by kernel_rfl) (by simp) ?_
                              refine AllReadyH.cons (o := { dst := some 148, op := Op.call { callee := Callee.builtin Builtin.append, args := #[Operand.tmp 133, Operand.tmp 147], argTypes := #[23, 23] }, type := 23, pos := "aig.go:547", after := #[{ on := 1, ground := Ground.data }, { on := 15, ground := Ground.data }, { on := 13, ground := Ground.chain }], guard := none }) rfl (fun K hK => ?_) ?_
                              · skip
                                (refine step_append_wr (.tmp 133) (.tmp 147) 23 w3.heap.size 43 i2 (.agg #[.int .i64 0, .int .i64 0, .int .i64 0]) 3 24 Try.underlying23 hi2 hy0 hy1 hy2 rfl (Nat.succ_pos 2) (.slice d.a2 d.n2 d.c2) d.n2 (cellsT ((C.lats.take k).map (renT C.ren))) (some ⟨W.heap.size, 0, none⟩) 1 1 [.int .i64 y0, .int .i64 y1, .int .i64 y2] rfl (fun e => by cases e) HOne.out HX2.out HY2.out (by simp [Act.eval]) (by simp [Act.eval]) (HO2.out _) ((rowC_three (t := 43) (w := W) rfl rfl).below (Drew.below ⟨1, rfl⟩)) (HSz.out _) ?_; intro v4 w4 ho hg; rw [← HS.out] at ho; obtain ⟨A4, K4, rfl⟩ := own_form ho; have HRD := hide (HLat.out _ w4 A4 _ K4 _ hg ho); have hbx := HBx.out _ w4 hg; have hq4 := hbx.cells.2.2.1; have hf4 := box_frozen hbx 2; have S4 := hide (three_grown (three_belowQ HT3.out (below_alloc _ _)) hg HNe.out); clear ho hg hbx)
                                refine hK.out _ _ ?_ (fun hHeld => ?_)
                                · exact S4.out
                                clear hK K
                                try simp only [Act.put, List.setIfInBounds_toArray, List.set_cons_zero, List.set_cons_succ]
                                refine wpAnyH_take (i := 17) (oi := { dst := some 149, op := Op.fieldAddr 27 (Operand.tmp 14) 2, type := 0, pos := "aig.go:547", after := #[{ on := 0, ground := Ground.phase }, { on := 1, ground := Ground.phase }, { on := 2, ground := Ground.phase }, { on := 3, ground := Ground.phase }, { on := 4, ground := Ground.phase }, { on := 5, ground := Ground.phase }, { on := 6, ground := Ground.phase }, { on := 7, ground := Ground.phase }, { on := 8, ground := Ground.phase }, { on := 9, ground := Ground.phase }, { on := 10, ground := Ground.phase }, { on := 11, ground := Ground.phase }, { on := 12, ground := Ground.phase }, { on := 13, ground := Ground.phase }, { on := 14, ground := Ground.phase }, { on := 15, ground := Ground.phase }, { on := 16, ground := Ground.phase }], guard := none }) (v := ?_) rfl (by kernel_rfl) (by kernel_rfl) (by kernel_rfl) (fun _ _ _ h => h) (Or.inl ⟨by rfl, ?_⟩) (by assumption) ?_
                                rotate_left
                                · (intro w0 hSw; (try dsimp only at hSw); go_simp; try with_reducible rfl)
                                try simp only [Act.put, List.setIfInBounds_toArray, List.set_cons_zero, List.set_cons_succ]
                                refine wpAnyH_ready (rs := [18]) (by kernel_rfl) (by simp) ?_
                                refine AllReadyH.cons (o := { dst := none, op := Op.store 23 (Operand.tmp 149) (Operand.tmp 148), type := 0, pos := "aig.go:547", after := #[{ on := 17, ground := Ground.data }, { on := 16, ground := Ground.data }, { on := 16, ground := Ground.chain }, { on := 0, ground := Ground.phase }, { on := 1, ground := Ground.phase }, { on := 2, ground := Ground.phase }, { on := 3, ground := Ground.phase }, { on := 4, ground := Ground.phase }, { on := 5, ground := Ground.phase }, { on := 6, ground := Ground.phase }, { on := 7, ground := Ground.phase }, { on := 8, ground := Ground.phase }, { on := 9, ground := Ground.phase }, { on := 10, ground := Ground.phase }, { on := 11, ground := Ground.phase }, { on := 12, ground := Ground.phase }, { on := 13, ground := Ground.phase }, { on := 14, ground := Ground.phase }, { on := 15, ground := Ground.phase }, { on := 16, ground := Ground.phase }], guard := none }) rfl (fun K hK => ?_) ?_
                                · skip
                                  go_simp
                                  refine hK.out _ _ ?_ (fun hHeld => ?_)
                                  · exact three_set S4.out (Nat.ne_of_lt hbl)
                                  clear hK K
                                  try simp only [Act.put, List.setIfInBounds_toArray, List.set_cons_zero, List.set_cons_succ]
                                  refine wpAnyH_done (by kernel_rfl) ?_ _
                                  clear hq4 hf4 S4 hHeld hd2 hd3 HG0 HG1 HG2 HLat HBx HO2 HSz HT3 HNe HOne HX2 HY2 HS HN2 hi2 hy0 hy1 hy2 HF0
                                  go_wp2
                                  go_roundw
                                  case rel => exact ⟨k + 1, _, by go_num, by omega, HRD.out, HDm.out⟩
                                  case measure => simp [intOf]; omega
                                exact AllReadyH.nil
                              exact AllReadyH.nil
                            exact AllReadyH.nil
                          exact AllReadyH.nil
                        exact AllReadyH.nil
                      exact AllReadyH.nil
                    refine AllReadyH.cons (o := { dst := some 137, op := Op.call { callee := Callee.value (Operand.func 51), args := #[Operand.tmp 134, Operand.tmp 136], argTypes := #[22, 3] }, type := 3, pos := "aig.go:547", after := #[{ on := 2, ground := Ground.data }, { on := 4, ground := Ground.data }], guard := none }) rfl (fun K hK => ?_) ?_
                    · skip
                      go_simp
                      refine HG0.out.mono ?_
                      rintro e w5 ⟨rfl, hw5⟩
                      obtain rfl := hw5.symm
                      go_wp2_with fail
                      refine hK.out _ _ ?_ (fun hHeld => ?_)
                      · exact HT3.out
                      clear hK K
                      try simp only [Act.put, List.setIfInBounds_toArray, List.set_cons_zero, List.set_cons_succ]
                      refine wpAnyH_ready (rs := [1, 9]) (by kernel_rfl) (by simp) ?_
                      refine AllReadyH.cons (o := { dst := some 133, op := Op.load 23 (Operand.tmp 132), type := 23, pos := "aig.go:547", after := #[{ on := 0, ground := Ground.data }], guard := none }) rfl (fun K hK => ?_) ?_
                      · skip
                        go_simp
                        refine hK.out _ _ ?_ (fun hHeld => ?_)
                        · exact HT3.out
                        clear hK K
                        try simp only [Act.put, List.setIfInBounds_toArray, List.set_cons_zero, List.set_cons_succ]
                        refine wpAnyH_ready (rs := [9]) (by kernel_rfl) (by simp) ?_
                        refine AllReadyH.cons (o := { dst := some 141, op := Op.call { callee := Callee.value (Operand.func 51), args := #[Operand.tmp 138, Operand.tmp 140], argTypes := #[22, 3] }, type := 3, pos := "aig.go:547", after := #[{ on := 6, ground := Ground.data }, { on := 8, ground := Ground.data }, { on := 5, ground := Ground.chain }], guard := none }) rfl (fun K hK => ?_) ?_
                        · skip
                          go_simp
                          refine HG1.out.mono ?_
                          rintro e w5 ⟨rfl, hw5⟩
                          obtain rfl := hw5.symm
                          go_wp2_with fail
                          refine hK.out _ _ ?_ (fun hHeld => ?_)
                          · exact HT3.out
                          clear hK K
                          try simp only [Act.put, List.setIfInBounds_toArray, List.set_cons_zero, List.set_cons_succ]
                          refine wpAnyH_ready (rs := [13]) (by kernel_rfl) (by simp) ?_
                          refine AllReadyH.cons (o := { dst := some 145, op := Op.call { callee := Callee.value (Operand.func 51), args := #[Operand.tmp 142, Operand.tmp 144], argTypes := #[22, 3] }, type := 3, pos := "aig.go:547", after := #[{ on := 10, ground := Ground.data }, { on := 12, ground := Ground.data }, { on := 9, ground := Ground.chain }], guard := none }) rfl (fun K hK => ?_) ?_
                          · skip
                            go_simp
                            refine HG2.out.mono ?_
                            rintro e w5 ⟨rfl, hw5⟩
                            obtain rfl := hw5.symm
                            go_wp2_with fail
                            refine hK.out _ _ ?_ (fun hHeld => ?_)
                            · exact HT3.out
                            clear hK K
                            try simp only [Act.put, List.setIfInBounds_toArray, List.set_cons_zero, List.set_cons_succ]
                            refine wpAnyH_take (i := 14) (oi := { dst := some 146, op := Op.build 43 #[(0, Operand.tmp 137), (1, Operand.tmp 141), (2, Operand.tmp 145)], type := 43, pos := "aig.go:547", after := #[{ on := 5, ground := Ground.data }, { on := 9, ground := Ground.data }, { on := 13, ground := Ground.data }], guard := none }) (v := ?_) rfl (by kernel_rfl) (by kernel_rfl) (by kernel_rfl) (fun _ _ _ h => h) (Or.inl ⟨by rfl, ?_⟩) (by assumption) ?_
                            rotate_left
                            · (intro w0 hSw; (try dsimp only at hSw); go_simp; try with_reducible rfl)
                            try simp only [Act.put, List.setIfInBounds_toArray, List.set_cons_zero, List.set_cons_succ]
                            refine wpAnyH_ready (rs := [15]) (by kernel_rfl) (by simp) ?_
                            refine AllReadyH.cons (o := { dst := some 147, op := Op.buildSlice 23 1 #[(0, Operand.tmp 146)], type := 23, pos := "aig.go:547", after := #[{ on := 14, ground := Ground.data }], guard := none }) rfl (fun K hK => ?_) ?_
                            · skip
                              go_simp
                              refine hK.out _ _ ?_ (fun hHeld => ?_)
                              · exact three_belowQ HT3.out (below_alloc _ _)
                              clear hK K
                              try simp only [Act.put, List.setIfInBounds_toArray, List.set_cons_zero, List.set_cons_succ]
                              refine wpAnyH_ready (rs := [16]) (by kernel_rfl) (by simp) ?_
                              refine AllReadyH.cons (o := { dst := some 148, op := Op.call { callee := Callee.builtin Builtin.append, args := #[Operand.tmp 133, Operand.tmp 147], argTypes := #[23, 23] }, type := 23, pos := "aig.go:547", after := #[{ on := 1, ground := Ground.data }, { on := 15, ground := Ground.data }, { on := 13, ground := Ground.chain }], guard := none }) rfl (fun K hK => ?_) ?_
                              · skip
                                (refine step_append_wr (.tmp 133) (.tmp 147) 23 w3.heap.size 43 i2 (.agg #[.int .i64 0, .int .i64 0, .int .i64 0]) 3 24 Try.underlying23 hi2 hy0 hy1 hy2 rfl (Nat.succ_pos 2) (.slice d.a2 d.n2 d.c2) d.n2 (cellsT ((C.lats.take k).map (renT C.ren))) (some ⟨W.heap.size, 0, none⟩) 1 1 [.int .i64 y0, .int .i64 y1, .int .i64 y2] rfl (fun e => by cases e) HOne.out HX2.out HY2.out (by simp [Act.eval]) (by simp [Act.eval]) (HO2.out _) ((rowC_three (t := 43) (w := W) rfl rfl).below (Drew.below ⟨1, rfl⟩)) (HSz.out _) ?_; intro v4 w4 ho hg; rw [← HS.out] at ho; obtain ⟨A4, K4, rfl⟩ := own_form ho; have HRD := hide (HLat.out _ w4 A4 _ K4 _ hg ho); have hbx := HBx.out _ w4 hg; have hq4 := hbx.cells.2.2.1; have hf4 := box_frozen hbx 2; have S4 := hide (three_grown (three_belowQ HT3.out (below_alloc _ _)) hg HNe.out); clear ho hg hbx)
                                refine hK.out _ _ ?_ (fun hHeld => ?_)
                                · exact S4.out
                                clear hK K
                                try simp only [Act.put, List.setIfInBounds_toArray, List.set_cons_zero, List.set_cons_succ]
                                refine wpAnyH_take (i := 17) (oi := { dst := some 149, op := Op.fieldAddr 27 (Operand.tmp 14) 2, type := 0, pos := "aig.go:547", after := #[{ on := 0, ground := Ground.phase }, { on := 1, ground := Ground.phase }, { on := 2, ground := Ground.phase }, { on := 3, ground := Ground.phase }, { on := 4, ground := Ground.phase }, { on := 5, ground := Ground.phase }, { on := 6, ground := Ground.phase }, { on := 7, ground := Ground.phase }, { on := 8, ground := Ground.phase }, { on := 9, ground := Ground.phase }, { on := 10, ground := Ground.phase }, { on := 11, ground := Ground.phase }, { on := 12, ground := Ground.phase }, { on := 13, ground := Ground.phase }, { on := 14, ground := Ground.phase }, { on := 15, ground := Ground.phase }, { on := 16, ground := Ground.phase }], guard := none }) (v := ?_) rfl (by kernel_rfl) (by kernel_rfl) (by kernel_rfl) (fun _ _ _ h => h) (Or.inl ⟨by rfl, ?_⟩) (by assumption) ?_
                                rotate_left
                                · (intro w0 hSw; (try dsimp only at hSw); go_simp; try with_reducible rfl)
                                try simp only [Act.put, List.setIfInBounds_toArray, List.set_cons_zero, List.set_cons_succ]
                                refine wpAnyH_ready (rs := [18]) (by kernel_rfl) (by simp) ?_
                                refine AllReadyH.cons (o := { dst := none, op := Op.store 23 (Operand.tmp 149) (Operand.tmp 148), type := 0, pos := "aig.go:547", after := #[{ on := 17, ground := Ground.data }, { on := 16, ground := Ground.data }, { on := 16, ground := Ground.chain }, { on := 0, ground := Ground.phase }, { on := 1, ground := Ground.phase }, { on := 2, ground := Ground.phase }, { on := 3, ground := Ground.phase }, { on := 4, ground := Ground.phase }, { on := 5, ground := Ground.phase }, { on := 6, ground := Ground.phase }, { on := 7, ground := Ground.phase }, { on := 8, ground := Ground.phase }, { on := 9, ground := Ground.phase }, { on := 10, ground := Ground.phase }, { on := 11, ground := Ground.phase }, { on := 12, ground := Ground.phase }, { on := 13, ground := Ground.phase }, { on := 14, ground := Ground.phase }, { on := 15, ground := Ground.phase }, { on := 16, ground := Ground.phase }], guard := none }) rfl (fun K hK => ?_) ?_
                                · skip
                                  go_simp
                                  refine hK.out _ _ ?_ (fun hHeld => ?_)
                                  · exact three_set S4.out (Nat.ne_of_lt hbl)
                                  clear hK K
                                  try simp only [Act.put, List.setIfInBounds_toArray, List.set_cons_zero, List.set_cons_succ]
                                  refine wpAnyH_done (by kernel_rfl) ?_ _
                                  clear hq4 hf4 S4 hHeld hd2 hd3 HG0 HG1 HG2 HLat HBx HO2 HSz HT3 HNe HOne HX2 HY2 HS HN2 hi2 hy0 hy1 hy2 HF0
                                  go_wp2
                                  go_roundw
                                  case rel => exact ⟨k + 1, _, by go_num, by omega, HRD.out, HDm.out⟩
                                  case measure => simp [intOf]; omega
                                exact AllReadyH.nil
                              exact AllReadyH.nil
                            exact AllReadyH.nil
                          exact AllReadyH.nil
                        exact AllReadyH.nil
                      refine AllReadyH.cons (o := { dst := some 141, op := Op.call { callee := Callee.value (Operand.func 51), args := #[Operand.tmp 138, Operand.tmp 140], argTypes := #[22, 3] }, type := 3, pos := "aig.go:547", after := #[{ on := 6, ground := Ground.data }, { on := 8, ground := Ground.data }, { on := 5, ground := Ground.chain }], guard := none }) rfl (fun K hK => ?_) ?_
                      · skip
                        go_simp
                        refine HG1.out.mono ?_
                        rintro e w5 ⟨rfl, hw5⟩
                        obtain rfl := hw5.symm
                        go_wp2_with fail
                        refine hK.out _ _ ?_ (fun hHeld => ?_)
                        · exact HT3.out
                        clear hK K
                        try simp only [Act.put, List.setIfInBounds_toArray, List.set_cons_zero, List.set_cons_succ]
                        refine wpAnyH_ready (rs := [1, 13]) (by kernel_rfl) (by simp) ?_
                        refine AllReadyH.cons (o := { dst := some 133, op := Op.load 23 (Operand.tmp 132), type := 23, pos := "aig.go:547", after := #[{ on := 0, ground := Ground.data }], guard := none }) rfl (fun K hK => ?_) ?_
                        · skip
                          go_simp
                          refine hK.out _ _ ?_ (fun hHeld => ?_)
                          · exact HT3.out
                          clear hK K
                          try simp only [Act.put, List.setIfInBounds_toArray, List.set_cons_zero, List.set_cons_succ]
                          refine wpAnyH_ready (rs := [13]) (by kernel_rfl) (by simp) ?_
                          refine AllReadyH.cons (o := { dst := some 145, op := Op.call { callee := Callee.value (Operand.func 51), args := #[Operand.tmp 142, Operand.tmp 144], argTypes := #[22, 3] }, type := 3, pos := "aig.go:547", after := #[{ on := 10, ground := Ground.data }, { on := 12, ground := Ground.data }, { on := 9, ground := Ground.chain }], guard := none }) rfl (fun K hK => ?_) ?_
                          · skip
                            go_simp
                            refine HG2.out.mono ?_
                            rintro e w5 ⟨rfl, hw5⟩
                            obtain rfl := hw5.symm
                            go_wp2_with fail
                            refine hK.out _ _ ?_ (fun hHeld => ?_)
                            · exact HT3.out
                            clear hK K
                            try simp only [Act.put, List.setIfInBounds_toArray, List.set_cons_zero, List.set_cons_succ]
                            refine wpAnyH_take (i := 14) (oi := { dst := some 146, op := Op.build 43 #[(0, Operand.tmp 137), (1, Operand.tmp 141), (2, Operand.tmp 145)], type := 43, pos := "aig.go:547", after := #[{ on := 5, ground := Ground.data }, { on := 9, ground := Ground.data }, { on := 13, ground := Ground.data }], guard := none }) (v := ?_) rfl (by kernel_rfl) (by kernel_rfl) (by kernel_rfl) (fun _ _ _ h => h) (Or.inl ⟨by rfl, ?_⟩) (by assumption) ?_
                            rotate_left
                            · (intro w0 hSw; (try dsimp only at hSw); go_simp; try with_reducible rfl)
                            try simp only [Act.put, List.setIfInBounds_toArray, List.set_cons_zero, List.set_cons_succ]
                            refine wpAnyH_ready (rs := [15]) (by kernel_rfl) (by simp) ?_
                            refine AllReadyH.cons (o := { dst := some 147, op := Op.buildSlice 23 1 #[(0, Operand.tmp 146)], type := 23, pos := "aig.go:547", after := #[{ on := 14, ground := Ground.data }], guard := none }) rfl (fun K hK => ?_) ?_
                            · skip
                              go_simp
                              refine hK.out _ _ ?_ (fun hHeld => ?_)
                              · exact three_belowQ HT3.out (below_alloc _ _)
                              clear hK K
                              try simp only [Act.put, List.setIfInBounds_toArray, List.set_cons_zero, List.set_cons_succ]
                              refine wpAnyH_ready (rs := [16]) (by kernel_rfl) (by simp) ?_
                              refine AllReadyH.cons (o := { dst := some 148, op := Op.call { callee := Callee.builtin Builtin.append, args := #[Operand.tmp 133, Operand.tmp 147], argTypes := #[23, 23] }, type := 23, pos := "aig.go:547", after := #[{ on := 1, ground := Ground.data }, { on := 15, ground := Ground.data }, { on := 13, ground := Ground.chain }], guard := none }) rfl (fun K hK => ?_) ?_
                              · skip
                                (refine step_append_wr (.tmp 133) (.tmp 147) 23 w3.heap.size 43 i2 (.agg #[.int .i64 0, .int .i64 0, .int .i64 0]) 3 24 Try.underlying23 hi2 hy0 hy1 hy2 rfl (Nat.succ_pos 2) (.slice d.a2 d.n2 d.c2) d.n2 (cellsT ((C.lats.take k).map (renT C.ren))) (some ⟨W.heap.size, 0, none⟩) 1 1 [.int .i64 y0, .int .i64 y1, .int .i64 y2] rfl (fun e => by cases e) HOne.out HX2.out HY2.out (by simp [Act.eval]) (by simp [Act.eval]) (HO2.out _) ((rowC_three (t := 43) (w := W) rfl rfl).below (Drew.below ⟨1, rfl⟩)) (HSz.out _) ?_; intro v4 w4 ho hg; rw [← HS.out] at ho; obtain ⟨A4, K4, rfl⟩ := own_form ho; have HRD := hide (HLat.out _ w4 A4 _ K4 _ hg ho); have hbx := HBx.out _ w4 hg; have hq4 := hbx.cells.2.2.1; have hf4 := box_frozen hbx 2; have S4 := hide (three_grown (three_belowQ HT3.out (below_alloc _ _)) hg HNe.out); clear ho hg hbx)
                                refine hK.out _ _ ?_ (fun hHeld => ?_)
                                · exact S4.out
                                clear hK K
                                try simp only [Act.put, List.setIfInBounds_toArray, List.set_cons_zero, List.set_cons_succ]
                                refine wpAnyH_take (i := 17) (oi := { dst := some 149, op := Op.fieldAddr 27 (Operand.tmp 14) 2, type := 0, pos := "aig.go:547", after := #[{ on := 0, ground := Ground.phase }, { on := 1, ground := Ground.phase }, { on := 2, ground := Ground.phase }, { on := 3, ground := Ground.phase }, { on := 4, ground := Ground.phase }, { on := 5, ground := Ground.phase }, { on := 6, ground := Ground.phase }, { on := 7, ground := Ground.phase }, { on := 8, ground := Ground.phase }, { on := 9, ground := Ground.phase }, { on := 10, ground := Ground.phase }, { on := 11, ground := Ground.phase }, { on := 12, ground := Ground.phase }, { on := 13, ground := Ground.phase }, { on := 14, ground := Ground.phase }, { on := 15, ground := Ground.phase }, { on := 16, ground := Ground.phase }], guard := none }) (v := ?_) rfl (by kernel_rfl) (by kernel_rfl) (by kernel_rfl) (fun _ _ _ h => h) (Or.inl ⟨by rfl, ?_⟩) (by assumption) ?_
                                rotate_left
                                · (intro w0 hSw; (try dsimp only at hSw); go_simp; try with_reducible rfl)
                                try simp only [Act.put, List.setIfInBounds_toArray, List.set_cons_zero, List.set_cons_succ]
                                refine wpAnyH_ready (rs := [18]) (by kernel_rfl) (by simp) ?_
                                refine AllReadyH.cons (o := { dst := none, op := Op.store 23 (Operand.tmp 149) (Operand.tmp 148), type := 0, pos := "aig.go:547", after := #[{ on := 17, ground := Ground.data }, { on := 16, ground := Ground.data }, { on := 16, ground := Ground.chain }, { on := 0, ground := Ground.phase }, { on := 1, ground := Ground.phase }, { on := 2, ground := Ground.phase }, { on := 3, ground := Ground.phase }, { on := 4, ground := Ground.phase }, { on := 5, ground := Ground.phase }, { on := 6, ground := Ground.phase }, { on := 7, ground := Ground.phase }, { on := 8, ground := Ground.phase }, { on := 9, ground := Ground.phase }, { on := 10, ground := Ground.phase }, { on := 11, ground := Ground.phase }, { on := 12, ground := Ground.phase }, { on := 13, ground := Ground.phase }, { on := 14, ground := Ground.phase }, { on := 15, ground := Ground.phase }, { on := 16, ground := Ground.phase }], guard := none }) rfl (fun K hK => ?_) ?_
                                · skip
                                  go_simp
                                  refine hK.out _ _ ?_ (fun hHeld => ?_)
                                  · exact three_set S4.out (Nat.ne_of_lt hbl)
                                  clear hK K
                                  try simp only [Act.put, List.setIfInBounds_toArray, List.set_cons_zero, List.set_cons_succ]
                                  refine wpAnyH_done (by kernel_rfl) ?_ _
                                  clear hq4 hf4 S4 hHeld hd2 hd3 HG0 HG1 HG2 HLat HBx HO2 HSz HT3 HNe HOne HX2 HY2 HS HN2 hi2 hy0 hy1 hy2 HF0
                                  go_wp2
                                  go_roundw
                                  case rel => exact ⟨k + 1, _, by go_num, by omega, HRD.out, HDm.out⟩
                                  case measure => simp [intOf]; omega
                                exact AllReadyH.nil
                              exact AllReadyH.nil
                            exact AllReadyH.nil
                          exact AllReadyH.nil
                        refine AllReadyH.cons (o := { dst := some 145, op := Op.call { callee := Callee.value (Operand.func 51), args := #[Operand.tmp 142, Operand.tmp 144], argTypes := #[22, 3] }, type := 3, pos := "aig.go:547", after := #[{ on := 10, ground := Ground.data }, { on := 12, ground := Ground.data }, { on := 9, ground := Ground.chain }], guard := none }) rfl (fun K hK => ?_) ?_
                        · skip
                          go_simp
                          refine HG2.out.mono ?_
                          rintro e w5 ⟨rfl, hw5⟩
                          obtain rfl := hw5.symm
                          go_wp2_with fail
                          refine hK.out _ _ ?_ (fun hHeld => ?_)
                          · exact HT3.out
                          clear hK K
                          try simp only [Act.put, List.setIfInBounds_toArray, List.set_cons_zero, List.set_cons_succ]
                          refine wpAnyH_take (i := 14) (oi := { dst := some 146, op := Op.build 43 #[(0, Operand.tmp 137), (1, Operand.tmp 141), (2, Operand.tmp 145)], type := 43, pos := "aig.go:547", after := #[{ on := 5, ground := Ground.data }, { on := 9, ground := Ground.data }, { on := 13, ground := Ground.data }], guard := none }) (v := ?_) rfl (by kernel_rfl) (by kernel_rfl) (by kernel_rfl) (fun _ _ _ h => h) (Or.inl ⟨by rfl, ?_⟩) (by assumption) ?_
                          rotate_left
                          · (intro w0 hSw; (try dsimp only at hSw); go_simp; try with_reducible rfl)
                          try simp only [Act.put, List.setIfInBounds_toArray, List.set_cons_zero, List.set_cons_succ]
                          refine wpAnyH_ready (rs := [1, 15]) (by kernel_rfl) (by simp) ?_
                          refine AllReadyH.cons (o := { dst := some 133, op := Op.load 23 (Operand.tmp 132), type := 23, pos := "aig.go:547", after := #[{ on := 0, ground := Ground.data }], guard := none }) rfl (fun K hK => ?_) ?_
                          · skip
                            go_simp
                            refine hK.out _ _ ?_ (fun hHeld => ?_)
                            · exact HT3.out
                            clear hK K
                            try simp only [Act.put, List.setIfInBounds_toArray, List.set_cons_zero, List.set_cons_succ]
                            refine wpAnyH_ready (rs := [15]) (by kernel_rfl) (by simp) ?_
                            refine AllReadyH.cons (o := { dst := some 147, op := Op.buildSlice 23 1 #[(0, Operand.tmp 146)], type := 23, pos := "aig.go:547", after := #[{ on := 14, ground := Ground.data }], guard := none }) rfl (fun K hK => ?_) ?_
                            · skip
                              go_simp
                              refine hK.out _ _ ?_ (fun hHeld => ?_)
                              · exact three_belowQ HT3.out (below_alloc _ _)
                              clear hK K
                              try simp only [Act.put, List.setIfInBounds_toArray, List.set_cons_zero, List.set_cons_succ]
                              refine wpAnyH_ready (rs := [16]) (by kernel_rfl) (by simp) ?_
                              refine AllReadyH.cons (o := { dst := some 148, op := Op.call { callee := Callee.builtin Builtin.append, args := #[Operand.tmp 133, Operand.tmp 147], argTypes := #[23, 23] }, type := 23, pos := "aig.go:547", after := #[{ on := 1, ground := Ground.data }, { on := 15, ground := Ground.data }, { on := 13, ground := Ground.chain }], guard := none }) rfl (fun K hK => ?_) ?_
                              · skip
                                (refine step_append_wr (.tmp 133) (.tmp 147) 23 w3.heap.size 43 i2 (.agg #[.int .i64 0, .int .i64 0, .int .i64 0]) 3 24 Try.underlying23 hi2 hy0 hy1 hy2 rfl (Nat.succ_pos 2) (.slice d.a2 d.n2 d.c2) d.n2 (cellsT ((C.lats.take k).map (renT C.ren))) (some ⟨W.heap.size, 0, none⟩) 1 1 [.int .i64 y0, .int .i64 y1, .int .i64 y2] rfl (fun e => by cases e) HOne.out HX2.out HY2.out (by simp [Act.eval]) (by simp [Act.eval]) (HO2.out _) ((rowC_three (t := 43) (w := W) rfl rfl).below (Drew.below ⟨1, rfl⟩)) (HSz.out _) ?_; intro v4 w4 ho hg; rw [← HS.out] at ho; obtain ⟨A4, K4, rfl⟩ := own_form ho; have HRD := hide (HLat.out _ w4 A4 _ K4 _ hg ho); have hbx := HBx.out _ w4 hg; have hq4 := hbx.cells.2.2.1; have hf4 := box_frozen hbx 2; have S4 := hide (three_grown (three_belowQ HT3.out (below_alloc _ _)) hg HNe.out); clear ho hg hbx)
                                refine hK.out _ _ ?_ (fun hHeld => ?_)
                                · exact S4.out
                                clear hK K
                                try simp only [Act.put, List.setIfInBounds_toArray, List.set_cons_zero, List.set_cons_succ]
                                refine wpAnyH_take (i := 17) (oi := { dst := some 149, op := Op.fieldAddr 27 (Operand.tmp 14) 2, type := 0, pos := "aig.go:547", after := #[{ on := 0, ground := Ground.phase }, { on := 1, ground := Ground.phase }, { on := 2, ground := Ground.phase }, { on := 3, ground := Ground.phase }, { on := 4, ground := Ground.phase }, { on := 5, ground := Ground.phase }, { on := 6, ground := Ground.phase }, { on := 7, ground := Ground.phase }, { on := 8, ground := Ground.phase }, { on := 9, ground := Ground.phase }, { on := 10, ground := Ground.phase }, { on := 11, ground := Ground.phase }, { on := 12, ground := Ground.phase }, { on := 13, ground := Ground.phase }, { on := 14, ground := Ground.phase }, { on := 15, ground := Ground.phase }, { on := 16, ground := Ground.phase }], guard := none }) (v := ?_) rfl (by kernel_rfl) (by kernel_rfl) (by kernel_rfl) (fun _ _ _ h => h) (Or.inl ⟨by rfl, ?_⟩) (by assumption) ?_
                                rotate_left
                                · (intro w0 hSw; (try dsimp only at hSw); go_simp; try with_reducible rfl)
                                try simp only [Act.put, List.setIfInBounds_toArray, List.set_cons_zero, List.set_cons_succ]
                                refine wpAnyH_ready (rs := [18]) (by kernel_rfl) (by simp) ?_
                                refine AllReadyH.cons (o := { dst := none, op := Op.store 23 (Operand.tmp 149) (Operand.tmp 148), type := 0, pos := "aig.go:547", after := #[{ on := 17, ground := Ground.data }, { on := 16, ground := Ground.data }, { on := 16, ground := Ground.chain }, { on := 0, ground := Ground.phase }, { on := 1, ground := Ground.phase }, { on := 2, ground := Ground.phase }, { on := 3, ground := Ground.phase }, { on := 4, ground := Ground.phase }, { on := 5, ground := Ground.phase }, { on := 6, ground := Ground.phase }, { on := 7, ground := Ground.phase }, { on := 8, ground := Ground.phase }, { on := 9, ground := Ground.phase }, { on := 10, ground := Ground.phase }, { on := 11, ground := Ground.phase }, { on := 12, ground := Ground.phase }, { on := 13, ground := Ground.phase }, { on := 14, ground := Ground.phase }, { on := 15, ground := Ground.phase }, { on := 16, ground := Ground.phase }], guard := none }) rfl (fun K hK => ?_) ?_
                                · skip
                                  go_simp
                                  refine hK.out _ _ ?_ (fun hHeld => ?_)
                                  · exact three_set S4.out (Nat.ne_of_lt hbl)
                                  clear hK K
                                  try simp only [Act.put, List.setIfInBounds_toArray, List.set_cons_zero, List.set_cons_succ]
                                  refine wpAnyH_done (by kernel_rfl) ?_ _
                                  clear hq4 hf4 S4 hHeld hd2 hd3 HG0 HG1 HG2 HLat HBx HO2 HSz HT3 HNe HOne HX2 HY2 HS HN2 hi2 hy0 hy1 hy2 HF0
                                  go_wp2
                                  go_roundw
                                  case rel => exact ⟨k + 1, _, by go_num, by omega, HRD.out, HDm.out⟩
                                  case measure => simp [intOf]; omega
                                exact AllReadyH.nil
                              exact AllReadyH.nil
                            exact AllReadyH.nil
                          refine AllReadyH.cons (o := { dst := some 147, op := Op.buildSlice 23 1 #[(0, Operand.tmp 146)], type := 23, pos := "aig.go:547", after := #[{ on := 14, ground := Ground.data }], guard := none }) rfl (fun K hK => ?_) ?_
                          · skip
                            go_simp
                            refine hK.out _ _ ?_ (fun hHeld => ?_)
                            · exact three_belowQ HT3.out (below_alloc _ _)
                            clear hK K
                            try simp only [Act.put, List.setIfInBounds_toArray, List.set_cons_zero, List.set_cons_succ]
                            refine wpAnyH_ready (rs := [1]) (by kernel_rfl) (by simp) ?_
                            refine AllReadyH.cons (o := { dst := some 133, op := Op.load 23 (Operand.tmp 132), type := 23, pos := "aig.go:547", after := #[{ on := 0, ground := Ground.data }], guard := none }) rfl (fun K hK => ?_) ?_
                            · skip
                              go_simp
                              refine hK.out _ _ ?_ (fun hHeld => ?_)
                              · exact three_belowQ HT3.out (below_alloc _ _)
                              clear hK K
                              try simp only [Act.put, List.setIfInBounds_toArray, List.set_cons_zero, List.set_cons_succ]
                              refine wpAnyH_ready (rs := [16]) (by kernel_rfl) (by simp) ?_
                              refine AllReadyH.cons (o := { dst := some 148, op := Op.call { callee := Callee.builtin Builtin.append, args := #[Operand.tmp 133, Operand.tmp 147], argTypes := #[23, 23] }, type := 23, pos := "aig.go:547", after := #[{ on := 1, ground := Ground.data }, { on := 15, ground := Ground.data }, { on := 13, ground := Ground.chain }], guard := none }) rfl (fun K hK => ?_) ?_
                              · skip
                                (refine step_append_wr (.tmp 133) (.tmp 147) 23 w3.heap.size 43 i2 (.agg #[.int .i64 0, .int .i64 0, .int .i64 0]) 3 24 Try.underlying23 hi2 hy0 hy1 hy2 rfl (Nat.succ_pos 2) (.slice d.a2 d.n2 d.c2) d.n2 (cellsT ((C.lats.take k).map (renT C.ren))) (some ⟨W.heap.size, 0, none⟩) 1 1 [.int .i64 y0, .int .i64 y1, .int .i64 y2] rfl (fun e => by cases e) HOne.out HX2.out HY2.out (by simp [Act.eval]) (by simp [Act.eval]) (HO2.out _) ((rowC_three (t := 43) (w := W) rfl rfl).below (Drew.below ⟨1, rfl⟩)) (HSz.out _) ?_; intro v4 w4 ho hg; rw [← HS.out] at ho; obtain ⟨A4, K4, rfl⟩ := own_form ho; have HRD := hide (HLat.out _ w4 A4 _ K4 _ hg ho); have hbx := HBx.out _ w4 hg; have hq4 := hbx.cells.2.2.1; have hf4 := box_frozen hbx 2; have S4 := hide (three_grown (three_belowQ HT3.out (below_alloc _ _)) hg HNe.out); clear ho hg hbx)
                                refine hK.out _ _ ?_ (fun hHeld => ?_)
                                · exact S4.out
                                clear hK K
                                try simp only [Act.put, List.setIfInBounds_toArray, List.set_cons_zero, List.set_cons_succ]
                                refine wpAnyH_take (i := 17) (oi := { dst := some 149, op := Op.fieldAddr 27 (Operand.tmp 14) 2, type := 0, pos := "aig.go:547", after := #[{ on := 0, ground := Ground.phase }, { on := 1, ground := Ground.phase }, { on := 2, ground := Ground.phase }, { on := 3, ground := Ground.phase }, { on := 4, ground := Ground.phase }, { on := 5, ground := Ground.phase }, { on := 6, ground := Ground.phase }, { on := 7, ground := Ground.phase }, { on := 8, ground := Ground.phase }, { on := 9, ground := Ground.phase }, { on := 10, ground := Ground.phase }, { on := 11, ground := Ground.phase }, { on := 12, ground := Ground.phase }, { on := 13, ground := Ground.phase }, { on := 14, ground := Ground.phase }, { on := 15, ground := Ground.phase }, { on := 16, ground := Ground.phase }], guard := none }) (v := ?_) rfl (by kernel_rfl) (by kernel_rfl) (by kernel_rfl) (fun _ _ _ h => h) (Or.inl ⟨by rfl, ?_⟩) (by assumption) ?_
                                rotate_left
                                · (intro w0 hSw; (try dsimp only at hSw); go_simp; try with_reducible rfl)
                                try simp only [Act.put, List.setIfInBounds_toArray, List.set_cons_zero, List.set_cons_succ]
                                refine wpAnyH_ready (rs := [18]) (by kernel_rfl) (by simp) ?_
                                refine AllReadyH.cons (o := { dst := none, op := Op.store 23 (Operand.tmp 149) (Operand.tmp 148), type := 0, pos := "aig.go:547", after := #[{ on := 17, ground := Ground.data }, { on := 16, ground := Ground.data }, { on := 16, ground := Ground.chain }, { on := 0, ground := Ground.phase }, { on := 1, ground := Ground.phase }, { on := 2, ground := Ground.phase }, { on := 3, ground := Ground.phase }, { on := 4, ground := Ground.phase }, { on := 5, ground := Ground.phase }, { on := 6, ground := Ground.phase }, { on := 7, ground := Ground.phase }, { on := 8, ground := Ground.phase }, { on := 9, ground := Ground.phase }, { on := 10, ground := Ground.phase }, { on := 11, ground := Ground.phase }, { on := 12, ground := Ground.phase }, { on := 13, ground := Ground.phase }, { on := 14, ground := Ground.phase }, { on := 15, ground := Ground.phase }, { on := 16, ground := Ground.phase }], guard := none }) rfl (fun K hK => ?_) ?_
                                · skip
                                  go_simp
                                  refine hK.out _ _ ?_ (fun hHeld => ?_)
                                  · exact three_set S4.out (Nat.ne_of_lt hbl)
                                  clear hK K
                                  try simp only [Act.put, List.setIfInBounds_toArray, List.set_cons_zero, List.set_cons_succ]
                                  refine wpAnyH_done (by kernel_rfl) ?_ _
                                  clear hq4 hf4 S4 hHeld hd2 hd3 HG0 HG1 HG2 HLat HBx HO2 HSz HT3 HNe HOne HX2 HY2 HS HN2 hi2 hy0 hy1 hy2 HF0
                                  go_wp2
                                  go_roundw
                                  case rel => exact ⟨k + 1, _, by go_num, by omega, HRD.out, HDm.out⟩
                                  case measure => simp [intOf]; omega
                                exact AllReadyH.nil
                              exact AllReadyH.nil
                            exact AllReadyH.nil
                          exact AllReadyH.nil
                        exact AllReadyH.nil
                      exact AllReadyH.nil
                    exact AllReadyH.nil
                  · obtain rfl : k = c.n2 := by omega
                    have HM2 : Hid (RD w3 C w3.heap.size n b (C.lats.map (renT C.ren)) (andK C 0) d wr) := by
                      have h0 := HF.out
                      rw [← HL.out.l2, List.take_length] at h0
                      exact h0
                    clear HF hlt hk q6
                    go_wp2
                    rename World => wo4
                    go_loopw [17] (fun i wr => ∃ (k : Nat) (d : CV), i = .int .i64 k ∧ k ≤ c.n6 ∧ Hid (RD w3 C w3.heap.size n b (C.lats.map (renT C.ren)) (andK C k) d wr) ∧ Hid (d.m = nv)) (fun i _ => c.n6 - (intOf i).toNat)
                    case atStart => exact ⟨0, d, rfl, Nat.zero_le _, HM2.out, HDm.out⟩
                    case round =>
                      clear HM2 HDm q2
                      obtain ⟨k, d, rfl, hk, HF, HDm⟩ := hrel
                      obtain ⟨-, -, -, -, -, -, q6, -⟩ := (S3.out.then HF.out.lm.below).box.cells
                      by_cases hlt : k < c.n6
                      · obtain ⟨bo, oo, hao, hbo, hocell⟩ := S3.out.ord.addr (by rw [List.length_map, HRt.out.turn, HL.out.l6]; omega)
                        have hkt : k < C.turn.length := by rw [HRt.out.turn, HL.out.l6]; exact hlt
                        have ho0 := (HF.out.lm.below.cell (p := ⟨bo, oo + k, none⟩) hbo).trans (hocell k (by rw [List.length_map]; exact hkt))
                        rw [atP_getD, atP_map _ _ _ hkt] at ho0
                        have hpl := turn_lt _ (atP_mem C.turn k hkt)
                        have HS := hide (andK_succ C k hkt)
                        generalize atP C.turn k = p at ho0 hpl HS
                        obtain ⟨b6, off, ha, hbw, hcell⟩ := S3.out.holds.r6.addr (by rw [cellsT_len]; omega)
                        have hat := cellsT_at C.ands p hpl
                        have hc0 := (HF.out.lm.below.cell (p := ⟨b6, off + p * 3, none⟩) hbw).trans (hcell _ _ hat.1)
                        have hc1 := (HF.out.lm.below.cell (p := ⟨b6, off + p * 3 + 1, none⟩) hbw).trans (hcell _ _ hat.2.1)
                        have hc2 := (HF.out.lm.below.cell (p := ⟨b6, off + p * 3 + 2, none⟩) hbw).trans (hcell _ _ hat.2.2)
                        have hli := hide (in_ands HRt.out _ (atP_mem C.ands p hpl))
                        rw [← HNn.out] at hli
                        rw [HL.out.l6] at hpl
                        generalize atP C.ands p = x at hc0 hc1 hc2 hli HS
                        obtain ⟨x0, x1, x2⟩ := x
                        dsimp only [renA] at hc0 hc1 hc2 HS
                        have HN6 : Hid (d.n6 = k) := by
                          show d.n6 = k
                          have h1 := HF.out.o6.1
                          rw [cellsT_len, andK, List.length_map, List.length_take] at h1
                          omega
                        rw [ha] at q6
                        subst hao
                        have HA := hide ha
                        have hk0 : (0 : Int) ≤ (k : Int) := by omega
                        have hk1 : (k : Int) < (c.n6 : Int) := by omega
                        have hp0 : (0 : Int) ≤ (p : Int) := by omega
                        have hp1 : (p : Int) < (c.n6 : Int) := by omega
                        have HHF := hide HF.out
                        clear hcell hocell ha hat HF
                        go_wp2
                        go_region_held3 (fun w' => w'.cell? ⟨w.heap.size, 6, none⟩ = some (.slice (some ⟨b6, off, none⟩) c.n6 c.c6) ∧ w'.cell? ⟨bo, oo + k, none⟩ = some (.int .i64 (p : Int)) ∧ w'.cell? ⟨b6, off + p * 3, none⟩ = some (.int .i64 x0) ∧ w'.cell? ⟨b6, off + p * 3 + 1, none⟩ = some (.int .i64 x1) ∧ w'.cell? ⟨b6, off + p * 3 + 2, none⟩ = some (.int .i64 x2)) (go_keep) (fail)
                        clear ho0 hc0 hc1 hc2 q6
                        go_wp2
                        have HB1 : Hid (Below wr.heap.size wr (wr.alloc (.cells #[.int .i64 x0, .int .i64 x1, .int .i64 x2] 46)).drew) := belowThen (below_alloc _ _) (Drew.below ⟨1, rfl⟩)
                        have R1 := hide (HHF.out.then HB1.out)
                        have HT3 := hide (three_new wr (.int .i64 x0) (.int .i64 x1) (.int .i64 x2) 46)
                        have hws : wr.heap.size < (wr.alloc (.cells #[.int .i64 x0, .int .i64 x1, .int .i64 x2] 46)).drew.heap.size := by show wr.heap.size < (wr.heap.push _).size; rw [Array.size_push]; omega
                        clear HB1 HHF
                        generalize (wr.alloc (.cells #[.int .i64 x0, .int .i64 x1, .int .i64 x2] 46)).drew = W1 at R1 HT3 hws ⊢
                        have HTd : Hid (W1.drew.cell? ⟨wr.heap.size, 0, none⟩ = some (.int .i64 x0) ∧ W1.drew.cell? ⟨wr.heap.size, 1, none⟩ = some (.int .i64 x1) ∧ W1.drew.cell? ⟨wr.heap.size, 2, none⟩ = some (.int .i64 x2)) := three_belowQ HT3.out (Drew.below ⟨1, rfl⟩)
                        have HTa : Hid (∀ o, (W1.alloc o).drew.cell? ⟨wr.heap.size, 0, none⟩ = some (.int .i64 x0) ∧ (W1.alloc o).drew.cell? ⟨wr.heap.size, 1, none⟩ = some (.int .i64 x1) ∧ (W1.alloc o).drew.cell? ⟨wr.heap.size, 2, none⟩ = some (.int .i64 x2)) := fun o => three_belowQ HT3.out (belowThen (below_alloc _ o) (Drew.below ⟨1, rfl⟩))
                        have HGa : Hid (∀ l, LitIn n l → Calls Try.prog 51 #[.slice (some ⟨w3.heap.size, 0, none⟩) n n, .int .i64 l] W1.drew fun e w' => e = .returned (.int .i64 (renL C.ren l)) ∧ w' = W1.drew) := fun l hl => renamed_any w3.heap.size n C.ren l _ ((R1.out.then (Drew.below ⟨1, rfl⟩)).ren hnb HRs.out) hl
                        have HGb : Hid (∀ o l, LitIn n l → Calls Try.prog 51 #[.slice (some ⟨w3.heap.size, 0, none⟩) n n, .int .i64 l] (W1.alloc o).drew fun e w' => e = .returned (.int .i64 (renL C.ren l)) ∧ w' = (W1.alloc o).drew) := fun o l hl => renamed_any w3.heap.size n C.ren l _ ((R1.out.then (belowThen (below_alloc _ o) (Drew.below ⟨1, rfl⟩))).ren hnb HRs.out) hl
                        have HGa0 := hide (HGa.out x0 hli.out.1)
                        have HGa1 := hide (HGa.out x1 hli.out.2.1)
                        have HGa2 := hide (HGa.out x2 hli.out.2.2)
                        have HGb0 := hide (fun o => HGb.out o x0 hli.out.1)
                        have HGb1 := hide (fun o => HGb.out o x1 hli.out.2.1)
                        have HGb2 := hide (fun o => HGb.out o x2 hli.out.2.2)
                        clear HGa HGb HT3 hli
                        generalize renL C.ren x0 = y0 at HGa0 HGb0 HS
                        generalize renL C.ren x1 = y1 at HGa1 HGb1 HS
                        generalize renL C.ren x2 = y2 at HGa2 HGb2 HS
                        go_region_held3 (fun w' => w'.cell? ⟨wr.heap.size, 0, none⟩ = some (.int .i64 x0) ∧ w'.cell? ⟨wr.heap.size, 1, none⟩ = some (.int .i64 x1) ∧ w'.cell? ⟨wr.heap.size, 2, none⟩ = some (.int .i64 x2)) (first | with_reducible exact HTd.out | with_reducible exact HTa.out _ | exact HTa.out _ | go_keep) (first | (go_at_call_of 51 (Value.int .i64 x0); (first | (with_reducible refine HGa0.out.mono ?_) | (with_reducible refine (HGb0.out _).mono ?_)); rintro e w5 ⟨rfl, hw5⟩; obtain rfl := hw5.symm) | (go_at_call_of 51 (Value.int .i64 x1); (first | (with_reducible refine HGa1.out.mono ?_) | (with_reducible refine (HGb1.out _).mono ?_)); rintro e w5 ⟨rfl, hw5⟩; obtain rfl := hw5.symm) | (go_at_call_of 51 (Value.int .i64 x2); (first | (with_reducible refine HGa2.out.mono ?_) | (with_reducible refine (HGb2.out _).mono ?_)); rintro e w5 ⟨rfl, hw5⟩; obtain rfl := hw5.symm))
                        all_goals clear HGa0 HGa1 HGa2 HGb0 HGb1 HGb2 HTa HTd
                        all_goals have hN6 : d.n6 ≤ 2000 := by rw [HN6.out]; omega
                        all_goals have HO6 := hide (fun o o' => (R1.out.then (belowThen (belowThen (below_alloc W1 o) (below_alloc _ o')) (Drew.below ⟨1, rfl⟩))).o6)
                        all_goals have HSz6 := hide (fun o o' => (R1.out.then (belowThen (belowThen (below_alloc W1 o) (below_alloc _ o')) (Drew.below ⟨1, rfl⟩))).lm.below.size)
                        all_goals have HAnd := hide (fun o o' w4 (A4 : Option Addr) (m K4 : Nat) (L6' : List Tri) (hg : ((W1.alloc o).alloc o').drew.grownBy w4 (Value.slice d.a6 d.n6 d.c6).ownBlock) ho => RD.and (L6' := L6') (A4 := A4) (m := m) (K4 := K4) R1.out (belowThen (belowThen (below_alloc W1 o) (below_alloc _ o')) (Drew.below ⟨1, rfl⟩)) hg ho)
                        all_goals have HBx6 := hide (fun o o' w4 (hg : ((W1.alloc o).alloc o').drew.grownBy w4 (Value.slice d.a6 d.n6 d.c6).ownBlock) => (R1.out.then (belowThen (belowThen (below_alloc W1 o) (below_alloc _ o')) (Drew.below ⟨1, rfl⟩))).box.grown hg (own_ne_box (R1.out.then (belowThen (belowThen (below_alloc W1 o) (below_alloc _ o')) (Drew.below ⟨1, rfl⟩))).o6 (R1.out.then (belowThen (belowThen (below_alloc W1 o) (below_alloc _ o')) (Drew.below ⟨1, rfl⟩))).box (by decide)))
                        all_goals have hd6 : ∀ o, (W1.alloc o).drew.cell? ⟨b, 6, none⟩ = some (.slice d.a6 d.n6 d.c6) := fun o => (R1.out.then (belowThen (below_alloc W1 o) (Drew.below ⟨1, rfl⟩))).box.cells.2.2.2.2.2.2.1
                        all_goals by_cases hcmp : y1 < y2
                        all_goals first | (rw [show max y1 y2 = y2 by omega, show min y1 y2 = y1 by omega] at HS; go_wp2_with (at_builtin; refine wpList_append_rowC _ rfl (.tmp 190) (.tmp 192) 24 rfl w3.heap.size 46 i6 (.agg #[.int .i64 0, .int .i64 0, .int .i64 0]) 3 24 Try.underlying24 hi6 hx0 hx1 hx2 rfl (by decide) _ d.n6 (cellsT (andK C k)) rfl (HO6.out (.cells #[.int .i64 y0, .int .i64 y2, .int .i64 y1] 46) (.cells #[.int .i64 y0, .int .i64 y2, .int .i64 y1] 46)) (some ⟨W1.heap.size + 1, 0, none⟩) 1 1 [.int .i64 y0, .int .i64 y2, .int .i64 y1] rfl rfl ((rowC_three (t := 46) (w := W1.alloc (.cells #[.int .i64 y0, .int .i64 y2, .int .i64 y1] 46)) rfl (by simp)).below (Drew.below ⟨1, rfl⟩)) (fun e => by cases e) (by intro u hu; simp at hu; rcases hu with rfl | rfl | rfl <;> rfl) (by unfold maxLen; omega) (by omega) (HSz6.out (.cells #[.int .i64 y0, .int .i64 y2, .int .i64 y1] 46) (.cells #[.int .i64 y0, .int .i64 y2, .int .i64 y1] 46)) ?_; intro v4 w4 ho hg; rw [← HS.out] at ho; obtain ⟨A4, K4, rfl⟩ := own_form ho; have HRD := hide (HAnd.out (.cells #[.int .i64 y0, .int .i64 y2, .int .i64 y1] 46) (.cells #[.int .i64 y0, .int .i64 y2, .int .i64 y1] 46) w4 A4 _ K4 _ hg ho); have hbx := HBx6.out (.cells #[.int .i64 y0, .int .i64 y2, .int .i64 y1] 46) (.cells #[.int .i64 y0, .int .i64 y2, .int .i64 y1] 46) w4 hg; have hq4 := hbx.cells.2.2.2.2.2.2.1; have hf4 := box_frozen hbx 6; clear ho hg hbx HS)) | (rw [show max y1 y2 = y1 by omega, show min y1 y2 = y2 by omega] at HS; go_wp2_with (at_builtin; refine wpList_append_rowC _ rfl (.tmp 190) (.tmp 192) 24 rfl w3.heap.size 46 i6 (.agg #[.int .i64 0, .int .i64 0, .int .i64 0]) 3 24 Try.underlying24 hi6 hx0 hx1 hx2 rfl (by decide) _ d.n6 (cellsT (andK C k)) rfl (HO6.out (.cells #[.int .i64 y0, .int .i64 y1, .int .i64 y2] 46) (.cells #[.int .i64 y0, .int .i64 y1, .int .i64 y2] 46)) (some ⟨W1.heap.size + 1, 0, none⟩) 1 1 [.int .i64 y0, .int .i64 y1, .int .i64 y2] rfl rfl ((rowC_three (t := 46) (w := W1.alloc (.cells #[.int .i64 y0, .int .i64 y1, .int .i64 y2] 46)) rfl (by simp)).below (Drew.below ⟨1, rfl⟩)) (fun e => by cases e) (by intro u hu; simp at hu; rcases hu with rfl | rfl | rfl <;> rfl) (by unfold maxLen; omega) (by omega) (HSz6.out (.cells #[.int .i64 y0, .int .i64 y1, .int .i64 y2] 46) (.cells #[.int .i64 y0, .int .i64 y1, .int .i64 y2] 46)) ?_; intro v4 w4 ho hg; rw [← HS.out] at ho; obtain ⟨A4, K4, rfl⟩ := own_form ho; have HRD := hide (HAnd.out (.cells #[.int .i64 y0, .int .i64 y1, .int .i64 y2] 46) (.cells #[.int .i64 y0, .int .i64 y1, .int .i64 y2] 46) w4 A4 _ K4 _ hg ho); have hbx := HBx6.out (.cells #[.int .i64 y0, .int .i64 y1, .int .i64 y2] 46) (.cells #[.int .i64 y0, .int .i64 y1, .int .i64 y2] 46) w4 hg; have hq4 := hbx.cells.2.2.2.2.2.2.1; have hf4 := box_frozen hbx 6; clear ho hg hbx HS))
                        all_goals go_roundw
                        all_goals first | exact ⟨k + 1, _, by go_num, by omega, HRD.out, HDm.out⟩ | (simp [intOf]; omega)
                      · obtain rfl : k = c.n6 := by omega
                        have HM3 : Hid (RD w3 C w3.heap.size n b (C.lats.map (renT C.ren)) (C.turn.map (fun i => renA C.ren (atP C.ands i))) d wr) := by
                          have h0 := HF.out
                          rw [andK, ← HL.out.l6, ← HRt.out.turn, List.take_length] at h0
                          exact h0
                        have HFin := hide (HM3.out.out (HDm.out.trans HNv.out) S3.out HRt.out)
                        have HRes := hide (box_put d (S3.out.then HM3.out.lm.below).res)
                        obtain ⟨p0, p1, p2, p3, p4, p5, p6, p7⟩ := HM3.out.box.cells
                        obtain ⟨z0, z1, z2, z3, z4, z5, z6, z7, f0, f1, f2, f3, f4, f5, f6, f7⟩ := nil_facts (S3.out.then HM3.out.lm.below).res
                        clear HF hlt hk HM3 HDm HNv S3 HRt HRs q6
                        go_wp2
                        clear p0 p1 p2 p3 p4 p5 p6 p7 z0 z1 z2 z3 z4 z5 z6 z7 f0 f1 f2 f3 f4 f5 f6 f7
                        show bodyPost _ _ _ _ _ (putBox wr (w.heap.size + 1) d)
                        generalize putBox wr (w.heap.size + 1) d = Wf at *
                        obtain ⟨r0, r1, r2, r3, r4, r5, r6, r7⟩ := HRes.out.cells
                        refine bodyPost_ret (v := .tuple #[d.v, .int .i64 0]) (by simp [CV.v, results, Try.results27, go_sem, *]) rfl ?_
                        exact ⟨d, rfl, HFin.out⟩
end Go.Proofs.Ytppaifckiaaffaa
