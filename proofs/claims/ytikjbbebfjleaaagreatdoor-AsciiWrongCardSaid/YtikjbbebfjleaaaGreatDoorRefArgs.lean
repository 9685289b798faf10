/-
  THE WALK of the reference's args.
-/
import Derived.Test.YtikjbbebfjleaaaGreatDoorJ39
import Derived.Deep.Cut
namespace Go.Proofs.YtikjbbebfjleaaaGreatDoor
open Go.RowKit

set_option maxRecDepth 100000 in
set_option maxHeartbeats 4000000 in
theorem args_any (c : CV) (C : Circ) (w : World) (h : Holds w c C) (hS : Small C) (hm63 : -9223372036854775808 ≤ c.m) (hN : NamesWide C) :
    Calls Tryz.prog 58 #[c.v] w fun e w' => e = .returned (.bool C.argsB) ∧ Below w.heap.size w w' := by
  have hm5 : c.m ≤ 5000 := by rw [h.m]; exact hS.max
  have n1 : c.n1 ≤ 64 := by rw [← h.l1]; exact hS.ins
  have n2 : c.n2 ≤ 64 := by rw [← h.l2]; exact hS.lats
  have n3 : c.n3 ≤ 64 := by rw [← h.l3]; exact hS.outs
  have n4 : c.n4 ≤ 64 := by rw [← h.l4]; exact hS.bads
  have n5 : c.n5 ≤ 64 := by rw [← h.l5]; exact hS.cons
  have n6 : c.n6 ≤ 2000 := by rw [← h.l6]; exact hS.ands
  have n7 : c.n7 ≤ 320 := by rw [← h.l7]; exact hS.names
  by_cases hm0 : c.m < 0
  · have e : C.argsB = false := by unfold Circ.argsB; rw [decide_eq_false (show ¬ 0 ≤ C.max by rw [← h.m]; omega)]; rfl
    rw [e]
    clear e h hS hN
    unfold CV.v
    go_enter Tryz.func58, Tryz.ntmps58
    go_wp2
    go_ret
    exact ⟨rfl, below_alloc w _⟩
  have e : C.argsB = ((((C.portsB && C.ins.all evenB) && C.lats.all (latOkB (2 * c.m + 1))) && C.ands.all (triB (2 * c.m + 1))) && C.names.all C.symB) := by unfold Circ.argsB Circ.namesB Circ.top; rw [decide_eq_true (show 0 ≤ C.max by rw [← h.m]; omega), h.m]; rfl
  rw [e]
  have hb0 := fun o => below_alloc w o
  have htop : C.top = 2 * c.m + 1 := by unfold Circ.top; rw [h.m]
  have HL1 := hide (fun W (hb : Below w.heap.size w W) => lits_any c.a1 c.n1 c.c1 C.ins (2 * c.m + 1) W (h.r1.below hb) h.l1 (by omega))
  have HL3 := hide (fun W (hb : Below w.heap.size w W) => lits_any c.a3 c.n3 c.c3 C.outs (2 * c.m + 1) W (h.r3.below hb) h.l3 (by omega))
  have HL4 := hide (fun W (hb : Below w.heap.size w W) => lits_any c.a4 c.n4 c.c4 C.bads (2 * c.m + 1) W (h.r4.below hb) h.l4 (by omega))
  have HL5 := hide (fun W (hb : Below w.heap.size w W) => lits_any c.a5 c.n5 c.c5 C.cons (2 * c.m + 1) W (h.r5.below hb) h.l5 (by omega))
  have HSy := hide (fun x0 x1 x2 W (hs : x2.size ≤ 9223372036854775807) (hb : Below w.heap.size w W) => symbol_any c C x0 x1 x2 W (h.below hb) hs)
  obtain ⟨b0, HB0⟩ : ∃ b0, Hid (b0 = C.portsB) := ⟨_, rfl⟩
  rw [← HB0.out]
  have HBE : Hid (b0 = (C.ins.all (litB (2 * c.m + 1)) && (C.outs.all (litB (2 * c.m + 1)) && (C.bads.all (litB (2 * c.m + 1)) && C.cons.all (litB (2 * c.m + 1)))))) := by
    show b0 = _
    rw [HB0.out, ← htop]; rfl
  generalize C.ins.all (litB (2 * c.m + 1)) = b1 at HL1 HBE
  generalize C.outs.all (litB (2 * c.m + 1)) = b3 at HL3 HBE
  generalize C.bads.all (litB (2 * c.m + 1)) = b4 at HL4 HBE
  generalize C.cons.all (litB (2 * c.m + 1)) = b5 at HL5 HBE
  have HH := hide h
  have HN := hide hN
  have HB := hide (box_new w c)
  generalize hP : (fun (e : Ending) (w' : World) => e = .returned (.bool ((((b0 && C.ins.all evenB) && C.lats.all (latOkB (2 * c.m + 1))) && C.ands.all (triB (2 * c.m + 1))) && C.names.all C.symB)) ∧ Below w.heap.size w w') = Post
  have HP := hide hP
  clear h hS hN hP e htop HB0
  unfold CV.v at HSy ⊢
  unfold Box at HB
  generalize hA1 : c.a1 = A1 at HB HL1 HSy ⊢
  generalize hA2 : c.a2 = A2 at HB HSy ⊢
  generalize hA6 : c.a6 = A6 at HB HSy ⊢
  generalize hA7 : c.a7 = A7 at HB HSy ⊢
  have HA1 := hide hA1
  have HA2 := hide hA2
  have HA6 := hide hA6
  have HA7 := hide hA7
  clear hA1 hA2 hA6 hA7
  go_enter Tryz.func58, Tryz.ntmps58
  go_upto_region 4 with fail
  go_cut [4] from 18 to 39 (fun s4 wx => s4 = .bool b0 ∧ Hid (Below w.heap.size w wx ∧ Box wx w.heap.size c))
  case first =>
    clear HB
    go_wp2_with fail
    refine (HL1.out _ (hb0 _)).mono ?_
    rintro e w1 ⟨rfl, rfl⟩
    cases b1 with
    | false =>
      go_wp2_with fail
      go_meet
      exact ⟨by rw [HBE.out]; rfl, hb0 _, by rw [← HA1.out, ← HA2.out, ← HA6.out, ← HA7.out]; exact box_new w c⟩
    | true =>
      go_wp2_with fail
      refine (HL3.out _ (hb0 _)).mono ?_
      rintro e w1 ⟨rfl, rfl⟩
      cases b3 with
      | false =>
        go_wp2_with fail
        go_meet
        exact ⟨by rw [HBE.out]; rfl, hb0 _, by rw [← HA1.out, ← HA2.out, ← HA6.out, ← HA7.out]; exact box_new w c⟩
      | true =>
        go_wp2_with fail
        refine (HL4.out _ (hb0 _)).mono ?_
        rintro e w1 ⟨rfl, rfl⟩
        cases b4 with
        | false =>
          go_wp2_with fail
          go_meet
          exact ⟨by rw [HBE.out]; rfl, hb0 _, by rw [← HA1.out, ← HA2.out, ← HA6.out, ← HA7.out]; exact box_new w c⟩
        | true =>
          go_wp2_with fail
          refine (HL5.out _ (hb0 _)).mono ?_
          rintro e w1 ⟨rfl, rfl⟩
          go_wp2_with fail
          go_meet
          exact ⟨by rw [HBE.out]; rfl, hb0 _, by rw [← HA1.out, ← HA2.out, ← HA6.out, ← HA7.out]; exact box_new w c⟩
  case rest =>
    rename World => wx
    obtain ⟨rfl, HX⟩ := hcut
    clear HBE HL1 HL3 HL4 HL5 HB
    clear b1 b3 b4 b5
    have HM : Hid (Below w.heap.size w wx ∧ Box wx w.heap.size c ∧ b0 = (b0 && (C.ins.take 0).all evenB)) := ⟨HX.out.1, HX.out.2, by simp⟩
    obtain ⟨bI, HBI⟩ : ∃ bI : Bool, Hid (bI = b0) := ⟨_, rfl⟩
    clear HX
    go_wp2
    go_loop [4, 5] (fun s i => ∃ (k : Nat) (ok : Bool), i = .int .i64 k ∧ s = .bool ok ∧ k ≤ c.n1 ∧ Hid (Below w.heap.size w wx ∧ Box wx w.heap.size c ∧ ok = (bI && (C.ins.take k).all evenB))) (fun _ i => c.n1 - (intOf i).toNat)
    case atStart => exact ⟨0, _, rfl, rfl, Nat.zero_le _, hide (by rw [HBI.out]; exact HM.out)⟩
    case round =>
      clear HM
      obtain ⟨k, ok, rfl, rfl, hk, HM⟩ := hrel
      obtain ⟨q0, q1, q2, q3, q4, q5, q6, q7⟩ := HM.out.2.1.cells
      rw [HA1.out] at q1
      rw [HA2.out] at q2
      rw [HA6.out] at q6
      rw [HA7.out] at q7
      by_cases hlt : k < c.n1
      · obtain ⟨b, off, ha, hbw, hcell⟩ := HH.out.r1.addr (by rw [HH.out.l1]; omega)
        rw [HA1.out] at ha
        subst ha
        have hc0 := (HM.out.1.cell (p := ⟨b, off + k, none⟩) hbw).trans (hcell k (by rw [HH.out.l1]; exact hlt))
        rw [atP_getD] at hc0
        have HST := hide (all_take evenB C.ins k (by rw [HH.out.l1]; exact hlt))
        obtain ⟨y, HY⟩ : ∃ y, Hid (y = atP C.ins k) := ⟨_, rfl⟩
        rw [← HY.out] at hc0 HST
        have HO := hide (own_any y wx)
        obtain ⟨t, HT⟩ : ∃ t, Hid (t = evenB y) := ⟨_, rfl⟩
        unfold evenB at HT
        rw [← HT.out] at HO
        have HG : Hid (∀ r, r = (ok && t) → r = (bI && (C.ins.take (k + 1)).all evenB)) := fun r hr => by
          rw [HST.out, hr, HM.out.2.2, Bool.and_assoc, HT.out]; rfl
        clear hcell HY HST HT
        cases ok with
        | false =>
          go_wp2
          go_round
          case rel => exact ⟨k + 1, false, by go_num, rfl, by omega, HM.out.1, HM.out.2.1, HG.out _ rfl⟩
          case measure => simp [intOf]; omega
        | true =>
          go_wp2_with fail
          refine HO.out.mono ?_
          rintro e w1 ⟨rfl, rfl⟩
          go_wp2
          go_round
          case rel => exact ⟨k + 1, t, by go_num, rfl, by omega, HM.out.1, HM.out.2.1, HG.out _ rfl⟩
          case measure => simp [intOf]; omega
      · obtain rfl : k = c.n1 := by omega
        rw [List.take_of_length_le (by rw [HH.out.l1]; exact Nat.le_refl _), HBI.out] at HM
        obtain ⟨b2, HB2⟩ : ∃ b2, Hid (b2 = (b0 && C.ins.all evenB)) := ⟨_, rfl⟩
        rw [← HB2.out] at HP HM
        clear hlt hk HBI HB2
        go_wp2
        clear q0 q1 q2 q3 q4 q5 q6 q7
        go_loopw [4, 6, 7] (fun s i _ wr => ∃ (k : Nat) (ok : Bool), i = .int .i64 k ∧ s = .bool ok ∧ k ≤ c.n2 ∧ Hid (Below w.heap.size w wr ∧ Box wr w.heap.size c ∧ ok = (b2 && (C.lats.take k).all (latOkB (2 * c.m + 1))))) (fun _ i _ _ => c.n2 - (intOf i).toNat)
        case atStart => exact ⟨0, _, rfl, rfl, Nat.zero_le _, HM.out.1, HM.out.2.1, by rw [HM.out.2.2]; simp⟩
        case round =>
          clear HM
          obtain ⟨k, ok, rfl, rfl, hk, HM⟩ := hrel
          obtain ⟨q0, q1, q2, q3, q4, q5, q6, q7⟩ := HM.out.2.1.cells
          rw [HA1.out] at q1
          rw [HA2.out] at q2
          rw [HA6.out] at q6
          rw [HA7.out] at q7
          by_cases hlt : k < c.n2
          · obtain ⟨b, off, ha, hbw, hcell⟩ := HH.out.r2.addr (by rw [cellsT_len, HH.out.l2]; omega)
            rw [HA2.out] at ha
            subst ha
            have hat := cellsT_at C.lats k (by rw [HH.out.l2]; exact hlt)
            have hc0 := (HM.out.1.cell (p := ⟨b, off + k * 3, none⟩) hbw).trans (hcell _ _ hat.1)
            have hc1 := (HM.out.1.cell (p := ⟨b, off + k * 3 + 1, none⟩) hbw).trans (hcell _ _ hat.2.1)
            have hc2 := (HM.out.1.cell (p := ⟨b, off + k * 3 + 2, none⟩) hbw).trans (hcell _ _ hat.2.2)
            have HST := hide (all_take (latOkB (2 * c.m + 1)) C.lats k (by rw [HH.out.l2]; exact hlt))
            obtain ⟨x, HX⟩ : ∃ x, Hid (x = atP C.lats k) := ⟨_, rfl⟩
            rw [← HX.out] at hc0 hc1 hc2 HST
            obtain ⟨x0, x1, x2⟩ := x
            dsimp only at hc0 hc1 hc2
            have HO := hide (fun W => own_any x0 W)
            obtain ⟨t, HT⟩ : ∃ t, Hid (t = evenB x0) := ⟨_, rfl⟩
            unfold evenB at HT
            rw [← HT.out] at HO
            have HL : Hid (Calls Tryz.prog 90 #[.slice (some ⟨wr.heap.size + 1, 0, none⟩) 3 3, .int .i64 (2 * c.m + 1)] ((wr.alloc (.cells #[.int .i64 x0, .int .i64 x1, .int .i64 x2] 73)).alloc (.cells #[.int .i64 x0, .int .i64 x1, .int .i64 x2] 3)) fun e w' => e = .returned (.bool ([x0, x1, x2].all (litB (2 * c.m + 1)))) ∧ w' = ((wr.alloc (.cells #[.int .i64 x0, .int .i64 x1, .int .i64 x2] 73)).alloc (.cells #[.int .i64 x0, .int .i64 x1, .int .i64 x2] 3))) := lits_any _ 3 3 [x0, x1, x2] _ _ (row_three (by simp) _ _ _ _) rfl (by decide)
            obtain ⟨p, HPP⟩ : ∃ p, Hid (p = [x0, x1, x2].all (litB (2 * c.m + 1))) := ⟨_, rfl⟩
            rw [← HPP.out] at HL
            have HG : Hid (∀ r, r = (ok && ((p && t) && resetB (x0, x1, x2))) → r = (b2 && (C.lats.take (k + 1)).all (latOkB (2 * c.m + 1)))) := fun r hr => by
              rw [HST.out, hr, HM.out.2.2, Bool.and_assoc, HT.out, HPP.out]; rfl
            have HW1 := hide (fun o => And.intro (belowThen HM.out.1 (below_alloc wr o)) (HM.out.2.1.alloc o))
            have HW2 := hide (fun o o2 => And.intro (belowThen (belowThen HM.out.1 (below_alloc wr o)) (below_alloc _ o2)) ((HM.out.2.1.alloc o).alloc o2))
            clear hcell hat HX HST HT HPP
            cases ok with
            | false =>
              go_wp2
              go_roundw
              case rel => exact ⟨k + 1, false, by go_num, rfl, by omega, (HW1.out _).1, (HW1.out _).2, HG.out _ rfl⟩
              case measure => simp [intOf]; omega
            | true =>
              go_wp2_with fail
              refine HL.out.mono ?_
              rintro e w1 ⟨rfl, rfl⟩
              cases p with
              | false =>
                go_wp2
                go_roundw
                case rel => exact ⟨k + 1, false, by go_num, rfl, by omega, (HW2.out _ _).1, (HW2.out _ _).2, HG.out _ rfl⟩
                case measure => simp [intOf]; omega
              | true =>
                go_wp2_with fail
                refine (HO.out _).mono ?_
                rintro e w1 ⟨rfl, rfl⟩
                cases t with
                | false =>
                  go_wp2
                  go_roundw
                  case rel => exact ⟨k + 1, false, by go_num, rfl, by omega, (HW2.out _ _).1, (HW2.out _ _).2, HG.out _ (rfl)⟩
                  case measure => simp [intOf]; omega
                | true =>
                  by_cases r0 : x2 = 0
                  · subst r0
                    go_wp2
                    go_roundw
                    case rel => exact ⟨k + 1, true, by go_num, rfl, by omega, (HW2.out _ _).1, (HW2.out _ _).2, HG.out _ (by simp [resetB])⟩
                    case measure => simp [intOf]; omega
                  · have r0b : (x2 == 0) = false := by rw [beq_eq_false_iff_ne]; exact r0
                    by_cases r1 : x2 = 1
                    · subst r1
                      go_wp2
                      go_roundw
                      case rel => exact ⟨k + 1, true, by go_num, rfl, by omega, (HW2.out _ _).1, (HW2.out _ _).2, HG.out _ (by simp [resetB])⟩
                      case measure => simp [intOf]; omega
                    · have r1b : (x2 == 1) = false := by rw [beq_eq_false_iff_ne]; exact r1
                      by_cases r2 : x2 = x0
                      · subst r2
                        go_wp2
                        go_roundw
                        case rel => exact ⟨k + 1, true, by go_num, rfl, by omega, (HW2.out _ _).1, (HW2.out _ _).2, HG.out _ (by simp [resetB])⟩
                        case measure => simp [intOf]; omega
                      · have r2b : (x2 == x0) = false := by rw [beq_eq_false_iff_ne]; exact r2
                        go_wp2
                        go_roundw
                        case rel => exact ⟨k + 1, false, by go_num, rfl, by omega, (HW2.out _ _).1, (HW2.out _ _).2, HG.out _ (by simp [resetB, r0, r1, r2])⟩
                        case measure => simp [intOf]; omega
          · obtain rfl : k = c.n2 := by omega
            rw [List.take_of_length_le (by rw [HH.out.l2]; exact Nat.le_refl _)] at HM
            obtain ⟨b3, HB2⟩ : ∃ b3, Hid (b3 = (b2 && C.lats.all (latOkB (2 * c.m + 1)))) := ⟨_, rfl⟩
            rw [← HB2.out] at HP HM
            clear hlt hk HB2
            go_wp2
            clear q0 q1 q2 q3 q4 q5 q6 q7
            go_loopw [4, 8, 9] (fun s i _ wr => ∃ (k : Nat) (ok : Bool), i = .int .i64 k ∧ s = .bool ok ∧ k ≤ c.n6 ∧ Hid (Below w.heap.size w wr ∧ Box wr w.heap.size c ∧ ok = (b3 && (C.ands.take k).all (triB (2 * c.m + 1))))) (fun _ i _ _ => c.n6 - (intOf i).toNat)
            case atStart => exact ⟨0, _, rfl, rfl, Nat.zero_le _, HM.out.1, HM.out.2.1, by rw [HM.out.2.2]; simp⟩
            case round =>
              clear HM
              obtain ⟨k, ok, rfl, rfl, hk, HM⟩ := hrel
              obtain ⟨q0, q1, q2, q3, q4, q5, q6, q7⟩ := HM.out.2.1.cells
              rw [HA1.out] at q1
              rw [HA2.out] at q2
              rw [HA6.out] at q6
              rw [HA7.out] at q7
              by_cases hlt : k < c.n6
              · obtain ⟨b, off, ha, hbw, hcell⟩ := HH.out.r6.addr (by rw [cellsT_len, HH.out.l6]; omega)
                rw [HA6.out] at ha
                subst ha
                have hat := cellsT_at C.ands k (by rw [HH.out.l6]; exact hlt)
                have hc0 := (HM.out.1.cell (p := ⟨b, off + k * 3, none⟩) hbw).trans (hcell _ _ hat.1)
                have hc1 := (HM.out.1.cell (p := ⟨b, off + k * 3 + 1, none⟩) hbw).trans (hcell _ _ hat.2.1)
                have hc2 := (HM.out.1.cell (p := ⟨b, off + k * 3 + 2, none⟩) hbw).trans (hcell _ _ hat.2.2)
                have HST := hide (all_take (triB (2 * c.m + 1)) C.ands k (by rw [HH.out.l6]; exact hlt))
                obtain ⟨x, HX⟩ : ∃ x, Hid (x = atP C.ands k) := ⟨_, rfl⟩
                rw [← HX.out] at hc0 hc1 hc2 HST
                obtain ⟨x0, x1, x2⟩ := x
                dsimp only at hc0 hc1 hc2
                have HO := hide (fun W => own_any x0 W)
                obtain ⟨t, HT⟩ : ∃ t, Hid (t = evenB x0) := ⟨_, rfl⟩
                unfold evenB at HT
                rw [← HT.out] at HO
                have HL : Hid (Calls Tryz.prog 90 #[.slice (some ⟨wr.heap.size + 1, 0, none⟩) 3 3, .int .i64 (2 * c.m + 1)] ((wr.alloc (.cells #[.int .i64 x0, .int .i64 x1, .int .i64 x2] 53)).alloc (.cells #[.int .i64 x0, .int .i64 x1, .int .i64 x2] 3)) fun e w' => e = .returned (.bool ([x0, x1, x2].all (litB (2 * c.m + 1)))) ∧ w' = ((wr.alloc (.cells #[.int .i64 x0, .int .i64 x1, .int .i64 x2] 53)).alloc (.cells #[.int .i64 x0, .int .i64 x1, .int .i64 x2] 3))) := lits_any _ 3 3 [x0, x1, x2] _ _ (row_three (by simp) _ _ _ _) rfl (by decide)
                obtain ⟨p, HPP⟩ : ∃ p, Hid (p = [x0, x1, x2].all (litB (2 * c.m + 1))) := ⟨_, rfl⟩
                rw [← HPP.out] at HL
                have HG : Hid (∀ r, r = (ok && (p && t)) → r = (b3 && (C.ands.take (k + 1)).all (triB (2 * c.m + 1)))) := fun r hr => by
                  rw [HST.out, hr, HM.out.2.2, Bool.and_assoc, HT.out, HPP.out]; rfl
                have HW1 := hide (fun o => And.intro (belowThen HM.out.1 (below_alloc wr o)) (HM.out.2.1.alloc o))
                have HW2 := hide (fun o o2 => And.intro (belowThen (belowThen HM.out.1 (below_alloc wr o)) (below_alloc _ o2)) ((HM.out.2.1.alloc o).alloc o2))
                clear hcell hat HX HST HT HPP
                cases ok with
                | false =>
                  go_wp2
                  go_roundw
                  case rel => exact ⟨k + 1, false, by go_num, rfl, by omega, (HW1.out _).1, (HW1.out _).2, HG.out _ rfl⟩
                  case measure => simp [intOf]; omega
                | true =>
                  go_wp2_with fail
                  refine HL.out.mono ?_
                  rintro e w1 ⟨rfl, rfl⟩
                  cases p with
                  | false =>
                    go_wp2
                    go_roundw
                    case rel => exact ⟨k + 1, false, by go_num, rfl, by omega, (HW2.out _ _).1, (HW2.out _ _).2, HG.out _ rfl⟩
                    case measure => simp [intOf]; omega
                  | true =>
                    go_wp2_with fail
                    refine (HO.out _).mono ?_
                    rintro e w1 ⟨rfl, rfl⟩
                    go_wp2
                    go_roundw
                    case rel => exact ⟨k + 1, t, by go_num, rfl, by omega, (HW2.out _ _).1, (HW2.out _ _).2, HG.out _ rfl⟩
                    case measure => simp [intOf]; omega
              · obtain rfl : k = c.n6 := by omega
                rw [List.take_of_length_le (by rw [HH.out.l6]; exact Nat.le_refl _)] at HM
                obtain ⟨b4, HB2⟩ : ∃ b4, Hid (b4 = (b3 && C.ands.all (triB (2 * c.m + 1)))) := ⟨_, rfl⟩
                rw [← HB2.out] at HP HM
                clear hlt hk HB2
                go_wp2
                clear q0 q1 q2 q3 q4 q5 q6 q7
                go_loopw [4, 10] (fun s i wr => ∃ (k : Nat) (ok : Bool), i = .int .i64 k ∧ s = .bool ok ∧ k ≤ c.n7 ∧ Hid (Below w.heap.size w wr ∧ Box wr w.heap.size c ∧ ok = (b4 && (C.names.take k).all C.symB))) (fun _ i _ => c.n7 - (intOf i).toNat)
                case atStart => exact ⟨0, _, rfl, rfl, Nat.zero_le _, HM.out.1, HM.out.2.1, by rw [HM.out.2.2]; simp⟩
                case round =>
                  clear HM
                  obtain ⟨k, ok, rfl, rfl, hk, HM⟩ := hrel
                  obtain ⟨q0, q1, q2, q3, q4, q5, q6, q7⟩ := HM.out.2.1.cells
                  rw [HA1.out] at q1
                  rw [HA2.out] at q2
                  rw [HA6.out] at q6
                  rw [HA7.out] at q7
                  by_cases hlt : k < c.n7
                  · obtain ⟨b, off, ha, hbw, hcell⟩ := HH.out.r7.addr (by rw [cellsS_len, HH.out.l7]; omega)
                    rw [HA7.out] at ha
                    subst ha
                    have hat := cellsS_at C.names k (by rw [HH.out.l7]; exact hlt)
                    have hc0 := (HM.out.1.cell (p := ⟨b, off + k * 3, none⟩) hbw).trans (hcell _ _ hat.1)
                    have hc1 := (HM.out.1.cell (p := ⟨b, off + k * 3 + 1, none⟩) hbw).trans (hcell _ _ hat.2.1)
                    have hc2 := (HM.out.1.cell (p := ⟨b, off + k * 3 + 2, none⟩) hbw).trans (hcell _ _ hat.2.2)
                    have HST := hide (all_take C.symB C.names k (by rw [HH.out.l7]; exact hlt))
                    have hsz := HN.out _ (atP_mem C.names k (by rw [HH.out.l7]; exact hlt))
                    obtain ⟨x, HX⟩ : ∃ x, Hid (x = atP C.names k) := ⟨_, rfl⟩
                    rw [← HX.out] at hc0 hc1 hc2 HST hsz
                    obtain ⟨x0, x1, x2⟩ := x
                    dsimp only at hc0 hc1 hc2 hsz
                    have HO := hide (fun W hb => HSy.out x0 x1 x2 W hsz hb)
                    obtain ⟨t, HT⟩ : ∃ t, Hid (t = C.symB (x0, x1, x2)) := ⟨_, rfl⟩
                    rw [← HT.out] at HO
                    have HG : Hid (∀ r, r = (ok && t) → r = (b4 && (C.names.take (k + 1)).all C.symB)) := fun r hr => by
                      rw [HST.out, hr, HM.out.2.2, Bool.and_assoc, HT.out]
                    have HD : Hid (∀ q, Below w.heap.size w (wr.drewN q) ∧ Box (wr.drewN q) w.heap.size c) := fun q => ⟨belowThen HM.out.1 (Drew.below ⟨q, rfl⟩), HM.out.2.1⟩
                    clear hcell hat HX HST HT hsz
                    cases ok with
                    | false =>
                      go_wp2
                      go_quiet (fail)
                      go_wp2
                      go_roundw
                      case rel => exact ⟨k + 1, false, by go_num, rfl, by omega, (HD.out _).1, (HD.out _).2, HG.out _ rfl⟩
                      case measure => simp [intOf]; omega
                    | true =>
                      go_wp2
                      go_region_with (first | (go_at_call 92; refine (HO.out _ (HD.out _).1).mono ?_; rintro e w2 ⟨rfl, hb2⟩))
                      all_goals
                        go_wp2
                        go_roundw
                        case rel => exact ⟨k + 1, t, by go_num, rfl, by omega, belowThen (HD.out _).1 hb2, Box.below (HD.out _).2 hb2, HG.out _ rfl⟩
                        case measure => simp [intOf]; omega
                  · obtain rfl : k = c.n7 := by omega
                    rw [List.take_of_length_le (by rw [HH.out.l7]; exact Nat.le_refl _)] at HM
                    have hfin : Hid (Post (.returned (.bool ok)) wr) := by
                      show Post _ wr
                      rw [← HP.out]
                      exact ⟨ret_bool HM.out.2.2, HM.out.1⟩
                    go_wp2
                    exact hfin.out
end Go.Proofs.YtikjbbebfjleaaaGreatDoor
