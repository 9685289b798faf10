/-
  THE WALK of the law SimHolds.
-/
import Derived.Test.YtmbbcghhdjpgeaaLawSimSteps
namespace Go.Proofs.Ytmbbcghhdjpgeaa
open Go.RowKit

set_option maxRecDepth 100000 in
set_option maxHeartbeats 4000000 in
theorem simHolds_any (c : CV) (sa : Option Addr) (sn sc : Nat) (st : List Bool) (ia : Option Addr) (inn ic : Nat) (is : List Bool) (C : Circ) (w : World) (h : Came w c C) (hs : CameB w sa sn sc st) (hi : CameB w ia inn ic is) :
    Calls Try.prog 7 #[c.v, .slice sa sn sc, .slice ia inn ic] w fun e w' => e = .returned (.bool true) ∧ Below w.heap.size w w' := by
  have HB := hide (box_new w c)
  have HC := hide h
  have HS := hide hs
  have HI := hide hi
  have HCV : Hid (c.v = .agg #[.int .i64 c.m, .slice c.a1 c.n1 c.c1, .slice c.a2 c.n2 c.c2, .slice c.a3 c.n3 c.c3, .slice c.a4 c.n4 c.c4, .slice c.a5 c.n5 c.c5, .slice c.a6 c.n6 c.c6, .slice c.a7 c.n7 c.c7]) := rfl
  have HBg := hide (fun W hb => big_any c C W ⟨h.holds.below hb, h.n1, h.n2, h.n3, h.n4, h.n5, h.n6, h.n7, h.m, h.names⟩)
  rw [HCV.out] at HBg ⊢
  clear h hs hi
  go_enter Try.func7, Try.ntmps7
  go_wp2_with fail
  refine (alive8_any _).mono ?_
  rintro e w1 ⟨rfl, hb1⟩
  have B1 := hide (HB.out.below hb1)
  have W1 := hide (belowThen (below_alloc w _) hb1)
  clear HB hb1
  obtain ⟨q0, q1, q2, q3, q4, q5, q6, q7⟩ := B1.out.cells
  go_wp2_with fail
  refine (HBg.out _ W1.out).mono ?_
  rintro e w2 ⟨rfl, hb2⟩
  have B2 := hide (B1.out.below hb2)
  have W2 := hide (belowThen W1.out hb2)
  clear B1 W1 hb2 HBg q0 q1 q2 q3 q4 q5 q6 q7
  obtain ⟨q0, q1, q2, q3, q4, q5, q6, q7⟩ := B2.out.cells
  have HR := hide (fun W (hb : Below w.heap.size w W) => rValues_any c C W sa ia sn sc inn ic st is (HC.out.holds.below hb) (fun W' hb' => refCheck_came HC.out W' (belowThen hb hb')) (HS.out.row.below hb) HS.out.l (HI.out.row.below hb) HI.out.l)
  rw [HCV.out] at HR
  go_wp2_with fail
  refine (HR.out _ W2.out).mono ?_
  intro e w3 he
  have B3 := hide (B2.out.below he.1)
  have W3 := hide (belowThen W2.out he.1)
  clear B2 W2 HR q0 q1 q2 q3 q4 q5 q6 q7
  rcases he.2 with ⟨hc, rfl⟩ | ⟨hst0, g, rfl, hown⟩
  · have hend := hide W3.out
    clear he
    generalize C.stepI st is = ck at hc ⊢
    have hck : (ck != 0) = true := by simpa using hc
    have hck2 : ¬ ck = 0 := hc
    clear hc
    generalize C.bigB = bg
    cases bg with
    | true =>
      go_wp2
      go_ret
      exact ⟨rfl, hend.out⟩
    | false =>
      go_wp2
      go_ret
      exact ⟨rfl, hend.out⟩
  · have HSt := hide hst0
    have HCk := hide (step_zero hst0).1
    obtain ⟨n, hn⟩ : ∃ n, n = C.max.toNat + 1 := ⟨_, rfl⟩
    rw [← hn] at hown ⊢
    have HNn := hide hn
    have HRt := hide (right_of HCk.out)
    have hnn : n ≤ 10000 := by have := HRt.out.small.max; omega
    have HSg : Hid (Sig w3 g n (C.vals st is)) := ⟨fun i hi => row_at hown i (by rw [vals_len, ← hn] at hi; exact hi), by rw [vals_len, hn], hnn, (hown.lt g rfl).2⟩
    clear he hst0 hown hn
    cases hbig : C.bigB with
    | true =>
      have hend := hide W3.out
      clear hbig
      go_wp2
      go_ret
      exact ⟨rfl, hend.out⟩
    | false =>
      have HF := hide (fits_of HC.out hbig)
      clear hbig
      obtain ⟨q0, q1, q2, q3, q4, q5, q6, q7⟩ := B3.out.cells
      have HT := hide (fun W (hb : Below w.heap.size w W) => step_any c C W sa ia sn sc inn ic st is (HC.out.holds.below hb) HF.out (HS.out.row.below hb) HS.out.l (HI.out.row.below hb) HI.out.l)
      have HE : Hid (C.stepE st is = C.rowV (C.vals st is)) := if_pos HSt.out
      unfold StepPost at HT
      rw [HE.out, HSt.out, HCV.out] at HT
      go_wp2_with fail
      refine (HT.out _ W3.out).mono ?_
      rintro e w5 ⟨r, rfl, hr5, hb5⟩
      obtain ⟨A1, N1, K1, A2, N2, K2, A3, N3, K3, hv⟩ := r
      have hl1 : N1 = c.n2 := by
        have h1 := hr5.l1
        rw [show N1 = (C.rowV (C.vals st is)).next.length from h1.symm]
        show (C.nexts.map _).length = _
        unfold Circ.nexts
        rw [List.length_map, List.length_map]; exact HC.out.holds.l2
      have hl2 : N2 = c.n3 := by
        have h1 := hr5.l2
        rw [show N2 = (C.rowV (C.vals st is)).outs.length from h1.symm]
        show (C.outs.map _).length = _
        rw [List.length_map]; exact HC.out.holds.l3
      subst hl1
      subst hl2
      have er : (⟨A1, c.n2, K1, A2, c.n3, K2, A3, N3, K3, hv⟩ : RV).v = .agg #[.slice A1 c.n2 K1, .slice A2 c.n3 K2, .slice A3 N3 K3, .bool hv] := rfl
      rw [er]
      have ha5 := below_alloc w5 (.cells #[.slice A1 c.n2 K1, .slice A2 c.n3 K2, .slice A3 N3 K3, .bool hv] 37)
      have hb5' := belowThen hb5 ha5
      have B5 := hide (B3.out.below hb5')
      have W5 := hide (belowThen W3.out hb5')
      have R5 := hide (hr5.below ha5)
      have X5 := hide (rbox_new w5 ⟨A1, c.n2, K1, A2, c.n3, K2, A3, N3, K3, hv⟩)
      have G5 := hide (HSg.out.below hb5')
      have HH := hide (HC.out.holds.below (belowThen W3.out hb5'))
      clear B3 W3 HSg hb5 hb5' ha5 hr5 HT er HE HC HS HI HF HSt HCV q0 q1 q2 q3 q4 q5 q6 q7
      obtain ⟨q0, q1, q2, q3, q4, q5, q6, q7⟩ := B5.out.cells
      have hn5 : c.n5 ≤ 64 := by rw [← HH.out.l5]; exact HRt.out.small.cons
      obtain ⟨vs, HVs⟩ : ∃ vs, Hid (vs = C.vals st is) := ⟨_, rfl⟩
      rw [← HVs.out] at R5 G5
      generalize hA5 : c.a5 = A5 at q5
      have HA5 := hide hA5
      clear hA5
      go_wp2
      go_loopw [13, 14] (fun al i wr => ∃ k : Nat, i = .int .i64 k ∧ k ≤ c.n5 ∧ al = .bool ((C.cons.take k).all (litV vs)) ∧ wr = (w5.alloc (.cells #[.slice A1 c.n2 K1, .slice A2 c.n3 K2, .slice A3 N3 K3, .bool hv] 37))) (fun _ i _ => c.n5 - (intOf i).toNat)
      case atStart => exact ⟨0, rfl, Nat.zero_le _, rfl, rfl⟩
      case round =>
        obtain ⟨k, rfl, hk, rfl, rfl⟩ := hrel
        by_cases hlt : k < c.n5
        · obtain ⟨b, off, ha, hbw, hcell⟩ := HH.out.r5.addr (by rw [HH.out.l5]; omega)
          rw [HA5.out] at ha
          subst ha
          have hc0 := hcell k (by rw [HH.out.l5]; exact hlt)
          rw [atP_getD] at hc0
          have hli := in_cons HRt.out _ (atP_mem C.cons k (by rw [HH.out.l5]; exact hlt))
          rw [← HNn.out] at hli
          have HST : Hid ((C.cons.take (k + 1)).all (litV vs) = ((C.cons.take k).all (litV vs) && litV vs (atP C.cons k))) := by
            show (C.cons.take (k + 1)).all (litV vs) = _
            rw [take_snocP C.cons k (by rw [HH.out.l5]; exact hlt), List.all_append]
            simp
          have HG := hide (rLit_any g n vs (atP C.cons k) _ G5.out hli)
          generalize atP C.cons k = x at hc0 HG HST
          generalize litV vs x = y at HG HST
          generalize (C.cons.take k).all (litV vs) = al at HST ⊢
          clear hcell hli
          cases al with
          | true =>
            go_wp2_with (go_at_call 28; refine HG.out.mono ?_; rintro e w' ⟨rfl, hw'⟩; obtain rfl := hw'.symm)
            go_roundw
            case rel => exact ⟨k + 1, by go_num, by omega, by rw [HST.out]; simp, trivial⟩
            case measure => simp [intOf]; omega
          | false =>
            go_wp2
            go_roundw
            case rel => exact ⟨k + 1, by go_num, by omega, by rw [HST.out]; rfl, trivial⟩
            case measure => simp [intOf]; omega
        · obtain rfl : k = c.n5 := by omega
          have hall : (C.cons.take c.n5).all (litV vs) = hv := by
            rw [List.take_of_length_le (by rw [HH.out.l5]; exact Nat.le_refl _)]
            exact R5.out.h
          rw [hall]
          obtain ⟨p0, p1, p2, p3⟩ := X5.out.cells
          have e1 : (c.n2 == c.n2) = true := by simp
          have e2 : (c.n3 == c.n3) = true := by simp
          have hn3 : c.n3 ≤ 64 := by rw [← HH.out.l3]; exact HRt.out.small.outs
          have e3 : (hv == hv) = true := by simp
          by_cases h4 : c.n4 = 0
          · have eb : C.badsOr = C.outs := by unfold Circ.badsOr; rw [if_pos (HH.out.l4.trans h4)]
            have hn3' : N3 = c.n3 := by
              have h1 := R5.out.l3
              rw [show N3 = (C.rowV vs).bads.length from h1.symm]
              show (C.badsOr.map (litV vs)).length = _
              rw [eb, List.length_map]; exact HH.out.l3
            subst hn3'
            have hbo : (C.rowV vs).bads = (C.rowV vs).outs := by show C.badsOr.map _ = C.outs.map _; rw [eb]
            have HSB := hide (sameBools_any A3 A2 c.n3 c.n3 K3 K2 _ _ _ R5.out.r3 R5.out.r2 R5.out.l3 R5.out.l2 (by omega) (by omega))
            rw [decide_eq_true hbo] at HSB
            have H4 := hide h4
            rw [h4] at q4
            have HW5 := hide W5.out
            have HB5 := hide B5.out
            have HX5 := hide X5.out
            clear B5 W5 R5 X5 G5 hbo h4 hall eb
            go_wp2_with fail
            refine HSB.out.mono ?_
            rintro e w7 ⟨rfl, hb7⟩
            have hend := hide (belowThen HW5.out hb7)
            obtain ⟨s0, s1, s2, s3, s4, s5, s6, s7⟩ := (HB5.out.below hb7).cells
            obtain ⟨t0, t1, t2, t3⟩ := (HX5.out.below hb7).cells
            clear HSB hb7 p0 p1 p2 p3 q0 q1 q2 q3 q4 q5 q6 q7
            go_wp2_with (first | (go_at_call 20; refine (num8_any _ _).mono ?_; rintro e w' ⟨rfl, hw'⟩; obtain rfl := hw'.symm))
            go_ret
            exact ⟨by simp, hend.out⟩
          · have hend := hide W5.out
            have h4b : ¬ ((c.n4 : Int) = 0) := by omega
            clear B5 W5 R5 X5 G5 hall
            go_wp2_with (first | (go_at_call 20; refine (num8_any _ _).mono ?_; rintro e w' ⟨rfl, hw'⟩; obtain rfl := hw'.symm))
            go_ret
            exact ⟨by simp, hend.out⟩
end Go.Proofs.Ytmbbcghhdjpgeaa
