/-
  THE WALK of the law SimSteps.
-/
import Derived.Test.YtmbbcghhdjpgeaaSimF
namespace Go.Proofs.Ytmbbcghhdjpgeaa
open Go.RowKit

theorem settle_rows {w : World} {C : Circ} {st is : List Bool} {e : Ending} {w' : World} (h : SettlePost w C st is e w') : ∃ a n k, e = .returned (.tuple #[.slice a n k, .int .i64 (C.stepI st is)]) ∧ RowB w' a (C.valsE st is) ∧ (C.valsE st is).length = n ∧ Below w.heap.size w w' := by
  rcases h.2 with ⟨hc, rfl⟩ | ⟨hc, g, rfl, hown⟩
  · have e : C.valsE st is = [] := if_neg hc
    exact ⟨none, 0, 0, rfl, by rw [e]; exact .inl ⟨rfl, rfl⟩, by rw [e]; rfl, h.1⟩
  · have e : C.valsE st is = C.vals st is := if_pos hc
    obtain ⟨a, k, e2, hr, hl⟩ := rowB_own hown
    cases e2
    exact ⟨_, _, _, by rw [hc], by rw [e]; exact hr, by rw [e]; exact hl, h.1⟩
theorem step_zero {C : Circ} {st is : List Bool} (h : C.stepI st is = 0) : C.checkI = 0 ∧ st.length = C.lats.length ∧ is.length = C.ins.length := by
  unfold Circ.stepI at h
  split at h
  · rename_i h1; exact absurd h h1
  · rename_i h1
    split at h
    · rename_i h2; exact ⟨by simpa using h1, h2.1, h2.2⟩
    · cases h
theorem valsE_len (C : Circ) (st is : List Bool) : (C.valsE st is).length ≤ 10000 := by
  unfold Circ.valsE
  split
  · rename_i h
    have := (right_of (step_zero h).1).small.max
    rw [vals_len]; omega
  · exact Nat.zero_le _
theorem stepE_len (C : Circ) (st is : List Bool) : (C.stepE st is).next.length ≤ 10000 ∧ (C.stepE st is).outs.length ≤ 10000 ∧ (C.stepE st is).bads.length ≤ 10000 := by
  unfold Circ.stepE
  split
  · rename_i h
    have hS := (right_of (step_zero h).1).small
    have h1 := hS.lats
    have h2 := hS.outs
    have h3 := badsOr_len hS
    refine ⟨?_, ?_, ?_⟩
    · show (C.nexts.map _).length ≤ _; unfold Circ.nexts; rw [List.length_map, List.length_map]; omega
    · show (C.outs.map _).length ≤ _; rw [List.length_map]; omega
    · show (C.badsOr.map _).length ≤ _; rw [List.length_map]; omega
  · exact ⟨by decide, by decide, by decide⟩

set_option maxRecDepth 100000 in
set_option maxHeartbeats 4000000 in
theorem simSteps_any (c : CV) (sa : Option Addr) (sn sc : Nat) (st : List Bool) (ia : Option Addr) (inn ic : Nat) (is : List Bool) (C : Circ) (w : World) (h : Came w c C) (hs : CameB w sa sn sc st) (hi : CameB w ia inn ic is) :
    Calls Try.prog 3 #[c.v, .slice sa sn sc, .slice ia inn ic] w fun e w' => e = .returned (.bool true) ∧ Below w.heap.size w w' := by
  have HB := hide (box_new w c)
  have HC := hide h
  have HS := hide hs
  have HI := hide hi
  have HCV : Hid (c.v = .agg #[.int .i64 c.m, .slice c.a1 c.n1 c.c1, .slice c.a2 c.n2 c.c2, .slice c.a3 c.n3 c.c3, .slice c.a4 c.n4 c.c4, .slice c.a5 c.n5 c.c5, .slice c.a6 c.n6 c.c6, .slice c.a7 c.n7 c.c7]) := rfl
  have HBg := hide (fun W hb => big_any c C W ⟨h.holds.below hb, h.n1, h.n2, h.n3, h.n4, h.n5, h.n6, h.n7, h.m, h.names⟩)
  rw [HCV.out] at HBg ⊢
  clear h hs hi
  go_enter Try.func3, Try.ntmps3
  go_wp2_with fail
  refine (alive8_any _).mono ?_
  rintro e w1 ⟨rfl, hb1⟩
  have B1 := hide (HB.out.below hb1)
  have W1 := hide (belowThen (below_alloc w _) hb1)
  clear HB hb1
  obtain ⟨q0, q1, q2, q3, q4, q5, q6, q7⟩ := B1.out.cells
  go_wp2_with fail
  refine (HBg.out _ W1.out).mono ?_
  rintro e w2 ⟨rfl, hb2⟩
  have B2 := hide (B1.out.below hb2)
  have W2 := hide (belowThen W1.out hb2)
  clear B1 W1 hb2 HBg q0 q1 q2 q3 q4 q5 q6 q7
  cases hbig : C.bigB with
  | true =>
    have hend := hide W2.out
    go_wp2
    go_ret
    exact ⟨rfl, hend.out⟩
  | false =>
    have HF := hide (fits_of HC.out hbig)
    clear hbig
    by_cases hsn : (80 : Int) < (sn : Int)
    · have hend := hide W2.out
      go_wp2
      go_ret
      exact ⟨rfl, hend.out⟩
    · by_cases hin : (80 : Int) < (inn : Int)
      · have hend := hide W2.out
        go_wp2
        go_ret
        exact ⟨rfl, hend.out⟩
      · obtain ⟨q0, q1, q2, q3, q4, q5, q6, q7⟩ := B2.out.cells
        have HV := hide (fun W (hb : Below w.heap.size w W) => (sValues_any c C W sa ia sn sc inn ic st is (HC.out.holds.below hb) HF.out (HS.out.row.below hb) HS.out.l (HI.out.row.below hb) HI.out.l).mono (fun e w' hh => settle_rows hh))
        have HR := hide (fun W (hb : Below w.heap.size w W) => (rValues_any c C W sa ia sn sc inn ic st is (HC.out.holds.below hb) (fun W' hb' => refCheck_came HC.out W' (belowThen hb hb')) (HS.out.row.below hb) HS.out.l (HI.out.row.below hb) HI.out.l).mono (fun e w' hh => settle_rows hh))
        have HT := hide (fun W (hb : Below w.heap.size w W) => step_any c C W sa ia sn sc inn ic st is (HC.out.holds.below hb) HF.out (HS.out.row.below hb) HS.out.l (HI.out.row.below hb) HI.out.l)
        have HU := hide (fun W (hb : Below w.heap.size w W) => rStep_any c C W sa ia sn sc inn ic st is (HC.out.holds.below hb) (fun W' hb' => refCheck_came HC.out W' (belowThen hb hb')) (HS.out.row.below hb) HS.out.l (HI.out.row.below hb) HI.out.l)
        have HVl := hide (valsE_len C st is)
        have HTl := hide (stepE_len C st is)
        unfold StepPost at HT HU
        generalize C.valsE st is = vs at HV HR HVl
        generalize C.stepE st is = R at HT HU HTl
        generalize C.stepI st is = ck at HV HR HT HU
        rw [HCV.out] at HV HR HT HU
        have hck : (ck == ck) = true := by simp
        clear HC HS HI HF HCV
        go_wp2_with fail
        refine (HV.out _ W2.out).mono ?_
        rintro e w3 ⟨a3, n3, k3, rfl, hr3, hl3, hb3⟩
        have B3 := hide (B2.out.below hb3)
        have W3 := hide (belowThen W2.out hb3)
        have R3 := hide hr3
        have L3 := hide hl3
        clear B2 W2 hb3 hr3 hl3 HV q0 q1 q2 q3 q4 q5 q6 q7
        obtain ⟨q0, q1, q2, q3, q4, q5, q6, q7⟩ := B3.out.cells
        go_wp2_with fail
        refine (HR.out _ W3.out).mono ?_
        rintro e w4 ⟨a4, n4, k4, rfl, hr4, hl4, hb4⟩
        have B4 := hide (B3.out.below hb4)
        have W4 := hide (belowThen W3.out hb4)
        replace R3 := hide (R3.out.below hb4)
        have R4 := hide hr4
        have L4 := hide hl4
        clear B3 W3 hb4 hr4 hl4 HR q0 q1 q2 q3 q4 q5 q6 q7
        obtain ⟨q0, q1, q2, q3, q4, q5, q6, q7⟩ := B4.out.cells
        go_wp2_with fail
        refine (HT.out _ W4.out).mono ?_
        rintro e w5 ⟨r, rfl, hr5, hb5⟩
        have er : r.v = .agg #[.slice r.a1 r.n1 r.c1, .slice r.a2 r.n2 r.c2, .slice r.a3 r.n3 r.c3, .bool r.h] := rfl
        rw [er]
        have hb5' := belowThen hb5 (below_alloc w5 (.cells #[.slice r.a1 r.n1 r.c1, .slice r.a2 r.n2 r.c2, .slice r.a3 r.n3 r.c3, .bool r.h] 37))
        have B5 := hide (B4.out.below hb5')
        have W5 := hide (belowThen W4.out hb5')
        replace R3 := hide (R3.out.below hb5')
        replace R4 := hide (R4.out.below hb5')
        have R5 := hide (hr5.below (below_alloc w5 (.cells #[.slice r.a1 r.n1 r.c1, .slice r.a2 r.n2 r.c2, .slice r.a3 r.n3 r.c3, .bool r.h] 37)))
        have X5 := hide (rbox_new w5 r)
        have ER := hide er
        clear B4 W4 hb5 hb5' hr5 HT er q0 q1 q2 q3 q4 q5 q6 q7
        obtain ⟨q0, q1, q2, q3, q4, q5, q6, q7⟩ := B5.out.cells
        go_wp2_with fail
        refine (HU.out _ W5.out).mono ?_
        rintro e w6 ⟨s, rfl, hr6, hb6⟩
        have es : s.v = .agg #[.slice s.a1 s.n1 s.c1, .slice s.a2 s.n2 s.c2, .slice s.a3 s.n3 s.c3, .bool s.h] := rfl
        rw [es]
        have ha6 := below_alloc w6 (.cells #[.slice s.a1 s.n1 s.c1, .slice s.a2 s.n2 s.c2, .slice s.a3 s.n3 s.c3, .bool s.h] 37)
        have hb6' := belowThen hb6 ha6
        have W6 := hide (belowThen W5.out hb6')
        replace R3 := hide (R3.out.below hb6')
        replace R4 := hide (R4.out.below hb6')
        have T6 : Hid (TwoR w w5.heap.size w6.heap.size r s R (w6.alloc (.cells #[.slice s.a1 s.n1 s.c1, .slice s.a2 s.n2 s.c2, .slice s.a3 s.n3 s.c3, .bool s.h] 37))) := ⟨R5.out.below hb6', hr6.below ha6, X5.out.below hb6', rbox_new w6 s, W6.out⟩
        have ES := hide es
        clear B5 W5 hb6 hb6' hr6 ha6 HU es R5 X5 W6 q0 q1 q2 q3 q4 q5 q6 q7
        go_wp2_with fail
        have HSB := hide (sameBools_any a3 a4 n3 n4 k3 k4 vs vs _ R3.out R4.out L3.out L4.out (by have := HVl.out; have := L3.out; omega) (by have := HVl.out; have := L4.out; omega))
        rw [decide_eq_true (rfl : vs = vs)] at HSB
        refine HSB.out.mono ?_
        rintro e w7 ⟨rfl, hb7⟩
        have T7 := hide (T6.out.then hb7)
        clear T6 R3 R4 L3 L4 HVl HSB hb7
        have HSR := hide (sameRow_any r s R w7 T7.out.h T7.out.k (by have := HTl.out.1; omega) (by have := HTl.out.2.1; omega) (by have := HTl.out.2.2; omega))
        rw [ER.out, ES.out] at HSR
        obtain ⟨p0, p1, p2, p3⟩ := T7.out.br.cells
        obtain ⟨q0, q1, q2, q3⟩ := T7.out.bs.cells
        have hend := hide T7.out.below
        clear T7 HTl ER ES
        go_wp2_with (first | (go_at_call 20; refine (num8_any _ _).mono ?_; rintro e w' ⟨rfl, hw'⟩; obtain rfl := hw'.symm) | (go_at_call 21; refine HSR.out.mono ?_; rintro e w8 ⟨rfl, hb8⟩; have hend8 := hide (belowThen hend.out hb8); clear hb8))
        go_ret
        exact ⟨rfl, hend8.out⟩
end Go.Proofs.Ytmbbcghhdjpgeaa
