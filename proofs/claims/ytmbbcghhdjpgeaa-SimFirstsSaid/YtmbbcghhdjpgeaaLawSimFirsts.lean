/-
  THE WALK of the law SimFirsts.
-/
import Derived.Test.YtmbbcghhdjpgeaaSimF
namespace Go.Proofs.Ytmbbcghhdjpgeaa
open Go.RowKit

theorem firstE_len (C : Circ) (fr : List Bool) : (C.firstE fr).length ≤ 10000 := by
  unfold Circ.firstE
  split
  · rename_i h
    have := (right_of h).small.lats
    rw [firstN_len]; omega
  · exact Nat.zero_le _

set_option maxRecDepth 100000 in
set_option maxHeartbeats 4000000 in
theorem simFirsts_any (c : CV) (fa : Option Addr) (fn fc : Nat) (fr : List Bool) (C : Circ) (w : World) (h : Came w c C) (hs : CameB w fa fn fc fr) :
    Calls Try.prog 4 #[c.v, .slice fa fn fc] w fun e w' => e = .returned (.bool true) ∧ Below w.heap.size w w' := by
  have HB := hide (box_new w c)
  have HC := hide h
  have HS := hide hs
  have HCV : Hid (c.v = .agg #[.int .i64 c.m, .slice c.a1 c.n1 c.c1, .slice c.a2 c.n2 c.c2, .slice c.a3 c.n3 c.c3, .slice c.a4 c.n4 c.c4, .slice c.a5 c.n5 c.c5, .slice c.a6 c.n6 c.c6, .slice c.a7 c.n7 c.c7]) := rfl
  have HBg := hide (fun W hb => big_any c C W ⟨h.holds.below hb, h.n1, h.n2, h.n3, h.n4, h.n5, h.n6, h.n7, h.m, h.names⟩)
  rw [HCV.out] at HBg ⊢
  clear h hs
  go_enter Try.func4, Try.ntmps4
  go_wp2_with fail
  refine (alive8_any _).mono ?_
  rintro e w1 ⟨rfl, hb1⟩
  have B1 := hide (HB.out.below hb1)
  have W1 := hide (belowThen (below_alloc w _) hb1)
  clear HB hb1
  obtain ⟨q0, q1, q2, q3, q4, q5, q6, q7⟩ := B1.out.cells
  go_wp2_with fail
  refine (HBg.out _ W1.out).mono ?_
  rintro e w2 ⟨rfl, hb2⟩
  have B2 := hide (B1.out.below hb2)
  have W2 := hide (belowThen W1.out hb2)
  clear B1 W1 hb2 HBg q0 q1 q2 q3 q4 q5 q6 q7
  cases hbig : C.bigB with
  | true =>
    have hend := hide W2.out
    go_wp2
    go_ret
    exact ⟨rfl, hend.out⟩
  | false =>
    have HF := hide (fits_of HC.out hbig)
    clear hbig
    by_cases hsn : (80 : Int) < (fn : Int)
    · have hend := hide W2.out
      go_wp2
      go_ret
      exact ⟨rfl, hend.out⟩
    · obtain ⟨q0, q1, q2, q3, q4, q5, q6, q7⟩ := B2.out.cells
      have HT := hide (fun W (hb : Below w.heap.size w W) => sFirst_any c C W fa fn fc fr (HC.out.holds.below hb) HF.out (HS.out.row.below hb) HS.out.l (by omega) HS.out.c1 HS.out.c2)
      have HU := hide (fun W (hb : Below w.heap.size w W) => rFirst_any c C W fa fn fc fr (HC.out.holds.below hb) (fun W' hb' => refCheck_came HC.out W' (belowThen hb hb')) (HS.out.row.below hb) HS.out.l (by omega))
      have HVl := hide (firstE_len C fr)
      unfold FirstPost at HT HU
      generalize C.firstE fr = vs at HT HU HVl
      generalize C.checkI = ck at HT HU
      rw [HCV.out] at HT HU
      have hck : (ck == ck) = true := by simp
      clear HC HS HF HCV
      go_wp2_with fail
      refine (HT.out _ W2.out).mono ?_
      rintro e w3 ⟨hb3, a3, n3, k3, rfl, hr3, hl3⟩
      have B3 := hide (B2.out.below hb3)
      have W3 := hide (belowThen W2.out hb3)
      have R3 := hide hr3
      have L3 := hide hl3
      clear B2 W2 hb3 hr3 hl3 HT q0 q1 q2 q3 q4 q5 q6 q7
      obtain ⟨q0, q1, q2, q3, q4, q5, q6, q7⟩ := B3.out.cells
      go_wp2_with fail
      refine (HU.out _ W3.out).mono ?_
      rintro e w4 ⟨hb4, a4, n4, k4, rfl, hr4, hl4⟩
      have W4 := hide (belowThen W3.out hb4)
      replace R3 := hide (R3.out.below hb4)
      have R4 := hide hr4
      have L4 := hide hl4
      clear B3 W3 hb4 hr4 hl4 HU q0 q1 q2 q3 q4 q5 q6 q7
      have HSB := hide (sameBools_any a3 a4 n3 n4 k3 k4 vs vs _ R3.out R4.out L3.out L4.out (by have := HVl.out; have := L3.out; omega) (by have := HVl.out; have := L4.out; omega))
      rw [decide_eq_true (rfl : vs = vs)] at HSB
      clear R3 R4 L3 L4 HVl
      go_wp2_with fail
      refine HSB.out.mono ?_
      rintro e w7 ⟨rfl, hb7⟩
      have hend := hide (belowThen W4.out hb7)
      clear HSB hb7 W4
      go_wp2_with (first | (go_at_call 20; refine (num8_any _ _).mono ?_; rintro e w' ⟨rfl, hw'⟩; obtain rfl := hw'.symm))
      go_ret
      exact ⟨rfl, hend.out⟩
end Go.Proofs.Ytmbbcghhdjpgeaa
