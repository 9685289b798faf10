/-
  PROVED: the law SimNormal answers true at every circuit, state and inputs: a right circuit and its Normal step alike. No condition.
  THE WALK of the law SimNormal.
-/
import Derived.Test.YtmbbcghhdjpgeaaLawSimSteps
import Derived.Test.YtmbbcghhdjpgeaaNormGood
import Derived.Test.YtmbbcghhdjpgeaaOwn

namespace Go.Proofs.Ytmbbcghhdjpgeaa
open Go.RowKit

set_option maxRecDepth 100000 in
set_option maxHeartbeats 4000000 in
theorem simNormal_any (c : CV) (sa : Option Addr) (sn sc : Nat) (st : List Bool) (ia : Option Addr) (inn ic : Nat) (is : List Bool) (C : Circ) (w : World) (h : Came w c C) (hs : CameB w sa sn sc st) (hi : CameB w ia inn ic is) :
    Calls Try.prog 5 #[c.v, .slice sa sn sc, .slice ia inn ic] w fun e w' => e = .returned (.bool true) ∧ Below w.heap.size w w' := by
  have HB := hide (box_new w c)
  have HC := hide h
  have HS := hide hs
  have HI := hide hi
  have HCV : Hid (c.v = .agg #[.int .i64 c.m, .slice c.a1 c.n1 c.c1, .slice c.a2 c.n2 c.c2, .slice c.a3 c.n3 c.c3, .slice c.a4 c.n4 c.c4, .slice c.a5 c.n5 c.c5, .slice c.a6 c.n6 c.c6, .slice c.a7 c.n7 c.c7]) := rfl
  have HBg := hide (fun W hb => big_any c C W ⟨h.holds.below hb, h.n1, h.n2, h.n3, h.n4, h.n5, h.n6, h.n7, h.m, h.names⟩)
  rw [HCV.out] at HBg ⊢
  clear h hs hi
  go_enter Try.func5, Try.ntmps5
  go_wp2_with fail
  refine (alive8_any _).mono ?_
  rintro e w1 ⟨rfl, hb1⟩
  have B1 := hide (HB.out.below hb1)
  have W1 := hide (belowThen (below_alloc w _) hb1)
  clear HB hb1
  obtain ⟨q0, q1, q2, q3, q4, q5, q6, q7⟩ := B1.out.cells
  go_wp2_with fail
  refine (HBg.out _ W1.out).mono ?_
  rintro e w2 ⟨rfl, hb2⟩
  have B2 := hide (B1.out.below hb2)
  have W2 := hide (belowThen W1.out hb2)
  clear B1 W1 hb2 HBg q0 q1 q2 q3 q4 q5 q6 q7
  cases hbig : C.bigB with
  | true =>
    have hend := hide W2.out
    go_wp2
    go_ret
    exact ⟨rfl, hend.out⟩
  | false =>
    have HF := hide (fits_of HC.out hbig)
    clear hbig
    obtain ⟨q0, q1, q2, q3, q4, q5, q6, q7⟩ := B2.out.cells
    have HK := hide (fun W (hb : Below w.heap.size w W) => refCheck_came HC.out W hb)
    rw [HCV.out] at HK
    by_cases hc : C.checkI = 0
    case neg =>
      generalize C.checkI = ck at HK hc
      have hck : (ck != 0) = true := by simpa using hc
      have hck2 : ¬ ck = 0 := hc
      clear hc
      go_wp2_with fail
      refine (HK.out _ W2.out).mono ?_
      rintro e w3 ⟨rfl, hb3⟩
      have hend := hide (belowThen W2.out hb3)
      clear HK hb3 B2 W2
      go_wp2_with fail
      go_ret
      exact ⟨rfl, hend.out⟩
    case pos =>
      rw [hc] at HK
      have HCk := hide hc
      clear hc
      go_wp2_with fail
      refine (HK.out _ W2.out).mono ?_
      rintro e w3 ⟨rfl, hb3⟩
      have B3 := hide (B2.out.below hb3)
      have W3 := hide (belowThen W2.out hb3)
      clear HK hb3 B2 W2 q0 q1 q2 q3 q4 q5 q6 q7
      obtain ⟨q0, q1, q2, q3, q4, q5, q6, q7⟩ := B3.out.cells
      by_cases hsn : sn = c.n2
      case neg =>
        have hsb : ((sn : Int) != (c.n2 : Int)) = true := by simpa using fun h : (sn : Int) = (c.n2 : Int) => hsn (by omega)
        have hend := hide W3.out
        clear hsn
        go_wp2_with fail
        go_ret
        exact ⟨rfl, hend.out⟩
      case pos =>
        by_cases hin : inn = c.n1
        case neg =>
          have hib : ((inn : Int) != (c.n1 : Int)) = true := by simpa using fun h : (inn : Int) = (c.n1 : Int) => hin (by omega)
          have hend := hide W3.out
          subst hsn
          clear hin
          go_wp2_with fail
          go_ret
          exact ⟨rfl, hend.out⟩
        case pos =>
          have hst0 : C.stepI st is = 0 := by
            unfold Circ.stepI
            rw [if_neg (fun h => h HCk.out), if_pos ⟨HS.out.l.trans (hsn.trans HC.out.holds.l2.symm), HI.out.l.trans (hin.trans HC.out.holds.l1.symm)⟩]
          have hst1 : C.norm.stepI st is = 0 := by
            unfold Circ.stepI
            rw [if_neg (fun h => h (norm_check HCk.out)), if_pos (And.intro (by show st.length = (C.lats.map _).length; rw [List.length_map]; exact HS.out.l.trans (hsn.trans HC.out.holds.l2.symm)) (by show is.length = (C.ins.map _).length; rw [List.length_map]; exact HI.out.l.trans (hin.trans HC.out.holds.l1.symm)))]
          have hrow : C.norm.stepE st is = C.stepE st is := by
            unfold Circ.stepE
            rw [if_pos hst0, if_pos hst1]
            exact norm_rowV HCk.out st is
          have HN : Hid (∀ W, Below w.heap.size w W → Calls Try.prog 25 #[c.v] W fun e w' => ∃ d : CV, e = .returned (.tuple #[d.v, .int .i64 0]) ∧ Holds w' d C.norm ∧ Fits d C.norm ∧ Below W.heap.size W w') := fun W hb => (normal_any c C W (HC.out.holds.below hb) HF.out).mono (fun e w' hh => by
            obtain ⟨d, rfl, hd, hrd, hdm, hbl⟩ := hh
            have en : C.normE = C.norm := if_pos HCk.out
            rw [en] at hd hdm
            refine ⟨d, by rw [HCk.out], hd, ⟨Nat.le_trans hrd.n1 (by decide), Nat.le_trans hrd.n2 (by decide), Nat.le_trans hrd.n3 (by decide), Nat.le_trans hrd.n4 (by decide), Nat.le_trans hrd.n5 (by decide), ?_, fun s hs => HF.out.names s hs⟩, hbl⟩
            rw [hdm]
            show (-9223372036854775808 : Int) ≤ ((C.ins.length + C.lats.length + C.ands.length : Nat) : Int)
            omega)
          have HT := hide (fun W (hb : Below w.heap.size w W) => step_any c C W sa ia sn sc inn ic st is (HC.out.holds.below hb) HF.out (HS.out.row.below hb) HS.out.l (HI.out.row.below hb) HI.out.l)
          have HU := hide (fun (d : CV) W (hb : Below w.heap.size w W) (hd : Holds W d C.norm) (fd : Fits d C.norm) => step_any d C.norm W sa ia sn sc inn ic st is hd fd (HS.out.row.below hb) HS.out.l (HI.out.row.below hb) HI.out.l)
          have HTl := hide (stepE_len C st is)
          unfold StepPost at HT HU
          rw [hst0] at HT
          rw [hst1, hrow] at HU
          generalize C.stepE st is = R at HT HU HTl
          rw [HCV.out] at HT HN
          have hsb : ((c.n2 : Int) != (c.n2 : Int)) = false := by simp
          have hib : ((c.n1 : Int) != (c.n1 : Int)) = false := by simp
          clear hst0 hst1 hrow HC HS HI HF HCV HCk
          subst hsn
          subst hin
          go_wp2_with fail
          refine (HN.out _ W3.out).mono ?_
          rintro e w4 ⟨d, rfl, hd, fd, hb4⟩
          have ed : d.v = .agg #[.int .i64 d.m, .slice d.a1 d.n1 d.c1, .slice d.a2 d.n2 d.c2, .slice d.a3 d.n3 d.c3, .slice d.a4 d.n4 d.c4, .slice d.a5 d.n5 d.c5, .slice d.a6 d.n6 d.c6, .slice d.a7 d.n7 d.c7] := rfl
          rw [ed]
          have ha4 := below_alloc w4 (.cells #[.int .i64 d.m, .slice d.a1 d.n1 d.c1, .slice d.a2 d.n2 d.c2, .slice d.a3 d.n3 d.c3, .slice d.a4 d.n4 d.c4, .slice d.a5 d.n5 d.c5, .slice d.a6 d.n6 d.c6, .slice d.a7 d.n7 d.c7] 27)
          have hb4' := belowThen hb4 ha4
          have B4 := hide (B3.out.below hb4')
          have W4 := hide (belowThen W3.out hb4')
          have D4 := hide (hd.below ha4)
          have X4 := hide (box_new w4 d)
          have FD := hide fd
          have ED := hide ed
          clear B3 W3 hb4 hb4' ha4 hd fd ed HN q0 q1 q2 q3 q4 q5 q6 q7
          obtain ⟨q0, q1, q2, q3, q4, q5, q6, q7⟩ := B4.out.cells
          go_wp2_with fail
          refine (HT.out _ W4.out).mono ?_
          rintro e w5 ⟨r, rfl, hr5, hb5⟩
          have er : r.v = .agg #[.slice r.a1 r.n1 r.c1, .slice r.a2 r.n2 r.c2, .slice r.a3 r.n3 r.c3, .bool r.h] := rfl
          rw [er]
          have ha5 := below_alloc w5 (.cells #[.slice r.a1 r.n1 r.c1, .slice r.a2 r.n2 r.c2, .slice r.a3 r.n3 r.c3, .bool r.h] 37)
          have hb5' := belowThen hb5 ha5
          have W5 := hide (belowThen W4.out hb5')
          have D5 := hide (D4.out.below hb5')
          have B5 := hide (X4.out.below hb5')
          have R5 := hide (hr5.below ha5)
          have X5 := hide (rbox_new w5 r)
          have ER := hide er
          clear B4 X4 W4 D4 hb5 hb5' ha5 hr5 HT er q0 q1 q2 q3 q4 q5 q6 q7
          obtain ⟨q0, q1, q2, q3, q4, q5, q6, q7⟩ := B5.out.cells
          have HU5 := hide (HU.out d _ W5.out D5.out FD.out)
          rw [ED.out] at HU5
          clear HU D5 FD ED
          go_wp2_with fail
          refine HU5.out.mono ?_
          rintro e w6 ⟨s, rfl, hr6, hb6⟩
          have es : s.v = .agg #[.slice s.a1 s.n1 s.c1, .slice s.a2 s.n2 s.c2, .slice s.a3 s.n3 s.c3, .bool s.h] := rfl
          rw [es]
          have ha6 := below_alloc w6 (.cells #[.slice s.a1 s.n1 s.c1, .slice s.a2 s.n2 s.c2, .slice s.a3 s.n3 s.c3, .bool s.h] 37)
          have hb6' := belowThen hb6 ha6
          have T6 : Hid (TwoR w w5.heap.size w6.heap.size r s R (w6.alloc (.cells #[.slice s.a1 s.n1 s.c1, .slice s.a2 s.n2 s.c2, .slice s.a3 s.n3 s.c3, .bool s.h] 37))) := ⟨R5.out.below hb6', hr6.below ha6, X5.out.below hb6', rbox_new w6 s, belowThen W5.out hb6'⟩
          have ES := hide es
          clear B5 W5 hb6 hb6' hr6 ha6 HU5 es R5 X5 q0 q1 q2 q3 q4 q5 q6 q7
          have HSR := hide (fun W (t : TwoR w w5.heap.size w6.heap.size r s R W) => sameRow_any r s R W t.h t.k (by have := HTl.out.1; omega) (by have := HTl.out.2.1; omega) (by have := HTl.out.2.2; omega))
          rw [ER.out, ES.out] at HSR
          obtain ⟨p0, p1, p2, p3⟩ := T6.out.br.cells
          obtain ⟨q0, q1, q2, q3⟩ := T6.out.bs.cells
          clear HTl ER ES
          go_wp2_with (first | (go_at_call 20; refine (num8_any _ _).mono ?_; rintro e w' ⟨rfl, hw'⟩; obtain rfl := hw'.symm) | (go_at_call 21; refine (HSR.out _ T6.out).mono ?_; rintro e w8 ⟨rfl, hb8⟩; have hend8 := hide (belowThen T6.out.below hb8); clear hb8))
          go_ret
          exact ⟨rfl, hend8.out⟩
end Go.Proofs.Ytmbbcghhdjpgeaa

namespace Go.Proofs.Ytmbbcghhdjpgeaa
open Go.ChangeShapes Go.WideShapes Go.ChangeAt Go.RowKit
open Go.ChangeMaps (open_string shut_string)
namespace ProofSimNormal

set_option maxRecDepth 100000 in
theorem lifted (os : Os) (started : os.Started) (H : Type) (enc : TypeId × Value → H) :
    ReturnsInHanded {} Try.checked os 5 .any (Rows.simNormalSpec.pre6 enc Try.prog Try.f5 Rows.simNormalRow.domain false) (Rows.simNormalSpec.post enc Try.prog Try.f5 false true false false) := by
  refine returnsInHanded_of_change (C := Try.checked) own started (by kernel_rfl) Try.func5
    (ChangeSpec.witness6 (enc := enc) (C := Try.checked) false ⟨#[], #[.agg #[.int .i64 0, .slice none 0 0, .slice none 0 0, .slice none 0 0, .slice none 0 0, .slice none 0 0, .slice none 0 0, .slice none 0 0], .slice none 0 0, .slice none 0 0], []⟩ 8 (by kernel_rfl) (by kernel_rfl) (by kernel_rfl) (by kernel_rfl)) ?_
  intro W base args ds gs before hval0 hW _ _
  have hval : ∀ (j : Nat) t v, Try.f5.params[j]? = some t → args[j]? = some v → Value.okWide Try.prog W .any base t v := hval0
  have hW' := hW
  obtain ⟨p, q, hA0, hV, rfl, hfz, hnd⟩ := hW
  have hA : DataW.TrodAll enc Try.prog W 0 (fun _ => true) true Try.f5.params.toList args.toList ds p := hA0
  rw [Try.params5] at hA hval
  obtain ⟨v0, vs0, d0, ds0, p0, q0, hargs, rfl, rfl, h0, r0⟩ := trodAll_cons hA
  obtain ⟨v1, vs1, d1, ds1, p1, q1, rfl, rfl, rfl, h1, r1⟩ := trodAll_cons r0
  obtain ⟨v2, vs2, d2, ds2, p2, q2, rfl, rfl, rfl, h2, r2⟩ := trodAll_cons r1
  obtain ⟨rfl, rfl, rfl⟩ := trodAll_nil r2
  obtain rfl : args = #[v0, v1, v2] := by cases args; simp_all
  obtain ⟨rfl, rfl⟩ := trodVars_none hV
  have k0 := h0
  have lt0 : ∀ x ∈ p0, x.block < W.heap.size := by obtain ⟨m, hm⟩ := k0; exact DataW.trod_lt m _ _ _ hm
  obtain ⟨c0, C0, rfl, w0⟩ := open_circuit (hval 0 27 v0 rfl rfl) h0
  obtain ⟨a1, len1, cap1, rfl⟩ := okWide_slice Try.underlying28 (hval 1 28 v1 rfl rfl)
  have k1 := h1
  have lt1 : ∀ x ∈ p1, x.block < W.heap.size := by obtain ⟨m, hm⟩ := k1; exact DataW.trod_lt m _ _ _ hm
  obtain ⟨z1, w1⟩ := open_boolsC h1
  obtain ⟨a2, len2, cap2, rfl⟩ := okWide_slice Try.underlying28 (hval 2 28 v2 rfl rfl)
  have k2 := h2
  have lt2 : ∀ x ∈ p2, x.block < W.heap.size := by obtain ⟨m, hm⟩ := k2; exact DataW.trod_lt m _ _ _ hm
  obtain ⟨z2, w2⟩ := open_boolsC h2
  clear hA0 hval0
  refine (simNormal_any c0 a1 len1 cap1 z1 a2 len2 cap2 z2 C0 W w0 w1 w2 ).mono fun e W' ⟨he, bel⟩ => ?_
  subst he
  exact ⟨_, rfl, _, _, _, [], _, [], hW', trodAll_mk1 (shut_bool Try.underlying4 _), (trodAll_cons_mk (Below.trod laidOut (by kernel_rfl) (of_decide_eq_true (by kernel_rfl)) k0 bel lt0) (trodAll_cons_mk (Below.trod laidOut (by kernel_rfl) (of_decide_eq_true (by kernel_rfl)) k1 bel lt1) (trodAll_cons_mk (Below.trod laidOut (by kernel_rfl) (of_decide_eq_true (by kernel_rfl)) k2 bel lt2) trodAll_mk0))), rfl, bel.frame _, fun h => by cases h⟩

theorem row_holds : Rows.SimNormalSaid :=
  OpenClaim.holds_of_wide 5 Try.f5 rfl rfl rfl rfl rfl rfl rfl ⟨rfl, rfl, rfl, rfl, rfl⟩ rfl rfl rfl rfl rfl (by kernel_rfl) Try.func5 (by kernel_rfl)
    (of_decide_eq_true (by kernel_rfl)) (by unfold Func.isWrapper; first | (rw [if_pos (by decide +kernel)]; kernel_rfl) | (rw [if_neg (by decide +kernel)]; exact ⟨rfl, rfl⟩))
    (fun os started H enc _ => lifted os started H enc)
end ProofSimNormal

theorem simNormal_holds : Rows.SimNormalSaid := ProofSimNormal.row_holds
#print axioms simNormal_holds
end Go.Proofs.Ytmbbcghhdjpgeaa
