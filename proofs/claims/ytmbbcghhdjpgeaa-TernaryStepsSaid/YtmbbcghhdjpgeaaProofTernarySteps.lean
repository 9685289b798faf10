/-
  PROVED: the law TernarySteps answers true at every circuit, state and inputs of three values and literal: the program's Values, Step and Lit tell what the document's own do. No conditions.
  THE WALK of the law TernarySteps.
-/
import Derived.Test.YtmbbcghhdjpgeaaTernD
import Derived.Test.YtmbbcghhdjpgeaaOwn

namespace Go.Proofs.Ytmbbcghhdjpgeaa
open Go.RowKit

set_option maxRecDepth 100000 in
set_option maxHeartbeats 4000000 in
theorem ternarySteps_came (c : CV) (sa : Option Addr) (sn sc : Nat) (st : List Int) (ia : Option Addr) (inn ic : Nat) (is : List Int) (l : Int) (C : Circ) (w : World) (h : Came w c C) (hs : CameI w sa sn st) (hi : CameI w ia inn is) (hl : -9223372036854775808 ≤ l ∧ l ≤ 9223372036854775807) :
    Calls Try.prog 9 #[c.v, .slice sa sn sc, .slice ia inn ic, .int .i64 l] w fun e w' => e = .returned (.bool true) ∧ Below w.heap.size w w' := by
  have HB := hide (box_new w c)
  have HC := hide h
  have HS := hide hs
  have HI := hide hi
  have HCV : Hid (c.v = .agg #[.int .i64 c.m, .slice c.a1 c.n1 c.c1, .slice c.a2 c.n2 c.c2, .slice c.a3 c.n3 c.c3, .slice c.a4 c.n4 c.c4, .slice c.a5 c.n5 c.c5, .slice c.a6 c.n6 c.c6, .slice c.a7 c.n7 c.c7]) := rfl
  have HBg := hide (fun W hb => big_any c C W ⟨h.holds.below hb, h.n1, h.n2, h.n3, h.n4, h.n5, h.n6, h.n7, h.m, h.names⟩)
  rw [HCV.out] at HBg ⊢
  clear h hs hi
  go_enter Try.func9, Try.ntmps9
  go_wp2_with fail
  refine (alive9_any _).mono ?_
  rintro e w1 ⟨rfl, hb1⟩
  have B1 := hide (HB.out.below hb1)
  have W1 := hide (belowThen (below_alloc w _) hb1)
  clear HB hb1
  obtain ⟨q0, q1, q2, q3, q4, q5, q6, q7⟩ := B1.out.cells
  go_wp2_with fail
  refine (HBg.out _ W1.out).mono ?_
  rintro e w2 ⟨rfl, hb2⟩
  have B2 := hide (B1.out.below hb2)
  have W2 := hide (belowThen W1.out hb2)
  clear B1 W1 hb2 HBg q0 q1 q2 q3 q4 q5 q6 q7
  cases hbig : C.bigB with
  | true =>
    have hend := hide W2.out
    go_wp2
    go_ret
    exact ⟨rfl, hend.out⟩
  | false =>
    have HF := hide (fits_of HC.out hbig)
    clear hbig
    by_cases hsn : (80 : Int) < (sn : Int)
    · have hend := hide W2.out
      go_wp2
      go_ret
      exact ⟨rfl, hend.out⟩
    · by_cases hin : (80 : Int) < (inn : Int)
      · have hend := hide W2.out
        go_wp2
        go_ret
        exact ⟨rfl, hend.out⟩
      · obtain ⟨q0, q1, q2, q3, q4, q5, q6, q7⟩ := B2.out.cells
        have HV := hide (fun W (hb : Below w.heap.size w W) => tValues_any c C W sa ia sn sc inn ic st is (HC.out.holds.below hb) HF.out (HS.out.row.below hb) HS.out.l (HI.out.row.below hb) HI.out.l (by omega) (by omega))
        have HR := hide (fun W (hb : Below w.heap.size w W) => rVal3_any c C W sa ia sn sc inn ic st is (HC.out.holds.below hb) (fun W' hb' => refCheck_came HC.out W' (belowThen hb hb')) (HS.out.row.below hb) HS.out.l (HI.out.row.below hb) HI.out.l (by omega) (by omega))
        have HT := hide (fun W (hb : Below w.heap.size w W) => tStep_any c C W sa ia sn sc inn ic st is (HC.out.holds.below hb) HF.out (HS.out.row.below hb) HS.out.l (HI.out.row.below hb) HI.out.l (by omega) (by omega))
        have HU := hide (fun W (hb : Below w.heap.size w W) => rStep3_any c C W sa ia sn sc inn ic st is (HC.out.holds.below hb) (fun W' hb' => refCheck_came HC.out W' (belowThen hb hb')) (HS.out.row.below hb) HS.out.l (HI.out.row.below hb) HI.out.l (by omega) (by omega))
        have HVl := hide (valsE3_len C st is)
        have HV3 := hide (valsE3_all C st is)
        have HTl := hide (stepE3_len C st is)
        unfold TValPost at HV HR
        unfold TStepPost at HT HU
        generalize C.valsE3 st is = vs at HV HR HVl HV3
        generalize C.stepE3 st is = R at HT HU HTl
        generalize C.ternI st is = ck at HV HR HT HU
        rw [HCV.out] at HV HR HT HU
        obtain ⟨rn, rb, rh⟩ := R
        dsimp only at HT HU HTl
        have hck : (ck == ck) = true := by simp
        have hrh : (rh == rh) = true := by simp
        clear HC HS HI HF HCV
        go_wp2_with fail
        refine (HV.out _ W2.out).mono ?_
        rintro e w3 ⟨a3, n3, k3, rfl, hr3, hl3, hb3⟩
        have B3 := hide (B2.out.below hb3)
        have W3 := hide (belowThen W2.out hb3)
        have R3 := hide hr3
        have L3 := hide hl3
        clear B2 W2 hb3 hr3 hl3 HV q0 q1 q2 q3 q4 q5 q6 q7
        obtain ⟨q0, q1, q2, q3, q4, q5, q6, q7⟩ := B3.out.cells
        go_wp2_with fail
        refine (HR.out _ W3.out).mono ?_
        rintro e w4 ⟨a4, n4, k4, rfl, hr4, hl4, hb4⟩
        have B4 := hide (B3.out.below hb4)
        have W4 := hide (belowThen W3.out hb4)
        replace R3 := hide (R3.out.below hb4)
        have R4 := hide hr4
        have L4 := hide hl4
        clear B3 W3 hb4 hr4 hl4 HR q0 q1 q2 q3 q4 q5 q6 q7
        obtain ⟨q0, q1, q2, q3, q4, q5, q6, q7⟩ := B4.out.cells
        go_wp2_with fail
        refine (HT.out _ W4.out).mono ?_
        rintro e w5 ⟨a5, n5, k5, a6, n6, k6, rfl, hr5, hl5, hr6, hl6, hb5⟩
        have B5 := hide (B4.out.below hb5)
        have W5 := hide (belowThen W4.out hb5)
        replace R3 := hide (R3.out.below hb5)
        replace R4 := hide (R4.out.below hb5)
        have R5 := hide hr5
        have L5 := hide hl5
        have R6 := hide hr6
        have L6 := hide hl6
        clear B4 W4 hb5 hr5 hl5 hr6 hl6 HT q0 q1 q2 q3 q4 q5 q6 q7
        obtain ⟨q0, q1, q2, q3, q4, q5, q6, q7⟩ := B5.out.cells
        go_wp2_with fail
        refine (HU.out _ W5.out).mono ?_
        rintro e w6 ⟨a7, n7, k7, a8, n8, k8, rfl, hr7, hl7, hr8, hl8, hb6⟩
        have W6 := hide (belowThen W5.out hb6)
        replace R3 := hide (R3.out.below hb6)
        replace R4 := hide (R4.out.below hb6)
        replace R5 := hide (R5.out.below hb6)
        replace R6 := hide (R6.out.below hb6)
        have R7 := hide hr7
        have L7 := hide hl7
        have R8 := hide hr8
        have L8 := hide hl8
        clear B5 W5 hb6 hr7 hl7 hr8 hl8 HU q0 q1 q2 q3 q4 q5 q6 q7
        have S1 := hide (sameT_any a3 a4 n3 n4 k3 k4 vs w6 R3.out R4.out L3.out L4.out (by have := HVl.out; have := L3.out; omega))
        have S2 := hide (fun W (hb : Below w6.heap.size w6 W) => sameT_any a5 a7 n5 n7 k5 k7 rn W (R5.out.below hb) (R7.out.below hb) L5.out L7.out (by have := HTl.out.1; have := L5.out; omega))
        have S3 := hide (fun W (hb : Below w6.heap.size w6 W) => sameT_any a6 a8 n6 n8 k6 k8 rb W (R6.out.below hb) (R8.out.below hb) L6.out L8.out (by have := HTl.out.2; have := L6.out; omega))
        have S4 := hide (fun W (hb : Below w6.heap.size w6 W) => tLit_all a3 n3 k3 vs l W (R3.out.below hb) L3.out (by have := HVl.out; have := L3.out; omega) HV3.out hl)
        have S5 := hide (fun W (hb : Below w6.heap.size w6 W) => rLit3_any a3 n3 k3 vs l W (R3.out.below hb) L3.out (by have := HVl.out; have := L3.out; omega) hl)
        generalize lit3E vs l = y at S4 S5
        have hyy : (y == y) = true := by simp
        clear R3 R4 R5 R6 R7 R8 L3 L4 L5 L6 L7 L8 HVl HV3 HTl
        go_wp2_with fail
        refine S1.out.mono ?_
        rintro e w7 ⟨rfl, hb7⟩
        have U7 := hide hb7
        clear S1 hb7
        go_wp2_with (first | (go_at_call 35; refine (num9_any _ _).mono ?_; rintro e w' ⟨rfl, hw'⟩; obtain rfl := hw'.symm) | fail)
        refine (S2.out _ U7.out).mono ?_
        rintro e w8 ⟨rfl, hb8⟩
        have U8 := hide (belowThen U7.out hb8)
        clear S2 hb8
        go_wp2_with fail
        refine (S3.out _ U8.out).mono ?_
        rintro e w9 ⟨rfl, hb9⟩
        have U9 := hide (belowThen U8.out hb9)
        clear S3 hb9
        go_wp2_with (first | (go_at_call 35; refine (num9_any _ _).mono ?_; rintro e w' ⟨rfl, hw'⟩; obtain rfl := hw'.symm) | fail)
        refine (S4.out _ U9.out).mono ?_
        rintro e w10 ⟨rfl, hb10⟩
        have U10 := hide (belowThen U9.out hb10)
        clear S4 hb10
        go_wp2_with (go_at_call 37; refine (S5.out _ U10.out).mono ?_; rintro e w11 ⟨rfl, hw11⟩; obtain rfl := hw11.symm)
        have hend := hide (belowThen W6.out U10.out)
        go_ret
        exact ⟨rfl, hend.out⟩

theorem ternarySteps_any (c : CV) (sa : Option Addr) (sn sc : Nat) (zs : List Int) (ia : Option Addr) (inn ic : Nat) (ys : List Int) (l : Int) (C : Circ) (w : World) (h : Came w c C) (hs : IsRow .i64 w sa sn sc zs) (hi : IsRow .i64 w ia inn ic ys) (l0 : -9223372036854775808 ≤ l) (l1 : l ≤ 9223372036854775807) :
    Calls Try.prog 9 #[c.v, .slice sa sn sc, .slice ia inn ic, .int .i64 l] w fun e w' => e = .returned (.bool true) ∧ Below w.heap.size w w' :=
  ternarySteps_came c sa sn sc _ ia inn ic _ l C w h (cameI_of hs) (cameI_of hi) ⟨l0, l1⟩
end Go.Proofs.Ytmbbcghhdjpgeaa

namespace Go.Proofs.Ytmbbcghhdjpgeaa
open Go.ChangeShapes Go.WideShapes Go.ChangeAt Go.RowKit
open Go.ChangeMaps (open_string shut_string)
namespace ProofTernarySteps

set_option maxRecDepth 100000 in
theorem lifted (os : Os) (started : os.Started) (H : Type) (enc : TypeId × Value → H) :
    ReturnsInHanded {} Try.checked os 9 .any (Rows.ternaryStepsSpec.pre6 enc Try.prog Try.f9 Rows.ternaryStepsRow.domain false) (Rows.ternaryStepsSpec.post enc Try.prog Try.f9 false true false false) := by
  refine returnsInHanded_of_change (C := Try.checked) own started (by kernel_rfl) Try.func9
    (ChangeSpec.witness6 (enc := enc) (C := Try.checked) false ⟨#[], #[.agg #[.int .i64 0, .slice none 0 0, .slice none 0 0, .slice none 0 0, .slice none 0 0, .slice none 0 0, .slice none 0 0, .slice none 0 0], .slice none 0 0, .slice none 0 0, .int .i64 0], []⟩ 8 (by kernel_rfl) (by kernel_rfl) (by kernel_rfl) (by kernel_rfl)) ?_
  intro W base args ds gs before hval0 hW _ _
  have hval : ∀ (j : Nat) t v, Try.f9.params[j]? = some t → args[j]? = some v → Value.okWide Try.prog W .any base t v := hval0
  have hW' := hW
  obtain ⟨p, q, hA0, hV, rfl, hfz, hnd⟩ := hW
  have hA : DataW.TrodAll enc Try.prog W 0 (fun _ => true) true Try.f9.params.toList args.toList ds p := hA0
  rw [Try.params9] at hA hval
  obtain ⟨v0, vs0, d0, ds0, p0, q0, hargs, rfl, rfl, h0, r0⟩ := trodAll_cons hA
  obtain ⟨v1, vs1, d1, ds1, p1, q1, rfl, rfl, rfl, h1, r1⟩ := trodAll_cons r0
  obtain ⟨v2, vs2, d2, ds2, p2, q2, rfl, rfl, rfl, h2, r2⟩ := trodAll_cons r1
  obtain ⟨v3, vs3, d3, ds3, p3, q3, rfl, rfl, rfl, h3, r3⟩ := trodAll_cons r2
  obtain ⟨rfl, rfl, rfl⟩ := trodAll_nil r3
  obtain rfl : args = #[v0, v1, v2, v3] := by cases args; simp_all
  obtain ⟨rfl, rfl⟩ := trodVars_none hV
  have k0 := h0
  have lt0 : ∀ x ∈ p0, x.block < W.heap.size := by obtain ⟨m, hm⟩ := k0; exact DataW.trod_lt m _ _ _ hm
  obtain ⟨c0, C0, rfl, w0⟩ := open_circuit (hval 0 27 v0 rfl rfl) h0
  obtain ⟨a1, len1, cap1, rfl⟩ := okWide_slice Try.underlying22 (hval 1 22 v1 rfl rfl)
  have k1 := h1
  have lt1 : ∀ x ∈ p1, x.block < W.heap.size := by obtain ⟨m, hm⟩ := k1; exact DataW.trod_lt m _ _ _ hm
  obtain ⟨z1, w1⟩ : ∃ zs, IsRow .i64 W a1 len1 cap1 zs := by
    obtain ⟨fuel, hf⟩ := h1
    rcases open_ints Try.underlying22 Try.underlying3 (by kernel_rfl) hf with ⟨hcs, _⟩ | ⟨x, l, c, zs, hcs, _, hl, hm, hz, _, hcell, hwz⟩
    · simp [Value.cells] at hcs
      obtain ⟨rfl, rfl, rfl⟩ := hcs
      exact ⟨[], .inl ⟨rfl, rfl, rfl, rfl⟩⟩
    · simp [Value.cells] at hcs
      obtain ⟨rfl, rfl, rfl⟩ := hcs
      exact ⟨zs, .inr ⟨_, rfl, hl, hm, by simpa using hz, hcell, hwz⟩⟩
  obtain ⟨a2, len2, cap2, rfl⟩ := okWide_slice Try.underlying22 (hval 2 22 v2 rfl rfl)
  have k2 := h2
  have lt2 : ∀ x ∈ p2, x.block < W.heap.size := by obtain ⟨m, hm⟩ := k2; exact DataW.trod_lt m _ _ _ hm
  obtain ⟨z2, w2⟩ : ∃ zs, IsRow .i64 W a2 len2 cap2 zs := by
    obtain ⟨fuel, hf⟩ := h2
    rcases open_ints Try.underlying22 Try.underlying3 (by kernel_rfl) hf with ⟨hcs, _⟩ | ⟨x, l, c, zs, hcs, _, hl, hm, hz, _, hcell, hwz⟩
    · simp [Value.cells] at hcs
      obtain ⟨rfl, rfl, rfl⟩ := hcs
      exact ⟨[], .inl ⟨rfl, rfl, rfl, rfl⟩⟩
    · simp [Value.cells] at hcs
      obtain ⟨rfl, rfl, rfl⟩ := hcs
      exact ⟨zs, .inr ⟨_, rfl, hl, hm, by simpa using hz, hcell, hwz⟩⟩
  obtain ⟨a3, rfl, rfl, rfl, w3⟩ := open_int Try.underlying3 (hval 3 3 v3 rfl rfl) h3
  clear hA0 hval0
  refine (ternarySteps_any c0 a1 len1 cap1 z1 a2 len2 cap2 z2 a3 C0 W w0 w1 w2 (bounds_i64 w3).1 (bounds_i64 w3).2 ).mono fun e W' ⟨he, bel⟩ => ?_
  subst he
  exact ⟨_, rfl, _, _, _, [], _, [], hW', trodAll_mk1 (shut_bool Try.underlying4 _), (trodAll_cons_mk (Below.trod laidOut (by kernel_rfl) (of_decide_eq_true (by kernel_rfl)) k0 bel lt0) (trodAll_cons_mk (Below.trod laidOut (by kernel_rfl) (of_decide_eq_true (by kernel_rfl)) k1 bel lt1) (trodAll_cons_mk (Below.trod laidOut (by kernel_rfl) (of_decide_eq_true (by kernel_rfl)) k2 bel lt2) (trodAll_cons_mk (shut_int Try.underlying3 w3) trodAll_mk0)))), rfl, bel.frame _, fun h => by cases h⟩

theorem row_holds : Rows.TernaryStepsSaid :=
  OpenClaim.holds_of_wide 9 Try.f9 rfl rfl rfl rfl rfl rfl rfl ⟨rfl, rfl, rfl, rfl, rfl⟩ rfl rfl rfl rfl rfl (by kernel_rfl) Try.func9 (by kernel_rfl)
    (of_decide_eq_true (by kernel_rfl)) (by unfold Func.isWrapper; first | (rw [if_pos (by decide +kernel)]; kernel_rfl) | (rw [if_neg (by decide +kernel)]; exact ⟨rfl, rfl⟩))
    (fun os started H enc _ => lifted os started H enc)
end ProofTernarySteps

theorem ternarySteps_holds : Rows.TernaryStepsSaid := ProofTernarySteps.row_holds
#print axioms ternarySteps_holds
end Go.Proofs.Ytmbbcghhdjpgeaa
