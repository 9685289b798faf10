/-
  PROVED: the law AigNormals answers true at every circuit: the program's Normal tells the circuit and the error that the document's own Normal tells. No condition.
  THE WALK of the reference's Normal, of a circuit that is not right; and of any.
  THE LAW AigNormals, walked.
-/
import Derived.Test.YtppaifckiaaffaaRefNorm
import Derived.Test.YtppaifckiaaffaaOwn

namespace Go.Proofs.Ytppaifckiaaffaa
open Go.RowKit

set_option maxRecDepth 100000 in
set_option maxHeartbeats 4000000 in
theorem refNormal_bad (c : CV) (C : Circ) (w : World) (h : Holds w c C) (rc : Read c) (hm63 : I64 c.m) (hN : NamesFit C) (hbad : C.checkI ≠ 0) :
    Calls Try.prog 27 #[c.v] w fun e w' => e = .returned (.tuple #[CV.nil.v, .int .i64 C.checkI]) ∧ Below w.heap.size w w' := by
  have HC := hide (fun W (hb : Below w.heap.size w W) => refCheck_read c C W (h.below hb) rc hm63 hN)
  have S0 := hide (copy_start w c)
  generalize C.checkI = ck at HC hbad ⊢
  have hck : (ck != 0) = true := by simpa using hbad
  clear h rc hm63 hN hbad
  unfold CV.v at HC ⊢
  go_enter Try.func27, Try.ntmps27
  go_wp2_with fail
  refine (HC.out _ S0.out.below).mono ?_
  rintro e w1 ⟨rfl, hb1⟩
  have B1 := hide (S0.out.res.below hb1)
  have HW := hide (belowThen S0.out.below hb1)
  obtain ⟨q0, q1, q2, q3, q4, q5, q6, q7⟩ := B1.out.cells
  have f0 := box_frozen B1.out 0
  have f1 := box_frozen B1.out 1
  have f2 := box_frozen B1.out 2
  have f3 := box_frozen B1.out 3
  have f4 := box_frozen B1.out 4
  have f5 := box_frozen B1.out 5
  have f6 := box_frozen B1.out 6
  have f7 := box_frozen B1.out 7
  clear S0 HC hb1
  go_wp2
  have hb := hide (box_put CV.nil B1.out)
  have hbel : Hid (Below w.heap.size w (putBox w1 (w.heap.size + 1) CV.nil)) := (two_put w1 (w.heap.size + 1) CV.nil).below HW.out (Nat.le_refl _) (Nat.le_succ _) (Nat.le_succ _)
  clear q0 q1 q2 q3 q4 q5 q6 q7 f0 f1 f2 f3 f4 f5 f6 f7
  show bodyPost _ _ _ _ _ (putBox w1 (w.heap.size + 1) CV.nil)
  generalize putBox w1 (w.heap.size + 1) CV.nil = Wf at *
  obtain ⟨r0, r1, r2, r3, r4, r5, r6, r7⟩ := hb.out.cells
  simp only [CV.nil] at r0 r1 r2 r3 r4 r5 r6 r7
  refine bodyPost_ret (v := .tuple #[.agg #[.int .i64 0, .slice none 0 0, .slice none 0 0, .slice none 0 0, .slice none 0 0, .slice none 0 0, .slice none 0 0, .slice none 0 0], .int .i64 ck]) (by simp [results, Try.results27, go_sem, *]) rfl ?_
  exact ⟨rfl, hbel.out⟩

theorem refNormal_any (c : CV) (C : Circ) (w : World) (h : Holds w c C) (rc : Read c) (hm63 : I64 c.m) (hN : NamesFit C) :
    Calls Try.prog 27 #[c.v] w fun e w' => ∃ d : CV, e = .returned (.tuple #[d.v, .int .i64 C.checkI]) ∧ Holds w' d C.normE ∧ Read d ∧ Below w.heap.size w w' := by
  by_cases hg : C.checkI = 0
  · rw [show C.normE = C.norm from if_pos hg, hg]
    exact refNormal_good c C w h rc hm63 hN hg
  · rw [show C.normE = Circ.nil from if_neg hg]
    exact (refNormal_bad c C w h rc hm63 hN hg).mono (fun e w' hh => ⟨CV.nil, hh.1, holds_nil w', ⟨by decide, by decide, by decide, by decide, by decide, by decide, by decide⟩, hh.2⟩)
end Go.Proofs.Ytppaifckiaaffaa

namespace Go.Proofs.Ytppaifckiaaffaa
open Go.RowKit

set_option maxRecDepth 100000 in
set_option maxHeartbeats 1000000 in
theorem aigNormals_any (c : CV) (C : Circ) (w : World) (h : Came w c C) :
    Calls Try.prog 4 #[c.v] w fun e w' => e = .returned (.bool true) ∧ Below w.heap.size w w' := by
  have HC := hide h
  have HBA := hide (fun W (hb : Below w.heap.size w W) => big_any c C W (h.below hb))
  have HAl := hide (fun W => alive_any W)
  have HB0 := hide (And.intro (box_new w c) (below_alloc w (.cells #[.int .i64 c.m, .slice c.a1 c.n1 c.c1, .slice c.a2 c.n2 c.c2, .slice c.a3 c.n3 c.c3, .slice c.a4 c.n4 c.c4, .slice c.a5 c.n5 c.c5, .slice c.a6 c.n6 c.c6, .slice c.a7 c.n7 c.c7] 27)))
  have hcv : c.v = .agg #[.int .i64 c.m, .slice c.a1 c.n1 c.c1, .slice c.a2 c.n2 c.c2, .slice c.a3 c.n3 c.c3, .slice c.a4 c.n4 c.c4, .slice c.a5 c.n5 c.c5, .slice c.a6 c.n6 c.c6, .slice c.a7 c.n7 c.c7] := rfl
  have HCV := hide hcv
  rw [hcv] at HBA ⊢
  clear h hcv
  go_enter Try.func4, Try.ntmps4
  go_wp2_with fail
  refine (HAl.out _).mono ?_
  rintro e w1 ⟨rfl, hb1⟩
  have T1 := hide (And.intro (HB0.out.1.below hb1) (belowThen HB0.out.2 hb1))
  clear hb1 HAl HB0
  obtain ⟨p0, p1, p2, p3, p4, p5, p6, p7⟩ := T1.out.1.cells
  go_wp2_with fail
  refine (HBA.out _ T1.out.2).mono ?_
  rintro e w2 ⟨rfl, hb2⟩
  have T2 := hide (And.intro (T1.out.1.below hb2) (belowThen T1.out.2 hb2))
  clear hb2 HBA T1 p0 p1 p2 p3 p4 p5 p6 p7
  obtain ⟨p0, p1, p2, p3, p4, p5, p6, p7⟩ := T2.out.1.cells
  cases hba : C.bigB with
  | true =>
    go_wp2
    go_ret
    exact ⟨rfl, T2.out.2⟩
  | false =>
    have HRA := hide (read_of HC.out hba)
    have HN : Hid (NamesFit C) := fun s hs => by have := (big_no hba).2 s hs; omega
    have HNm := hide (fun W (hb : Below w.heap.size w W) => normal_any c C W (HC.out.holds.below hb) (fits_read (HC.out.holds.below hb) HRA.out HC.out.m HN.out))
    have HRf := hide (fun W (hb : Below w.heap.size w W) => refNormal_any c C W (HC.out.holds.below hb) HRA.out HC.out.m HN.out)
    have HNum := hide (fun n W => num_any n W)
    rw [HCV.out] at HNm HRf
    generalize C.checkI = ck at HNm HRf
    have hck : (ck == ck) = true := by simp
    clear hba HC HRA HN HCV
    go_wp2_with fail
    refine (HNm.out _ T2.out.2).mono ?_
    rintro e w3 ⟨d, rfl, hd, rd, -, hb3⟩
    have hdv : d.v = .agg #[.int .i64 d.m, .slice d.a1 d.n1 d.c1, .slice d.a2 d.n2 d.c2, .slice d.a3 d.n3 d.c3, .slice d.a4 d.n4 d.c4, .slice d.a5 d.n5 d.c5, .slice d.a6 d.n6 d.c6, .slice d.a7 d.n7 d.c7] := rfl
    rw [hdv]
    have T3 := hide (And.intro (T2.out.1.below hb3) (belowThen T2.out.2 hb3))
    have HD := hide (And.intro hd rd)
    clear hd rd hb3 HNm p0 p1 p2 p3 p4 p5 p6 p7 T2
    obtain ⟨p0, p1, p2, p3, p4, p5, p6, p7⟩ := T3.out.1.cells
    obtain ⟨q0, q1, q2, q3, q4, q5, q6, q7⟩ := (T3.out.1.alloc (.cells #[.int .i64 d.m, .slice d.a1 d.n1 d.c1, .slice d.a2 d.n2 d.c2, .slice d.a3 d.n3 d.c3, .slice d.a4 d.n4 d.c4, .slice d.a5 d.n5 d.c5, .slice d.a6 d.n6 d.c6, .slice d.a7 d.n7 d.c7] 27)).cells
    go_wp2_with fail
    refine (HRf.out _ (belowThen T3.out.2 (below_alloc _ _))).mono ?_
    rintro e w5 ⟨x, rfl, hx, rx, hb5⟩
    have hxv : x.v = .agg #[.int .i64 x.m, .slice x.a1 x.n1 x.c1, .slice x.a2 x.n2 x.c2, .slice x.a3 x.n3 x.c3, .slice x.a4 x.n4 x.c4, .slice x.a5 x.n5 x.c5, .slice x.a6 x.n6 x.c6, .slice x.a7 x.n7 x.c7] := rfl
    rw [hxv]
    have HB5 := hide ((box_new w3 d).below hb5)
    have HE := hide (belowThen (belowThen T3.out.2 (below_alloc w3 (.cells #[.int .i64 d.m, .slice d.a1 d.n1 d.c1, .slice d.a2 d.n2 d.c2, .slice d.a3 d.n3 d.c3, .slice d.a4 d.n4 d.c4, .slice d.a5 d.n5 d.c5, .slice d.a6 d.n6 d.c6, .slice d.a7 d.n7 d.c7] 27))) hb5)
    have HD5 := hide (HD.out.1.below (belowThen (below_alloc w3 (.cells #[.int .i64 d.m, .slice d.a1 d.n1 d.c1, .slice d.a2 d.n2 d.c2, .slice d.a3 d.n3 d.c3, .slice d.a4 d.n4 d.c4, .slice d.a5 d.n5 d.c5, .slice d.a6 d.n6 d.c6, .slice d.a7 d.n7 d.c7] 27)) hb5))
    have HSm := hide (fun o => refSame_any d x C.normE C.normE (w5.alloc o) (HD5.out.below (below_alloc w5 o)) (hx.below (below_alloc w5 o)) HD.out.2 rx)
    rw [same_self, hdv, hxv] at HSm
    have HBel := hide (fun o => belowThen HE.out (below_alloc w5 o))
    generalize w3.heap.size = b3 at *
    clear hx rx hb5 HRf p0 p1 p2 p3 p4 p5 p6 p7 q0 q1 q2 q3 q4 q5 q6 q7 T3 HD HD5 HE hdv hxv
    obtain ⟨r0, r1, r2, r3, r4, r5, r6, r7⟩ := HB5.out.cells
    obtain ⟨s0, s1, s2, s3, s4, s5, s6, s7⟩ := (HB5.out.alloc (.cells #[.int .i64 x.m, .slice x.a1 x.n1 x.c1, .slice x.a2 x.n2 x.c2, .slice x.a3 x.n3 x.c3, .slice x.a4 x.n4 x.c4, .slice x.a5 x.n5 x.c5, .slice x.a6 x.n6 x.c6, .slice x.a7 x.n7 x.c7] 27)).cells
    obtain ⟨t0, t1, t2, t3, t4, t5, t6, t7⟩ := (box_new w5 x).cells
    go_wp2_with (first | (go_at_call 17; refine (HNum.out _ _).mono ?_; rintro e w7 ⟨rfl, rfl⟩) | (go_at_call 20; refine (HSm.out _).mono ?_; rintro e w7 ⟨rfl, hb7⟩))
    all_goals go_ret
    exact ⟨rfl, belowThen (HBel.out _) hb7⟩
end Go.Proofs.Ytppaifckiaaffaa

namespace Go.Proofs.Ytppaifckiaaffaa
open Go.ChangeShapes Go.WideShapes Go.ChangeAt Go.RowKit
open Go.ChangeMaps (open_string shut_string)
namespace ProofAigNormals

set_option maxRecDepth 100000 in
theorem lifted (os : Os) (started : os.Started) (H : Type) (enc : TypeId × Value → H) :
    ReturnsInHanded {} Try.checked os 4 .any (Rows.aigNormalsSpec.pre6 enc Try.prog Try.f4 Rows.aigNormalsRow.domain false) (Rows.aigNormalsSpec.post enc Try.prog Try.f4 false true false false) := by
  refine returnsInHanded_of_change (C := Try.checked) own started (by kernel_rfl) Try.func4
    (ChangeSpec.witness6 (enc := enc) (C := Try.checked) false ⟨#[], #[.agg #[.int .i64 0, .slice none 0 0, .slice none 0 0, .slice none 0 0, .slice none 0 0, .slice none 0 0, .slice none 0 0, .slice none 0 0]], []⟩ 8 (by kernel_rfl) (by kernel_rfl) (by kernel_rfl) (by kernel_rfl)) ?_
  intro W base args ds gs before hval0 hW _ _
  have hval : ∀ (j : Nat) t v, Try.f4.params[j]? = some t → args[j]? = some v → Value.okWide Try.prog W .any base t v := hval0
  have hW' := hW
  obtain ⟨p, q, hA0, hV, rfl, hfz, hnd⟩ := hW
  have hA : DataW.TrodAll enc Try.prog W 0 (fun _ => true) true Try.f4.params.toList args.toList ds p := hA0
  rw [Try.params4] at hA hval
  obtain ⟨v0, vs0, d0, ds0, p0, q0, hargs, rfl, rfl, h0, r0⟩ := trodAll_cons hA
  obtain ⟨rfl, rfl, rfl⟩ := trodAll_nil r0
  obtain rfl : args = #[v0] := by cases args; simp_all
  obtain ⟨rfl, rfl⟩ := trodVars_none hV
  have k0 := h0
  have lt0 : ∀ x ∈ p0, x.block < W.heap.size := by obtain ⟨m, hm⟩ := k0; exact DataW.trod_lt m _ _ _ hm
  obtain ⟨c0, C0, rfl, w0⟩ := open_circuit (hval 0 27 v0 rfl rfl) h0
  clear hA0 hval0
  refine (aigNormals_any c0 C0 W w0 ).mono fun e W' ⟨he, bel⟩ => ?_
  subst he
  exact ⟨_, rfl, _, _, _, [], _, [], hW', trodAll_mk1 (shut_bool Try.underlying4 _), (trodAll_cons_mk (Below.trod laidOut (by kernel_rfl) (of_decide_eq_true (by kernel_rfl)) k0 bel lt0) trodAll_mk0), rfl, bel.frame _, fun h => by cases h⟩

theorem row_holds : Rows.AigNormalsSaid :=
  OpenClaim.holds_of_wide 4 Try.f4 rfl rfl rfl rfl rfl rfl rfl ⟨rfl, rfl, rfl, rfl, rfl⟩ rfl rfl rfl rfl rfl (by kernel_rfl) Try.func4 (by kernel_rfl)
    (of_decide_eq_true (by kernel_rfl)) (by unfold Func.isWrapper; first | (rw [if_pos (by decide +kernel)]; kernel_rfl) | (rw [if_neg (by decide +kernel)]; exact ⟨rfl, rfl⟩))
    (fun os started H enc _ => lifted os started H enc)
end ProofAigNormals

theorem aigNormals_holds : Rows.AigNormalsSaid := ProofAigNormals.row_holds
#print axioms aigNormals_holds
end Go.Proofs.Ytppaifckiaaffaa
