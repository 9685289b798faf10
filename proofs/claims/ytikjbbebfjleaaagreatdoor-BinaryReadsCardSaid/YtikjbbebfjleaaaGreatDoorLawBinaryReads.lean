/-
  THE LAW BinaryReads, walked.
-/
import Derived.Test.YtikjbbebfjleaaaGreatDoorAnyRd
import Derived.Test.YtikjbbebfjleaaaGreatDoorAigRefSame
namespace Go.Proofs.YtikjbbebfjleaaaGreatDoor
open Go.RowKit

set_option maxRecDepth 100000 in
set_option maxHeartbeats 8000000 in
theorem binaryReads_any (a : Option Addr) (len cap : Nat) (zs : List Int) (w : World) (hr : IsRow .u8 w a len cap zs) (hE : Env w) (hM : EnvM w) :
    Calls Tryz.prog 7 #[.slice a len cap] w fun e w' => e = .returned (.bool true) ∧ Below w.heap.size w w' := by
  have hb8 : Bytes8 (zs.take len) := fun n hn => bounds_u8 (hr.row.2.1 n hn)
  obtain ⟨hrow, -, ha, hx, hcp, hm⟩ := hr.row
  clear hr
  generalize zs.take len = ms at hrow hb8 hx
  have HAl := hide (fun W (hb : Below w.heap.size w W) => alive6_any W (hE.below hb) (hM.below hb))
  have HT := hide (fun (hl : len ≤ 100000) W (hb : Below w.heap.size w W) => (⟨hrow.below hb, hx, ha, hcp, hm, hb8, hl, hE.below hb, hM.below hb⟩ : Txt W a len cap ms))
  have HNum := hide (fun n W => num6_any n W)
  clear hrow hb8 hx ha hE hM
  go_enter Tryz.func7, Tryz.ntmps7
  go_wp2_with fail
  refine (HAl.out _ (Below.refl _ _)).mono ?_
  rintro e w1 ⟨rfl, hb1⟩
  have V0 := hide hb1
  clear HAl hb1
  by_cases h3 : 3000 < len
  · go_wp2
    go_ret
    exact ⟨rfl, V0.out⟩
  · have HS1 := hide (fun W (hb : Below w.heap.size w W) => binaryRead_any a len cap ms W (HT.out (by omega) W hb))
    have HS2 := hide (fun W (hb : Below w.heap.size w W) => readBinary_any a len cap ms W (HT.out (by omega) W hb))
    have HS3 := hide (fun W (hb : Below w.heap.size w W) => binaryAny_any a len cap ms W (HT.out (by omega) W hb))
    have HS4 := hide (fun W (hb : Below w.heap.size w W) => readAny_any a len cap ms W (HT.out (by omega) W hb))
    unfold ReadPost at HS1 HS2 HS3 HS4
    generalize gramB.readE ms = E1 at HS1 HS2
    generalize gramB.read ms = C1 at HS1 HS2
    generalize (anyG ms).readE ms = E2 at HS3 HS4
    generalize (anyG ms).read ms = C2 at HS3 HS4
    have hEE1 : (E1 == E1) = true := by simp
    have hEE2 : (E2 == E2) = true := by simp
    clear HT
    go_wp2_with fail
    refine (HS1.out _ V0.out).mono ?_
    rintro e w2 ⟨d1, rfl, hd, rd, -, hb⟩
    unfold CV.v
    have hba := below_alloc w2 (.cells #[.int .i64 d1.m, .slice d1.a1 d1.n1 d1.c1, .slice d1.a2 d1.n2 d1.c2, .slice d1.a3 d1.n3 d1.c3, .slice d1.a4 d1.n4 d1.c4, .slice d1.a5 d1.n5 d1.c5, .slice d1.a6 d1.n6 d1.c6, .slice d1.a7 d1.n7 d1.c7] 29)
    have V1 := hide (belowThen (belowThen V0.out hb) hba)
    have BX1 := hide (box_new w2 d1)
    have HD1 := hide (And.intro (hd.below hba) rd)
    clear HS1 hb hd rd hba V0
    go_wp2_with fail
    generalize w2.alloc (.cells #[.int .i64 d1.m, .slice d1.a1 d1.n1 d1.c1, .slice d1.a2 d1.n2 d1.c2, .slice d1.a3 d1.n3 d1.c3, .slice d1.a4 d1.n4 d1.c4, .slice d1.a5 d1.n5 d1.c5, .slice d1.a6 d1.n6 d1.c6, .slice d1.a7 d1.n7 d1.c7] 29) = X2 at *
    refine (HS2.out _ V1.out).mono ?_
    rintro e w3 ⟨d2, rfl, hd, rd, -, hb⟩
    unfold CV.v
    have hba := below_alloc w3 (.cells #[.int .i64 d2.m, .slice d2.a1 d2.n1 d2.c1, .slice d2.a2 d2.n2 d2.c2, .slice d2.a3 d2.n3 d2.c3, .slice d2.a4 d2.n4 d2.c4, .slice d2.a5 d2.n5 d2.c5, .slice d2.a6 d2.n6 d2.c6, .slice d2.a7 d2.n7 d2.c7] 29)
    have V2 := hide (belowThen (belowThen V1.out hb) hba)
    replace BX1 := hide ((BX1.out.below hb).below hba)
    replace HD1 := hide (And.intro ((HD1.out.1.below hb).below hba) HD1.out.2)
    have BX2 := hide (box_new w3 d2)
    have HD2 := hide (And.intro (hd.below hba) rd)
    clear HS2 hb hd rd hba V1
    go_wp2_with fail
    generalize w3.alloc (.cells #[.int .i64 d2.m, .slice d2.a1 d2.n1 d2.c1, .slice d2.a2 d2.n2 d2.c2, .slice d2.a3 d2.n3 d2.c3, .slice d2.a4 d2.n4 d2.c4, .slice d2.a5 d2.n5 d2.c5, .slice d2.a6 d2.n6 d2.c6, .slice d2.a7 d2.n7 d2.c7] 29) = X3 at *
    refine (HS3.out _ V2.out).mono ?_
    rintro e w4 ⟨d3, rfl, hd, rd, -, hb⟩
    unfold CV.v
    have hba := below_alloc w4 (.cells #[.int .i64 d3.m, .slice d3.a1 d3.n1 d3.c1, .slice d3.a2 d3.n2 d3.c2, .slice d3.a3 d3.n3 d3.c3, .slice d3.a4 d3.n4 d3.c4, .slice d3.a5 d3.n5 d3.c5, .slice d3.a6 d3.n6 d3.c6, .slice d3.a7 d3.n7 d3.c7] 29)
    have V3 := hide (belowThen (belowThen V2.out hb) hba)
    replace BX1 := hide ((BX1.out.below hb).below hba)
    replace HD1 := hide (And.intro ((HD1.out.1.below hb).below hba) HD1.out.2)
    replace BX2 := hide ((BX2.out.below hb).below hba)
    replace HD2 := hide (And.intro ((HD2.out.1.below hb).below hba) HD2.out.2)
    have BX3 := hide (box_new w4 d3)
    have HD3 := hide (And.intro (hd.below hba) rd)
    clear HS3 hb hd rd hba V2
    go_wp2_with fail
    generalize w4.alloc (.cells #[.int .i64 d3.m, .slice d3.a1 d3.n1 d3.c1, .slice d3.a2 d3.n2 d3.c2, .slice d3.a3 d3.n3 d3.c3, .slice d3.a4 d3.n4 d3.c4, .slice d3.a5 d3.n5 d3.c5, .slice d3.a6 d3.n6 d3.c6, .slice d3.a7 d3.n7 d3.c7] 29) = X4 at *
    refine (HS4.out _ V3.out).mono ?_
    rintro e w5 ⟨d4, rfl, hd, rd, -, hb⟩
    unfold CV.v
    have hba := below_alloc w5 (.cells #[.int .i64 d4.m, .slice d4.a1 d4.n1 d4.c1, .slice d4.a2 d4.n2 d4.c2, .slice d4.a3 d4.n3 d4.c3, .slice d4.a4 d4.n4 d4.c4, .slice d4.a5 d4.n5 d4.c5, .slice d4.a6 d4.n6 d4.c6, .slice d4.a7 d4.n7 d4.c7] 29)
    have V4 := hide (belowThen (belowThen V3.out hb) hba)
    replace BX1 := hide ((BX1.out.below hb).below hba)
    replace HD1 := hide (And.intro ((HD1.out.1.below hb).below hba) HD1.out.2)
    replace BX2 := hide ((BX2.out.below hb).below hba)
    replace HD2 := hide (And.intro ((HD2.out.1.below hb).below hba) HD2.out.2)
    replace BX3 := hide ((BX3.out.below hb).below hba)
    replace HD3 := hide (And.intro ((HD3.out.1.below hb).below hba) HD3.out.2)
    have BX4 := hide (box_new w5 d4)
    have HD4 := hide (And.intro (hd.below hba) rd)
    clear HS4 hb hd rd hba V3
    go_upto_region 8 with fail
    generalize w5.alloc (.cells #[.int .i64 d4.m, .slice d4.a1 d4.n1 d4.c1, .slice d4.a2 d4.n2 d4.c2, .slice d4.a3 d4.n3 d4.c3, .slice d4.a4 d4.n4 d4.c4, .slice d4.a5 d4.n5 d4.c5, .slice d4.a6 d4.n6 d4.c6, .slice d4.a7 d4.n7 d4.c7] 29) = X5 at *
    have HSm1 := hide (fun W (hb : Below X5.heap.size X5 W) => refSame_any d1 d2 C1 C1 W (HD1.out.1.below hb) (HD2.out.1.below hb) HD1.out.2 HD2.out.2)
    rw [show sameB C1 C1 = true by unfold sameB; simp] at HSm1
    unfold CV.v at HSm1
    have HSm2 := hide (fun W (hb : Below X5.heap.size X5 W) => refSame_any d3 d4 C2 C2 W (HD3.out.1.below hb) (HD4.out.1.below hb) HD3.out.2 HD4.out.2)
    rw [show sameB C2 C2 = true by unfold sameB; simp] at HSm2
    unfold CV.v at HSm2
    clear HD1 HD2 HD3 HD4
    obtain ⟨p10, p11, p12, p13, p14, p15, p16, p17⟩ := BX1.out.cells
    obtain ⟨p20, p21, p22, p23, p24, p25, p26, p27⟩ := BX2.out.cells
    obtain ⟨p30, p31, p32, p33, p34, p35, p36, p37⟩ := BX3.out.cells
    obtain ⟨p40, p41, p42, p43, p44, p45, p46, p47⟩ := BX4.out.cells
    go_wp2_with (first | (go_at_call 25; refine (HNum.out _ _).mono ?_; rintro e w7 ⟨rfl, rfl⟩) | (go_at_call 15; refine (HSm1.out _ (by first | exact Below.refl _ _ | exact Drew.below ⟨1, rfl⟩)).mono ?_; rintro e w8 ⟨rfl, hb8⟩; obtain ⟨s30, s31, s32, s33, s34, s35, s36, s37⟩ := (BX3.out.below hb8).cells; obtain ⟨s40, s41, s42, s43, s44, s45, s46, s47⟩ := (BX4.out.below hb8).cells; clear HSm1) | (go_at_call 15; refine (HSm2.out _ (by first | exact hb8 | exact Below.refl _ _)).mono ?_; rintro e w9 ⟨rfl, hb9⟩))
    all_goals go_ret
    all_goals first | exact ⟨rfl, belowThen (belowThen V4.out hb8) hb9⟩ | exact ⟨rfl, belowThen V4.out hb9⟩
end Go.Proofs.YtikjbbebfjleaaaGreatDoor
