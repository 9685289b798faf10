/-
  THE LAW AsciiReads, walked.
-/
import Derived.Test.YtikjbbebfjleaaaGreatDoorRefRdA
import Derived.Test.YtikjbbebfjleaaaGreatDoorRd3
import Derived.Test.YtikjbbebfjleaaaGreatDoorAigRefSame
namespace Go.Proofs.YtikjbbebfjleaaaGreatDoor
open Go.RowKit

set_option maxRecDepth 100000 in
set_option maxHeartbeats 4000000 in
theorem asciiReads_any (a : Option Addr) (len cap : Nat) (zs : List Int) (w : World) (hr : IsRow .u8 w a len cap zs) (hE : Env w) (hM : EnvM w) :
    Calls Tryz.prog 3 #[.slice a len cap] w fun e w' => e = .returned (.bool true) ∧ Below w.heap.size w w' := by
  have hb8 : Bytes8 (zs.take len) := fun n hn => bounds_u8 (hr.row.2.1 n hn)
  obtain ⟨hrow, -, ha, hx, hcp, hm⟩ := hr.row
  clear hr
  generalize zs.take len = ms at hrow hb8 hx
  have HAl := hide (fun W (hb : Below w.heap.size w W) => alive5_any W (hE.below hb) (hM.below hb))
  have HT := hide (fun (hl : len ≤ 100000) W (hb : Below w.heap.size w W) => (⟨hrow.below hb, hx, ha, hcp, hm, hb8, hl, hE.below hb, hM.below hb⟩ : Txt W a len cap ms))
  have HNum := hide (fun n W => num5_any n W)
  clear hrow hb8 hx ha hE hM
  go_enter Tryz.func3, Tryz.ntmps3
  go_wp2_with fail
  refine (HAl.out _ (Below.refl _ _)).mono ?_
  rintro e w1 ⟨rfl, hb1⟩
  have W1 := hide hb1
  clear HAl hb1
  by_cases h3 : 3000 < len
  · go_wp2
    go_ret
    exact ⟨rfl, W1.out⟩
  · have HR := hide (asciiRead_any a len cap ms w1 (HT.out (by omega) w1 W1.out))
    have HS := hide (fun W (hb : Below w.heap.size w W) => readAscii_any a len cap ms W (HT.out (by omega) W hb))
    unfold ReadPost at HR HS
    generalize gramA.readE ms = E at HR HS
    generalize gramA.read ms = C at HR HS
    have hEE : (E == E) = true := by simp
    clear HT
    go_wp2_with fail
    refine HR.out.mono ?_
    rintro e w2 ⟨d, rfl, hd, rd, -, hb2⟩
    unfold CV.v
    have W2 := hide (belowThen W1.out hb2)
    have hba := below_alloc w2 (.cells #[.int .i64 d.m, .slice d.a1 d.n1 d.c1, .slice d.a2 d.n2 d.c2, .slice d.a3 d.n3 d.c3, .slice d.a4 d.n4 d.c4, .slice d.a5 d.n5 d.c5, .slice d.a6 d.n6 d.c6, .slice d.a7 d.n7 d.c7] 29)
    have W3 := hide (belowThen W2.out hba)
    have B3 := hide (box_new w2 d)
    have HD := hide (And.intro (hd.below hba) rd)
    clear HR hb2 hd rd hba
    go_wp2_with fail
    refine (HS.out _ W3.out).mono ?_
    rintro e w4 ⟨d', rfl, hd', rd', -, hb4⟩
    unfold CV.v
    have W4 := hide (belowThen W3.out hb4)
    have B4 := hide (B3.out.below hb4)
    have HD4 := hide (And.intro (HD.out.1.below hb4) HD.out.2)
    have HE4 := hide (And.intro hd' rd')
    clear HS B3 W3 HD hb4 hd' rd'
    go_upto_region 6 with fail
    have hba := below_alloc w4 (.cells #[.int .i64 d'.m, .slice d'.a1 d'.n1 d'.c1, .slice d'.a2 d'.n2 d'.c2, .slice d'.a3 d'.n3 d'.c3, .slice d'.a4 d'.n4 d'.c4, .slice d'.a5 d'.n5 d'.c5, .slice d'.a6 d'.n6 d'.c6, .slice d'.a7 d'.n7 d'.c7] 29)
    have W5 := hide (belowThen W4.out hba)
    have B5 := hide (B4.out.below hba)
    have C5 := hide (box_new w4 d')
    have HSm := hide (fun W (hb : Below (w4.alloc (.cells #[.int .i64 d'.m, .slice d'.a1 d'.n1 d'.c1, .slice d'.a2 d'.n2 d'.c2, .slice d'.a3 d'.n3 d'.c3, .slice d'.a4 d'.n4 d'.c4, .slice d'.a5 d'.n5 d'.c5, .slice d'.a6 d'.n6 d'.c6, .slice d'.a7 d'.n7 d'.c7] 29)).heap.size (w4.alloc (.cells #[.int .i64 d'.m, .slice d'.a1 d'.n1 d'.c1, .slice d'.a2 d'.n2 d'.c2, .slice d'.a3 d'.n3 d'.c3, .slice d'.a4 d'.n4 d'.c4, .slice d'.a5 d'.n5 d'.c5, .slice d'.a6 d'.n6 d'.c6, .slice d'.a7 d'.n7 d'.c7] 29)) W) => refSame_any d d' C C W ((HD4.out.1.below hba).below hb) ((HE4.out.1.below hba).below hb) HD4.out.2 HE4.out.2)
    rw [show sameB C C = true by unfold sameB; simp] at HSm
    unfold CV.v at HSm
    generalize w4.alloc (.cells #[.int .i64 d'.m, .slice d'.a1 d'.n1 d'.c1, .slice d'.a2 d'.n2 d'.c2, .slice d'.a3 d'.n3 d'.c3, .slice d'.a4 d'.n4 d'.c4, .slice d'.a5 d'.n5 d'.c5, .slice d'.a6 d'.n6 d'.c6, .slice d'.a7 d'.n7 d'.c7] 29) = W7 at *
    clear hba HD4 HE4 B4 W4
    obtain ⟨p0, p1, p2, p3, p4, p5, p6, p7⟩ := B5.out.cells
    obtain ⟨q0, q1, q2, q3, q4, q5, q6, q7⟩ := C5.out.cells
    go_wp2_with (first | (go_at_call 14; refine (HNum.out _ _).mono ?_; rintro e w7 ⟨rfl, rfl⟩) | (go_at_call 15; refine (HSm.out _ (by first | exact Drew.below ⟨1, rfl⟩ | exact Below.refl _ _)).mono ?_; rintro e w8 ⟨rfl, hb8⟩))
    go_ret
    first | exact ⟨rfl, belowThen W5.out (belowThen (Drew.below ⟨1, rfl⟩) hb8)⟩ | exact ⟨rfl, belowThen W5.out hb8⟩
end Go.Proofs.YtikjbbebfjleaaaGreatDoor
