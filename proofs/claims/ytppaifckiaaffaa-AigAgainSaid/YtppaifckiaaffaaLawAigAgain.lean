/-
  THE WALK of the law AigAgain.
-/
import Derived.Test.YtppaifckiaaffaaAgainP
import Derived.Test.YtppaifckiaaffaaNormGood
import Derived.Test.YtppaifckiaaffaaLawAigChecks
namespace Go.Proofs.Ytppaifckiaaffaa
open Go.RowKit

/-- Three circuits in their boxes: the second and the third are one. -/
structure Three (w0 : World) (b1 b5 b7 : Nat) (c d x : CV) (C N : Circ) (W : World) : Prop where
  hc : Holds W c C
  hd : Holds W d N
  hx : Holds W x N
  bc : Box W b1 c
  bd : Box W b5 d
  bx : Box W b7 x
  below : Below w0.heap.size w0 W
theorem Three.then {w0 W W' : World} {b1 b5 b7 : Nat} {c d x : CV} {C N : Circ} (h : Three w0 b1 b5 b7 c d x C N W) (hb : Below W.heap.size W W') : Three w0 b1 b5 b7 c d x C N W' :=
  ⟨h.hc.below hb, h.hd.below hb, h.hx.below hb, h.bc.below hb, h.bd.below hb, h.bx.below hb, belowThen h.below hb⟩
theorem Three.cells {w0 w' : World} {b1 b5 b7 : Nat} {c d x : CV} {C N : Circ} (h : Three w0 b1 b5 b7 c d x C N w') : w'.cell? ⟨b1, 0, none⟩ = some (.int .i64 c.m) ∧ w'.cell? ⟨b1, 1, none⟩ = some (.slice c.a1 c.n1 c.c1) ∧ w'.cell? ⟨b1, 2, none⟩ = some (.slice c.a2 c.n2 c.c2) ∧ w'.cell? ⟨b1, 3, none⟩ = some (.slice c.a3 c.n3 c.c3) ∧ w'.cell? ⟨b1, 4, none⟩ = some (.slice c.a4 c.n4 c.c4) ∧ w'.cell? ⟨b1, 5, none⟩ = some (.slice c.a5 c.n5 c.c5) ∧ w'.cell? ⟨b1, 6, none⟩ = some (.slice c.a6 c.n6 c.c6) ∧ w'.cell? ⟨b1, 7, none⟩ = some (.slice c.a7 c.n7 c.c7) ∧ w'.cell? ⟨b5, 0, none⟩ = some (.int .i64 d.m) ∧ w'.cell? ⟨b5, 1, none⟩ = some (.slice d.a1 d.n1 d.c1) ∧ w'.cell? ⟨b5, 2, none⟩ = some (.slice d.a2 d.n2 d.c2) ∧ w'.cell? ⟨b5, 3, none⟩ = some (.slice d.a3 d.n3 d.c3) ∧ w'.cell? ⟨b5, 4, none⟩ = some (.slice d.a4 d.n4 d.c4) ∧ w'.cell? ⟨b5, 5, none⟩ = some (.slice d.a5 d.n5 d.c5) ∧ w'.cell? ⟨b5, 6, none⟩ = some (.slice d.a6 d.n6 d.c6) ∧ w'.cell? ⟨b5, 7, none⟩ = some (.slice d.a7 d.n7 d.c7) ∧ w'.cell? ⟨b7, 0, none⟩ = some (.int .i64 x.m) ∧ w'.cell? ⟨b7, 1, none⟩ = some (.slice x.a1 x.n1 x.c1) ∧ w'.cell? ⟨b7, 2, none⟩ = some (.slice x.a2 x.n2 x.c2) ∧ w'.cell? ⟨b7, 3, none⟩ = some (.slice x.a3 x.n3 x.c3) ∧ w'.cell? ⟨b7, 4, none⟩ = some (.slice x.a4 x.n4 x.c4) ∧ w'.cell? ⟨b7, 5, none⟩ = some (.slice x.a5 x.n5 x.c5) ∧ w'.cell? ⟨b7, 6, none⟩ = some (.slice x.a6 x.n6 x.c6) ∧ w'.cell? ⟨b7, 7, none⟩ = some (.slice x.a7 x.n7 x.c7) := by
  obtain ⟨p0, p1, p2, p3, p4, p5, p6, p7⟩ := h.bc.cells
  obtain ⟨q0, q1, q2, q3, q4, q5, q6, q7⟩ := h.bd.cells
  exact ⟨p0, p1, p2, p3, p4, p5, p6, p7, q0, q1, q2, q3, q4, q5, q6, q7, h.bx.cells⟩

set_option maxRecDepth 100000 in
set_option maxHeartbeats 4000000 in
theorem aigAgain_any (c : CV) (C : Circ) (w : World) (h : Came w c C) :
    Calls Try.prog 5 #[c.v] w fun e w' => e = .returned (.bool true) ∧ Below w.heap.size w w' := by
  have HC := hide h
  have HBA := hide (fun W (hb : Below w.heap.size w W) => big_any c C W (h.below hb))
  have HAl := hide (fun W => alive_any W)
  have HB0 := hide (And.intro (box_new w c) (below_alloc w (.cells #[.int .i64 c.m, .slice c.a1 c.n1 c.c1, .slice c.a2 c.n2 c.c2, .slice c.a3 c.n3 c.c3, .slice c.a4 c.n4 c.c4, .slice c.a5 c.n5 c.c5, .slice c.a6 c.n6 c.c6, .slice c.a7 c.n7 c.c7] 27)))
  have hcv : c.v = .agg #[.int .i64 c.m, .slice c.a1 c.n1 c.c1, .slice c.a2 c.n2 c.c2, .slice c.a3 c.n3 c.c3, .slice c.a4 c.n4 c.c4, .slice c.a5 c.n5 c.c5, .slice c.a6 c.n6 c.c6, .slice c.a7 c.n7 c.c7] := rfl
  have HCV := hide hcv
  rw [hcv] at HBA ⊢
  clear h hcv
  go_enter Try.func5, Try.ntmps5
  go_wp2_with fail
  refine (HAl.out _).mono ?_
  rintro e w1 ⟨rfl, hb1⟩
  have T1 := hide (And.intro (HB0.out.1.below hb1) (belowThen HB0.out.2 hb1))
  clear hb1 HAl HB0
  obtain ⟨p0, p1, p2, p3, p4, p5, p6, p7⟩ := T1.out.1.cells
  go_wp2_with fail
  refine (HBA.out _ T1.out.2).mono ?_
  rintro e w2 ⟨rfl, hb2⟩
  have T2 := hide (And.intro (T1.out.1.below hb2) (belowThen T1.out.2 hb2))
  clear hb2 HBA T1 p0 p1 p2 p3 p4 p5 p6 p7
  obtain ⟨p0, p1, p2, p3, p4, p5, p6, p7⟩ := T2.out.1.cells
  cases hba : C.bigB with
  | true =>
    go_wp2
    go_ret
    exact ⟨rfl, T2.out.2⟩
  | false =>
    have HRA := hide (read_of HC.out hba)
    have HN : Hid (NamesFit C) := fun s hs => by have := (big_no hba).2 s hs; omega
    have HRf := hide (refCheck_read c C w2 (HC.out.holds.below T2.out.2) HRA.out HC.out.m HN.out)
    rw [HCV.out] at HRf
    clear hba
    by_cases hck : C.checkI = 0
    · have HK := hide hck
      rw [hck] at HRf
      have HNm := hide (fun W (hb : Below w.heap.size w W) => normal_good c C W (HC.out.holds.below hb) (fits_read HC.out.holds HRA.out HC.out.m HN.out) HK.out)
      rw [HCV.out] at HNm
      clear hck
      go_wp2_with fail
      refine HRf.out.mono ?_
      rintro e w3 ⟨rfl, hb3⟩
      have T3 := hide (And.intro (T2.out.1.below hb3) (belowThen T2.out.2 hb3))
      clear hb3 T2 p0 p1 p2 p3 p4 p5 p6 p7 HRf
      obtain ⟨p0, p1, p2, p3, p4, p5, p6, p7⟩ := T3.out.1.cells
      go_wp2_with fail
      refine (HNm.out _ T3.out.2).mono ?_
      rintro e w4 ⟨d, rfl, hd, rd, hdm, hb4⟩
      have hdv : d.v = .agg #[.int .i64 d.m, .slice d.a1 d.n1 d.c1, .slice d.a2 d.n2 d.c2, .slice d.a3 d.n3 d.c3, .slice d.a4 d.n4 d.c4, .slice d.a5 d.n5 d.c5, .slice d.a6 d.n6 d.c6, .slice d.a7 d.n7 d.c7] := rfl
      have HDV := hide hdv
      rw [hdv]
      have T4 : Hid (Box (w4.alloc (.cells #[.int .i64 d.m, .slice d.a1 d.n1 d.c1, .slice d.a2 d.n2 d.c2, .slice d.a3 d.n3 d.c3, .slice d.a4 d.n4 d.c4, .slice d.a5 d.n5 d.c5, .slice d.a6 d.n6 d.c6, .slice d.a7 d.n7 d.c7] 27)) w.heap.size c ∧ Box (w4.alloc (.cells #[.int .i64 d.m, .slice d.a1 d.n1 d.c1, .slice d.a2 d.n2 d.c2, .slice d.a3 d.n3 d.c3, .slice d.a4 d.n4 d.c4, .slice d.a5 d.n5 d.c5, .slice d.a6 d.n6 d.c6, .slice d.a7 d.n7 d.c7] 27)) w4.heap.size d ∧ Holds (w4.alloc (.cells #[.int .i64 d.m, .slice d.a1 d.n1 d.c1, .slice d.a2 d.n2 d.c2, .slice d.a3 d.n3 d.c3, .slice d.a4 d.n4 d.c4, .slice d.a5 d.n5 d.c5, .slice d.a6 d.n6 d.c6, .slice d.a7 d.n7 d.c7] 27)) d C.norm ∧ Below w.heap.size w (w4.alloc (.cells #[.int .i64 d.m, .slice d.a1 d.n1 d.c1, .slice d.a2 d.n2 d.c2, .slice d.a3 d.n3 d.c3, .slice d.a4 d.n4 d.c4, .slice d.a5 d.n5 d.c5, .slice d.a6 d.n6 d.c6, .slice d.a7 d.n7 d.c7] 27))) := ⟨(T3.out.1.below hb4).alloc _, box_new w4 d, hd.below (below_alloc _ _), belowThen (belowThen T3.out.2 hb4) (below_alloc _ _)⟩
      have HNmax : C.norm.max ≤ 10000 ∧ 0 ≤ C.norm.max := by
        have hR := right_of HK.out
        have h1 := hR.small.ins
        have h2 := hR.small.lats
        have h3 := hR.small.ands
        rw [norm_max hR, order_total hR]
        omega
      have HMd : Hid (I64 d.m) := by show I64 d.m; rw [hdm]; exact ⟨by omega, by omega⟩
      have HRD := hide rd
      have HDm := hide hdm
      have HNN : Hid (NamesFit C.norm) := HN.out
      have HN2 := hide (normal_good d C.norm (w4.alloc (.cells #[.int .i64 d.m, .slice d.a1 d.n1 d.c1, .slice d.a2 d.n2 d.c2, .slice d.a3 d.n3 d.c3, .slice d.a4 d.n4 d.c4, .slice d.a5 d.n5 d.c5, .slice d.a6 d.n6 d.c6, .slice d.a7 d.n7 d.c7] 27)) T4.out.2.2.1 (fits_read T4.out.2.2.1 HRD.out HMd.out HNN.out) (norm_check HK.out))
      rw [hdv, norm_norm HK.out] at HN2
      clear hd rd hb4 T3 p0 p1 p2 p3 p4 p5 p6 p7 HNm hdm hdv HNmax
      go_wp2_with fail
      refine HN2.out.mono ?_
      rintro e w5 ⟨x, rfl, hx, rx, hxm, hb5⟩
      have hxv : x.v = .agg #[.int .i64 x.m, .slice x.a1 x.n1 x.c1, .slice x.a2 x.n2 x.c2, .slice x.a3 x.n3 x.c3, .slice x.a4 x.n4 x.c4, .slice x.a5 x.n5 x.c5, .slice x.a6 x.n6 x.c6, .slice x.a7 x.n7 x.c7] := rfl
      rw [hxv]
      have HT : Hid (Three w w.heap.size w4.heap.size w5.heap.size c d x C C.norm (w5.alloc (.cells #[.int .i64 x.m, .slice x.a1 x.n1 x.c1, .slice x.a2 x.n2 x.c2, .slice x.a3 x.n3 x.c3, .slice x.a4 x.n4 x.c4, .slice x.a5 x.n5 x.c5, .slice x.a6 x.n6 x.c6, .slice x.a7 x.n7 x.c7] 27))) := ⟨HC.out.holds.below (belowThen (belowThen T4.out.2.2.2 hb5) (below_alloc _ _)), (T4.out.2.2.1.below hb5).below (below_alloc _ _), hx.below (below_alloc _ _), (T4.out.1.below hb5).alloc _, (T4.out.2.1.below hb5).alloc _, box_new w5 x, belowThen (belowThen T4.out.2.2.2 hb5) (below_alloc _ _)⟩
      have HRX := hide rx
      clear hx rx hxm hb5 T4 HN2
      have HDm2 : Hid (d.m = ((C.numVars : Nat) : Int)) := HDm.out
      obtain ⟨b5, hb5⟩ : ∃ b, b = w4.heap.size := ⟨_, rfl⟩
      obtain ⟨b7, hb7⟩ : ∃ b, b = w5.heap.size := ⟨_, rfl⟩
      rw [← hb5, ← hb7] at HT
      have H1 := hide (fun W (t : Three w w.heap.size b5 b7 c d x C C.norm W) => refSame_any d x C.norm C.norm W t.hd t.hx HRD.out HRX.out)
      have H2 := hide (fun W (t : Three w w.heap.size b5 b7 c d x C C.norm W) => check_any d C.norm W t.hd (fits_read t.hd HRD.out HMd.out HNN.out))
      have H3 := hide (fun W (t : Three w w.heap.size b5 b7 c d x C C.norm W) => vars_of c C W t.hc (by have := HRA.out.n1; omega) (by have := HRA.out.n2; omega) (by have := HRA.out.n6; omega))
      rw [same_self] at H1
      rw [norm_check HK.out] at H2
      rw [← HDm2.out] at H3
      rw [HDV.out, hxv] at H1
      rw [HDV.out] at H2
      rw [HCV.out] at H3
      have hdd : (d.m == d.m) = true := by simp
      clear hxv HDV HCV HRX HRD HRA HN HNN HDm HDm2 HMd HK HC
      go_wp2
      rw [← hb5, ← hb7]
      generalize w5.alloc (.cells #[.int .i64 x.m, .slice x.a1 x.n1 x.c1, .slice x.a2 x.n2 x.c2, .slice x.a3 x.n3 x.c3, .slice x.a4 x.n4 x.c4, .slice x.a5 x.n5 x.c5, .slice x.a6 x.n6 x.c6, .slice x.a7 x.n7 x.c7] 27) = W5 at HT ⊢
      clear hb5 hb7
      obtain ⟨p0, p1, p2, p3, p4, p5, p6, p7, q0, q1, q2, q3, q4, q5, q6, q7, r0, r1, r2, r3, r4, r5, r6, r7⟩ := HT.out.cells
      have TD : Hid (∀ q, Three w w.heap.size b5 b7 c d x C C.norm (W5.drewN q)) := fun q => HT.out.then (Drew.below ⟨q, rfl⟩)
      go_region_held3 (fun w' => w'.cell? ⟨w.heap.size, 0, none⟩ = some (.int .i64 c.m) ∧ w'.cell? ⟨w.heap.size, 1, none⟩ = some (.slice c.a1 c.n1 c.c1) ∧ w'.cell? ⟨w.heap.size, 2, none⟩ = some (.slice c.a2 c.n2 c.c2) ∧ w'.cell? ⟨w.heap.size, 3, none⟩ = some (.slice c.a3 c.n3 c.c3) ∧ w'.cell? ⟨w.heap.size, 4, none⟩ = some (.slice c.a4 c.n4 c.c4) ∧ w'.cell? ⟨w.heap.size, 5, none⟩ = some (.slice c.a5 c.n5 c.c5) ∧ w'.cell? ⟨w.heap.size, 6, none⟩ = some (.slice c.a6 c.n6 c.c6) ∧ w'.cell? ⟨w.heap.size, 7, none⟩ = some (.slice c.a7 c.n7 c.c7) ∧ w'.cell? ⟨b5, 0, none⟩ = some (.int .i64 d.m) ∧ w'.cell? ⟨b5, 1, none⟩ = some (.slice d.a1 d.n1 d.c1) ∧ w'.cell? ⟨b5, 2, none⟩ = some (.slice d.a2 d.n2 d.c2) ∧ w'.cell? ⟨b5, 3, none⟩ = some (.slice d.a3 d.n3 d.c3) ∧ w'.cell? ⟨b5, 4, none⟩ = some (.slice d.a4 d.n4 d.c4) ∧ w'.cell? ⟨b5, 5, none⟩ = some (.slice d.a5 d.n5 d.c5) ∧ w'.cell? ⟨b5, 6, none⟩ = some (.slice d.a6 d.n6 d.c6) ∧ w'.cell? ⟨b5, 7, none⟩ = some (.slice d.a7 d.n7 d.c7) ∧ w'.cell? ⟨b7, 0, none⟩ = some (.int .i64 x.m) ∧ w'.cell? ⟨b7, 1, none⟩ = some (.slice x.a1 x.n1 x.c1) ∧ w'.cell? ⟨b7, 2, none⟩ = some (.slice x.a2 x.n2 x.c2) ∧ w'.cell? ⟨b7, 3, none⟩ = some (.slice x.a3 x.n3 x.c3) ∧ w'.cell? ⟨b7, 4, none⟩ = some (.slice x.a4 x.n4 x.c4) ∧ w'.cell? ⟨b7, 5, none⟩ = some (.slice x.a5 x.n5 x.c5) ∧ w'.cell? ⟨b7, 6, none⟩ = some (.slice x.a6 x.n6 x.c6) ∧ w'.cell? ⟨b7, 7, none⟩ = some (.slice x.a7 x.n7 x.c7)) (first | with_reducible exact t8.cells | with_reducible exact t7.cells | with_reducible exact t6.cells | go_keep) (first | (go_at_call 17; refine (num_any _ _).mono ?_; rintro e w' ⟨rfl, hw'⟩; obtain rfl := hw'.symm) | (go_at_call 20; refine (H1.out _ (TD.out _)).mono ?_; rintro e w6 ⟨rfl, hb6⟩; have t6 := (TD.out _).then hb6; clear hb6) | (go_at_call 18; refine (H2.out _ t6).mono ?_; rintro e w7 ⟨rfl, hb7⟩; have t7 := t6.then hb7; clear hb7) | (go_at_call 21; refine (H3.out _ t7).mono ?_; rintro e w8 ⟨rfl, hb8⟩; have t8 := t7.then hb8; clear hb8))
      all_goals go_wp2
      all_goals go_ret
      all_goals exact ⟨rfl, t8.below⟩
    · generalize C.checkI = ck at HRf hck
      have hckb : (ck != 0) = true := by simpa using hck
      clear hck
      go_wp2_with fail
      refine HRf.out.mono ?_
      rintro e w3 ⟨rfl, hb3⟩
      have T3 := hide (belowThen T2.out.2 hb3)
      clear hb3
      go_wp2
      go_ret
      exact ⟨rfl, T3.out⟩
end Go.Proofs.Ytppaifckiaaffaa
