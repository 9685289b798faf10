/-
  THE WALK of the law AigChecks.
-/
import Derived.Test.YtppaifckiaaffaaAigCopy
import Derived.Test.YtppaifckiaaffaaAigTwo
import Derived.Test.YtppaifckiaaffaaRefCheck
namespace Go.Proofs.Ytppaifckiaaffaa
open Go.RowKit

theorem fits_read {w : World} {c : CV} {C : Circ} (_h : Holds w c C) (r : Read c) (hm : I64 c.m) (hN : NamesFit C) : Fits c C :=
  ⟨by have := r.n1; omega, by have := r.n2; omega, by have := r.n3; omega, by have := r.n4; omega, by have := r.n5; omega, hm.1, hN⟩
theorem refCheck_read (c : CV) (C : Circ) (w : World) (h : Holds w c C) (r : Read c) (hm : I64 c.m) (hN : NamesFit C) :
    Calls Try.prog 19 #[c.v] w fun e w' => e = .returned (.int .i64 C.checkI) ∧ Below w.heap.size w w' :=
  refCheck_any c C w h hm (by have := r.n1; omega) (by have := r.n2; omega) (by have := r.n3; omega) (by have := r.n4; omega) (by have := r.n5; omega) (by have := r.n6; omega) (by have := r.n7; omega) hN
theorem same_self (A : Circ) : sameB A A = true := by unfold sameB; simp

theorem two8_put {w0 w : World} {b1 : Nat} {c d : CV} {A : Circ} (hc : Holds w c A) (hd : Holds w d A) (hb : Box w b1 c) (hbl : Below w0.heap.size w0 w) : Two8 w0 b1 w.heap.size c d A A (w.alloc (.cells #[.int .i64 d.m, .slice d.a1 d.n1 d.c1, .slice d.a2 d.n2 d.c2, .slice d.a3 d.n3 d.c3, .slice d.a4 d.n4 d.c4, .slice d.a5 d.n5 d.c5, .slice d.a6 d.n6 d.c6, .slice d.a7 d.n7 d.c7] 27)) :=
  ⟨hc.below (below_alloc w _), hd.below (below_alloc w _), hb.alloc _, box_new w d, belowThen hbl (below_alloc w _)⟩

set_option maxRecDepth 100000 in
set_option maxHeartbeats 1000000 in
theorem aigChecks_any (c : CV) (C : Circ) (w : World) (h : Came w c C) :
    Calls Try.prog 3 #[c.v] w fun e w' => e = .returned (.bool true) ∧ Below w.heap.size w w' := by
  have HC := hide h
  have HBA := hide (fun W (hb : Below w.heap.size w W) => big_any c C W (h.below hb))
  have HAl := hide (fun W => alive_any W)
  have HB0 := hide (And.intro (box_new w c) (below_alloc w (.cells #[.int .i64 c.m, .slice c.a1 c.n1 c.c1, .slice c.a2 c.n2 c.c2, .slice c.a3 c.n3 c.c3, .slice c.a4 c.n4 c.c4, .slice c.a5 c.n5 c.c5, .slice c.a6 c.n6 c.c6, .slice c.a7 c.n7 c.c7] 27)))
  have hcv : c.v = .agg #[.int .i64 c.m, .slice c.a1 c.n1 c.c1, .slice c.a2 c.n2 c.c2, .slice c.a3 c.n3 c.c3, .slice c.a4 c.n4 c.c4, .slice c.a5 c.n5 c.c5, .slice c.a6 c.n6 c.c6, .slice c.a7 c.n7 c.c7] := rfl
  have HCV := hide hcv
  rw [hcv] at HBA ⊢
  clear h hcv
  go_enter Try.func3, Try.ntmps3
  go_wp2_with fail
  refine (HAl.out _).mono ?_
  rintro e w1 ⟨rfl, hb1⟩
  have T1 := hide (And.intro (HB0.out.1.below hb1) (belowThen HB0.out.2 hb1))
  clear hb1 HAl HB0
  obtain ⟨p0, p1, p2, p3, p4, p5, p6, p7⟩ := T1.out.1.cells
  go_wp2_with fail
  refine (HBA.out _ T1.out.2).mono ?_
  rintro e w2 ⟨rfl, hb2⟩
  have T2 := hide (And.intro (T1.out.1.below hb2) (belowThen T1.out.2 hb2))
  clear hb2 HBA T1 p0 p1 p2 p3 p4 p5 p6 p7
  obtain ⟨p0, p1, p2, p3, p4, p5, p6, p7⟩ := T2.out.1.cells
  cases hba : C.bigB with
  | true =>
    go_wp2
    go_ret
    exact ⟨rfl, T2.out.2⟩
  | false =>
    have HRA := hide (read_of HC.out hba)
    have HN : Hid (NamesFit C) := fun s hs => by have := (big_no hba).2 s hs; omega
    have hbl : C.badsOr.length ≤ 1000000 := by
      have := (big_no hba).1
      unfold Circ.badsOr; split <;> omega
    have HCp := hide (fun W (hb : Below w.heap.size w W) => copy_any c C W (HC.out.holds.below hb) HRA.out)
    rw [HCV.out] at HCp
    clear hba
    go_wp2_with fail
    refine (HCp.out _ T2.out.2).mono ?_
    rintro e w3 ⟨d, rfl, hd, rd, hb3⟩
    have hdv : d.v = .agg #[.int .i64 d.m, .slice d.a1 d.n1 d.c1, .slice d.a2 d.n2 d.c2, .slice d.a3 d.n3 d.c3, .slice d.a4 d.n4 d.c4, .slice d.a5 d.n5 d.c5, .slice d.a6 d.n6 d.c6, .slice d.a7 d.n7 d.c7] := rfl
    have hcv : c.v = .agg #[.int .i64 c.m, .slice c.a1 c.n1 c.c1, .slice c.a2 c.n2 c.c2, .slice c.a3 c.n3 c.c3, .slice c.a4 c.n4 c.c4, .slice c.a5 c.n5 c.c5, .slice c.a6 c.n6 c.c6, .slice c.a7 c.n7 c.c7] := rfl
    rw [hdv]
    have HT := hide (two8_put (HC.out.holds.below (belowThen T2.out.2 hb3)) hd (T2.out.1.below hb3) (belowThen T2.out.2 hb3))
    have hmd : Hid (I64 d.m) := by
      show I64 d.m
      rw [hd.m, ← HC.out.holds.m]; exact HC.out.m
    have HRD := hide rd
    have hlt : w.heap.size < w3.heap.size := Nat.lt_of_lt_of_le T2.out.1.lt hb3.size
    clear hd rd hb3 HCp p0 p1 p2 p3 p4 p5 p6 p7 T2
    have H1 := hide (fun W (t : Two8 w w.heap.size w3.heap.size c d C C W) => check_any d C W t.k (fits_read t.k HRD.out hmd.out HN.out))
    have H2 := hide (fun W (t : Two8 w w.heap.size w3.heap.size c d C C W) => refCheck_read c C W t.h HRA.out HC.out.m HN.out)
    have H3 := hide (fun W (t : Two8 w w.heap.size w3.heap.size c d C C W) => refSame_any d c C C W t.k t.h HRD.out HRA.out)
    have H4 := hide (fun W (t : Two8 w w.heap.size w3.heap.size c d C C W) => vars_of d C W t.k (by have := HRD.out.n1; omega) (by have := HRD.out.n2; omega) (by have := HRD.out.n6; omega))
    have H5 := hide (fun W (t : Two8 w w.heap.size w3.heap.size c d C C W) => refVars_any c C W t.h (by have := HRA.out.n1; omega) (by have := HRA.out.n2; omega) (by have := HRA.out.n6; omega))
    have H6 := hide (fun W (t : Two8 w w.heap.size w3.heap.size c d C C W) => bads_any d C W t.k (by have := HRD.out.n3; omega) (by have := HRD.out.n4; omega))
    have H7 := hide (fun W (t : Two8 w w.heap.size w3.heap.size c d C C W) => refBads_any c C W t.h)
    rw [same_self] at H3
    rw [hdv] at H1 H3 H4 H6
    rw [hcv] at H2 H3 H5 H7
    generalize C.checkI = ck at H1 H2
    generalize ((C.numVars : Nat) : Int) = nv at H4 H5
    have hck : (ck == ck) = true := by simp
    have hnv : (nv == nv) = true := by simp
    generalize C.badsOr = bs at H6 H7 hbl
    have HSm : Hid (∀ a n c1 b m d1 W, RowK .i64 W a bs → bs.length = n → RowK .i64 W b bs → bs.length = m → Calls Try.prog 23 #[.slice a n c1, .slice b m d1] W fun e w' => e = .returned (.bool true) ∧ Below W.heap.size W w') := fun a n c1 b m d1 W h1 h2 h3 h4 => (same_any a b n c1 m d1 bs bs W h1 h2 h3 h4 (by omega) (by omega)).mono (fun e w' hh => ⟨hh.1.trans (ret_bool (decide_eq_true rfl)), hh.2.below⟩)
    clear hdv hcv HC HRA HRD HN hmd HCV
    go_wp2
    generalize w3.alloc (.cells #[.int .i64 d.m, .slice d.a1 d.n1 d.c1, .slice d.a2 d.n2 d.c2, .slice d.a3 d.n3 d.c3, .slice d.a4 d.n4 d.c4, .slice d.a5 d.n5 d.c5, .slice d.a6 d.n6 d.c6, .slice d.a7 d.n7 d.c7] 27) = W4 at HT ⊢
    generalize w3.heap.size = b2 at *
    obtain ⟨p0, p1, p2, p3, p4, p5, p6, p7, r0, r1, r2, r3, r4, r5, r6, r7⟩ := two8_cells HT.out
    have TD : Hid (∀ q, Two8 w w.heap.size b2 c d C C (W4.drewN q)) := fun q => HT.out.then (Drew.below ⟨q, rfl⟩)
    go_region_held3 (fun w' => w'.cell? ⟨w.heap.size, 0, none⟩ = some (.int .i64 c.m) ∧ w'.cell? ⟨w.heap.size, 1, none⟩ = some (.slice c.a1 c.n1 c.c1) ∧ w'.cell? ⟨w.heap.size, 2, none⟩ = some (.slice c.a2 c.n2 c.c2) ∧ w'.cell? ⟨w.heap.size, 3, none⟩ = some (.slice c.a3 c.n3 c.c3) ∧ w'.cell? ⟨w.heap.size, 4, none⟩ = some (.slice c.a4 c.n4 c.c4) ∧ w'.cell? ⟨w.heap.size, 5, none⟩ = some (.slice c.a5 c.n5 c.c5) ∧ w'.cell? ⟨w.heap.size, 6, none⟩ = some (.slice c.a6 c.n6 c.c6) ∧ w'.cell? ⟨w.heap.size, 7, none⟩ = some (.slice c.a7 c.n7 c.c7) ∧ w'.cell? ⟨b2, 0, none⟩ = some (.int .i64 d.m) ∧ w'.cell? ⟨b2, 1, none⟩ = some (.slice d.a1 d.n1 d.c1) ∧ w'.cell? ⟨b2, 2, none⟩ = some (.slice d.a2 d.n2 d.c2) ∧ w'.cell? ⟨b2, 3, none⟩ = some (.slice d.a3 d.n3 d.c3) ∧ w'.cell? ⟨b2, 4, none⟩ = some (.slice d.a4 d.n4 d.c4) ∧ w'.cell? ⟨b2, 5, none⟩ = some (.slice d.a5 d.n5 d.c5) ∧ w'.cell? ⟨b2, 6, none⟩ = some (.slice d.a6 d.n6 d.c6) ∧ w'.cell? ⟨b2, 7, none⟩ = some (.slice d.a7 d.n7 d.c7)) (first | with_reducible exact two8_cells t11 | with_reducible exact two8_cells t10 | with_reducible exact two8_cells t9 | with_reducible exact two8_cells t8 | with_reducible exact two8_cells t7 | with_reducible exact two8_cells t6 | with_reducible exact two8_cells t5 | with_reducible exact two8_cells t4 | go_keep) (first | (go_at_call 18; refine (H1.out _ (TD.out _)).mono ?_; rintro e w4 ⟨rfl, hb4⟩; have t4 := (TD.out _).then hb4; clear hb4) | (go_at_call 17; refine (num_any _ _).mono ?_; rintro e w' ⟨rfl, hw'⟩; obtain rfl := hw'.symm) | (go_at_call 19; refine (H2.out _ t4).mono ?_; rintro e w5 ⟨rfl, hb5⟩; have t5 := t4.then hb5; clear hb5) | (go_at_call 20; refine (H3.out _ t5).mono ?_; rintro e w6 ⟨rfl, hb6⟩; have t6 := t5.then hb6; clear hb6) | (go_at_call 21; refine (H4.out _ t6).mono ?_; rintro e w7 ⟨rfl, hb7⟩; have t7 := t6.then hb7; clear hb7) | (go_at_call 22; refine (H5.out _ t7).mono ?_; rintro e w8 ⟨rfl, hb8⟩; have t8 := t7.then hb8; clear hb8) | (go_at_call 24; refine (H6.out _ t8).mono ?_; rintro e w9 ⟨v9, rfl, hn9⟩; obtain ⟨a9, k9, rfl, hr9, -, hl9, -⟩ := row_of_own hn9.1; have t9 := t8.then hn9.2; clear hn9) | (go_at_call 25; refine (H7.out _ t9).mono ?_; rintro e w10 ⟨a10, n10, k10, rfl, hr10, hl10, hb10⟩; have t10 := t9.then hb10; replace hr9 := hr9.below hb10; clear hb10) | (go_at_call 23; refine (HSm.out a9 n10 k9 a10 n10 k10 w10 hr9 hl10 hr10 hl10).mono ?_; rintro e w11 ⟨rfl, hb11⟩; have t11 := t10.then hb11; clear hb11))
    all_goals go_wp2
    all_goals go_ret
    all_goals exact ⟨rfl, t11.below⟩
end Go.Proofs.Ytppaifckiaaffaa
