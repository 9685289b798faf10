/-
  PROVED: the law TernaryTrue answers true at every circuit, state, inputs and mask: what ternary.Step tells where not all is known is what the document's step tells, or Any. No conditions.
  THE WALK of the law TernaryTrue.
-/
import Derived.Test.YtmbbcghhdjpgeaaTernD
import Derived.Test.YtmbbcghhdjpgeaaOwn

namespace Go.Proofs.Ytmbbcghhdjpgeaa
open Go.RowKit

/-- What is behind the first k of a list. -/
theorem rowB_drop {w : World} {a : Option Addr} {bs : List Bool} {b off k : Nat} (h : RowB w a bs) (ha : a = some ⟨b, off, none⟩) : RowB w (some ⟨b, off + k, none⟩) (bs.drop k) := by
  rcases h with ⟨rfl, -⟩ | ⟨x, hx, hc⟩
  · cases ha
  · rw [hx] at ha
    cases ha
    refine .inr ⟨_, rfl, fun j u hu => ?_⟩
    rw [add_plain]
    rw [List.map_drop, List.getElem?_drop] at hu
    have := hc (k + j) u hu
    rw [add_plain] at this
    rw [show off + k + j = off + (k + j) by omega]
    exact this

/-- What of values of three comes out is so. -/
theorem tern_true (C : Circ) (st is ay : List Bool) (hc : C.checkI = 0) (h1 : st.length = C.lats.length) (h2 : is.length = C.ins.length) :
    C.ternI (thrK st ay st.length) (thrK is (ay.drop st.length) is.length) = 0 ∧ C.stepI st is = 0 ∧
    LesL ((C.stepE st is).next.map enc3) (C.stepE3 (thrK st ay st.length) (thrK is (ay.drop st.length) is.length)).next ∧
    LesL ((C.stepE st is).bads.map enc3) (C.stepE3 (thrK st ay st.length) (thrK is (ay.drop st.length) is.length)).bads ∧
    Les (enc3 (C.stepE st is).holds) (C.stepE3 (thrK st ay st.length) (thrK is (ay.drop st.length) is.length)).holds := by
  have e1 : C.ternI (thrK st ay st.length) (thrK is (ay.drop st.length) is.length) = 0 := ternI_good hc (by rw [thrK_len]; exact h1) (by rw [thrK_len]; exact h2) (thrK_all _ _ _) (thrK_all _ _ _)
  have e2 : C.stepI st is = 0 := by
    unfold Circ.stepI
    rw [if_neg (fun k => k hc), if_pos ⟨h1, h2⟩]
  have e3 : C.stepE3 (thrK st ay st.length) (thrK is (ay.drop st.length) is.length) = C.row3 (C.vals3 (thrK st ay st.length) (thrK is (ay.drop st.length) is.length)) := if_pos e1
  have e4 : C.stepE st is = C.rowV (C.vals st is) := if_pos e2
  have h := les_row C (les_vals C (thrK_les st ay) (thrK_les is (ay.drop st.length)))
  rw [enc_vals, enc_row] at h
  rw [e3, e4]
  exact ⟨e1, e2, h⟩

set_option maxRecDepth 100000 in
set_option maxHeartbeats 8000000 in
theorem ternaryTrue_any (c : CV) (sa : Option Addr) (sn sc : Nat) (st : List Bool) (ia : Option Addr) (inn ic : Nat) (is : List Bool) (ya : Option Addr) (yn yc : Nat) (ay : List Bool) (C : Circ) (w : World) (h : Came w c C) (hs : CameB w sa sn sc st) (hi : CameB w ia inn ic is) (hy : CameB w ya yn yc ay) :
    Calls Try.prog 10 #[c.v, .slice sa sn sc, .slice ia inn ic, .slice ya yn yc] w fun e w' => e = .returned (.bool true) ∧ Below w.heap.size w w' := by
  have HB := hide (box_new w c)
  have HC := hide h
  have HS := hide hs
  have HI := hide hi
  have HY := hide hy
  have HCV : Hid (c.v = .agg #[.int .i64 c.m, .slice c.a1 c.n1 c.c1, .slice c.a2 c.n2 c.c2, .slice c.a3 c.n3 c.c3, .slice c.a4 c.n4 c.c4, .slice c.a5 c.n5 c.c5, .slice c.a6 c.n6 c.c6, .slice c.a7 c.n7 c.c7]) := rfl
  have HBg := hide (fun W hb => big_any c C W ⟨h.holds.below hb, h.n1, h.n2, h.n3, h.n4, h.n5, h.n6, h.n7, h.m, h.names⟩)
  have HCk := hide (fun W (hb : Below w.heap.size w W) => refCheck_came h W hb)
  rw [HCV.out] at HBg HCk ⊢
  have hsc : sn ≤ 9223372036854775807 := Nat.le_trans hs.c1 hs.c2
  have hic : inn ≤ 9223372036854775807 := Nat.le_trans hi.c1 hi.c2
  have hyc : yn ≤ 9223372036854775807 := Nat.le_trans hy.c1 hy.c2
  clear h hs hi hy
  go_enter Try.func10, Try.ntmps10
  go_wp2_with fail
  refine (alive9_any _).mono ?_
  rintro e w1 ⟨rfl, hb1⟩
  have B1 := hide (HB.out.below hb1)
  have W1 := hide (belowThen (below_alloc w _) hb1)
  clear HB hb1
  obtain ⟨q0, q1, q2, q3, q4, q5, q6, q7⟩ := B1.out.cells
  go_wp2_with fail
  refine (HBg.out _ W1.out).mono ?_
  rintro e w2 ⟨rfl, hb2⟩
  have B2 := hide (B1.out.below hb2)
  have W2 := hide (belowThen W1.out hb2)
  clear B1 W1 hb2 HBg q0 q1 q2 q3 q4 q5 q6 q7
  cases hbig : C.bigB with
  | true =>
    have hend := hide W2.out
    go_wp2
    go_ret
    exact ⟨rfl, hend.out⟩
  | false =>
    have HF := hide (fits_of HC.out hbig)
    clear hbig
    obtain ⟨q0, q1, q2, q3, q4, q5, q6, q7⟩ := B2.out.cells
    go_wp2_with fail
    refine (HCk.out _ W2.out).mono ?_
    rintro e w3 ⟨rfl, hb3⟩
    have B3 := hide (B2.out.below hb3)
    have W3 := hide (belowThen W2.out hb3)
    clear B2 W2 hb3 HCk q0 q1 q2 q3 q4 q5 q6 q7
    obtain ⟨q0, q1, q2, q3, q4, q5, q6, q7⟩ := B3.out.cells
    have hend3 := hide W3.out
    by_cases hc : C.checkI = 0
    case neg =>
      generalize C.checkI = ck at hc ⊢
      have hck : (ck != 0) = true := by simpa using hc
      go_wp2
      go_ret
      exact ⟨rfl, hend3.out⟩
    case pos =>
    rw [hc]
    by_cases hsn : sn = c.n2
    case neg =>
      have hsb : ((sn : Int) != (c.n2 : Int)) = true := by simpa using fun h : (sn : Int) = (c.n2 : Int) => hsn (by omega)
      clear hc
      go_wp2
      go_ret
      exact ⟨rfl, hend3.out⟩
    case pos =>
    by_cases hin : inn = c.n1
    case neg =>
      have hsb : ((sn : Int) != (c.n2 : Int)) = false := by rw [hsn]; simp
      have hib : ((inn : Int) != (c.n1 : Int)) = true := by simpa using fun h : (inn : Int) = (c.n1 : Int) => hin (by omega)
      clear hc hsn
      go_wp2
      go_ret
      exact ⟨rfl, hend3.out⟩
    case pos =>
    have hsb : ((sn : Int) != (c.n2 : Int)) = false := by rw [hsn]; simp
    have hib : ((inn : Int) != (c.n1 : Int)) = false := by rw [hin]; simp
    have hsmall := (right_of hc).small
    have hn2 : c.n2 ≤ 64 := by rw [← HC.out.holds.l2]; exact hsmall.lats
    have hn1 : c.n1 ≤ 64 := by rw [← HC.out.holds.l1]; exact hsmall.ins
    have hs64 : sn ≤ 64 := by omega
    have hi64 : inn ≤ 64 := by omega
    have HT := hide (tern_true C st is ay hc (by rw [HS.out.l, hsn]; exact HC.out.holds.l2.symm) (by rw [HI.out.l, hin]; exact HC.out.holds.l1.symm))
    rw [HS.out.l, HI.out.l] at HT
    have hHs := hide hsmall
    clear hsn hin hc hsmall hn1 hn2
    obtain ⟨s, hse⟩ : ∃ s, s = sn + inn := ⟨_, rfl⟩
    have hsum : (sn : Int) + (inn : Int) = (s : Int) := by omega
    have hs1 : s ≤ 128 := by omega
    by_cases hyn : yn < s
    · have hlt : (yn : Int) < (s : Int) := by omega
      clear hse
      go_wp2
      go_ret
      exact ⟨rfl, hend3.out⟩
    · have hlt : ¬ (yn : Int) < (s : Int) := by omega
      have hyl := hide HY.out.l
      have hsy : sn ≤ yn := by omega
      have hsy2 : inn ≤ yn - sn := by omega
      clear hse hyn
      have HT1 := hide (fun W (hb : Below w.heap.size w W) => threes9_any sa ya sn sc yn yc st ay W (HS.out.row.below hb) HS.out.l (by omega) (HY.out.row.below hb) hyl.out hsy hyc)
      go_wp2_with fail
      refine (HT1.out _ W3.out).mono ?_
      rintro e w4 ⟨v4, rfl, hown4, hb4⟩
      obtain ⟨a4, k4, rfl, hr4, hl4⟩ := rowT_own hown4
      have B4 := hide (B3.out.below hb4)
      have W4 := hide (belowThen W3.out hb4)
      have R4 := hide hr4
      have L4 := hide hl4
      clear B3 W3 hb4 HT1 hown4 hr4 hl4 hend3 q0 q1 q2 q3 q4 q5 q6 q7
      obtain ⟨q0, q1, q2, q3, q4, q5, q6, q7⟩ := B4.out.cells
      have HT2 := hide (fun za zc W (hb : Below w.heap.size w W) (hz : RowB W za (ay.drop sn)) => threes9_any ia za inn ic (yn - sn) zc is (ay.drop sn) W (HI.out.row.below hb) HI.out.l (by omega) hz (by rw [List.length_drop, hyl.out]) (by omega) (by omega))
      have hsyi : (sn : Int) ≤ (yn : Int) := by omega
      have hsy0 : (0 : Int) ≤ (sn : Int) := by omega
      go_upto_region 6 with fail
      go_cut [12] from 62 to 67 (fun v wx => ∃ a k, v = .slice a inn k ∧ Hid (Below w4.heap.size w4 wx ∧ RowT wx a (thrK is (ay.drop sn) inn)))
      case first =>
        by_cases hyp : 0 < yn
        · obtain ⟨b, off, rfl, hbw, hcell⟩ := HY.out.row.addr (by rw [hyl.out]; exact hyp)
          by_cases hcz : yc = sn
          · subst hcz
            have HZ : Hid (∀ W, Below w.heap.size w W → RowB W (some ⟨b, off, none⟩) (ay.drop yc)) := fun W hb => by
              have e : ay.drop yc = [] := List.drop_eq_nil_of_le (by rw [hyl.out]; exact HY.out.c1)
              rw [e]; exact .inr ⟨_, rfl, fun j u hu => by simp at hu⟩
            clear hcell
            go_wp2_with fail
            refine (HT2.out _ _ _ W4.out (HZ.out _ W4.out)).mono ?_
            rintro e w5 ⟨v5, rfl, hown5, hb5⟩
            obtain ⟨a5, k5, rfl, hr5, -⟩ := rowT_own hown5
            go_wp2_with fail
            go_meet
            exact ⟨_, _, rfl, hb5, hr5⟩
          · have HZ : Hid (∀ W, Below w.heap.size w W → RowB W (some ⟨b, off + sn, none⟩) (ay.drop sn)) := fun W hb => rowB_drop (HY.out.row.below hb) rfl
            have hcz2 : ¬ yc - sn = 0 := by have := HY.out.c1; omega
            clear hcell
            go_wp2_with fail
            refine (HT2.out _ _ _ W4.out (HZ.out _ W4.out)).mono ?_
            rintro e w5 ⟨v5, rfl, hown5, hb5⟩
            obtain ⟨a5, k5, rfl, hr5, -⟩ := rowT_own hown5
            go_wp2_with fail
            go_meet
            exact ⟨_, _, rfl, hb5, hr5⟩
        · obtain rfl : yn = 0 := by omega
          obtain rfl : sn = 0 := by omega
          obtain rfl : inn = 0 := by omega
          have HZ : Hid (∀ za W, RowB W za (ay.drop 0)) := fun za W => by
            have e : ay = [] := List.length_eq_zero_iff.1 hyl.out
            rw [e]
            cases za with
            | none => exact .inl ⟨rfl, rfl⟩
            | some x => exact .inr ⟨_, rfl, fun j u hu => by simp at hu⟩
          cases ya with
          | none =>
            go_wp2_with fail
            refine (HT2.out _ _ _ W4.out (HZ.out _ _)).mono ?_
            rintro e w5 ⟨v5, rfl, hown5, hb5⟩
            obtain ⟨a5, k5, rfl, hr5, -⟩ := rowT_own hown5
            go_wp2_with fail
            go_meet
            exact ⟨_, _, rfl, hb5, hr5⟩
          | some x =>
            by_cases hcz : yc = 0
            · subst hcz
              go_wp2_with fail
              refine (HT2.out _ _ _ W4.out (HZ.out _ _)).mono ?_
              rintro e w5 ⟨v5, rfl, hown5, hb5⟩
              obtain ⟨a5, k5, rfl, hr5, -⟩ := rowT_own hown5
              go_wp2_with fail
              go_meet
              exact ⟨_, _, rfl, hb5, hr5⟩
            · go_wp2_with fail
              refine (HT2.out _ _ _ W4.out (HZ.out _ _)).mono ?_
              rintro e w5 ⟨v5, rfl, hown5, hb5⟩
              obtain ⟨a5, k5, rfl, hr5, -⟩ := rowT_own hown5
              go_wp2_with fail
              go_meet
              exact ⟨_, _, rfl, hb5, hr5⟩
      case rest =>
        rename World => w5
        obtain ⟨a5, k5, rfl, HX⟩ := hcut
        have B5 := hide (B4.out.below HX.out.1)
        have W5 := hide (belowThen W4.out HX.out.1)
        replace R4 := hide (R4.out.below HX.out.1)
        have R5 := hide HX.out.2
        clear HX B4 HT2 W4 hsy2 hsyi hsy0 hyl hyc q0 q1 q2 q3 q4 q5 q6 q7
        obtain ⟨q0, q1, q2, q3, q4, q5, q6, q7⟩ := B5.out.cells
        have HSt := hide (fun W (hb : Below w5.heap.size w5 W) => tStep_any c C W a4 a5 sn k4 inn k5 (thrK st ay sn) (thrK is (ay.drop sn) inn) (HC.out.holds.below (belowThen W5.out hb)) HF.out (R4.out.below hb) (thrK_len _ _ _) (R5.out.below hb) (thrK_len _ _ _) (by omega) (by omega))
        have HRt := hide (fun W (hb : Below w5.heap.size w5 W) => rStep_any c C W sa ia sn sc inn ic st is (HC.out.holds.below (belowThen W5.out hb)) (fun W' hb' => refCheck_came HC.out W' (belowThen (belowThen W5.out hb) hb')) (HS.out.row.below (belowThen W5.out hb)) HS.out.l (HI.out.row.below (belowThen W5.out hb)) HI.out.l)
        have HLn := hide (stepE3_len C (thrK st ay sn) (thrK is (ay.drop sn) inn))
        unfold TStepPost at HSt
        unfold StepPost at HRt
        obtain ⟨t1, t2, t3, t4, t5⟩ := HT.out
        rw [t1] at HSt
        rw [t2] at HRt
        generalize C.stepE3 (thrK st ay sn) (thrK is (ay.drop sn) inn) = R3 at HSt HLn t3 t4 t5
        generalize C.stepE st is = R at HRt t3 t4 t5
        obtain ⟨rn, rb, rh⟩ := R3
        dsimp only at HSt HLn t3 t4 t5
        have T3 := hide t3
        have T4 := hide t4
        have T5 := hide t5
        rw [HCV.out] at HSt HRt
        clear HT t1 t2 t3 t4 t5 HC HS HI HY HF HCV hHs R4 R5 L4
        go_wp2_with fail
        refine (HSt.out _ (Below.refl _ _)).mono ?_
        rintro e w6 ⟨a6, n6, k6, a7, n7, k7, rfl, hr6, hl6, hr7, hl7, hb6⟩
        have B6 := hide (B5.out.below hb6)
        have W6 := hide hb6
        have R6 := hide hr6
        have R7 := hide hr7
        have L6 := hide hl6
        have L7 := hide hl7
        clear B5 HSt hb6 hr6 hr7 hl6 hl7 q0 q1 q2 q3 q4 q5 q6 q7
        obtain ⟨q0, q1, q2, q3, q4, q5, q6, q7⟩ := B6.out.cells
        go_wp2_with fail
        refine (HRt.out _ W6.out).mono ?_
        rintro e w7 ⟨s, rfl, hr8, hb7⟩
        have es : s.v = .agg #[.slice s.a1 s.n1 s.c1, .slice s.a2 s.n2 s.c2, .slice s.a3 s.n3 s.c3, .bool s.h] := rfl
        rw [es]
        have ha7 := below_alloc w7 (.cells #[.slice s.a1 s.n1 s.c1, .slice s.a2 s.n2 s.c2, .slice s.a3 s.n3 s.c3, .bool s.h] 37)
        obtain ⟨W8, hW8⟩ : ∃ W8, W8 = w7.alloc (.cells #[.slice s.a1 s.n1 s.c1, .slice s.a2 s.n2 s.c2, .slice s.a3 s.n3 s.c3, .bool s.h] 37) := ⟨_, rfl⟩
        have hb7' := belowThen hb7 ha7
        have X8 : Hid (RBox W8 w7.heap.size s) := by rw [hW8]; exact rbox_new w7 s
        rw [← hW8] at hb7' ha7
        have W7 := hide (belowThen W5.out (belowThen W6.out hb7'))
        replace R6 := hide (R6.out.below hb7')
        replace R7 := hide (R7.out.below hb7')
        have R8 := hide (hr8.below ha7)
        clear B6 W6 hb7 hb7' ha7 hr8 HRt es q0 q1 q2 q3 q4 q5 q6 q7
        have HX1 := hide (fun W (hb : Below W8.heap.size W8 W) => fits9_any a6 s.a1 n6 k6 s.n1 s.c1 rn R.next W (R6.out.below hb) L6.out (R8.out.r1.below hb) R8.out.l1 T3.out (by have := HLn.out.1; have := L6.out; omega))
        have HX2 := hide (fun W (hb : Below W8.heap.size W8 W) => fits9_any a7 s.a3 n7 k7 s.n3 s.c3 rb R.bads W (R7.out.below hb) L7.out (R8.out.r3.below hb) R8.out.l3 T4.out (by have := HLn.out.2; have := L7.out; omega))
        have HX3 := hide (fun la ba W (h1 : RowT W la [rh]) (h2 : RowB W ba [s.h]) => fits9_any la ba 1 1 1 1 [rh] [s.h] W h1 rfl h2 rfl ⟨rfl, fun i hi => by
          obtain rfl : i = 0 := by simpa using hi
          have := T5.out
          rw [R8.out.h] at this
          exact this⟩ (by decide))
        have HXc := hide (fun W (hb : Below W8.heap.size W8 W) => (X8.out.below hb).cells)
        have HXl := hide (fun W (hb : Below W8.heap.size W8 W) => (X8.out.below hb).lt)
        have HB0 := hide (Below.refl W8.heap.size W8)
        clear R6 R7 R8 L6 L7 T3 T4 T5 HLn X8
        go_upto_region 9 with fail
        rw [← hW8]
        clear hW8
        obtain ⟨p0, p1, p2, p3⟩ := HXc.out W8 HB0.out
        go_wp2_with (first | (go_at_call 35; refine (num9_any _ _).mono ?_; rintro e w' ⟨rfl, hw'⟩; obtain rfl := hw'.symm) | fail)
        refine (HX1.out _ HB0.out).mono ?_
        rintro e w9 ⟨rfl, hb9⟩
        have B9 := hide hb9
        clear hb9 HX1 p0 p1 p2 p3
        obtain ⟨p0, p1, p2, p3⟩ := HXc.out w9 B9.out
        go_wp2_with fail
        refine (HX2.out _ B9.out).mono ?_
        rintro e w10 ⟨rfl, hb10⟩
        have B10 := hide (belowThen B9.out hb10)
        clear hb10 HX2 B9 p0 p1 p2 p3
        obtain ⟨p0, p1, p2, p3⟩ := HXc.out w10 B10.out
        have hlx := HXl.out w10 B10.out
        have hlx2 : w7.heap.size ≠ w10.heap.size := by omega
        have hR1 : RowT ((w10.alloc (.cells #[.int .i64 rh] 3)).alloc (.cells #[.bool s.h] 4)) (some ⟨w10.heap.size, 0, none⟩) [rh] := RowC.below (.inr ⟨_, rfl, cell_one_at rfl _ _⟩) (below_alloc _ _)
        have hR2 : RowB ((w10.alloc (.cells #[.int .i64 rh] 3)).alloc (.cells #[.bool s.h] 4)) (some ⟨w10.heap.size + 1, 0, none⟩) [s.h] := .inr ⟨_, rfl, cell_one_at (by simp) _ _⟩
        have hBl : Below w.heap.size w ((w10.alloc (.cells #[.int .i64 rh] 3)).alloc (.cells #[.bool s.h] 4)) := belowThen W7.out (belowThen B10.out (belowThen (below_alloc _ _) (below_alloc _ _)))
        have HR1 := hide hR1
        have HR2 := hide hR2
        have HBl := hide hBl
        clear hR1 hR2 hBl
        go_wp2_with fail
        refine (HX3.out _ _ _ HR1.out HR2.out).mono ?_
        rintro e w11 ⟨rfl, hb11⟩
        have hend := hide (belowThen HBl.out hb11)
        clear hb11
        go_wp2
        go_ret
        exact ⟨rfl, hend.out⟩
end Go.Proofs.Ytmbbcghhdjpgeaa

namespace Go.Proofs.Ytmbbcghhdjpgeaa
open Go.ChangeShapes Go.WideShapes Go.ChangeAt Go.RowKit
open Go.ChangeMaps (open_string shut_string)
namespace ProofTernaryTrue

set_option maxRecDepth 100000 in
theorem lifted (os : Os) (started : os.Started) (H : Type) (enc : TypeId × Value → H) :
    ReturnsInHanded {} Try.checked os 10 .any (Rows.ternaryTrueSpec.pre6 enc Try.prog Try.f10 Rows.ternaryTrueRow.domain false) (Rows.ternaryTrueSpec.post enc Try.prog Try.f10 false true false false) := by
  refine returnsInHanded_of_change (C := Try.checked) own started (by kernel_rfl) Try.func10
    (ChangeSpec.witness6 (enc := enc) (C := Try.checked) false ⟨#[], #[.agg #[.int .i64 0, .slice none 0 0, .slice none 0 0, .slice none 0 0, .slice none 0 0, .slice none 0 0, .slice none 0 0, .slice none 0 0], .slice none 0 0, .slice none 0 0, .slice none 0 0], []⟩ 8 (by kernel_rfl) (by kernel_rfl) (by kernel_rfl) (by kernel_rfl)) ?_
  intro W base args ds gs before hval0 hW _ _
  have hval : ∀ (j : Nat) t v, Try.f10.params[j]? = some t → args[j]? = some v → Value.okWide Try.prog W .any base t v := hval0
  have hW' := hW
  obtain ⟨p, q, hA0, hV, rfl, hfz, hnd⟩ := hW
  have hA : DataW.TrodAll enc Try.prog W 0 (fun _ => true) true Try.f10.params.toList args.toList ds p := hA0
  rw [Try.params10] at hA hval
  obtain ⟨v0, vs0, d0, ds0, p0, q0, hargs, rfl, rfl, h0, r0⟩ := trodAll_cons hA
  obtain ⟨v1, vs1, d1, ds1, p1, q1, rfl, rfl, rfl, h1, r1⟩ := trodAll_cons r0
  obtain ⟨v2, vs2, d2, ds2, p2, q2, rfl, rfl, rfl, h2, r2⟩ := trodAll_cons r1
  obtain ⟨v3, vs3, d3, ds3, p3, q3, rfl, rfl, rfl, h3, r3⟩ := trodAll_cons r2
  obtain ⟨rfl, rfl, rfl⟩ := trodAll_nil r3
  obtain rfl : args = #[v0, v1, v2, v3] := by cases args; simp_all
  obtain ⟨rfl, rfl⟩ := trodVars_none hV
  have k0 := h0
  have lt0 : ∀ x ∈ p0, x.block < W.heap.size := by obtain ⟨m, hm⟩ := k0; exact DataW.trod_lt m _ _ _ hm
  obtain ⟨c0, C0, rfl, w0⟩ := open_circuit (hval 0 27 v0 rfl rfl) h0
  obtain ⟨a1, len1, cap1, rfl⟩ := okWide_slice Try.underlying28 (hval 1 28 v1 rfl rfl)
  have k1 := h1
  have lt1 : ∀ x ∈ p1, x.block < W.heap.size := by obtain ⟨m, hm⟩ := k1; exact DataW.trod_lt m _ _ _ hm
  obtain ⟨z1, w1⟩ := open_boolsC h1
  obtain ⟨a2, len2, cap2, rfl⟩ := okWide_slice Try.underlying28 (hval 2 28 v2 rfl rfl)
  have k2 := h2
  have lt2 : ∀ x ∈ p2, x.block < W.heap.size := by obtain ⟨m, hm⟩ := k2; exact DataW.trod_lt m _ _ _ hm
  obtain ⟨z2, w2⟩ := open_boolsC h2
  obtain ⟨a3, len3, cap3, rfl⟩ := okWide_slice Try.underlying28 (hval 3 28 v3 rfl rfl)
  have k3 := h3
  have lt3 : ∀ x ∈ p3, x.block < W.heap.size := by obtain ⟨m, hm⟩ := k3; exact DataW.trod_lt m _ _ _ hm
  obtain ⟨z3, w3⟩ := open_boolsC h3
  clear hA0 hval0
  refine (ternaryTrue_any c0 a1 len1 cap1 z1 a2 len2 cap2 z2 a3 len3 cap3 z3 C0 W w0 w1 w2 w3 ).mono fun e W' ⟨he, bel⟩ => ?_
  subst he
  exact ⟨_, rfl, _, _, _, [], _, [], hW', trodAll_mk1 (shut_bool Try.underlying4 _), (trodAll_cons_mk (Below.trod laidOut (by kernel_rfl) (of_decide_eq_true (by kernel_rfl)) k0 bel lt0) (trodAll_cons_mk (Below.trod laidOut (by kernel_rfl) (of_decide_eq_true (by kernel_rfl)) k1 bel lt1) (trodAll_cons_mk (Below.trod laidOut (by kernel_rfl) (of_decide_eq_true (by kernel_rfl)) k2 bel lt2) (trodAll_cons_mk (Below.trod laidOut (by kernel_rfl) (of_decide_eq_true (by kernel_rfl)) k3 bel lt3) trodAll_mk0)))), rfl, bel.frame _, fun h => by cases h⟩

theorem row_holds : Rows.TernaryTrueSaid :=
  OpenClaim.holds_of_wide 10 Try.f10 rfl rfl rfl rfl rfl rfl rfl ⟨rfl, rfl, rfl, rfl, rfl⟩ rfl rfl rfl rfl rfl (by kernel_rfl) Try.func10 (by kernel_rfl)
    (of_decide_eq_true (by kernel_rfl)) (by unfold Func.isWrapper; first | (rw [if_pos (by decide +kernel)]; kernel_rfl) | (rw [if_neg (by decide +kernel)]; exact ⟨rfl, rfl⟩))
    (fun os started H enc _ => lifted os started H enc)
end ProofTernaryTrue

theorem ternaryTrue_holds : Rows.TernaryTrueSaid := ProofTernaryTrue.row_holds
#print axioms ternaryTrue_holds
end Go.Proofs.Ytmbbcghhdjpgeaa
