/-
  PROVED: the law TernaryAll answers true at every circuit, state and inputs: where all is known ternary.Step tells what the document's step tells. No conditions.
  THE WALK of the law TernaryAll.
-/
import Derived.Test.YtmbbcghhdjpgeaaTernD
import Derived.Test.YtmbbcghhdjpgeaaOwn

namespace Go.Proofs.Ytmbbcghhdjpgeaa
open Go.RowKit

theorem atP_false (n i : Nat) : atP (List.replicate n false) i = false := by
  by_cases h : i < n
  · rw [atP_eq _ _ (by rw [List.length_replicate]; exact h), List.getElem_replicate]
  · exact atP_out (by rw [List.length_replicate]; omega)

/-- Where all is known it is what a step tells. -/
theorem tern_all (C : Circ) (st is : List Bool) (hc : C.checkI = 0) (h1 : st.length = C.lats.length) (h2 : is.length = C.ins.length) :
    C.ternI (st.map enc3) (is.map enc3) = 0 ∧ C.stepI st is = 0 ∧ C.stepE3 (st.map enc3) (is.map enc3) = ⟨(C.stepE st is).next.map enc3, (C.stepE st is).bads.map enc3, enc3 (C.stepE st is).holds⟩ := by
  have e1 : C.ternI (st.map enc3) (is.map enc3) = 0 := ternI_good hc (by rw [List.length_map]; exact h1) (by rw [List.length_map]; exact h2) (all3_enc _) (all3_enc _)
  have e2 : C.stepI st is = 0 := by
    unfold Circ.stepI
    rw [if_neg (fun k => k hc), if_pos ⟨h1, h2⟩]
  have e3 : C.stepE3 (st.map enc3) (is.map enc3) = C.row3 (C.vals3 (st.map enc3) (is.map enc3)) := if_pos e1
  have e4 : C.stepE st is = C.rowV (C.vals st is) := if_pos e2
  rw [e3, e4, enc_vals, enc_row]
  exact ⟨e1, e2, rfl⟩

/-- threes of what all is known of. -/
theorem threes0_any (la aa : Option Addr) (m lc an ac k : Nat) (ls : List Bool) (w : World) (hr : RowB w la ls) (hx : ls.length = m) (hm : m ≤ 1000000) (ha : RowB w aa (List.replicate k false)) (hy : k = an) (hmn : m ≤ an) (han : an ≤ 9223372036854775807) :
    Calls Try.prog 38 #[.slice la m lc, .slice aa an ac] w fun e w' => ∃ a c, e = .returned (.slice a m c) ∧ RowT w' a (ls.map enc3) ∧ Below w.heap.size w w' := by
  refine (threes9_any la aa m lc an ac ls (List.replicate k false) w hr hx hm ha (by rw [List.length_replicate]; exact hy) hmn han).mono ?_
  rintro e w' ⟨v, rfl, hown, hb⟩
  rw [← hx, thrK_none _ _ (atP_false k), hx] at hown
  obtain ⟨a, c, rfl, hr, -⟩ := rowT_own hown
  exact ⟨a, c, rfl, hr, hb⟩

theorem made_rowB0 (w1 : World) (n : Nat) : RowB (w1.alloc (.cells (madeCells #[.bool false] n) 4)) (some ⟨w1.heap.size, 0, none⟩) (List.replicate n false) := by
  refine .inr ⟨_, rfl, fun j u hu => ?_⟩
  have hA : (w1.alloc (.cells (madeCells #[.bool false] n) 4)).heap[w1.heap.size]? = some (.cells (madeCells #[.bool false] n) 4 (0, 0)) := heap_alloc_new w1 _
  rw [add_plain, Nat.zero_add]
  rw [cell_of_row _ _ j _ _ (0, 0) hA, ← Array.getElem?_toList, toList_madeCells_one]
  rw [List.map_replicate] at hu
  exact hu
theorem made_rowB (w1 : World) (n q : Nat) : RowB ((w1.alloc (.cells (madeCells #[.bool false] n) 4)).drewN q) (some ⟨w1.heap.size, 0, none⟩) (List.replicate n false) := (made_rowB0 w1 n).below (Drew.below ⟨q, rfl⟩)

set_option maxRecDepth 100000 in
set_option maxHeartbeats 8000000 in
theorem ternaryAll_any (c : CV) (sa : Option Addr) (sn sc : Nat) (st : List Bool) (ia : Option Addr) (inn ic : Nat) (is : List Bool) (C : Circ) (w : World) (h : Came w c C) (hs : CameB w sa sn sc st) (hi : CameB w ia inn ic is) :
    Calls Try.prog 11 #[c.v, .slice sa sn sc, .slice ia inn ic] w fun e w' => e = .returned (.bool true) ∧ Below w.heap.size w w' := by
  have HB := hide (box_new w c)
  have HC := hide h
  have HS := hide hs
  have HI := hide hi
  have HCV : Hid (c.v = .agg #[.int .i64 c.m, .slice c.a1 c.n1 c.c1, .slice c.a2 c.n2 c.c2, .slice c.a3 c.n3 c.c3, .slice c.a4 c.n4 c.c4, .slice c.a5 c.n5 c.c5, .slice c.a6 c.n6 c.c6, .slice c.a7 c.n7 c.c7]) := rfl
  have HBg := hide (fun W hb => big_any c C W ⟨h.holds.below hb, h.n1, h.n2, h.n3, h.n4, h.n5, h.n6, h.n7, h.m, h.names⟩)
  have HCk := hide (fun W (hb : Below w.heap.size w W) => refCheck_came h W hb)
  rw [HCV.out] at HBg HCk ⊢
  have hsc : sn ≤ 9223372036854775807 := Nat.le_trans hs.c1 hs.c2
  have hic : inn ≤ 9223372036854775807 := Nat.le_trans hi.c1 hi.c2
  clear h hs hi
  go_enter Try.func11, Try.ntmps11
  go_wp2_with fail
  refine (alive9_any _).mono ?_
  rintro e w1 ⟨rfl, hb1⟩
  have B1 := hide (HB.out.below hb1)
  have W1 := hide (belowThen (below_alloc w _) hb1)
  clear HB hb1
  obtain ⟨q0, q1, q2, q3, q4, q5, q6, q7⟩ := B1.out.cells
  go_wp2_with fail
  refine (HBg.out _ W1.out).mono ?_
  rintro e w2 ⟨rfl, hb2⟩
  have B2 := hide (B1.out.below hb2)
  have W2 := hide (belowThen W1.out hb2)
  clear B1 W1 hb2 HBg q0 q1 q2 q3 q4 q5 q6 q7
  cases hbig : C.bigB with
  | true =>
    have hend := hide W2.out
    go_wp2
    go_ret
    exact ⟨rfl, hend.out⟩
  | false =>
    have HF := hide (fits_of HC.out hbig)
    clear hbig
    obtain ⟨q0, q1, q2, q3, q4, q5, q6, q7⟩ := B2.out.cells
    go_wp2_with fail
    refine (HCk.out _ W2.out).mono ?_
    rintro e w3 ⟨rfl, hb3⟩
    have B3 := hide (B2.out.below hb3)
    have W3 := hide (belowThen W2.out hb3)
    clear B2 W2 hb3 HCk q0 q1 q2 q3 q4 q5 q6 q7
    obtain ⟨q0, q1, q2, q3, q4, q5, q6, q7⟩ := B3.out.cells
    have hend3 := hide W3.out
    by_cases hc : C.checkI = 0
    case neg =>
      generalize C.checkI = ck at hc ⊢
      have hck : (ck != 0) = true := by simpa using hc
      go_wp2
      go_ret
      exact ⟨rfl, hend3.out⟩
    case pos =>
    rw [hc]
    by_cases hsn : sn = c.n2
    case neg =>
      have hsb : ((sn : Int) != (c.n2 : Int)) = true := by simpa using fun h : (sn : Int) = (c.n2 : Int) => hsn (by omega)
      clear hc
      go_wp2
      go_ret
      exact ⟨rfl, hend3.out⟩
    case pos =>
    by_cases hin : inn = c.n1
    case neg =>
      have hsb : ((sn : Int) != (c.n2 : Int)) = false := by rw [hsn]; simp
      have hib : ((inn : Int) != (c.n1 : Int)) = true := by simpa using fun h : (inn : Int) = (c.n1 : Int) => hin (by omega)
      clear hc hsn
      go_wp2
      go_ret
      exact ⟨rfl, hend3.out⟩
    case pos =>
    have hsb : ((sn : Int) != (c.n2 : Int)) = false := by rw [hsn]; simp
    have hib : ((inn : Int) != (c.n1 : Int)) = false := by rw [hin]; simp
    have hsmall := (right_of hc).small
    have hn2 : c.n2 ≤ 64 := by rw [← HC.out.holds.l2]; exact hsmall.lats
    have hn1 : c.n1 ≤ 64 := by rw [← HC.out.holds.l1]; exact hsmall.ins
    have hs64 : sn ≤ 64 := by omega
    have hi64 : inn ≤ 64 := by omega
    have HT := hide (tern_all C st is hc (by rw [HS.out.l, hsn]; exact HC.out.holds.l2.symm) (by rw [HI.out.l, hin]; exact HC.out.holds.l1.symm))
    have HLn := hide (valsE3_len C [] [])
    have hlr : (C.stepE st is).next.length ≤ 1000000 ∧ (C.stepE st is).bads.length ≤ 1000000 := by
      have := stepE3_len C (st.map enc3) (is.map enc3)
      rw [HT.out.2.2] at this
      dsimp only at this
      rw [List.length_map, List.length_map] at this
      omega
    have HLr := hide hlr
    clear hsn hin hc hsmall hn1 hn2 hlr HLn
    obtain ⟨s0, hse⟩ : ∃ s0, s0 = sn + inn := ⟨_, rfl⟩
    have hsum : (sn : Int) + (inn : Int) = (s0 : Int) := by omega
    have hs1 : s0 ≤ 128 := by omega
    have hs2 : sn ≤ s0 := by omega
    have hs3 : inn ≤ s0 := by omega
    clear hse hend3
    obtain ⟨i0, hi0, hz0, hz1, hz2⟩ := info_parts infoBool
    have HST := hide (fun W a b (hb : Below w.heap.size w W) (h1 : RowT W a (st.map enc3)) (h2 : RowT W b (is.map enc3)) k l => tStep_any c C W a b sn k inn l (st.map enc3) (is.map enc3) (HC.out.holds.below hb) HF.out h1 (by rw [List.length_map]; exact HS.out.l) h2 (by rw [List.length_map]; exact HI.out.l) (by omega) (by omega))
    have HRS := hide (fun W (hb : Below w.heap.size w W) => rStep_any c C W sa ia sn sc inn ic st is (HC.out.holds.below hb) (fun W' hb' => refCheck_came HC.out W' (belowThen hb hb')) (HS.out.row.below hb) HS.out.l (HI.out.row.below hb) HI.out.l)
    have HT1 := hide (fun W aa (hb : Below w.heap.size w W) (ha : RowB W aa (List.replicate s0 false)) ac => threes0_any sa aa sn sc s0 ac s0 st W (HS.out.row.below hb) HS.out.l (by omega) ha rfl hs2 (by omega))
    have HT2 := hide (fun W aa (hb : Below w.heap.size w W) (ha : RowB W aa (List.replicate s0 false)) ac => threes0_any ia aa inn ic s0 ac s0 is W (HI.out.row.below hb) HI.out.l (by omega) ha rfl hs3 (by omega))
    obtain ⟨t1, t2, t3⟩ := HT.out
    unfold TStepPost at HST
    unfold StepPost at HRS
    rw [t1, t3] at HST
    rw [t2] at HRS
    dsimp only at HST
    generalize C.stepE st is = R at HST HRS HLr
    rw [HCV.out] at HST HRS
    clear HT t1 t2 t3 HC HS HI HF HCV
    go_wp2_with (first | (at_make; refine wpList_make_full _ rfl _ _ 28 rfl w3.heap.size 4 i0 (.bool false) 1 Try.underlying28 hi0 hz0 hz1 .i64 .i64 _ _ s0 rfl rfl (by first | rfl | omega) (by first | rfl | omega) (by rw [hz2]; omega) (by unfold maxLen; omega) (Nat.le_refl _) ?_; intro w4 hown hg4; rw [madeB] at hown; have HM0 : Hid (w4.ownsRow w3.heap.size 4 1 (.slice (some ⟨w3.heap.size, 0, none⟩) s0 s0) s0 ((List.replicate s0 false).map Value.bool) ∧ Below w3.heap.size w3 w4) := ⟨hown, (Below.refl _ _).grown hg4 (Nat.le_refl _) (fun k hk => by cases hk)⟩; clear hown hg4) | fail)
    have B4 := hide (B3.out.below HM0.out.2)
    have W4 := hide (belowThen W3.out HM0.out.2)
    have R4 : Hid (RowB w4 (some ⟨w3.heap.size, 0, none⟩) (List.replicate s0 false)) := by
      obtain ⟨a, k, e1, hr, -⟩ := rowB_own HM0.out.1
      cases e1
      exact hr
    generalize w3.heap.size = g4 at R4 ⊢
    clear HM0 B3 W3 hz0 hz1 hz2 hi0 q0 q1 q2 q3 q4 q5 q6 q7
    obtain ⟨q0, q1, q2, q3, q4, q5, q6, q7⟩ := B4.out.cells
    have HD : Hid (Below w4.heap.size w4 w4.drew) := Drew.below ⟨1, rfl⟩
    go_wp2
    go_region_held3 (fun w' => w'.cell? ⟨w.heap.size, 0, none⟩ = some (.int .i64 c.m) ∧ w'.cell? ⟨w.heap.size, 1, none⟩ = some (.slice c.a1 c.n1 c.c1) ∧ w'.cell? ⟨w.heap.size, 2, none⟩ = some (.slice c.a2 c.n2 c.c2) ∧ w'.cell? ⟨w.heap.size, 3, none⟩ = some (.slice c.a3 c.n3 c.c3) ∧ w'.cell? ⟨w.heap.size, 4, none⟩ = some (.slice c.a4 c.n4 c.c4) ∧ w'.cell? ⟨w.heap.size, 5, none⟩ = some (.slice c.a5 c.n5 c.c5) ∧ w'.cell? ⟨w.heap.size, 6, none⟩ = some (.slice c.a6 c.n6 c.c6) ∧ w'.cell? ⟨w.heap.size, 7, none⟩ = some (.slice c.a7 c.n7 c.c7)) (go_keep) (first | (go_at_call_of 38 (Value.slice sa sn sc); refine (HT1.out _ _ (belowThen W4.out HD.out) (R4.out.below HD.out) _).mono ?_; rintro e w5 ⟨a5, k5, rfl, hr5, hb5⟩; have hB5 := belowThen HD.out hb5; obtain ⟨p0, p1, p2, p3, p4, p5, p6, p7⟩ := (B4.out.below hB5).cells) | (go_at_call_of 38 (Value.slice ia inn ic); refine (HT2.out _ _ (belowThen W4.out hB5) (R4.out.below hB5) _).mono ?_; rintro e w6 ⟨a6, k6, rfl, hr6, hb6⟩; have hB6 := belowThen hB5 hb6; obtain ⟨r0, r1, r2, r3, r4, r5, r6, r7⟩ := (B4.out.below hB6).cells) | (go_at_call 32; refine (HST.out _ _ _ (belowThen W4.out hB6) (hr5.below hb6) hr6 _ _).mono ?_; rintro e w7 ⟨a7, n7, k7, a8, n8, k8, rfl, hr7, hl7, hr8, hl8, hb7⟩; have hB7 := belowThen hB6 hb7; obtain ⟨u0, u1, u2, u3, u4, u5, u6, u7⟩ := (B4.out.below hB7).cells))
    have B7 := hide (B4.out.below hB7)
    have W7 := hide (belowThen W4.out hB7)
    have R7 := hide hr7
    have R8 := hide hr8
    have L7 := hide hl7
    have L8 := hide hl8
    clear B4 W4 R4 HD HT1 HT2 HST hb5 hb6 hb7 hB5 hB6 hB7 hr5 hr6 hr7 hr8 hl7 hl8 p0 p1 p2 p3 p4 p5 p6 p7 q0 q1 q2 q3 q4 q5 q6 q7 r0 r1 r2 r3 r4 r5 r6 r7 u0 u1 u2 u3 u4 u5 u6 u7
    obtain ⟨q0, q1, q2, q3, q4, q5, q6, q7⟩ := B7.out.cells
    go_wp2_with fail
    refine (HRS.out _ W7.out).mono ?_
    rintro e w8 ⟨s, rfl, hr9, hb8⟩
    have es : s.v = .agg #[.slice s.a1 s.n1 s.c1, .slice s.a2 s.n2 s.c2, .slice s.a3 s.n3 s.c3, .bool s.h] := rfl
    rw [es]
    have ha8 := below_alloc w8 (.cells #[.slice s.a1 s.n1 s.c1, .slice s.a2 s.n2 s.c2, .slice s.a3 s.n3 s.c3, .bool s.h] 37)
    obtain ⟨W9, hW9⟩ : ∃ W9, W9 = w8.alloc (.cells #[.slice s.a1 s.n1 s.c1, .slice s.a2 s.n2 s.c2, .slice s.a3 s.n3 s.c3, .bool s.h] 37) := ⟨_, rfl⟩
    have hb8' := belowThen hb8 ha8
    have X9 : Hid (RBox W9 w8.heap.size s) := by rw [hW9]; exact rbox_new w8 s
    rw [← hW9] at hb8' ha8
    have W9' := hide (belowThen W7.out hb8')
    replace R7 := hide (R7.out.below hb8')
    replace R8 := hide (R8.out.below hb8')
    have R9 := hide (hr9.below ha8)
    rw [List.length_map] at L7 L8
    clear B7 W7 hb8 hb8' ha8 hr9 HRS es q0 q1 q2 q3 q4 q5 q6 q7
    go_upto_region 8 with fail
    rw [← hW9]
    clear hW9
    obtain ⟨q0, q1, q2, q3⟩ := X9.out.cells
    have hmk1 := run_make_row' (P := Try.prog) 28 4 (.bool false) 1 Try.underlying28 infoBool rfl .i64 .i64 s.n1 (by have := HLr.out.1; have := R9.out.l1; omega) (by have := HLr.out.1; have := R9.out.l1; omega)
    have hmk3 := run_make_row' (P := Try.prog) 28 4 (.bool false) 1 Try.underlying28 infoBool rfl .i64 .i64 s.n3 (by have := HLr.out.2; have := R9.out.l3; omega) (by have := HLr.out.2; have := R9.out.l3; omega)
    have hlt9 := X9.out.lt
    have HT3 := hide (fun W g (hb : Below W9.heap.size W9 W) (ha : RowB W (some ⟨g, 0, none⟩) (List.replicate s.n1 false)) => threes0_any s.a1 (some ⟨g, 0, none⟩) s.n1 s.c1 s.n1 s.n1 s.n1 R.next W (R9.out.r1.below hb) R9.out.l1 (by have := HLr.out.1; have := R9.out.l1; omega) ha rfl (Nat.le_refl _) (by have := HLr.out.1; have := R9.out.l1; omega))
    have HT4 := hide (fun W g (hb : Below W9.heap.size W9 W) (ha : RowB W (some ⟨g, 0, none⟩) (List.replicate s.n3 false)) => threes0_any s.a3 (some ⟨g, 0, none⟩) s.n3 s.c3 s.n3 s.n3 s.n3 R.bads W (R9.out.r3.below hb) R9.out.l3 (by have := HLr.out.2; have := R9.out.l3; omega) ha rfl (Nat.le_refl _) (by have := HLr.out.2; have := R9.out.l3; omega))
    have HS1 := hide (fun W x k (hb : Below W9.heap.size W9 W) (hx : RowT W x (R.next.map enc3)) => sameT_any a7 x n7 s.n1 k7 k (R.next.map enc3) W (R7.out.below hb) hx (by rw [List.length_map]; exact L7.out) (by rw [List.length_map]; exact R9.out.l1) (by have := HLr.out.1; have := L7.out; omega))
    have HS2 := hide (fun W x k (hb : Below W9.heap.size W9 W) (hx : RowT W x (R.bads.map enc3)) => sameT_any a8 x n8 s.n3 k8 k (R.bads.map enc3) W (R8.out.below hb) hx (by rw [List.length_map]; exact L8.out) (by rw [List.length_map]; exact R9.out.l3) (by have := HLr.out.2; have := L8.out; omega))
    have HXc := hide (fun W (hb : Below W9.heap.size W9 W) => (X9.out.below hb).cells)
    have HXl := hide (fun W (hb : Below W9.heap.size W9 W) => (X9.out.below hb).lt)
    obtain ⟨bh, hbh⟩ : ∃ bh, s.h = bh := ⟨_, rfl⟩
    have hRh : R.holds = bh := R9.out.h.trans hbh
    rw [hRh]
    rw [hbh] at q3 HXc
    obtain ⟨y, hy⟩ : ∃ y, enc3 bh = y := ⟨_, rfl⟩
    rw [hy]
    have hy1 : (y == 1) = bh := by rw [← hy]; cases bh <;> rfl
    have hy2 : (y != 2) = true := by rw [← hy]; cases bh <;> rfl
    have hbb : (bh == bh) = true := by simp
    clear hRh hy R7 R8 R9 L7 L8 HLr X9 hbh
    go_region_held3 (fun w' => w'.cell? ⟨w8.heap.size, 0, none⟩ = some (.slice s.a1 s.n1 s.c1) ∧ w'.cell? ⟨w8.heap.size, 1, none⟩ = some (.slice s.a2 s.n2 s.c2) ∧ w'.cell? ⟨w8.heap.size, 2, none⟩ = some (.slice s.a3 s.n3 s.c3) ∧ w'.cell? ⟨w8.heap.size, 3, none⟩ = some (.bool bh)) (go_keep) (first | (go_at_call 35; refine (num9_any _ _).mono ?_; rintro e w' ⟨rfl, hw'⟩; obtain rfl := hw'.symm) | (go_at_call_of 38 (Value.slice s.a1 s.n1 s.c1); refine (HT3.out _ _ (belowThen (below_alloc W9 _) (Drew.below ⟨1, rfl⟩)) (made_rowB W9 s.n1 1)).mono ?_; rintro e v1 ⟨b1, j1, rfl, hq1, hc1⟩; have hd1 := belowThen (belowThen (below_alloc W9 _) (Drew.below ⟨1, rfl⟩)) hc1; obtain ⟨p0, p1, p2, p3⟩ := HXc.out v1 hd1) | (go_at_call_of 34 (Value.slice a7 n7 k7); refine (HS1.out _ _ _ hd1 hq1).mono ?_; rintro e v2 ⟨rfl, hc2⟩; have hd2 := belowThen hd1 hc2; obtain ⟨r0, r1, r2, r3⟩ := HXc.out v2 hd2; have hltv := HXl.out v2 hd2; have hnev : w8.heap.size ≠ v2.heap.size := by omega) | (go_at_call_of 38 (Value.slice s.a3 s.n3 s.c3); refine (HT4.out _ _ (belowThen hd2 (below_alloc v2 _)) (made_rowB0 v2 s.n3)).mono ?_; rintro e v3 ⟨b3, j3, rfl, hq3, hc3⟩; have hd3 := belowThen (belowThen hd2 (below_alloc v2 _)) hc3; obtain ⟨u0, u1, u2, u3⟩ := HXc.out v3 hd3) | (go_at_call_of 34 (Value.slice a8 n8 k8); refine (HS2.out _ _ _ hd3 hq3).mono ?_; rintro e v4 ⟨rfl, hc4⟩; have hd4 := belowThen hd3 hc4; obtain ⟨o0, o1, o2, o3⟩ := HXc.out v4 hd4))
    have hend := hide (belowThen W9'.out hd4)
    go_wp2
    go_ret
    exact ⟨rfl, hend.out⟩
end Go.Proofs.Ytmbbcghhdjpgeaa

namespace Go.Proofs.Ytmbbcghhdjpgeaa
open Go.ChangeShapes Go.WideShapes Go.ChangeAt Go.RowKit
open Go.ChangeMaps (open_string shut_string)
namespace ProofTernaryAll

set_option maxRecDepth 100000 in
theorem lifted (os : Os) (started : os.Started) (H : Type) (enc : TypeId × Value → H) :
    ReturnsInHanded {} Try.checked os 11 .any (Rows.ternaryAllSpec.pre6 enc Try.prog Try.f11 Rows.ternaryAllRow.domain false) (Rows.ternaryAllSpec.post enc Try.prog Try.f11 false true false false) := by
  refine returnsInHanded_of_change (C := Try.checked) own started (by kernel_rfl) Try.func11
    (ChangeSpec.witness6 (enc := enc) (C := Try.checked) false ⟨#[], #[.agg #[.int .i64 0, .slice none 0 0, .slice none 0 0, .slice none 0 0, .slice none 0 0, .slice none 0 0, .slice none 0 0, .slice none 0 0], .slice none 0 0, .slice none 0 0], []⟩ 8 (by kernel_rfl) (by kernel_rfl) (by kernel_rfl) (by kernel_rfl)) ?_
  intro W base args ds gs before hval0 hW _ _
  have hval : ∀ (j : Nat) t v, Try.f11.params[j]? = some t → args[j]? = some v → Value.okWide Try.prog W .any base t v := hval0
  have hW' := hW
  obtain ⟨p, q, hA0, hV, rfl, hfz, hnd⟩ := hW
  have hA : DataW.TrodAll enc Try.prog W 0 (fun _ => true) true Try.f11.params.toList args.toList ds p := hA0
  rw [Try.params11] at hA hval
  obtain ⟨v0, vs0, d0, ds0, p0, q0, hargs, rfl, rfl, h0, r0⟩ := trodAll_cons hA
  obtain ⟨v1, vs1, d1, ds1, p1, q1, rfl, rfl, rfl, h1, r1⟩ := trodAll_cons r0
  obtain ⟨v2, vs2, d2, ds2, p2, q2, rfl, rfl, rfl, h2, r2⟩ := trodAll_cons r1
  obtain ⟨rfl, rfl, rfl⟩ := trodAll_nil r2
  obtain rfl : args = #[v0, v1, v2] := by cases args; simp_all
  obtain ⟨rfl, rfl⟩ := trodVars_none hV
  have k0 := h0
  have lt0 : ∀ x ∈ p0, x.block < W.heap.size := by obtain ⟨m, hm⟩ := k0; exact DataW.trod_lt m _ _ _ hm
  obtain ⟨c0, C0, rfl, w0⟩ := open_circuit (hval 0 27 v0 rfl rfl) h0
  obtain ⟨a1, len1, cap1, rfl⟩ := okWide_slice Try.underlying28 (hval 1 28 v1 rfl rfl)
  have k1 := h1
  have lt1 : ∀ x ∈ p1, x.block < W.heap.size := by obtain ⟨m, hm⟩ := k1; exact DataW.trod_lt m _ _ _ hm
  obtain ⟨z1, w1⟩ := open_boolsC h1
  obtain ⟨a2, len2, cap2, rfl⟩ := okWide_slice Try.underlying28 (hval 2 28 v2 rfl rfl)
  have k2 := h2
  have lt2 : ∀ x ∈ p2, x.block < W.heap.size := by obtain ⟨m, hm⟩ := k2; exact DataW.trod_lt m _ _ _ hm
  obtain ⟨z2, w2⟩ := open_boolsC h2
  clear hA0 hval0
  refine (ternaryAll_any c0 a1 len1 cap1 z1 a2 len2 cap2 z2 C0 W w0 w1 w2 ).mono fun e W' ⟨he, bel⟩ => ?_
  subst he
  exact ⟨_, rfl, _, _, _, [], _, [], hW', trodAll_mk1 (shut_bool Try.underlying4 _), (trodAll_cons_mk (Below.trod laidOut (by kernel_rfl) (of_decide_eq_true (by kernel_rfl)) k0 bel lt0) (trodAll_cons_mk (Below.trod laidOut (by kernel_rfl) (of_decide_eq_true (by kernel_rfl)) k1 bel lt1) (trodAll_cons_mk (Below.trod laidOut (by kernel_rfl) (of_decide_eq_true (by kernel_rfl)) k2 bel lt2) trodAll_mk0))), rfl, bel.frame _, fun h => by cases h⟩

theorem row_holds : Rows.TernaryAllSaid :=
  OpenClaim.holds_of_wide 11 Try.f11 rfl rfl rfl rfl rfl rfl rfl ⟨rfl, rfl, rfl, rfl, rfl⟩ rfl rfl rfl rfl rfl (by kernel_rfl) Try.func11 (by kernel_rfl)
    (of_decide_eq_true (by kernel_rfl)) (by unfold Func.isWrapper; first | (rw [if_pos (by decide +kernel)]; kernel_rfl) | (rw [if_neg (by decide +kernel)]; exact ⟨rfl, rfl⟩))
    (fun os started H enc _ => lifted os started H enc)
end ProofTernaryAll

theorem ternaryAll_holds : Rows.TernaryAllSaid := ProofTernaryAll.row_holds
#print axioms ternaryAll_holds
end Go.Proofs.Ytmbbcghhdjpgeaa
