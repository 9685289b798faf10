/-
  THE WALKS of the reference's nexts and Values.
  THE WALK of the reference's Step.
-/
import Derived.Test.YtmbbcghhdjpgeaaSimD
import Derived.Test.YtmbbcghhdjpgeaaRefCheck

namespace Go.Proofs.Ytmbbcghhdjpgeaa
open Go.RowKit

def nxK (C : Circ) (k : Nat) : List Int := (C.lats.take k).map (·.2.1)
theorem nxK_step (C : Circ) (k : Nat) (h : k < C.lats.length) : nxK C (k + 1) = nxK C k ++ [(atP C.lats k).2.1] := map_take _ _ k h

set_option maxRecDepth 100000 in
set_option maxHeartbeats 1000000 in
theorem rNexts_any (c : CV) (C : Circ) (w : World) (h : Holds w c C) (h2 : c.n2 ≤ 10000) :
    Calls Try.prog 49 #[c.v] w fun e w' => ∃ v, e = .returned v ∧ NewInts w C.nexts v w' := by
  obtain ⟨i0, hi, hz0, hz1, hz2⟩ := info_parts infoInt
  have HH := hide h
  have HB := hide (box_new w c)
  generalize hP : (fun (e : Ending) (w' : World) => ∃ v, e = .returned v ∧ NewInts w C.nexts v w') = Post
  have HP := hide hP
  clear h hP
  unfold CV.v
  generalize hA2 : c.a2 = A2 at ⊢
  have HA2 := hide hA2
  have HM0 : Hid (Mk w c (.slice none 0 0) 0 [] (w.alloc (.cells #[.int .i64 c.m, .slice c.a1 c.n1 c.c1, .slice A2 c.n2 c.c2, .slice c.a3 c.n3 c.c3, .slice c.a4 c.n4 c.c4, .slice c.a5 c.n5 c.c5, .slice c.a6 c.n6 c.c6, .slice c.a7 c.n7 c.c7] 27))) := by
    rw [← hA2]
    exact ⟨⟨rfl, .inl ⟨rfl, rfl⟩⟩, below_alloc w _, HB.out⟩
  clear hA2 HB
  go_enter Try.func49, Try.ntmps49
  go_wp2
  go_loopw [3, 4] (fun v i wr => ∃ k : Nat, i = .int .i64 k ∧ k ≤ c.n2 ∧ Hid (Mk w c v k (nxK C k) wr)) (fun _ i _ => c.n2 - (intOf i).toNat)
  case atStart => exact ⟨0, rfl, Nat.zero_le _, HM0.out⟩
  case round =>
    clear HM0
    obtain ⟨k, rfl, hk, HM⟩ := hrel
    obtain ⟨-, -, q2, -, -, -, -, -⟩ := HM.out.box.cells
    rw [HA2.out] at q2
    by_cases hlt : k < c.n2
    · obtain ⟨b, off, ha, hbw, hcell⟩ := HH.out.r2.addr (by rw [cellsT_len, HH.out.l2]; omega)
      rw [HA2.out] at ha
      subst ha
      have hat := cellsT_at C.lats k (by rw [HH.out.l2]; exact hlt)
      have hc1 := (HM.out.below.cell (p := ⟨b, off + k * 3 + 1, none⟩) hbw).trans (hcell _ _ hat.2.1)
      have hst := nxK_step C k (by rw [HH.out.l2]; exact hlt)
      generalize atP C.lats k = x at hc1 hst
      obtain ⟨x0, x1, x2⟩ := x
      dsimp only at hc1 hst
      have HST := hide hst
      have hbig := HM.out.big
      clear hcell hat hst
      go_wp2_with (at_builtin; refine wpList_append_own _ rfl (.tmp 12) (.tmp 19) 22 rfl (w.heap.size + 1) 3 i0 (.int .i64 0) 1 8 Try.underlying22 hi hz0 hz1 hz2 rfl (by decide) _ _ _ rfl (HM.out.own.alloc _) ⟨wr.heap.size, 0, none⟩ 1 1 [.int .i64 x1] rfl rfl (cell_one_at rfl _ _) (by intro u hu; simp at hu; subst hu; rfl) (by unfold maxLen; omega) (by omega) (by simp; omega) ?_; intro v6 w6 hown6 hg6 _)
      go_roundw
      case rel =>
        refine ⟨k + 1, by go_num, by omega, HM.out.step (below_alloc wr _) hg6 ?_⟩
        rw [HST.out, List.map_append]; exact hown6
      case measure => simp [intOf]; omega
    · obtain rfl : k = c.n2 := by omega
      have hfin : Hid (Post (.returned u3) wr) := by
        show Post _ wr
        rw [← HP.out]
        have hm := HM.out
        have e : nxK C c.n2 = C.nexts := by unfold nxK Circ.nexts; rw [List.take_of_length_le (by rw [HH.out.l2]; exact Nat.le_refl _)]
        rw [e] at hm
        refine ⟨_, rfl, ?_, hm.below⟩
        have e2 : C.nexts.length = c.n2 := by unfold Circ.nexts; rw [List.length_map]; exact HH.out.l2
        rw [e2]
        exact own_le hm.own (Nat.le_succ _)
      go_wp2
      exact hfin.out

theorem sweep_zero (C : Circ) (v : List Bool) : C.sweep v 0 = (v, false) := rfl
theorem sweep_one (C : Circ) (v : List Bool) (k : Nat) : (C.sweep v (k + 1)).1 = (C.sweep v k).1.set (varN (atP C.ands k).1) (litV (C.sweep v k).1 (atP C.ands k).2.1 && litV (C.sweep v k).1 (atP C.ands k).2.2) := rfl
theorem sweep_two (C : Circ) (v : List Bool) (k : Nat) : (C.sweep v (k + 1)).2 = ((C.sweep v k).2 || (atP (C.sweep v k).1 (varN (atP C.ands k).1) != (litV (C.sweep v k).1 (atP C.ands k).2.1 && litV (C.sweep v k).1 (atP C.ands k).2.2))) := rfl

theorem iter_more {C : Circ} {k : Nat} {vs : List Bool} {N : Nat} (hN : C.ands.length = N) (hk : k < N) (h : (C.sweep vs N).2 = true) : C.iter (N - k) vs = C.iter (N - (k + 1)) (C.sweep vs N).1 := by
  have e : N - k = (N - (k + 1)) + 1 := by omega
  rw [e]
  show (if (C.sweep vs C.ands.length).2 = true then Circ.iter C (N - (k + 1)) (C.sweep vs C.ands.length).1 else (C.sweep vs C.ands.length).1) = _
  rw [hN, if_pos h]
theorem iter_less {C : Circ} {k : Nat} {vs : List Bool} {N : Nat} (hN : C.ands.length = N) (hk : k < N) (h : (C.sweep vs N).2 = false) : C.iter (N - k) vs = (C.sweep vs N).1 := by
  have e : N - k = (N - (k + 1)) + 1 := by omega
  rw [e]
  show (if (C.sweep vs C.ands.length).2 = true then Circ.iter C (N - (k + 1)) (C.sweep vs C.ands.length).1 else (C.sweep vs C.ands.length).1) = _
  rw [hN, if_neg (by rw [h]; decide)]

set_option maxRecDepth 100000 in
set_option maxHeartbeats 8000000 in
theorem rValues_any (c : CV) (C : Circ) (w : World) (sa ia : Option Addr) (sn sc inn ic : Nat) (st is : List Bool) (h : Holds w c C) (hck : ∀ W, Below w.heap.size w W → Calls Try.prog 24 #[c.v] W fun e w' => e = .returned (.int .i64 C.checkI) ∧ Below W.heap.size W w') (hs : RowB w sa st) (hsl : st.length = sn) (hi : RowB w ia is) (hil : is.length = inn) :
    Calls Try.prog 16 #[c.v, .slice sa sn sc, .slice ia inn ic] w (SettlePost w C st is) := by
  obtain ⟨i0, hi0, hz0, hz1, hz2⟩ := info_parts infoBool
  have HO := hide hck
  have HB := hide (box_new w c)
  have HH := hide h
  have HS := hide hs
  have HI := hide hi
  have HSl := hide hsl
  have HIl := hide hil
  generalize hP : SettlePost w C st is = Post
  have HP := hide hP
  have hbad : Hid (∀ r W, C.stepI st is = r → r ≠ 0 → Below w.heap.size w W → Post (.returned (.tuple #[.slice none 0 0, .int .i64 r])) W) := fun r W hr hr0 hW => by rw [← HP.out]; exact ⟨hW, .inl ⟨by rw [hr]; exact hr0, by rw [hr]⟩⟩
  have hgood : Hid (∀ W w1 b g n, C.stepI st is = 0 → n = C.max.toNat + 1 → Below w.heap.size w w1 → GMid w1 b c g n (C.vals st is) W → Post (.returned (.tuple #[.slice (some ⟨g, 0, none⟩) n n, .int .i64 0])) W) := fun W w1 b g n hr hn hb hm => by
    subst hn; rw [← HP.out]; exact ⟨belowThen hb hm.below, .inr ⟨hr, g, rfl, own_le hm.own hb.size⟩⟩
  clear h hck hs hsl hi hil hP
  unfold CV.v at HO ⊢
  unfold Box at HB
  generalize hA1 : c.a1 = A1 at HO HB ⊢
  generalize hA2 : c.a2 = A2 at HO HB ⊢
  generalize hA6 : c.a6 = A6 at HO HB ⊢
  have HA1 := hide hA1
  have HA2 := hide hA2
  have HA6 := hide hA6
  clear hA1 hA2 hA6
  go_enter Try.func16, Try.ntmps16
  go_wp2_with fail
  refine (HO.out _ (below_alloc w _)).mono ?_
  rintro e w1 ⟨rfl, hb1⟩
  have HB1 : Hid (Box w1 w.heap.size c) := by
    have := hb1.block w.heap.size (by simp)
    rw [HB.out] at this
    show w1.heap[w.heap.size]? = _
    rw [this, HA1.out, HA2.out, HA6.out]
  have HW1 := hide (belowThen (below_alloc w _) hb1)
  clear HO HB hb1
  by_cases hc : C.checkI = 0
  case neg =>
    have hend := hide (hbad.out _ w1 (by unfold Circ.stepI; rw [if_pos hc]) hc HW1.out)
    clear hbad hgood
    generalize C.checkI = ck at hc hend ⊢
    have hck : (ck != 0) = true := by simpa using hc
    clear hc
    go_wp2
    exact hend.out
  case pos =>
    rw [hc]
    have HC := hide hc
    have HRt := hide (right_of hc)
    replace HH := hide (HH.out.below HW1.out)
    replace HS := hide (HS.out.below HW1.out)
    replace HI := hide (HI.out.below HW1.out)
    clear hc
    obtain ⟨q0, q1, q2, q3, q4, q5, q6, q7⟩ := HB1.out.cells
    rw [HA1.out] at q1
    rw [HA2.out] at q2
    by_cases hsn : sn = c.n2
    case neg =>
      have hsb : ((sn : Int) != (c.n2 : Int)) = true := by simpa using fun h : (sn : Int) = (c.n2 : Int) => hsn (by omega)
      have hend := hide (hbad.out 1 w1 (by unfold Circ.stepI; rw [if_neg (fun h => h HC.out), if_neg (fun h => hsn (HSl.out.symm.trans (h.1.trans HH.out.l2)))]) (by decide) HW1.out)
      clear hbad hgood hsn
      go_wp2
      exact hend.out
    case pos =>
      have Hsn := hide hsn
      have hsb : ((sn : Int) != (c.n2 : Int)) = false := by rw [hsn]; simp
      by_cases hin : inn = c.n1
      case neg =>
        have hib : ((inn : Int) != (c.n1 : Int)) = true := by simpa using fun h : (inn : Int) = (c.n1 : Int) => hin (by omega)
        have hend := hide (hbad.out 1 w1 (by unfold Circ.stepI; rw [if_neg (fun h => h HC.out), if_neg (fun h => hin (HIl.out.symm.trans (h.2.trans HH.out.l1)))]) (by decide) HW1.out)
        clear hbad hgood hin
        subst hsn
        go_wp2
        exact hend.out
      case pos =>
        have Hin := hide hin
        have hib : ((inn : Int) != (c.n1 : Int)) = false := by rw [hin]; simp
        have HS0 : Hid (C.stepI st is = 0) := by
          show C.stepI st is = 0
          unfold Circ.stepI
          rw [if_neg (fun h => h HC.out), if_pos ⟨HSl.out.trans (Hsn.out.trans HH.out.l2.symm), HIl.out.trans (Hin.out.trans HH.out.l1.symm)⟩]
        replace hgood := hide (fun W b g n => hgood.out W w1 b g n HS0.out)
        have hm0 : 0 ≤ c.m := by rw [HH.out.m]; exact HRt.out.lits.max
        have hm5 : c.m ≤ 5000 := by rw [HH.out.m]; exact HRt.out.small.max
        obtain ⟨n, hn⟩ : ∃ n, n = C.max.toNat + 1 := ⟨_, rfl⟩
        have hnm : c.m + 1 = (n : Int) := by rw [hn, ← HH.out.m]; omega
        have HNn := hide hn
        have hn1 : c.n1 ≤ 64 := by rw [← HH.out.l1]; exact HRt.out.small.ins
        have hn2 : c.n2 ≤ 64 := by rw [← HH.out.l2]; exact HRt.out.small.lats
        have hn6 : c.n6 ≤ 2000 := by rw [← HH.out.l6]; exact HRt.out.small.ands
        have hnn : n ≤ 10000 := by omega
        clear hbad hn
        subst hsn
        subst hin
        go_wp2_with (first | (at_make; refine wpList_make_full _ rfl _ _ 28 rfl w1.heap.size 4 i0 (.bool false) 1 Try.underlying28 hi0 hz0 hz1 .i64 .i64 _ _ n rfl rfl (by first | rfl | omega) (by first | rfl | omega) (by rw [hz2]; omega) (by unfold maxLen; omega) (Nat.le_refl _) ?_; intro w2 hown hg2; rw [madeB] at hown; have HM0 : Hid (GMid w1 w.heap.size c w1.heap.size n (List.replicate n false) w2) := ⟨hown, HB1.out.grown hg2 (by simp), HB1.out.lt, (Below.refl _ _).grown hg2 (Nat.le_refl _) (fun k hk => by cases hk)⟩; clear hown hg2) | fail)
        clear q0 q1 q2 q3 q4 q5 q6 q7
        go_loopw [10] (fun i wr => ∃ (k : Nat), i = .int .i64 k ∧ k ≤ c.n1 ∧ Hid (GMid w1 w.heap.size c w1.heap.size n (C.startK st is k 0) wr)) (fun i _ => c.n1 - (intOf i).toNat)
        case atStart => exact ⟨0, rfl, Nat.zero_le _, by rw [HNn.out] at HM0 ⊢; exact HM0.out⟩
        case round =>
          clear HM0
          obtain ⟨k, rfl, hk, HM⟩ := hrel
          obtain ⟨p0, p1, p2, p3, p4, p5, p6, p7⟩ := HM.out.box.cells
          rw [HA1.out] at p1
          by_cases hlt : k < c.n1
          · obtain ⟨b, off, ha, hbw, hcell⟩ := HH.out.r1.addr (by rw [HH.out.l1]; omega)
            rw [HA1.out] at ha
            subst ha
            have hc0 := (HM.out.below.cell (p := ⟨b, off + k, none⟩) hbw).trans (hcell k (by rw [HH.out.l1]; exact hlt))
            rw [atP_getD] at hc0
            obtain ⟨b', off', rfl, hbw', hcell'⟩ := HI.out.addr (by rw [HIl.out]; omega)
            have hc1 := (HM.out.below.cell (p := ⟨b', off' + k, none⟩) hbw').trans (hcell' k (by rw [HIl.out]; exact hlt))
            have hli := in_ins HRt.out _ (atP_mem C.ins k (by rw [HH.out.l1]; exact hlt))
            rw [← HNn.out] at hli
            have HST := hide (startK_in C st is k)
            generalize atP C.ins k = x at hc0 hli HST
            generalize atP is k = y at hc1 HST
            have hq := tdiv_two hli.1
            have hv := hli.2.2
            generalize varN x = v at hq hv HST
            obtain ⟨hcm, hfm⟩ := HM.out.at hv
            have HM3 : Hid (∀ q, GMid w1 w.heap.size c w1.heap.size n ((C.startK st is k 0).set v y) ((wr.drewN q).setCell ⟨w1.heap.size, v, none⟩ (.bool y))) := fun q => (HM.out.then (Drew.below ⟨q, rfl⟩)).set v y
            generalize atP (C.startK st is k 0) v = y0 at hcm
            have hk0 : (0 : Int) ≤ (k : Int) := by omega
            have hk1 : (k : Int) < (c.n1 : Int) := by omega
            have hv1 : (v : Int) < (n : Int) := by omega
            clear hcell hcell' hli p0 p2 p3 p4 p5 p6 p7
            go_wp2
            go_region
            all_goals go_wp2
            all_goals go_roundw
            case rel => exact ⟨k + 1, by go_num, by omega, by rw [HST.out]; exact HM3.out _⟩
            case measure => simp [intOf]; omega
          · obtain rfl : k = c.n1 := by omega
            have HM1 : Hid (GMid w1 w.heap.size c w1.heap.size n (C.startK st is C.ins.length 0) wr) := by rw [HH.out.l1]; exact HM.out
            clear HM hlt hk p0 p2 p3 p4 p5 p6 p7
            go_wp2
            clear p1
            go_loopw [11] (fun i wr => ∃ (k : Nat), i = .int .i64 k ∧ k ≤ c.n2 ∧ Hid (GMid w1 w.heap.size c w1.heap.size n (C.startK st is C.ins.length k) wr)) (fun i _ => c.n2 - (intOf i).toNat)
            case atStart => exact ⟨0, rfl, Nat.zero_le _, HM1.out⟩
            case round =>
              clear HM1
              obtain ⟨k, rfl, hk, HM⟩ := hrel
              obtain ⟨p0, p1, p2, p3, p4, p5, p6, p7⟩ := HM.out.box.cells
              rw [HA2.out] at p2
              by_cases hlt : k < c.n2
              · obtain ⟨b, off, ha, hbw, hcell⟩ := HH.out.r2.addr (by rw [cellsT_len, HH.out.l2]; omega)
                rw [HA2.out] at ha
                subst ha
                have hat := cellsT_at C.lats k (by rw [HH.out.l2]; exact hlt)
                have hc0 := (HM.out.below.cell (p := ⟨b, off + k * 3, none⟩) hbw).trans (hcell _ _ hat.1)
                obtain ⟨b', off', rfl, hbw', hcell'⟩ := HS.out.addr (by rw [HSl.out]; omega)
                have hc1 := (HM.out.below.cell (p := ⟨b', off' + k, none⟩) hbw').trans (hcell' k (by rw [HSl.out]; exact hlt))
                have hli := (in_lats HRt.out _ (atP_mem C.lats k (by rw [HH.out.l2]; exact hlt))).1
                rw [← HNn.out] at hli
                have HST := hide (startK_lat C st is (j := k) (by rw [HH.out.l2]; exact hlt))
                generalize atP C.lats k = x at hc0 hli HST
                obtain ⟨x0, x1, x2⟩ := x
                dsimp only at hc0 hli HST
                generalize atP st k = y at hc1 HST
                have hq := tdiv_two hli.1
                have hv := hli.2.2
                generalize varN x0 = v at hq hv HST
                obtain ⟨hcm, hfm⟩ := HM.out.at hv
                have HM3 : Hid (∀ q, GMid w1 w.heap.size c w1.heap.size n ((C.startK st is C.ins.length k).set v y) ((wr.drewN q).setCell ⟨w1.heap.size, v, none⟩ (.bool y))) := fun q => (HM.out.then (Drew.below ⟨q, rfl⟩)).set v y
                generalize atP (C.startK st is C.ins.length k) v = y0 at hcm
                have hk0 : (0 : Int) ≤ (k : Int) := by omega
                have hk1 : (k : Int) < (c.n2 : Int) := by omega
                have hv1 : (v : Int) < (n : Int) := by omega
                clear hcell hcell' hli hat p0 p1 p3 p4 p5 p6 p7
                go_wp2
                go_region
                all_goals go_wp2
                all_goals go_roundw
                case rel => exact ⟨k + 1, by go_num, by omega, by rw [HST.out]; exact HM3.out _⟩
                case measure => simp [intOf]; omega
              · obtain rfl : k = c.n2 := by omega
                have HM1 : Hid (GMid w1 w.heap.size c w1.heap.size n (C.start st is) wr) := by
                  have := HM.out
                  rw [← HH.out.l2] at this
                  exact this
                clear HM hlt hk p0 p1 p3 p4 p5 p6 p7
                go_wp2
                clear p2
                have HIV : Hid (C.iter c.n6 (C.start st is) = C.vals st is) := by rw [← HH.out.l6]; exact iter_vals HRt.out st is
                generalize C.start st is = v0 at HM1 HIV
                go_loopw [12, 13, 14, 15, 16] (fun i _ _ _ _ wr => ∃ (k : Nat) (vs : List Bool), i = .int .i64 k ∧ k ≤ c.n6 ∧ Hid (GMid w1 w.heap.size c w1.heap.size n vs wr ∧ C.iter (c.n6 - k) vs = C.vals st is)) (fun i _ _ _ _ _ => c.n6 - (intOf i).toNat)
                case atStart => exact ⟨0, v0, rfl, Nat.zero_le _, HM1.out, HIV.out⟩
                case round =>
                  clear HM1 HIV v0
                  obtain ⟨k, vs, rfl, hk, HM⟩ := hrel
                  obtain ⟨p0, p1, p2, p3, p4, p5, p6, p7⟩ := HM.out.1.box.cells
                  by_cases hlt : k < c.n6
                  · clear p0 p1 p2 p3 p4 p5 p7
                    rw [HA6.out] at p6
                    go_wp2
                    clear p6
                    go_loopw [13, 14, 15, 16] (fun mo i _ _ wr => ∃ j : Nat, mo = .bool (C.sweep vs j).2 ∧ i = .int .i64 j ∧ j ≤ c.n6 ∧ Hid (GMid w1 w.heap.size c w1.heap.size n (C.sweep vs j).1 wr)) (fun _ i _ _ _ => c.n6 - (intOf i).toNat)
                    case atStart => exact ⟨0, rfl, rfl, Nat.zero_le _, HM.out.1⟩
                    case round =>
                      obtain ⟨j, rfl, rfl, hj, HN⟩ := hrel
                      obtain ⟨p0, p1, p2, p3, p4, p5, p6, p7⟩ := HN.out.box.cells
                      rw [HA6.out] at p6
                      clear p0 p1 p2 p3 p4 p5 p7
                      by_cases hlt2 : j < c.n6
                      · obtain ⟨b, off, ha, hbw, hcell⟩ := HH.out.r6.addr (by rw [cellsT_len, HH.out.l6]; omega)
                        rw [HA6.out] at ha
                        subst ha
                        have hat := cellsT_at C.ands j (by rw [HH.out.l6]; exact hlt2)
                        have hc0 := (HN.out.below.cell (p := ⟨b, off + j * 3, none⟩) hbw).trans (hcell _ _ hat.1)
                        have hc1 := (HN.out.below.cell (p := ⟨b, off + j * 3 + 1, none⟩) hbw).trans (hcell _ _ hat.2.1)
                        have hc2 := (HN.out.below.cell (p := ⟨b, off + j * 3 + 2, none⟩) hbw).trans (hcell _ _ hat.2.2)
                        have hti := in_ands HRt.out _ (atP_mem C.ands j (by rw [HH.out.l6]; exact hlt2))
                        rw [← HNn.out] at hti
                        have HS1 := hide (sweep_one C vs j)
                        have HS2 := hide (sweep_two C vs j)
                        generalize (C.sweep vs j).1 = us at HN HS1 HS2
                        generalize (C.sweep vs j).2 = mo at HS2 ⊢
                        generalize atP C.ands j = x at hc0 hc1 hc2 hti HS1 HS2
                        obtain ⟨x0, x1, x2⟩ := x
                        obtain ⟨l0, l1, l2⟩ := hti
                        dsimp only at hc0 hc1 hc2 l0 l1 l2 HS1 HS2
                        have M1 := HN.out.then (below_alloc wr (.cells #[.int .i64 x0, .int .i64 x1, .int .i64 x2] 58))
                        have HG1 := hide (rLit_any w1.heap.size n us x1 _ (M1.sig hnn) l1)
                        have HG2 := hide (rLit_any w1.heap.size n us x2 _ (M1.sig hnn) l2)
                        have hq := tdiv_two l0.1
                        have hv := l0.2.2
                        generalize litV us x1 = A at HG1 HS1 HS2
                        generalize litV us x2 = B at HG2 HS1 HS2
                        generalize varN x0 = v at hq hv HS1 HS2
                        obtain ⟨hcm, hfm⟩ := M1.at hv
                        have HM3 : Hid (∀ y, GMid w1 w.heap.size c w1.heap.size n (us.set v y) ((wr.alloc (.cells #[.int .i64 x0, .int .i64 x1, .int .i64 x2] 58)).setCell ⟨w1.heap.size, v, none⟩ (.bool y))) := fun y => M1.set v y
                        generalize atP us v = y0 at hcm HS2
                        have hr0 : (wr.alloc (.cells #[.int .i64 x0, .int .i64 x1, .int .i64 x2] 58)).cell? ⟨wr.heap.size, 0, none⟩ = some (.int .i64 x0) := cell_of_row _ _ 0 _ _ (0, 0) (heap_alloc_new wr _)
                        have hr1 : (wr.alloc (.cells #[.int .i64 x0, .int .i64 x1, .int .i64 x2] 58)).cell? ⟨wr.heap.size, 1, none⟩ = some (.int .i64 x1) := cell_of_row _ _ 1 _ _ (0, 0) (heap_alloc_new wr _)
                        have hr2 : (wr.alloc (.cells #[.int .i64 x0, .int .i64 x1, .int .i64 x2] 58)).cell? ⟨wr.heap.size, 2, none⟩ = some (.int .i64 x2) := cell_of_row _ _ 2 _ _ (0, 0) (heap_alloc_new wr _)
                        clear hcell hat l0 l1 l2 M1
                        clear HM
                        cases mo <;> cases A <;> cases B <;> cases y0
                        all_goals go_wp2_with (first | (go_at_call_of 28 (Value.int .i64 x1); refine HG1.out.mono ?_; rintro e w3 ⟨rfl, hw3⟩; obtain rfl := hw3.symm) | (go_at_call_of 28 (Value.int .i64 x2); refine HG2.out.mono ?_; rintro e w3 ⟨rfl, hw3⟩; obtain rfl := hw3.symm))
                        all_goals go_roundw
                        all_goals first | (show ∃ j : Nat, _; exact ⟨j + 1, by rw [HS2.out]; rfl, by go_num, by omega, by rw [HS1.out]; exact HM3.out _⟩) | (simp [intOf]; omega)
                      · obtain rfl : j = c.n6 := by omega
                        cases hm : (C.sweep vs c.n6).2 with
                        | true =>
                          have HK : Hid (∃ (k' : Nat) (vs : List Bool), Value.int .i64 ((k : Int) + 1) = .int .i64 k' ∧ k' ≤ c.n6 ∧ Hid (GMid w1 w.heap.size c w1.heap.size n vs wr ∧ C.iter (c.n6 - k') vs = C.vals st is)) := ⟨k + 1, _, by go_num, by omega, HN.out, by rw [← iter_more HH.out.l6 hlt hm]; exact HM.out.2⟩
                          clear HM HN hm
                          go_wp2
                          go_roundw
                          case rel => exact HK.out
                          case measure => simp [intOf]; omega
                        | false =>
                          have hend := hide (hgood.out wr w.heap.size w1.heap.size n HNn.out HW1.out (by have e := iter_less HH.out.l6 hlt hm; rw [HM.out.2] at e; rw [e]; exact HN.out))
                          clear HM HN hm
                          go_wp2
                          exact hend.out
                  · obtain rfl : k = c.n6 := by omega
                    have hend := hide (hgood.out wr w.heap.size w1.heap.size n HNn.out HW1.out (by have := HM.out; rw [Nat.sub_self] at this; have e : vs = C.vals st is := this.2; rw [← e]; exact this.1))
                    rw [HA6.out] at p6
                    clear HM p0 p1 p2 p3 p4 p5 p7
                    go_wp2
                    exact hend.out
end Go.Proofs.Ytmbbcghhdjpgeaa

namespace Go.Proofs.Ytmbbcghhdjpgeaa
open Go.RowKit

/-- What stands while the reference's Step makes its rows. -/
structure ESr (w0 : World) (c : CV) (C : Circ) (b g n : Nat) (vs : List Bool) (W : World) : Prop where
  holds : Holds W c C
  st : StepS w0 b c W
  sig : Sig W g n vs
theorem ESr.then {w0 W W' : World} {c : CV} {C : Circ} {b g n : Nat} {vs : List Bool} (h : ESr w0 c C b g n vs W) (hb : Below W.heap.size W W') : ESr w0 c C b g n vs W' := ⟨h.holds.below hb, h.st.then hb, h.sig.below hb⟩

theorem in_nexts {C : Circ} (hR : Right C) : ∀ l ∈ C.nexts, LitIn (C.max.toNat + 1) l := fun l hl => in_used hR (by unfold Circ.used; unfold Circ.nexts at hl; simp only [List.mem_append]; exact .inl (.inl (.inl (.inl hl))))

set_option maxRecDepth 100000 in
set_option maxHeartbeats 4000000 in
theorem rStep_bad (c : CV) (C : Circ) (w : World) (sa ia : Option Addr) (sn sc inn ic : Nat) (st is : List Bool) (h : Holds w c C) (hck : ∀ W, Below w.heap.size w W → Calls Try.prog 24 #[c.v] W fun e w' => e = .returned (.int .i64 C.checkI) ∧ Below W.heap.size W w') (hs : RowB w sa st) (hsl : st.length = sn) (hi : RowB w ia is) (hil : is.length = inn) (hbad : C.stepI st is ≠ 0) :
    Calls Try.prog 18 #[c.v, .slice sa sn sc, .slice ia inn ic] w (StepPost w C st is) := by
  have HC : Hid (∀ W, Below w.heap.size w W → Calls Try.prog 16 #[c.v, .slice sa sn sc, .slice ia inn ic] W fun e w' => e = .returned (.tuple #[.slice none 0 0, .int .i64 (C.stepI st is)]) ∧ Below W.heap.size W w') := fun W hb => (rValues_any c C W sa ia sn sc inn ic st is (h.below hb) (fun W' hb' => hck W' (belowThen hb hb')) (hs.below hb) hsl (hi.below hb) hil).mono (fun e w' hh => by
    rcases hh.2 with ⟨-, he⟩ | ⟨h0, -⟩
    · exact ⟨he, hh.1⟩
    · exact absurd h0 hbad)
  have S0 := hide (step_start w c)
  have hE : Hid (C.stepE st is = RowV.nil) := if_neg hbad
  unfold StepPost
  rw [hE.out]
  generalize C.stepI st is = ck at HC hbad ⊢
  have hckb : (ck != 0) = true := by simpa using hbad
  clear h hck hbad hs hsl hi hil hE
  unfold CV.v at HC ⊢
  go_enter Try.func18, Try.ntmps18
  go_wp2_with fail
  refine (HC.out _ S0.out.below).mono ?_
  rintro e w1 ⟨rfl, hb1⟩
  have S1 := hide (S0.out.then hb1)
  obtain ⟨q0, q1, q2, q3⟩ := S1.out.res.cells
  have f0 := rbox_frozen S1.out.res 0
  have f1 := rbox_frozen S1.out.res 1
  have f2 := rbox_frozen S1.out.res 2
  have f3 := rbox_frozen S1.out.res 3
  clear S0 HC hb1
  go_wp2
  have hb := hide (rbox_put RV.nil S1.out.res)
  have hbel : Hid (Below w.heap.size w (putRow w1 (w.heap.size + 1) RV.nil)) := (two_putR w1 (w.heap.size + 1) RV.nil).below S1.out.below (Nat.le_refl _) (Nat.le_succ _) (Nat.le_succ _)
  clear q0 q1 q2 q3 f0 f1 f2 f3
  show bodyPost _ _ _ _ _ (putRow w1 (w.heap.size + 1) RV.nil)
  generalize putRow w1 (w.heap.size + 1) RV.nil = Wf at *
  obtain ⟨r0, r1, r2, r3⟩ := hb.out.cells
  simp only [RV.nil] at r0 r1 r2 r3
  refine bodyPost_ret (v := .tuple #[.agg #[.slice none 0 0, .slice none 0 0, .slice none 0 0, .bool false], .int .i64 ck]) (by simp [results, Try.results18, go_sem, *]) rfl ?_
  exact ⟨RV.nil, rfl, rholds_nil Wf, hbel.out⟩

set_option maxRecDepth 100000 in
set_option maxHeartbeats 4000000 in
theorem rStep_good (c : CV) (C : Circ) (w : World) (sa ia : Option Addr) (sn sc inn ic : Nat) (st is : List Bool) (h : Holds w c C) (hck : ∀ W, Below w.heap.size w W → Calls Try.prog 24 #[c.v] W fun e w' => e = .returned (.int .i64 C.checkI) ∧ Below W.heap.size W w') (hs : RowB w sa st) (hsl : st.length = sn) (hi : RowB w ia is) (hil : is.length = inn) (hgood : C.stepI st is = 0) :
    Calls Try.prog 18 #[c.v, .slice sa sn sc, .slice ia inn ic] w (StepPost w C st is) := by
  have hck0 : C.checkI = 0 := by
    by_cases hc : C.checkI = 0
    · exact hc
    · unfold Circ.stepI at hgood; rw [if_pos hc] at hgood; exact absurd hgood hc
  have HRt := hide (right_of hck0)
  obtain ⟨n, hn⟩ : ∃ n, n = C.max.toNat + 1 := ⟨_, rfl⟩
  have hn4 : n ≤ 10000 := by have := HRt.out.small.max; omega
  obtain ⟨vs, HVs⟩ : ∃ vs, Hid (vs = C.vals st is) := ⟨_, rfl⟩
  have HC : Hid (∀ W, Below w.heap.size w W → Calls Try.prog 16 #[c.v, .slice sa sn sc, .slice ia inn ic] W fun e w' => ∃ g, e = .returned (.tuple #[.slice (some ⟨g, 0, none⟩) n n, .int .i64 0]) ∧ Sig w' g n vs ∧ Below W.heap.size W w') := fun W hb => (rValues_any c C W sa ia sn sc inn ic st is (h.below hb) (fun W' hb' => hck W' (belowThen hb hb')) (hs.below hb) hsl (hi.below hb) hil).mono (fun e w' hh => by
    rcases hh.2 with ⟨h0, -⟩ | ⟨-, g, rfl, hown⟩
    · exact absurd hgood h0
    · rw [← hn, ← HVs.out] at hown
      refine ⟨g, by rw [hn], ⟨fun i hi => row_at hown i ?_, ?_, hn4, (hown.lt g rfl).2⟩, hh.1⟩
      · rw [HVs.out, vals_len, ← hn] at hi; exact hi
      · rw [HVs.out, vals_len, hn])
  have hE : Hid (C.stepE st is = C.rowV vs) := by rw [HVs.out]; exact if_pos hgood
  have S0 := hide (step_start w c)
  have HL := hide h
  have hn1 : c.n2 ≤ 64 := by rw [← h.l2]; exact HRt.out.small.lats
  have hn2 : c.n3 ≤ 64 := by rw [← h.l3]; exact HRt.out.small.outs
  have hn3 : c.n4 ≤ 64 := by rw [← h.l4]; exact HRt.out.small.bads
  have hn5 : c.n5 ≤ 64 := by rw [← h.l5]; exact HRt.out.small.cons
  obtain ⟨nb, hnb⟩ : ∃ nb, nb = C.badsOr.length := ⟨_, rfl⟩
  have hnb4 : nb ≤ 64 := by rw [hnb]; exact badsOr_len HRt.out.small
  have HNb := hide hnb
  have HNn := hide hn
  unfold StepPost
  rw [hE.out, hgood]
  clear h hck hgood hs hsl hi hil hE hck0 hnb hn
  have H0 : Hid (∀ g W, ESr w c C w.heap.size g n vs W → Calls Try.prog 49 #[c.v] W fun e w' => ∃ a cp, e = .returned (.slice a c.n2 cp) ∧ RowK .i64 w' a C.nexts ∧ Below W.heap.size W w') := fun g W t => (rNexts_any c C W t.holds (by omega)).mono (fun e w' hh => by
    obtain ⟨v, rfl, hn, hbl⟩ := hh
    obtain ⟨a, cp, rfl, hr, -⟩ := row_of_own hn
    exact ⟨a, cp, by unfold Circ.nexts; rw [List.length_map, t.holds.l2], hr, hbl⟩)
  have H1 : Hid (∀ g A K W, ESr w c C w.heap.size g n vs W → RowK .i64 W A C.nexts → Calls Try.prog 48 #[.slice (some ⟨g, 0, none⟩) n n, .slice A c.n2 K] W fun e w' => ∃ a cp, e = .returned (.slice a c.n2 cp) ∧ w'.ownsRow (w.heap.size + 2) 4 1 (.slice a c.n2 cp) c.n2 ((C.nexts.map (litV vs)).map Value.bool) ∧ Below W.heap.size W w') := fun g A K W t hr => (rLits_any g n vs A c.n2 K C.nexts W t.sig hr (by unfold Circ.nexts; rw [List.length_map]; exact t.holds.l2) (by omega) (by rw [HNn.out]; exact in_nexts HRt.out)).mono (fun e w' hh => by
    obtain ⟨v, rfl, hn, hbl⟩ := hh
    have hll : C.nexts.length = c.n2 := (by unfold Circ.nexts; rw [List.length_map]; exact t.holds.l2)
    rw [List.length_map, hll] at hn
    obtain ⟨a, cp, rfl⟩ := own_form hn
    exact ⟨a, cp, rfl, own_le hn t.st.res.lt, hbl⟩)
  have H2 : Hid (∀ g A K W, ESr w c C w.heap.size g n vs W → RowK .i64 W A C.outs → Calls Try.prog 48 #[.slice (some ⟨g, 0, none⟩) n n, .slice A c.n3 K] W fun e w' => ∃ a cp, e = .returned (.slice a c.n3 cp) ∧ w'.ownsRow (w.heap.size + 2) 4 1 (.slice a c.n3 cp) c.n3 ((C.outs.map (litV vs)).map Value.bool) ∧ Below W.heap.size W w') := fun g A K W t hr => (rLits_any g n vs A c.n3 K C.outs W t.sig hr t.holds.l3 (by omega) (by rw [HNn.out]; exact in_outs HRt.out)).mono (fun e w' hh => by
    obtain ⟨v, rfl, hn, hbl⟩ := hh
    have hll : C.outs.length = c.n3 := t.holds.l3
    rw [List.length_map, hll] at hn
    obtain ⟨a, cp, rfl⟩ := own_form hn
    exact ⟨a, cp, rfl, own_le hn t.st.res.lt, hbl⟩)
  have H3 : Hid (∀ g W, ESr w c C w.heap.size g n vs W → Calls Try.prog 50 #[c.v] W fun e w' => ∃ a cp, e = .returned (.slice a nb cp) ∧ RowK .i64 w' a C.badsOr ∧ Below W.heap.size W w') := fun g W t => (refBads_any c C W t.holds).mono (fun e w' hh => by
    obtain ⟨a, k, cp, rfl, hr, hl, hbl⟩ := hh
    exact ⟨a, cp, by rw [HNb.out, hl], hr, hbl⟩)
  have H4 : Hid (∀ g A K W, ESr w c C w.heap.size g n vs W → RowK .i64 W A C.badsOr → Calls Try.prog 48 #[.slice (some ⟨g, 0, none⟩) n n, .slice A nb K] W fun e w' => ∃ a cp, e = .returned (.slice a nb cp) ∧ w'.ownsRow (w.heap.size + 2) 4 1 (.slice a nb cp) nb ((C.badsOr.map (litV vs)).map Value.bool) ∧ Below W.heap.size W w') := fun g A K W t hr => (rLits_any g n vs A nb K C.badsOr W t.sig hr HNb.out.symm (by omega) (by rw [HNn.out]; exact in_badsOr HRt.out)).mono (fun e w' hh => by
    obtain ⟨v, rfl, hn, hbl⟩ := hh
    have hll : C.badsOr.length = nb := HNb.out.symm
    rw [List.length_map, hll] at hn
    obtain ⟨a, cp, rfl⟩ := own_form hn
    exact ⟨a, cp, rfl, own_le hn t.st.res.lt, hbl⟩)
  have H5 : Hid (∀ g A K W, ESr w c C w.heap.size g n vs W → RowK .i64 W A C.cons → Calls Try.prog 48 #[.slice (some ⟨g, 0, none⟩) n n, .slice A c.n5 K] W fun e w' => ∃ a cp, e = .returned (.slice a c.n5 cp) ∧ w'.ownsRow (w.heap.size + 2) 4 1 (.slice a c.n5 cp) c.n5 ((C.cons.map (litV vs)).map Value.bool) ∧ Below W.heap.size W w') := fun g A K W t hr => (rLits_any g n vs A c.n5 K C.cons W t.sig hr t.holds.l5 (by omega) (by rw [HNn.out]; exact in_cons HRt.out)).mono (fun e w' hh => by
    obtain ⟨v, rfl, hn, hbl⟩ := hh
    have hll : C.cons.length = c.n5 := t.holds.l5
    rw [List.length_map, hll] at hn
    obtain ⟨a, cp, rfl⟩ := own_form hn
    exact ⟨a, cp, rfl, own_le hn t.st.res.lt, hbl⟩)
  obtain ⟨yh, HHv⟩ : ∃ yh, Hid (yh = (C.cons.map (litV vs)).all id) := ⟨_, rfl⟩
  have H6 : Hid (∀ A K W, RowB W A (C.cons.map (litV vs)) → Calls Try.prog 51 #[.slice A c.n5 K] W fun e w' => e = .returned (.bool yh) ∧ Below W.heap.size W w') := fun A K W hr => by
    rw [HHv.out]; exact (rEvery_any A c.n5 K _ W hr (by rw [List.length_map]; exact HL.out.l5) (by omega)).mono (fun e w' hh => ⟨hh.1, by rw [hh.2]; exact Below.refl _ _⟩)
  have hcv : c.v = .agg #[.int .i64 c.m, .slice c.a1 c.n1 c.c1, .slice c.a2 c.n2 c.c2, .slice c.a3 c.n3 c.c3, .slice c.a4 c.n4 c.c4, .slice c.a5 c.n5 c.c5, .slice c.a6 c.n6 c.c6, .slice c.a7 c.n7 c.c7] := rfl
  rw [hcv] at HC H0 H3 ⊢
  clear hcv
  go_enter Try.func18, Try.ntmps18
  go_wp2_with fail
  refine (HC.out _ S0.out.below).mono ?_
  rintro e w1 ⟨g, rfl, hsg, hb1⟩
  have T1 : Hid (ESr w c C w.heap.size g n vs w1) := ⟨HL.out.below (belowThen S0.out.below hb1), S0.out.then hb1, hsg⟩
  have T0 : ESr w c C w.heap.size g n vs w1.drew := T1.out.then (Drew.below ⟨1, rfl⟩)
  clear S0 HC hb1 hsg
  go_wp2
  --REG
  refine wp_region_held_drew (S := (fun w' => w'.cell? ⟨w.heap.size, 0, none⟩ = some (.int .i64 c.m) ∧ w'.cell? ⟨w.heap.size, 1, none⟩ = some (.slice c.a1 c.n1 c.c1) ∧ w'.cell? ⟨w.heap.size, 2, none⟩ = some (.slice c.a2 c.n2 c.c2) ∧ w'.cell? ⟨w.heap.size, 3, none⟩ = some (.slice c.a3 c.n3 c.c3) ∧ w'.cell? ⟨w.heap.size, 4, none⟩ = some (.slice c.a4 c.n4 c.c4) ∧ w'.cell? ⟨w.heap.size, 5, none⟩ = some (.slice c.a5 c.n5 c.c5) ∧ w'.cell? ⟨w.heap.size, 6, none⟩ = some (.slice c.a6 c.n6 c.c6) ∧ w'.cell? ⟨w.heap.size, 7, none⟩ = some (.slice c.a7 c.n7 c.c7))) (by kernel_rfl) T0.st.box.cells (fun hHeld => ?_)
  refine wpAnyH_take (i := 0) (oi := { dst := some 21, op := Op.move (Operand.tmp 8), type := 28, pos := "sim.go:85", after := #[], guard := none }) (v := ?_) rfl (by kernel_rfl) (by kernel_rfl) (by kernel_rfl) (fun _ _ _ h => h) (Or.inl ⟨by rfl, ?_⟩) (by assumption) ?_
  rotate_left
  · (intro w0 hSw; (try dsimp only at hSw); go_simp; try with_reducible rfl)
  try simp only [Act.put, List.setIfInBounds_toArray, List.set_cons_zero, List.set_cons_succ]
  refine wpAnyH_take (i := 1) (oi := { dst := some 22, op := Op.load 27 (Operand.tmp 3), type := 27, pos := "sim.go:85", after := #[], guard := none }) (v := ?_) rfl (by kernel_rfl) (by kernel_rfl) (by kernel_rfl) (fun _ _ _ h => h) (Or.inl ⟨by rfl, ?_⟩) (by assumption) ?_
  rotate_left
  · (intro w0 hSw; (try dsimp only at hSw); go_simp; try with_reducible rfl)
  try simp only [Act.put, List.setIfInBounds_toArray, List.set_cons_zero, List.set_cons_succ]
  refine wpAnyH_take (i := 4) (oi := { dst := some 25, op := Op.move (Operand.tmp 8), type := 28, pos := "sim.go:85", after := #[], guard := none }) (v := ?_) rfl (by kernel_rfl) (by kernel_rfl) (by kernel_rfl) (fun _ _ _ h => h) (Or.inl ⟨by rfl, ?_⟩) (by assumption) ?_
  rotate_left
  · (intro w0 hSw; (try dsimp only at hSw); go_simp; try with_reducible rfl)
  try simp only [Act.put, List.setIfInBounds_toArray, List.set_cons_zero, List.set_cons_succ]
  refine wpAnyH_take (i := 5) (oi := { dst := some 26, op := Op.fieldAddr 27 (Operand.tmp 3) 3, type := 0, pos := "sim.go:85", after := #[], guard := none }) (v := ?_) rfl (by kernel_rfl) (by kernel_rfl) (by kernel_rfl) (fun _ _ _ h => h) (Or.inl ⟨by rfl, ?_⟩) (by assumption) ?_
  rotate_left
  · (intro w0 hSw; (try dsimp only at hSw); go_simp; try with_reducible rfl)
  try simp only [Act.put, List.setIfInBounds_toArray, List.set_cons_zero, List.set_cons_succ]
  refine wpAnyH_take (i := 6) (oi := { dst := some 27, op := Op.load 22 (Operand.tmp 26), type := 22, pos := "sim.go:85", after := #[{ on := 5, ground := Ground.data }], guard := none }) (v := ?_) rfl (by kernel_rfl) (by kernel_rfl) (by kernel_rfl) (fun _ _ _ h => h) (Or.inl ⟨by rfl, ?_⟩) (by assumption) ?_
  rotate_left
  · (intro w0 hSw; (try dsimp only at hSw); go_simp; try with_reducible rfl)
  try simp only [Act.put, List.setIfInBounds_toArray, List.set_cons_zero, List.set_cons_succ]
  refine wpAnyH_take (i := 8) (oi := { dst := some 29, op := Op.move (Operand.tmp 8), type := 28, pos := "sim.go:85", after := #[], guard := none }) (v := ?_) rfl (by kernel_rfl) (by kernel_rfl) (by kernel_rfl) (fun _ _ _ h => h) (Or.inl ⟨by rfl, ?_⟩) (by assumption) ?_
  rotate_left
  · (intro w0 hSw; (try dsimp only at hSw); go_simp; try with_reducible rfl)
  try simp only [Act.put, List.setIfInBounds_toArray, List.set_cons_zero, List.set_cons_succ]
  refine wpAnyH_take (i := 9) (oi := { dst := some 30, op := Op.load 27 (Operand.tmp 3), type := 27, pos := "sim.go:85", after := #[], guard := none }) (v := ?_) rfl (by kernel_rfl) (by kernel_rfl) (by kernel_rfl) (fun _ _ _ h => h) (Or.inl ⟨by rfl, ?_⟩) (by assumption) ?_
  rotate_left
  · (intro w0 hSw; (try dsimp only at hSw); go_simp; try with_reducible rfl)
  try simp only [Act.put, List.setIfInBounds_toArray, List.set_cons_zero, List.set_cons_succ]
  refine wpAnyH_take (i := 12) (oi := { dst := some 33, op := Op.move (Operand.tmp 8), type := 28, pos := "sim.go:85", after := #[], guard := none }) (v := ?_) rfl (by kernel_rfl) (by kernel_rfl) (by kernel_rfl) (fun _ _ _ h => h) (Or.inl ⟨by rfl, ?_⟩) (by assumption) ?_
  rotate_left
  · (intro w0 hSw; (try dsimp only at hSw); go_simp; try with_reducible rfl)
  try simp only [Act.put, List.setIfInBounds_toArray, List.set_cons_zero, List.set_cons_succ]
  refine wpAnyH_take (i := 13) (oi := { dst := some 34, op := Op.fieldAddr 27 (Operand.tmp 3) 5, type := 0, pos := "sim.go:85", after := #[], guard := none }) (v := ?_) rfl (by kernel_rfl) (by kernel_rfl) (by kernel_rfl) (fun _ _ _ h => h) (Or.inl ⟨by rfl, ?_⟩) (by assumption) ?_
  rotate_left
  · (intro w0 hSw; (try dsimp only at hSw); go_simp; try with_reducible rfl)
  try simp only [Act.put, List.setIfInBounds_toArray, List.set_cons_zero, List.set_cons_succ]
  refine wpAnyH_take (i := 14) (oi := { dst := some 35, op := Op.load 22 (Operand.tmp 34), type := 22, pos := "sim.go:85", after := #[{ on := 13, ground := Ground.data }], guard := none }) (v := ?_) rfl (by kernel_rfl) (by kernel_rfl) (by kernel_rfl) (fun _ _ _ h => h) (Or.inl ⟨by rfl, ?_⟩) (by assumption) ?_
  rotate_left
  · (intro w0 hSw; (try dsimp only at hSw); go_simp; try with_reducible rfl)
  try simp only [Act.put, List.setIfInBounds_toArray, List.set_cons_zero, List.set_cons_succ]
  refine wpAnyH_ready (rs := [2]) (by kernel_rfl) (by simp) ?_
  refine AllReadyH.cons (o := { dst := some 23, op := Op.call { callee := Callee.value (Operand.func 49), args := #[Operand.tmp 22], argTypes := #[27] }, type := 22, pos := "sim.go:85", after := #[{ on := 1, ground := Ground.data }], guard := none }) rfl (fun KZ hKZ => ?_) ?_
  · skip
    go_simp
    go_at_call 49
    refine (H0.out g _ T0).mono ?_
    rintro e v0 ⟨A0, K0, rfl, hr0, hb⟩
    have t0 := T0.then hb
    have HR0 := hide hr0
    clear hr0 hb
    go_wp2_with fail
    refine hKZ.out _ _ ?_ (fun hHeld => ?_)
    · exact t0.st.box.cells
    clear hKZ KZ
    try simp only [Act.put, List.setIfInBounds_toArray, List.set_cons_zero, List.set_cons_succ]
    refine wpAnyH_ready (rs := [3]) (by kernel_rfl) (by simp) ?_
    refine AllReadyH.cons (o := { dst := some 24, op := Op.call { callee := Callee.value (Operand.func 48), args := #[Operand.tmp 21, Operand.tmp 23], argTypes := #[28, 22] }, type := 28, pos := "sim.go:85", after := #[{ on := 0, ground := Ground.data }, { on := 2, ground := Ground.data }, { on := 2, ground := Ground.chain }], guard := none }) rfl (fun KZ hKZ => ?_) ?_
    · skip
      go_simp
      go_at_call 48
      refine (H1.out g A0 K0 _ t0 HR0.out).mono ?_
      rintro e v1 ⟨A1, K1, rfl, ho, hb⟩
      have t1 := t0.then hb
      have O1 := hide ho
      clear ho hb
      go_wp2_with fail
      refine hKZ.out _ _ ?_ (fun hHeld => ?_)
      · exact t1.st.box.cells
      clear hKZ KZ
      try simp only [Act.put, List.setIfInBounds_toArray, List.set_cons_zero, List.set_cons_succ]
      refine wpAnyH_ready (rs := [7]) (by kernel_rfl) (by simp) ?_
      refine AllReadyH.cons (o := { dst := some 28, op := Op.call { callee := Callee.value (Operand.func 48), args := #[Operand.tmp 25, Operand.tmp 27], argTypes := #[28, 22] }, type := 28, pos := "sim.go:85", after := #[{ on := 4, ground := Ground.data }, { on := 6, ground := Ground.data }, { on := 3, ground := Ground.chain }], guard := none }) rfl (fun KZ hKZ => ?_) ?_
      · skip
        go_simp
        go_at_call 48
        refine (H2.out g _ _ _ t1 t1.holds.r3).mono ?_
        rintro e v2 ⟨A2, K2, rfl, ho, hb⟩
        have t2 := t1.then hb
        replace O1 := hide (own_below O1.out hb)
        have O2 := hide ho
        clear ho hb
        go_wp2_with fail
        refine hKZ.out _ _ ?_ (fun hHeld => ?_)
        · exact t2.st.box.cells
        clear hKZ KZ
        try simp only [Act.put, List.setIfInBounds_toArray, List.set_cons_zero, List.set_cons_succ]
        refine wpAnyH_ready (rs := [10]) (by kernel_rfl) (by simp) ?_
        refine AllReadyH.cons (o := { dst := some 31, op := Op.call { callee := Callee.value (Operand.func 50), args := #[Operand.tmp 30], argTypes := #[27] }, type := 22, pos := "sim.go:85", after := #[{ on := 9, ground := Ground.data }, { on := 7, ground := Ground.chain }], guard := none }) rfl (fun KZ hKZ => ?_) ?_
        · skip
          go_simp
          go_at_call 50
          refine (H3.out g _ t2).mono ?_
          rintro e v3 ⟨A3, K3, rfl, hr3, hb⟩
          have t3 := t2.then hb
          replace O1 := hide (own_below O1.out hb)
          replace O2 := hide (own_below O2.out hb)
          have HR3 := hide hr3
          clear hr3 hb
          go_wp2_with fail
          refine hKZ.out _ _ ?_ (fun hHeld => ?_)
          · exact t3.st.box.cells
          clear hKZ KZ
          try simp only [Act.put, List.setIfInBounds_toArray, List.set_cons_zero, List.set_cons_succ]
          refine wpAnyH_ready (rs := [11]) (by kernel_rfl) (by simp) ?_
          refine AllReadyH.cons (o := { dst := some 32, op := Op.call { callee := Callee.value (Operand.func 48), args := #[Operand.tmp 29, Operand.tmp 31], argTypes := #[28, 22] }, type := 28, pos := "sim.go:85", after := #[{ on := 8, ground := Ground.data }, { on := 10, ground := Ground.data }, { on := 10, ground := Ground.chain }], guard := none }) rfl (fun KZ hKZ => ?_) ?_
          · skip
            go_simp
            go_at_call 48
            refine (H4.out g A3 K3 _ t3 HR3.out).mono ?_
            rintro e v4 ⟨A4, K4, rfl, ho, hb⟩
            have t4 := t3.then hb
            replace O1 := hide (own_below O1.out hb)
            replace O2 := hide (own_below O2.out hb)
            have O3 := hide ho
            clear ho hb
            go_wp2_with fail
            refine hKZ.out _ _ ?_ (fun hHeld => ?_)
            · exact t4.st.box.cells
            clear hKZ KZ
            try simp only [Act.put, List.setIfInBounds_toArray, List.set_cons_zero, List.set_cons_succ]
            refine wpAnyH_ready (rs := [15]) (by kernel_rfl) (by simp) ?_
            refine AllReadyH.cons (o := { dst := some 36, op := Op.call { callee := Callee.value (Operand.func 48), args := #[Operand.tmp 33, Operand.tmp 35], argTypes := #[28, 22] }, type := 28, pos := "sim.go:85", after := #[{ on := 12, ground := Ground.data }, { on := 14, ground := Ground.data }, { on := 11, ground := Ground.chain }], guard := none }) rfl (fun KZ hKZ => ?_) ?_
            · skip
              go_simp
              go_at_call 48
              refine (H5.out g _ _ _ t4 t4.holds.r5).mono ?_
              rintro e v5 ⟨A5, K5, rfl, ho, hb⟩
              have t5 := t4.then hb
              replace O1 := hide (own_below O1.out hb)
              replace O2 := hide (own_below O2.out hb)
              replace O3 := hide (own_below O3.out hb)
              have HR5 := hide (rowC_own' ho).1
              clear ho hb
              go_wp2_with fail
              refine hKZ.out _ _ ?_ (fun hHeld => ?_)
              · exact t5.st.box.cells
              clear hKZ KZ
              try simp only [Act.put, List.setIfInBounds_toArray, List.set_cons_zero, List.set_cons_succ]
              refine wpAnyH_ready (rs := [16]) (by kernel_rfl) (by simp) ?_
              refine AllReadyH.cons (o := { dst := some 37, op := Op.call { callee := Callee.value (Operand.func 51), args := #[Operand.tmp 36], argTypes := #[28] }, type := 4, pos := "sim.go:85", after := #[{ on := 15, ground := Ground.data }, { on := 15, ground := Ground.chain }], guard := none }) rfl (fun KZ hKZ => ?_) ?_
              · skip
                go_simp
                go_at_call 51
                refine (H6.out A5 K5 _ HR5.out).mono ?_
                rintro e v6 ⟨rfl, hb⟩
                have t6 := t5.then hb
                replace O1 := hide (own_below O1.out hb)
                replace O2 := hide (own_below O2.out hb)
                replace O3 := hide (own_below O3.out hb)
                clear hb
                obtain ⟨q0, q1, q2, q3⟩ := t6.st.res.cells
                have f0 := rbox_frozen t6.st.res 0
                have f1 := rbox_frozen t6.st.res 1
                have f2 := rbox_frozen t6.st.res 2
                have f3 := rbox_frozen t6.st.res 3
                go_wp2_with fail
                refine hKZ.out _ _ ?_ (fun hHeld => ?_)
                · exact t6.st.box.cells
                clear hKZ KZ
                try simp only [Act.put, List.setIfInBounds_toArray, List.set_cons_zero, List.set_cons_succ]
                refine wpAnyH_take (i := 17) (oi := { dst := some 38, op := Op.build 37 #[(0, Operand.tmp 24), (1, Operand.tmp 28), (2, Operand.tmp 32), (3, Operand.tmp 37)], type := 37, pos := "sim.go:85", after := #[{ on := 3, ground := Ground.data }, { on := 7, ground := Ground.data }, { on := 11, ground := Ground.data }, { on := 16, ground := Ground.data }], guard := none }) (v := ?_) rfl (by kernel_rfl) (by kernel_rfl) (by kernel_rfl) (fun _ _ _ h => h) (Or.inl ⟨by rfl, ?_⟩) (by assumption) ?_
                rotate_left
                · (intro w0 hSw; (try dsimp only at hSw); go_simp; try with_reducible rfl)
                try simp only [Act.put, List.setIfInBounds_toArray, List.set_cons_zero, List.set_cons_succ]
                refine wpAnyH_ready (rs := [18]) (by kernel_rfl) (by simp) ?_
                refine AllReadyH.cons (o := { dst := none, op := Op.store 37 (Operand.tmp 6) (Operand.tmp 38), type := 0, pos := "sim.go:85", after := #[{ on := 17, ground := Ground.data }, { on := 16, ground := Ground.chain }, { on := 0, ground := Ground.phase }, { on := 1, ground := Ground.phase }, { on := 2, ground := Ground.phase }, { on := 3, ground := Ground.phase }, { on := 4, ground := Ground.phase }, { on := 5, ground := Ground.phase }, { on := 6, ground := Ground.phase }, { on := 7, ground := Ground.phase }, { on := 8, ground := Ground.phase }, { on := 9, ground := Ground.phase }, { on := 10, ground := Ground.phase }, { on := 11, ground := Ground.phase }, { on := 12, ground := Ground.phase }, { on := 13, ground := Ground.phase }, { on := 14, ground := Ground.phase }, { on := 15, ground := Ground.phase }, { on := 16, ground := Ground.phase }, { on := 17, ground := Ground.phase }], guard := none }) rfl (fun KZ hKZ => ?_) ?_
                · skip
                  go_simp
                  refine hKZ.out _ _ ?_ (fun hHeld => ?_)
                  · exact (box_four t6.st.box _ _ _ _).cells
                  clear hKZ KZ
                  try simp only [Act.put, List.setIfInBounds_toArray, List.set_cons_zero, List.set_cons_succ]
                  refine wpAnyH_ready (rs := [19]) (by kernel_rfl) (by simp) ?_
                  refine AllReadyH.cons (o := { dst := some 7, op := Op.assign (Operand.const (Value.int IntKind.i64 0)), type := 3, pos := "sim.go:85", after := #[{ on := 18, ground := Ground.chain }, { on := 0, ground := Ground.phase }, { on := 1, ground := Ground.phase }, { on := 2, ground := Ground.phase }, { on := 3, ground := Ground.phase }, { on := 4, ground := Ground.phase }, { on := 5, ground := Ground.phase }, { on := 6, ground := Ground.phase }, { on := 7, ground := Ground.phase }, { on := 8, ground := Ground.phase }, { on := 9, ground := Ground.phase }, { on := 10, ground := Ground.phase }, { on := 11, ground := Ground.phase }, { on := 12, ground := Ground.phase }, { on := 13, ground := Ground.phase }, { on := 14, ground := Ground.phase }, { on := 15, ground := Ground.phase }, { on := 16, ground := Ground.phase }, { on := 17, ground := Ground.phase }, { on := 18, ground := Ground.phase }], guard := none }) rfl (fun KZ hKZ => ?_) ?_
                  · skip
                    go_simp
                    refine hKZ.out _ _ ?_ (fun hHeld => ?_)
                    · exact (box_four t6.st.box _ _ _ _).cells
                    clear hKZ KZ
                    try simp only [Act.put, List.setIfInBounds_toArray, List.set_cons_zero, List.set_cons_succ]
                    refine wpAnyH_done (by kernel_rfl) ?_ _
                    go_wp2
                    have hb := hide (rbox_put ⟨A1, c.n2, K1, A2, c.n3, K2, A4, nb, K4, yh⟩ t6.st.res)
                    have ht := hide (two_putR v6 (w.heap.size + 1) ⟨A1, c.n2, K1, A2, c.n3, K2, A4, nb, K4, yh⟩)
                    have hbel : Hid (Below w.heap.size w (putRow v6 (w.heap.size + 1) ⟨A1, c.n2, K1, A2, c.n3, K2, A4, nb, K4, yh⟩)) := ht.out.below t6.st.below (Nat.le_refl _) (Nat.le_succ _) (Nat.le_succ _)
                    clear q0 q1 q2 q3 f0 f1 f2 f3 hHeld
                    show bodyPost _ _ _ _ _ (putRow v6 (w.heap.size + 1) ⟨A1, c.n2, K1, A2, c.n3, K2, A4, nb, K4, yh⟩)
                    have R1 := hide (rowC_own' (own_two O1.out ht.out (Nat.lt_succ_self _) (Nat.lt_succ_self _)))
                    have R2 := hide (rowC_own' (own_two O2.out ht.out (Nat.lt_succ_self _) (Nat.lt_succ_self _)))
                    have R3 := hide (rowC_own' (own_two O3.out ht.out (Nat.lt_succ_self _) (Nat.lt_succ_self _)))
                    clear t0 t1 t2 t3 t4 t5 t6 T0 T1 H0 H1 H2 H3 H4 H5 H6 O1 O2 O3 HR0 HR3 HR5
                    generalize putRow v6 (w.heap.size + 1) ⟨A1, c.n2, K1, A2, c.n3, K2, A4, nb, K4, yh⟩ = Wf at *
                    obtain ⟨r0, r1, r2, r3⟩ := hb.out.cells
                    dsimp only at r0 r1 r2 r3
                    refine bodyPost_ret (v := .tuple #[.agg #[.slice A1 c.n2 K1, .slice A2 c.n3 K2, .slice A4 nb K4, .bool yh], .int .i64 0]) (by simp [results, Try.results18, go_sem, *]) rfl ?_
                    refine ⟨⟨A1, c.n2, K1, A2, c.n3, K2, A4, nb, K4, yh⟩, rfl, ⟨R1.out.1, ?_, R2.out.1, ?_, R3.out.1, ?_, ?_⟩, hbel.out⟩
                    · show (C.nexts.map (litV vs)).length = c.n2; unfold Circ.nexts; rw [List.length_map, List.length_map]; exact HL.out.l2
                    · show (C.outs.map (litV vs)).length = c.n3; rw [List.length_map]; exact HL.out.l3
                    · show (C.badsOr.map (litV vs)).length = nb; rw [List.length_map]; exact HNb.out.symm
                    · show C.cons.all (litV vs) = yh; rw [HHv.out, List.all_map]; rfl
                  exact AllReadyH.nil
                exact AllReadyH.nil
              exact AllReadyH.nil
            exact AllReadyH.nil
          exact AllReadyH.nil
        exact AllReadyH.nil
      exact AllReadyH.nil
    exact AllReadyH.nil
  exact AllReadyH.nil
  --GER

theorem rStep_any (c : CV) (C : Circ) (w : World) (sa ia : Option Addr) (sn sc inn ic : Nat) (st is : List Bool) (h : Holds w c C) (hck : ∀ W, Below w.heap.size w W → Calls Try.prog 24 #[c.v] W fun e w' => e = .returned (.int .i64 C.checkI) ∧ Below W.heap.size W w') (hs : RowB w sa st) (hsl : st.length = sn) (hi : RowB w ia is) (hil : is.length = inn) :
    Calls Try.prog 18 #[c.v, .slice sa sn sc, .slice ia inn ic] w (StepPost w C st is) := by
  by_cases hg : C.stepI st is = 0
  · exact rStep_good c C w sa ia sn sc inn ic st is h hck hs hsl hi hil hg
  · exact rStep_bad c C w sa ia sn sc inn ic st is h hck hs hsl hi hil hg
end Go.Proofs.Ytmbbcghhdjpgeaa
