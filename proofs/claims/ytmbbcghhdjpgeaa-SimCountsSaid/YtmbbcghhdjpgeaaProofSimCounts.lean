/-
  PROVED: the law SimCounts answers true at all numbers: a counter of n bits, stepped from nothing, tells how many steps were taken, modulo 2 to the n. No condition.
  THE WALKS of the law SimCounts' Counter and of the reference's Number.
  THE WALKS of the reference's Number and of the law SimCounts.
-/
import Derived.Test.YtmbbcghhdjpgeaaCntP
import Derived.Test.YtmbbcghhdjpgeaaSimF
import Derived.Test.YtmbbcghhdjpgeaaOwnQ
import Derived.Test.YtmbbcghhdjpgeaaOwn

namespace Go.Proofs.Ytmbbcghhdjpgeaa
open Go.RowKit

def cntCV (i : Nat) (a2 : Option Addr) (k2 : Nat) (a6 : Option Addr) (k6 : Nat) : CV := ⟨0, none, 0, 0, a2, i, k2, none, 0, 0, none, 0, 0, none, 0, 0, a6, 3 * i, k6, none, 0, 0⟩
/-- A counter's circuit while it is made: j Latches, i times three Ands. -/
structure CntS (w0 : World) (n i j : Nat) (a2 : Option Addr) (k2 : Nat) (a6 : Option Addr) (k6 : Nat) (wr : World) : Prop where
  box : Box wr (w0.heap.size + 1) ⟨0, none, 0, 0, a2, j, k2, none, 0, 0, none, 0, 0, none, 0, 0, a6, 3 * i, k6, none, 0, 0⟩
  res : Box wr w0.heap.size CV.nil
  lats : wr.ownsRow (w0.heap.size + 2) 88 3 (.slice a2 j k2) j (cellsT (cntLats n j))
  ands : wr.ownsRow (w0.heap.size + 2) 58 3 (.slice a6 (3 * i) k6) (3 * i) (cellsT (cntAnds n i))
  below : Below w0.heap.size w0 wr
theorem CntS.big {w0 wr : World} {n i j : Nat} {a2 a6 : Option Addr} {k2 k6 : Nat} (h : CntS w0 n i j a2 k2 a6 k6 wr) : w0.heap.size + 2 ≤ wr.heap.size := h.box.lt
theorem CntS.alloc {w0 wr : World} {n i j : Nat} {a2 a6 : Option Addr} {k2 k6 : Nat} (h : CntS w0 n i j a2 k2 a6 k6 wr) (o : Obj) : CntS w0 n i j a2 k2 a6 k6 (wr.alloc o) :=
  ⟨h.box.alloc o, h.res.alloc o, h.lats.alloc o, h.ands.alloc o, belowThen h.below (below_alloc wr o)⟩
theorem CntS.putAnds {w0 wr w6 : World} {n i j : Nat} {a2 a6 b6 : Option Addr} {k2 k6 l6 : Nat} (h : CntS w0 n i j a2 k2 a6 k6 wr) (hg : wr.grownBy w6 (Value.slice a6 (3 * i) k6).ownBlock)
    (ho : w6.ownsRow (w0.heap.size + 2) 58 3 (.slice b6 (3 * i + 3) l6) (3 * i + 3) (cellsT (cntAnds n (i + 1)))) : CntS w0 n (i + 1) j a2 k2 b6 l6 (w6.setCell ⟨w0.heap.size + 1, 6, none⟩ (.slice b6 (3 * i + 3) l6)) := by
  have hne : ∀ k, k < w0.heap.size + 2 → (Value.slice a6 (3 * i) k6).ownBlock ≠ some k := fun k hk e => by have := (h.ands.lt k e).1; omega
  have hb6 := h.box.grown hg (hne _ (by omega))
  have hr6 := h.res.grown hg (hne _ (by omega))
  have hl6 := own_grown h.lats h.ands (by decide) hg
  refine ⟨box_eight hb6 6 _ rfl, (heap_setCell_other w6 ⟨w0.heap.size + 1, 6, none⟩ w0.heap.size _ (by show w0.heap.size ≠ w0.heap.size + 1; omega)).trans hr6, own_cellQ hl6 hb6 (by decide), own_cellQ ho hb6 (by decide), ?_⟩
  exact (h.below.grown hg h.below.size (fun k hk => by have := (h.ands.lt k hk).1; omega)).setCell (p := ⟨w0.heap.size + 1, 6, none⟩) (by show w0.heap.size ≤ w0.heap.size + 1; omega) _
theorem CntS.putLats {w0 wr w6 : World} {n i j : Nat} {a2 a6 b2 : Option Addr} {k2 k6 l2 : Nat} (h : CntS w0 n i j a2 k2 a6 k6 wr) (hg : wr.grownBy w6 (Value.slice a2 j k2).ownBlock)
    (ho : w6.ownsRow (w0.heap.size + 2) 88 3 (.slice b2 (j + 1) l2) (j + 1) (cellsT (cntLats n (j + 1)))) : CntS w0 n i (j + 1) b2 l2 a6 k6 (w6.setCell ⟨w0.heap.size + 1, 2, none⟩ (.slice b2 (j + 1) l2)) := by
  have hne : ∀ k, k < w0.heap.size + 2 → (Value.slice a2 j k2).ownBlock ≠ some k := fun k hk e => by have := (h.lats.lt k e).1; omega
  have hb6 := h.box.grown hg (hne _ (by omega))
  have hr6 := h.res.grown hg (hne _ (by omega))
  have hl6 := own_grown h.ands h.lats (by decide) hg
  refine ⟨box_eight hb6 2 _ rfl, (heap_setCell_other w6 ⟨w0.heap.size + 1, 2, none⟩ w0.heap.size _ (by show w0.heap.size ≠ w0.heap.size + 1; omega)).trans hr6, own_cellQ ho hb6 (by decide), own_cellQ hl6 hb6 (by decide), ?_⟩
  exact (h.below.grown hg h.below.size (fun k hk => by have := (h.lats.lt k hk).1; omega)).setCell (p := ⟨w0.heap.size + 1, 2, none⟩) (by show w0.heap.size ≤ w0.heap.size + 1; omega) _
theorem CntS.boxAnds {w0 wr w6 : World} {n i j : Nat} {a2 a6 : Option Addr} {k2 k6 : Nat} (h : CntS w0 n i j a2 k2 a6 k6 wr) (hg : wr.grownBy w6 (Value.slice a6 (3 * i) k6).ownBlock) : Box w6 (w0.heap.size + 1) ⟨0, none, 0, 0, a2, j, k2, none, 0, 0, none, 0, 0, none, 0, 0, a6, 3 * i, k6, none, 0, 0⟩ :=
  h.box.grown hg (fun e => by have := (h.ands.lt _ e).1; omega)
theorem CntS.boxLats {w0 wr w6 : World} {n i j : Nat} {a2 a6 : Option Addr} {k2 k6 : Nat} (h : CntS w0 n i j a2 k2 a6 k6 wr) (hg : wr.grownBy w6 (Value.slice a2 j k2).ownBlock) : Box w6 (w0.heap.size + 1) ⟨0, none, 0, 0, a2, j, k2, none, 0, 0, none, 0, 0, none, 0, 0, a6, 3 * i, k6, none, 0, 0⟩ :=
  h.box.grown hg (fun e => by have := (h.lats.lt _ e).1; omega)
theorem cnt_start (w : World) (n : Nat) : CntS w n 0 0 none 0 none 0 ((w.alloc (.cells #[.int .i64 0, .slice none 0 0, .slice none 0 0, .slice none 0 0, .slice none 0 0, .slice none 0 0, .slice none 0 0, .slice none 0 0] 27)).alloc (.cells #[.int .i64 0, .slice none 0 0, .slice none 0 0, .slice none 0 0, .slice none 0 0, .slice none 0 0, .slice none 0 0, .slice none 0 0] 27)) := by
  refine ⟨?_, (box_new w CV.nil).alloc _, ⟨rfl, .inl ⟨rfl, rfl⟩⟩, ⟨rfl, .inl ⟨rfl, rfl⟩⟩, belowThen (below_alloc w _) (below_alloc _ _)⟩
  have := box_new (w.alloc (.cells #[.int .i64 0, .slice none 0 0, .slice none 0 0, .slice none 0 0, .slice none 0 0, .slice none 0 0, .slice none 0 0, .slice none 0 0] 27)) CV.nil
  have e : ∀ o, (w.alloc o).heap.size = w.heap.size + 1 := fun o => by simp
  rw [e] at this
  exact this

theorem xor_car {n i : Nat} (hn : n ≤ 10) (hi : i < 11) : bits .xor .i64 (carL n i) 1 = carN n i := by
  have : ∀ n, n < 11 → ∀ i, i < 11 → bits .xor .i64 (carL n i) 1 = carN n i := by decide +kernel
  exact this n (by omega) i hi

set_option maxRecDepth 100000 in
set_option maxHeartbeats 4000000 in
theorem counter_any (n : Nat) (w : World) (hn : n ≤ 10) :
    Calls Try.prog 26 #[.int .i64 n, .int .i64 0] w fun e w' => ∃ d : CV, e = .returned d.v ∧ Holds w' d (cntC n) ∧ Fits d (cntC n) ∧ Below w.heap.size w w' := by
  obtain ⟨i2, hi2, hy0, hy1, hy2⟩ := info_parts infoT2
  obtain ⟨i6, hi6, hz0, hz1, hz2⟩ := info_parts infoT6
  have HM0 := hide (cnt_start w n)
  have HX := hide (fun i (h : i < 11) => xor_car (n := n) hn h)
  generalize hP : (fun (e : Ending) (w' : World) => ∃ d : CV, e = .returned d.v ∧ Holds w' d (cntC n) ∧ Fits d (cntC n) ∧ Below w.heap.size w w') = Post
  have HP := hide hP
  clear hP
  go_enter Try.func26, Try.ntmps26
  go_wp2
  go_loopw [6, 7, 8, 9] (fun v cr i _ wr => ∃ (k : Nat) (a2 a6 : Option Addr) (k2 k6 : Nat), v = .int .i64 ((n + 3 * k : Nat) : Int) ∧ cr = .int .i64 (carL n k) ∧ i = .int .i64 k ∧ k ≤ n ∧ Hid (CntS w n k k a2 k2 a6 k6 wr)) (fun _ _ i _ _ => n - (intOf i).toNat)
  case atStart => exact ⟨0, none, none, 0, 0, rfl, rfl, rfl, Nat.zero_le _, HM0.out⟩
  case round =>
    clear HM0
    obtain ⟨k, a2, a6, k2, k6, rfl, rfl, rfl, hk, HM⟩ := hrel
    by_cases hlt : k < n
    · have hx := HX.out k (by omega)
      have hcr : Hid (carL n (k + 1) = 2 * (((n + 3 * k : Nat) : Int) + 1)) := by
        show carL n (k + 1) = _
        unfold carL
        rw [if_neg (by omega)]
        omega
      have hAn : Hid (∀ v : Nat, v = n + 3 * k → cntAnds n (k + 1) = cntAnds n k ++ [(2 * ((v : Int) + 1), 2 * ((k : Int) + 1), carL n k), (2 * ((v : Int) + 2), 2 * ((k : Int) + 1) + 1, carN n k), (2 * ((v : Int) + 3), 2 * ((v : Int) + 1) + 1, 2 * ((v : Int) + 2) + 1)] ∧ cntLats n (k + 1) = cntLats n k ++ [(2 * ((k : Int) + 1), 2 * ((v : Int) + 3), 0)]) := fun v hv => by subst hv; exact ⟨rfl, rfl⟩
      have hcl : 0 ≤ carL n k ∧ carL n k ≤ 1000 := by unfold carL; split <;> omega
      obtain ⟨p0, p1, p2, p3, p4, p5, p6, p7⟩ := HM.out.box.cells
      dsimp only at p0 p1 p2 p3 p4 p5 p6 p7
      generalize carL n k = cr at hx hAn hcl ⊢
      generalize carN n k = cn at hx hAn
      obtain ⟨v, hv⟩ : ∃ v, v = n + 3 * k := ⟨_, rfl⟩
      rw [← hv] at hcr ⊢
      have hv4 : v ≤ 100 := by omega
      have HV := hide hv
      replace hAn := hide (hAn.out v hv)
      obtain ⟨hc0, hc1⟩ := hcl
      clear hv
      go_wp2_with (first | (at_builtin; refine wpList_append_rowC _ rfl (.tmp 22) (.tmp 49) 24 rfl (w.heap.size + 2) 58 i6 (.agg #[.int .i64 0, .int .i64 0, .int .i64 0]) 3 24 Try.underlying24 hi6 hz0 hz1 hz2 rfl (by decide) _ (3 * k) _ rfl (HM.out.ands.alloc _) (some ⟨wr.heap.size, 0, none⟩) 3 3 (cellsT [(2 * ((v : Int) + 1), 2 * ((k : Int) + 1), cr), (2 * ((v : Int) + 2), 2 * ((k : Int) + 1) + 1, cn), (2 * ((v : Int) + 3), 2 * ((v : Int) + 1) + 1, 2 * ((v : Int) + 2) + 1)]) rfl rfl (rowT_lit [(2 * ((v : Int) + 1), 2 * ((k : Int) + 1), cr), (2 * ((v : Int) + 2), 2 * ((k : Int) + 1) + 1, cn), (2 * ((v : Int) + 3), 2 * ((v : Int) + 1) + 1, 2 * ((v : Int) + 2) + 1)] 58 rfl) (fun e => by cases e) (cellsT_one _) (by unfold maxLen; omega) (by omega) (by have := HM.out.big; simp; omega) ?_; intro v6 w6 hown6 hg6; obtain ⟨b6, l6, rfl⟩ := own_form hown6; rw [← cellsT_append, ← hAn.out.1] at hown6; have B6 := CntS.boxAnds (HM.out.alloc _) hg6; have M6 := hide (CntS.putAnds (HM.out.alloc _) hg6 hown6); obtain ⟨q0, q1, q2, q3, q4, q5, q6, q7⟩ := B6.cells; have f6 := box_frozen B6 6; obtain ⟨r0, r1, r2, r3, r4, r5, r6, r7⟩ := M6.out.box.cells; (try dsimp only at q0 q1 q2 q3 q4 q5 q6 q7 r0 r1 r2 r3 r4 r5 r6 r7); clear hown6 hg6 B6) | (at_builtin; refine wpList_append_rowC _ rfl (.tmp 53) (.tmp 59) 23 rfl (w.heap.size + 2) 88 i2 (.agg #[.int .i64 0, .int .i64 0, .int .i64 0]) 3 24 Try.underlying23 hi2 hy0 hy1 hy2 rfl (by decide) _ k _ rfl (M6.out.lats.alloc _) (some ⟨w6.heap.size, 0, none⟩) 1 1 (cellsT [(2 * ((k : Int) + 1), 2 * ((v : Int) + 3), 0)]) rfl rfl (rowT_lit [(2 * ((k : Int) + 1), 2 * ((v : Int) + 3), 0)] 88 (by simp)) (fun e => by cases e) (cellsT_one _) (by unfold maxLen; omega) (by omega) (by have := M6.out.big; simp at this ⊢; omega) ?_; intro v7 w7 hown7 hg7; obtain ⟨b2, l2, rfl⟩ := own_form hown7; rw [← cellsT_append, ← hAn.out.2] at hown7; have B7 := CntS.boxLats (M6.out.alloc _) hg7; have M7 := hide (CntS.putLats (M6.out.alloc _) hg7 hown7); obtain ⟨s0, s1, s2, s3, s4, s5, s6, s7⟩ := B7.cells; have f2 := box_frozen B7 2; (try dsimp only at s0 s1 s2 s3 s4 s5 s6 s7); clear hown7 hg7 B7))
      go_roundw
      case rel => exact ⟨k + 1, b2, b6, l2, l6, by congr 1; have := HV.out; omega, by rw [hcr.out], by go_num, by omega, M7.out⟩
      case measure => simp [intOf]; omega
    · have hkn : k = n := by omega
      subst hkn
      have hnn : Hid (k ≤ 10) := hn
      obtain ⟨m, hm⟩ : ∃ m, m = k + 3 * k := ⟨_, rfl⟩
      rw [← hm]
      have HMm := hide hm
      clear HX hk hlt hm
      go_wp2
      go_loopw [6, 10, 11] (fun v al i W => ∃ j : Nat, v = .int .i64 (m : Int) ∧ al = .int .i64 1 ∧ i = .int .i64 j ∧ j ≤ k ∧ Hid (CntS w k k k a2 k2 a6 k6 W)) (fun _ _ i _ => k - (intOf i).toNat)
      case atStart => exact ⟨0, rfl, rfl, rfl, Nat.zero_le _, HM.out⟩
      case round =>
        clear HM
        obtain ⟨j, rfl, rfl, rfl, hj, HM⟩ := hrel
        by_cases hlt : j < k
        · go_wp2
          go_roundw
          case rel => exact ⟨j + 1, rfl, rfl, by go_num, by omega, HM.out⟩
          case measure => simp [intOf]; omega
        · have hjk : j = k := by omega
          subst hjk
          have B0 := HM.out.box
          have f0 := box_frozen B0 0
          have B1 : Box (wr.setCell ⟨w.heap.size + 1, 0, none⟩ (.int .i64 (m : Int))) (w.heap.size + 1) ⟨(m : Int), none, 0, 0, a2, j, k2, none, 0, 0, none, 0, 0, none, 0, 0, a6, 3 * j, k6, none, 0, 0⟩ := box_eight B0 0 _ rfl
          have B2 := B1.alloc (.cells #[.int .i64 1] 3)
          have f4 := box_frozen B2 4
          have B3 : Box (((wr.setCell ⟨w.heap.size + 1, 0, none⟩ (.int .i64 (m : Int))).alloc (.cells #[.int .i64 1] 3)).setCell ⟨w.heap.size + 1, 4, none⟩ (.slice (some ⟨wr.heap.size, 0, none⟩) 1 1)) (w.heap.size + 1) ⟨(m : Int), none, 0, 0, a2, j, k2, none, 0, 0, some ⟨wr.heap.size, 0, none⟩, 1, 1, none, 0, 0, a6, 3 * j, k6, none, 0, 0⟩ := box_eight B2 4 _ rfl
          have R3 : Box (((wr.setCell ⟨w.heap.size + 1, 0, none⟩ (.int .i64 (m : Int))).alloc (.cells #[.int .i64 1] 3)).setCell ⟨w.heap.size + 1, 4, none⟩ (.slice (some ⟨wr.heap.size, 0, none⟩) 1 1)) w.heap.size CV.nil := (heap_setCell_other _ ⟨w.heap.size + 1, 4, none⟩ w.heap.size _ (by show w.heap.size ≠ w.heap.size + 1; omega)).trans (Box.alloc ((heap_setCell_other wr ⟨w.heap.size + 1, 0, none⟩ w.heap.size _ (by show w.heap.size ≠ w.heap.size + 1; omega)).trans HM.out.res) _)
          have hlats := own_cellQ (j := 4) (u := .slice (some ⟨wr.heap.size, 0, none⟩) 1 1) ((own_cellQ (j := 0) (u := .int .i64 (m : Int)) HM.out.lats B0 (by decide)).alloc (.cells #[.int .i64 1] 3)) B2 (by decide)
          have hands := own_cellQ (j := 4) (u := .slice (some ⟨wr.heap.size, 0, none⟩) 1 1) ((own_cellQ (j := 0) (u := .int .i64 (m : Int)) HM.out.ands B0 (by decide)).alloc (.cells #[.int .i64 1] 3)) B2 (by decide)
          have hsz : (wr.setCell ⟨w.heap.size + 1, 0, none⟩ (.int .i64 (m : Int))).heap.size = wr.heap.size := by simp
          have hbads : RowC (((wr.setCell ⟨w.heap.size + 1, 0, none⟩ (.int .i64 (m : Int))).alloc (.cells #[.int .i64 1] 3)).setCell ⟨w.heap.size + 1, 4, none⟩ (.slice (some ⟨wr.heap.size, 0, none⟩) 1 1)) (some ⟨wr.heap.size, 0, none⟩) [.int .i64 1] := by
            refine .inr ⟨_, rfl, fun q u hu => ?_⟩
            have hbig := HM.out.big
            have h1 := cell_one_at hsz.symm (.int .i64 1) 3 q u hu
            rw [add_plain, Nat.zero_add] at h1 ⊢
            exact (cell_set_other (fun e => by have := congrArg Addr.block e; simp at this; omega)).trans h1
          have hbel : Below w.heap.size w (((wr.setCell ⟨w.heap.size + 1, 0, none⟩ (.int .i64 (m : Int))).alloc (.cells #[.int .i64 1] 3)).setCell ⟨w.heap.size + 1, 4, none⟩ (.slice (some ⟨wr.heap.size, 0, none⟩) 1 1)) := (belowThen' (HM.out.below.setCell (p := ⟨w.heap.size + 1, 0, none⟩) (by show w.heap.size ≤ w.heap.size + 1; omega) _) (below_alloc _ (.cells #[.int .i64 1] 3)) (by rw [hsz]; have := HM.out.big; omega)).setCell (p := ⟨w.heap.size + 1, 4, none⟩) (by show w.heap.size ≤ w.heap.size + 1; omega) _
          have HE := hide (And.intro R3 (And.intro hlats (And.intro hands (And.intro hbads hbel))))
          have fr := fun q => box_frozen R3 q
          have g0 := fr 0
          have g1 := fr 1
          have g2 := fr 2
          have g3 := fr 3
          have g4 := fr 4
          have g5 := fr 5
          have g6 := fr 6
          have g7 := fr 7
          obtain ⟨x0, x1, x2, x3, x4, x5, x6, x7⟩ := R3.cells
          clear fr hlats hands hbads hbel hsz R3
          obtain ⟨p0, p1, p2, p3, p4, p5, p6, p7⟩ := B0.cells
          obtain ⟨s0, s1, s2, s3, s4, s5, s6, s7⟩ := B2.cells
          obtain ⟨t0, t1, t2, t3, t4, t5, t6, t7⟩ := B3.cells
          dsimp only at p0 p1 p2 p3 p4 p5 p6 p7 s0 s1 s2 s3 s4 s5 s6 s7 t0 t1 t2 t3 t4 t5 t6 t7
          go_wp2
          have hb := hide (box_put ⟨(m : Int), none, 0, 0, a2, j, k2, none, 0, 0, some ⟨wr.heap.size, 0, none⟩, 1, 1, none, 0, 0, a6, 3 * j, k6, none, 0, 0⟩ HE.out.1)
          have ht := hide (two_put (((wr.setCell ⟨w.heap.size + 1, 0, none⟩ (.int .i64 (m : Int))).alloc (.cells #[.int .i64 1] 3)).setCell ⟨w.heap.size + 1, 4, none⟩ (.slice (some ⟨wr.heap.size, 0, none⟩) 1 1)) w.heap.size ⟨(m : Int), none, 0, 0, a2, j, k2, none, 0, 0, some ⟨wr.heap.size, 0, none⟩, 1, 1, none, 0, 0, a6, 3 * j, k6, none, 0, 0⟩)
          clear x0 x1 x2 x3 x4 x5 x6 x7 g0 g1 g2 g3 g4 g5 g6 g7 p0 p1 p2 p3 p4 p5 p6 p7 s0 s1 s2 s3 s4 s5 s6 s7 t0 t1 t2 t3 t4 t5 t6 t7 f0 f4 B0 B1 B2 B3
          show bodyPost _ _ _ _ _ (putBox (((wr.setCell ⟨w.heap.size + 1, 0, none⟩ (.int .i64 (m : Int))).alloc (.cells #[.int .i64 1] 3)).setCell ⟨w.heap.size + 1, 4, none⟩ (.slice (some ⟨wr.heap.size, 0, none⟩) 1 1)) w.heap.size ⟨(m : Int), none, 0, 0, a2, j, k2, none, 0, 0, some ⟨wr.heap.size, 0, none⟩, 1, 1, none, 0, 0, a6, 3 * j, k6, none, 0, 0⟩)
          obtain ⟨-, hlats, hands, hbads, hbel⟩ := HE.out
          have hl2 := hide (rowC_own' (own_two hlats ht.out (by omega) (by omega)))
          have hl6 := hide (rowC_own' (own_two hands ht.out (by omega) (by omega)))
          have hl4 : Hid (RowC (putBox (((wr.setCell ⟨w.heap.size + 1, 0, none⟩ (.int .i64 (m : Int))).alloc (.cells #[.int .i64 1] 3)).setCell ⟨w.heap.size + 1, 4, none⟩ (.slice (some ⟨wr.heap.size, 0, none⟩) 1 1)) w.heap.size ⟨(m : Int), none, 0, 0, a2, j, k2, none, 0, 0, some ⟨wr.heap.size, 0, none⟩, 1, 1, none, 0, 0, a6, 3 * j, k6, none, 0, 0⟩) (some ⟨wr.heap.size, 0, none⟩) [.int .i64 1]) := by
            rcases hbads with ⟨h, -⟩ | ⟨x, hx, hc⟩
            · cases h
            · cases hx
              have hbig := HM.out.big
              refine .inr ⟨_, rfl, fun q u hu => ?_⟩
              have hblk := ht.out.block wr.heap.size (by simp) (by omega) (by omega)
              have h1 := hc q u hu
              rw [add_plain, Nat.zero_add] at h1 ⊢
              exact (World.cell?_of_block (a := ⟨wr.heap.size, q, none⟩) hblk).trans h1
          have hbel' := hide (ht.out.below hbel (Nat.le_refl _) (Nat.le_refl _) (Nat.le_refl _))
          clear hlats hands hbads hbel HE ht
          generalize putBox (((wr.setCell ⟨w.heap.size + 1, 0, none⟩ (.int .i64 (m : Int))).alloc (.cells #[.int .i64 1] 3)).setCell ⟨w.heap.size + 1, 4, none⟩ (.slice (some ⟨wr.heap.size, 0, none⟩) 1 1)) w.heap.size ⟨(m : Int), none, 0, 0, a2, j, k2, none, 0, 0, some ⟨wr.heap.size, 0, none⟩, 1, 1, none, 0, 0, a6, 3 * j, k6, none, 0, 0⟩ = Wf at *
          obtain ⟨r0, r1, r2, r3, r4, r5, r6, r7⟩ := hb.out.cells
          dsimp only at r0 r1 r2 r3 r4 r5 r6 r7
          refine bodyPost_ret (v := .agg #[.int .i64 (m : Int), .slice none 0 0, .slice a2 j k2, .slice none 0 0, .slice (some ⟨wr.heap.size, 0, none⟩) 1 1, .slice none 0 0, .slice a6 (3 * j) k6, .slice none 0 0]) (by simp [results, Try.results26, go_sem, *]) rfl ?_
          rw [← HP.out]
          refine ⟨⟨(m : Int), none, 0, 0, a2, j, k2, none, 0, 0, some ⟨wr.heap.size, 0, none⟩, 1, 1, none, 0, 0, a6, 3 * j, k6, none, 0, 0⟩, rfl, ⟨by show (m : Int) = ((j + 3 * j : Nat) : Int); rw [HMm.out], .inl ⟨rfl, rfl⟩, rfl, fun _ => rfl, hl2.out.1, cntLats_len j j, hl2.out.2, .inl ⟨rfl, rfl⟩, rfl, fun _ => rfl, rowK_of_C (xs := [1]) hl4.out, rfl, (fun e => by cases e), .inl ⟨rfl, rfl⟩, rfl, fun _ => rfl, hl6.out.1, cntAnds_len j j, hl6.out.2, .inl ⟨rfl, rfl⟩, rfl, fun _ => rfl⟩, ⟨Nat.zero_le _, ?_, Nat.zero_le _, ?_, Nat.zero_le _, ?_, fun s hs => by cases hs⟩, hbel'.out⟩
          · show j ≤ _; omega
          · show (1 : Nat) ≤ _; omega
          · show (-9223372036854775808 : Int) ≤ (m : Int); omega
end Go.Proofs.Ytmbbcghhdjpgeaa

namespace Go.Proofs.Ytmbbcghhdjpgeaa
open Go.RowKit

theorem or_pow : ∀ (k : Nat), k < 11 → ∀ x : Nat, x < 2 ^ k → bits .or .i64 (x : Int) (wrap64 (2 ^ k)) = ((x + 2 ^ k : Nat) : Int) := by decide +kernel

theorem wrap_pow : ∀ N : Nat, N < 11 → wrap64 (2 ^ N) = ((2 ^ N : Nat) : Int) := by decide +kernel
theorem bits_zero (N : Nat) : List.replicate N false = bitsK N 0 := by
  refine list_ext_atP (by rw [List.length_replicate, bitsK_len]) (fun i hi => ?_)
  rw [List.length_replicate] at hi
  rw [atP_replicate _ _ _ hi, bitsK_at hi, Nat.zero_testBit]

set_option maxRecDepth 100000 in
set_option maxHeartbeats 2000000 in
theorem number_any8 (la : Option Addr) (m lc : Nat) (bs : List Bool) (w : World) (hr : RowB w la bs) (hx : bs.length = m) (hm : m ≤ 10) :
    Calls Try.prog 27 #[.slice la m lc] w fun e w' => e = .returned (.int .i64 (numN bs m : Nat)) ∧ w' = w := by
  have HR := hide hr
  have HX := hide hx
  generalize hP : (fun (e : Ending) (w' : World) => e = .returned (.int .i64 (numN bs m : Nat)) ∧ w' = w) = Post
  have HP := hide hP
  clear hr hx hP
  go_enter Try.func27, Try.ntmps27
  go_wp2
  go_loop [3, 4] (fun v i => ∃ k : Nat, v = .int .i64 (numN bs k : Nat) ∧ i = .int .i64 k ∧ k ≤ m) (fun _ i => m - (intOf i).toNat)
  case atStart => exact ⟨0, rfl, rfl, Nat.zero_le _⟩
  case round =>
    obtain ⟨k, rfl, rfl, hk⟩ := hrel
    by_cases hlt : k < m
    · obtain ⟨b, off, rfl, -, hcell⟩ := HR.out.addr (by rw [HX.out]; omega)
      have hc := hcell k (by rw [HX.out]; exact hlt)
      have hN : Hid (numN bs (k + 1) = numN bs k + if atP bs k = true then 2 ^ k else 0) := rfl
      have hlt2 := numN_lt bs k
      generalize atP bs k = y at hc hN
      have ho := or_pow k (by omega) (numN bs k) hlt2
      have HO := hide ho
      clear hcell ho
      obtain ⟨x, HXx⟩ : ∃ x, Hid (x = numN bs k) := ⟨_, rfl⟩
      rw [← HXx.out] at hN HO hlt2 ⊢
      cases y with
      | false =>
        go_wp2
        go_round
        case rel => exact ⟨k + 1, by rw [hN.out]; simp, by go_num, by omega⟩
        case measure => simp [intOf]; omega
      | true =>
        go_wp2
        go_round
        case rel => exact ⟨k + 1, by rw [HO.out, hN.out]; simp, by go_num, by omega⟩
        case measure => simp [intOf]; omega
    · obtain rfl : k = m := by omega
      have hfin : Hid (Post (.returned (.int .i64 (numN bs k : Nat))) w) := by
        show Post _ w
        rw [← HP.out]
        exact ⟨rfl, rfl⟩
      go_wp2
      exact hfin.out

set_option maxRecDepth 100000 in
set_option maxHeartbeats 8000000 in
theorem simCounts_any (a b : Int) (w : World) (_ha0 : -9223372036854775808 ≤ a) (_ha1 : a ≤ 9223372036854775807) (_hb0 : -9223372036854775808 ≤ b) (_hb1 : b ≤ 9223372036854775807) :
    Calls Try.prog 6 #[.int .i64 a, .int .i64 b] w fun e w' => e = .returned (.bool true) ∧ Below w.heap.size w w' := by
  obtain ⟨i0, hi, hz0, hz1, hz2⟩ := info_parts infoBool
  go_enter Try.func6, Try.ntmps6
  go_wp2_with fail
  refine (alive8_any _).mono ?_
  rintro e w1 ⟨rfl, hb1⟩
  have W1 := hide hb1
  clear hb1
  by_cases h1 : a < 1
  · go_wp2
    go_ret
    exact ⟨rfl, W1.out⟩
  · by_cases h2 : 10 < a
    · go_wp2
      go_ret
      exact ⟨rfl, W1.out⟩
    · by_cases h3 : b < 0
      · go_wp2
        go_ret
        exact ⟨rfl, W1.out⟩
      · by_cases h4 : 50 < b
        · go_wp2
          go_ret
          exact ⟨rfl, W1.out⟩
        · obtain ⟨N, rfl⟩ : ∃ N : Nat, a = (N : Int) := ⟨a.toNat, by omega⟩
          obtain ⟨S, rfl⟩ : ∃ S : Nat, b = (S : Int) := ⟨b.toNat, by omega⟩
          have hN0 : 0 < N := by omega
          have hN1 : N ≤ 10 := by omega
          have hS : S ≤ 50 := by omega
          have HN0 := hide (And.intro hN0 hN1)
          have HS := hide hS
          have HCt := hide (counter_any N w1 hN1)
          go_wp2_with fail
          refine HCt.out.mono ?_
          rintro e w2 ⟨d, rfl, hd, fd, hb2⟩
          have ed : d.v = .agg #[.int .i64 d.m, .slice d.a1 d.n1 d.c1, .slice d.a2 d.n2 d.c2, .slice d.a3 d.n3 d.c3, .slice d.a4 d.n4 d.c4, .slice d.a5 d.n5 d.c5, .slice d.a6 d.n6 d.c6, .slice d.a7 d.n7 d.c7] := rfl
          rw [ed]
          have ED := hide ed
          have ha2 := below_alloc w2 (.cells #[.int .i64 d.m, .slice d.a1 d.n1 d.c1, .slice d.a2 d.n2 d.c2, .slice d.a3 d.n3 d.c3, .slice d.a4 d.n4 d.c4, .slice d.a5 d.n5 d.c5, .slice d.a6 d.n6 d.c6, .slice d.a7 d.n7 d.c7] 27)
          have X2 := hide (box_new w2 d)
          have D2 := hide (hd.below ha2)
          have FD := hide fd
          have W2 := hide (belowThen W1.out (belowThen hb2 ha2))
          have es : (w2.alloc (.cells #[.int .i64 d.m, .slice d.a1 d.n1 d.c1, .slice d.a2 d.n2 d.c2, .slice d.a3 d.n3 d.c3, .slice d.a4 d.n4 d.c4, .slice d.a5 d.n5 d.c5, .slice d.a6 d.n6 d.c6, .slice d.a7 d.n7 d.c7] 27)).heap.size = w2.heap.size + 1 := by simp
          clear ha2 hb2 hd fd ed HCt W1
          go_wp2_with (first | (at_make; refine wpList_make_full _ rfl _ _ 28 rfl (w2.heap.size + 1) 4 i0 (.bool false) 1 Try.underlying28 hi hz0 hz1 .i64 .i64 _ _ N rfl rfl (by first | rfl | omega) (by first | rfl | omega) (by rw [hz2]; omega) (by unfold maxLen; omega) (by rw [es]; exact Nat.le_refl _) ?_; intro w3 hown hg3; rw [madeB, es, bits_zero] at hown; have hb3 := (Below.refl _ _).grown hg3 (Nat.le_refl _) (fun k hk => by cases hk); have X3 := hide (X2.out.below hb3); have D3 := hide (D2.out.below hb3); have W3 := hide (belowThen W2.out hb3); have R3 : Hid (RowB w3 (some ⟨w2.heap.size + 1, 0, none⟩) (bitsK N 0)) := (rowC_own' hown).1; clear hown hg3 hb3) | fail)
          clear X2 D2 W2 es
          go_loopw [7, 8, 9, 10] (fun s k _ _ wr => ∃ (q : Nat) (sa : Option Addr) (sc : Nat), s = .slice sa N sc ∧ k = .int .i64 q ∧ q ≤ S ∧ Hid (RowB wr sa (bitsK N q) ∧ Below w3.heap.size w3 wr)) (fun _ k _ _ _ => S - (intOf k).toNat)
          case atStart => exact ⟨0, _, _, rfl, rfl, Nat.zero_le _, R3.out, Below.refl _ _⟩
          case round =>
            clear R3
            obtain ⟨q, sa, sc, rfl, rfl, hq, HM⟩ := hrel
            by_cases hlt : q < S
            · have XQ := hide (X3.out.below HM.out.2)
              obtain ⟨p0, p1, p2, p3, p4, p5, p6, p7⟩ := XQ.out.cells
              have HT := hide (step_any d (cntC N) wr sa none N sc 0 0 (bitsK N q) [] (D3.out.below HM.out.2) FD.out HM.out.1 (bitsK_len N q) (.inl ⟨rfl, rfl⟩) rfl)
              have hst := cnt_step (n := N) (k := q) (by omega) hN0
              have HNx := hide hst.2
              unfold StepPost at HT
              rw [hst.1, ED.out] at HT
              clear hst
              go_wp2_with fail
              refine HT.out.mono ?_
              rintro e w5 ⟨r, rfl, hr5, hb5⟩
              obtain ⟨A1, N1, K1, A2, N2, K2, A3, N3, K3, hv⟩ := r
              have hl1 : N1 = N := by
                have h1 := hr5.l1
                rw [HNx.out, bitsK_len] at h1
                exact h1.symm
              subst hl1
              have er : (⟨A1, N1, K1, A2, N2, K2, A3, N3, K3, hv⟩ : RV).v = .agg #[.slice A1 N1 K1, .slice A2 N2 K2, .slice A3 N3 K3, .bool hv] := rfl
              rw [er]
              have ha5 := below_alloc w5 (.cells #[.slice A1 N1 K1, .slice A2 N2 K2, .slice A3 N3 K3, .bool hv] 37)
              have HRel : Hid (RowB (w5.alloc (.cells #[.slice A1 N1 K1, .slice A2 N2 K2, .slice A3 N3 K3, .bool hv] 37)) A1 (bitsK N1 (q + 1)) ∧ Below w3.heap.size w3 (w5.alloc (.cells #[.slice A1 N1 K1, .slice A2 N2 K2, .slice A3 N3 K3, .bool hv] 37))) := by
                have h1 := hr5.r1
                rw [HNx.out] at h1
                exact ⟨h1.below ha5, belowThen HM.out.2 (belowThen hb5 ha5)⟩
              clear HT hr5 hb5 er ha5 p0 p1 p2 p3 p4 p5 p6 p7 XQ HM
              go_wp2_with (first | (go_at_call 20; refine (num8_any _ _).mono ?_; rintro e w' ⟨rfl, hw'⟩; obtain rfl := hw'.symm))
              go_roundw
              case rel => exact ⟨q + 1, A1, K1, rfl, by go_num, by omega, HRel.out⟩
              case measure => simp [intOf]; omega
            · have hqS : q = S := by omega
              subst hqS
              have HNm : Hid (∀ W, Below wr.heap.size wr W → Calls Try.prog 27 #[.slice sa N sc] W fun e w' => e = .returned (.int .i64 ((q % 2 ^ N : Nat) : Int)) ∧ w' = W) := fun W hb => by
                have := number_any8 sa N sc (bitsK N q) W (HM.out.1.below hb) (bitsK_len N q) hN1
                rw [numN_bits N (Nat.le_refl _)] at this
                exact this
              have hend : Hid (∀ W, Below wr.heap.size wr W → Below w.heap.size w W) := fun W hb => belowThen W3.out (belowThen HM.out.2 hb)
              have hS5 := HS.out
              clear HM X3 D3 W3 HN0 HS FD ED
              have hNs : N = 1 ∨ N = 2 ∨ N = 3 ∨ N = 4 ∨ N = 5 ∨ N = 6 ∨ N = 7 ∨ N = 8 ∨ N = 9 ∨ N = 10 := by omega
              rcases hNs with rfl | rfl | rfl | rfl | rfl | rfl | rfl | rfl | rfl | rfl
              · have ht : (q : Int).tmod 2 = ((q % 2 : Nat) : Int) := (Int.ofNat_tmod q 2).symm
                replace HNm : Hid (∀ W, Below wr.heap.size wr W → Calls Try.prog 27 #[.slice sa 1 sc] W fun e w' => e = .returned (.int .i64 ((q % 2 : Nat) : Int)) ∧ w' = W) := HNm
                have hq2 : q % 2 ≤ 50 := Nat.le_trans (Nat.mod_le _ _) hS5
                have he : (q : Int) % 2 = ((q % 2 : Nat) : Int) := rfl
                have hwp : wrap64 2 = 2 := by decide +kernel
                generalize q % 2 = R at HNm ht hq2 he
                go_wp2
                go_region_with (go_at_call 27; refine (HNm.out _ (by first | exact Drew.below ⟨1, rfl⟩ | exact Below.refl _ _)).mono ?_; rintro e w' ⟨rfl, hw'⟩; obtain rfl := hw'.symm)
                all_goals go_wp2
                all_goals go_ret
                all_goals exact ⟨rfl, hend.out _ (by first | exact Drew.below ⟨1, rfl⟩ | exact Below.refl _ _)⟩
              · have ht : (q : Int).tmod 4 = ((q % 4 : Nat) : Int) := (Int.ofNat_tmod q 4).symm
                replace HNm : Hid (∀ W, Below wr.heap.size wr W → Calls Try.prog 27 #[.slice sa 2 sc] W fun e w' => e = .returned (.int .i64 ((q % 4 : Nat) : Int)) ∧ w' = W) := HNm
                have hq2 : q % 4 ≤ 50 := Nat.le_trans (Nat.mod_le _ _) hS5
                have he : (q : Int) % 4 = ((q % 4 : Nat) : Int) := rfl
                have hwp : wrap64 4 = 4 := by decide +kernel
                generalize q % 4 = R at HNm ht hq2 he
                go_wp2
                go_region_with (go_at_call 27; refine (HNm.out _ (by first | exact Drew.below ⟨1, rfl⟩ | exact Below.refl _ _)).mono ?_; rintro e w' ⟨rfl, hw'⟩; obtain rfl := hw'.symm)
                all_goals go_wp2
                all_goals go_ret
                all_goals exact ⟨rfl, hend.out _ (by first | exact Drew.below ⟨1, rfl⟩ | exact Below.refl _ _)⟩
              · have ht : (q : Int).tmod 8 = ((q % 8 : Nat) : Int) := (Int.ofNat_tmod q 8).symm
                replace HNm : Hid (∀ W, Below wr.heap.size wr W → Calls Try.prog 27 #[.slice sa 3 sc] W fun e w' => e = .returned (.int .i64 ((q % 8 : Nat) : Int)) ∧ w' = W) := HNm
                have hq2 : q % 8 ≤ 50 := Nat.le_trans (Nat.mod_le _ _) hS5
                have he : (q : Int) % 8 = ((q % 8 : Nat) : Int) := rfl
                have hwp : wrap64 8 = 8 := by decide +kernel
                generalize q % 8 = R at HNm ht hq2 he
                go_wp2
                go_region_with (go_at_call 27; refine (HNm.out _ (by first | exact Drew.below ⟨1, rfl⟩ | exact Below.refl _ _)).mono ?_; rintro e w' ⟨rfl, hw'⟩; obtain rfl := hw'.symm)
                all_goals go_wp2
                all_goals go_ret
                all_goals exact ⟨rfl, hend.out _ (by first | exact Drew.below ⟨1, rfl⟩ | exact Below.refl _ _)⟩
              · have ht : (q : Int).tmod 16 = ((q % 16 : Nat) : Int) := (Int.ofNat_tmod q 16).symm
                replace HNm : Hid (∀ W, Below wr.heap.size wr W → Calls Try.prog 27 #[.slice sa 4 sc] W fun e w' => e = .returned (.int .i64 ((q % 16 : Nat) : Int)) ∧ w' = W) := HNm
                have hq2 : q % 16 ≤ 50 := Nat.le_trans (Nat.mod_le _ _) hS5
                have he : (q : Int) % 16 = ((q % 16 : Nat) : Int) := rfl
                have hwp : wrap64 16 = 16 := by decide +kernel
                generalize q % 16 = R at HNm ht hq2 he
                go_wp2
                go_region_with (go_at_call 27; refine (HNm.out _ (by first | exact Drew.below ⟨1, rfl⟩ | exact Below.refl _ _)).mono ?_; rintro e w' ⟨rfl, hw'⟩; obtain rfl := hw'.symm)
                all_goals go_wp2
                all_goals go_ret
                all_goals exact ⟨rfl, hend.out _ (by first | exact Drew.below ⟨1, rfl⟩ | exact Below.refl _ _)⟩
              · have ht : (q : Int).tmod 32 = ((q % 32 : Nat) : Int) := (Int.ofNat_tmod q 32).symm
                replace HNm : Hid (∀ W, Below wr.heap.size wr W → Calls Try.prog 27 #[.slice sa 5 sc] W fun e w' => e = .returned (.int .i64 ((q % 32 : Nat) : Int)) ∧ w' = W) := HNm
                have hq2 : q % 32 ≤ 50 := Nat.le_trans (Nat.mod_le _ _) hS5
                have he : (q : Int) % 32 = ((q % 32 : Nat) : Int) := rfl
                have hwp : wrap64 32 = 32 := by decide +kernel
                generalize q % 32 = R at HNm ht hq2 he
                go_wp2
                go_region_with (go_at_call 27; refine (HNm.out _ (by first | exact Drew.below ⟨1, rfl⟩ | exact Below.refl _ _)).mono ?_; rintro e w' ⟨rfl, hw'⟩; obtain rfl := hw'.symm)
                all_goals go_wp2
                all_goals go_ret
                all_goals exact ⟨rfl, hend.out _ (by first | exact Drew.below ⟨1, rfl⟩ | exact Below.refl _ _)⟩
              · have ht : (q : Int).tmod 64 = ((q % 64 : Nat) : Int) := (Int.ofNat_tmod q 64).symm
                replace HNm : Hid (∀ W, Below wr.heap.size wr W → Calls Try.prog 27 #[.slice sa 6 sc] W fun e w' => e = .returned (.int .i64 ((q % 64 : Nat) : Int)) ∧ w' = W) := HNm
                have hq2 : q % 64 ≤ 50 := Nat.le_trans (Nat.mod_le _ _) hS5
                have he : (q : Int) % 64 = ((q % 64 : Nat) : Int) := rfl
                have hwp : wrap64 64 = 64 := by decide +kernel
                generalize q % 64 = R at HNm ht hq2 he
                go_wp2
                go_region_with (go_at_call 27; refine (HNm.out _ (by first | exact Drew.below ⟨1, rfl⟩ | exact Below.refl _ _)).mono ?_; rintro e w' ⟨rfl, hw'⟩; obtain rfl := hw'.symm)
                all_goals go_wp2
                all_goals go_ret
                all_goals exact ⟨rfl, hend.out _ (by first | exact Drew.below ⟨1, rfl⟩ | exact Below.refl _ _)⟩
              · have ht : (q : Int).tmod 128 = ((q % 128 : Nat) : Int) := (Int.ofNat_tmod q 128).symm
                replace HNm : Hid (∀ W, Below wr.heap.size wr W → Calls Try.prog 27 #[.slice sa 7 sc] W fun e w' => e = .returned (.int .i64 ((q % 128 : Nat) : Int)) ∧ w' = W) := HNm
                have hq2 : q % 128 ≤ 50 := Nat.le_trans (Nat.mod_le _ _) hS5
                have he : (q : Int) % 128 = ((q % 128 : Nat) : Int) := rfl
                have hwp : wrap64 128 = 128 := by decide +kernel
                generalize q % 128 = R at HNm ht hq2 he
                go_wp2
                go_region_with (go_at_call 27; refine (HNm.out _ (by first | exact Drew.below ⟨1, rfl⟩ | exact Below.refl _ _)).mono ?_; rintro e w' ⟨rfl, hw'⟩; obtain rfl := hw'.symm)
                all_goals go_wp2
                all_goals go_ret
                all_goals exact ⟨rfl, hend.out _ (by first | exact Drew.below ⟨1, rfl⟩ | exact Below.refl _ _)⟩
              · have ht : (q : Int).tmod 256 = ((q % 256 : Nat) : Int) := (Int.ofNat_tmod q 256).symm
                replace HNm : Hid (∀ W, Below wr.heap.size wr W → Calls Try.prog 27 #[.slice sa 8 sc] W fun e w' => e = .returned (.int .i64 ((q % 256 : Nat) : Int)) ∧ w' = W) := HNm
                have hq2 : q % 256 ≤ 50 := Nat.le_trans (Nat.mod_le _ _) hS5
                have he : (q : Int) % 256 = ((q % 256 : Nat) : Int) := rfl
                have hwp : wrap64 256 = 256 := by decide +kernel
                generalize q % 256 = R at HNm ht hq2 he
                go_wp2
                go_region_with (go_at_call 27; refine (HNm.out _ (by first | exact Drew.below ⟨1, rfl⟩ | exact Below.refl _ _)).mono ?_; rintro e w' ⟨rfl, hw'⟩; obtain rfl := hw'.symm)
                all_goals go_wp2
                all_goals go_ret
                all_goals exact ⟨rfl, hend.out _ (by first | exact Drew.below ⟨1, rfl⟩ | exact Below.refl _ _)⟩
              · have ht : (q : Int).tmod 512 = ((q % 512 : Nat) : Int) := (Int.ofNat_tmod q 512).symm
                replace HNm : Hid (∀ W, Below wr.heap.size wr W → Calls Try.prog 27 #[.slice sa 9 sc] W fun e w' => e = .returned (.int .i64 ((q % 512 : Nat) : Int)) ∧ w' = W) := HNm
                have hq2 : q % 512 ≤ 50 := Nat.le_trans (Nat.mod_le _ _) hS5
                have he : (q : Int) % 512 = ((q % 512 : Nat) : Int) := rfl
                have hwp : wrap64 512 = 512 := by decide +kernel
                generalize q % 512 = R at HNm ht hq2 he
                go_wp2
                go_region_with (go_at_call 27; refine (HNm.out _ (by first | exact Drew.below ⟨1, rfl⟩ | exact Below.refl _ _)).mono ?_; rintro e w' ⟨rfl, hw'⟩; obtain rfl := hw'.symm)
                all_goals go_wp2
                all_goals go_ret
                all_goals exact ⟨rfl, hend.out _ (by first | exact Drew.below ⟨1, rfl⟩ | exact Below.refl _ _)⟩
              · have ht : (q : Int).tmod 1024 = ((q % 1024 : Nat) : Int) := (Int.ofNat_tmod q 1024).symm
                replace HNm : Hid (∀ W, Below wr.heap.size wr W → Calls Try.prog 27 #[.slice sa 10 sc] W fun e w' => e = .returned (.int .i64 ((q % 1024 : Nat) : Int)) ∧ w' = W) := HNm
                have hq2 : q % 1024 ≤ 50 := Nat.le_trans (Nat.mod_le _ _) hS5
                have he : (q : Int) % 1024 = ((q % 1024 : Nat) : Int) := rfl
                have hwp : wrap64 1024 = 1024 := by decide +kernel
                generalize q % 1024 = R at HNm ht hq2 he
                go_wp2
                go_region_with (go_at_call 27; refine (HNm.out _ (by first | exact Drew.below ⟨1, rfl⟩ | exact Below.refl _ _)).mono ?_; rintro e w' ⟨rfl, hw'⟩; obtain rfl := hw'.symm)
                all_goals go_wp2
                all_goals go_ret
                all_goals exact ⟨rfl, hend.out _ (by first | exact Drew.below ⟨1, rfl⟩ | exact Below.refl _ _)⟩
end Go.Proofs.Ytmbbcghhdjpgeaa

namespace Go.Proofs.Ytmbbcghhdjpgeaa
open Go.ChangeShapes Go.WideShapes Go.ChangeAt Go.RowKit
open Go.ChangeMaps (open_string shut_string)
namespace ProofSimCounts

set_option maxRecDepth 100000 in
theorem lifted (os : Os) (started : os.Started) (H : Type) (enc : TypeId × Value → H) :
    ReturnsInHanded {} Try.checked os 6 .any (Rows.simCountsSpec.pre6 enc Try.prog Try.f6 Rows.simCountsRow.domain false) (Rows.simCountsSpec.post enc Try.prog Try.f6 false true false false) := by
  refine returnsInHanded_of_change (C := Try.checked) own started (by kernel_rfl) Try.func6
    (ChangeSpec.witness6 (enc := enc) (C := Try.checked) false ⟨#[], #[.int .i64 0, .int .i64 0], []⟩ 8 (by kernel_rfl) (by kernel_rfl) (by kernel_rfl) (by kernel_rfl)) ?_
  intro W base args ds gs before hval0 hW _ _
  have hval : ∀ (j : Nat) t v, Try.f6.params[j]? = some t → args[j]? = some v → Value.okWide Try.prog W .any base t v := hval0
  have hW' := hW
  obtain ⟨p, q, hA0, hV, rfl, hfz, hnd⟩ := hW
  have hA : DataW.TrodAll enc Try.prog W 0 (fun _ => true) true Try.f6.params.toList args.toList ds p := hA0
  rw [Try.params6] at hA hval
  obtain ⟨v0, vs0, d0, ds0, p0, q0, hargs, rfl, rfl, h0, r0⟩ := trodAll_cons hA
  obtain ⟨v1, vs1, d1, ds1, p1, q1, rfl, rfl, rfl, h1, r1⟩ := trodAll_cons r0
  obtain ⟨rfl, rfl, rfl⟩ := trodAll_nil r1
  obtain rfl : args = #[v0, v1] := by cases args; simp_all
  obtain ⟨rfl, rfl⟩ := trodVars_none hV
  obtain ⟨a0, rfl, rfl, rfl, w0⟩ := open_int Try.underlying3 (hval 0 3 v0 rfl rfl) h0
  obtain ⟨a1, rfl, rfl, rfl, w1⟩ := open_int Try.underlying3 (hval 1 3 v1 rfl rfl) h1
  clear hA0 hval0
  refine (simCounts_any a0 a1 W (bounds_i64 w0).1 (bounds_i64 w0).2 (bounds_i64 w1).1 (bounds_i64 w1).2 ).mono fun e W' ⟨he, bel⟩ => ?_
  subst he
  exact ⟨_, rfl, _, _, _, [], _, [], hW', trodAll_mk1 (shut_bool Try.underlying4 _), (trodAll_cons_mk (shut_int Try.underlying3 w0) (trodAll_cons_mk (shut_int Try.underlying3 w1) trodAll_mk0)), rfl, bel.frame _, fun h => by cases h⟩

theorem row_holds : Rows.SimCountsSaid :=
  OpenClaim.holds_of_wide 6 Try.f6 rfl rfl rfl rfl rfl rfl rfl ⟨rfl, rfl, rfl, rfl, rfl⟩ rfl rfl rfl rfl rfl (by kernel_rfl) Try.func6 (by kernel_rfl)
    (of_decide_eq_true (by kernel_rfl)) (by unfold Func.isWrapper; first | (rw [if_pos (by decide +kernel)]; kernel_rfl) | (rw [if_neg (by decide +kernel)]; exact ⟨rfl, rfl⟩))
    (fun os started H enc _ => lifted os started H enc)
end ProofSimCounts

theorem simCounts_holds : Rows.SimCountsSaid := ProofSimCounts.row_holds
#print axioms simCounts_holds
end Go.Proofs.Ytmbbcghhdjpgeaa
