/-
  THE WALKS of binary's header, and, Read; alive of law 6.
-/
import Derived.Test.YtikjbbebfjleaaaGreatDoorJ30
namespace Go.Proofs.YtikjbbebfjleaaaGreatDoor
open Go.RowKit

set_option maxRecDepth 100000 in
set_option maxHeartbeats 1000000 in
theorem headerB_any (s : ByteArray) (w : World) (hs : s.size ≤ 100000) (hE : Env w) (hM : EnvM w) :
    Calls Tryz.prog 51 #[.string s] w fun e w' => ∃ v, e = .returned (.tuple #[v, .int .i64 (hdrEB s)]) ∧ OwnI w.heap.size w' v (hdrLB s) ∧ Below w.heap.size w w' := by
  have HN := hide (headerA_any s w hs hE hM)
  have HB : Hid (∀ w', Below w.heap.size w w' → ¬ hdrEB s = 0 → OwnI w.heap.size w' (.slice none 0 0) (hdrLB s) ∧ Below w.heap.size w w') := fun w' hb hne => ⟨by rw [hdrLB, if_neg hne]; exact OwnI.nil _ _, hb⟩
  by_cases hE0 : hdrE s = 0
  · have hf := hdr_fit hE0
    have e0 : hdrL s = hdr9 s := by rw [hdrL, if_pos hE0]
    have e1 : hdrEB s = if (hdr9 s).getD 0 0 = (hdr9 s).getD 1 0 + (hdr9 s).getD 2 0 + (hdr9 s).getD 4 0 then 0 else 2 := by rw [hdrEB, if_pos hE0]
    have HG : Hid (∀ v w', hdrEB s = 0 → OwnI w.heap.size w' v (hdr9 s) → Below w.heap.size w w' → OwnI w.heap.size w' v (hdrLB s) ∧ Below w.heap.size w w') := fun v w' h0 ho hb => ⟨by rw [hdrLB, if_pos h0]; exact ho, hb⟩
    rw [hE0, e0] at HN
    rw [e0] at hf
    rw [e1] at HB HG ⊢
    generalize hdrLB s = HLs at *
    generalize hdr9 s = H at *
    have HL9 := hide hf.len
    have p0 := hf.pos 0
    have p1 := hf.pos 1
    have p2 := hf.pos 2
    have p4 := hf.pos 4
    have b0 := hf.b0
    have b1 := hf.b1
    have b2 := hf.b2
    have b4 := hf.b4
    obtain ⟨y0, h0⟩ : ∃ x, x = H.getD 0 0 := ⟨_, rfl⟩
    obtain ⟨y1, h1⟩ : ∃ x, x = H.getD 1 0 := ⟨_, rfl⟩
    obtain ⟨y2, h2⟩ : ∃ x, x = H.getD 2 0 := ⟨_, rfl⟩
    obtain ⟨y4, h4⟩ : ∃ x, x = H.getD 4 0 := ⟨_, rfl⟩
    rw [← h0, ← h1, ← h2, ← h4] at HB HG ⊢
    rw [← h0] at p0 b0
    rw [← h1] at p1 b1
    rw [← h2] at p2 b2
    rw [← h4] at p4 b4
    have HX := hide (And.intro h0 (And.intro h1 (And.intro h2 h4)))
    clear hE0 e0 e1 hf h0 h1 h2 h4 hE hM
    by_cases hy : y0 = y1 + y2 + y4
    · rw [if_pos hy] at HB HG ⊢
      have hy1 : (y0 != y1 + y2 + y4) = false := by rw [bne_eq_false_iff_eq]; exact hy
      have hy2 : (y0 == y1 + y2 + y4) = true := by rw [beq_iff_eq]; exact hy
      clear hy
      go_enter Tryz.func51, Tryz.ntmps51
      go_wp2_with (first | (go_at_call 16; refine HN.out.mono ?_; rintro e w1 ⟨v, rfl, ho, hb⟩; have HO := hide ho; have HW := hide hb; obtain ⟨hg, cap, rfl, hc, -⟩ := ownI_at ho HL9.out (by omega); have c0 := hc 0 (by omega); have c1 := hc 1 (by omega); have c2 := hc 2 (by omega); have c4 := hc 4 (by omega); rw [← HX.out.1] at c0; rw [← HX.out.2.1] at c1; rw [← HX.out.2.2.1] at c2; rw [← HX.out.2.2.2] at c4; clear ho hb hc))
      go_quiet (fail)
      go_wp2
      go_ret2
      exact ⟨_, rfl, HG.out _ _ (by first | rfl | trivial) (own_below HO.out (Drew.below ⟨_, rfl⟩)) (belowThen HW.out (Drew.below ⟨_, rfl⟩))⟩
    · rw [if_neg hy] at HB HG ⊢
      have hy1 : (y0 != y1 + y2 + y4) = true := by rw [bne_iff_ne]; exact hy
      have hy2 : (y0 == y1 + y2 + y4) = false := by rw [beq_eq_false_iff_ne]; exact hy
      clear hy
      go_enter Tryz.func51, Tryz.ntmps51
      go_wp2_with (first | (go_at_call 16; refine HN.out.mono ?_; rintro e w1 ⟨v, rfl, ho, hb⟩; have HO := hide ho; have HW := hide hb; obtain ⟨hg, cap, rfl, hc, -⟩ := ownI_at ho HL9.out (by omega); have c0 := hc 0 (by omega); have c1 := hc 1 (by omega); have c2 := hc 2 (by omega); have c4 := hc 4 (by omega); rw [← HX.out.1] at c0; rw [← HX.out.2.1] at c1; rw [← HX.out.2.2.1] at c2; rw [← HX.out.2.2.2] at c4; clear ho hb hc))
      go_quiet (fail)
      go_wp2
      go_ret2
      exact ⟨_, rfl, HB.out _ (belowThen HW.out (Drew.below ⟨_, rfl⟩)) (by decide)⟩
  · have e1 : hdrEB s = hdrE s := by rw [hdrEB, if_neg hE0]
    rw [e1] at HB ⊢
    generalize hdrLB s = HLs at *
    generalize hdrE s = E at *
    generalize hdrL s = L at *
    have hE1 : (E == 0) = false := by rw [beq_eq_false_iff_ne]; exact hE0
    have hE2 : (E != 0) = true := by rw [bne, hE1]; rfl
    clear e1 hE hM
    go_enter Tryz.func51, Tryz.ntmps51
    go_wp2_with (first | (go_at_call 16; refine HN.out.mono ?_; rintro e w1 ⟨v, rfl, ho, hb⟩))
    go_ret2
    exact ⟨_, rfl, HB.out _ hb hE0⟩
theorem headsB : Heads 51 hdrEB hdrLB := ⟨fun args w => by kernel_rfl, headerB_any, fun _ h => hdrB_fit h⟩

set_option maxRecDepth 100000 in
set_option maxHeartbeats 4000000 in
theorem andB_any (p : Nat) (a : Option Addr) (n c : Nat) (xs : List Int) (top : Int) (st : Option Nat) (w : World) (lit : Int) (h : Rd p a n c xs top st w) (hl0 : 0 ≤ lit) (hl1 : lit ≤ 100000) :
    Calls Tryz.prog 54 #[.pointer (some ⟨p, 0, none⟩), .int .i64 lit] w fun e w' => e = .returned (triV (andB xs top lit st).1) ∧ Went p a n c xs top w (andB xs top lit st).2 w' := by
  have H0 := hide h
  have HD1 := hide (fun W (hW : Rd p a n c xs top st W) => delta_any p a n c xs top st W hW)
  have HN1 : Hid (∀ W, Rd p a n c xs top (deltaS xs st).2 W → Calls Tryz.prog 88 #[.pointer (some ⟨p, 0, none⟩), .bool (decide (0 < (deltaS xs st).1) && decide ((deltaS xs st).1 ≤ lit))] W fun e w' => e = .returned (.tuple #[]) ∧ Went p a n c xs top W (andB1 xs lit st) w') := fun W hW => need_any p a n c xs top (deltaS xs st).2 _ W hW
  have HD2 := hide (fun W (hW : Rd p a n c xs top (andB1 xs lit st) W) => delta_any p a n c xs top (andB1 xs lit st) W hW)
  have HN2 := hide (fun W (hW : Rd p a n c xs top (deltaS xs (andB1 xs lit st)).2 W) => need_any p a n c xs top (deltaS xs (andB1 xs lit st)).2 (decide ((deltaS xs (andB1 xs lit st)).1 ≤ lit - (deltaS xs st).1)) W hW)
  have bf := deltaS_bd xs st
  have bg := deltaS_bd xs (andB1 xs lit st)
  unfold andB triV
  dsimp only
  generalize hS2 : (if decide ((deltaS xs (andB1 xs lit st)).1 ≤ lit - (deltaS xs st).1) = true then (deltaS xs (andB1 xs lit st)).2 else none) = S2 at HN2 ⊢
  clear hS2
  generalize (deltaS xs (andB1 xs lit st)).1 = g at *
  generalize (deltaS xs (andB1 xs lit st)).2 = T2 at *
  generalize andB1 xs lit st = S1 at *
  generalize (deltaS xs st).1 = f at *
  generalize (deltaS xs st).2 = T1 at *
  obtain ⟨bf0, bf1⟩ := bf
  obtain ⟨bg0, bg1⟩ := bg
  have hpb : w.heap.size ≠ p := by have := h.lt; omega
  have hnew := hide (fun o => heap_alloc_new w o)
  have HR0 := hide (fun o => h.below (below_alloc w o))
  clear h
  by_cases h1 : 0 < f
  · rw [show (decide (0 < f) && decide (f ≤ lit)) = decide (f ≤ lit) by rw [decide_eq_true h1]; rfl] at HN1
    go_enter Tryz.func54, Tryz.ntmps54
    go_upto_region 3 with (first | (go_at_call 87; refine (HD1.out _ (HR0.out _)).mono ?_; rintro e w1 ⟨rfl, hw1⟩; have G1 := hide hw1; clear hw1) | (go_at_call 88; refine (HN1.out _ G1.out.1).mono ?_; rintro e w2 ⟨rfl, hw2⟩; have G2 := hide (G1.out.then hw2); clear hw2))
    clear HD1 HN1
    go_upto_region 5 with (first | (go_at_call 87; refine (HD2.out _ G2.out.1).mono ?_; rintro e w3 ⟨rfl, hw3⟩; have G3 := hide (G2.out.then hw3); clear hw3))
    clear HD2
    go_upto_region 6 with (first | (go_at_call 88; refine (HN2.out _ G3.out.1).mono ?_; rintro e w4 ⟨rfl, hw4⟩; have G4 := hide (G3.out.then hw4); clear hw4))
    clear HN2 G1 G2 G3
    have hblk := hide ((G4.out.2.block w.heap.size (by simp) hpb hpb).trans (hnew.out _))
    obtain ⟨d0, d1, d2⟩ := three_cells hblk.out
    have f0 := frozen_of_row w4 w.heap.size 0 _ _ hblk.out
    have f1 := frozen_of_row w4 w.heap.size 1 _ _ hblk.out
    have f2 := frozen_of_row w4 w.heap.size 2 _ _ hblk.out
    go_wp2
    have hb3 := hide (three_block (v0 := .int .i64 lit) (v1 := .int .i64 (lit - f)) (v2 := .int .i64 (lit - f - g)) hblk.out)
    have hbel := hide (three_below (B := w.heap.size) w4 (b := w.heap.size) (Nat.le_refl _) (.int .i64 lit) (.int .i64 (lit - f)) (.int .i64 (lit - f - g)))
    clear d0 d1 d2 f0 f1 f2
    generalize (((w4.setCell ⟨w.heap.size, 0, none⟩ (.int .i64 lit)).setCell ⟨w.heap.size, 1, none⟩ (.int .i64 (lit - f))).setCell ⟨w.heap.size, 2, none⟩ (.int .i64 (lit - f - g))) = Wf at *
    obtain ⟨r0, r1, r2⟩ := three_cells hb3.out
    refine bodyPost_ret (v := .agg #[.int .i64 lit, .int .i64 (lit - f), .int .i64 (lit - f - g)]) (by simp [results, Tryz.results54, go_sem, *]) rfl ?_
    exact ⟨rfl, Went.far H0.out ⟨G4.out.1, (Two.of_below (below_alloc w _)).trans G4.out.2⟩ hbel.out⟩
  · rw [show (decide (0 < f) && decide (f ≤ lit)) = false by rw [decide_eq_false h1]; rfl] at HN1
    go_enter Tryz.func54, Tryz.ntmps54
    go_upto_region 3 with (first | (go_at_call 87; refine (HD1.out _ (HR0.out _)).mono ?_; rintro e w1 ⟨rfl, hw1⟩; have G1 := hide hw1; clear hw1) | (go_at_call 88; refine (HN1.out _ G1.out.1).mono ?_; rintro e w2 ⟨rfl, hw2⟩; have G2 := hide (G1.out.then hw2); clear hw2))
    clear HD1 HN1
    go_upto_region 5 with (first | (go_at_call 87; refine (HD2.out _ G2.out.1).mono ?_; rintro e w3 ⟨rfl, hw3⟩; have G3 := hide (G2.out.then hw3); clear hw3))
    clear HD2
    go_upto_region 6 with (first | (go_at_call 88; refine (HN2.out _ G3.out.1).mono ?_; rintro e w4 ⟨rfl, hw4⟩; have G4 := hide (G3.out.then hw4); clear hw4))
    clear HN2 G1 G2 G3
    have hblk := hide ((G4.out.2.block w.heap.size (by simp) hpb hpb).trans (hnew.out _))
    obtain ⟨d0, d1, d2⟩ := three_cells hblk.out
    have f0 := frozen_of_row w4 w.heap.size 0 _ _ hblk.out
    have f1 := frozen_of_row w4 w.heap.size 1 _ _ hblk.out
    have f2 := frozen_of_row w4 w.heap.size 2 _ _ hblk.out
    go_wp2
    have hb3 := hide (three_block (v0 := .int .i64 lit) (v1 := .int .i64 (lit - f)) (v2 := .int .i64 (lit - f - g)) hblk.out)
    have hbel := hide (three_below (B := w.heap.size) w4 (b := w.heap.size) (Nat.le_refl _) (.int .i64 lit) (.int .i64 (lit - f)) (.int .i64 (lit - f - g)))
    clear d0 d1 d2 f0 f1 f2
    generalize (((w4.setCell ⟨w.heap.size, 0, none⟩ (.int .i64 lit)).setCell ⟨w.heap.size, 1, none⟩ (.int .i64 (lit - f))).setCell ⟨w.heap.size, 2, none⟩ (.int .i64 (lit - f - g))) = Wf at *
    obtain ⟨r0, r1, r2⟩ := three_cells hb3.out
    refine bodyPost_ret (v := .agg #[.int .i64 lit, .int .i64 (lit - f), .int .i64 (lit - f - g)]) (by simp [results, Tryz.results54, go_sem, *]) rfl ?_
    exact ⟨rfl, Went.far H0.out ⟨G4.out.1, (Two.of_below (below_alloc w _)).trans G4.out.2⟩ hbel.out⟩
theorem andB_reads : Reads 54 triV andB :=
  ⟨fun args w => by kernel_rfl, fun p a n c xs top st w lit h _ h0 h1 => andB_any p a n c xs top st w lit h h0 h1⟩

set_option maxRecDepth 100000 in
set_option maxHeartbeats 1000000 in
theorem binaryRead_any (a : Option Addr) (n c : Nat) (xs : List Int) (w : World) (h : Txt w a n c xs) :
    Calls Tryz.prog 21 #[.slice a n c] w (ReadPost gramB xs w) := by
  have HR := hide (fun o => readG_any gramB ⟨#[97, 105, 103]⟩ 51 52 53 54 rfl (by decide) headsB inputB_reads latchB_reads andB_reads a n c xs (w.alloc o) (h.below (below_alloc w o)))
  unfold ReadPost gramC at *
  generalize gramB.readE xs = E at *
  generalize gramB.read xs = C at *
  have HN := hide (And.intro (boxN w) (below_alloc w (.cells #[.int .i64 0, .slice none 0 0, .slice none 0 0, .slice none 0 0, .slice none 0 0, .slice none 0 0, .slice none 0 0, .slice none 0 0] 29)))
  clear h
  go_enter Tryz.func21, Tryz.ntmps21
  go_wp2_with (go_at_call 38; refine (HR.out _).mono ?_; rintro e w1 ⟨d, rfl, hd, rd, ab, hb⟩; have HD := hide (And.intro hd (And.intro rd ab)); have HW := hide (belowThen HN.out.2 hb); have B1 := hide (HN.out.1.below hb); clear hd rd ab hb; unfold CV.v; obtain ⟨q0, q1, q2, q3, q4, q5, q6, q7⟩ := B1.out.cells; simp only [cvN] at q0 q1 q2 q3 q4 q5 q6 q7; have f0 := box_frozen B1.out 0; have f1 := box_frozen B1.out 1; have f2 := box_frozen B1.out 2; have f3 := box_frozen B1.out 3; have f4 := box_frozen B1.out 4; have f5 := box_frozen B1.out 5; have f6 := box_frozen B1.out 6; have f7 := box_frozen B1.out 7)
  have hb := hide (box_put d B1.out)
  have t6 := two_put w1 w.heap.size d
  have hbel : Hid (Below w.heap.size w (putBox w1 w.heap.size d)) := t6.below HW.out (Nat.le_refl _) (Nat.le_refl _) (Nat.le_refl _)
  have hd7 := hide (HD.out.1.two HD.out.2.2 t6 (by simp))
  have hab := hide (HD.out.2.2.mono (C := w.heap.size) (by simp))
  clear q0 q1 q2 q3 q4 q5 q6 q7 f0 f1 f2 f3 f4 f5 f6 f7 t6
  show bodyPost _ _ _ _ _ (putBox w1 w.heap.size d)
  generalize putBox w1 w.heap.size d = Wf at *
  obtain ⟨r0, r1, r2, r3, r4, r5, r6, r7⟩ := hb.out.cells
  refine bodyPost_ret (v := .tuple #[.agg #[.int .i64 d.m, .slice d.a1 d.n1 d.c1, .slice d.a2 d.n2 d.c2, .slice d.a3 d.n3 d.c3, .slice d.a4 d.n4 d.c4, .slice d.a5 d.n5 d.c5, .slice d.a6 d.n6 d.c6, .slice d.a7 d.n7 d.c7], .int .i64 E]) (by simp [results, Tryz.results21, go_sem, *]) rfl ?_
  exact ⟨d, rfl, hd7.out, HD.out.2.1, hab.out, hbel.out⟩

theorem exB_bytes : Bytes8 exB := by
  intro n hn
  simp [exB] at hn
  omega
theorem num6_any (e : Int) (w : World) : Calls Tryz.prog 25 #[.int .i64 e] w fun r w' => r = .returned (.int .i64 e) ∧ w' = w := by
  go_enter Tryz.func25, Tryz.ntmps25
  go_wp2
  go_ret
  exact ⟨rfl, rfl⟩

set_option maxRecDepth 100000 in
set_option maxHeartbeats 1000000 in
theorem alive6_any (w : World) (hE : Env w) (hM : EnvM w) :
    Calls Tryz.prog 20 #[] w fun e w' => e = .returned (.bool true) ∧ Below w.heap.size w w' := by
  have HR : Hid (Calls Tryz.prog 21 #[.slice (some ⟨w.heap.size, 0, none⟩) 14 14] (w.alloc (.cells #[.int .u8 97, .int .u8 105, .int .u8 103, .int .u8 32, .int .u8 49, .int .u8 32, .int .u8 49, .int .u8 32, .int .u8 48, .int .u8 32, .int .u8 48, .int .u8 32, .int .u8 48, .int .u8 10] 5 (14, 15))) (ReadPost gramB exB (w.alloc (.cells #[.int .u8 97, .int .u8 105, .int .u8 103, .int .u8 32, .int .u8 49, .int .u8 32, .int .u8 49, .int .u8 32, .int .u8 48, .int .u8 32, .int .u8 48, .int .u8 32, .int .u8 48, .int .u8 10] 5 (14, 15))))) := binaryRead_any _ 14 14 exB _ (txt_new hE hM exB 5 (14, 15) exB_bytes (by decide))
  unfold ReadPost at HR
  rw [exB_read.1] at HR
  have HB := hide (below_alloc w (.cells #[.int .u8 97, .int .u8 105, .int .u8 103, .int .u8 32, .int .u8 49, .int .u8 32, .int .u8 49, .int .u8 32, .int .u8 48, .int .u8 32, .int .u8 48, .int .u8 32, .int .u8 48, .int .u8 10] 5 (14, 15)))
  have HI := hide exB_read.2
  have HNum := hide (fun n W => num6_any n W)
  generalize gramB.read exB = C at *
  have hcv := Lib.run_convert_bytes_const (P := Tryz.prog) w 22 5 #[.int .u8 97, .int .u8 105, .int .u8 103, .int .u8 32, .int .u8 49, .int .u8 32, .int .u8 49, .int .u8 32, .int .u8 48, .int .u8 32, .int .u8 48, .int .u8 32, .int .u8 48, .int .u8 10] 14 14 Tryz.underlying22 Tryz.underlying5
  clear hE hM
  go_enter Tryz.func20, Tryz.ntmps20
  go_wp2_with (first | (go_at_call 21; refine HR.out.mono ?_; rintro e w1 ⟨d, rfl, hd, rd, ab, hb⟩; have HW := hide (belowThen HB.out hb); have hn1 : d.n1 = 1 := (by rw [← hd.l1, HI.out]; rfl); have hr1 := hd.r1; rw [HI.out] at hr1; obtain ⟨b, off, ha1, -, hc⟩ := hr1.addr (by simp); have c0 : w1.cell? ⟨b, off, none⟩ = some (.int .i64 2) := (by have := hc 0 (by simp); simpa using this); unfold CV.v; rw [ha1, hn1]; have c1 := ((below_alloc w1 (.cells #[.int .i64 d.m, .slice (some ⟨b, off, none⟩) 1 d.c1, .slice d.a2 d.n2 d.c2, .slice d.a3 d.n3 d.c3, .slice d.a4 d.n4 d.c4, .slice d.a5 d.n5 d.c5, .slice d.a6 d.n6 d.c6, .slice d.a7 d.n7 d.c7] 29)).cell (block_lt_of_cell c0)).trans c0; have HWa := hide (belowThen HW.out (below_alloc w1 (.cells #[.int .i64 d.m, .slice (some ⟨b, off, none⟩) 1 d.c1, .slice d.a2 d.n2 d.c2, .slice d.a3 d.n3 d.c3, .slice d.a4 d.n4 d.c4, .slice d.a5 d.n5 d.c5, .slice d.a6 d.n6 d.c6, .slice d.a7 d.n7 d.c7] 29))); clear hd rd ab hb hr1 hc ha1 hn1) | (go_at_call 25; refine (HNum.out _ _).mono ?_; rintro e w7 ⟨rfl, rfl⟩))
  all_goals go_ret
  exact ⟨rfl, HWa.out⟩
end Go.Proofs.YtikjbbebfjleaaaGreatDoor
