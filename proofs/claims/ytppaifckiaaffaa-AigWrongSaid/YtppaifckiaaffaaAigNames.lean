/-
  THE WALK of layer 4's rightNames.
-/
import Derived.Test.YtppaifckiaaffaaAigLong
import Derived.Deep.RegionHeld3
import Derived.Deep.RegionWith
namespace Go.Proofs.Ytppaifckiaaffaa
open Go.RowKit

theorem keepCell {w w' : World} {a : Addr} {v : Value} (hb : Below w.heap.size w w') (h : w.cell? a = some v) : w'.cell? a = some v := (hb.cell (block_lt_of_cell h)).trans h

/-- A circuit's box and a symbol's. -/
def Held (b s : Nat) (c : CV) (a7 : Option Addr) (x0 x1 : Int) (x2 : ByteArray) (w' : World) : Prop := w'.cell? ⟨b, 0, none⟩ = some (.int .i64 c.m) ∧ w'.cell? ⟨b, 1, none⟩ = some (.slice c.a1 c.n1 c.c1) ∧ w'.cell? ⟨b, 2, none⟩ = some (.slice c.a2 c.n2 c.c2) ∧ w'.cell? ⟨b, 3, none⟩ = some (.slice c.a3 c.n3 c.c3) ∧ w'.cell? ⟨b, 4, none⟩ = some (.slice c.a4 c.n4 c.c4) ∧ w'.cell? ⟨b, 5, none⟩ = some (.slice c.a5 c.n5 c.c5) ∧ w'.cell? ⟨b, 6, none⟩ = some (.slice c.a6 c.n6 c.c6) ∧ w'.cell? ⟨b, 7, none⟩ = some (.slice a7 c.n7 c.c7) ∧ w'.cell? ⟨s, 0, none⟩ = some (.int .u8 x0) ∧ w'.cell? ⟨s, 1, none⟩ = some (.int .i64 x1) ∧ w'.cell? ⟨s, 2, none⟩ = some (.string x2)
theorem Held.below {b s : Nat} {c : CV} {a7 : Option Addr} {x0 x1 : Int} {x2 : ByteArray} {w w' : World} (h : Held b s c a7 x0 x1 x2 w) (hb : Below w.heap.size w w') : Held b s c a7 x0 x1 x2 w' := by
  obtain ⟨h0, h1, h2, h3, h4, h5, h6, h7, h8, h9, h10⟩ := h
  exact ⟨keepCell hb h0, keepCell hb h1, keepCell hb h2, keepCell hb h3, keepCell hb h4, keepCell hb h5, keepCell hb h6, keepCell hb h7, keepCell hb h8, keepCell hb h9, keepCell hb h10⟩
theorem held_new {wr : World} {b : Nat} {c : CV} (h : Box wr b c) (x0 x1 : Int) (x2 : ByteArray) : Held b wr.heap.size c c.a7 x0 x1 x2 (wr.alloc (.cells #[.int .u8 x0, .int .i64 x1, .string x2] 49)) := by
  obtain ⟨h0, h1, h2, h3, h4, h5, h6, h7⟩ := (h.alloc (.cells #[.int .u8 x0, .int .i64 x1, .string x2] 49)).cells
  have e : ∀ j, (wr.alloc (.cells #[.int .u8 x0, .int .i64 x1, .string x2] 49)).cell? ⟨wr.heap.size, j, none⟩ = (#[.int .u8 x0, .int .i64 x1, .string x2] : Array Value)[j]? := fun j => cell_of_row _ _ j _ _ (0, 0) (heap_alloc_new wr _)
  exact ⟨h0, h1, h2, h3, h4, h5, h6, h7, by rw [e]; rfl, by rw [e]; rfl, by rw [e]; rfl⟩

/-- Names' sizes. -/
def NamesFit (C : Circ) : Prop := ∀ s ∈ C.names, s.2.2.size ≤ 281474976710656

set_option maxRecDepth 100000 in
set_option maxHeartbeats 1000000 in
theorem rightNames_any (c : CV) (C : Circ) (w : World) (h : Holds w c C) (hn7 : c.n7 ≤ 320) (hN : NamesFit C) :
    Calls Try.prog 79 #[c.v] w fun e w' => e = .returned (.bool C.namesB) ∧ Below w.heap.size w w' := by
  have HK := hide (fun W kind (hb : Below w.heap.size w W) => howMany_any c C kind W (h.below hb))
  have HH := hide h
  have HN := hide hN
  have HB := hide (box_new w c)
  generalize hP : (fun (e : Ending) (w' : World) => e = .returned (.bool C.namesB) ∧ Below w.heap.size w w') = Post
  have HP := hide hP
  clear h hP hN
  unfold CV.v at HK ⊢
  generalize hA7 : c.a7 = A7 at HK HB ⊢
  have HA7 := hide hA7
  clear hA7
  go_enter Try.func79, Try.ntmps79
  go_wp2
  go_loopw [4, 8] (fun _ i wr => ∃ k : Nat, i = .int .i64 k ∧ k ≤ c.n7 ∧ Hid (Below w.heap.size w wr ∧ Box wr w.heap.size c ∧ ∀ j, j < k → C.symB (atP C.names j) = true)) (fun _ i _ => c.n7 - (intOf i).toNat)
  case atStart => exact ⟨0, rfl, Nat.zero_le _, below_alloc w _, HB.out, fun j hj => absurd hj (Nat.not_lt_zero _)⟩
  case round =>
    clear HB
    obtain ⟨k, rfl, hk, HF⟩ := hrel
    by_cases hlt : k < c.n7
    · obtain ⟨b, off, ha, hbw, hcell⟩ := HH.out.r7.addr (by rw [cellsS_len, HH.out.l7]; omega)
      rw [HA7.out] at ha
      subst ha
      have hat := cellsS_at C.names k (by rw [HH.out.l7]; exact hlt)
      have hc0 := (HF.out.1.cell (p := ⟨b, off + k * 3, none⟩) hbw).trans (hcell _ _ hat.1)
      have hc1 := (HF.out.1.cell (p := ⟨b, off + k * 3 + 1, none⟩) hbw).trans (hcell _ _ hat.2.1)
      have hc2 := (HF.out.1.cell (p := ⟨b, off + k * 3 + 2, none⟩) hbw).trans (hcell _ _ hat.2.2)
      have hmem := atP_mem C.names k (by rw [HH.out.l7]; exact hlt)
      have hsz := HN.out _ hmem
      obtain ⟨x, HX⟩ : ∃ x, Hid (x = atP C.names k) := ⟨_, rfl⟩
      rw [← HX.out] at hc0 hc1 hc2 hmem hsz
      obtain ⟨x0, x1, x2⟩ := x
      dsimp only at hc0 hc1 hc2 hsz
      have HMem := hide hmem
      have HBX := hide HF.out.2.1
      have hgo : Hid (C.symB (x0, x1, x2) = true → ∀ j, j < k + 1 → C.symB (atP C.names j) = true) := fun hr j hj => by
        by_cases hjk : j < k
        · exact HF.out.2.2 j hjk
        · obtain rfl : j = k := by omega
          rw [← HX.out]; exact hr
      have hno : Hid (C.symB (x0, x1, x2) = false → ∀ W, Below w.heap.size w W → Post (.returned (.bool false)) W) := fun hr W hW => by
        rw [← HP.out]
        exact ⟨ret_bool (List.all_eq_false.2 ⟨_, HMem.out, by rw [hr]; decide⟩).symm, hW⟩
      clear hcell hat hmem
      obtain ⟨q0, q1, q2, q3, q4, q5, q6, q7⟩ := HBX.out.cells
      rw [HA7.out] at q7
      have HD : Hid (∀ q, Below w.heap.size w ((wr.alloc (.cells #[.int .u8 x0, .int .i64 x1, .string x2] 49)).drewN q)) := fun q => belowThen HF.out.1 (belowThen (below_alloc wr _) (Drew.below ⟨q, rfl⟩))
      by_cases r0 : x1 < 0
      · have hfin := hide (hno.out (by unfold Circ.symB; rw [decide_eq_false (show ¬ 0 ≤ x1 by omega)]; rfl))
        clear hno hgo
        go_wp2
        go_quiet (fail)
        go_wp2
        exact hfin.out _ (HD.out _)
      · have hK := hide (fun W (hb : Below w.heap.size w W) => HK.out W x0 hb)
        obtain ⟨ct, HCT⟩ : ∃ ct, Hid (ct = C.countK x0 0) := ⟨_, rfl⟩
        rw [← HCT.out] at hK
        have hI := hide (fun W => isName_any x2 W (by omega))
        obtain ⟨nb, HNB⟩ : ∃ nb, Hid (nb = nameB x2) := ⟨_, rfl⟩
        rw [← HNB.out] at hI
        have hd0 : decide (x1 < 0) = false := decide_eq_false r0
        have HHd : Hid (∀ q, Held w.heap.size wr.heap.size c (some ⟨b, off, none⟩) x0 x1 x2 ((wr.alloc (.cells #[.int .u8 x0, .int .i64 x1, .string x2] 49)).drewN q)) := fun q => by
          have := held_new HBX.out x0 x1 x2
          rw [HA7.out] at this
          exact this
        by_cases r1 : x1 < ct
        · have hd1 : decide (ct ≤ x1) = false := decide_eq_false (by omega)
          cases nb with
          | true =>
            clear hno
            go_wp2
            go_region_held3 (fun w' => w'.cell? ⟨w.heap.size, 0, none⟩ = some (.int .i64 c.m) ∧ w'.cell? ⟨w.heap.size, 1, none⟩ = some (.slice c.a1 c.n1 c.c1) ∧ w'.cell? ⟨w.heap.size, 2, none⟩ = some (.slice c.a2 c.n2 c.c2) ∧ w'.cell? ⟨w.heap.size, 3, none⟩ = some (.slice c.a3 c.n3 c.c3) ∧ w'.cell? ⟨w.heap.size, 4, none⟩ = some (.slice c.a4 c.n4 c.c4) ∧ w'.cell? ⟨w.heap.size, 5, none⟩ = some (.slice c.a5 c.n5 c.c5) ∧ w'.cell? ⟨w.heap.size, 6, none⟩ = some (.slice c.a6 c.n6 c.c6) ∧ w'.cell? ⟨w.heap.size, 7, none⟩ = some (.slice (some ⟨b, off, none⟩) c.n7 c.c7) ∧ w'.cell? ⟨wr.heap.size, 0, none⟩ = some (.int .u8 x0) ∧ w'.cell? ⟨wr.heap.size, 1, none⟩ = some (.int .i64 x1) ∧ w'.cell? ⟨wr.heap.size, 2, none⟩ = some (.string x2)) (first | go_keep | exact Held.below (HHd.out _) hb2) (first | (go_at_call 101; refine (hK.out _ (HD.out _)).mono ?_; rintro e w2 ⟨rfl, hb2⟩) | (go_at_call 102; refine (hI.out _).mono ?_; rintro e w3 ⟨rfl, hw3⟩; obtain rfl := hw3.symm))
            go_wp2
            refine ⟨⟨k + 1, by go_num, by omega, belowThen (HD.out _) hb2, ?_, hgo.out ?_⟩, by simp [intOf]; omega⟩
            · exact (HBX.out.alloc (.cells #[.int .u8 x0, .int .i64 x1, .string x2] 49)).below (w' := w2) ⟨hb2.os, hb2.tape, hb2.output, hb2.size, hb2.block⟩
            · unfold Circ.symB
              rw [← HNB.out, ← HCT.out, decide_eq_true (show 0 ≤ x1 by omega), decide_eq_true r1]; rfl
          | false =>
            have hfin := hide (hno.out (by unfold Circ.symB; rw [← HNB.out]; simp))
            clear hno hgo
            go_wp2
            go_region_held3 (fun w' => w'.cell? ⟨w.heap.size, 0, none⟩ = some (.int .i64 c.m) ∧ w'.cell? ⟨w.heap.size, 1, none⟩ = some (.slice c.a1 c.n1 c.c1) ∧ w'.cell? ⟨w.heap.size, 2, none⟩ = some (.slice c.a2 c.n2 c.c2) ∧ w'.cell? ⟨w.heap.size, 3, none⟩ = some (.slice c.a3 c.n3 c.c3) ∧ w'.cell? ⟨w.heap.size, 4, none⟩ = some (.slice c.a4 c.n4 c.c4) ∧ w'.cell? ⟨w.heap.size, 5, none⟩ = some (.slice c.a5 c.n5 c.c5) ∧ w'.cell? ⟨w.heap.size, 6, none⟩ = some (.slice c.a6 c.n6 c.c6) ∧ w'.cell? ⟨w.heap.size, 7, none⟩ = some (.slice (some ⟨b, off, none⟩) c.n7 c.c7) ∧ w'.cell? ⟨wr.heap.size, 0, none⟩ = some (.int .u8 x0) ∧ w'.cell? ⟨wr.heap.size, 1, none⟩ = some (.int .i64 x1) ∧ w'.cell? ⟨wr.heap.size, 2, none⟩ = some (.string x2)) (first | go_keep | exact Held.below (HHd.out _) hb2) (first | (go_at_call 101; refine (hK.out _ (HD.out _)).mono ?_; rintro e w2 ⟨rfl, hb2⟩) | (go_at_call 102; refine (hI.out _).mono ?_; rintro e w3 ⟨rfl, hw3⟩; obtain rfl := hw3.symm))
            all_goals go_wp2
            exact hfin.out _ (belowThen (HD.out _) hb2)
        · have hd1 : decide (ct ≤ x1) = true := decide_eq_true (by omega)
          have hfin := hide (hno.out (by unfold Circ.symB; rw [decide_eq_false (show ¬ x1 < C.countK x0 0 by rw [← HCT.out]; exact r1)]; simp))
          clear hno hgo
          go_wp2
          replace r1 : ct ≤ x1 := by omega
          have hbl : w.heap.size < wr.heap.size := HBX.out.lt
          have hbl2 : w.heap.size ≠ wr.heap.size := by omega
          first | (go_region_with (first | (go_at_call 101; refine (hK.out _ (HD.out _)).mono ?_; rintro e w2 ⟨rfl, hb2⟩; obtain ⟨p0, p1, p2, p3, p4, p5, p6, p7, p8, p9, p10⟩ := Held.below (HHd.out _) hb2))) | skip
          all_goals go_wp2
          all_goals exact hfin.out _ (belowThen (HD.out _) hb2)
    · have hfin : Hid (Post (.returned (.bool true)) wr) := by
        show Post (.returned (.bool true)) wr
        rw [← HP.out]
        refine ⟨ret_bool (List.all_eq_true.2 (fun x hx => ?_)).symm, HF.out.1⟩
        obtain ⟨j, hj, rfl⟩ := List.getElem_of_mem hx
        have := HF.out.2.2 j (by rw [HH.out.l7] at hj; omega)
        rwa [atP_eq C.names j hj] at this
      go_wp2
      exact hfin.out
end Go.Proofs.Ytppaifckiaaffaa
