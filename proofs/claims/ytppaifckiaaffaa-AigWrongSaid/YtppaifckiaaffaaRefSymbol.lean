/-
  THE WALK of the reference's symbol.
-/
import Derived.Test.YtppaifckiaaffaaRefLits
namespace Go.Proofs.Ytppaifckiaaffaa
open Go.RowKit

set_option maxRecDepth 100000 in
set_option maxHeartbeats 6000000 in
theorem symbol_any (c : CV) (C : Circ) (x0 x1 : Int) (x2 : ByteArray) (w : World) (h : Holds w c C) (hs : x2.size ≤ 9223372036854775807) :
    Calls Try.prog 86 #[c.v, .agg #[.int .u8 x0, .int .i64 x1, .string x2]] w fun e w' => e = .returned (.bool (C.symB (x0, x1, x2))) ∧ Below w.heap.size w w' := by
  have hK := hide (fun W (hb : Below w.heap.size w W) => count_any c C x0 W (h.below hb))
  have HSK := hide (sym_kind C x0 x1)
  have HB := hide (box_new w c)
  have HHd : Hid (∀ q, Held w.heap.size (w.heap.size + 1) c c.a7 x0 x1 x2 (((w.alloc (.cells #[.int .i64 c.m, .slice c.a1 c.n1 c.c1, .slice c.a2 c.n2 c.c2, .slice c.a3 c.n3 c.c3, .slice c.a4 c.n4 c.c4, .slice c.a5 c.n5 c.c5, .slice c.a6 c.n6 c.c6, .slice c.a7 c.n7 c.c7] 27)).alloc (.cells #[.int .u8 x0, .int .i64 x1, .string x2] 49)).drewN q)) := fun q => by
    have := held_new HB.out x0 x1 x2
    rw [show (w.alloc (.cells #[.int .i64 c.m, .slice c.a1 c.n1 c.c1, .slice c.a2 c.n2 c.c2, .slice c.a3 c.n3 c.c3, .slice c.a4 c.n4 c.c4, .slice c.a5 c.n5 c.c5, .slice c.a6 c.n6 c.c6, .slice c.a7 c.n7 c.c7] 27)).heap.size = w.heap.size + 1 from Array.size_push _] at this
    exact this
  have HD : Hid (∀ q, Below w.heap.size w (((w.alloc (.cells #[.int .i64 c.m, .slice c.a1 c.n1 c.c1, .slice c.a2 c.n2 c.c2, .slice c.a3 c.n3 c.c3, .slice c.a4 c.n4 c.c4, .slice c.a5 c.n5 c.c5, .slice c.a6 c.n6 c.c6, .slice c.a7 c.n7 c.c7] 27)).alloc (.cells #[.int .u8 x0, .int .i64 x1, .string x2] 49)).drewN q)) := fun q => belowThen (below_two w _ _) (Drew.below ⟨q, rfl⟩)
  obtain ⟨ct, HCT⟩ : ∃ ct, Hid (ct = C.countK x0 (-1)) := ⟨_, rfl⟩
  rw [← HCT.out] at hK
  have hfin : Hid (∀ r W, C.symB (x0, x1, x2) = r → Below w.heap.size w W → (fun (e : Ending) (w' : World) => e = .returned (.bool (C.symB (x0, x1, x2))) ∧ Below w.heap.size w w') (.returned (.bool r)) W) := fun r W hr hW => ⟨ret_bool hr.symm, hW⟩
  generalize hP : (fun (e : Ending) (w' : World) => e = .returned (.bool (C.symB (x0, x1, x2))) ∧ Below w.heap.size w w') = Post at hfin ⊢
  clear h hP HB
  have he := isEmpty_of x2
  unfold CV.v at hK ⊢
  by_cases r0 : x1 < 0
  · have hf := hide (fun W hW => hfin.out false W (by unfold Circ.symB; rw [decide_eq_false (show ¬ 0 ≤ x1 by omega)]; rfl) hW)
    clear hfin
    go_enter Try.func86, Try.ntmps86
    go_wp2
    go_quiet (fail)
    go_wp2
    exact hf.out _ (HD.out _)
  · have hd0 : decide (x1 < 0) = false := decide_eq_false r0
    have HSB : Hid (C.symB (x0, x1, x2) = (decide (x1 < ct) && nameB x2)) := by
      show C.symB (x0, x1, x2) = (decide (x1 < ct) && nameB x2)
      unfold Circ.symB
      rw [decide_eq_true (show 0 ≤ x1 by omega), HCT.out, HSK.out (by omega)]; rfl
    by_cases r1 : x1 < ct
    · have hd1 : decide (ct ≤ x1) = false := decide_eq_false (by omega)
      by_cases h0 : x2.size = 0
      · have hf := hide (fun W hW => hfin.out false W (by rw [HSB.out]; unfold nameB; simp [h0]) hW)
        rw [decide_eq_true h0] at he
        clear hfin
        go_enter Try.func86, Try.ntmps86
        go_wp2
        first | (go_region_with (first | (go_at_call 105; refine (hK.out _ (HD.out _)).mono ?_; rintro e w2 ⟨rfl, hb2⟩; obtain ⟨p0, p1, p2, p3, p4, p5, p6, p7, p8, p9, p10⟩ := Held.below (HHd.out _) hb2))) | skip
        all_goals go_wp2
        all_goals exact hf.out _ (belowThen (HD.out _) hb2)
      · rw [decide_eq_false h0] at he
        by_cases h1 : (100 : Int) < x2.size
        · have hf := hide (fun W hW => hfin.out false W (by rw [HSB.out]; unfold nameB; rw [decide_eq_false (show ¬ x2.size ≤ 100 by omega)]; simp) hW)
          have hd2 : decide ((100 : Int) < x2.size) = true := decide_eq_true h1
          clear hfin
          go_enter Try.func86, Try.ntmps86
          go_wp2
          go_region_held3 (fun w' => w'.cell? ⟨w.heap.size, 0, none⟩ = some (.int .i64 c.m) ∧ w'.cell? ⟨w.heap.size, 1, none⟩ = some (.slice c.a1 c.n1 c.c1) ∧ w'.cell? ⟨w.heap.size, 2, none⟩ = some (.slice c.a2 c.n2 c.c2) ∧ w'.cell? ⟨w.heap.size, 3, none⟩ = some (.slice c.a3 c.n3 c.c3) ∧ w'.cell? ⟨w.heap.size, 4, none⟩ = some (.slice c.a4 c.n4 c.c4) ∧ w'.cell? ⟨w.heap.size, 5, none⟩ = some (.slice c.a5 c.n5 c.c5) ∧ w'.cell? ⟨w.heap.size, 6, none⟩ = some (.slice c.a6 c.n6 c.c6) ∧ w'.cell? ⟨w.heap.size, 7, none⟩ = some (.slice c.a7 c.n7 c.c7) ∧ w'.cell? ⟨w.heap.size + 1, 0, none⟩ = some (.int .u8 x0) ∧ w'.cell? ⟨w.heap.size + 1, 1, none⟩ = some (.int .i64 x1) ∧ w'.cell? ⟨w.heap.size + 1, 2, none⟩ = some (.string x2)) (first | go_keep | exact Held.below (HHd.out _) hb2) (first | (go_at_call 105; refine (hK.out _ (HD.out _)).mono ?_; rintro e w2 ⟨rfl, hb2⟩))
          all_goals go_wp2
          all_goals exact hf.out _ (belowThen (HD.out _) hb2)
        · have hd2 : decide ((100 : Int) < x2.size) = false := decide_eq_false h1
          have hf := hide (fun r W (hr : x2.data.toList.all (fun b => decide (32 ≤ b.toNat)) = r) hW => hfin.out r W (by rw [HSB.out]; unfold nameB; rw [decide_eq_true r1, decide_eq_true (show x2.size ≠ 0 from h0), decide_eq_true (show x2.size ≤ 100 by omega), Bool.true_and, Bool.true_and, Bool.true_and]; exact hr) hW)
          clear hfin
          go_enter Try.func86, Try.ntmps86
          go_wp2
          go_region_held3 (fun w' => w'.cell? ⟨w.heap.size, 0, none⟩ = some (.int .i64 c.m) ∧ w'.cell? ⟨w.heap.size, 1, none⟩ = some (.slice c.a1 c.n1 c.c1) ∧ w'.cell? ⟨w.heap.size, 2, none⟩ = some (.slice c.a2 c.n2 c.c2) ∧ w'.cell? ⟨w.heap.size, 3, none⟩ = some (.slice c.a3 c.n3 c.c3) ∧ w'.cell? ⟨w.heap.size, 4, none⟩ = some (.slice c.a4 c.n4 c.c4) ∧ w'.cell? ⟨w.heap.size, 5, none⟩ = some (.slice c.a5 c.n5 c.c5) ∧ w'.cell? ⟨w.heap.size, 6, none⟩ = some (.slice c.a6 c.n6 c.c6) ∧ w'.cell? ⟨w.heap.size, 7, none⟩ = some (.slice c.a7 c.n7 c.c7) ∧ w'.cell? ⟨w.heap.size + 1, 0, none⟩ = some (.int .u8 x0) ∧ w'.cell? ⟨w.heap.size + 1, 1, none⟩ = some (.int .i64 x1) ∧ w'.cell? ⟨w.heap.size + 1, 2, none⟩ = some (.string x2)) (first | go_keep | exact Held.below (HHd.out _) hb2) (first | (go_at_call 105; refine (hK.out _ (HD.out _)).mono ?_; rintro e w2 ⟨rfl, hb2⟩))
          have HW := hide (belowThen (HD.out _) hb2)
          obtain ⟨p0, p1, p2, p3, p4, p5, p6, p7, p8, p9, p10⟩ := Held.below (HHd.out _) hb2
          clear hb2
          go_wp2
          go_loop [5] (fun i => ∃ k : Nat, i = .int .i64 k ∧ k ≤ x2.size ∧ Hid (∀ j (hj : j < x2.size), j < k → 32 ≤ x2[j].toNat)) (fun i => x2.size - (intOf i).toNat)
          case atStart => exact ⟨0, rfl, Nat.zero_le _, fun j _ hj => absurd hj (Nat.not_lt_zero _)⟩
          case round =>
            obtain ⟨k, rfl, hk, HF⟩ := hrel
            by_cases hlt : k < x2.size
            · by_cases h32 : ((x2[k]'hlt).toNat : Int) < 32
              · have hn := hide (hf.out false _ (name_not x2 k hlt (by omega)) HW.out)
                clear hf
                go_wp2
                exact hn.out
              · go_wp2
                go_round
                case rel =>
                  refine ⟨k + 1, by go_num, by omega, fun j hj hjk => ?_⟩
                  by_cases h : j < k
                  · exact HF.out j hj h
                  · obtain rfl : j = k := by omega
                    omega
                case measure => simp [intOf]; omega
            · have hn := hide (hf.out true _ (name_all x2 (fun j hj => HF.out j hj (by omega))) HW.out)
              clear hf
              go_wp2
              exact hn.out
    · have hd1 : decide (ct ≤ x1) = true := decide_eq_true (by omega)
      have hf := hide (fun W hW => hfin.out false W (by rw [HSB.out, decide_eq_false r1]; rfl) hW)
      clear hfin
      go_enter Try.func86, Try.ntmps86
      go_wp2
      replace r1 : ct ≤ x1 := by omega
      first | (go_region_with (first | (go_at_call 105; refine (hK.out _ (HD.out _)).mono ?_; rintro e w2 ⟨rfl, hb2⟩; obtain ⟨p0, p1, p2, p3, p4, p5, p6, p7, p8, p9, p10⟩ := Held.below (HHd.out _) hb2))) | skip
      all_goals go_wp2
      all_goals exact hf.out _ (belowThen (HD.out _) hb2)
end Go.Proofs.Ytppaifckiaaffaa
