/-
  THE WALK of layer 4's rightLiterals.
-/
import Derived.Test.YtikjbbebfjleaaaGreatDoorJ18
namespace Go.Proofs.YtikjbbebfjleaaaGreatDoor
open Go.RowKit

theorem tmod_two {y : Int} (h : 0 < y) : y.tmod 2 = y % 2 := by rw [Int.tmod_eq_emod_of_nonneg (by omega)]

set_option maxRecDepth 100000 in
set_option maxHeartbeats 1000000 in
theorem rightLiterals_any (c : CV) (C : Circ) (w : World) (h : Holds w c C) (hS : Small C) (hm63 : -9223372036854775808 ≤ c.m) :
    Calls Tryz.prog 122 #[c.v] w fun e w' => e = .returned (.bool C.litsB) ∧ Below w.heap.size w w' := by
  have hm5 : c.m ≤ 5000 := by rw [h.m]; exact hS.max
  by_cases hm0 : c.m < 0
  · have e : C.litsB = false := by unfold Circ.litsB; rw [decide_eq_false (show ¬ 0 ≤ C.max by rw [← h.m]; omega)]; rfl
    rw [e]
    clear e h hS
    unfold CV.v
    go_enter Tryz.func122, Tryz.ntmps122
    go_wp2
    go_ret
    exact ⟨rfl, below_alloc w _⟩
  · have hsl := made_len C
    have hul := used_len C
    have hM := fun W (hb : Below w.heap.size w W) => made_any c C W (h.below hb) hS
    have hU := fun W (hb : Below w.heap.size w W) => used_any c C W (h.below hb) hS
    have h2 : c.n2 ≤ 64 := by rw [← h.l2]; exact hS.lats
    have hs1 := hS.ins
    have hs2 := hS.lats
    have hs3 := hS.outs
    have hs4 := hS.bads
    have hs5 := hS.cons
    have hs6 := hS.ands
    have hml : C.made.length ≤ 5000 := by omega
    have hul2 : C.used.length ≤ 5000 := by omega
    clear hs1 hs2 hs3 hs4 hs5 hs6 hsl hul hS
    have e : C.litsB = (C.made.all (ownB C.top) && (C.used.all (litB C.top) && C.lats.all resetB)) := by unfold Circ.litsB; rw [decide_eq_true (show 0 ≤ C.max by rw [← h.m]; omega)]; rfl
    rw [e]
    have htop : C.top = 2 * c.m + 1 := by unfold Circ.top; rw [h.m]
    rw [htop]
    obtain ⟨xs, HXS⟩ : ∃ xs, Hid (xs = C.made) := ⟨_, rfl⟩
    obtain ⟨us, HUS⟩ : ∃ us, Hid (us = C.used) := ⟨_, rfl⟩
    rw [← HXS.out] at hM hml ⊢
    rw [← HUS.out] at hU hul2 ⊢
    have HM := hide hM
    have HU := hide hU
    have HH := hide h
    have HB := hide (box_new w c)
    generalize hP : (fun (e : Ending) (w' : World) => e = .returned (.bool (xs.all (ownB (2 * c.m + 1)) && (us.all (litB (2 * c.m + 1)) && C.lats.all resetB))) ∧ Below w.heap.size w w') = Post
    have HP := hide hP
    clear h hM hU e htop hP
    unfold CV.v at HM HU ⊢
    generalize hA2 : c.a2 = A2 at HM HU HB ⊢
    have HA2 := hide hA2
    clear hA2
    go_enter Tryz.func122, Tryz.ntmps122
    go_wp2_with fail
    refine (HM.out _ (below_alloc _ _)).mono ?_
    rintro e w1 ⟨v1, rfl, hown1, hb1⟩
    obtain ⟨b1, cp1, rfl, hrow1, -, hl1, -, -⟩ := row_of_own hown1
    have HB1 : Hid (Box w1 w.heap.size c) := HB.out.below hb1
    have HW1 := hide (belowThen (below_alloc w _) hb1)
    have HR1 := hide hrow1
    obtain ⟨n, hn⟩ : ∃ n, n = xs.length := ⟨_, rfl⟩
    rw [← hn] at hml ⊢
    have HN := hide hn
    clear hown1 hb1 hrow1 hl1 HM hn HB
    go_wp2
    go_loop [5, 20] (fun _ i => ∃ k : Nat, i = .int .i64 k ∧ k ≤ n ∧ Hid (∀ j, j < k → ownB (2 * c.m + 1) (atP xs j) = true)) (fun _ i => n - (intOf i).toNat)
    case atStart => exact ⟨0, rfl, Nat.zero_le _, fun j hj => absurd hj (Nat.not_lt_zero _)⟩
    case round =>
      obtain ⟨k, rfl, hk, HF⟩ := hrel
      by_cases hlt : k < n
      · obtain ⟨b, off, rfl, -, hcell⟩ := HR1.out.addr (by rw [← HN.out]; omega)
        have hc := hcell k (by rw [← HN.out]; omega)
        rw [atP_getD] at hc
        obtain ⟨y, HY⟩ : ∃ y, Hid (y = atP xs k) := ⟨_, rfl⟩
        rw [← HY.out] at hc
        clear hcell
        have hno : Hid (ownB (2 * c.m + 1) y = false → Post (.returned (.bool false)) w1) := fun hf => by
          rw [← HP.out]
          refine ⟨ret_bool ?_, HW1.out⟩
          rw [show xs.all (ownB (2 * c.m + 1)) = false from List.all_eq_false.2 ⟨y, by rw [HY.out]; exact atP_mem xs k (by rw [← HN.out]; exact hlt), by rw [hf]; decide⟩]
          rfl
        by_cases q1 : y ≤ 0
        · have hfin := hide (hno.out (by unfold ownB; rw [decide_eq_false (show ¬ 0 < y by omega)]; rfl))
          clear hno
          go_wp2
          exact hfin.out
        · by_cases q2 : 2 * c.m + 1 < y
          · have hfin := hide (hno.out (by unfold ownB; rw [decide_eq_false (show ¬ y ≤ 2 * c.m + 1 by omega)]; simp))
            clear hno
            go_wp2
            exact hfin.out
          · have ht := tmod_two (show 0 < y by omega)
            by_cases q3 : y % 2 = 0
            · have ht0 : y.tmod 2 = 0 := by omega
              clear hno ht
              have HO : Hid (ownB (2 * c.m + 1) y = true) := by
                show ownB (2 * c.m + 1) y = true
                unfold ownB
                rw [decide_eq_true (show 0 < y by omega), decide_eq_true (show y ≤ 2 * c.m + 1 by omega), decide_eq_true q3]; rfl
              go_wp2
              go_round
              case rel =>
                refine ⟨k + 1, by go_num, by omega, fun j hj => ?_⟩
                by_cases hjk : j < k
                · exact HF.out j hjk
                · obtain rfl : j = k := by omega
                  rw [← HY.out]; exact HO.out
              case measure => simp [intOf]; omega
            · have ht0 : y.tmod 2 = 1 := by omega
              have hfin := hide (hno.out (by unfold ownB; rw [decide_eq_false q3]; simp))
              clear hno ht
              go_wp2
              exact hfin.out
      · obtain rfl : k = n := by omega
        have HA1 : Hid (xs.all (ownB (2 * c.m + 1)) = true) := List.all_eq_true.2 (all_of (p := fun y => ownB (2 * c.m + 1) y = true) (fun j hj => HF.out j (by rw [HN.out]; exact hj)))
        obtain ⟨q0, q1, q2, q3, q4, q5, q6, q7⟩ := HB1.out.cells
        rw [HA2.out] at q2
        have hU1 := hide (HU.out w1 HW1.out)
        clear HF hlt hk HU
        go_wp2_with fail
        refine hU1.out.mono ?_
        rintro e w2 ⟨v2, rfl, hown2, hb2⟩
        obtain ⟨b2, cp2, rfl, hrow2, -, hl2, -, -⟩ := row_of_own hown2
        have HB2 : Hid (Box w2 w.heap.size c) := HB1.out.below hb2
        have HW2 := hide (belowThen HW1.out hb2)
        have HR2 := hide hrow2
        obtain ⟨m, hm⟩ : ∃ m, m = us.length := ⟨_, rfl⟩
        rw [← hm] at hul2 ⊢
        have HMM := hide hm
        clear hown2 hb2 hrow2 hl2 hm q0 q1 q2 q3 q4 q5 q6 q7 hU1 HB1 HR1
        go_wp2
        go_loop [7, 40] (fun _ i => ∃ k : Nat, i = .int .i64 k ∧ k ≤ m ∧ Hid (∀ j, j < k → litB (2 * c.m + 1) (atP us j) = true)) (fun _ i => m - (intOf i).toNat)
        case atStart => exact ⟨0, rfl, Nat.zero_le _, fun j hj => absurd hj (Nat.not_lt_zero _)⟩
        case round =>
          obtain ⟨k, rfl, hk, HF⟩ := hrel
          by_cases hlt : k < m
          · obtain ⟨b, off, rfl, -, hcell⟩ := HR2.out.addr (by rw [← HMM.out]; omega)
            have hc := hcell k (by rw [← HMM.out]; omega)
            rw [atP_getD] at hc
            obtain ⟨y, HY⟩ : ∃ y, Hid (y = atP us k) := ⟨_, rfl⟩
            rw [← HY.out] at hc
            clear hcell
            have hno : Hid (litB (2 * c.m + 1) y = false → Post (.returned (.bool false)) w2) := fun hf => by
              rw [← HP.out]
              refine ⟨ret_bool ?_, HW2.out⟩
              rw [show us.all (litB (2 * c.m + 1)) = false from List.all_eq_false.2 ⟨y, by rw [HY.out]; exact atP_mem us k (by rw [← HMM.out]; exact hlt), by rw [hf]; decide⟩]
              simp
            by_cases q1 : y < 0
            · have hfin := hide (hno.out (by unfold litB; rw [decide_eq_false (show ¬ 0 ≤ y by omega)]; rfl))
              clear hno
              go_wp2
              exact hfin.out
            · by_cases q2 : 2 * c.m + 1 < y
              · have hfin := hide (hno.out (by unfold litB; rw [decide_eq_false (show ¬ y ≤ 2 * c.m + 1 by omega)]; simp))
                clear hno
                go_wp2
                exact hfin.out
              · clear hno
                have HO : Hid (litB (2 * c.m + 1) y = true) := by
                  show litB (2 * c.m + 1) y = true
                  unfold litB
                  rw [decide_eq_true (show 0 ≤ y by omega), decide_eq_true (show y ≤ 2 * c.m + 1 by omega)]; rfl
                go_wp2
                go_round
                case rel =>
                  refine ⟨k + 1, by go_num, by omega, fun j hj => ?_⟩
                  by_cases hjk : j < k
                  · exact HF.out j hjk
                  · obtain rfl : j = k := by omega
                    rw [← HY.out]; exact HO.out
                case measure => simp [intOf]; omega
          · obtain rfl : k = m := by omega
            have HA3 : Hid (us.all (litB (2 * c.m + 1)) = true) := List.all_eq_true.2 (all_of (p := fun y => litB (2 * c.m + 1) y = true) (fun j hj => HF.out j (by rw [HMM.out]; exact hj)))
            obtain ⟨-, -, q2, -, -, -, -, -⟩ := HB2.out.cells
            rw [HA2.out] at q2
            have hfin : Hid (∀ W r, C.lats.all resetB = r → Below w.heap.size w W → Post (.returned (.bool r)) W) := fun W r hr hW => by
              rw [← HP.out]
              refine ⟨ret_bool ?_, hW⟩
              rw [HA1.out, HA3.out, hr]; rfl
            clear HF hlt hk HA1 HA3 HR2 HB2
            go_wp2
            rename World => wo
            go_loopw [9, 55] (fun _ i wr => ∃ k : Nat, i = .int .i64 k ∧ k ≤ c.n2 ∧ Hid (Below w.heap.size w wr ∧ ∀ j, j < k → resetB (atP C.lats j) = true)) (fun _ i _ => c.n2 - (intOf i).toNat)
            case atStart => exact ⟨0, rfl, Nat.zero_le _, HW2.out, fun j hj => absurd hj (Nat.not_lt_zero _)⟩
            case round =>
              obtain ⟨k, rfl, hk, HF⟩ := hrel
              by_cases hlt : k < c.n2
              · obtain ⟨b, off, ha, hbw, hcell⟩ := HH.out.r2.addr (by rw [cellsT_len, HH.out.l2]; omega)
                rw [HA2.out] at ha
                subst ha
                have hat := cellsT_at C.lats k (by rw [HH.out.l2]; exact hlt)
                have hc0 := (HF.out.1.cell (p := ⟨b, off + k * 3, none⟩) hbw).trans (hcell _ _ hat.1)
                have hc1 := (HF.out.1.cell (p := ⟨b, off + k * 3 + 1, none⟩) hbw).trans (hcell _ _ hat.2.1)
                have hc2 := (HF.out.1.cell (p := ⟨b, off + k * 3 + 2, none⟩) hbw).trans (hcell _ _ hat.2.2)
                have hmem := atP_mem C.lats k (by rw [HH.out.l2]; exact hlt)
                obtain ⟨x, HX⟩ : ∃ x, Hid (x = atP C.lats k) := ⟨_, rfl⟩
                rw [← HX.out] at hc0 hc1 hc2 hmem
                obtain ⟨x0, x1, x2⟩ := x
                dsimp only at hc0 hc1 hc2
                have HMem := hide hmem
                clear hcell hat hmem q2
                have hgo : Hid (resetB (x0, x1, x2) = true → ∀ j, j < k + 1 → resetB (atP C.lats j) = true) := fun hr j hj => by
                  by_cases hjk : j < k
                  · exact HF.out.2 j hjk
                  · obtain rfl : j = k := by omega
                    rw [← HX.out]; exact hr
                have HBA := hide (fun o => belowThen HF.out.1 (below_alloc wr o))
                by_cases r0 : x2 = 0
                · subst r0
                  go_wp2
                  go_roundw
                  case rel => exact ⟨k + 1, by go_num, by omega, HBA.out _, hgo.out (by simp [resetB])⟩
                  case measure => simp [intOf]; omega
                · have r0b : (x2 != 0) = true := by simp [r0]
                  by_cases r1 : x2 = 1
                  · subst r1
                    go_wp2
                    go_roundw
                    case rel => exact ⟨k + 1, by go_num, by omega, HBA.out _, hgo.out (by simp [resetB])⟩
                    case measure => simp [intOf]; omega
                  · have r1b : (x2 != 1) = true := by simp [r1]
                    by_cases r2 : x2 = x0
                    · subst r2
                      go_wp2
                      go_roundw
                      case rel => exact ⟨k + 1, by go_num, by omega, HBA.out _, hgo.out (by simp [resetB])⟩
                      case measure => simp [intOf]; omega
                    · have r2b : (x2 != x0) = true := by simp [r2]
                      have hend : Hid (∀ o, Post (.returned (.bool false)) (wr.alloc o)) := fun o => hfin.out _ _ (List.all_eq_false.2 ⟨_, HMem.out, by simp [resetB, r0, r1, r2]⟩) (HBA.out o)
                      clear hfin
                      go_wp2
                      exact hend.out _
              · have hend := hide (hfin.out wr true (List.all_eq_true.2 (fun x hx => by
                  obtain ⟨j, hj, rfl⟩ := List.getElem_of_mem hx
                  have := HF.out.2 j (by rw [HH.out.l2] at hj; omega)
                  rwa [atP_eq C.lats j hj] at this)) HF.out.1)
                go_wp2
                exact hend.out
end Go.Proofs.YtikjbbebfjleaaaGreatDoor
