/-
  THE WALK of the reference's CubeOf.
-/
import Derived.Test.YtcbgnmkipbhncaaRefCubeOf
namespace Go.Proofs.Ytcbgnmkipbhncaa
open Go.RowKit

set_option maxRecDepth 100000 in
set_option maxHeartbeats 2000000 in
theorem refOf_any (a : Option Addr) (n c : Nat) (xs : List Int) (w : World) (hr : RowK .i64 w a xs) (hx : xs.length = n) (hn : n ≤ 9223372036854775807) :
    Calls Try.prog 11 #[.slice a n c] w (OfPost w xs) := by
  obtain ⟨i0, hi, hz0, hz1, hz2⟩ := info_parts infoInt
  have HR := hide hr
  have HX := hide hx
  generalize hP : OfPost w xs = Post
  have HP := hide hP
  clear hr hx hP
  go_enter Try.func11, Try.ntmps11
  go_wp2
  go_loopw [4, 5] (fun v i wr => ∃ (k m : Nat) (acc : List Int), i = .int .i64 k ∧ k ≤ n ∧ Hid (RefMid w xs k v m acc wr)) (fun _ i _ => n - (intOf i).toNat)
  case atStart => exact ⟨0, 0, [], rfl, Nat.zero_le _, World.ownsRow_nil _ _ _ _, Below.refl _ _, ⟨fun x hx => by simp at hx, fun x hx => by simp at hx⟩, List.Pairwise.nil, fun x => by simp, rfl, .inl rfl⟩
  case round =>
    obtain ⟨k, m, acc, rfl, hk, HM⟩ := hrel
    rename World => wo
    by_cases hlt : k < n
    · obtain ⟨b, off, rfl, hbw, hcell⟩ := HR.out.addr (by rw [HX.out]; omega)
      have hc0 := hcell k (by rw [HX.out]; omega)
      rw [atP_getD] at hc0
      obtain ⟨x, HXX⟩ : ∃ x, Hid (x = atP xs k) := ⟨_, rfl⟩
      rw [← HXX.out] at hc0
      have hc : wo.cell? ⟨b, off + k, none⟩ = some (.int .i64 x) := (HM.out.2.1.cell (p := ⟨b, off + k, none⟩) hbw).trans hc0
      clear hcell hc0
      have hs := fits_any x wo
      have hxm : x ∈ xs := by rw [HXX.out]; exact atP_mem xs k (by rw [HX.out]; exact hlt)
      have HXM := hide hxm
      clear hxm
      by_cases hf : Fits x
      · rw [(fitB_iff x).2 hf] at hs
        have hx0 := hf.1
        have hx1 := hf.2.1
        have hx2 := hf.2.2
        have HF := hide hf
        clear hf
        have hacc : ∀ y ∈ acc, Fits y := fun y hy => HM.out.2.2.1.1 y ((HM.out.2.2.2.2.1 y).1 hy)
        have hmb : acc.length ≤ 2147483648 := up_short HM.out.2.2.2.1 hacc
        rw [HM.out.2.2.2.2.2.1] at hmb
        have HA := hide hacc
        clear hacc
        by_cases h0 : m = 0
        · have hv : u4 = .slice none 0 0 := by
            rcases HM.out.2.2.2.2.2.2 with h | h
            · exact h
            · omega
          subst h0
          subst hv
          have hacc : acc = [] := List.eq_nil_of_length_eq_zero HM.out.2.2.2.2.2.1
          go_wp2_with (go_at_call 32; refine hs.mono ?_; rintro e w1 ⟨rfl, hw1⟩; obtain rfl := hw1.symm)
          go_loopw [6] (fun s6 wr2 => s6 = .int .i64 0 ∧ ∃ q, Hid (wr2 = wo.drewN q)) (fun _ _ => 0)
          case atStart => exact ⟨rfl, 0, rfl⟩
          case round =>
            obtain ⟨rfl, q, HQ⟩ := hrel
            have hbz : w.heap.size ≤ wr.heap.size := by rw [HQ.out]; exact HM.out.2.1.size
            have hc2 : wr.cell? ⟨b, off + k, none⟩ = some (.int .i64 x) := by rw [HQ.out]; exact hc
            go_wp2
            go_quiet (fail)
            go_wp2
            go_quiet (fail)
            go_wp2
            go_quiet (fail)
            go_wp2_with fail
            go_region_law ((first | (refine step_append_row _ (by rfl) (.tmp 76) (.tmp 81) 22 (by rfl) .i64 w.heap.size 3 i0 (.int .i64 0) 8 Try.underlying22 hi hz0 hz1 hz2 (by rfl) (.slice none 0 0) 0 [] (by simp [Act.eval]) (World.ownsRow_nil _ _ _ _) (some ⟨wr.heap.size, 0, none⟩) 1 1 [x] (by simp [Act.eval]) (by rfl) (row_one _ _ _) (fun e => by cases e) (by unfold maxLen; omega) (by omega) (by simp; omega) ?_; intro v1 w1 hown1 hg1) | (refine step_append_row _ (by rfl) (.tmp 82) (.tmp 83) 22 (by rfl) .i64 w.heap.size 3 i0 (.int .i64 0) 8 Try.underlying22 hi hz0 hz1 hz2 (by rfl) _ _ _ (by simp [Act.eval]) hown1 none 0 0 [] (by simp [Act.eval]) (by rfl) (.inl ⟨rfl, rfl⟩) (fun _ => rfl) (by unfold maxLen; omega) (by omega) (by have := hg1.size; simp at this; omega) ?_; intro v2 w2 hown2 hg2)))
            go_wp2
            go_roundw
            case rel =>
              have hst := ref_step (k := 0) (by rw [HX.out]; exact hlt) HXX.out HF.out HM.out.2.2.1 HM.out.2.2.2.1 HM.out.2.2.2.2.1 (by omega) (fun j hj => absurd hj (Nat.not_lt_zero _)) (fun h => by rw [hacc] at h; simp at h)
              have hq := hst.2 (fun h => by have := h.1; rw [hacc] at this; simp at this)
              have hb : Below w.heap.size w wr := by rw [HQ.out]; exact ⟨HM.out.2.1.os, HM.out.2.1.tape, HM.out.2.1.output, HM.out.2.1.size, HM.out.2.1.block⟩
              have hb1 := below_step hb hg1 hbz (fun k hk => by cases hk) ⟨rfl, rfl, rfl, rfl⟩
              rw [hacc] at hq
              exact ⟨k + 1, 1, [x], by go_num, by omega, by simpa using hown2, hb1.grown hg2 (by have := hb1.size; omega) (fun k hk => (hown1.lt k hk).1), hq.1, hq.2.1, hq.2.2, rfl, .inr (by omega)⟩
            case measure => simp [intOf]; omega
        · have hform : ∃ g cp, u4 = .slice (some ⟨g, 0, none⟩) m cp ∧ w.heap.size ≤ g ∧ g < wo.heap.size ∧ m ≤ cp ∧ cp ≤ 9223372036854775807 := by
            rcases HM.out.1.2 with ⟨e, e0⟩ | ⟨g, cp, cur, e, q1, q2, q3, q4, _⟩
            · exact absurd e0 h0
            · exact ⟨g, cp, e, q1, (Array.getElem?_eq_some_iff.1 q2).1, q3, q4⟩
          obtain ⟨g, cp, rfl, hg0, hg1w, hmc, hcp⟩ := hform
          go_wp2_with (go_at_call 32; refine hs.mono ?_; rintro e w1 ⟨rfl, hw1⟩; obtain rfl := hw1.symm)
          go_loopw [6] (fun s6 wr2 => ∃ j : Nat, s6 = .int .i64 j ∧ j ≤ m ∧ ∃ q, Hid (wr2 = wo.drewN q) ∧ Hid (∀ i, i < j → mag (atP acc i) < mag x)) (fun s6 _ => m - (intOf s6).toNat)
          case atStart => exact ⟨0, rfl, Nat.zero_le _, 0, rfl, fun i hi => absurd hi (Nat.not_lt_zero _)⟩
          case round =>
            obtain ⟨j, rfl, hj, q, HQ, HJ⟩ := hrel
            have hjc : j ≤ cp := by omega
            have hbw : Below w.heap.size w wr := by rw [HQ.out]; exact ⟨HM.out.2.1.os, HM.out.2.1.tape, HM.out.2.1.output, HM.out.2.1.size, HM.out.2.1.block⟩
            have hbz := hbw.size
            have hgl : g < wr.heap.size := by rw [HQ.out]; exact hg1w
            have hc2 : wr.cell? ⟨b, off + k, none⟩ = some (.int .i64 x) := by rw [HQ.out]; exact hc
            have hown0 : wr.ownsRow w.heap.size 3 1 (.slice (some ⟨g, 0, none⟩) m cp) m (acc.map (Value.int .i64)) := by rw [HQ.out]; exact HM.out.1
            have HO := hide hown0
            have HBW := hide hbw
            clear hown0 hbw hs
            have hst := ref_step (by rw [HX.out]; exact hlt) HXX.out HF.out HM.out.2.2.1 HM.out.2.2.2.1 HM.out.2.2.2.2.1 (k := j) (by rw [HM.out.2.2.2.2.2.1]; exact hj) HJ.out
            have hins := insL_at x acc j (by rw [HM.out.2.2.2.2.2.1]; exact hj) HJ.out
            rw [HM.out.2.2.2.2.2.1] at hst hins
            have HS := hide (And.intro hst hins)
            clear hst hins
            by_cases hjm : j < m
            · have hcy : wr.cell? ⟨g, j, none⟩ = some (.int .i64 (atP acc j)) := by
                have := HO.out.cells (g := g) rfl j (.int .i64 (atP acc j)) (by rw [List.getElem?_map, atP_some acc j (by rw [HM.out.2.2.2.2.2.1]; exact hjm)]; rfl)
                rwa [add_plain, Nat.zero_add] at this
              have hfy : Fits (atP acc j) := HA.out _ (atP_mem acc j (by rw [HM.out.2.2.2.2.2.1]; exact hjm))
              obtain ⟨y, HYY⟩ : ∃ y, Hid (y = atP acc j) := ⟨_, rfl⟩
              rw [← HYY.out] at hcy hfy
              have hy1 := hfy.2.1
              have hy2 := hfy.2.2
              have hsy := fun W => refSize_any y W hfy.2
              have hsx := fun W => refSize_any x W HF.out.2
              obtain ⟨my, HMY⟩ : ∃ my, Hid (my = mag y) := ⟨_, rfl⟩
              obtain ⟨mx, HMX⟩ : ∃ mx, Hid (mx = mag x) := ⟨_, rfl⟩
              rw [← HMY.out] at hsy
              rw [← HMX.out] at hsx
              by_cases hmm : my < mx
              · go_wp2
                go_quiet (first | (go_at_call 33; refine Calls.quiet_of_same (hsy _)) | (go_at_call 33; refine Calls.quiet_of_same (hsx _)))
                go_wp2
                go_roundw
                case rel =>
                  refine ⟨j + 1, by go_num, by omega, _, (show _ = wo.drewN _ by rw [HQ.out, World.drewN_drewN]), fun i hi => ?_⟩
                  by_cases hij : i < j
                  · exact HJ.out i hij
                  · obtain rfl : i = j := by omega
                    rw [← HYY.out, ← HMY.out, ← HMX.out]; exact hmm
                case measure => simp [intOf]; omega
              · have hle : ¬ mag (atP acc j) < mag x := by rw [← HYY.out, ← HMY.out, ← HMX.out]; exact hmm
                have HLE := hide hle
                clear hle
                by_cases hya : y = -x
                · subst hya
                  have hfin : Post (.returned (.tuple #[.slice none 0 0, .bool false])) wr := by
                    rw [← HP.out]
                    exact of_bad (HS.out.1 (fun _ => HLE.out) |>.1 ⟨hjm, HYY.out.symm⟩) HBW.out
                  have hfin2 : Hid (∀ W : World, W.heap = wr.heap → W.os = wr.os → W.tape = wr.tape → W.output = wr.output → Post (.returned (.tuple #[.slice none 0 0, .bool false])) W) := by
                    intro W e1 e2 e3 e4
                    rw [← HP.out]
                    have hb := HBW.out
                    exact of_bad (HS.out.1 (fun _ => HLE.out) |>.1 ⟨hjm, HYY.out.symm⟩) ⟨e2.trans hb.os, e3.trans hb.tape, e4.trans hb.output, by rw [e1]; exact hb.size, fun k hk => by rw [e1]; exact hb.block k hk⟩
                  clear hfin
                  go_wp2
                  go_quiet (first | (go_at_call 33; refine Calls.quiet_of_same (hsy _)) | (go_at_call 33; refine Calls.quiet_of_same (hsx _)))
                  go_wp2
                  go_quiet (fail)
                  go_wp2
                  exact hfin2.out _ rfl rfl rfl rfl
                · have hb1 : (y == -x) = false := by rw [beq_eq_false_iff_ne]; exact hya
                  by_cases hyb : y = x
                  · subst hyb
                    go_wp2
                    go_quiet (first | (go_at_call 33; refine Calls.quiet_of_same (hsy _)) | (go_at_call 33; refine Calls.quiet_of_same (hsx _)))
                    go_wp2
                    go_quiet (fail)
                    go_wp2
                    go_quiet (fail)
                    go_wp2
                    go_roundw
                    case rel =>
                      have hq := (HS.out.1 (fun _ => HLE.out)).2 (fun h => hya (HYY.out.trans h.2))
                      have hi2 := HS.out.2 (fun _ => HLE.out)
                      rw [if_pos ⟨hjm, HYY.out.symm⟩] at hi2
                      rw [hi2] at hq
                      have hb := HBW.out
                      exact ⟨k + 1, m, acc, by go_num, by omega, HO.out, ⟨hb.os, hb.tape, hb.output, hb.size, hb.block⟩, hq.1, hq.2.1, hq.2.2, HM.out.2.2.2.2.2.1, .inr (by omega)⟩
                    case measure => simp [intOf]; omega
                  · have hb2 : (y == x) = false := by rw [beq_eq_false_iff_ne]; exact hyb
                    have HTL : Hid ((acc.drop j).length = m - j) := by show (acc.drop j).length = m - j; rw [List.length_drop, HM.out.2.2.2.2.2.1]
                    have HTR := hide (own_tail HO.out j)
                    go_wp2
                    go_quiet (first | (go_at_call 33; refine Calls.quiet_of_same (hsy _)) | (go_at_call 33; refine Calls.quiet_of_same (hsx _)))
                    go_wp2
                    go_quiet (fail)
                    go_wp2
                    go_quiet (fail)
                    go_wp2_with (at_builtin; refine wpList_append_row _ rfl (.const (.slice none 0 0)) (.tmp 72) 22 rfl .i64 wr.heap.size 3 i0 (.int .i64 0) 8 Try.underlying22 hi hz0 hz1 hz2 rfl (.slice none 0 0) 0 [] rfl (World.ownsRow_nil _ _ _ _) (some ⟨g, j, none⟩) (m - j) (cp - j) (acc.drop j) rfl HTL.out (row_like HTR.out rfl) (fun e => by cases e) (by unfold maxLen; omega) (by omega) (Nat.le_refl _) ?_; intro v7 w7 hown7 hg7; rw [Nat.zero_add, List.nil_append] at hown7; obtain ⟨a7, c7, rfl, hrow7, hnc7, hl7, hc7a, hc7b⟩ := row_of_own hown7)
                    have H7 := hide (And.intro hown7 (And.intro hnc7 (own_apart hown7 hgl)))
                    have HO8 := hide (kept_like HO.out hg7 rfl (.inr (by simp [Value.ownBlock])))
                    have HB7 := hide (below_like HBW.out hg7 hbz (fun k hk => by cases hk) ⟨rfl, rfl, rfl, rfl⟩)
                    have hsz7 : wr.heap.size ≤ w7.heap.size := hg7.size
                    have hc7 : w7.cell? ⟨b, off + k, none⟩ = some (.int .i64 x) := cell_like hg7 rfl hc2 (by simp [Value.ownBlock])
                    clear hown7 hrow7 hnc7 hl7 hc7a hc7b hg7
                    go_wp2_with fail
                    go_region_law ((first | (refine step_append_row _ (by rfl) (.tmp 76) (.tmp 81) 22 (by rfl) .i64 w.heap.size 3 i0 (.int .i64 0) 8 Try.underlying22 hi hz0 hz1 hz2 (by rfl) (.slice (some ⟨g, 0, none⟩) (j) cp) (j) ((acc.map (Value.int .i64)).take (j)) (by simp [Act.eval]) (own_like ((own_prefix HO8.out (j) (by omega)).alloc (.cells #[.int .i64 x] 3)) rfl) (some ⟨w7.heap.size, 0, none⟩) 1 1 [x] (by simp [Act.eval]) (by rfl) (row_like (row_one w7 x 3) rfl) (fun e => by cases e) (by unfold maxLen; omega) (by omega) (by simp; omega) ?_; intro v1 w1 hown1 hg1; have hown9 := kept_like (H7.out.1.alloc (.cells #[.int .i64 x] 3)) hg1 rfl H7.out.2.2; obtain ⟨a9, c9, e9, hrow9, hnc9, hl9, -, -⟩ := row_of_own hown9; cases e9) | (refine step_append_row _ (by rfl) (.tmp 82) (.tmp 83) 22 (by rfl) .i64 w.heap.size 3 i0 (.int .i64 0) 8 Try.underlying22 hi hz0 hz1 hz2 (by rfl) _ _ _ (by simp [Act.eval]) hown1 a7 (m - j) c7 (acc.drop j) (by simp [Act.eval]) hl9 hrow9 hnc9 (by unfold maxLen; omega) (by omega) (by have := hg1.size; simp at this; omega) ?_; intro v2 w2 hown2 hg2)))
                    go_wp2
                    go_roundw
                    case rel =>
                      have hq := HS.out.1 (fun _ => HLE.out)
                      have hq2 := hq.2 (fun h => hya (HYY.out.trans h.2))
                      have hi2 := HS.out.2 (fun _ => HLE.out)
                      rw [if_neg (fun h => hyb (HYY.out.trans h.2))] at hi2
                      have hbA := HB7.out.grown (World.grownBy_alloc w7 (.cells #[.int .i64 x] 3) none) (by omega) (fun k hk => by cases hk)
                      have hb1 := below_like hbA hg1 (by simp; omega) (fun k hk => by cases hk; exact hg0) ⟨rfl, rfl, rfl, rfl⟩
                      have hlen : (insL x acc).length = j + 1 + (m - j) := by rw [hi2]; simp [HM.out.2.2.2.2.2.1] <;> omega
                      refine ⟨k + 1, j + 1 + (m - j), insL x acc, by go_num, by omega, ?_, hb1.grown hg2 (by have := hb1.size; omega) (fun k hk => (hown1.lt k hk).1), hq2.1, hq2.2.1, hq2.2.2, hlen, .inr (by omega)⟩
                      have e : (acc.map (Value.int .i64)).take (j) ++ [x].map (Value.int .i64) ++ (acc.drop j).map (Value.int .i64) = (insL x acc).map (Value.int .i64) := by rw [hi2]; simp
                      rw [← e]
                      exact hown2
                    case measure => simp [intOf]; omega
            · obtain rfl : m = j := by omega
              have HTL : Hid ((([] : List Int)).length = 0) := rfl
              have HDR : Hid (acc.drop m = []) := List.drop_eq_nil_of_le (by rw [HM.out.2.2.2.2.2.1]; exact Nat.le_refl _)
              by_cases hmcp : m < cp
              · have HTR := hide (row_empty .i64 wr ⟨g, m, none⟩)
                go_wp2
                go_quiet (fail)
                go_wp2
                go_quiet (fail)
                go_wp2
                go_quiet (fail)
                go_wp2_with (at_builtin; refine wpList_append_row _ rfl (.const (.slice none 0 0)) (.tmp 72) 22 rfl .i64 wr.heap.size 3 i0 (.int .i64 0) 8 Try.underlying22 hi hz0 hz1 hz2 rfl (.slice none 0 0) 0 [] rfl (World.ownsRow_nil _ _ _ _) (some ⟨g, m, none⟩) 0 (cp - m) [] rfl HTL.out (row_like HTR.out rfl) (fun e => by cases e) (by unfold maxLen; omega) (by omega) (Nat.le_refl _) ?_; intro v7 w7 hown7 hg7; rw [Nat.zero_add, List.nil_append] at hown7; obtain ⟨a7, c7, rfl, hrow7, hnc7, hl7, hc7a, hc7b⟩ := row_of_own hown7)
                have H7 := hide (And.intro hown7 (And.intro hnc7 (own_apart hown7 hgl)))
                have HO8 := hide (kept_like HO.out hg7 rfl (.inr (by simp [Value.ownBlock])))
                have HB7 := hide (below_like HBW.out hg7 hbz (fun k hk => by cases hk) ⟨rfl, rfl, rfl, rfl⟩)
                have hsz7 : wr.heap.size ≤ w7.heap.size := hg7.size
                have hc7 : w7.cell? ⟨b, off + k, none⟩ = some (.int .i64 x) := cell_like hg7 rfl hc2 (by simp [Value.ownBlock])
                clear hown7 hrow7 hnc7 hl7 hc7a hc7b hg7
                go_wp2_with fail
                go_region_law ((first | (refine step_append_row _ (by rfl) (.tmp 76) (.tmp 81) 22 (by rfl) .i64 w.heap.size 3 i0 (.int .i64 0) 8 Try.underlying22 hi hz0 hz1 hz2 (by rfl) (.slice (some ⟨g, 0, none⟩) m cp) m ((acc.map (Value.int .i64)).take m) (by simp [Act.eval]) (own_like ((own_prefix HO8.out m (by omega)).alloc (.cells #[.int .i64 x] 3)) rfl) (some ⟨w7.heap.size, 0, none⟩) 1 1 [x] (by simp [Act.eval]) (by rfl) (row_like (row_one w7 x 3) rfl) (fun e => by cases e) (by unfold maxLen; omega) (by omega) (by simp; omega) ?_; intro v1 w1 hown1 hg1; have hown9 := kept_like (H7.out.1.alloc (.cells #[.int .i64 x] 3)) hg1 rfl H7.out.2.2; obtain ⟨a9, c9, e9, hrow9, hnc9, hl9, -, -⟩ := row_of_own hown9; cases e9) | (refine step_append_row _ (by rfl) (.tmp 82) (.tmp 83) 22 (by rfl) .i64 w.heap.size 3 i0 (.int .i64 0) 8 Try.underlying22 hi hz0 hz1 hz2 (by rfl) _ _ _ (by simp [Act.eval]) hown1 a7 0 c7 [] (by simp [Act.eval]) hl9 hrow9 hnc9 (by unfold maxLen; omega) (by omega) (by have := hg1.size; simp at this; omega) ?_; intro v2 w2 hown2 hg2)))
                go_wp2
                go_roundw
                case rel =>
                  have hq := HS.out.1 (fun h => absurd h (Nat.lt_irrefl _))
                  have hq2 := hq.2 (fun h => absurd h.1 (Nat.lt_irrefl _))
                  have hi2 := HS.out.2 (fun h => absurd h (Nat.lt_irrefl _))
                  rw [if_neg (fun h => absurd h.1 (Nat.lt_irrefl _))] at hi2
                  have hbA := HB7.out.grown (World.grownBy_alloc w7 (.cells #[.int .i64 x] 3) none) (by omega) (fun k hk => by cases hk)
                  have hb1 := below_like hbA hg1 (by simp; omega) (fun k hk => by cases hk; exact hg0) ⟨rfl, rfl, rfl, rfl⟩
                  have hlen : (insL x acc).length = m + 1 + 0 := by rw [hi2]; simp [HM.out.2.2.2.2.2.1] <;> omega
                  refine ⟨k + 1, m + 1 + 0, insL x acc, by go_num, by omega, ?_, hb1.grown hg2 (by have := hb1.size; omega) (fun k hk => (hown1.lt k hk).1), hq2.1, hq2.2.1, hq2.2.2, hlen, .inr (by omega)⟩
                  have e : (acc.map (Value.int .i64)).take m ++ [x].map (Value.int .i64) ++ ([] : List Int).map (Value.int .i64) = (insL x acc).map (Value.int .i64) := by rw [hi2, HDR.out]; simp
                  rw [← e]
                  exact hown2
                case measure => simp [intOf]; omega
              · obtain rfl : m = cp := by omega
                have HTR := hide (row_empty .i64 wr ⟨g, 0, none⟩)
                go_wp2
                go_quiet (fail)
                go_wp2
                go_quiet (fail)
                go_wp2
                go_quiet (fail)
                go_wp2_with (at_builtin; refine wpList_append_row _ rfl (.const (.slice none 0 0)) (.tmp 72) 22 rfl .i64 wr.heap.size 3 i0 (.int .i64 0) 8 Try.underlying22 hi hz0 hz1 hz2 rfl (.slice none 0 0) 0 [] rfl (World.ownsRow_nil _ _ _ _) (some ⟨g, 0, none⟩) 0 0 [] rfl HTL.out (row_like HTR.out rfl) (fun e => by cases e) (by unfold maxLen; omega) (by omega) (Nat.le_refl _) ?_; intro v7 w7 hown7 hg7; rw [Nat.zero_add, List.nil_append] at hown7; obtain ⟨a7, c7, rfl, hrow7, hnc7, hl7, hc7a, hc7b⟩ := row_of_own hown7)
                have H7 := hide (And.intro hown7 (And.intro hnc7 (own_apart hown7 hgl)))
                have HO8 := hide (kept_like HO.out hg7 rfl (.inr (by simp [Value.ownBlock])))
                have HB7 := hide (below_like HBW.out hg7 hbz (fun k hk => by cases hk) ⟨rfl, rfl, rfl, rfl⟩)
                have hsz7 : wr.heap.size ≤ w7.heap.size := hg7.size
                have hc7 : w7.cell? ⟨b, off + k, none⟩ = some (.int .i64 x) := cell_like hg7 rfl hc2 (by simp [Value.ownBlock])
                clear hown7 hrow7 hnc7 hl7 hc7a hc7b hg7
                go_wp2_with fail
                go_region_law ((first | (refine step_append_row _ (by rfl) (.tmp 76) (.tmp 81) 22 (by rfl) .i64 w.heap.size 3 i0 (.int .i64 0) 8 Try.underlying22 hi hz0 hz1 hz2 (by rfl) (.slice (some ⟨g, 0, none⟩) m m) m ((acc.map (Value.int .i64)).take m) (by simp [Act.eval]) (own_like ((own_prefix HO8.out m (by omega)).alloc (.cells #[.int .i64 x] 3)) rfl) (some ⟨w7.heap.size, 0, none⟩) 1 1 [x] (by simp [Act.eval]) (by rfl) (row_like (row_one w7 x 3) rfl) (fun e => by cases e) (by unfold maxLen; omega) (by omega) (by simp; omega) ?_; intro v1 w1 hown1 hg1; have hown9 := kept_like (H7.out.1.alloc (.cells #[.int .i64 x] 3)) hg1 rfl H7.out.2.2; obtain ⟨a9, c9, e9, hrow9, hnc9, hl9, -, -⟩ := row_of_own hown9; cases e9) | (refine step_append_row _ (by rfl) (.tmp 82) (.tmp 83) 22 (by rfl) .i64 w.heap.size 3 i0 (.int .i64 0) 8 Try.underlying22 hi hz0 hz1 hz2 (by rfl) _ _ _ (by simp [Act.eval]) hown1 a7 0 c7 [] (by simp [Act.eval]) hl9 hrow9 hnc9 (by unfold maxLen; omega) (by omega) (by have := hg1.size; simp at this; omega) ?_; intro v2 w2 hown2 hg2)))
                go_wp2
                go_roundw
                case rel =>
                  have hq := HS.out.1 (fun h => absurd h (Nat.lt_irrefl _))
                  have hq2 := hq.2 (fun h => absurd h.1 (Nat.lt_irrefl _))
                  have hi2 := HS.out.2 (fun h => absurd h (Nat.lt_irrefl _))
                  rw [if_neg (fun h => absurd h.1 (Nat.lt_irrefl _))] at hi2
                  have hbA := HB7.out.grown (World.grownBy_alloc w7 (.cells #[.int .i64 x] 3) none) (by omega) (fun k hk => by cases hk)
                  have hb1 := below_like hbA hg1 (by simp; omega) (fun k hk => by cases hk; exact hg0) ⟨rfl, rfl, rfl, rfl⟩
                  have hlen : (insL x acc).length = m + 1 + 0 := by rw [hi2]; simp [HM.out.2.2.2.2.2.1] <;> omega
                  refine ⟨k + 1, m + 1 + 0, insL x acc, by go_num, by omega, ?_, hb1.grown hg2 (by have := hb1.size; omega) (fun k hk => (hown1.lt k hk).1), hq2.1, hq2.2.1, hq2.2.2, hlen, .inr (by omega)⟩
                  have e : (acc.map (Value.int .i64)).take m ++ [x].map (Value.int .i64) ++ ([] : List Int).map (Value.int .i64) = (insL x acc).map (Value.int .i64) := by rw [hi2, HDR.out]; simp
                  rw [← e]
                  exact hown2
                case measure => simp [intOf]; omega
      · rw [fitB_no hf] at hs
        have hfin : Post (.returned (.tuple #[.slice none 0 0, .bool false])) wo := by
          rw [← HP.out]
          exact of_bad (fun hg => hf (hg.1 _ HXM.out)) HM.out.2.1
        go_wp2_with (go_at_call 32; refine hs.mono ?_; rintro e w1 ⟨rfl, hw1⟩; obtain rfl := hw1.symm)
        exact hfin
    · obtain rfl : k = n := by omega
      have hfin : Hid (Post (.returned (.tuple #[u4, .bool true])) wo) := by
        show Post (.returned (.tuple #[u4, .bool true])) wo
        rw [← HP.out]
        obtain ⟨m1, m2, m3, m4, m5, m6, _⟩ := HM.out
        have e : xs.take k = xs := List.take_of_length_le (by rw [HX.out]; exact Nat.le_refl _)
        rw [e] at m3 m5
        exact of_ok m3 m4 m5 (by rw [m6]; exact m1) m2
      go_wp2
      exact hfin.out
end Go.Proofs.Ytcbgnmkipbhncaa
