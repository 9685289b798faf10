/-
  THE WALKS of layer 3: Right, and the reference's RightCube; slices.Index, slices.Contains, parted.
-/
import Derived.Test.YtcbgnmkipbhncaaCubeReads
namespace Go.Proofs.Ytcbgnmkipbhncaa
open Go.RowKit

/-- One sign more of a list that is right so far. -/
theorem right_step {xs : List Int} {k : Nat} (hk : k < xs.length) (_hf : ∀ j, j < k → Fits (atP xs j)) (hu : Up (xs.take k)) :
    (¬ Fits (atP xs k) → ¬ Rt xs) ∧ (0 < k → ¬ mag (atP xs (k - 1)) < mag (atP xs k) → ¬ Rt xs) ∧ (Fits (atP xs k) → (0 < k → mag (atP xs (k - 1)) < mag (atP xs k)) → Up (xs.take (k + 1))) := by
  refine ⟨fun h hr => h (hr.1 _ (atP_mem xs k hk)), fun h0 h hr => h ?_, fun h1 h2 => ?_⟩
  · have := List.pairwise_iff_getElem.1 hr.2 (k - 1) k (by omega) hk (by omega)
    rwa [← atP_eq xs (k - 1) (by omega), ← atP_eq xs k hk] at this
  · rw [List.take_succ_eq_append_getElem hk]
    refine List.pairwise_append.2 ⟨hu, List.pairwise_singleton _ _, fun a ha b hb => ?_⟩
    rw [List.mem_singleton] at hb
    subst hb
    rw [← atP_eq xs k hk]
    obtain ⟨i, hi, rfl⟩ := List.getElem_of_mem ha
    rw [List.length_take] at hi
    rw [List.getElem_take]
    have h3 := h2 (by omega)
    by_cases hik : i = k - 1
    · subst hik; rwa [atP_eq xs (k - 1) (by omega)] at h3
    · have hl1 : i < (xs.take k).length := by rw [List.length_take]; omega
      have hl2 : k - 1 < (xs.take k).length := by rw [List.length_take]; omega
      have := List.pairwise_iff_getElem.1 hu i (k - 1) hl1 hl2 (by omega)
      rw [List.getElem_take, List.getElem_take, ← atP_eq xs (k - 1) (by omega)] at this
      omega

theorem right_end {xs : List Int} (hf : ∀ j, j < xs.length → Fits (atP xs j)) (hu : Up (xs.take xs.length)) : rightB xs = true := (rightB_iff xs).2 ⟨all_of hf, by rwa [List.take_length] at hu⟩

set_option maxRecDepth 100000 in
set_option maxHeartbeats 400000 in
theorem right_any (a : Option Addr) (n c : Nat) (xs : List Int) (w : World) (hr : RowK .i64 w a xs) (hx : xs.length = n) (hn : n ≤ 9223372036854775807) :
    Calls Try.prog 13 #[.slice a n c] w fun e w' => e = .returned (.bool (rightB xs)) ∧ w' = w := by
  have HR := hide hr
  have HX := hide hx
  generalize hP : (fun (e : Ending) (w' : World) => e = .returned (.bool (rightB xs)) ∧ w' = w) = Post
  have HP := hide hP
  clear hr hx hP
  have hno : Hid (¬ Rt xs → Post (.returned (.bool false)) w) := fun h => by rw [← HP.out]; exact ⟨ret_bool (rightB_no h).symm, rfl⟩
  go_enter Try.func13, Try.ntmps13
  go_wp2
  go_loop [3, 8] (fun l i => ∃ (k : Nat) (last : Int), i = .int .i64 k ∧ k ≤ n ∧ l = .int .i64 last ∧ 0 ≤ last ∧ last ≤ 2147483648 ∧ Hid ((k = 0 → last = 0) ∧ (0 < k → last = mag (atP xs (k - 1))) ∧ (∀ j, j < k → Fits (atP xs j)) ∧ Up (xs.take k))) (fun _ i => n - (intOf i).toNat)
  case atStart => exact ⟨0, 0, rfl, Nat.zero_le _, rfl, by decide, by decide, fun _ => rfl, fun h => absurd h (Nat.lt_irrefl _), fun j hj => absurd hj (Nat.not_lt_zero _), List.Pairwise.nil⟩
  case round =>
    obtain ⟨k, last, rfl, hk, rfl, hl0, hl1, HF⟩ := hrel
    by_cases hlt : k < n
    · obtain ⟨b, off, rfl, -, hcell⟩ := HR.out.addr (by rw [HX.out]; omega)
      have hc := hcell k (by rw [HX.out]; omega)
      rw [atP_getD] at hc
      have hst := right_step (xs := xs) (k := k) (by rw [HX.out]; exact hlt) HF.out.2.2.1 HF.out.2.2.2
      obtain ⟨y, HY⟩ : ∃ y, Hid (y = atP xs k) := ⟨_, rfl⟩
      rw [← HY.out] at hc hst
      clear hcell
      have HS := hide hst
      clear hst
      have hs := isSign_any y w
      by_cases hf : Fits y
      · rw [(fitB_iff y).2 hf] at hs
        have hz := size_any y w hf.2
        have hm := mag_pos hf
        have hm2 := (mag_bd hf.2).2
        obtain ⟨my, HMY⟩ : ∃ my, Hid (my = mag y) := ⟨_, rfl⟩
        rw [← HMY.out] at hz hm hm2
        have HFF := hide hf
        clear hf
        by_cases hle : my ≤ last
        · have hfin : Hid (Post (.returned (.bool false)) w) := by
            refine hno.out ?_
            by_cases h0 : k = 0
            · have := HF.out.1 h0; omega
            · refine HS.out.2.1 (by omega) ?_
              rw [← HF.out.2.1 (by omega), ← HMY.out]; omega
          go_wp2_with (first | (go_at_call 29; refine hs.mono ?_; rintro e w1 ⟨rfl, hw1⟩; obtain rfl := hw1.symm) | (go_at_call 34; refine hz.mono ?_; rintro e w1 ⟨rfl, hw1⟩; obtain rfl := hw1.symm))
          exact hfin.out
        · go_wp2_with (first | (go_at_call 29; refine hs.mono ?_; rintro e w1 ⟨rfl, hw1⟩; obtain rfl := hw1.symm) | (go_at_call 34; refine hz.mono ?_; rintro e w1 ⟨rfl, hw1⟩; obtain rfl := hw1.symm))
          go_round
          case rel =>
            refine ⟨k + 1, my, by go_num, by omega, rfl, by omega, hm2, fun h => by omega, fun _ => by rw [Nat.add_sub_cancel, ← HY.out]; exact HMY.out, fun j hj => ?_, HS.out.2.2 HFF.out (fun h0 => by rw [← HF.out.2.1 h0, ← HMY.out]; omega)⟩
            by_cases hjk : j < k
            · exact HF.out.2.2.1 j hjk
            · obtain rfl : j = k := by omega
              rw [← HY.out]; exact HFF.out
          case measure => simp [intOf]; omega
      · rw [fitB_no hf] at hs
        have hfin : Hid (Post (.returned (.bool false)) w) := hno.out (HS.out.1 hf)
        clear hf
        go_wp2_with (go_at_call 29; refine hs.mono ?_; rintro e w1 ⟨rfl, hw1⟩; obtain rfl := hw1.symm)
        exact hfin.out
    · obtain rfl : k = n := by omega
      have hfin : Hid (Post (.returned (.bool true)) w) := by
        show Post (.returned (.bool true)) w
        rw [← HP.out]
        exact ⟨ret_bool (right_end (fun j hj => HF.out.2.2.1 j (by rw [← HX.out]; exact hj)) (by rw [HX.out]; exact HF.out.2.2.2)).symm, rfl⟩
      go_wp2
      exact hfin.out

set_option maxRecDepth 100000 in
set_option maxHeartbeats 4000000 in
theorem refRight_any (a : Option Addr) (n c : Nat) (xs : List Int) (w : World) (hr : RowK .i64 w a xs) (hx : xs.length = n) (hn : n ≤ 9223372036854775807) :
    Calls Try.prog 14 #[.slice a n c] w fun e w' => e = .returned (.bool (rightB xs)) ∧ Drew w w' := by
  have HR := hide hr
  have HX := hide hx
  generalize hP : (fun (e : Ending) (w' : World) => e = .returned (.bool (rightB xs)) ∧ Drew w w') = Post
  have HP := hide hP
  clear hr hx hP
  have hno : Hid (∀ W, Drew w W → ¬ Rt xs → Post (.returned (.bool false)) W) := fun W hW h => by rw [← HP.out]; exact ⟨ret_bool (rightB_no h).symm, hW⟩
  have hdr : Hid (∀ W q, Drew w W → Drew w (W.drewN q)) := fun W q h => by obtain ⟨q2, e⟩ := h; exact ⟨q2 + q, by rw [e, World.drewN_drewN]⟩
  go_enter Try.func14, Try.ntmps14
  go_wp2
  go_loopw [3] (fun i wr => ∃ k : Nat, i = .int .i64 k ∧ k ≤ n ∧ Hid (Drew w wr ∧ (∀ j, j < k → Fits (atP xs j)) ∧ Up (xs.take k))) (fun i _ => n - (intOf i).toNat)
  case atStart => exact ⟨0, rfl, Nat.zero_le _, ⟨0, rfl⟩, fun j hj => absurd hj (Nat.not_lt_zero _), List.Pairwise.nil⟩
  case round =>
    obtain ⟨k, rfl, hk, HF⟩ := hrel
    by_cases hlt : k < n
    · obtain ⟨b, off, rfl, -, hcell⟩ := HR.out.addr (by rw [HX.out]; omega)
      have hcell' : ∀ j, j < n → wr.cell? ⟨b, off + j, none⟩ = some (.int .i64 (atP xs j)) := fun j hj => (cell_heap HF.out.1.heap _).trans (hcell j (by rw [HX.out]; exact hj))
      have hc := hcell' k hlt
      have hst := right_step (xs := xs) (k := k) (by rw [HX.out]; exact hlt) HF.out.2.1 HF.out.2.2
      obtain ⟨y, HY⟩ : ∃ y, Hid (y = atP xs k) := ⟨_, rfl⟩
      rw [← HY.out] at hc hst
      have HS := hide hst
      clear hst hcell
      have hs := fun W => fits_any y W
      by_cases hf : Fits y
      · rw [(fitB_iff y).2 hf] at hs
        have hz := fun W => refSize_any y W hf.2
        obtain ⟨my, HMY⟩ : ∃ my, Hid (my = mag y) := ⟨_, rfl⟩
        rw [← HMY.out] at hz
        have HFF := hide hf
        clear hf
        by_cases h0 : k = 0
        · subst h0
          clear hcell'
          rw [Nat.add_zero] at hc
          go_wp2
          go_quiet (first | (go_at_call 32; refine Calls.quiet_of_same (hs _)) | (go_at_call 33; refine Calls.quiet_of_same (hz _)))
          go_wp2
          go_roundw
          case rel =>
            refine ⟨1, by go_num, by omega, hdr.out _ _ HF.out.1, fun j hj => ?_, HS.out.2.2 HFF.out (fun h0 => absurd h0 (Nat.lt_irrefl _))⟩
            obtain rfl : j = 0 := by omega
            rw [← HY.out]; exact HFF.out
          case measure => simp [intOf]; omega
        · obtain ⟨i, rfl⟩ : ∃ i, k = i + 1 := ⟨k - 1, by omega⟩
          have hc1 := hcell' i (by omega)
          clear hcell'
          have hfi := HF.out.2.1 i (by omega)
          obtain ⟨x, HXX⟩ : ∃ x, Hid (x = atP xs i) := ⟨_, rfl⟩
          rw [← HXX.out] at hc1 hfi
          have hzx := fun W => refSize_any x W hfi.2
          obtain ⟨mx, HMX⟩ : ∃ mx, Hid (mx = mag x) := ⟨_, rfl⟩
          rw [← HMX.out] at hzx
          clear hfi
          have hgt : (0 : Int) < (i : Int) + 1 := by omega
          have hgt2 : (i : Int) + 1 < (n : Int) := by omega
          have hgt3 : (i : Int) < (n : Int) := by omega
          by_cases hle : my ≤ mx
          · have hfin : Hid (∀ q, Post (.returned (.bool false)) (wr.drewN q)) := fun q => by
              refine hno.out _ (hdr.out _ _ HF.out.1) (HS.out.2.1 (by omega) ?_)
              rw [Nat.add_sub_cancel, ← HXX.out, ← HMX.out, ← HMY.out]; omega
            go_wp2
            go_quiet (first | (go_at_call 32; refine Calls.quiet_of_same (hs _)) | (go_at_call 33; refine Calls.quiet_of_same (hz _)) | (go_at_call 33; refine Calls.quiet_of_same (hzx _)))
            go_wp2
            exact hfin.out _
          · go_wp2
            go_quiet (first | (go_at_call 32; refine Calls.quiet_of_same (hs _)) | (go_at_call 33; refine Calls.quiet_of_same (hz _)) | (go_at_call 33; refine Calls.quiet_of_same (hzx _)))
            go_wp2
            go_roundw
            case rel =>
              refine ⟨i + 1 + 1, by go_num, by omega, hdr.out _ _ HF.out.1, fun j hj => ?_, HS.out.2.2 HFF.out (fun h0 => by rw [Nat.add_sub_cancel, ← HXX.out, ← HMX.out, ← HMY.out]; omega)⟩
              by_cases hjk : j < i + 1
              · exact HF.out.2.1 j hjk
              · obtain rfl : j = i + 1 := by omega
                rw [← HY.out]; exact HFF.out
            case measure => simp [intOf]; omega
      · rw [fitB_no hf] at hs
        have hfin : Hid (∀ q, Post (.returned (.bool false)) (wr.drewN q)) := fun q => hno.out _ (hdr.out _ _ HF.out.1) (HS.out.1 hf)
        clear hf hcell'
        go_wp2
        go_quiet (first | (go_at_call 32; refine Calls.quiet_of_same (hs _)))
        go_wp2
        exact hfin.out _
    · obtain rfl : k = n := by omega
      have hfin : Hid (Post (.returned (.bool true)) wr) := by
        show Post (.returned (.bool true)) wr
        rw [← HP.out]
        exact ⟨ret_bool (right_end (fun j hj => HF.out.2.1 j (by rw [← HX.out]; exact hj)) (by rw [HX.out]; exact HF.out.2.2)).symm, HF.out.1⟩
      go_wp2
      exact hfin.out

set_option maxRecDepth 100000 in
set_option maxHeartbeats 400000 in
theorem index_any (a : Option Addr) (n c : Nat) (xs : List Int) (x : Int) (w : World) (hr : RowK .i64 w a xs) (hx : xs.length = n) (hn : n ≤ 9223372036854775807) :
    Calls Try.prog 58 #[.slice a n c, .int .i64 x] w fun e w' => ∃ k : Int, e = .returned (.int .i64 k) ∧ (0 ≤ k ↔ x ∈ xs) ∧ w' = w := by
  have HR := hide hr
  have HX := hide hx
  generalize hP : (fun (e : Ending) (w' : World) => ∃ k : Int, e = .returned (.int .i64 k) ∧ (0 ≤ k ↔ x ∈ xs) ∧ w' = w) = Post
  have HP := hide hP
  clear hr hx hP
  go_enter Try.func58, Try.ntmps58
  go_wp2
  go_loop [8] (fun i => ∃ k : Nat, i = .int .i64 k ∧ k ≤ n ∧ Hid (∀ j, j < k → atP xs j ≠ x)) (fun i => n - (intOf i).toNat)
  case atStart => exact ⟨0, rfl, Nat.zero_le _, fun j hj => absurd hj (Nat.not_lt_zero _)⟩
  case round =>
    obtain ⟨k, rfl, hk, HF⟩ := hrel
    by_cases hlt : k < n
    · obtain ⟨b, off, rfl, -, hcell⟩ := HR.out.addr (by rw [HX.out]; omega)
      have hc := hcell k (by rw [HX.out]; omega)
      rw [atP_getD] at hc
      obtain ⟨y, HY⟩ : ∃ y, Hid (y = atP xs k) := ⟨_, rfl⟩
      rw [← HY.out] at hc
      clear hcell
      by_cases he : x = y
      · subst he
        have hfin : Hid (Post (.returned (.int .i64 k)) w) := by
          show Post (.returned (.int .i64 k)) w
          rw [← HP.out]
          exact ⟨k, rfl, ⟨fun _ => by rw [HY.out]; exact atP_mem xs k (by rw [HX.out]; exact hlt), fun _ => by omega⟩, rfl⟩
        go_wp2
        exact hfin.out
      · have hb : (x == y) = false := by rw [beq_eq_false_iff_ne]; exact he
        go_wp2
        go_round
        case rel =>
          refine ⟨k + 1, by go_num, by omega, fun j hj => ?_⟩
          by_cases hjk : j < k
          · exact HF.out j hjk
          · obtain rfl : j = k := by omega
            rw [← HY.out]; exact fun h => he h.symm
        case measure => simp [intOf]; omega
    · obtain rfl : k = n := by omega
      have hfin : Hid (Post (.returned (.int .i64 (-1))) w) := by
        show Post (.returned (.int .i64 (-1))) w
        rw [← HP.out]
        exact ⟨-1, rfl, ⟨fun h => absurd h (by decide), fun h => absurd rfl (all_of (p := fun y => y ≠ x) (fun j hj => HF.out j (by rw [← HX.out]; exact hj)) x h)⟩, rfl⟩
      go_wp2
      exact hfin.out

set_option maxHeartbeats 400000 in
theorem contains_any (a : Option Addr) (n c : Nat) (xs : List Int) (x : Int) (w : World) (hr : RowK .i64 w a xs) (hx : xs.length = n) (hn : n ≤ 9223372036854775807) :
    Calls Try.prog 52 #[.slice a n c, .int .i64 x] w fun e w' => e = .returned (.bool (decide (x ∈ xs))) ∧ w' = w := by
  have hI := index_any a n c xs x w hr hx hn
  generalize hP : (fun (e : Ending) (w' : World) => e = .returned (.bool (decide (x ∈ xs))) ∧ w' = w) = Post
  have HP := hide hP
  clear hr hx hP
  go_enter Try.func52, Try.ntmps52
  go_wp2_with fail
  refine hI.mono ?_
  rintro e w1 ⟨k, rfl, hk, hw⟩
  obtain rfl := hw.symm
  have hfin : Hid (Post (.returned (.bool (decide (0 ≤ k)))) w) := by
    show Post (.returned (.bool (decide (0 ≤ k)))) w
    rw [← HP.out]
    refine ⟨ret_bool ?_, rfl⟩
    by_cases h : 0 ≤ k
    · rw [decide_eq_true h, decide_eq_true (hk.1 h)]
    · rw [decide_eq_false h, decide_eq_false (fun h2 => h (hk.2 h2))]
  clear hk hI
  go_wp2
  exact hfin.out

set_option maxHeartbeats 400000 in
theorem parted_any (a b : Option Addr) (n c m d : Nat) (xs ys : List Int) (v : Int) (w : World) (hr : RowK .i64 w a xs) (hx : xs.length = n) (hs : RowK .i64 w b ys) (hy : ys.length = m) (hn : n ≤ 9223372036854775807) (hm : m ≤ 9223372036854775807) (hv : 0 < v) (hv2 : v ≤ 9223372036854775807) :
    Calls Try.prog 39 #[.slice a n c, .slice b m d, .int .i64 v] w fun e w' => e = .returned (.bool (decide (v ∈ xs) && decide (-v ∈ ys))) ∧ w' = w := by
  have hA := contains_any a n c xs v w hr hx hn
  have hB := contains_any b m d ys (-v) w hs hy hm
  generalize decide (v ∈ xs) = p at hA ⊢
  generalize decide (-v ∈ ys) = q at hB ⊢
  clear hr hx hs hy
  cases p
  · go_enter Try.func39, Try.ntmps39
    go_wp2_with (first | (go_at_call 52; refine hA.mono ?_; rintro e w1 ⟨rfl, hw1⟩; obtain rfl := hw1.symm))
    go_ret
    exact ⟨rfl, rfl⟩
  · go_enter Try.func39, Try.ntmps39
    go_wp2_with (first | (go_at_call 52; refine hA.mono ?_; rintro e w1 ⟨rfl, hw1⟩; obtain rfl := hw1.symm) | (go_at_call 52; refine hB.mono ?_; rintro e w1 ⟨rfl, hw1⟩; obtain rfl := hw1.symm))
    go_ret
    exact ⟨by simp, rfl⟩
end Go.Proofs.Ytcbgnmkipbhncaa
