/-
  THE WALK of the reference's Resolve.
-/
import Derived.Test.YtcbgnmkipbhncaaCubeResolve
import Derived.Test.YtcbgnmkipbhncaaRefCubeOfW
namespace Go.Proofs.Ytcbgnmkipbhncaa
open Go.RowKit

theorem Drew.refl (w : World) : Drew w w := ⟨0, rfl⟩
theorem Drew.trans {a b c : World} (h : Drew a b) (k : Drew b c) : Drew a c := by
  obtain ⟨q, rfl⟩ := h
  obtain ⟨r, rfl⟩ := k
  exact ⟨q + r, by rw [World.drewN_drewN]⟩

set_option maxRecDepth 100000 in
set_option maxHeartbeats 4000000 in
theorem refResolve_any (a b : Option Addr) (n c m d : Nat) (xs ys : List Int) (v : Int) (w : World) (hr : RowK .i64 w a xs) (hx : xs.length = n) (hs : RowK .i64 w b ys) (hy : ys.length = m) (hn : n ≤ 500000) (hm : m ≤ 500000) (hv2 : v ≤ 9223372036854775807) :
    Calls Try.prog 22 #[.slice a n c, .slice b m d, .int .i64 v] w (ResPost w xs ys v) := by
  obtain ⟨i0, hi, hz0, hz1, hz2⟩ := info_parts infoInt
  generalize hP : ResPost w xs ys v = Post
  have HP := hide hP
  have hno : Hid (∀ W, Drew w W → resOk xs ys v = false → Post (.returned (.tuple #[.slice none 0 0, .bool false])) W) := fun W hW h => by rw [← HP.out]; exact res_no h hW.below
  clear hP
  have hd0 := Drew.refl w
  by_cases hv : ¬ 0 < v
  · have hfin : Hid (Post (.returned (.tuple #[.slice none 0 0, .bool false])) w) := hno.out _ hd0 (by unfold resOk; rw [decide_eq_false hv]; rfl)
    clear hno
    go_enter Try.func22, Try.ntmps22
    go_wp2
    exact hfin.out
  have hv : 0 < v := Decidable.not_not.1 hv
  have HRa : Hid (∀ W, Drew w W → Calls Try.prog 14 #[.slice a n c] W fun e w' => e = .returned (.bool (rightB xs)) ∧ Drew w w') := fun W hW => (refRight_any a n c xs W (row_like hr hW.heap) hx (by omega)).mono fun e w' h => ⟨h.1, hW.trans h.2⟩
  have HRb : Hid (∀ W, Drew w W → Calls Try.prog 14 #[.slice b m d] W fun e w' => e = .returned (.bool (rightB ys)) ∧ Drew w w') := fun W hW => (refRight_any b m d ys W (row_like hs hW.heap) hy (by omega)).mono fun e w' h => ⟨h.1, hW.trans h.2⟩
  have H1 : Hid (∀ W, Drew w W → Calls Try.prog 37 #[.slice a n c, .int .i64 v] W fun e w' => e = .returned (.bool (decide (v ∈ xs))) ∧ w' = W) := fun W hW => has_any a n c xs v W (row_like hr hW.heap) hx (by omega)
  have H2 : Hid (∀ W, Drew w W → Calls Try.prog 37 #[.slice b m d, .int .i64 (-v)] W fun e w' => e = .returned (.bool (decide (-v ∈ ys))) ∧ w' = W) := fun W hW => has_any b m d ys (-v) W (row_like hs hW.heap) hy (by omega)
  have H3 : Hid (∀ W, Drew w W → Calls Try.prog 37 #[.slice a n c, .int .i64 (-v)] W fun e w' => e = .returned (.bool (decide (-v ∈ xs))) ∧ w' = W) := fun W hW => has_any a n c xs (-v) W (row_like hr hW.heap) hx (by omega)
  have H4 : Hid (∀ W, Drew w W → Calls Try.prog 37 #[.slice b m d, .int .i64 v] W fun e w' => e = .returned (.bool (decide (v ∈ ys))) ∧ w' = W) := fun W hW => has_any b m d ys v W (row_like hs hW.heap) hy (by omega)
  have HOK : Hid (resOk xs ys v = (rightB xs && (rightB ys && ((decide (v ∈ xs) && decide (-v ∈ ys)) || (decide (v ∈ ys) && decide (-v ∈ xs)))))) := by
    show resOk xs ys v = _
    unfold resOk
    rw [decide_eq_true hv, Bool.true_and]
  have HFa : Hid (rightB xs = true → Rt xs) := (rightB_iff xs).1
  have HFb : Hid (rightB ys = true → Rt ys) := (rightB_iff ys).1
  have HR := hide (And.intro hr hx)
  have HS := hide (And.intro hs hy)
  clear hr hx hs hy
  obtain ⟨ra, hra⟩ : ∃ ra, ra = rightB xs := ⟨_, rfl⟩
  obtain ⟨rb, hrb⟩ : ∃ rb, rb = rightB ys := ⟨_, rfl⟩
  obtain ⟨p1, hp1⟩ : ∃ p, p = decide (v ∈ xs) := ⟨_, rfl⟩
  obtain ⟨p2, hp2⟩ : ∃ p, p = decide (-v ∈ ys) := ⟨_, rfl⟩
  obtain ⟨p3, hp3⟩ : ∃ p, p = decide (-v ∈ xs) := ⟨_, rfl⟩
  obtain ⟨p4, hp4⟩ : ∃ p, p = decide (v ∈ ys) := ⟨_, rfl⟩
  rw [← hra] at HRa HFa HOK
  rw [← hrb] at HRb HFb HOK
  rw [← hp1] at H1 HOK
  rw [← hp2] at H2 HOK
  rw [← hp3] at H3 HOK
  rw [← hp4] at H4 HOK
  clear hra hrb hp1 hp2 hp3 hp4
  by_cases hok : ¬ (ra = true ∧ rb = true ∧ ((p1 = true ∧ p2 = true) ∨ (p4 = true ∧ p3 = true)))
  · have hfin : Hid (∀ W, Drew w W → Post (.returned (.tuple #[.slice none 0 0, .bool false])) W) := fun W hW => hno.out W hW (by
      rw [HOK.out]
      revert hok
      cases ra <;> cases rb <;> cases p1 <;> cases p2 <;> cases p3 <;> cases p4 <;> simp)
    clear hno HOK HFa HFb HR HS
    revert hok
    cases ra
    · intro _
      go_enter Try.func22, Try.ntmps22
      go_wp2_with (first | (go_at_call_of 14 (Value.slice a n c); refine (HRa.out _ (by assumption)).mono ?_; rintro e w1 ⟨rfl, hd1⟩))
      exact hfin.out _ hd1
    cases rb
    · intro _
      go_enter Try.func22, Try.ntmps22
      go_wp2_with (first | (go_at_call_of 14 (Value.slice a n c); refine (HRa.out _ (by assumption)).mono ?_; rintro e w1 ⟨rfl, hd1⟩) | (go_at_call_of 14 (Value.slice b m d); refine (HRb.out _ (by assumption)).mono ?_; rintro e w2 ⟨rfl, hd2⟩))
      exact hfin.out _ hd2
    cases p1 <;> cases p2 <;> cases p3 <;> cases p4 <;> intro hok
    all_goals first
      | exact absurd (by decide) hok
      | (clear hok
         go_enter Try.func22, Try.ntmps22
         go_wp2_with (first | (go_at_call_of 14 (Value.slice a n c); refine (HRa.out _ (by assumption)).mono ?_; rintro e w1 ⟨rfl, hd1⟩) | (go_at_call_of 14 (Value.slice b m d); refine (HRb.out _ (by assumption)).mono ?_; rintro e w2 ⟨rfl, hd2⟩) | (go_at_call_of 37 [Value.slice a n c, Value.int .i64 v]; refine (H1.out _ (by assumption)).mono ?_; rintro e w3 ⟨rfl, hw3⟩; obtain rfl := hw3.symm) | (go_at_call_of 37 [Value.slice b m d, Value.int .i64 (-v)]; refine (H2.out _ (by assumption)).mono ?_; rintro e w3 ⟨rfl, hw3⟩; obtain rfl := hw3.symm) | (go_at_call_of 37 [Value.slice a n c, Value.int .i64 (-v)]; refine (H3.out _ (by assumption)).mono ?_; rintro e w3 ⟨rfl, hw3⟩; obtain rfl := hw3.symm) | (go_at_call_of 37 [Value.slice b m d, Value.int .i64 v]; refine (H4.out _ (by assumption)).mono ?_; rintro e w3 ⟨rfl, hw3⟩; obtain rfl := hw3.symm))
         exact hfin.out _ hd2)
  obtain ⟨rfl, rfl, hpp⟩ := Decidable.not_not.1 hok
  clear hok
  have HY : Hid (resOk xs ys v = true) := by
    show resOk xs ys v = true
    rw [HOK.out]
    rcases hpp with ⟨rfl, rfl⟩ | ⟨rfl, rfl⟩ <;> simp
  have HFx : Hid (∀ x ∈ xs, Fits x) := (HFa.out rfl).1
  have HFy : Hid (∀ x ∈ ys, Fits x) := (HFb.out rfl).1
  clear hno HOK HFa HFb
  have HRest : Hid (restL xs ys v = xs.filter (keepB v) ++ ys.filter (keepB v)) := List.filter_append _ _
  have hsplit : (p1 = true ∧ p2 = true) ∨ (p1 = false ∧ p3 = true ∧ p4 = true) ∨ (p1 = true ∧ p2 = false ∧ p3 = true ∧ p4 = true) := by
    revert hpp
    cases p1 <;> cases p2 <;> cases p3 <;> cases p4 <;> simp
  clear hpp
  rcases hsplit with ⟨rfl, rfl⟩ | ⟨rfl, rfl, rfl⟩ | ⟨rfl, rfl, rfl, rfl⟩
  all_goals
    go_enter Try.func22, Try.ntmps22
    go_wp2_with (first | (go_at_call_of 14 (Value.slice a n c); refine (HRa.out _ (by assumption)).mono ?_; rintro e w1 ⟨rfl, hd1⟩) | (go_at_call_of 14 (Value.slice b m d); refine (HRb.out _ (by assumption)).mono ?_; rintro e w2 ⟨rfl, hd2⟩) | (go_at_call_of 37 [Value.slice a n c, Value.int .i64 v]; refine (H1.out _ (by assumption)).mono ?_; rintro e w3 ⟨rfl, hw3⟩; obtain rfl := hw3.symm) | (go_at_call_of 37 [Value.slice b m d, Value.int .i64 (-v)]; refine (H2.out _ (by assumption)).mono ?_; rintro e w3 ⟨rfl, hw3⟩; obtain rfl := hw3.symm) | (go_at_call_of 37 [Value.slice a n c, Value.int .i64 (-v)]; refine (H3.out _ (by assumption)).mono ?_; rintro e w3 ⟨rfl, hw3⟩; obtain rfl := hw3.symm) | (go_at_call_of 37 [Value.slice b m d, Value.int .i64 v]; refine (H4.out _ (by assumption)).mono ?_; rintro e w3 ⟨rfl, hw3⟩; obtain rfl := hw3.symm))
    have HB2 := hide hd2.below
    clear hd0 hd1 hd2 HRa HRb H1 H2 H3 H4
    go_loopw [8, 9] (fun u i wr => ∃ (k q : Nat), i = .int .i64 k ∧ k ≤ n ∧ q ≤ k ∧ Hid (wr.ownsRow w.heap.size 3 1 u q (((xs.take k).filter (keepB v)).map (Value.int .i64)) ∧ Below w.heap.size w wr)) (fun _ i _ => n - (intOf i).toNat)
    case atStart => exact ⟨0, 0, rfl, Nat.zero_le _, Nat.le_refl _, World.ownsRow_nil _ _ _ _, HB2.out⟩
    case round =>
      obtain ⟨k, q, rfl, hk, hq, HM⟩ := hrel
      by_cases hlt : k < n
      · obtain ⟨g, off, rfl, hbw, hcell⟩ := HR.out.1.addr (by rw [HR.out.2]; omega)
        have hc : wr.cell? ⟨g, off + k, none⟩ = some (.int .i64 (xs.getD k 0)) := (HM.out.2.cell (p := ⟨g, off + k, none⟩) hbw).trans (hcell k (by rw [HR.out.2]; exact hlt))
        rw [atP_getD] at hc
        have hfy := HFx.out _ (atP_mem xs k (by rw [HR.out.2]; exact hlt))
        have hft := filter_take (keepB v) xs k (by rw [HR.out.2]; exact hlt)
        obtain ⟨y, HYY⟩ : ∃ y, Hid (y = atP xs k) := ⟨_, rfl⟩
        rw [← HYY.out] at hc hfy hft
        clear hcell
        have hz := refSize_any y wr hfy.2
        have HFT := hide hft
        clear hft
        have HKB : Hid (keepB v y = decide (mag y ≠ v)) := rfl
        obtain ⟨my, HMY⟩ : ∃ my, Hid (my = mag y) := ⟨_, rfl⟩
        rw [← HMY.out] at hz HKB
        clear hfy
        have hsz := HM.out.2.size
        by_cases he : my = v
        · have hkb : Hid (keepB v y = false) := by show keepB v y = false; rw [HKB.out, he]; simp
          have HV := hide he
          subst he
          go_wp2_with (first | (go_at_call 33; refine hz.mono ?_; rintro e w4 ⟨rfl, hw4⟩; obtain rfl := hw4.symm))
          go_roundw
          case rel =>
            refine ⟨k + 1, q, by go_num, by omega, by omega, ?_, HM.out.2⟩
            rw [HFT.out, hkb.out]
            simpa using HM.out.1
          case measure => simp [intOf]; omega
        · have hkb : Hid (keepB v y = true) := by show keepB v y = true; rw [HKB.out]; simpa using he
          have hb : (my == v) = false := by rw [beq_eq_false_iff_ne]; exact he
          have hown := HM.out.1
          go_wp2_with (first | (go_at_call 33; refine hz.mono ?_; rintro e w4 ⟨rfl, hw4⟩; obtain rfl := hw4.symm) | (at_builtin; refine wpList_append_own _ rfl (.tmp 59) (.tmp 64) 22 rfl w.heap.size 3 i0 (.int .i64 0) 1 8 Try.underlying22 hi hz0 hz1 hz2 rfl (by decide) _ _ _ rfl (hown.alloc _) ⟨wr.heap.size, 0, none⟩ 1 1 [.int .i64 y] rfl rfl (cell_one_new _ _ _) (by intro u hu; simp at hu; subst hu; rfl) (by unfold maxLen; omega) (by omega) (by simp; omega) ?_; intro v6 w6 hown6 hg6 _))
          go_roundw
          case rel =>
            have hlt2 := (HM.out.1).lt
            refine ⟨k + 1, q + 1, by go_num, by omega, by omega, ?_, below_step HM.out.2 hg6 hsz (fun k hk => (hlt2 k hk).1) ⟨rfl, rfl, rfl, rfl⟩⟩
            rw [HFT.out, hkb.out, if_pos rfl, List.map_append]
            exact hown6
          case measure => simp [intOf]; omega
      · obtain rfl : k = n := by omega
        have hown := HM.out.1
        rw [List.take_of_length_le (by rw [HR.out.2]; exact Nat.le_refl _)] at hown
        have HO := hide hown
        have HBm := hide HM.out.2
        clear hown HM
        go_wp2
        go_loopw [8, 10] (fun u i wx => ∃ (j q : Nat), i = .int .i64 j ∧ j ≤ m ∧ q ≤ k + j ∧ Hid (wx.ownsRow w.heap.size 3 1 u q ((xs.filter (keepB v) ++ (ys.take j).filter (keepB v)).map (Value.int .i64)) ∧ Below w.heap.size w wx)) (fun _ i _ => m - (intOf i).toNat)
        case atStart => exact ⟨0, q, rfl, Nat.zero_le _, by omega, by simpa using HO.out, HBm.out⟩
        case round =>
          obtain ⟨j, q2, rfl, hj, hq2, HM⟩ := hrel
          by_cases hlt : j < m
          · obtain ⟨g, off, rfl, hbw, hcell⟩ := HS.out.1.addr (by rw [HS.out.2]; omega)
            have hc : wr.cell? ⟨g, off + j, none⟩ = some (.int .i64 (ys.getD j 0)) := (HM.out.2.cell (p := ⟨g, off + j, none⟩) hbw).trans (hcell j (by rw [HS.out.2]; exact hlt))
            rw [atP_getD] at hc
            have hfy := HFy.out _ (atP_mem ys j (by rw [HS.out.2]; exact hlt))
            have hft := filter_take (keepB v) ys j (by rw [HS.out.2]; exact hlt)
            obtain ⟨y, HYY⟩ : ∃ y, Hid (y = atP ys j) := ⟨_, rfl⟩
            rw [← HYY.out] at hc hfy hft
            clear hcell
            have hz := refSize_any y wr hfy.2
            have HFT := hide hft
            clear hft
            have HKB : Hid (keepB v y = decide (mag y ≠ v)) := rfl
            obtain ⟨my, HMY⟩ : ∃ my, Hid (my = mag y) := ⟨_, rfl⟩
            rw [← HMY.out] at hz HKB
            clear hfy
            have hsz := HM.out.2.size
            by_cases he : my = v
            · have hkb : Hid (keepB v y = false) := by show keepB v y = false; rw [HKB.out, he]; simp
              subst he
              go_wp2_with (first | (go_at_call 33; refine hz.mono ?_; rintro e w4 ⟨rfl, hw4⟩; obtain rfl := hw4.symm))
              go_roundw
              case rel =>
                refine ⟨j + 1, q2, by go_num, by omega, by omega, ?_, HM.out.2⟩
                rw [HFT.out, hkb.out]
                simpa using HM.out.1
              case measure => simp [intOf]; omega
            · have hkb : Hid (keepB v y = true) := by show keepB v y = true; rw [HKB.out]; simpa using he
              have hb : (my == v) = false := by rw [beq_eq_false_iff_ne]; exact he
              have hown := HM.out.1
              go_wp2_with (first | (go_at_call 33; refine hz.mono ?_; rintro e w4 ⟨rfl, hw4⟩; obtain rfl := hw4.symm) | (at_builtin; refine wpList_append_own _ rfl (.tmp 79) (.tmp 84) 22 rfl w.heap.size 3 i0 (.int .i64 0) 1 8 Try.underlying22 hi hz0 hz1 hz2 rfl (by decide) _ _ _ rfl (hown.alloc _) ⟨wr.heap.size, 0, none⟩ 1 1 [.int .i64 y] rfl rfl (cell_one_new _ _ _) (by intro u hu; simp at hu; subst hu; rfl) (by unfold maxLen; omega) (by omega) (by simp; omega) ?_; intro v6 w6 hown6 hg6 _))
              go_roundw
              case rel =>
                have hlt2 := (HM.out.1).lt
                refine ⟨j + 1, q2 + 1, by go_num, by omega, by omega, ?_, below_step HM.out.2 hg6 hsz (fun k hk => (hlt2 k hk).1) ⟨rfl, rfl, rfl, rfl⟩⟩
                rw [HFT.out, hkb.out, if_pos rfl, ← List.append_assoc, List.map_append]
                exact hown6
              case measure => simp [intOf]; omega
          · obtain rfl : j = m := by omega
            have hown := HM.out.1
            rw [List.take_of_length_le (by rw [HS.out.2]; exact Nat.le_refl _), ← HRest.out] at hown
            obtain ⟨au, cu, rfl, hrow, hncu, hlu, -, -⟩ := row_of_own hown
            have HOf := hide (refOf_any au q2 cu (restL xs ys v) wr hrow hlu (by omega))
            clear hown hrow hncu hlu
            go_wp2_with fail
            refine HOf.out.mono ?_
            rintro e w7 hof
            obtain ⟨u, rfl, hof2⟩ := hof
            have hfin : Hid (Post (.returned (.tuple #[u, .bool (goodB (restL xs ys v))])) w7) := by
              show Post (.returned (.tuple #[u, .bool (goodB (restL xs ys v))])) w7
              rw [← HP.out]
              exact res_yes HY.out HM.out.2 ⟨u, rfl, hof2⟩
            clear hof2
            go_wp2
            exact hfin.out
end Go.Proofs.Ytcbgnmkipbhncaa
