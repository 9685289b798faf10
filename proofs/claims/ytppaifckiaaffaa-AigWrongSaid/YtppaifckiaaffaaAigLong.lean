/-
  THE WALKS of layer 4's tooLong, howMany, isName, rightNames.
-/
import Derived.Test.YtppaifckiaaffaaAigVars
namespace Go.Proofs.Ytppaifckiaaffaa
open Go.RowKit

theorem atP_cells (w : World) (g : Nat) (ps : List Nat) (t : TypeId) (k : Nat) (hk : k < ps.length) (h : w.heap[g]? = some (.cells (ps.map (fun n : Nat => Value.int .i64 n)).toArray t (0, 0))) : w.cell? ⟨g, k, none⟩ = some (.int .i64 (atP ps k : Nat)) := by
  rw [cell_of_row w g k _ t (0, 0) h]
  simp [atP_eq ps k hk, List.getElem?_eq_getElem hk]

theorem sum_take (ps : List Nat) (k : Nat) (h : k < ps.length) : (ps.take (k + 1)).sum = (ps.take k).sum + atP ps k := by
  rw [List.take_succ_eq_append_getElem h, ← atP_eq ps k h]; simp

set_option maxRecDepth 100000 in
set_option maxHeartbeats 1000000 in
theorem tooLong_any (c : CV) (C : Circ) (w : World) (h : Holds w c C) (h1 : c.n1 ≤ 281474976710656) (h2 : c.n2 ≤ 281474976710656) (h3 : c.n3 ≤ 281474976710656) (h4 : c.n4 ≤ 281474976710656) (h5 : c.n5 ≤ 281474976710656) :
    Calls Try.prog 77 #[c.v] w fun e w' => e = .returned (.bool C.longB) ∧ Below w.heap.size w w' := by
  have hps : C.ports = [c.n1, c.n2, c.n3, c.n4, c.n5] := by unfold Circ.ports; rw [h.l1, h.l2, h.l3, h.l4, h.l5]
  have hlb : C.longB = (C.ports.any (fun n => decide (64 < n)) || (decide (5000 < c.m) || (decide (2000 < c.n6) || decide (C.ports.sum < c.n7)))) := by unfold Circ.longB; rw [h.l6, h.l7, h.m]
  obtain ⟨ps, HPS⟩ : ∃ ps, Hid (ps = C.ports) := ⟨_, rfl⟩
  have HPE : Hid (ps = [c.n1, c.n2, c.n3, c.n4, c.n5]) := HPS.out.trans hps
  have hl5 : ps.length = 5 := by rw [HPE.out]; rfl
  rw [← HPS.out] at hlb
  have HBw := hide (below_two w (.cells #[.int .i64 c.m, .slice c.a1 c.n1 c.c1, .slice c.a2 c.n2 c.c2, .slice c.a3 c.n3 c.c3, .slice c.a4 c.n4 c.c4, .slice c.a5 c.n5 c.c5, .slice c.a6 c.n6 c.c6, .slice c.a7 c.n7 c.c7] 27) (.cells #[.int .i64 c.n1, .int .i64 c.n2, .int .i64 c.n3, .int .i64 c.n4, .int .i64 c.n5] 3))
  have HC : Hid (∀ k, k < 5 → ((w.alloc (.cells #[.int .i64 c.m, .slice c.a1 c.n1 c.c1, .slice c.a2 c.n2 c.c2, .slice c.a3 c.n3 c.c3, .slice c.a4 c.n4 c.c4, .slice c.a5 c.n5 c.c5, .slice c.a6 c.n6 c.c6, .slice c.a7 c.n7 c.c7] 27)).alloc (.cells #[.int .i64 c.n1, .int .i64 c.n2, .int .i64 c.n3, .int .i64 c.n4, .int .i64 c.n5] 3)).cell? ⟨w.heap.size + 1, k, none⟩ = some (.int .i64 (atP ps k : Nat))) := fun k hk => by
    refine atP_cells _ _ ps 3 k (by omega) ?_
    rw [HPE.out]
    have := heap_alloc_new (w.alloc (.cells #[.int .i64 c.m, .slice c.a1 c.n1 c.c1, .slice c.a2 c.n2 c.c2, .slice c.a3 c.n3 c.c3, .slice c.a4 c.n4 c.c4, .slice c.a5 c.n5 c.c5, .slice c.a6 c.n6 c.c6, .slice c.a7 c.n7 c.c7] 27)) (.cells #[.int .i64 c.n1, .int .i64 c.n2, .int .i64 c.n3, .int .i64 c.n4, .int .i64 c.n5] 3)
    simpa using this
  have HBd : Hid (∀ k, k < 5 → atP ps k ≤ 281474976710656) := fun k hk => by
    rw [HPE.out]
    rcases (by omega : k = 0 ∨ k = 1 ∨ k = 2 ∨ k = 3 ∨ k = 4) with rfl | rfl | rfl | rfl | rfl <;> (simp [atP]; omega)
  rw [hlb]
  generalize hP : (fun (e : Ending) (w' : World) => e = .returned (.bool (ps.any (fun n => decide (64 < n)) || (decide (5000 < c.m) || (decide (2000 < c.n6) || decide (ps.sum < c.n7))))) ∧ Below w.heap.size w w') = Post
  have HP := hide hP
  have HL5 := hide hl5
  clear hP h hps hlb hl5 HPS
  unfold CV.v
  go_enter Try.func77, Try.ntmps77
  go_wp2
  go_loop [4, 6, 25] (fun s _ i => ∃ k sm : Nat, i = .int .i64 k ∧ s = .int .i64 sm ∧ k ≤ 5 ∧ sm ≤ 64 * k ∧ Hid (sm = (ps.take k).sum ∧ ∀ j, j < k → atP ps j ≤ 64)) (fun _ _ i => 5 - (intOf i).toNat)
  case atStart => exact ⟨0, 0, rfl, rfl, Nat.zero_le _, by omega, rfl, fun j hj => absurd hj (Nat.not_lt_zero _)⟩
  case round =>
    obtain ⟨k, sm, rfl, rfl, hk, hsm, HF⟩ := hrel
    by_cases hlt : k < 5
    · have hc := HC.out k hlt
      have hbd := HBd.out k hlt
      have HST := hide (sum_take ps k (by rw [HL5.out]; exact hlt))
      obtain ⟨x, HX⟩ : ∃ x, Hid (x = atP ps k) := ⟨_, rfl⟩
      rw [← HX.out] at hc hbd HST
      by_cases h64 : (64 : Int) < x
      · have hfin : Hid (∀ W, Below w.heap.size w W → Post (.returned (.bool true)) W) := fun W hW => by
          rw [← HP.out]
          refine ⟨ret_bool ?_, hW⟩
          rw [show (ps.any fun n => decide (64 < n)) = true from List.any_eq_true.2 ⟨x, by rw [HX.out]; exact atP_mem ps k (by rw [HL5.out]; exact hlt), decide_eq_true (by omega)⟩]
          rfl
        go_wp2
        exact hfin.out _ HBw.out
      · go_wp2
        go_round
        case rel =>
          refine ⟨k + 1, sm + x, by go_num, by go_num, by omega, by omega, by rw [HST.out, HF.out.1], fun j hj => ?_⟩
          by_cases hjk : j < k
          · exact HF.out.2 j hjk
          · obtain rfl : j = k := by omega
            rw [← HX.out]; omega
        case measure => simp [intOf]; omega
    · obtain rfl : k = 5 := by omega
      have hany : (ps.any fun n => decide (64 < n)) = false := List.any_eq_false.2 (fun n hn => by
        obtain ⟨j, hj, rfl⟩ := List.getElem_of_mem hn
        have := HF.out.2 j (by rw [← HL5.out]; exact hj)
        rw [atP_eq ps j hj] at this
        simp; omega)
      have hfin : Hid (∀ r W, r = (decide (5000 < c.m) || (decide (2000 < c.n6) || decide (sm < c.n7))) → Below w.heap.size w W → Post (.returned (.bool r)) W) := fun r W hr hW => by
        rw [← HP.out]
        refine ⟨ret_bool ?_, hW⟩
        have e : sm = ps.sum := by rw [HF.out.1, List.take_of_length_le (by rw [HL5.out]; exact Nat.le_refl _)]
        rw [hany, Bool.false_or, ← e]
        exact hr
      clear hany
      by_cases hm : 5000 < c.m
      · go_wp2
        exact hfin.out _ _ (by simp [hm]) HBw.out
      · by_cases h6 : (2000 : Int) < c.n6
        · go_wp2
          exact hfin.out _ _ (by simp; omega) HBw.out
        · go_wp2
          exact hfin.out _ _ (by rw [decide_eq_false (show ¬ 5000 < c.m by omega), decide_eq_false (show ¬ 2000 < c.n6 by omega), Bool.false_or, Bool.false_or]) HBw.out

set_option maxHeartbeats 1000000 in
theorem howMany_any (c : CV) (C : Circ) (kind : Int) (w : World) (h : Holds w c C) :
    Calls Try.prog 101 #[c.v, .int .u8 kind] w fun e w' => e = .returned (.int .i64 (C.countK kind 0)) ∧ Below w.heap.size w w' := by
  have e : C.countK kind 0 = if kind = 105 then (c.n1 : Int) else if kind = 108 then c.n2 else if kind = 111 then c.n3 else if kind = 98 then c.n4 else if kind = 99 then c.n5 else 0 := by
    unfold Circ.countK; rw [h.l1, h.l2, h.l3, h.l4, h.l5]
  rw [e]
  have HB := hide (below_alloc w (.cells #[.int .i64 c.m, .slice c.a1 c.n1 c.c1, .slice c.a2 c.n2 c.c2, .slice c.a3 c.n3 c.c3, .slice c.a4 c.n4 c.c4, .slice c.a5 c.n5 c.c5, .slice c.a6 c.n6 c.c6, .slice c.a7 c.n7 c.c7] 27))
  clear h e
  unfold CV.v
  by_cases k1 : kind = 105
  · subst k1
    go_enter Try.func101, Try.ntmps101
    go_wp2
    go_ret
    exact ⟨rfl, HB.out⟩
  · have b1 : (kind == 105) = false := by rw [beq_eq_false_iff_ne]; exact k1
    rw [if_neg k1]
    clear k1
    by_cases k2 : kind = 108
    · subst k2
      go_enter Try.func101, Try.ntmps101
      go_wp2
      go_ret
      exact ⟨rfl, HB.out⟩
    · have b2 : (kind == 108) = false := by rw [beq_eq_false_iff_ne]; exact k2
      rw [if_neg k2]
      clear k2
      by_cases k3 : kind = 111
      · subst k3
        go_enter Try.func101, Try.ntmps101
        go_wp2
        go_ret
        exact ⟨rfl, HB.out⟩
      · have b3 : (kind == 111) = false := by rw [beq_eq_false_iff_ne]; exact k3
        rw [if_neg k3]
        clear k3
        by_cases k4 : kind = 98
        · subst k4
          go_enter Try.func101, Try.ntmps101
          go_wp2
          go_ret
          exact ⟨rfl, HB.out⟩
        · have b4 : (kind == 98) = false := by rw [beq_eq_false_iff_ne]; exact k4
          rw [if_neg k4]
          clear k4
          by_cases k5 : kind = 99
          · subst k5
            go_enter Try.func101, Try.ntmps101
            go_wp2
            go_ret
            exact ⟨rfl, HB.out⟩
          · have b5 : (kind == 99) = false := by rw [beq_eq_false_iff_ne]; exact k5
            rw [if_neg k5]
            clear k5
            go_enter Try.func101, Try.ntmps101
            go_wp2
            go_ret
            exact ⟨rfl, HB.out⟩

theorem isEmpty_of (s : ByteArray) : s.toList.isEmpty = decide (s.size = 0) := by
  rw [ByteArray.toList_eq, Bool.eq_iff_iff]
  simp [← ByteArray.size_data]

theorem name_all (s : ByteArray) (h : ∀ j (hj : j < s.size), 32 ≤ s[j].toNat) : s.data.toList.all (fun b => decide (32 ≤ b.toNat)) = true := by
  rw [List.all_eq_true]
  intro b hb
  obtain ⟨j, hj, rfl⟩ := List.getElem_of_mem hb
  exact decide_eq_true (h j (by simpa using hj))
theorem name_not (s : ByteArray) (k : Nat) (hk : k < s.size) (h : s[k].toNat < 32) : s.data.toList.all (fun b => decide (32 ≤ b.toNat)) = false := by
  rw [List.all_eq_false]
  refine ⟨s[k], by have := List.getElem_mem (l := s.data.toList) (n := k) (by simpa using hk); exact this, by simp; omega⟩

set_option maxRecDepth 100000 in
set_option maxHeartbeats 1000000 in
theorem isName_any (s : ByteArray) (w : World) (hs : s.size ≤ 9223372036854775807) :
    Calls Try.prog 102 #[.string s] w fun e w' => e = .returned (.bool (nameB s)) ∧ w' = w := by
  have he := isEmpty_of s
  by_cases h0 : s.size = 0
  · have e : nameB s = false := by unfold nameB; simp [h0]
    rw [e]
    rw [decide_eq_true h0] at he
    go_enter Try.func102, Try.ntmps102
    go_wp2
    go_ret
    exact ⟨rfl, rfl⟩
  · rw [decide_eq_false h0] at he
    by_cases h1 : (100 : Int) < s.size
    · have e : nameB s = false := by unfold nameB; rw [decide_eq_false (show ¬ s.size ≤ 100 by omega)]; simp
      rw [e]
      go_enter Try.func102, Try.ntmps102
      go_wp2
      go_ret
      exact ⟨rfl, rfl⟩
    · have e : nameB s = s.data.toList.all (fun b => decide (32 ≤ b.toNat)) := by unfold nameB; rw [decide_eq_true (show s.size ≠ 0 from h0), decide_eq_true (show s.size ≤ 100 by omega), Bool.true_and, Bool.true_and]
      rw [e]
      generalize hP : (fun (e : Ending) (w' : World) => e = .returned (.bool (s.data.toList.all (fun b => decide (32 ≤ b.toNat)))) ∧ w' = w) = Post
      have HP := hide hP
      clear hP e
      go_enter Try.func102, Try.ntmps102
      go_wp2
      go_loop [3, 13] (fun _ i => ∃ k : Nat, i = .int .i64 k ∧ k ≤ s.size ∧ Hid (∀ j (hj : j < s.size), j < k → 32 ≤ s[j].toNat)) (fun _ i => s.size - (intOf i).toNat)
      case atStart => exact ⟨0, rfl, Nat.zero_le _, fun j _ hj => absurd hj (Nat.not_lt_zero _)⟩
      case round =>
        obtain ⟨k, rfl, hk, HF⟩ := hrel
        by_cases hlt : k < s.size
        · by_cases h32 : ((s[k]'hlt).toNat : Int) < 32
          · have hfin : Hid (Post (.returned (.bool false)) w) := by
              show Post (.returned (.bool false)) w
              rw [← HP.out]
              exact ⟨ret_bool (name_not s k hlt (by omega)).symm, rfl⟩
            go_wp2
            exact hfin.out
          · go_wp2
            go_round
            case rel =>
              refine ⟨k + 1, by go_num, by omega, fun j hj hjk => ?_⟩
              by_cases h : j < k
              · exact HF.out j hj h
              · obtain rfl : j = k := by omega
                omega
            case measure => simp [intOf]; omega
        · have hfin : Hid (Post (.returned (.bool true)) w) := by
            show Post (.returned (.bool true)) w
            rw [← HP.out]
            exact ⟨ret_bool (name_all s (fun j hj => HF.out j hj (by omega))).symm, rfl⟩
          go_wp2
          exact hfin.out
end Go.Proofs.Ytppaifckiaaffaa
