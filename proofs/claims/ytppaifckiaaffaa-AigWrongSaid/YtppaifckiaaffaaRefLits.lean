/-
  THE WALKS of the reference's lits, own, count, symbol.
-/
import Derived.Test.YtppaifckiaaffaaAigCheck
import Derived.BigQuiet
namespace Go.Proofs.Ytppaifckiaaffaa
open Go.RowKit

theorem own_any (l : Int) (w : World) :
    Calls Try.prog 85 #[.int .i64 l] w fun e w' => e = .returned (.bool (decide (0 < l) && decide (l % 2 = 0))) ∧ w' = w := by
  by_cases h0 : 0 < l
  · have ht := tmod_two h0
    have hd : decide (0 < l) = true := decide_eq_true h0
    by_cases h2 : l % 2 = 0
    · have ht0 : l.tmod 2 = 0 := by omega
      rw [hd, decide_eq_true h2]
      clear ht h2
      go_enter Try.func85, Try.ntmps85
      go_wp2
      go_ret
      exact ⟨rfl, rfl⟩
    · have ht0 : l.tmod 2 = 1 := by omega
      rw [hd, decide_eq_false h2]
      clear ht h2
      go_enter Try.func85, Try.ntmps85
      go_wp2
      go_ret
      exact ⟨rfl, rfl⟩
  · have hd : decide (0 < l) = false := decide_eq_false h0
    rw [hd]
    go_enter Try.func85, Try.ntmps85
    go_wp2
    go_ret
    exact ⟨rfl, rfl⟩

theorem lits_any (a : Option Addr) (n c : Nat) (xs : List Int) (top : Int) (w : World) (hr : RowK .i64 w a xs) (hx : xs.length = n) (hn : n ≤ 9223372036854775807) :
    Calls Try.prog 84 #[.slice a n c, .int .i64 top] w fun e w' => e = .returned (.bool (xs.all (litB top))) ∧ w' = w := by
  have HR := hide hr
  have HX := hide hx
  generalize hP : (fun (e : Ending) (w' : World) => e = .returned (.bool (xs.all (litB top))) ∧ w' = w) = Post
  have HP := hide hP
  clear hr hx hP
  go_enter Try.func84, Try.ntmps84
  go_wp2
  go_loop [5] (fun i => ∃ k : Nat, i = .int .i64 k ∧ k ≤ n ∧ Hid (∀ j, j < k → litB top (atP xs j) = true)) (fun i => n - (intOf i).toNat)
  case atStart => exact ⟨0, rfl, Nat.zero_le _, fun j hj => absurd hj (Nat.not_lt_zero _)⟩
  case round =>
    obtain ⟨k, rfl, hk, HF⟩ := hrel
    by_cases hlt : k < n
    · obtain ⟨b, off, rfl, -, hcell⟩ := HR.out.addr (by rw [HX.out]; omega)
      have hc := hcell k (by rw [HX.out]; omega)
      rw [atP_getD] at hc
      obtain ⟨y, HY⟩ : ∃ y, Hid (y = atP xs k) := ⟨_, rfl⟩
      rw [← HY.out] at hc
      clear hcell
      have hno : Hid (litB top y = false → Post (.returned (.bool false)) w) := fun hf => by
        rw [← HP.out]
        exact ⟨ret_bool (List.all_eq_false.2 ⟨y, by rw [HY.out]; exact atP_mem xs k (by rw [HX.out]; exact hlt), by rw [hf]; decide⟩).symm, rfl⟩
      by_cases q1 : y < 0
      · have hfin := hide (hno.out (by unfold litB; rw [decide_eq_false (show ¬ 0 ≤ y by omega)]; rfl))
        clear hno
        go_wp2
        exact hfin.out
      · by_cases q2 : top < y
        · have hfin := hide (hno.out (by unfold litB; rw [decide_eq_false (show ¬ y ≤ top by omega)]; simp))
          clear hno
          go_wp2
          exact hfin.out
        · clear hno
          have HO : Hid (litB top y = true) := by
            show litB top y = true
            unfold litB
            rw [decide_eq_true (show 0 ≤ y by omega), decide_eq_true (show y ≤ top by omega)]; rfl
          go_wp2
          go_round
          case rel =>
            refine ⟨k + 1, by go_num, by omega, fun j hj => ?_⟩
            by_cases hjk : j < k
            · exact HF.out j hjk
            · obtain rfl : j = k := by omega
              rw [← HY.out]; exact HO.out
          case measure => simp [intOf]; omega
    · obtain rfl : k = n := by omega
      have hfin : Hid (Post (.returned (.bool true)) w) := by
        show Post (.returned (.bool true)) w
        rw [← HP.out]
        exact ⟨ret_bool (List.all_eq_true.2 (all_of (p := fun y => litB top y = true) (fun j hj => HF.out j (by rw [← HX.out]; exact hj)))).symm, rfl⟩
      go_wp2
      exact hfin.out

set_option maxHeartbeats 1000000 in
theorem count_any (c : CV) (C : Circ) (kind : Int) (w : World) (h : Holds w c C) :
    Calls Try.prog 105 #[c.v, .int .u8 kind] w fun e w' => e = .returned (.int .i64 (C.countK kind (-1))) ∧ Below w.heap.size w w' := by
  have e : C.countK kind (-1) = if kind = 105 then (c.n1 : Int) else if kind = 108 then c.n2 else if kind = 111 then c.n3 else if kind = 98 then c.n4 else if kind = 99 then c.n5 else -1 := by
    unfold Circ.countK; rw [h.l1, h.l2, h.l3, h.l4, h.l5]
  rw [e]
  have HB := hide (below_alloc w (.cells #[.int .i64 c.m, .slice c.a1 c.n1 c.c1, .slice c.a2 c.n2 c.c2, .slice c.a3 c.n3 c.c3, .slice c.a4 c.n4 c.c4, .slice c.a5 c.n5 c.c5, .slice c.a6 c.n6 c.c6, .slice c.a7 c.n7 c.c7] 27))
  clear h e
  unfold CV.v
  by_cases k1 : kind = 105
  · subst k1
    go_enter Try.func105, Try.ntmps105
    go_wp2
    go_ret
    exact ⟨rfl, HB.out⟩
  · have b1 : (kind == 105) = false := by rw [beq_eq_false_iff_ne]; exact k1
    rw [if_neg k1]
    clear k1
    by_cases k2 : kind = 108
    · subst k2
      go_enter Try.func105, Try.ntmps105
      go_wp2
      go_ret
      exact ⟨rfl, HB.out⟩
    · have b2 : (kind == 108) = false := by rw [beq_eq_false_iff_ne]; exact k2
      rw [if_neg k2]
      clear k2
      by_cases k3 : kind = 111
      · subst k3
        go_enter Try.func105, Try.ntmps105
        go_wp2
        go_ret
        exact ⟨rfl, HB.out⟩
      · have b3 : (kind == 111) = false := by rw [beq_eq_false_iff_ne]; exact k3
        rw [if_neg k3]
        clear k3
        by_cases k4 : kind = 98
        · subst k4
          go_enter Try.func105, Try.ntmps105
          go_wp2
          go_ret
          exact ⟨rfl, HB.out⟩
        · have b4 : (kind == 98) = false := by rw [beq_eq_false_iff_ne]; exact k4
          rw [if_neg k4]
          clear k4
          by_cases k5 : kind = 99
          · subst k5
            go_enter Try.func105, Try.ntmps105
            go_wp2
            go_ret
            exact ⟨rfl, HB.out⟩
          · have b5 : (kind == 99) = false := by rw [beq_eq_false_iff_ne]; exact k5
            rw [if_neg k5]
            clear k5
            go_enter Try.func105, Try.ntmps105
            go_wp2
            go_ret
            exact ⟨rfl, HB.out⟩


theorem sym_kind (C : Circ) (k i : Int) (h : 0 ≤ i) : decide (i < C.countK k (-1)) = decide (i < C.countK k 0) := by
  unfold Circ.countK
  split
  · rfl
  split
  · rfl
  split
  · rfl
  split
  · rfl
  split
  · rfl
  rw [decide_eq_false (by omega), decide_eq_false (by omega)]
end Go.Proofs.Ytppaifckiaaffaa
