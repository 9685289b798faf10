/-
  THE WALKS of the reference's has and Within, at lists of ints.
-/
import Derived.Test.YtppaifckiaaffaaSteps
namespace Go.Proofs.Ytppaifckiaaffaa
open Go.RowKit

def inB (xs ys : List Int) : Bool := xs.all fun y => decide (y ∈ ys)
theorem inB_iff (xs ys : List Int) : inB xs ys = true ↔ ∀ x ∈ xs, x ∈ ys := by unfold inB; simp
set_option maxRecDepth 100000 in
set_option maxHeartbeats 400000 in
theorem has1_any (a : Option Addr) (n c : Nat) (xs : List Int) (x : Int) (w : World) (hr : RowK .i64 w a xs) (hx : xs.length = n) (hn : n ≤ 9223372036854775807) :
    Calls Try.prog 76 #[.slice a n c, .int .i64 x] w fun e w' => e = .returned (.bool (decide (x ∈ xs))) ∧ w' = w := by
  have HR := hide hr
  have HX := hide hx
  generalize hP : (fun (e : Ending) (w' : World) => e = .returned (.bool (decide (x ∈ xs))) ∧ w' = w) = Post
  have HP := hide hP
  clear hr hx hP
  go_enter Try.func76, Try.ntmps76
  go_wp2
  go_loop [5] (fun i => ∃ k : Nat, i = .int .i64 k ∧ k ≤ n ∧ Hid (∀ j, j < k → atP xs j ≠ x)) (fun i => n - (intOf i).toNat)
  case atStart => exact ⟨0, rfl, Nat.zero_le _, fun j hj => absurd hj (Nat.not_lt_zero _)⟩
  case round =>
    obtain ⟨k, rfl, hk, HF⟩ := hrel
    by_cases hlt : k < n
    · obtain ⟨b, off, rfl, -, hcell⟩ := HR.out.addr (by rw [HX.out]; omega)
      have hc := hcell k (by rw [HX.out]; omega)
      rw [atP_getD] at hc
      obtain ⟨y, HY⟩ : ∃ y, Hid (y = atP xs k) := ⟨_, rfl⟩
      rw [← HY.out] at hc
      clear hcell
      by_cases he : y = x
      · subst he
        have hfin : Hid (Post (.returned (.bool true)) w) := by
          show Post (.returned (.bool true)) w
          rw [← HP.out]
          exact ⟨ret_bool (decide_eq_true (by rw [HY.out]; exact atP_mem xs k (by rw [HX.out]; exact hlt))).symm, rfl⟩
        go_wp2
        exact hfin.out
      · have hb : (y == x) = false := by rw [beq_eq_false_iff_ne]; exact he
        go_wp2
        go_round
        case rel =>
          refine ⟨k + 1, by go_num, by omega, fun j hj => ?_⟩
          by_cases hjk : j < k
          · exact HF.out j hjk
          · obtain rfl : j = k := by omega
            rw [← HY.out]; exact he
        case measure => simp [intOf]; omega
    · obtain rfl : k = n := by omega
      have hfin : Hid (Post (.returned (.bool false)) w) := by
        show Post (.returned (.bool false)) w
        rw [← HP.out]
        exact ⟨ret_bool (decide_eq_false (fun h => all_of (p := fun y => y ≠ x) (fun j hj => HF.out j (by rw [← HX.out]; exact hj)) x h rfl)).symm, rfl⟩
      go_wp2
      exact hfin.out

set_option maxRecDepth 100000 in
set_option maxHeartbeats 400000 in
theorem within1_any (a b : Option Addr) (n c m d : Nat) (xs ys : List Int) (w : World) (hr : RowK .i64 w a xs) (hx : xs.length = n) (hs : RowK .i64 w b ys) (hy : ys.length = m) (hn : n ≤ 9223372036854775807) (hm : m ≤ 9223372036854775807) :
    Calls Try.prog 38 #[.slice a n c, .slice b m d] w fun e w' => e = .returned (.bool (inB xs ys)) ∧ w' = w := by
  have HR := hide hr
  have HX := hide hx
  have HH := hide (fun x => has1_any b m d ys x w hs hy hm)
  generalize hP : (fun (e : Ending) (w' : World) => e = .returned (.bool (inB xs ys)) ∧ w' = w) = Post
  have HP := hide hP
  clear hr hx hP hs hy
  go_enter Try.func38, Try.ntmps38
  go_wp2
  go_loop [5] (fun i => ∃ k : Nat, i = .int .i64 k ∧ k ≤ n ∧ Hid (∀ j, j < k → atP xs j ∈ ys)) (fun i => n - (intOf i).toNat)
  case atStart => exact ⟨0, rfl, Nat.zero_le _, fun j hj => absurd hj (Nat.not_lt_zero _)⟩
  case round =>
    obtain ⟨k, rfl, hk, HF⟩ := hrel
    by_cases hlt : k < n
    · obtain ⟨g, off, rfl, -, hcell⟩ := HR.out.addr (by rw [HX.out]; omega)
      have hc := hcell k (by rw [HX.out]; omega)
      rw [atP_getD] at hc
      obtain ⟨y, HY⟩ : ∃ y, Hid (y = atP xs k) := ⟨_, rfl⟩
      rw [← HY.out] at hc
      clear hcell
      have hcall := HH.out y
      by_cases he : y ∈ ys
      · rw [decide_eq_true he] at hcall
        have HE := hide he
        clear he
        go_wp2_with (go_at_call 76; refine hcall.mono ?_; rintro e w1 ⟨rfl, hw1⟩; obtain rfl := hw1.symm)
        go_round
        case rel =>
          refine ⟨k + 1, by go_num, by omega, fun j hj => ?_⟩
          by_cases hjk : j < k
          · exact HF.out j hjk
          · obtain rfl : j = k := by omega
            rw [← HY.out]; exact HE.out
        case measure => simp [intOf]; omega
      · rw [decide_eq_false he] at hcall
        have hfin : Hid (Post (.returned (.bool false)) w) := by
          show Post (.returned (.bool false)) w
          rw [← HP.out]
          refine ⟨ret_bool ?_, rfl⟩
          cases hw : inB xs ys with
          | false => rfl
          | true => exact absurd ((inB_iff xs ys).1 hw y (by rw [HY.out]; exact atP_mem xs k (by rw [HX.out]; exact hlt))) he
        clear he
        go_wp2_with (go_at_call 76; refine hcall.mono ?_; rintro e w1 ⟨rfl, hw1⟩; obtain rfl := hw1.symm)
        exact hfin.out
    · obtain rfl : k = n := by omega
      have hfin : Hid (Post (.returned (.bool true)) w) := by
        show Post (.returned (.bool true)) w
        rw [← HP.out]
        exact ⟨ret_bool ((inB_iff xs ys).2 (all_of (p := fun y => y ∈ ys) (fun j hj => HF.out j (by rw [← HX.out]; exact hj)))).symm, rfl⟩
      go_wp2
      exact hfin.out
end Go.Proofs.Ytppaifckiaaffaa
