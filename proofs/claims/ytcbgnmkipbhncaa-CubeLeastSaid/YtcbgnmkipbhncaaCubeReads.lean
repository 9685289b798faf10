/-
  THE WALKS of layer 3's reading functions: has, Within (the reference's), SameInts, Right, RightCube, slices.Contains.
-/
import Derived.Test.YtcbgnmkipbhncaaRefSize
namespace Go.Proofs.Ytcbgnmkipbhncaa
open Go.RowKit

def withinB (xs ys : List Int) : Bool := xs.all fun y => decide (y ∈ ys)
def rightB (xs : List Int) : Bool := xs.all fitB && decide (xs.Pairwise fun a b => mag a < mag b)
def Rt (xs : List Int) : Prop := (∀ n ∈ xs, Fits n) ∧ Up xs
theorem rightB_iff (xs : List Int) : rightB xs = true ↔ Rt xs := by unfold rightB Rt Up; simp [fitB_iff]
theorem rightB_no {xs : List Int} (h : ¬ Rt xs) : rightB xs = false := by rw [← rightB_iff] at h; simpa using h
theorem withinB_iff (xs ys : List Int) : withinB xs ys = true ↔ ∀ x ∈ xs, x ∈ ys := by unfold withinB; simp

theorem all_of {xs : List Int} {p : Int → Prop} (h : ∀ j, j < xs.length → p (atP xs j)) : ∀ x ∈ xs, p x := fun x hx => by
  obtain ⟨j, hj, rfl⟩ := List.getElem_of_mem hx
  have := h j hj
  rwa [atP_eq xs j hj] at this

set_option maxRecDepth 100000 in
set_option maxHeartbeats 400000 in
theorem has_any (a : Option Addr) (n c : Nat) (xs : List Int) (x : Int) (w : World) (hr : RowK .i64 w a xs) (hx : xs.length = n) (hn : n ≤ 9223372036854775807) :
    Calls Try.prog 37 #[.slice a n c, .int .i64 x] w fun e w' => e = .returned (.bool (decide (x ∈ xs))) ∧ w' = w := by
  have HR := hide hr
  have HX := hide hx
  generalize hP : (fun (e : Ending) (w' : World) => e = .returned (.bool (decide (x ∈ xs))) ∧ w' = w) = Post
  have HP := hide hP
  clear hr hx hP
  go_enter Try.func37, Try.ntmps37
  go_wp2
  go_loop [5] (fun i => ∃ k : Nat, i = .int .i64 k ∧ k ≤ n ∧ Hid (∀ j, j < k → atP xs j ≠ x)) (fun i => n - (intOf i).toNat)
  case atStart => exact ⟨0, rfl, Nat.zero_le _, fun j hj => absurd hj (Nat.not_lt_zero _)⟩
  case round =>
    obtain ⟨k, rfl, hk, HF⟩ := hrel
    by_cases hlt : k < n
    · obtain ⟨b, off, rfl, -, hcell⟩ := HR.out.addr (by rw [HX.out]; omega)
      have hc := hcell k (by rw [HX.out]; omega)
      rw [atP_getD] at hc
      obtain ⟨y, HY⟩ : ∃ y, Hid (y = atP xs k) := ⟨_, rfl⟩
      rw [← HY.out] at hc
      clear hcell
      by_cases he : y = x
      · subst he
        have hfin : Hid (Post (.returned (.bool true)) w) := by
          show Post (.returned (.bool true)) w
          rw [← HP.out]
          exact ⟨ret_bool (decide_eq_true (by rw [HY.out]; exact atP_mem xs k (by rw [HX.out]; exact hlt))).symm, rfl⟩
        go_wp2
        exact hfin.out
      · have hb : (y == x) = false := by rw [beq_eq_false_iff_ne]; exact he
        go_wp2
        go_round
        case rel =>
          refine ⟨k + 1, by go_num, by omega, fun j hj => ?_⟩
          by_cases hjk : j < k
          · exact HF.out j hjk
          · obtain rfl : j = k := by omega
            rw [← HY.out]; exact he
        case measure => simp [intOf]; omega
    · obtain rfl : k = n := by omega
      have hfin : Hid (Post (.returned (.bool false)) w) := by
        show Post (.returned (.bool false)) w
        rw [← HP.out]
        exact ⟨ret_bool (decide_eq_false (fun h => all_of (p := fun y => y ≠ x) (fun j hj => HF.out j (by rw [← HX.out]; exact hj)) x h rfl)).symm, rfl⟩
      go_wp2
      exact hfin.out

set_option maxRecDepth 100000 in
set_option maxHeartbeats 400000 in
theorem refWithin_any (a b : Option Addr) (n c m d : Nat) (xs ys : List Int) (w : World) (hr : RowK .i64 w a xs) (hx : xs.length = n) (hs : RowK .i64 w b ys) (hy : ys.length = m) (hn : n ≤ 9223372036854775807) (hm : m ≤ 9223372036854775807) :
    Calls Try.prog 18 #[.slice a n c, .slice b m d] w fun e w' => e = .returned (.bool (withinB xs ys)) ∧ w' = w := by
  have HR := hide hr
  have HX := hide hx
  have HH := hide (fun x => has_any b m d ys x w hs hy hm)
  generalize hP : (fun (e : Ending) (w' : World) => e = .returned (.bool (withinB xs ys)) ∧ w' = w) = Post
  have HP := hide hP
  clear hr hx hP hs hy
  go_enter Try.func18, Try.ntmps18
  go_wp2
  go_loop [5] (fun i => ∃ k : Nat, i = .int .i64 k ∧ k ≤ n ∧ Hid (∀ j, j < k → atP xs j ∈ ys)) (fun i => n - (intOf i).toNat)
  case atStart => exact ⟨0, rfl, Nat.zero_le _, fun j hj => absurd hj (Nat.not_lt_zero _)⟩
  case round =>
    obtain ⟨k, rfl, hk, HF⟩ := hrel
    by_cases hlt : k < n
    · obtain ⟨g, off, rfl, -, hcell⟩ := HR.out.addr (by rw [HX.out]; omega)
      have hc := hcell k (by rw [HX.out]; omega)
      rw [atP_getD] at hc
      obtain ⟨y, HY⟩ : ∃ y, Hid (y = atP xs k) := ⟨_, rfl⟩
      rw [← HY.out] at hc
      clear hcell
      have hcall := HH.out y
      by_cases he : y ∈ ys
      · rw [decide_eq_true he] at hcall
        have HE := hide he
        clear he
        go_wp2_with (go_at_call 37; refine hcall.mono ?_; rintro e w1 ⟨rfl, hw1⟩; obtain rfl := hw1.symm)
        go_round
        case rel =>
          refine ⟨k + 1, by go_num, by omega, fun j hj => ?_⟩
          by_cases hjk : j < k
          · exact HF.out j hjk
          · obtain rfl : j = k := by omega
            rw [← HY.out]; exact HE.out
        case measure => simp [intOf]; omega
      · rw [decide_eq_false he] at hcall
        have hfin : Hid (Post (.returned (.bool false)) w) := by
          show Post (.returned (.bool false)) w
          rw [← HP.out]
          refine ⟨ret_bool ?_, rfl⟩
          cases hw : withinB xs ys with
          | false => rfl
          | true => exact absurd ((withinB_iff xs ys).1 hw y (by rw [HY.out]; exact atP_mem xs k (by rw [HX.out]; exact hlt))) he
        clear he
        go_wp2_with (go_at_call 37; refine hcall.mono ?_; rintro e w1 ⟨rfl, hw1⟩; obtain rfl := hw1.symm)
        exact hfin.out
    · obtain rfl : k = n := by omega
      have hfin : Hid (Post (.returned (.bool true)) w) := by
        show Post (.returned (.bool true)) w
        rw [← HP.out]
        exact ⟨ret_bool ((withinB_iff xs ys).2 (all_of (p := fun y => y ∈ ys) (fun j hj => HF.out j (by rw [← HX.out]; exact hj)))).symm, rfl⟩
      go_wp2
      exact hfin.out

/-- What a function that reads and draws leaves. -/
def Drew (w w' : World) : Prop := ∃ q, w' = w.drewN q
theorem Drew.below {w w' : World} (h : Drew w w') : Below w.heap.size w w' := by obtain ⟨q, rfl⟩ := h; exact ⟨rfl, rfl, rfl, Nat.le_refl _, fun _ _ => rfl⟩
theorem Drew.heap {w w' : World} (h : Drew w w') : w'.heap = w.heap := by obtain ⟨q, rfl⟩ := h; rfl

set_option maxRecDepth 100000 in
set_option maxHeartbeats 400000 in
theorem same_any (a b : Option Addr) (n c m d : Nat) (xs ys : List Int) (w : World) (hr : RowK .i64 w a xs) (hx : xs.length = n) (hs : RowK .i64 w b ys) (hy : ys.length = m) (hn : n ≤ 9223372036854775807) (hm : m ≤ 9223372036854775807) :
    Calls Try.prog 12 #[.slice a n c, .slice b m d] w fun e w' => e = .returned (.bool (decide (xs = ys))) ∧ Drew w w' := by
  by_cases hne : n = m
  · subst hne
    have HR := hide hr
    have HX := hide hx
    have HS := hide hs
    have HYL := hide hy
    generalize hP : (fun (e : Ending) (w' : World) => e = .returned (.bool (decide (xs = ys))) ∧ Drew w w') = Post
    have HP := hide hP
    clear hr hx hP hs hy
    go_enter Try.func12, Try.ntmps12
    go_wp2
    go_loopw [5] (fun i wr => ∃ k : Nat, i = .int .i64 k ∧ k ≤ n ∧ Hid (Drew w wr ∧ ∀ j, j < k → atP xs j = atP ys j)) (fun i _ => n - (intOf i).toNat)
    case atStart => exact ⟨0, rfl, Nat.zero_le _, ⟨0, rfl⟩, fun j hj => absurd hj (Nat.not_lt_zero _)⟩
    case round =>
      obtain ⟨k, rfl, hk, HF⟩ := hrel
      by_cases hlt : k < n
      · obtain ⟨g, off, rfl, -, hcell⟩ := HR.out.addr (by rw [HX.out]; omega)
        obtain ⟨g2, off2, rfl, -, hcell2⟩ := HS.out.addr (by rw [HYL.out]; omega)
        have hc := (cell_heap HF.out.1.heap _).trans (hcell k (by rw [HX.out]; omega))
        have hc2 := (cell_heap HF.out.1.heap _).trans (hcell2 k (by rw [HYL.out]; omega))
        rw [atP_getD] at hc hc2
        obtain ⟨x, HXX⟩ : ∃ x, Hid (x = atP xs k) := ⟨_, rfl⟩
        obtain ⟨y, HYY⟩ : ∃ y, Hid (y = atP ys k) := ⟨_, rfl⟩
        rw [← HXX.out] at hc
        rw [← HYY.out] at hc2
        clear hcell hcell2
        by_cases he : x = y
        · subst he
          go_wp2
          go_quiet (fail)
          go_wp2
          go_roundw
          case rel =>
            refine ⟨k + 1, by go_num, by omega, ?_, fun j hj => ?_⟩
            · obtain ⟨q, e⟩ := HF.out.1
              exact ⟨q + _, by rw [e, World.drewN_drewN]⟩
            · by_cases hjk : j < k
              · exact HF.out.2 j hjk
              · obtain rfl : j = k := by omega
                rw [← HXX.out]; exact HYY.out
          case measure => simp [intOf]; omega
        · have hb : (x == y) = false := by rw [beq_eq_false_iff_ne]; exact he
          have hfin : Hid (∀ q, Post (.returned (.bool false)) (wr.drewN q)) := by
            intro q
            rw [← HP.out]
            refine ⟨ret_bool (decide_eq_false (fun h => he (by rw [HXX.out, HYY.out, h]))).symm, ?_⟩
            obtain ⟨q2, e⟩ := HF.out.1
            exact ⟨q2 + q, by rw [e, World.drewN_drewN]⟩
          go_wp2
          go_quiet (fail)
          go_wp2
          exact hfin.out _
      · obtain rfl : k = n := by omega
        have hfin : Hid (Post (.returned (.bool true)) wr) := by
          show Post (.returned (.bool true)) wr
          rw [← HP.out]
          exact ⟨ret_bool (decide_eq_true (ext_atP xs ys (by rw [HX.out, HYL.out]) (fun i hi => HF.out.2 i (by rw [← HX.out]; exact hi)))).symm, HF.out.1⟩
        go_wp2
        exact hfin.out
  · have e : decide (xs = ys) = false := decide_eq_false (fun h => hne (by rw [← hx, ← hy, h]))
    rw [e]
    have hb : ((n : Int) == (m : Int)) = false := by rw [beq_eq_false_iff_ne]; omega
    go_enter Try.func12, Try.ntmps12
    go_wp2
    go_ret
    exact ⟨rfl, 0, rfl⟩
end Go.Proofs.Ytcbgnmkipbhncaa
