/-
  THE WALKS of a pile of ints: its four methods, and the order of signs.
-/
import Derived.Test.YtcbgnmkipbhncaaHeapPop
import Derived.BigQuiet
import Derived.RegionTactic
namespace Go.Proofs.Ytcbgnmkipbhncaa
open Go.RowKit

/-- A sign's size. -/
def mag (n : Int) : Int := if n < 0 then -n else n
def SignB (n : Int) : Prop := -2147483648 ≤ n ∧ n ≤ 2147483648
def ltI (a b : Int) : Bool := decide (mag a < mag b)

set_option maxHeartbeats 400000 in
theorem size_any (n : Int) (w : World) (h : SignB n) : Calls Try.prog 34 #[.int .i64 n] w fun e w' => e = .returned (.int .i64 (mag n)) ∧ w' = w := by
  obtain ⟨h1, h2⟩ := h
  by_cases h0 : n < 0
  · have e : mag n = -n := if_pos h0
    rw [e]
    go_enter Try.func34, Try.ntmps34
    go_wp2
    go_ret
    exact ⟨rfl, rfl⟩
  · have e : mag n = n := if_neg h0
    rw [e]
    go_enter Try.func34, Try.ntmps34
    go_wp2
    go_ret
    exact ⟨rfl, rfl⟩

theorem mag_bd {n : Int} (h : SignB n) : 0 ≤ mag n ∧ mag n ≤ 2147483648 := by
  obtain ⟨h1, h2⟩ := h
  unfold mag
  split <;> omega

set_option maxHeartbeats 400000 in
theorem smaller_any (a b : Int) (w : World) (ha : SignB a) (hb : SignB b) : Calls Try.prog 31 #[.int .i64 a, .int .i64 b] w fun e w' => e = .returned (.bool (ltI a b)) ∧ w' = w := by
  have hA := size_any a w ha
  have hB := size_any b w hb
  unfold ltI
  generalize mag a = x at hA ⊢
  generalize mag b = y at hB ⊢
  go_enter Try.func31, Try.ntmps31
  go_wp2_with (first | (go_at_call 34; refine hA.mono ?_; rintro e w1 ⟨rfl, hw1⟩; obtain rfl := hw1.symm) | (go_at_call 34; refine hB.mono ?_; rintro e w1 ⟨rfl, hw1⟩; obtain rfl := hw1.symm))
  go_ret
  exact ⟨rfl, rfl⟩

set_option maxHeartbeats 400000 in
theorem pi_len (p n c : Nat) (a : Option Addr) (w : World) (h0 : w.cell? ⟨p, 0, none⟩ = some (.slice a n c)) :
    Calls Try.prog 50 #[.pointer (some ⟨p, 0, none⟩)] w fun e w' => e = .returned (.int .i64 n) ∧ w' = w := by
  go_enter Try.func50, Try.ntmps50
  go_wp2
  go_ret
  exact ⟨rfl, rfl⟩

set_option maxHeartbeats 2000000 in
theorem pi_less (p g n c : Nat) (w : World) (h0 : w.cell? ⟨p, 0, none⟩ = some (.slice (some ⟨g, 0, none⟩) n c)) (h1 : w.cell? ⟨p, 1, none⟩ = some (.func (.func 31) #[] #[])) (i j : Nat) (x y : Int) (hi : i < n) (hj : j < n) (_hn : n ≤ 1152921504606846976)
    (hx : w.cell? ⟨g, i, none⟩ = some (.int .i64 x)) (hy : w.cell? ⟨g, j, none⟩ = some (.int .i64 y)) (bx : SignB x) (bY : SignB y) :
    Calls Try.prog 75 #[.pointer (some ⟨p, 0, none⟩), .int .i64 i, .int .i64 j] w fun e w' => e = .returned (.bool (ltI x y)) ∧ ∃ q, w' = w.drewN q := by
  go_enter Try.func75, Try.ntmps75
  go_wp2
  go_quiet (first | (go_at_call 31; refine Calls.quiet_of_same (smaller_any x y _ bx bY)))
  go_wp2
  go_ret
  exact ⟨rfl, nq, rfl⟩

set_option maxHeartbeats 4000000 in
theorem pi_swap (p g n c : Nat) (w : World) (h0 : w.cell? ⟨p, 0, none⟩ = some (.slice (some ⟨g, 0, none⟩) n c)) (i j : Nat) (x y : Int) (hi : i < n) (hj : j < n) (_hn : n ≤ 1152921504606846976)
    (hx : w.cell? ⟨g, i, none⟩ = some (.int .i64 x)) (hy : w.cell? ⟨g, j, none⟩ = some (.int .i64 y)) (fi : w.frozen? ⟨g, i, none⟩ = false) (fj : w.frozen? ⟨g, j, none⟩ = false) :
    Calls Try.prog 77 #[.pointer (some ⟨p, 0, none⟩), .int .i64 i, .int .i64 j] w fun e w' => e = .returned (.tuple #[]) ∧ ∃ q, w' = ((w.setCell ⟨g, i, none⟩ (.int .i64 y)).setCell ⟨g, j, none⟩ (.int .i64 x)).drewN q := by
  obtain ⟨v', hy'⟩ := cell?_setCell_some (w := w) (p := ⟨g, i, none⟩) (x := .int .i64 y) (q := ⟨g, j, none⟩) hy
  go_enter Try.func77, Try.ntmps77
  go_wp2
  go_region
  all_goals (try go_wp2)
  all_goals go_end0
  all_goals exact ⟨rfl, 1, rfl⟩

set_option maxHeartbeats 2000000 in
theorem pi_pop (p g n c : Nat) (w : World) (h0 : w.cell? ⟨p, 0, none⟩ = some (.slice (some ⟨g, 0, none⟩) (n + 1) c)) (f0 : w.frozen? ⟨p, 0, none⟩ = false) (x : Int) (hn : n ≤ 1152921504606846976) (hc : n + 1 ≤ c) (_hc2 : c ≤ 9223372036854775807)
    (hx : w.cell? ⟨g, n, none⟩ = some (.int .i64 x)) :
    Calls Try.prog 76 #[.pointer (some ⟨p, 0, none⟩)] w fun e w' => e = .returned (.iface 3 (.int .i64 x)) ∧ w' = w.setCell ⟨p, 0, none⟩ (.slice (some ⟨g, 0, none⟩) n c) := by
  go_enter Try.func76, Try.ntmps76
  go_wp2
  go_ret
  exact ⟨rfl, rfl⟩
end Go.Proofs.Ytcbgnmkipbhncaa
