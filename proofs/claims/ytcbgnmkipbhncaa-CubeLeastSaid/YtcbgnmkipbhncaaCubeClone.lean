/-
  THE WALK of slices.Clone at ints.
-/
import Derived.Test.YtcbgnmkipbhncaaPileIntH
namespace Go.Proofs.Ytcbgnmkipbhncaa
open Go.RowKit

theorem infoInt : (Try.prog.info? 3).map (fun i => (i.zero, i.size, i.bytes)) = some (some (.int .i64 0), 1, 8) := by kernel_rfl

/-- A new slice of ints. -/
def NewInts (w : World) (xs : List Int) (v : Value) (w' : World) : Prop :=
  w'.ownsRow w.heap.size 3 1 v xs.length (xs.map (Value.int .i64)) ∧ Below w.heap.size w w'

theorem below_grow {w w' : World} {v : Value} {w0 : World} {B : Nat} (h : Below B w0 w) (hg : w.grownBy w' v.ownBlock) (hB : B ≤ w.heap.size) (hv : ∀ k, v.ownBlock = some k → B ≤ k) : Below B w0 w' :=
  h.grown hg hB hv

theorem eqNil (w : World) : (binOp .eql 22 (.slice none 0 0) (.slice none 0 0)).run Try.prog w = .ok (.bool true) w := by kernel_rfl
theorem neNil (w : World) (x : Addr) (n c : Nat) : (binOp .eql 22 (.slice (some x) n c) (.slice none 0 0)).run Try.prog w = .ok (.bool false) w := by kernel_rfl

set_option maxRecDepth 100000 in
set_option maxHeartbeats 1000000 in
theorem clone_any (a : Option Addr) (n c : Nat) (xs : List Int) (w : World) (hr : RowK .i64 w a xs) (hx : xs.length = n) (hnc : a = none → c = 0) (hn : n ≤ 1048576) :
    Calls Try.prog 48 #[.slice a n c] w fun e w' => ∃ v, e = .returned v ∧ NewInts w xs v w' := by
  obtain ⟨i0, hi, hz0, hz1, hz2⟩ := info_parts infoInt
  rcases hr with ⟨rfl, rfl⟩ | ⟨x, rfl, hcell⟩
  · obtain rfl : n = 0 := hx.symm
    obtain rfl := hnc rfl
    have he := eqNil w
    go_enter Try.func48, Try.ntmps48
    go_wp2
    go_ret
    exact ⟨_, rfl, World.ownsRow_nil _ _ _ _, Below.refl _ _⟩
  · have hr : RowK .i64 w (some x) xs := .inr ⟨x, rfl, hcell⟩
    have hb0 : ∀ o, Below w.heap.size w (w.alloc o) := fun o => (Below.refl _ _).grown (World.grownBy_alloc w o none) (Nat.le_refl _) (fun k hk => by cases hk)
    have HR := hide (fun o => hr.below (hb0 o))
    have HX := hide hx
    clear hr hcell hx hnc
    have he := neNil w x n c
    go_enter Try.func48, Try.ntmps48
    go_wp2_with (at_builtin; refine wpList_append_row _ rfl (.tmp 5) (.tmp 6) 22 rfl .i64 w.heap.size 3 i0 (.int .i64 0) 8 Try.underlying22 hi hz0 hz1 hz2 rfl _ 0 [] rfl (World.ownsRow_made w #[] 0 (Nat.le_refl _) (by decide) (by simp)) (some x) n c xs rfl HX.out (HR.out _) (fun e => by cases e) (by unfold maxLen; omega) (by omega) (by simp) ?_; intro v1 w1 hown hg1)
    go_ret
    refine ⟨v1, rfl, ?_, below_grow (hb0 _) hg1 (by simp) (fun k hk => by cases hk; exact Nat.le_refl _)⟩
    have e := HX.out
    rw [Nat.zero_add, List.nil_append] at hown
    rw [e]
    exact hown
end Go.Proofs.Ytcbgnmkipbhncaa
