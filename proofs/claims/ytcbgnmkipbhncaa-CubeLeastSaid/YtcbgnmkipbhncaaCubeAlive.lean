/-
  THE WALK of the laws' own 'alive'.
-/
import Derived.Test.YtcbgnmkipbhncaaCubeResolve
namespace Go.Proofs.Ytcbgnmkipbhncaa
open Go.RowKit

theorem row_two {W : World} {g : Nat} {x y : Int} (h0 : W.cell? ⟨g, 0, none⟩ = some (.int .i64 x)) (h1 : W.cell? ⟨g, 1, none⟩ = some (.int .i64 y)) : RowK .i64 W (some ⟨g, 0, none⟩) [x, y] := by
  refine .inr ⟨_, rfl, fun i hi => ?_⟩
  rw [add_plain, Nat.zero_add]
  match i, hi with
  | 0, _ => exact h0
  | 1, _ => exact h1

theorem res12 : resB [1, 2] [-1, 3] 1 = true ∧ resL [1, 2] [-1, 3] 1 = [2, 3] := by decide

set_option maxRecDepth 100000 in
set_option maxHeartbeats 1000000 in
theorem alive_any (w : World) : Calls Try.prog 9 #[] w fun e w' => e = .returned (.bool true) ∧ Below w.heap.size w w' := by
  have hA : Hid (∀ W : World, ∀ g h : Nat, W.cell? ⟨g, 0, none⟩ = some (.int .i64 1) → W.cell? ⟨g, 1, none⟩ = some (.int .i64 2) → W.cell? ⟨h, 0, none⟩ = some (.int .i64 (-1)) → W.cell? ⟨h, 1, none⟩ = some (.int .i64 3) →
      Calls Try.prog 21 #[.slice (some ⟨g, 0, none⟩) 2 2, .slice (some ⟨h, 0, none⟩) 2 2, .int .i64 1] W (ResPost W [1, 2] [-1, 3] 1)) := fun W g h q1 q2 q3 q4 =>
    resolve_any _ _ 2 2 2 2 [1, 2] [-1, 3] 1 W (row_two q1 q2) rfl (fun e => by cases e) (row_two q3 q4) rfl (fun e => by cases e) (by decide) (by decide) (by decide)
  go_enter Try.func9, Try.ntmps9
  go_wp2_with fail
  refine (hA.out _ w.heap.size (w.heap.size + 1) (by simp) (by simp) (by simp) (by simp)).mono ?_
  rintro e w2 ⟨u, rfl, hn⟩
  rw [res12.1]
  rw [res12.2] at hn
  obtain ⟨hown, hb⟩ := hn
  have hbel : Below w.heap.size w w2 := by
    have h1 : Below w.heap.size w (w.alloc (.cells #[.int .i64 1, .int .i64 2] 3)) := (Below.refl _ _).grown (World.grownBy_alloc w _ none) (Nat.le_refl _) (fun k hk => by cases hk)
    have h2 := h1.grown (World.grownBy_alloc (w.alloc (.cells #[.int .i64 1, .int .i64 2] 3)) (.cells #[.int .i64 (-1), .int .i64 3] 3) none) (by simp) (fun k hk => by cases hk)
    exact h2.trans (hb.mono h2.size)
  obtain ⟨a, c, rfl, hrow, -, -, -, -⟩ := row_of_own hown
  obtain ⟨g, off, rfl, -, hcell⟩ := hrow.addr (by decide)
  have hc0 : w2.cell? ⟨g, off, none⟩ = some (.int .i64 2) := hcell 0 (by decide)
  have hc1 : w2.cell? ⟨g, off + 1, none⟩ = some (.int .i64 3) := hcell 1 (by decide)
  clear hcell hrow hown hb hA
  go_wp2
  go_ret
  exact ⟨rfl, hbel⟩
end Go.Proofs.Ytcbgnmkipbhncaa
