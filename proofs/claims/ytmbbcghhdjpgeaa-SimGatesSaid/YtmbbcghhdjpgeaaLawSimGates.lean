/-
  THE WALK of the law SimGates.
-/
import Derived.Test.YtmbbcghhdjpgeaaSimF
namespace Go.Proofs.Ytmbbcghhdjpgeaa
open Go.RowKit

def gateC (a b : Nat) : Circ := ⟨3, [2, 4], [], [6, 7], [], [], [(6, (a : Int), (b : Int))], []⟩
def gateL (x y : Bool) : List Bool := [false, true, x, !x, y, !y]
theorem gate_all : ∀ a, a < 6 → ∀ b, b < 6 → ∀ x y : Bool, (gateC a b).stepI [] [x, y] = 0 ∧ ((gateC a b).stepE [] [x, y]).outs = [atP (gateL x y) a && atP (gateL x y) b, !(atP (gateL x y) a && atP (gateL x y) b)] ∧ ((gateC a b).stepE [] [x, y]).holds = true := by decide +kernel
def gateV (p : Nat) : CV := ⟨3, some ⟨p, 0, none⟩, 2, 2, none, 0, 0, some ⟨p + 1, 0, none⟩, 2, 2, none, 0, 0, none, 0, 0, some ⟨p + 1 + 1, 0, none⟩, 1, 1, none, 0, 0⟩

theorem gate_holds (W W' : World) (a b : Nat) (hb : Below (((W.alloc (.cells #[.int .i64 2, .int .i64 4] 3)).alloc (.cells #[.int .i64 6, .int .i64 7] 3)).alloc (.cells #[.int .i64 6, .int .i64 (a : Int), .int .i64 (b : Int)] 58)).heap.size (((W.alloc (.cells #[.int .i64 2, .int .i64 4] 3)).alloc (.cells #[.int .i64 6, .int .i64 7] 3)).alloc (.cells #[.int .i64 6, .int .i64 (a : Int), .int .i64 (b : Int)] 58)) W') : Holds W' (gateV W.heap.size) (gateC a b) := by
  have e1 : (W.alloc (.cells #[.int .i64 2, .int .i64 4] 3)).heap.size = W.heap.size + 1 := by simp
  have e2 : ((W.alloc (.cells #[.int .i64 2, .int .i64 4] 3)).alloc (.cells #[.int .i64 6, .int .i64 7] 3)).heap.size = W.heap.size + 1 + 1 := by simp
  have r1 : RowC W' (some ⟨W.heap.size, 0, none⟩) [.int .i64 2, .int .i64 4] := RowC.below (RowC.below (RowC.below (.inr ⟨_, rfl, cell_two_at rfl _ _ _⟩) (below_alloc _ _)) (below_alloc _ _)) hb
  have r2 : RowC W' (some ⟨W.heap.size + 1, 0, none⟩) [.int .i64 6, .int .i64 7] := RowC.below (RowC.below (.inr ⟨_, rfl, cell_two_at (by rw [e1]) _ _ _⟩) (below_alloc _ _)) hb
  have r3 : RowC W' (some ⟨W.heap.size + 1 + 1, 0, none⟩) (cellsT [(6, (a : Int), (b : Int))]) := RowC.below (rowT_lit [(6, (a : Int), (b : Int))] 58 (by rw [e2])) hb
  exact ⟨rfl, rowK_of_C (xs := [2, 4]) r1, rfl, (fun e => by cases e), .inl ⟨rfl, rfl⟩, rfl, fun _ => rfl, rowK_of_C (xs := [6, 7]) r2, rfl, (fun e => by cases e), .inl ⟨rfl, rfl⟩, rfl, fun _ => rfl, .inl ⟨rfl, rfl⟩, rfl, fun _ => rfl, r3, rfl, (fun e => by cases e), .inl ⟨rfl, rfl⟩, rfl, fun _ => rfl⟩

set_option maxRecDepth 100000 in
set_option maxHeartbeats 4000000 in
theorem simGates_any (a b : Int) (x y : Bool) (w : World) (_ha0 : -9223372036854775808 ≤ a) (_ha1 : a ≤ 9223372036854775807) (_hb0 : -9223372036854775808 ≤ b) (_hb1 : b ≤ 9223372036854775807) :
    Calls Try.prog 8 #[.int .i64 a, .int .i64 b, .bool x, .bool y] w fun e w' => e = .returned (.bool true) ∧ Below w.heap.size w w' := by
  go_enter Try.func8, Try.ntmps8
  go_wp2_with fail
  refine (alive8_any _).mono ?_
  rintro e w1 ⟨rfl, hb1⟩
  have W1 := hide hb1
  clear hb1
  by_cases h1 : a < 0
  · go_wp2
    go_ret
    exact ⟨rfl, W1.out⟩
  · by_cases h2 : 5 < a
    · go_wp2
      go_ret
      exact ⟨rfl, W1.out⟩
    · by_cases h3 : b < 0
      · go_wp2
        go_ret
        exact ⟨rfl, W1.out⟩
      · by_cases h4 : 5 < b
        · go_wp2
          go_ret
          exact ⟨rfl, W1.out⟩
        · obtain ⟨A, rfl⟩ : ∃ A : Nat, a = (A : Int) := ⟨a.toNat, by omega⟩
          obtain ⟨B, rfl⟩ : ∃ B : Nat, b = (B : Int) := ⟨b.toNat, by omega⟩
          have hA : A < 6 := by omega
          have hB : B < 6 := by omega
          obtain ⟨g1, g2, g3⟩ := gate_all A hA B hB x y
          have HST : Hid (∀ W' b0 : _, ∀ W : World, Below (((W.alloc (.cells #[.int .i64 2, .int .i64 4] 3)).alloc (.cells #[.int .i64 6, .int .i64 7] 3)).alloc (.cells #[.int .i64 6, .int .i64 (A : Int), .int .i64 (B : Int)] 58)).heap.size (((W.alloc (.cells #[.int .i64 2, .int .i64 4] 3)).alloc (.cells #[.int .i64 6, .int .i64 7] 3)).alloc (.cells #[.int .i64 6, .int .i64 (A : Int), .int .i64 (B : Int)] 58)) W' → RowB W' (some ⟨b0, 0, none⟩) [x, y] →
              Calls Try.prog 17 #[.agg #[.int .i64 3, .slice (some ⟨W.heap.size, 0, none⟩) 2 2, .slice none 0 0, .slice (some ⟨W.heap.size + 1, 0, none⟩) 2 2, .slice none 0 0, .slice none 0 0, .slice (some ⟨W.heap.size + 1 + 1, 0, none⟩) 1 1, .slice none 0 0], .slice none 0 0, .slice (some ⟨b0, 0, none⟩) 2 2] W' fun e w' => ∃ a1 n1 c1 b2 o2 c2 a3 n3 c3, e = .returned (.tuple #[.agg #[.slice a1 n1 c1, .slice (some ⟨b2, o2, none⟩) 2 c2, .slice a3 n3 c3, .bool true], .int .i64 0]) ∧ b2 < w'.heap.size ∧ w'.cell? ⟨b2, o2 + 0, none⟩ = some (.bool (atP (gateL x y) A && atP (gateL x y) B)) ∧ w'.cell? ⟨b2, o2 + 1, none⟩ = some (.bool (!(atP (gateL x y) A && atP (gateL x y) B))) ∧ Below W'.heap.size W' w') := fun W' b0 W hbl hr => by
            have := step_any (gateV W.heap.size) (gateC A B) W' none (some ⟨b0, 0, none⟩) 0 0 2 2 [] [x, y] (gate_holds W W' A B hbl) ⟨(by show (2 : Nat) ≤ _; decide), Nat.zero_le _, (by show (2 : Nat) ≤ _; decide), Nat.zero_le _, Nat.zero_le _, (by show (-9223372036854775808 : Int) ≤ 3; decide), fun s hs => by cases hs⟩ (.inl ⟨rfl, rfl⟩) rfl hr rfl
            refine this.mono (fun e w' hh => ?_)
            obtain ⟨r, rfl, hr2, hb2⟩ := hh
            have l2 := hr2.l2
            have r2 := hr2.r2
            rw [g2] at l2 r2
            obtain ⟨b2, o2, ea, hlt, hc⟩ := r2.addr (by simp)
            refine ⟨r.a1, r.n1, r.c1, b2, o2, r.c2, r.a3, r.n3, r.c3, ?_, hlt, hc 0 (by simp), hc 1 (by simp), hb2⟩
            rw [g1]
            unfold RV.v
            rw [← hr2.h, g3, ea, ← l2]
            rfl
          have hvA : Hid (∀ W : World, (W.alloc (.cells #[.bool false, .bool true, .bool x, .bool (!x), .bool y, .bool (!y)] 4)).cell? ⟨W.heap.size, A, none⟩ = some (.bool (atP (gateL x y) A))) := fun W => by
            rw [cell_of_row _ _ A _ _ (0, 0) (heap_alloc_new W _)]
            have : A = 0 ∨ A = 1 ∨ A = 2 ∨ A = 3 ∨ A = 4 ∨ A = 5 := by omega
            rcases this with rfl | rfl | rfl | rfl | rfl | rfl <;> rfl
          have hvB : Hid (∀ W : World, (W.alloc (.cells #[.bool false, .bool true, .bool x, .bool (!x), .bool y, .bool (!y)] 4)).cell? ⟨W.heap.size, B, none⟩ = some (.bool (atP (gateL x y) B))) := fun W => by
            rw [cell_of_row _ _ B _ _ (0, 0) (heap_alloc_new W _)]
            have : B = 0 ∨ B = 1 ∨ B = 2 ∨ B = 3 ∨ B = 4 ∨ B = 5 := by omega
            rcases this with rfl | rfl | rfl | rfl | rfl | rfl <;> rfl
          generalize atP (gateL x y) A = vA at HST hvA
          generalize atP (gateL x y) B = vB at HST hvB
          have k0 : (0 : Int) ≤ (A : Int) := by omega
          have k1 : (A : Int) < 6 := by omega
          have k2 : (0 : Int) ≤ (B : Int) := by omega
          have k3 : (B : Int) < 6 := by omega
          clear g1 g2 g3
          go_wp2_with fail
          refine (HST.out _ _ w1 (belowThen (below_alloc _ _) (below_alloc _ _)) (.inr ⟨_, rfl, cell_two_at (by simp) _ _ _⟩)).mono ?_
          rintro e w5 ⟨a1, n1, c1, b2, o2, c2, a3, n3, c3, rfl, hlt, hc0, hc1, hb5⟩
          have W5 := hide (belowThen W1.out (belowThen (belowThen (belowThen (belowThen (belowThen (below_alloc w1 _) (below_alloc _ _)) (below_alloc _ _)) (below_alloc _ _)) (below_alloc _ _)) hb5))
          have es : (w5.alloc (.cells #[.slice a1 n1 c1, .slice (some ⟨b2, o2, none⟩) 2 c2, .slice a3 n3 c3, .bool true] 37)).heap.size = w5.heap.size + 1 := by simp
          have m1 := hvA.out (w5.alloc (.cells #[.slice a1 n1 c1, .slice (some ⟨b2, o2, none⟩) 2 c2, .slice a3 n3 c3, .bool true] 37))
          have m2 := hvB.out (w5.alloc (.cells #[.slice a1 n1 c1, .slice (some ⟨b2, o2, none⟩) 2 c2, .slice a3 n3 c3, .bool true] 37))
          rw [es] at m1 m2
          have hbel := belowThen (below_alloc w5 (.cells #[.slice a1 n1 c1, .slice (some ⟨b2, o2, none⟩) 2 c2, .slice a3 n3 c3, .bool true] 37)) (below_alloc (w5.alloc (.cells #[.slice a1 n1 c1, .slice (some ⟨b2, o2, none⟩) 2 c2, .slice a3 n3 c3, .bool true] 37)) (.cells #[.bool false, .bool true, .bool x, .bool (!x), .bool y, .bool (!y)] 4))
          have z0 := (hbel.cell (p := ⟨b2, o2 + 0, none⟩) hlt).trans hc0
          rw [Nat.add_zero] at z0
          have z1 := (hbel.cell (p := ⟨b2, o2 + 1, none⟩) hlt).trans hc1
          have X5 : RBox ((w5.alloc (.cells #[.slice a1 n1 c1, .slice (some ⟨b2, o2, none⟩) 2 c2, .slice a3 n3 c3, .bool true] 37)).alloc (.cells #[.bool false, .bool true, .bool x, .bool (!x), .bool y, .bool (!y)] 4)) w5.heap.size ⟨a1, n1, c1, some ⟨b2, o2, none⟩, 2, c2, a3, n3, c3, true⟩ := (rbox_new w5 ⟨a1, n1, c1, some ⟨b2, o2, none⟩, 2, c2, a3, n3, c3, true⟩).below (below_alloc _ _)
          obtain ⟨p0, p1, p2, p3⟩ := X5.cells
          dsimp only at p0 p1 p2 p3
          have hend := hide (belowThen W5.out hbel)
          clear X5 hbel hc0 hc1 hb5 W5 W1 HST hvA hvB hlt es
          cases vA <;> cases vB
          all_goals go_wp2_with (first | (go_at_call 20; refine (num8_any _ _).mono ?_; rintro e w' ⟨rfl, hw'⟩; obtain rfl := hw'.symm))
          all_goals go_ret
          all_goals exact ⟨rfl, hend.out⟩
end Go.Proofs.Ytmbbcghhdjpgeaa
