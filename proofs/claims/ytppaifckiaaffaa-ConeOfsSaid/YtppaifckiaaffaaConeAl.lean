/-
  THE WALKS of the laws' own functions of layer 10: num, alive; what two Ofs tell.
-/
import Derived.Test.YtppaifckiaaffaaConeOf
import Derived.Test.YtppaifckiaaffaaAliveC
namespace Go.Proofs.Ytppaifckiaaffaa
open Go.RowKit

set_option maxHeartbeats 400000 in
theorem num10_any (n : Int) (w : World) : Calls Try.prog 32 #[.int .i64 n] w fun e w' => e = .returned (.int .i64 n) ∧ w' = w := by
  go_enter Try.func32, Try.ntmps32
  go_wp2
  go_ret
  exact ⟨rfl, rfl⟩

/-- Which list it is. -/
def IsCone (C : Circ) (L : List Int) (xs : List Int) : Prop := (C.ofI L ≠ 0 ∧ xs = []) ∨ (C.ofI L = 0 ∧ ∃ fd, Full C L (C.max.toNat + 1) fd ∧ xs = coneL fd)
theorem isCone_one {C : Circ} {L xs ys : List Int} (h : IsCone C L xs) (k : IsCone C L ys) : xs = ys := by
  rcases h with ⟨h1, rfl⟩ | ⟨h1, fd, h2, rfl⟩
  · rcases k with ⟨_, rfl⟩ | ⟨k1, _⟩
    · rfl
    · exact absurd k1 h1
  · rcases k with ⟨k1, _⟩ | ⟨_, gd, k2, rfl⟩
    · exact absurd h1 k1
    · rw [full_one h2 k2]
theorem ofI_check {C : Circ} {L : List Int} (h : C.ofI L = 0) : C.checkI = 0 := by
  unfold Circ.ofI at h
  split at h
  · exact h
  · rename_i h1
    exact Decidable.not_not.1 h1
theorem isCone_len {C : Circ} {L xs : List Int} (h : IsCone C L xs) : xs.length ≤ 10000 := by
  rcases h with ⟨_, rfl⟩ | ⟨h1, fd, h2, rfl⟩
  · exact Nat.zero_le _
  · have h3 := coneK_len fd fd.length
    have h4 := (right_of (ofI_check h1)).small.max
    have h5 := h2.1
    unfold coneL
    omega

theorem cone_rows {w : World} {C : Circ} {L : List Int} {e : Ending} {w' : World} (h : ConePost w C L e w') : ∃ a n k xs, e = .returned (.tuple #[.slice a n k, .int .i64 (C.ofI L)]) ∧ RowK .i64 w' a xs ∧ xs.length = n ∧ IsCone C L xs ∧ Below w.heap.size w w' := by
  obtain ⟨hb, ⟨h0, rfl⟩ | ⟨h0, fd, a, k, hf, rfl, hn⟩⟩ := h
  · exact ⟨none, 0, 0, [], rfl, .inl ⟨rfl, rfl⟩, rfl, .inl ⟨h0, rfl⟩, hb⟩
  · obtain ⟨a', c', e, hr, -⟩ := row_of_own hn.1
    cases e
    exact ⟨a, _, k, _, by rw [h0], hr, rfl, .inr ⟨h0, fd, hf, rfl⟩, hb⟩

theorem alive_full : Full aliveC [5] 3 [false, true, true] := by
  have h2 : aliveC.Hang [5] 2 := hang_lit (l := 5) (by simp) (by decide)
  have ho : aliveC.On 2 2 := .inr ⟨0, by decide, by decide, .inl (by decide)⟩
  have h1 : aliveC.Hang [5] 1 := hang_on (l := 2) h2 ho (by decide)
  refine ⟨rfl, fun v hv => ?_⟩
  rcases (by omega : v = 0 ∨ v = 1 ∨ v = 2) with rfl | rfl | rfl
  · exact ⟨(fun h => by cases h), fun h => absurd rfl (hang_ne h)⟩
  · exact ⟨fun _ => h1, fun _ => rfl⟩
  · exact ⟨fun _ => h2, fun _ => rfl⟩

def aliveX (W : World) : World := ((W.alloc (.cells #[.int .i64 2] 3)).alloc (.cells #[.int .i64 4, .int .i64 2, .int .i64 1] 46)).alloc (.cells #[.int .i64 5] 3)
theorem aliveX_below (W : World) : Below W.heap.size W (aliveX W) := belowThen (belowThen (below_alloc W _) (below_alloc _ _)) (below_alloc _ _)
theorem aliveX_holds (W : World) : Holds (aliveX W) (aliveV W.heap.size) aliveC ∧ RowK .i64 (aliveX W) (some ⟨W.heap.size + 2, 0, none⟩) [5] := by
  have e1 : (W.alloc (.cells #[.int .i64 2] 3)).heap.size = W.heap.size + 1 := by simp
  have e2 : ((W.alloc (.cells #[.int .i64 2] 3)).alloc (.cells #[.int .i64 4, .int .i64 2, .int .i64 1] 46)).heap.size = W.heap.size + 2 := by simp
  have r1 : RowC (aliveX W) (some ⟨W.heap.size, 0, none⟩) [.int .i64 2] := RowC.below (RowC.below (.inr ⟨_, rfl, cell_one_at rfl _ _⟩) (below_alloc _ _)) (below_alloc _ _)
  have r2 : RowC (aliveX W) (some ⟨W.heap.size + 1, 0, none⟩) (cellsT [(4, 2, 1)]) := RowC.below (rowT_lit [(4, 2, 1)] 46 (by rw [e1])) (below_alloc _ _)
  refine ⟨⟨rfl, rowK_of_C (xs := [2]) r1, rfl, (fun e => by cases e), .inl ⟨rfl, rfl⟩, rfl, fun _ => rfl, .inl ⟨rfl, rfl⟩, rfl, fun _ => rfl, .inl ⟨rfl, rfl⟩, rfl, fun _ => rfl, .inl ⟨rfl, rfl⟩, rfl, fun _ => rfl, r2, rfl, (fun e => by cases e), .inl ⟨rfl, rfl⟩, rfl, fun _ => rfl⟩, ?_⟩
  exact rowK_of_C (xs := [5]) (.inr ⟨_, rfl, cell_one_at (by rw [e2]) _ _⟩)

set_option maxRecDepth 100000 in
set_option maxHeartbeats 2000000 in
theorem alive10_any (w : World) : Calls Try.prog 29 #[] w fun e w' => e = .returned (.bool true) ∧ Below w.heap.size w w' := by
  have h1 : Hid (Calls Try.prog 30 #[.agg #[.int .i64 2, .slice (some ⟨w.heap.size, 0, none⟩) 1 1, .slice none 0 0, .slice none 0 0, .slice none 0 0, .slice none 0 0, .slice (some ⟨w.heap.size + 1, 0, none⟩) 1 1, .slice none 0 0], .slice (some ⟨w.heap.size + 1 + 1, 0, none⟩) 1 1] (((w.alloc (.cells #[.int .i64 2] 3)).alloc (.cells #[.int .i64 4, .int .i64 2, .int .i64 1] 46)).alloc (.cells #[.int .i64 5] 3)) fun e w' => ∃ g k, e = .returned (.tuple #[.slice (some ⟨g, 0, none⟩) 2 k, .int .i64 0]) ∧ w'.cell? ⟨g, 0, none⟩ = some (.int .i64 1) ∧ w'.cell? ⟨g, 1, none⟩ = some (.int .i64 2) ∧ Below w.heap.size w w') := by
    have := of_any (aliveV w.heap.size) aliveC (aliveX w) (some ⟨w.heap.size + 2, 0, none⟩) 1 1 [5] (aliveX_holds w).1 ⟨(by show (1 : Nat) ≤ _; decide), Nat.zero_le _, Nat.zero_le _, Nat.zero_le _, Nat.zero_le _, (by show (-9223372036854775808 : Int) ≤ 2; decide), fun s hs => by cases hs⟩ (aliveX_holds w).2 rfl (fun l hl => by rw [List.mem_singleton] at hl; subst hl; exact ⟨by decide, by decide⟩) (by decide)
    refine this.mono (fun e w' hh => ?_)
    have e1 : aliveC.ofI [5] = 0 := by decide
    obtain ⟨hb, ⟨h0, -⟩ | ⟨-, fd, a, k, hf, rfl, hn⟩⟩ := hh
    · exact absurd e1 h0
    · have e2 : fd = [false, true, true] := full_one hf alive_full
      subst e2
      have e3 : coneL [false, true, true] = [1, 2] := by decide
      rw [e3] at hn ⊢
      rcases hn.1.2 with ⟨_, e⟩ | ⟨g, cap, cur, e, -⟩
      · cases e
      · cases e
        exact ⟨g, k, rfl, row_at hn.1 0 (by decide), row_at hn.1 1 (by decide), belowThen (aliveX_below w) hb⟩
  go_enter Try.func29, Try.ntmps29
  go_wp2_with fail
  refine h1.out.mono ?_
  rintro e w5 ⟨g, k, rfl, hc0, hc1, hb5⟩
  have HB5 := hide hb5
  clear h1 hb5
  go_wp2_with (go_at_call 32; refine (num10_any _ _).mono ?_; rintro e w' ⟨rfl, hw'⟩; obtain rfl := hw'.symm)
  go_ret
  exact ⟨rfl, HB5.out⟩

theorem i64_of {xs : List Int} (h : ∀ n ∈ xs, (Lit.int .i64 n).wf = true) : ∀ n ∈ xs, I64 n := fun n hn => bounds_i64 (h n hn)
end Go.Proofs.Ytppaifckiaaffaa
