/-
  What the reference's Check asks is what the program's asks: no function of the program.
-/
import Derived.Test.YtldodaejfipebaaRefKinds
import Derived.Test.YtldodaejfipebaaRefSmall
import Derived.Test.YtldodaejfipebaaRefUses
namespace Go.Proofs.Ytldodaejfipebaa
open Go.RowKit

theorem known_same {C : Circ} {n : Nat} {ks : List Int} (hL : Lits C) (hn : n = C.max.toNat + 1) (hK : Kd n C.kindT ks) : C.usesL.all (knowB ks) = C.knownB := by
  rw [uses_all]
  unfold Circ.knownB
  rw [Bool.eq_iff_iff, List.all_eq_true, List.all_eq_true]
  have key : ∀ l ∈ C.used, (knowB ks l = true ↔ (decide (varN l = 0) || decide (varN l ∈ C.vars)) = true) := fun l hl => by
    have h := hL.lit l hl
    have hm := hL.max
    have hv : varN l < n := by unfold varN; omega
    have h0 := hK.none _ hv
    rw [kindT_vars] at h0
    unfold knowB
    by_cases h1 : 1 < l
    · have hz : varN l ≠ 0 := by unfold varN; omega
      rw [decide_eq_true h1, decide_eq_false hz, Bool.true_and, Bool.false_or]
      by_cases hi : varN l ∈ C.vars
      · rw [decide_eq_true hi, decide_eq_false (fun e => h0.1 e hi)]; simp
      · rw [decide_eq_false hi, decide_eq_true (h0.2 hi)]; simp
    · have hz : varN l = 0 := by unfold varN; omega
      rw [decide_eq_false h1, decide_eq_true hz]; simp
  exact ⟨fun h l hl => (key l hl).1 (h l hl), fun h l hl => (key l hl).2 (h l hl)⟩

theorem uses_low {C : Circ} {n : Nat} (hL : Lits C) (hn : n = C.max.toNat + 1) : ∀ l ∈ C.usesL, varN l < n := fun l hl => by
  have h := hL.lit l ((uses_mem C l).1 hl)
  have hm := hL.max
  unfold varN; omega

theorem kind_three {C : Circ} {n : Nat} {ks : List Int} (hK : Kd n C.kindT ks) (ho : C.onceB = true) : ∀ v, v < n → (atP ks v = 3 ↔ v ∈ C.gates) := fun v hv => by
  have hnd : (C.kindT.map (·.1)).Nodup := by
    rw [kindT_vars]
    unfold Circ.onceB at ho
    exact of_decide_eq_true ho
  have hk := hK.kind hnd
  constructor
  · intro h3
    have hm : v ∈ C.kindT.map (·.1) := by
      refine Decidable.byContradiction (fun hc => ?_)
      have := (hK.none v hv).2 hc
      omega
    obtain ⟨t, ht, rfl⟩ := List.mem_map.1 hm
    have h2 := hk t ht
    rw [h3] at h2
    unfold Circ.kindT at ht
    rcases List.mem_append.1 ht with ht | ht
    · rcases List.mem_append.1 ht with ht | ht
      · obtain ⟨x, -, rfl⟩ := List.mem_map.1 ht
        simp [kI] at h2
      · obtain ⟨x, -, rfl⟩ := List.mem_map.1 ht
        simp [kL] at h2
    · obtain ⟨x, hx, rfl⟩ := List.mem_map.1 ht
      exact List.mem_map.2 ⟨x, hx, rfl⟩
  · intro hg
    obtain ⟨x, hx, rfl⟩ := List.mem_map.1 hg
    exact hk (kA x) (by unfold Circ.kindT; exact List.mem_append_right _ (List.mem_map.2 ⟨x, hx, rfl⟩))
end Go.Proofs.Ytldodaejfipebaa
