/-
  What the reference's Check asks is what the program's asks: no function of the program.
-/
import Derived.Test.YtppaifckiaaffaaRefKinds
import Derived.Test.YtppaifckiaaffaaRefSmall
import Derived.Test.YtppaifckiaaffaaRefUses
import Derived.Test.YtppaifckiaaffaaRefArgs
import Derived.Test.YtppaifckiaaffaaRefSortW
import Derived.Deep.Cut
import Derived.BigQuiet
namespace Go.Proofs.Ytppaifckiaaffaa
open Go.RowKit

theorem known_same {C : Circ} {n : Nat} {ks : List Int} (hL : Lits C) (hn : n = C.max.toNat + 1) (hK : Kd n C.kindT ks) : C.usesL.all (knowB ks) = C.knownB := by
  rw [uses_all]
  unfold Circ.knownB
  rw [Bool.eq_iff_iff, List.all_eq_true, List.all_eq_true]
  have key : ∀ l ∈ C.used, (knowB ks l = true ↔ (decide (varN l = 0) || decide (varN l ∈ C.vars)) = true) := fun l hl => by
    have h := hL.lit l hl
    have hm := hL.max
    have hv : varN l < n := by unfold varN; omega
    have h0 := hK.none _ hv
    rw [kindT_vars] at h0
    unfold knowB
    by_cases h1 : 1 < l
    · have hz : varN l ≠ 0 := by unfold varN; omega
      rw [decide_eq_true h1, decide_eq_false hz, Bool.true_and, Bool.false_or]
      by_cases hi : varN l ∈ C.vars
      · rw [decide_eq_true hi, decide_eq_false (fun e => h0.1 e hi)]; simp
      · rw [decide_eq_false hi, decide_eq_true (h0.2 hi)]; simp
    · have hz : varN l = 0 := by unfold varN; omega
      rw [decide_eq_false h1, decide_eq_true hz]; simp
  exact ⟨fun h l hl => (key l hl).1 (h l hl), fun h l hl => (key l hl).2 (h l hl)⟩

theorem uses_low {C : Circ} {n : Nat} (hL : Lits C) (hn : n = C.max.toNat + 1) : ∀ l ∈ C.usesL, varN l < n := fun l hl => by
  have h := hL.lit l ((uses_mem C l).1 hl)
  have hm := hL.max
  unfold varN; omega

theorem kind_three {C : Circ} {n : Nat} {ks : List Int} (hK : Kd n C.kindT ks) (ho : C.onceB = true) : ∀ v, v < n → (atP ks v = 3 ↔ v ∈ C.gates) := fun v hv => by
  have hnd : (C.kindT.map (·.1)).Nodup := by
    rw [kindT_vars]
    unfold Circ.onceB at ho
    exact of_decide_eq_true ho
  have hk := hK.kind hnd
  constructor
  · intro h3
    have hm : v ∈ C.kindT.map (·.1) := by
      refine Decidable.byContradiction (fun hc => ?_)
      have := (hK.none v hv).2 hc
      omega
    obtain ⟨t, ht, rfl⟩ := List.mem_map.1 hm
    have h2 := hk t ht
    rw [h3] at h2
    unfold Circ.kindT at ht
    rcases List.mem_append.1 ht with ht | ht
    · rcases List.mem_append.1 ht with ht | ht
      · obtain ⟨x, -, rfl⟩ := List.mem_map.1 ht
        simp [kI] at h2
      · obtain ⟨x, -, rfl⟩ := List.mem_map.1 ht
        simp [kL] at h2
    · obtain ⟨x, hx, rfl⟩ := List.mem_map.1 ht
      exact List.mem_map.2 ⟨x, hx, rfl⟩
  · intro hg
    obtain ⟨x, hx, rfl⟩ := List.mem_map.1 hg
    exact hk (kA x) (by unfold Circ.kindT; exact List.mem_append_right _ (List.mem_map.2 ⟨x, hx, rfl⟩))


theorem nodup_key (ts : List (Int × Int)) (v : Int × Int) : decide ((ts ++ [v]).Nodup) = (decide ts.Nodup && decide (v ∉ ts)) := by
  rw [Bool.eq_iff_iff]
  simp only [decide_eq_true_eq, Bool.and_eq_true]
  constructor
  · intro h
    obtain ⟨h1, -, h3⟩ := List.nodup_append.1 h
    exact ⟨h1, fun hm => h3 v hm v (by simp) rfl⟩
  · rintro ⟨h1, h2⟩
    exact List.nodup_append.2 ⟨h1, List.nodup_cons.2 ⟨List.not_mem_nil, List.nodup_nil⟩, fun a ha b hb e => by rw [List.mem_singleton] at hb; subst hb; subst e; exact h2 ha⟩
theorem key_take (C : Circ) (k : Nat) (h : k < C.names.length) : C.keys.take (k + 1) = C.keys.take k ++ [((atP C.names k).1, (atP C.names k).2.1)] := by
  unfold Circ.keys
  rw [← List.map_take, ← List.map_take, map_take _ _ _ h]
theorem key_in (ts : List (Int × Int)) (u v : Int × Int) : decide (v ∉ ts ++ [u]) = (decide (v ∉ ts) && decide (v ≠ u)) := by
  rw [Bool.eq_iff_iff]
  simp

theorem long_not {C : Circ} (h1 : C.ins.length ≤ 64) (h2 : C.lats.length ≤ 64) (h3 : C.outs.length ≤ 64) (h4 : C.bads.length ≤ 64) (h5 : C.cons.length ≤ 64) (hm : C.max ≤ 5000) (h6 : C.ands.length ≤ 2000) : C.longB = decide (C.ins.length + C.lats.length + C.outs.length + C.bads.length + C.cons.length < C.names.length) := by
  unfold Circ.longB
  have hs : C.ports.sum = C.ins.length + C.lats.length + C.outs.length + C.bads.length + C.cons.length := by
    show C.ins.length + (C.lats.length + (C.outs.length + (C.bads.length + (C.cons.length + 0)))) = _
    omega
  rw [hs]
  unfold Circ.ports
  simp only [List.any_cons, List.any_nil]
  rw [decide_eq_false (show ¬ 64 < C.ins.length by omega), decide_eq_false (show ¬ 64 < C.lats.length by omega), decide_eq_false (show ¬ 64 < C.outs.length by omega), decide_eq_false (show ¬ 64 < C.bads.length by omega), decide_eq_false (show ¬ 64 < C.cons.length by omega), decide_eq_false (show ¬ 5000 < C.max by omega), decide_eq_false (show ¬ 2000 < C.ands.length by omega)]
  rfl
theorem long_yes {C : Circ} (h : 64 < C.ins.length ∨ 64 < C.lats.length ∨ 64 < C.outs.length ∨ 64 < C.bads.length ∨ 64 < C.cons.length ∨ 5000 < C.max ∨ 2000 < C.ands.length) : C.longB = true := by
  unfold Circ.longB Circ.ports
  simp only [List.any_cons, List.any_nil, Bool.or_eq_true, decide_eq_true_eq]
  omega
end Go.Proofs.Ytppaifckiaaffaa
