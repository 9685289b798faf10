/-
  Words for the walk of the reference's Check: no function of the program.
-/
import Derived.Test.YtldodaejfipebaaRefCheckP
import Derived.Test.YtldodaejfipebaaRefArgs
import Derived.Test.YtldodaejfipebaaRefSortW
import Derived.Deep.Cut
import Derived.BigQuiet
namespace Go.Proofs.Ytldodaejfipebaa
open Go.RowKit

theorem nodup_key (ts : List (Int × Int)) (v : Int × Int) : decide ((ts ++ [v]).Nodup) = (decide ts.Nodup && decide (v ∉ ts)) := by
  rw [Bool.eq_iff_iff]
  simp only [decide_eq_true_eq, Bool.and_eq_true]
  constructor
  · intro h
    obtain ⟨h1, -, h3⟩ := List.nodup_append.1 h
    exact ⟨h1, fun hm => h3 v hm v (by simp) rfl⟩
  · rintro ⟨h1, h2⟩
    exact List.nodup_append.2 ⟨h1, List.nodup_cons.2 ⟨List.not_mem_nil, List.nodup_nil⟩, fun a ha b hb e => by rw [List.mem_singleton] at hb; subst hb; subst e; exact h2 ha⟩
theorem key_take (C : Circ) (k : Nat) (h : k < C.names.length) : C.keys.take (k + 1) = C.keys.take k ++ [((atP C.names k).1, (atP C.names k).2.1)] := by
  unfold Circ.keys
  rw [← List.map_take, ← List.map_take, map_take _ _ _ h]
theorem key_in (ts : List (Int × Int)) (u v : Int × Int) : decide (v ∉ ts ++ [u]) = (decide (v ∉ ts) && decide (v ≠ u)) := by
  rw [Bool.eq_iff_iff]
  simp

theorem long_not {C : Circ} (h1 : C.ins.length ≤ 64) (h2 : C.lats.length ≤ 64) (h3 : C.outs.length ≤ 64) (h4 : C.bads.length ≤ 64) (h5 : C.cons.length ≤ 64) (hm : C.max ≤ 5000) (h6 : C.ands.length ≤ 2000) : C.longB = decide (C.ins.length + C.lats.length + C.outs.length + C.bads.length + C.cons.length < C.names.length) := by
  unfold Circ.longB
  have hs : C.ports.sum = C.ins.length + C.lats.length + C.outs.length + C.bads.length + C.cons.length := by
    show C.ins.length + (C.lats.length + (C.outs.length + (C.bads.length + (C.cons.length + 0)))) = _
    omega
  rw [hs]
  unfold Circ.ports
  simp only [List.any_cons, List.any_nil]
  rw [decide_eq_false (show ¬ 64 < C.ins.length by omega), decide_eq_false (show ¬ 64 < C.lats.length by omega), decide_eq_false (show ¬ 64 < C.outs.length by omega), decide_eq_false (show ¬ 64 < C.bads.length by omega), decide_eq_false (show ¬ 64 < C.cons.length by omega), decide_eq_false (show ¬ 5000 < C.max by omega), decide_eq_false (show ¬ 2000 < C.ands.length by omega)]
  rfl
theorem long_yes {C : Circ} (h : 64 < C.ins.length ∨ 64 < C.lats.length ∨ 64 < C.outs.length ∨ 64 < C.bads.length ∨ 64 < C.cons.length ∨ 5000 < C.max ∨ 2000 < C.ands.length) : C.longB = true := by
  unfold Circ.longB Circ.ports
  simp only [List.any_cons, List.any_nil, Bool.or_eq_true, decide_eq_true_eq]
  omega
end Go.Proofs.Ytldodaejfipebaa
