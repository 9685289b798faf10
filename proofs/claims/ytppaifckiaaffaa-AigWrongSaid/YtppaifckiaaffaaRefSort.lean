/-
  THE WALK of the reference's Sort.
-/
import Derived.Test.YtppaifckiaaffaaRefKinds
namespace Go.Proofs.Ytppaifckiaaffaa
open Go.RowKit

/-- What the reference asks of an And that it takes. -/
def Circ.freeB (C : Circ) (T : List Nat) (i : Nat) : Bool := !decide (i ∈ T) && C.readyB T i

theorem next_none' {C : Circ} {T : List Nat} (h : ∀ j, j < C.ands.length → C.freeB T j = false) : C.nextA T = none := by
  unfold Circ.nextA
  rw [List.find?_eq_none]
  intro i hi hp
  have := h i (List.mem_range.1 hi)
  unfold Circ.freeB at this
  rw [this] at hp
  cases hp

theorem next_some' {C : Circ} {T : List Nat} {x : Nat} (hx : x < C.ands.length) (h1 : C.freeB T x = true) (h : ∀ j, j < x → C.freeB T j = false) : C.nextA T = some x := by
  unfold Circ.nextA
  rw [List.find?_range_eq_some]
  refine ⟨h1, List.mem_range.2 hx, fun j hj => ?_⟩
  have := h j hj
  unfold Circ.freeB at this
  rw [this]; rfl

theorem ready_two (C : Circ) (T : List Nat) (i : Nat) (p q : Bool) (hp : p = (!decide (varN (atP C.ands i).2.1 ∈ C.gates) || decide (varN (atP C.ands i).2.1 ∈ T.map C.gateOf))) (hq : q = (!decide (varN (atP C.ands i).2.2 ∈ C.gates) || decide (varN (atP C.ands i).2.2 ∈ T.map C.gateOf))) : C.readyB T i = (p && q) := by
  unfold Circ.readyB Circ.waitsL Circ.sides
  rw [hp, hq]
  simp only [List.filter_cons, List.filter_nil]
  generalize decide (varN (atP C.ands i).2.1 ∈ C.gates) = a
  generalize decide (varN (atP C.ands i).2.1 ∈ T.map C.gateOf) = b
  generalize decide (varN (atP C.ands i).2.2 ∈ C.gates) = d
  generalize decide (varN (atP C.ands i).2.2 ∈ T.map C.gateOf) = e
  cases a <;> cases b <;> cases d <;> cases e <;> rfl

theorem free_two {C : Circ} {T : List Nat} {i : Nat} {t p q : Bool} (ht : t = decide (i ∈ T)) (hp : p = (!decide (varN (atP C.ands i).2.1 ∈ C.gates) || decide (varN (atP C.ands i).2.1 ∈ T.map C.gateOf))) (hq : q = (!decide (varN (atP C.ands i).2.2 ∈ C.gates) || decide (varN (atP C.ands i).2.2 ∈ T.map C.gateOf))) : C.freeB T i = (!t && (p && q)) := by
  unfold Circ.freeB
  rw [ready_two C T i p q hp hq, ht]

structure SMid (w0 : World) (c : CV) (C : Circ) (n gt Bo : Nat) (T : List Nat) (ds ts : List Bool) (v : Value) (wr : World) : Prop where
  box : Box wr w0.heap.size c
  od : wr.ownsRow (w0.heap.size + 1) 4 1 (.slice (some ⟨w0.heap.size + 1, 0, none⟩) n n) n (ds.map Value.bool)
  ot : wr.ownsRow (w0.heap.size + 1) 4 1 (.slice (some ⟨gt, 0, none⟩) c.n6 c.n6) c.n6 (ts.map Value.bool)
  ov : wr.ownsRow (Bo) 3 1 v T.length (T.map natV)
  below : Below w0.heap.size w0 wr
  big : Bo ≤ wr.heap.size
  ord : w0.heap.size + 1 < gt ∧ gt < Bo
  dn : ∀ u, u < n → atP ds u = decide (u ∈ T.map C.gateOf)
  tk : ∀ i, i < c.n6 → atP ts i = decide (i ∈ T)
  turn : C.turnA (C.ands.length - T.length) T = C.turn

/-- One more is taken. -/
theorem SMid.step {w0 wr w1 : World} {c : CV} {C : Circ} {n gt Bo x : Nat} {T : List Nat} {ds ts : List Bool} {v v1 : Value} {o : Obj} (h : SMid w0 c C n gt Bo T ds ts v wr) (hx : x < c.n6) (hl : C.ands.length = c.n6) (hT : T.length < c.n6) (hg : C.gateOf x < n) (hn : C.nextA T = some x)
    (hg1 : (((wr.setCell ⟨gt, x, none⟩ (.bool true)).setCell ⟨w0.heap.size + 1, C.gateOf x, none⟩ (.bool true)).alloc o).grownBy w1 v.ownBlock) (hown : w1.ownsRow (Bo) 3 1 v1 (T.length + 1) (T.map natV ++ [natV x])) :
    SMid w0 c C n gt Bo (T ++ [x]) (ds.set (C.gateOf x) true) (ts.set x true) v1 w1 := by
  have hord := h.ord
  obtain ⟨ot2, ht3⟩ := h.ot.stored x (.bool true)
  have od1 := h.od.kept ht3 (.inr (by simp [Value.ownBlock]; omega))
  have ov1 := h.ov.kept ht3 (by cases hv : v.ownBlock with | none => exact .inl rfl | some b => exact .inr (fun e => by have := Option.some.inj e; have := (h.ov.lt b hv).1; omega))
  have bx1 := h.box.grown ht3 (by simp; omega)
  have bl1 := h.below.grown ht3 h.below.size (fun k hk => by cases hk; omega)
  obtain ⟨od2, hd3⟩ := od1.stored (C.gateOf x) (.bool true)
  have ot3 := ot2.kept hd3 (.inr (by simp [Value.ownBlock]; omega))
  have ov2 := ov1.kept hd3 (by cases hv : v.ownBlock with | none => exact .inl rfl | some b => exact .inr (fun e => by have := Option.some.inj e; have := (h.ov.lt b hv).1; omega))
  have bx2 := (bx1.grown hd3 (by simp)).alloc o
  have bl2 := bl1.grown hd3 bl1.size (fun k hk => by cases hk; omega)
  have hbig := h.big
  have hvb : ∀ b, v.ownBlock = some b → Bo ≤ b := fun b hb => (h.ov.lt b hb).1
  have hdl : ds.length = n := by have := h.od.1; simpa using this
  have htl : ts.length = c.n6 := by have := h.ot.1; simpa using this
  have hs1 := ht3.size
  have hs2 := hd3.size
  have hs3 := hg1.size
  refine ⟨bx2.grown hg1 (fun e => by have := hvb _ e; omega), ?_, ?_, ?_, ?_, ?_, hord, fun u hu => ?_, fun i hi => ?_, ?_⟩
  · rw [List.map_set]
    exact (od2.alloc o).kept hg1 (.inr (fun e => by have := hvb (w0.heap.size + 1) e.symm; omega))
  · rw [List.map_set]
    exact (ot3.alloc o).kept hg1 (.inr (fun e => by have := hvb (gt) e.symm; omega))
  · rw [List.map_append, List.length_append]; exact hown
  · exact (belowThen' bl2 (below_alloc _ o) bl2.size).grown hg1 (by have := (below_alloc ((wr.setCell ⟨gt, x, none⟩ (.bool true)).setCell ⟨w0.heap.size + 1, C.gateOf x, none⟩ (.bool true)) o).size; omega) (fun k hk => by have := hvb k hk; omega)
  · have := (below_alloc ((wr.setCell ⟨gt, x, none⟩ (.bool true)).setCell ⟨w0.heap.size + 1, C.gateOf x, none⟩ (.bool true)) o).size
    omega
  · by_cases e : u = C.gateOf x
    · subst e; rw [atP_set_same _ _ _ (by omega)]; simp
    · rw [atP_set_other _ _ _ _ (fun h => e h.symm), h.dn u hu, List.map_append]; simp [e]
  · by_cases e : i = x
    · subst e; rw [atP_set_same _ _ _ (by omega)]; simp
    · rw [atP_set_other _ _ _ _ (fun h => e h.symm), h.tk i hi]; simp [e]
  · rw [← turn_go hn (by omega)]; exact h.turn
end Go.Proofs.Ytppaifckiaaffaa
