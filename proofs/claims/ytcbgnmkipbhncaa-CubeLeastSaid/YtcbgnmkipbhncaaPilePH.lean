/-
  A PILE OF PLACED LISTS IS A HEAP; slices.Clone and inOrder at placed lists.
-/
import Derived.Test.YtcbgnmkipbhncaaPileP
namespace Go.Proofs.Ytcbgnmkipbhncaa
open Go.RowKit
set_option linter.unusedSectionVars false
variable [Inhabited El]

theorem Two.of_below {p g : Nat} {w w' : World} (h : Below w.heap.size w w') : Two p g w w' := ⟨h.os, h.tape, h.output, h.size, fun k hk _ _ => h.block k hk⟩
theorem Two.alloc {p g : Nat} {a w : World} (h : Two p g a w) (o : Obj) : Two p g a (w.alloc o) :=
  h.trans ⟨rfl, rfl, rfl, by simp, fun k hk _ _ => (World.grownBy_alloc w o none).block k hk (by simp)⟩

/-- The pile at p (its order: function f), whose items lie in g, holds es. -/
def PileE (f p g : Nat) (w : World) (es : List El) : Prop :=
  es.length ≤ 1152921504606846976 ∧ (0 < es.length → p ≠ g) ∧ w.cell? ⟨p, 1, none⟩ = some (.func (.func f) #[] #[]) ∧ w.frozen? ⟨p, 0, none⟩ = false ∧
  ∃ (a : Option Addr) (c : Nat), w.cell? ⟨p, 0, none⟩ = some (.slice a es.length c) ∧ es.length ≤ c ∧ c ≤ 9223372036854775807 ∧
    (0 < es.length → a = some ⟨g, 0, none⟩ ∧ ∀ i, i < es.length → (w.cell? ⟨g, i * 2, none⟩ = some (.int .i64 (atP es i).place) ∧ w.cell? ⟨g, i * 2 + 1, none⟩ = some (atP es i).v) ∧ w.frozen? ⟨g, i * 2, none⟩ = false ∧ w.frozen? ⟨g, i * 2 + 1, none⟩ = false)

theorem PileE.kept {f p g : Nat} {w w' : World} {es : List El} (h : PileE f p g w es) (hp : w'.heap[p]? = w.heap[p]?) (hg : 0 < es.length → w'.heap[g]? = w.heap[g]?) : PileE f p g w' es := by
  obtain ⟨h2, h3, h4, h5, a, c, h6, h7, h8, h9⟩ := h
  have cp : ∀ o, w'.cell? ⟨p, o, none⟩ = w.cell? ⟨p, o, none⟩ := fun o => World.cell?_of_block hp
  have fp : ∀ o, w'.frozen? ⟨p, o, none⟩ = w.frozen? ⟨p, o, none⟩ := fun o => World.frozen?_of_block hp
  refine ⟨h2, h3, (cp 1).trans h4, (fp 0).trans h5, a, c, (cp 0).trans h6, h7, h8, fun h0 => ⟨(h9 h0).1, fun i hi => ?_⟩⟩
  have cg : ∀ o, w'.cell? ⟨g, o, none⟩ = w.cell? ⟨g, o, none⟩ := fun o => World.cell?_of_block (hg h0)
  have fg : ∀ o, w'.frozen? ⟨g, o, none⟩ = w.frozen? ⟨g, o, none⟩ := fun o => World.frozen?_of_block (hg h0)
  have q := (h9 h0).2 i hi
  exact ⟨⟨(cg _).trans q.1.1, (cg _).trans q.1.2⟩, (fg _).trans q.2.1, (fg _).trans q.2.2⟩

theorem PileE.blocks {f p g : Nat} {w : World} {es : List El} (h : PileE f p g w es) : p < w.heap.size ∧ (0 < es.length → g < w.heap.size) := by
  obtain ⟨h2, h3, h4, h5, a, c, h6, h7, h8, h9⟩ := h
  exact ⟨World.block_lt_of_cell? w _ h6, fun h0 => World.block_lt_of_cell? w _ ((h9 h0).2 0 h0).1.1⟩

theorem PileE.below {f p g : Nat} {w w' : World} {es : List El} (h : PileE f p g w es) (hb : Below w.heap.size w w') : PileE f p g w' es :=
  h.kept (hb.block _ h.blocks.1) (fun h0 => hb.block _ (h.blocks.2 h0))

theorem PileE.swapped {f p g : Nat} {w : World} {es : List El} (h : PileE f p g w es) {i j : Nat} (hi : i < es.length) (hj : j < es.length) :
    PileE f p g ((((w.setCell ⟨g, i * 2, none⟩ (.int .i64 (atP es j).place)).setCell ⟨g, i * 2 + 1, none⟩ (atP es j).v).setCell ⟨g, j * 2, none⟩ (.int .i64 (atP es i).place)).setCell ⟨g, j * 2 + 1, none⟩ (atP es i).v) (swpP es i j) := by
  obtain ⟨h2, h3, h4, h5, a, c, h6, h7, h8, h9⟩ := h
  obtain ⟨ha, hc⟩ := h9 (by omega)
  have h3 := h3 (by omega)
  have ne : ∀ {o o' : Nat}, o ≠ o' → (⟨g, o, none⟩ : Addr) ≠ ⟨g, o', none⟩ := fun {o o'} h e => h (by cases e; rfl)
  have nep : ∀ (o o' : Nat), (⟨g, o, none⟩ : Addr) ≠ ⟨p, o', none⟩ := fun o o' e => h3 (by cases e; rfl)
  have e1 : ∀ (u1 u2 u3 u4 : Value) (o : Nat), ((((w.setCell ⟨g, i * 2, none⟩ u1).setCell ⟨g, i * 2 + 1, none⟩ u2).setCell ⟨g, j * 2, none⟩ u3).setCell ⟨g, j * 2 + 1, none⟩ u4).cell? ⟨p, o, none⟩ = w.cell? ⟨p, o, none⟩ := fun u1 u2 u3 u4 o => by
    rw [cell_set_other (nep _ _), cell_set_other (nep _ _), cell_set_other (nep _ _), cell_set_other (nep _ _)]
  refine ⟨by rw [swpP_len]; exact h2, fun _ => h3, (e1 _ _ _ _ 1).trans h4, by simpa using h5, a, c, by rw [swpP_len, e1]; exact h6, by rw [swpP_len]; exact h7, h8, fun _ => ⟨ha, fun m hm => ⟨⟨?_, ?_⟩, ?_, ?_⟩⟩⟩
  · rw [swpP_len] at hm
    rw [cell_set_other (ne (by omega))]
    by_cases hmj : m = j
    · subst hmj
      obtain ⟨v1, q1⟩ := cell?_setCell_some (w := w) (p := ⟨g, i * 2, none⟩) (x := .int .i64 (atP es m).place) (q := ⟨g, m * 2, none⟩) (hc m hm).1.1
      obtain ⟨v2, q2⟩ := cell?_setCell_some (w := w.setCell ⟨g, i * 2, none⟩ (.int .i64 (atP es m).place)) (p := ⟨g, i * 2 + 1, none⟩) (x := (atP es m).v) (q := ⟨g, m * 2, none⟩) q1
      rw [cell_set_same q2, swpP_right _ _ _ hm]
    · rw [cell_set_other (ne (by omega)), cell_set_other (ne (by omega))]
      by_cases hmi : m = i
      · subst hmi
        rw [cell_set_same (hc m hm).1.1, swpP_left _ _ _ hm]
      · rw [cell_set_other (ne (by omega)), swpP_other _ _ _ _ hmi hmj]
        exact (hc m hm).1.1
  · rw [swpP_len] at hm
    by_cases hmj : m = j
    · subst hmj
      obtain ⟨v1, q1⟩ := cell?_setCell_some (w := w) (p := ⟨g, i * 2, none⟩) (x := .int .i64 (atP es m).place) (q := ⟨g, m * 2 + 1, none⟩) (hc m hm).1.2
      obtain ⟨v2, q2⟩ := cell?_setCell_some (w := w.setCell ⟨g, i * 2, none⟩ (.int .i64 (atP es m).place)) (p := ⟨g, i * 2 + 1, none⟩) (x := (atP es m).v) (q := ⟨g, m * 2 + 1, none⟩) q1
      obtain ⟨v3, q3⟩ := cell?_setCell_some (w := (w.setCell ⟨g, i * 2, none⟩ (.int .i64 (atP es m).place)).setCell ⟨g, i * 2 + 1, none⟩ (atP es m).v) (p := ⟨g, m * 2, none⟩) (x := .int .i64 (atP es i).place) (q := ⟨g, m * 2 + 1, none⟩) q2
      rw [cell_set_same q3, swpP_right _ _ _ hm]
    · rw [cell_set_other (ne (by omega)), cell_set_other (ne (by omega))]
      by_cases hmi : m = i
      · subst hmi
        obtain ⟨v1, q1⟩ := cell?_setCell_some (w := w) (p := ⟨g, m * 2, none⟩) (x := .int .i64 (atP es j).place) (q := ⟨g, m * 2 + 1, none⟩) (hc m hm).1.2
        rw [cell_set_same q1, swpP_left _ _ _ hm]
      · rw [cell_set_other (ne (by omega)), cell_set_other (ne (by omega)), swpP_other _ _ _ _ hmi hmj]
        exact (hc m hm).1.2
  · rw [swpP_len] at hm
    simpa using (hc m hm).2.1
  · rw [swpP_len] at hm
    simpa using (hc m hm).2.2

theorem PileE.popped {f p g c : Nat} {w : World} {es : List El} {x : El} (h : PileE f p g w (es ++ [x])) (hc : es.length + 1 ≤ c) (hc2 : c ≤ 9223372036854775807) :
    PileE f p g (w.setCell ⟨p, 0, none⟩ (.slice (some ⟨g, 0, none⟩) es.length c)) es := by
  obtain ⟨h2, h3, h4, h5, a, c', h6, h7, h8, h9⟩ := h
  rw [List.length_append, List.length_singleton] at h2 h7
  obtain ⟨ha, hcell⟩ := h9 (by simp)
  have h3 := h3 (by simp)
  have nep : ∀ (o o' : Nat), (⟨p, o, none⟩ : Addr) ≠ ⟨g, o', none⟩ := fun o o' e => h3 (by cases e; rfl)
  refine ⟨by omega, fun _ => h3, ?_, by simpa using h5, some ⟨g, 0, none⟩, c, cell_set_same h6, by omega, hc2, fun _ => ⟨rfl, fun i hi => ?_⟩⟩
  · rw [cell_set_other (by simp)]; exact h4
  · obtain ⟨⟨k1, k2⟩, k3, k4⟩ := hcell i (by simp; omega)
    have e : atP (es ++ [x]) i = atP es i := by simp [atP, List.getD_eq_getElem?_getD, List.getElem?_append_left hi]
    rw [e] at k1 k2
    exact ⟨⟨by rw [cell_set_other (nep _ _)]; exact k1, by rw [cell_set_other (nep _ _)]; exact k2⟩, by simpa using k3, by simpa using k4⟩

theorem weakEarly : Weak ltEarly where
  asymm a b h := by unfold ltEarly at *; simp at *; omega
  trans a b c h1 h2 := by unfold ltEarly at *; simp at *; omega
theorem ltShort_eq (p q : El) : ltShort p q = decide (p.xs.length < q.xs.length ∨ (p.xs.length = q.xs.length ∧ p.place < q.place)) := by
  unfold ltShort
  by_cases e : p.xs.length = q.xs.length
  · rw [if_pos e]; simp [e]
  · rw [if_neg e]; simp [e]
theorem weakShort : Weak ltShort where
  asymm a b h := by
    rw [ltShort_eq, decide_eq_true_iff] at h
    rw [ltShort_eq, decide_eq_false_iff_not]
    omega
  trans a b c h1 h2 := by
    rw [ltShort_eq, decide_eq_false_iff_not] at h1 h2 ⊢
    omega

/-- An order that a pile may have. -/
structure Before (f : Nat) (lt : El → El → Bool) : Prop where
  enters : ∀ args w, (callFunc f args).run Try.prog w = .ok (.enter f args) w
  calls : ∀ (P Q : El) (W : World), Calls Try.prog f #[P.agg, Q.agg] W fun e w' => e = .returned (.bool (lt P Q)) ∧ Below W.heap.size W w'
  weak : Weak lt
theorem beforeShort : Before 44 ltShort := ⟨enters_of Try.func44 (by kernel_rfl) rfl, shorter_any, weakShort⟩
theorem beforeEarly : Before 47 ltEarly := ⟨enters_of Try.func47 (by kernel_rfl) rfl, earlier_any, weakEarly⟩

theorem pileE_heaps {f : Nat} {lt : El → El → Bool} (B : Before f lt) (p g : Nat) : Heaps (α := El) 69 (.pointer (some ⟨p, 0, none⟩)) 55 78 80 79 (fun x => .iface 53 x.agg) lt (PileE f p g) (Two p g) where
  mN _ := by kernel_rfl
  mL _ := by kernel_rfl
  mS _ := by kernel_rfl
  mP _ := by kernel_rfl
  eN := enters_of Try.func55 (by kernel_rfl) rfl
  eL := enters_of Try.func78 (by kernel_rfl) rfl
  eS := enters_of Try.func80 (by kernel_rfl) rfl
  eP := enters_of Try.func79 (by kernel_rfl) rfl
  len w xs h := by
    obtain ⟨h2, h3, h4, h5, a, c, h6, h7, h8, h9⟩ := h
    exact pp_len p xs.length c a w h6
  less w xs h i j I J hI hJ hi hj := by
    subst hI; subst hJ
    have hk := h
    obtain ⟨h2, h3, h4, h5, a, c, h6, h7, h8, h9⟩ := h
    obtain ⟨rfl, hc⟩ := h9 (by omega)
    refine (pp_less f B.enters lt B.calls p g xs.length c w h6 h4 i j (atP xs i) (atP xs j) hi hj h2 (hc i hi).1.1 (hc i hi).1.2 (hc j hj).1.1 (hc j hj).1.2).mono ?_
    rintro e w' ⟨rfl, hb⟩
    exact ⟨rfl, hk.below hb, Two.of_below hb⟩
  swap w xs h i j I J hI hJ hi hj := by
    subst hI; subst hJ
    have hk := h
    obtain ⟨h2, h3, h4, h5, a, c, h6, h7, h8, h9⟩ := h
    obtain ⟨rfl, hc⟩ := h9 (by omega)
    refine (pp_swap p g xs.length c w h6 i j (atP xs i).place (atP xs j).place (atP xs i).a (atP xs j).a (atP xs i).xs.length (atP xs i).c (atP xs j).xs.length (atP xs j).c hi hj h2 (hc i hi).1.1 (hc i hi).1.2 (hc j hj).1.1 (hc j hj).1.2 (hc i hi).2.1 (hc i hi).2.2 (hc j hj).2.1 (hc j hj).2.2).mono ?_
    rintro e w' ⟨rfl, q, rfl⟩
    exact ⟨rfl, (hk.swapped hi hj).kept rfl (fun _ => rfl), (((((Two.refl _ _ _).setR _ _).setR _ _).setR _ _).setR _ _).trans (Two.drewN _ _ _ _)⟩
  pop w xs x h := by
    have hk := h
    obtain ⟨h2, h3, h4, h5, a, c, h6, h7, h8, h9⟩ := h
    rw [List.length_append, List.length_singleton] at h2 h6 h7
    obtain ⟨rfl, hc⟩ := h9 (by simp)
    have hx := (hc xs.length (by simp)).1
    have e : atP (xs ++ [x]) xs.length = x := by simp [atP]
    rw [e] at hx
    refine (pp_pop p g xs.length c w h6 h5 x.place x.a x.xs.length x.c (by omega) h7 h8 hx.1 hx.2).mono ?_
    rintro e w' ⟨rfl, o, rfl⟩
    have hp := hk.popped h7 h8
    exact ⟨rfl, hp.kept ((World.grownBy_alloc _ o none).block _ hp.blocks.1 (by simp)) (fun h0 => (World.grownBy_alloc _ o none).block _ (hp.blocks.2 h0) (by simp)), ((Two.refl _ _ _).setL _ _).alloc _⟩
  crefl w := Two.refl _ _ _
  ctrans a b c h k := h.trans k
  small w xs h := h.1
end Go.Proofs.Ytcbgnmkipbhncaa
