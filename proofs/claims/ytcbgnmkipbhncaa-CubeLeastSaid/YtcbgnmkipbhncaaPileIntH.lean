/-
  A PILE OF INTS IS A HEAP: the relation that its walks ask.
-/
import Derived.Test.YtcbgnmkipbhncaaPileInt
namespace Go.Proofs.Ytcbgnmkipbhncaa
open Go.RowKit

theorem cell_set_same {w : World} {a : Addr} {u v : Value} (h : w.cell? a = some u) : (w.setCell a v).cell? a = some v := by first | exact World.cell?_setCell_same _ h | exact World.cell?_setCell_same _ _ h | exact World.cell?_setCell_same _ _ _ h
theorem cell_set_other {w : World} {a b : Addr} {v : Value} (h : a ≠ b) : (w.setCell a v).cell? b = w.cell? b := by first | exact World.cell?_setCell_other _ h | exact World.cell?_setCell_other _ _ h | exact World.cell?_setCell_other _ _ _ h | exact World.cell?_setCell_other _ _ _ _ h

/-- All but two blocks stand as they stood. -/
structure Two (p g : Nat) (w w' : World) : Prop where
  os : w'.os = w.os
  tape : w'.tape = w.tape
  output : w'.output = w.output
  size : w.heap.size ≤ w'.heap.size
  block : ∀ k, k < w.heap.size → k ≠ p → k ≠ g → w'.heap[k]? = w.heap[k]?

theorem Two.refl (p g : Nat) (w : World) : Two p g w w := ⟨rfl, rfl, rfl, Nat.le_refl _, fun _ _ _ _ => rfl⟩
theorem Two.trans {p g : Nat} {a b c : World} (h : Two p g a b) (k : Two p g b c) : Two p g a c :=
  ⟨k.os.trans h.os, k.tape.trans h.tape, k.output.trans h.output, Nat.le_trans h.size k.size, fun i hi h1 h2 => (k.block i (Nat.lt_of_lt_of_le hi h.size) h1 h2).trans (h.block i hi h1 h2)⟩
theorem Two.drewN (p g q : Nat) (w : World) : Two p g w (w.drewN q) := ⟨rfl, rfl, rfl, Nat.le_refl _, fun _ _ _ _ => rfl⟩
theorem Two.setL {p g : Nat} {a w : World} (h : Two p g a w) (o : Nat) (v : Value) : Two p g a (w.setCell ⟨p, o, none⟩ v) :=
  ⟨h.os, h.tape, h.output, by simpa using h.size, fun i hi h1 h2 => (heap_setCell_other w ⟨p, o, none⟩ i v h1).trans (h.block i hi h1 h2)⟩
theorem Two.setR {p g : Nat} {a w : World} (h : Two p g a w) (o : Nat) (v : Value) : Two p g a (w.setCell ⟨g, o, none⟩ v) :=
  ⟨h.os, h.tape, h.output, by simpa using h.size, fun i hi h1 h2 => (heap_setCell_other w ⟨g, o, none⟩ i v h2).trans (h.block i hi h1 h2)⟩

theorem Two.below {p g B : Nat} {w0 w w' : World} (h : Two p g w w') (hb : Below B w0 w) (hB : B ≤ w0.heap.size) (hp : B ≤ p) (hg : B ≤ g) : Below B w0 w' :=
  ⟨h.os.trans hb.os, h.tape.trans hb.tape, h.output.trans hb.output, Nat.le_trans hb.size h.size, fun k hk => (h.block k (by have := hb.size; omega) (by omega) (by omega)).trans (hb.block k hk)⟩

theorem own_two {w w' : World} {base p g : Nat} {e : TypeId} {size : Nat} {v : Value} {n : Nat} {xs : List Value} (h : w.ownsRow base e size v n xs) (hb : Two p g w w') (hp : p < base) (hg : g < base) : w'.ownsRow base e size v n xs := by
  have hlt := h.lt
  obtain ⟨h1, h2⟩ := h
  refine ⟨h1, ?_⟩
  rcases h2 with h2 | ⟨k, cap, cur, rfl, hk, hh, r⟩
  · exact .inl h2
  · exact .inr ⟨k, cap, cur, rfl, hk, (hb.block k (hlt k rfl).2 (by omega) (by omega)).trans hh, r⟩

/-- The pile at p, whose items lie in g, holds xs. -/
def PileI (p g : Nat) (w : World) (xs : List Int) : Prop :=
  (∀ x ∈ xs, SignB x) ∧ xs.length ≤ 1152921504606846976 ∧ (0 < xs.length → p ≠ g) ∧ w.cell? ⟨p, 1, none⟩ = some (.func (.func 31) #[] #[]) ∧ w.frozen? ⟨p, 0, none⟩ = false ∧
  ∃ (a : Option Addr) (c : Nat), w.cell? ⟨p, 0, none⟩ = some (.slice a xs.length c) ∧ xs.length ≤ c ∧ c ≤ 9223372036854775807 ∧
    (0 < xs.length → a = some ⟨g, 0, none⟩ ∧ ∀ i, i < xs.length → w.cell? ⟨g, i, none⟩ = some (.int .i64 (atP xs i)) ∧ w.frozen? ⟨g, i, none⟩ = false)

theorem PileI.kept {p g : Nat} {w w' : World} {xs : List Int} (h : PileI p g w xs) (hp : w'.heap[p]? = w.heap[p]?) (hg : w'.heap[g]? = w.heap[g]?) : PileI p g w' xs := by
  obtain ⟨h1, h2, h3, h4, h5, a, c, h6, h7, h8, h9⟩ := h
  have cp : ∀ o, w'.cell? ⟨p, o, none⟩ = w.cell? ⟨p, o, none⟩ := fun o => World.cell?_of_block hp
  have fp : ∀ o, w'.frozen? ⟨p, o, none⟩ = w.frozen? ⟨p, o, none⟩ := fun o => World.frozen?_of_block hp
  have cg : ∀ o, w'.cell? ⟨g, o, none⟩ = w.cell? ⟨g, o, none⟩ := fun o => World.cell?_of_block hg
  have fg : ∀ o, w'.frozen? ⟨g, o, none⟩ = w.frozen? ⟨g, o, none⟩ := fun o => World.frozen?_of_block hg
  exact ⟨h1, h2, h3, (cp 1).trans h4, (fp 0).trans h5, a, c, (cp 0).trans h6, h7, h8, fun h0 => ⟨(h9 h0).1, fun i hi => ⟨(cg i).trans ((h9 h0).2 i hi).1, (fg i).trans ((h9 h0).2 i hi).2⟩⟩⟩

theorem swp_signs {xs : List Int} (h : ∀ x ∈ xs, SignB x) {i j : Nat} (hi : i < xs.length) (hj : j < xs.length) : ∀ x ∈ swpP xs i j, SignB x := fun x hx => h x ((swpP_perm xs i j hi hj).mem_iff.1 hx)

theorem PileI.swapped {p g : Nat} {w : World} {xs : List Int} (h : PileI p g w xs) {i j : Nat} (hi : i < xs.length) (hj : j < xs.length) :
    PileI p g ((w.setCell ⟨g, i, none⟩ (.int .i64 (atP xs j))).setCell ⟨g, j, none⟩ (.int .i64 (atP xs i))) (swpP xs i j) := by
  obtain ⟨h1, h2, h3, h4, h5, a, c, h6, h7, h8, h9⟩ := h
  obtain ⟨ha, hc⟩ := h9 (by omega)
  have h3 := h3 (by omega)
  have e1 : ∀ (u v : Value) (o : Nat), ((w.setCell ⟨g, i, none⟩ u).setCell ⟨g, j, none⟩ v).cell? ⟨p, o, none⟩ = w.cell? ⟨p, o, none⟩ := fun u v o => by
    rw [cell_set_other (by simp <;> omega), cell_set_other (by simp <;> omega)]
  refine ⟨swp_signs h1 hi hj, by rw [swpP_len]; exact h2, fun _ => h3, (e1 _ _ 1).trans h4, by simpa using h5, a, c, by rw [swpP_len, e1]; exact h6, by rw [swpP_len]; exact h7, h8, fun _ => ⟨ha, fun m hm => ⟨?_, ?_⟩⟩⟩
  · rw [swpP_len] at hm
    by_cases hmj : m = j
    · subst hmj
      obtain ⟨v', hv'⟩ := cell?_setCell_some (w := w) (p := ⟨g, i, none⟩) (x := .int .i64 (atP xs m)) (q := ⟨g, m, none⟩) (hc m hm).1
      rw [cell_set_same hv', swpP_right _ _ _ hm]
    · rw [cell_set_other (by simp <;> omega)]
      by_cases hmi : m = i
      · subst hmi
        rw [cell_set_same (hc m hm).1, swpP_left _ _ _ hm]
      · rw [cell_set_other (by simp <;> omega), swpP_other _ _ _ _ hmi hmj]
        exact (hc m hm).1
  · rw [swpP_len] at hm
    simpa using (hc m hm).2

theorem PileI.popped {p g c : Nat} {w : World} {xs : List Int} {x : Int} (h : PileI p g w (xs ++ [x])) (hc : xs.length + 1 ≤ c) (hc2 : c ≤ 9223372036854775807) :
    PileI p g (w.setCell ⟨p, 0, none⟩ (.slice (some ⟨g, 0, none⟩) xs.length c)) xs := by
  obtain ⟨h1, h2, h3, h4, h5, a, c', h6, h7, h8, h9⟩ := h
  rw [List.length_append, List.length_singleton] at h2 h7
  obtain ⟨ha, hcell⟩ := h9 (by simp)
  have h3 := h3 (by simp)
  refine ⟨fun y hy => h1 y (List.mem_append_left _ hy), by omega, fun _ => h3, ?_, by simpa using h5, some ⟨g, 0, none⟩, c, cell_set_same h6, by omega, hc2, fun _ => ⟨rfl, fun i hi => ?_⟩⟩
  · rw [cell_set_other (by simp)]; exact h4
  · obtain ⟨k1, k2⟩ := hcell i (by simp; omega)
    have e : atP (xs ++ [x]) i = atP xs i := by simp [atP, List.getD_eq_getElem?_getD, List.getElem?_append_left hi]
    rw [cell_set_other (by simp <;> omega), k1, e]
    exact ⟨rfl, by simpa using k2⟩

theorem weakI : Weak ltI where
  asymm a b h := by unfold ltI at *; simp at *; omega
  trans a b c h1 h2 := by unfold ltI at *; simp at *; omega

theorem pileI_heaps (p g : Nat) : Heaps (α := Int) 56 (.pointer (some ⟨p, 0, none⟩)) 50 75 77 76 (fun x => .iface 3 (.int .i64 x)) ltI (PileI p g) (Two p g) where
  mN _ := by kernel_rfl
  mL _ := by kernel_rfl
  mS _ := by kernel_rfl
  mP _ := by kernel_rfl
  eN := enters_of Try.func50 (by kernel_rfl) rfl
  eL := enters_of Try.func75 (by kernel_rfl) rfl
  eS := enters_of Try.func77 (by kernel_rfl) rfl
  eP := enters_of Try.func76 (by kernel_rfl) rfl
  len w xs h := by
    obtain ⟨h1, h2, h3, h4, h5, a, c, h6, h7, h8, h9⟩ := h
    exact pi_len p xs.length c a w h6
  less w xs h i j I J hI hJ hi hj := by
    subst hI; subst hJ
    have hk := h
    obtain ⟨h1, h2, h3, h4, h5, a, c, h6, h7, h8, h9⟩ := h
    obtain ⟨rfl, hc⟩ := h9 (by omega)
    refine (pi_less p g xs.length c w h6 h4 i j (atP xs i) (atP xs j) hi hj h2 (hc i hi).1 (hc j hj).1 (h1 _ (atP_mem xs i hi)) (h1 _ (atP_mem xs j hj))).mono ?_
    rintro e w' ⟨rfl, q, rfl⟩
    exact ⟨rfl, hk.kept rfl rfl, Two.drewN _ _ _ _⟩
  swap w xs h i j I J hI hJ hi hj := by
    subst hI; subst hJ
    have hk := h
    obtain ⟨h1, h2, h3, h4, h5, a, c, h6, h7, h8, h9⟩ := h
    obtain ⟨rfl, hc⟩ := h9 (by omega)
    refine (pi_swap p g xs.length c w h6 i j (atP xs i) (atP xs j) hi hj h2 (hc i hi).1 (hc j hj).1 (hc i hi).2 (hc j hj).2).mono ?_
    rintro e w' ⟨rfl, q, rfl⟩
    exact ⟨rfl, (hk.swapped hi hj).kept rfl rfl, (((Two.refl _ _ _).setR _ _).setR _ _).trans (Two.drewN _ _ _ _)⟩
  pop w xs x h := by
    have hk := h
    obtain ⟨h1, h2, h3, h4, h5, a, c, h6, h7, h8, h9⟩ := h
    rw [List.length_append, List.length_singleton] at h2 h6 h7
    obtain ⟨rfl, hc⟩ := h9 (by simp)
    have hx := (hc xs.length (by simp)).1
    have e : atP (xs ++ [x]) xs.length = x := by simp [atP]
    rw [e] at hx
    refine (pi_pop p g xs.length c w h6 h5 x (by omega) h7 h8 hx).mono ?_
    rintro e w' ⟨rfl, rfl⟩
    exact ⟨rfl, hk.popped h7 h8, (Two.refl _ _ _).setL _ _⟩
  crefl w := Two.refl _ _ _
  ctrans a b c h k := h.trans k
  small w xs h := h.2.1
end Go.Proofs.Ytcbgnmkipbhncaa
