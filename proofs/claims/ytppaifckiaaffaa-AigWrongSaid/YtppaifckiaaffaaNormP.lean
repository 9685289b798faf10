/-
  WHAT A CIRCUIT IS WITH ITS VARIABLES IN ORDER, no function of the program.
-/
import Derived.Test.YtppaifckiaaffaaAigTurn

namespace Go.Proofs.Ytppaifckiaaffaa
open Go.RowKit

theorem atP_left {α : Type} [Inhabited α] (a b : List α) (i : Nat) (h : i < a.length) : atP (a ++ b) i = atP a i := by
  unfold atP; rw [List.getD_eq_getElem?_getD, List.getD_eq_getElem?_getD, List.getElem?_append_left h]
theorem atP_right {α : Type} [Inhabited α] (a b : List α) (i : Nat) : atP (a ++ b) (a.length + i) = atP b i := by
  unfold atP; rw [List.getD_eq_getElem?_getD, List.getD_eq_getElem?_getD, List.getElem?_append_right (by omega), Nat.add_sub_cancel_left]
theorem atP_map {α β : Type} [Inhabited α] [Inhabited β] (f : α → β) (l : List α) (i : Nat) (h : i < l.length) : atP (l.map f) i = f (atP l i) := by
  rw [atP_eq _ i (by simpa using h), atP_eq l i h]; simp
theorem take_snocP {α : Type} [Inhabited α] (l : List α) (k : Nat) (h : k < l.length) : l.take (k + 1) = l.take k ++ [atP l k] := by
  rw [List.take_succ_eq_append_getElem h, ← atP_eq l k h]

/-- The variables are given numbers, one by one, from n + 1 on. -/
def giveN : List Int → Nat → List Nat → List Int
  | r, _, [] => r
  | r, n, v :: vs => giveN (r.set v ((n + 1 : Nat) : Int)) (n + 1) vs
theorem giveN_append (a b : List Nat) : ∀ (r : List Int) (n : Nat), giveN r n (a ++ b) = giveN (giveN r n a) (n + a.length) b := by
  induction a with
  | nil => intro r n; rfl
  | cons x a ih => intro r n; simp only [List.cons_append, giveN, List.length_cons]; rw [ih, show n + 1 + a.length = n + (a.length + 1) by omega]
theorem giveN_snoc (a : List Nat) (v : Nat) (r : List Int) (n : Nat) : giveN r n (a ++ [v]) = (giveN r n a).set v ((n + a.length + 1 : Nat) : Int) := by
  rw [giveN_append]; rfl
theorem giveN_len (a : List Nat) : ∀ (r : List Int) (n : Nat), (giveN r n a).length = r.length := by
  induction a with
  | nil => intro r n; rfl
  | cons x a ih => intro r n; simp only [giveN]; rw [ih]; simp
/-- Every number that is given is at most as many as there are. -/
theorem giveN_le (a : List Nat) : ∀ (r : List Int) (n : Nat) (B : Int), (∀ x ∈ r, 0 ≤ x ∧ x ≤ B) → ((n + a.length : Nat) : Int) ≤ B → ∀ x ∈ giveN r n a, 0 ≤ x ∧ x ≤ B := by
  induction a with
  | nil => intro r n B h _ x hx; exact h x hx
  | cons y a ih =>
    intro r n B h hB x hx
    simp only [giveN] at hx
    simp only [List.length_cons] at hB
    refine ih _ _ B (fun z hz => ?_) (by omega) x hx
    rcases List.mem_or_eq_of_mem_set hz with h1 | rfl
    · exact h z h1
    · constructor <;> omega

def Circ.order (C : Circ) : List Nat := C.ins.map varN ++ (C.lats.map (fun t => varN t.1) ++ C.turn.map C.gateOf)
theorem order_in {C : Circ} {k : Nat} (h : k < C.ins.length) : atP C.order k = varN (atP C.ins k) := by
  unfold Circ.order; rw [atP_left _ _ _ (by simpa using h), atP_map _ _ _ h]
theorem order_lat {C : Circ} {k : Nat} (h : k < C.lats.length) : atP C.order (C.ins.length + k) = varN (atP C.lats k).1 := by
  unfold Circ.order
  have e : C.ins.length = (C.ins.map varN).length := by simp
  rw [e, atP_right, atP_left _ _ _ (by simpa using h), atP_map _ _ _ h]
theorem order_and {C : Circ} {k : Nat} (h : k < C.turn.length) : atP C.order (C.ins.length + C.lats.length + k) = C.gateOf (atP C.turn k) := by
  unfold Circ.order
  have e : C.ins.length + C.lats.length + k = (C.ins.map varN).length + ((C.lats.map (fun t => varN t.1)).length + k) := by simp; omega
  rw [e, atP_right, atP_right, atP_map _ _ _ h]
theorem order_len (C : Circ) : C.order.length = C.ins.length + C.lats.length + C.turn.length := by simp [Circ.order]; omega

theorem nextA_lt {C : Circ} {T : List Nat} {i : Nat} (h : C.nextA T = some i) : i < C.ands.length ∧ i ∉ T ∧ C.readyB T i = true := by
  unfold Circ.nextA at h
  have h1 := List.mem_of_find?_eq_some h
  have h2 := List.find?_some h
  simp at h1 h2
  exact ⟨h1, h2.1, h2.2⟩
theorem turnA_lt {C : Circ} : ∀ (f : Nat) (T : List Nat), (∀ i ∈ T, i < C.ands.length) → ∀ i ∈ C.turnA f T, i < C.ands.length := by
  intro f
  induction f with
  | zero => intro T h i hi; exact h i hi
  | succ f ih =>
    intro T h i hi
    unfold Circ.turnA at hi
    cases hn : C.nextA T with
    | none => rw [hn] at hi; exact h i hi
    | some x =>
      rw [hn] at hi
      refine ih _ (fun j hj => ?_) i hi
      rcases List.mem_append.1 hj with h1 | h1
      · exact h j h1
      · simp at h1; subst h1; exact (nextA_lt hn).1
theorem turn_lt {C : Circ} : ∀ i ∈ C.turn, i < C.ands.length := turnA_lt _ [] (fun i hi => by cases hi)
theorem turnA_nodup {C : Circ} : ∀ (f : Nat) (T : List Nat), T.Nodup → (C.turnA f T).Nodup := by
  intro f
  induction f with
  | zero => intro T h; exact h
  | succ f ih =>
    intro T h
    unfold Circ.turnA
    cases hn : C.nextA T with
    | none => exact h
    | some x =>
      refine ih _ ?_
      rw [List.nodup_append]
      refine ⟨h, by simp, fun a ha b hb => ?_⟩
      simp at hb; subst hb
      exact fun e => (nextA_lt hn).2.1 (e ▸ ha)
theorem turn_nodup (C : Circ) : C.turn.Nodup := turnA_nodup _ [] List.nodup_nil
theorem turn_le (C : Circ) : C.turn.length ≤ C.ands.length := by
  have h := List.Nodup.length_le_of_subset (turn_nodup C) (l₂ := List.range C.ands.length) (fun i hi => List.mem_range.2 (turn_lt i hi))
  simpa using h

/-- Which variable each one becomes. -/
def Circ.renK (C : Circ) (k : Nat) : List Int := giveN (List.replicate (C.max.toNat + 1) 0) 0 (C.order.take k)
def Circ.ren (C : Circ) : List Int := giveN (List.replicate (C.max.toNat + 1) 0) 0 C.order
theorem renK_zero (C : Circ) : C.renK 0 = List.replicate (C.max.toNat + 1) 0 := rfl
theorem renK_succ {C : Circ} {k : Nat} (h : k < C.order.length) : C.renK (k + 1) = (C.renK k).set (atP C.order k) ((k + 1 : Nat) : Int) := by
  unfold Circ.renK; rw [take_snocP _ _ h, giveN_snoc, List.length_take, Nat.min_eq_left (by omega), Nat.zero_add]
theorem renK_all (C : Circ) {k : Nat} (h : k = C.order.length) : C.renK k = C.ren := by subst h; unfold Circ.renK Circ.ren; rw [List.take_length]
theorem ren_len (C : Circ) : C.ren.length = C.max.toNat + 1 := by unfold Circ.ren; rw [giveN_len]; simp
theorem renK_len (C : Circ) (k : Nat) : (C.renK k).length = C.max.toNat + 1 := by unfold Circ.renK; rw [giveN_len]; simp

def renL (r : List Int) (l : Int) : Int := 2 * atP r (varN l) + l % 2
def renT (r : List Int) (t : Tri) : Tri := (renL r t.1, renL r t.2.1, renL r t.2.2)
def renA (r : List Int) (t : Tri) : Tri := (renL r t.1, max (renL r t.2.1) (renL r t.2.2), min (renL r t.2.1) (renL r t.2.2))
def Circ.norm (C : Circ) : Circ := ⟨((C.ins.length + C.lats.length + C.ands.length : Nat) : Int), C.ins.map (renL C.ren), C.lats.map (renT C.ren), C.outs.map (renL C.ren), C.bads.map (renL C.ren), C.cons.map (renL C.ren), C.turn.map (fun i => renA C.ren (atP C.ands i)), C.names⟩

/-- What the program hands a renaming: small numbers. -/
theorem ren_small {C : Circ} (hS : Small C) : ∀ x ∈ C.ren, 0 ≤ x ∧ x ≤ 10000 := by
  unfold Circ.ren
  refine giveN_le _ _ _ _ (fun x hx => ?_) ?_
  · rw [List.mem_replicate] at hx; obtain ⟨_, rfl⟩ := hx; decide
  · rw [order_len]
    have := turn_le C
    have h1 := hS.ins
    have h2 := hS.lats
    have h3 := hS.ands
    omega
end Go.Proofs.Ytppaifckiaaffaa
