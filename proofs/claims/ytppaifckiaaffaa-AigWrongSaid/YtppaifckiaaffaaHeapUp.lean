/-
  HEAPS, no function of the program: sifting up.
-/
import Derived.Test.YtppaifckiaaffaaHeapPlain
namespace Go.Proofs.Ytppaifckiaaffaa
section
variable {α : Type} [Inhabited α] {lt : α → α → Bool}

/-- All is in order but for place j and its parent; its children stand in order with its parent. -/
def UpP (lt : α → α → Bool) (xs : List α) (j : Nat) : Prop :=
  (∀ p c, (c = 2 * p + 1 ∨ c = 2 * p + 2) → c < xs.length → c ≠ j → lt (atP xs c) (atP xs p) = false) ∧
  ∀ p c, (j = 2 * p + 1 ∨ j = 2 * p + 2) → (c = 2 * j + 1 ∨ c = 2 * j + 2) → c < xs.length → lt (atP xs c) (atP xs p) = false

theorem UpP.swap (O : Weak lt) {xs : List α} {i j : Nat} (h : UpP lt xs j) (hj : j < xs.length) (hij : j = 2 * i + 1 ∨ j = 2 * i + 2) (hlt : lt (atP xs j) (atP xs i) = true) : UpP lt (swpP xs i j) i := by
  obtain ⟨h1, h2⟩ := h
  have hi : i < xs.length := by omega
  refine ⟨fun p c hc hcl hci => ?_, fun p c hp hc hcl => ?_⟩
  · rw [swpP_len] at hcl
    by_cases hpi : p = i
    · subst hpi
      rw [swpP_left _ _ _ hi]
      by_cases hcj : c = j
      · subst hcj; rw [swpP_right _ _ _ hj]; exact O.asymm _ _ hlt
      · rw [swpP_other _ _ _ _ hci hcj]
        exact O.trans _ _ _ (O.asymm _ _ hlt) (h1 p c hc hcl hcj)
    · by_cases hpj : p = j
      · subst hpj
        rw [swpP_right _ _ _ hj, swpP_other _ _ _ _ hci (by omega)]
        exact h2 i c hij hc hcl
      · rw [swpP_other _ _ _ p hpi hpj, swpP_other _ _ _ c hci (by omega)]
        exact h1 p c hc hcl (by omega)
  · rw [swpP_len] at hcl
    rw [swpP_other _ _ _ p (by omega) (by omega)]
    by_cases hcj : c = j
    · subst hcj
      rw [swpP_right _ _ _ hj]
      exact h1 p i hp hi (by omega)
    · rw [swpP_other _ _ _ c (by omega) hcj]
      exact O.trans _ _ _ (h1 p i hp hi (by omega)) (h1 i c hc hcl hcj)

theorem UpP.done {xs : List α} {j : Nat} (h : UpP lt xs j) (hd : ∀ p, (j = 2 * p + 1 ∨ j = 2 * p + 2) → j < xs.length → lt (atP xs j) (atP xs p) = false) : HeapP lt xs := fun p c hc hcl => by
  by_cases e : c = j
  · subst e; exact hd p hc hcl
  · exact h.1 p c hc hcl e

theorem up_start {xs : List α} (h : HeapP lt xs) (x : α) : UpP lt (xs ++ [x]) xs.length := by
  have e : ∀ m, m < xs.length → atP (xs ++ [x]) m = atP xs m := fun m hm => by simp [atP, List.getD_eq_getElem?_getD, List.getElem?_append_left hm]
  refine ⟨fun p c hc hcl hne => ?_, fun p c hp hc hcl => ?_⟩
  · rw [List.length_append, List.length_singleton] at hcl
    rw [e c (by omega), e p (by omega)]
    exact h p c hc (by omega)
  · rw [List.length_append, List.length_singleton] at hcl
    omega

theorem heap_nil : HeapP lt ([] : List α) := fun _ _c _ hc => absurd hc (Nat.not_lt_zero _)
end
def ltN (a b : Int) : Bool := decide (a < b)
theorem weakN : Weak ltN where
  asymm a b h := by unfold ltN at *; simp at *; omega
  trans a b c h1 h2 := by unfold ltN at *; simp at *; omega
end Go.Proofs.Ytppaifckiaaffaa
