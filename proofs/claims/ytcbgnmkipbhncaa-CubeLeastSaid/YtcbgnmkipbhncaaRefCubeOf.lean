/-
  THE WALK of the reference's CubeOf.
-/
import Derived.Test.YtcbgnmkipbhncaaRefSize
namespace Go.Proofs.Ytcbgnmkipbhncaa
open Go.RowKit

/-- Where a sign goes. -/
theorem insL_at (x : Int) : ∀ (acc : List Int) (k : Nat), k ≤ acc.length → (∀ j, j < k → mag (atP acc j) < mag x) → (k < acc.length → ¬ mag (atP acc k) < mag x) →
    insL x acc = if k < acc.length ∧ atP acc k = x then acc else acc.take k ++ [x] ++ acc.drop k := by
  intro acc
  induction acc with
  | nil => intro k hk _ _; simp at hk; subst hk; simp [insL]
  | cons m r ih =>
    intro k hk h1 h2
    cases k with
    | zero =>
      have h3 := h2 (by simp)
      have e : atP (m :: r) 0 = m := rfl
      rw [e] at h3
      rw [insL, if_neg h3, e]
      by_cases hm : m = x
      · rw [if_pos hm, if_pos ⟨by simp, hm⟩]
      · rw [if_neg hm, if_neg (fun h => hm h.2)]; rfl
    | succ k =>
      have h0 : mag m < mag x := h1 0 (by omega)
      have e : ∀ j, atP (m :: r) (j + 1) = atP r j := fun j => rfl
      rw [insL, if_pos h0, ih k (by simpa using hk) (fun j hj => by have := h1 (j + 1) (by omega); rwa [e] at this) (fun hj => by have := h2 (by simpa using hj); rwa [e] at this), e]
      by_cases hc : k < r.length ∧ atP r k = x
      · rw [if_pos hc, if_pos ⟨by simpa using hc.1, hc.2⟩]
      · rw [if_neg hc, if_neg (fun h => hc ⟨by simpa using h.1, h.2⟩)]; rfl

/-- What the reference's loop holds. -/
def RefMid (w0 : World) (xs : List Int) (i : Nat) (v : Value) (m : Nat) (acc : List Int) (wr : World) : Prop :=
  wr.ownsRow w0.heap.size 3 1 v m (acc.map (Value.int .i64)) ∧ Below w0.heap.size w0 wr ∧ Good (xs.take i) ∧ Up acc ∧ (∀ x, x ∈ acc ↔ x ∈ xs.take i) ∧ acc.length = m ∧ (v = .slice none 0 0 ∨ 0 < m)

/-- One sign more. -/
theorem ref_step {xs acc : List Int} {i k : Nat} {x : Int} (hi : i < xs.length) (hx : x = atP xs i) (hf : Fits x) (hg : Good (xs.take i)) (hu : Up acc) (hm : ∀ y, y ∈ acc ↔ y ∈ xs.take i) (hk : k ≤ acc.length) (h1 : ∀ j, j < k → mag (atP acc j) < mag x) (h2 : k < acc.length → ¬ mag (atP acc k) < mag x) :
    (k < acc.length ∧ atP acc k = -x → ¬ Good xs) ∧ (¬ (k < acc.length ∧ atP acc k = -x) → Good (xs.take (i + 1)) ∧ Up (insL x acc) ∧ ∀ y, y ∈ insL x acc ↔ y ∈ xs.take (i + 1)) := by
  have hxm : x ∈ xs := by rw [hx]; exact atP_mem xs i hi
  have htk : xs.take (i + 1) = xs.take i ++ [x] := by rw [hx, atP_eq xs i hi]; exact List.take_succ_eq_append_getElem hi
  refine ⟨fun ⟨ha, hb⟩ hgood => ?_, fun hne => ?_⟩
  · have h3 : -x ∈ acc := by rw [← hb]; exact atP_mem acc k ha
    exact hgood.2 x hxm (List.mem_of_mem_take ((hm _).1 h3))
  · have hno : -x ∉ acc := fun h3 => by
      obtain ⟨j, hj, e⟩ := List.getElem_of_mem h3
      rw [← atP_eq acc j hj] at e
      have hmj : mag (atP acc j) = mag x := by rw [e, mag_neg]
      have hjk : k ≤ j := by
        rcases Nat.lt_or_ge j k with h | h
        · have := h1 j h; omega
        · exact h
      by_cases hjk2 : j = k
      · subst hjk2; exact hne ⟨hj, e⟩
      · have := List.pairwise_iff_getElem.1 hu k j (by omega) hj (by omega)
        rw [← atP_eq acc k (by omega), ← atP_eq acc j hj] at this
        exact h2 (by omega) (by omega)
    have hgood : Good (xs.take (i + 1)) := by
      rw [htk]
      refine ⟨fun y hy => ?_, fun y hy hy2 => ?_⟩
      · rcases List.mem_append.1 hy with h | h
        · exact hg.1 y h
        · rw [List.mem_singleton] at h; subst h; exact hf
      · rcases List.mem_append.1 hy with h | h
        · rcases List.mem_append.1 hy2 with h3 | h3
          · exact hg.2 y h h3
          · rw [List.mem_singleton] at h3
            apply hno
            rw [hm, show -x = y by omega]
            exact h
        · rw [List.mem_singleton] at h
          subst h
          rcases List.mem_append.1 hy2 with h3 | h3
          · exact hno ((hm _).2 h3)
          · rw [List.mem_singleton] at h3
            exact hf.1 (by omega)
    refine ⟨hgood, insL_up x acc hu (fun y hy e => ?_), fun y => ?_⟩
    · rcases mag_eq e with h | h
      · exact h
      · subst h; exact absurd hy hno
    · rw [insL_mem, hm, htk, List.mem_append, List.mem_singleton]
      constructor
      · rintro (h | h)
        · exact .inr h
        · exact .inl h
      · rintro (h | h)
        · exact .inr h
        · exact .inl h
end Go.Proofs.Ytcbgnmkipbhncaa
