/-
  THE WALKS of layer 1: Numbers (scan's).
-/
import Derived.Test.YtimpddokepbabaaGreatDoorRefWords
import Derived.Test.YtimpddokepbabaaGreatDoorRefNumber
import Derived.Deep.Onto
namespace Go.Proofs.YtimpddokepbabaaGreatDoor
open Go.RowKit

/-- A slice of integers, of texts, that can be read. -/
def Ints (w : World) (v : Value) (xs : List Int) : Prop :=
  ∃ a cap, v = .slice a xs.length cap ∧ (xs = [] ∨ ∃ b off, a = some ⟨b, off, none⟩ ∧ ∀ i, i < xs.length → w.cell? ⟨b, off + i, none⟩ = some (.int .i64 (xs.getD i 0)))
def Strs (w : World) (v : Value) (xs : List ByteArray) : Prop :=
  ∃ a cap, v = .slice a xs.length cap ∧ (xs = [] ∨ ∃ b off, a = some ⟨b, off, none⟩ ∧ ∀ i, i < xs.length → w.cell? ⟨b, off + i, none⟩ = some (.string (xs.getD i ByteArray.empty)))

theorem Ints.nil (w : World) : Ints w (.slice none 0 0) [] := ⟨none, 0, rfl, .inl rfl⟩
theorem Strs.nil (w : World) : Strs w (.slice none 0 0) [] := ⟨none, 0, rfl, .inl rfl⟩

theorem Ints.below {w w' : World} {v : Value} {xs : List Int} (h : Ints w v xs) (hb : Below w.heap.size w w') : Ints w' v xs := by
  obtain ⟨a, cap, rfl, h⟩ := h
  refine ⟨a, cap, rfl, ?_⟩
  rcases h with h | ⟨b, off, rfl, h⟩
  · exact .inl h
  · exact .inr ⟨b, off, rfl, fun i hi => (hb.cell (block_lt_of_cell (h i hi))).trans (h i hi)⟩

theorem Strs.below {w w' : World} {v : Value} {xs : List ByteArray} (h : Strs w v xs) (hb : Below w.heap.size w w') : Strs w' v xs := by
  obtain ⟨a, cap, rfl, h⟩ := h
  refine ⟨a, cap, rfl, ?_⟩
  rcases h with h | ⟨b, off, rfl, h⟩
  · exact .inl h
  · exact .inr ⟨b, off, rfl, fun i hi => (hb.cell (block_lt_of_cell (h i hi))).trans (h i hi)⟩

theorem Strs.of_heap {w : World} {B : Nat} {l : List ByteArray} {t : TypeId} {c : Nat} (h : w.heap[B]? = some (.cells (strC l) t (0, 0))) : Strs w (.slice (some ⟨B, 0, none⟩) l.length c) l :=
  ⟨_, _, rfl, .inr ⟨B, 0, rfl, fun i hi => by rw [Nat.zero_add]; exact (cells_heap h (strC_get l i hi)).1⟩⟩

theorem Strs.of_own {w : World} {base : Nat} {e : TypeId} {v : Value} {l : List ByteArray} (h : w.ownsRow base e 1 v l.length (l.map Value.string)) : Strs w v l := by
  rcases h.2 with ⟨rfl, h0⟩ | ⟨g, cap, cur, rfl, _, hg, hc, _, _, ht⟩
  · obtain rfl := List.eq_nil_of_length_eq_zero h0
    exact Strs.nil w
  · refine ⟨_, _, rfl, .inr ⟨g, 0, rfl, fun i hi => ?_⟩⟩
    have h1 := h.cells (g := g) rfl i (.string (l.getD i ByteArray.empty)) (by rw [List.getElem?_map, List.getElem?_eq_getElem hi, List.getD_eq_getElem?_getD, List.getElem?_eq_getElem hi]; rfl)
    have hplain : (⟨g, 0, none⟩ : Addr).add i = ⟨g, 0 + i, none⟩ := by unfold Addr.add; split <;> simp_all
    rw [hplain] at h1
    exact h1

theorem Ints.of_own {w : World} {base : Nat} {e : TypeId} {v : Value} {n : Nat} {xs : List Value} {l : List Int} (h : w.ownsRow base e 1 v n xs) (hn : n = l.length) (hx : ∀ i, i < l.length → xs[i]? = some (.int .i64 (l.getD i 0))) : Ints w v l := by
  subst hn
  rcases h.2 with ⟨rfl, h0⟩ | ⟨g, cap, cur, rfl, _, hg, hc, _, _, ht⟩
  · obtain rfl := List.eq_nil_of_length_eq_zero h0
    exact Ints.nil w
  · refine ⟨_, _, rfl, .inr ⟨g, 0, rfl, fun i hi => ?_⟩⟩
    have h1 := h.cells (g := g) rfl i _ (hx i hi)
    have hplain : (⟨g, 0, none⟩ : Addr).add i = ⟨g, 0 + i, none⟩ := by unfold Addr.add; split <;> simp_all
    rw [hplain] at h1
    exact h1

/-- The first error of a Number, and the numbers. -/
def errAt (top : Int) : List ByteArray → Int
  | [] => 0
  | p :: r => if numE p.data.toList top = 0 then errAt top r else numE p.data.toList top
def valsOf (top : Int) (l : List ByteArray) : List Int := l.map fun p => numV p.data.toList top

theorem errAt_all (top : Int) (l : List ByteArray) : (∀ j, j < l.length → numE (l.getD j ByteArray.empty).data.toList top = 0) → errAt top l = 0 := by
  induction l with
  | nil => intro _; rfl
  | cons p r ih =>
    intro h
    have h0 : numE p.data.toList top = 0 := h 0 (by simp)
    rw [errAt, if_pos h0]
    exact ih (fun j hj => by have := h (j + 1) (by simpa using hj); simpa using this)

theorem errAt_first (top : Int) (l : List ByteArray) : ∀ k, k < l.length → (∀ j, j < k → numE (l.getD j ByteArray.empty).data.toList top = 0) → ¬ numE (l.getD k ByteArray.empty).data.toList top = 0 → errAt top l = numE (l.getD k ByteArray.empty).data.toList top := by
  induction l with
  | nil => intro k hk; simp at hk
  | cons p r ih =>
    intro k hk h hne
    cases k with
    | zero =>
      have hne : ¬ numE p.data.toList top = 0 := hne
      rw [errAt, if_neg hne]; rfl
    | succ k =>
      have h0 : numE p.data.toList top = 0 := h 0 (by omega)
      rw [errAt, if_pos h0]
      have := ih k (by simpa using hk) (fun j hj => by have := h (j + 1) (by omega); simpa using this) (by simpa using hne)
      rw [this]; rfl

/-- What Numbers answers: the numbers and the error. -/
def nsFit (s : ByteArray) (least most : Int) : Bool := okW s && (decide (least ≤ (spl s).length) && decide (((spl s).length : Int) ≤ most))
def nsE (s : ByteArray) (least most top : Int) : Int := if nsFit s least most = true then errAt top (spl s) else 2
def nsL (s : ByteArray) (least most top : Int) : List Int := if nsFit s least most = true ∧ errAt top (spl s) = 0 then valsOf top (spl s) else []

/-- A row of integers that the call made, and that nobody else has. -/
def OwnI (B : Nat) (w : World) (v : Value) (xs : List Int) : Prop := w.ownsRow B 3 1 v xs.length (xs.map (Value.int .i64))
theorem OwnI.nil (B : Nat) (w : World) : OwnI B w (.slice none 0 0) [] := World.ownsRow_nil _ _ _ _
theorem OwnI.of {B B' : Nat} {w : World} {v : Value} {n : Nat} {xs : List Value} {l : List Int} (h : w.ownsRow B 3 1 v n xs) (hB : B' ≤ B) (hn : n = l.length) (hx : ∀ i, i < l.length → xs[i]? = some (.int .i64 (l.getD i 0))) : OwnI B' w v l := by
  have hl : xs.length = n := by simpa using h.1
  have e : xs = l.map (Value.int .i64) := by
    apply List.ext_getElem?
    intro i
    by_cases hi : i < l.length
    · rw [hx i hi, List.getElem?_map, List.getElem?_eq_getElem hi, List.getD_eq_getElem?_getD, List.getElem?_eq_getElem hi]; rfl
    · rw [List.getElem?_eq_none (by omega), List.getElem?_eq_none (by rw [List.length_map]; omega)]
  subst hn
  rw [e] at h
  exact h.mono hB
theorem OwnI.ints {B : Nat} {w : World} {v : Value} {l : List Int} (h : OwnI B w v l) : Ints w v l :=
  Ints.of_own h rfl (fun i hi => by rw [List.getElem?_map, List.getElem?_eq_getElem hi, List.getD_eq_getElem?_getD, List.getElem?_eq_getElem hi]; rfl)

def NumsPost (s : ByteArray) (least most top : Int) (w : World) (e : Ending) (w' : World) : Prop :=
  ∃ v, e = .returned (.tuple #[v, .int .i64 (nsE s least most top)]) ∧ OwnI w.heap.size w' v (nsL s least most top) ∧ Below w.heap.size w w'

theorem nums_bad {s : ByteArray} {least most top : Int} {w w' : World} (h : ¬ nsFit s least most = true) (hb : Below w.heap.size w w') : NumsPost s least most top w (.returned (.tuple #[.slice none 0 0, .int .i64 2])) w' :=
  ⟨_, by rw [nsE, if_neg h], by rw [nsL, if_neg (fun e => h e.1)]; exact OwnI.nil _ _, hb⟩

theorem nums_err {s : ByteArray} {least most top : Int} {w w' : World} (h : nsFit s least most = true) (k : Nat) (hk : k < (spl s).length) (h1 : ∀ j, j < k → numE ((spl s).getD j ByteArray.empty).data.toList top = 0) (h2 : ¬ numE ((spl s).getD k ByteArray.empty).data.toList top = 0) (hb : Below w.heap.size w w') :
    NumsPost s least most top w (.returned (.tuple #[.slice none 0 0, .int .i64 (numE ((spl s).getD k ByteArray.empty).data.toList top)])) w' := by
  have he := errAt_first top (spl s) k hk h1 h2
  exact ⟨_, by rw [nsE, if_pos h, he], by rw [nsL, if_neg (fun e => h2 (he.symm.trans e.2))]; exact OwnI.nil _ _, hb⟩

theorem nums_ok {s : ByteArray} {least most top : Int} {w w' : World} {v : Value} (h : nsFit s least most = true) (h1 : ∀ j, j < (spl s).length → numE ((spl s).getD j ByteArray.empty).data.toList top = 0) (hv : OwnI w.heap.size w' v (valsOf top (spl s))) (hb : Below w.heap.size w w') :
    NumsPost s least most top w (.returned (.tuple #[v, .int .i64 0])) w' := by
  have he := errAt_all top (spl s) h1
  exact ⟨v, by rw [nsE, if_pos h, he], by rw [nsL, if_pos ⟨h, he⟩]; exact hv, hb⟩

theorem vals_get (top : Int) (l : List ByteArray) (i : Nat) (h : i < l.length) : (valsOf top l).getD i 0 = numV (l.getD i ByteArray.empty).data.toList top := by
  unfold valsOf
  rw [List.getD_eq_getElem?_getD, List.getElem?_map, List.getElem?_eq_getElem h, List.getD_eq_getElem?_getD, List.getElem?_eq_getElem h]
  rfl
theorem vals_length (top : Int) (l : List ByteArray) : (valsOf top l).length = l.length := List.length_map _
end Go.Proofs.YtimpddokepbabaaGreatDoor
