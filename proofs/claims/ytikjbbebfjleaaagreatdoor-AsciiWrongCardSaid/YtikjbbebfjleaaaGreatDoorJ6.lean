/-
  THE WALKS of layer 1: Numbers (scan's).
  HEAPS, no function of the program: lists of which two places are swapped, the order of a heap, what sifting down does.
-/
import Derived.Test.YtikjbbebfjleaaaGreatDoorJ5
import Derived.Deep.Onto
import Derived.Test.YtikjbbebfjleaaaGreatDoorJ0
namespace Go.Proofs.YtikjbbebfjleaaaGreatDoor
open Go.RowKit

/-- A slice of integers, of texts, that can be read. -/
def Ints (w : World) (v : Value) (xs : List Int) : Prop :=
  ∃ a cap, v = .slice a xs.length cap ∧ (xs = [] ∨ ∃ b off, a = some ⟨b, off, none⟩ ∧ ∀ i, i < xs.length → w.cell? ⟨b, off + i, none⟩ = some (.int .i64 (xs.getD i 0)))
def Strs (w : World) (v : Value) (xs : List ByteArray) : Prop :=
  ∃ a cap, v = .slice a xs.length cap ∧ (xs = [] ∨ ∃ b off, a = some ⟨b, off, none⟩ ∧ ∀ i, i < xs.length → w.cell? ⟨b, off + i, none⟩ = some (.string (xs.getD i ByteArray.empty)))

theorem Ints.nil (w : World) : Ints w (.slice none 0 0) [] := ⟨none, 0, rfl, .inl rfl⟩
theorem Strs.nil (w : World) : Strs w (.slice none 0 0) [] := ⟨none, 0, rfl, .inl rfl⟩

theorem Ints.below {w w' : World} {v : Value} {xs : List Int} (h : Ints w v xs) (hb : Below w.heap.size w w') : Ints w' v xs := by
  obtain ⟨a, cap, rfl, h⟩ := h
  refine ⟨a, cap, rfl, ?_⟩
  rcases h with h | ⟨b, off, rfl, h⟩
  · exact .inl h
  · exact .inr ⟨b, off, rfl, fun i hi => (hb.cell (block_lt_of_cell (h i hi))).trans (h i hi)⟩

theorem Strs.below {w w' : World} {v : Value} {xs : List ByteArray} (h : Strs w v xs) (hb : Below w.heap.size w w') : Strs w' v xs := by
  obtain ⟨a, cap, rfl, h⟩ := h
  refine ⟨a, cap, rfl, ?_⟩
  rcases h with h | ⟨b, off, rfl, h⟩
  · exact .inl h
  · exact .inr ⟨b, off, rfl, fun i hi => (hb.cell (block_lt_of_cell (h i hi))).trans (h i hi)⟩

theorem Strs.of_heap {w : World} {B : Nat} {l : List ByteArray} {t : TypeId} {c : Nat} (h : w.heap[B]? = some (.cells (strC l) t (0, 0))) : Strs w (.slice (some ⟨B, 0, none⟩) l.length c) l :=
  ⟨_, _, rfl, .inr ⟨B, 0, rfl, fun i hi => by rw [Nat.zero_add]; exact (cells_heap h (strC_get l i hi)).1⟩⟩

theorem Strs.of_own {w : World} {base : Nat} {e : TypeId} {v : Value} {l : List ByteArray} (h : w.ownsRow base e 1 v l.length (l.map Value.string)) : Strs w v l := by
  rcases h.2 with ⟨rfl, h0⟩ | ⟨g, cap, cur, rfl, _, hg, hc, _, _, ht⟩
  · obtain rfl := List.eq_nil_of_length_eq_zero h0
    exact Strs.nil w
  · refine ⟨_, _, rfl, .inr ⟨g, 0, rfl, fun i hi => ?_⟩⟩
    have h1 := h.cells (g := g) rfl i (.string (l.getD i ByteArray.empty)) (by rw [List.getElem?_map, List.getElem?_eq_getElem hi, List.getD_eq_getElem?_getD, List.getElem?_eq_getElem hi]; rfl)
    have hplain : (⟨g, 0, none⟩ : Addr).add i = ⟨g, 0 + i, none⟩ := by unfold Addr.add; split <;> simp_all
    rw [hplain] at h1
    exact h1

theorem Ints.of_own {w : World} {base : Nat} {e : TypeId} {v : Value} {n : Nat} {xs : List Value} {l : List Int} (h : w.ownsRow base e 1 v n xs) (hn : n = l.length) (hx : ∀ i, i < l.length → xs[i]? = some (.int .i64 (l.getD i 0))) : Ints w v l := by
  subst hn
  rcases h.2 with ⟨rfl, h0⟩ | ⟨g, cap, cur, rfl, _, hg, hc, _, _, ht⟩
  · obtain rfl := List.eq_nil_of_length_eq_zero h0
    exact Ints.nil w
  · refine ⟨_, _, rfl, .inr ⟨g, 0, rfl, fun i hi => ?_⟩⟩
    have h1 := h.cells (g := g) rfl i _ (hx i hi)
    have hplain : (⟨g, 0, none⟩ : Addr).add i = ⟨g, 0 + i, none⟩ := by unfold Addr.add; split <;> simp_all
    rw [hplain] at h1
    exact h1

/-- The first error of a Number, and the numbers. -/
def errAt (top : Int) : List ByteArray → Int
  | [] => 0
  | p :: r => if numE p.data.toList top = 0 then errAt top r else numE p.data.toList top
def valsOf (top : Int) (l : List ByteArray) : List Int := l.map fun p => numV p.data.toList top

theorem errAt_all (top : Int) (l : List ByteArray) : (∀ j, j < l.length → numE (l.getD j ByteArray.empty).data.toList top = 0) → errAt top l = 0 := by
  induction l with
  | nil => intro _; rfl
  | cons p r ih =>
    intro h
    have h0 : numE p.data.toList top = 0 := h 0 (by simp)
    rw [errAt, if_pos h0]
    exact ih (fun j hj => by have := h (j + 1) (by simpa using hj); simpa using this)

theorem errAt_first (top : Int) (l : List ByteArray) : ∀ k, k < l.length → (∀ j, j < k → numE (l.getD j ByteArray.empty).data.toList top = 0) → ¬ numE (l.getD k ByteArray.empty).data.toList top = 0 → errAt top l = numE (l.getD k ByteArray.empty).data.toList top := by
  induction l with
  | nil => intro k hk; simp at hk
  | cons p r ih =>
    intro k hk h hne
    cases k with
    | zero =>
      have hne : ¬ numE p.data.toList top = 0 := hne
      rw [errAt, if_neg hne]; rfl
    | succ k =>
      have h0 : numE p.data.toList top = 0 := h 0 (by omega)
      rw [errAt, if_pos h0]
      have := ih k (by simpa using hk) (fun j hj => by have := h (j + 1) (by omega); simpa using this) (by simpa using hne)
      rw [this]; rfl

/-- What Numbers answers: the numbers and the error. -/
def nsFit (s : ByteArray) (least most : Int) : Bool := okW s && (decide (least ≤ (spl s).length) && decide (((spl s).length : Int) ≤ most))
def nsE (s : ByteArray) (least most top : Int) : Int := if nsFit s least most = true then errAt top (spl s) else 2
def nsL (s : ByteArray) (least most top : Int) : List Int := if nsFit s least most = true ∧ errAt top (spl s) = 0 then valsOf top (spl s) else []

/-- A row of integers that the call made, and that nobody else has. -/
def OwnI (B : Nat) (w : World) (v : Value) (xs : List Int) : Prop := w.ownsRow B 3 1 v xs.length (xs.map (Value.int .i64))
theorem OwnI.nil (B : Nat) (w : World) : OwnI B w (.slice none 0 0) [] := World.ownsRow_nil _ _ _ _
theorem OwnI.of {B B' : Nat} {w : World} {v : Value} {n : Nat} {xs : List Value} {l : List Int} (h : w.ownsRow B 3 1 v n xs) (hB : B' ≤ B) (hn : n = l.length) (hx : ∀ i, i < l.length → xs[i]? = some (.int .i64 (l.getD i 0))) : OwnI B' w v l := by
  have hl : xs.length = n := by simpa using h.1
  have e : xs = l.map (Value.int .i64) := by
    apply List.ext_getElem?
    intro i
    by_cases hi : i < l.length
    · rw [hx i hi, List.getElem?_map, List.getElem?_eq_getElem hi, List.getD_eq_getElem?_getD, List.getElem?_eq_getElem hi]; rfl
    · rw [List.getElem?_eq_none (by omega), List.getElem?_eq_none (by rw [List.length_map]; omega)]
  subst hn
  rw [e] at h
  exact h.mono hB
theorem OwnI.ints {B : Nat} {w : World} {v : Value} {l : List Int} (h : OwnI B w v l) : Ints w v l :=
  Ints.of_own h rfl (fun i hi => by rw [List.getElem?_map, List.getElem?_eq_getElem hi, List.getD_eq_getElem?_getD, List.getElem?_eq_getElem hi]; rfl)

def NumsPost (s : ByteArray) (least most top : Int) (w : World) (e : Ending) (w' : World) : Prop :=
  ∃ v, e = .returned (.tuple #[v, .int .i64 (nsE s least most top)]) ∧ OwnI w.heap.size w' v (nsL s least most top) ∧ Below w.heap.size w w'

theorem nums_bad {s : ByteArray} {least most top : Int} {w w' : World} (h : ¬ nsFit s least most = true) (hb : Below w.heap.size w w') : NumsPost s least most top w (.returned (.tuple #[.slice none 0 0, .int .i64 2])) w' :=
  ⟨_, by rw [nsE, if_neg h], by rw [nsL, if_neg (fun e => h e.1)]; exact OwnI.nil _ _, hb⟩

theorem nums_err {s : ByteArray} {least most top : Int} {w w' : World} (h : nsFit s least most = true) (k : Nat) (hk : k < (spl s).length) (h1 : ∀ j, j < k → numE ((spl s).getD j ByteArray.empty).data.toList top = 0) (h2 : ¬ numE ((spl s).getD k ByteArray.empty).data.toList top = 0) (hb : Below w.heap.size w w') :
    NumsPost s least most top w (.returned (.tuple #[.slice none 0 0, .int .i64 (numE ((spl s).getD k ByteArray.empty).data.toList top)])) w' := by
  have he := errAt_first top (spl s) k hk h1 h2
  exact ⟨_, by rw [nsE, if_pos h, he], by rw [nsL, if_neg (fun e => h2 (he.symm.trans e.2))]; exact OwnI.nil _ _, hb⟩

theorem nums_ok {s : ByteArray} {least most top : Int} {w w' : World} {v : Value} (h : nsFit s least most = true) (h1 : ∀ j, j < (spl s).length → numE ((spl s).getD j ByteArray.empty).data.toList top = 0) (hv : OwnI w.heap.size w' v (valsOf top (spl s))) (hb : Below w.heap.size w w') :
    NumsPost s least most top w (.returned (.tuple #[v, .int .i64 0])) w' := by
  have he := errAt_all top (spl s) h1
  exact ⟨v, by rw [nsE, if_pos h, he], by rw [nsL, if_pos ⟨h, he⟩]; exact hv, hb⟩

theorem vals_get (top : Int) (l : List ByteArray) (i : Nat) (h : i < l.length) : (valsOf top l).getD i 0 = numV (l.getD i ByteArray.empty).data.toList top := by
  unfold valsOf
  rw [List.getD_eq_getElem?_getD, List.getElem?_map, List.getElem?_eq_getElem h, List.getD_eq_getElem?_getD, List.getElem?_eq_getElem h]
  rfl
theorem vals_length (top : Int) (l : List ByteArray) : (valsOf top l).length = l.length := List.length_map _
end Go.Proofs.YtikjbbebfjleaaaGreatDoor

namespace Go.Proofs.YtikjbbebfjleaaaGreatDoor
section
variable {α : Type}
/-- What is asked of 'less'. -/
structure Weak (lt : α → α → Bool) : Prop where
  asymm : ∀ a b, lt a b = true → lt b a = false
  trans : ∀ a b c, lt b a = false → lt c b = false → lt c a = false

variable {lt : α → α → Bool}
theorem Weak.irr (O : Weak lt) (a : α) : lt a a = false := by
  cases h : lt a a with
  | false => rfl
  | true => rw [O.asymm a a h] at h; cases h

/-- In order. -/
def RiseP (lt : α → α → Bool) (xs : List α) : Prop := xs.Pairwise fun a b => lt b a = false

/-- One that is taken off the heap behind those that were. -/
theorem rise_step {l acc xs ys : List α} {x : α} (hr : RiseP lt acc) (hge : ∀ a ∈ acc, ∀ y ∈ xs, lt y a = false) (hp : (acc ++ xs).Perm l) (hxs : (x :: ys).Perm xs) (hmin : ∀ y ∈ ys, lt y x = false) :
    RiseP lt (acc ++ [x]) ∧ (∀ a ∈ acc ++ [x], ∀ y ∈ ys, lt y a = false) ∧ (acc ++ [x] ++ ys).Perm l := by
  refine ⟨?_, fun a ha y hy => ?_, ?_⟩
  · refine List.pairwise_append.2 ⟨hr, List.pairwise_singleton _ _, fun a ha b hb => ?_⟩
    rw [List.mem_singleton] at hb
    subst hb
    exact hge a ha b (hxs.mem_iff.1 List.mem_cons_self)
  · rcases List.mem_append.1 ha with h | h
    · exact hge a h y (hxs.mem_iff.1 (List.mem_cons_of_mem _ hy))
    · rw [List.mem_singleton] at h
      subst h
      exact hmin y hy
  · rw [List.append_assoc]
    exact (List.Perm.append_left acc hxs).trans hp
end

section
variable {α : Type} [Inhabited α]

def atP (xs : List α) (i : Nat) : α := xs.getD i default
def swpP (xs : List α) (i j : Nat) : List α := (xs.set i (atP xs j)).set j (atP xs i)

theorem atP_eq (xs : List α) (i : Nat) (h : i < xs.length) : atP xs i = xs[i] := by simp [atP, List.getD_eq_getElem?_getD, List.getElem?_eq_getElem h]
theorem atP_mem (xs : List α) (i : Nat) (h : i < xs.length) : atP xs i ∈ xs := by rw [atP_eq xs i h]; exact List.getElem_mem h
theorem atP_some (xs : List α) (i : Nat) (h : i < xs.length) : xs[i]? = some (atP xs i) := by rw [atP_eq xs i h, List.getElem?_eq_getElem h]
theorem swpP_len (xs : List α) (i j : Nat) : (swpP xs i j).length = xs.length := by simp [swpP]
theorem swpP_right (xs : List α) (i j : Nat) (hj : j < xs.length) : atP (swpP xs i j) j = atP xs i := by simp [atP, swpP, List.getD_eq_getElem?_getD, hj]
theorem swpP_other (xs : List α) (i j m : Nat) (h1 : m ≠ i) (h2 : m ≠ j) : atP (swpP xs i j) m = atP xs m := by
  simp [atP, swpP, List.getD_eq_getElem?_getD, Ne.symm h1, Ne.symm h2]
theorem swpP_left (xs : List α) (i j : Nat) (hi : i < xs.length) : atP (swpP xs i j) i = atP xs j := by
  by_cases h : i = j
  · subst h; exact swpP_right xs i i hi
  · simp [atP, swpP, List.getD_eq_getElem?_getD, hi, Ne.symm h]

theorem split_at (l : List α) (i : Nat) (h : i < l.length) : l = l.take i ++ atP l i :: l.drop (i + 1) := by
  rw [atP_eq l i h, List.getElem_cons_drop, List.take_append_drop]

theorem swap_perm_lt (xs : List α) (i j : Nat) (hij : i < j) (hj : j < xs.length) : (swpP xs i j).Perm xs := by
  have hi : i < xs.length := by omega
  -- xs = A ++ a :: (B ++ b :: D)
  obtain ⟨A, a, S, rfl, hA⟩ : ∃ A a S, xs = A ++ a :: S ∧ A.length = i := ⟨xs.take i, atP xs i, xs.drop (i + 1), split_at xs i hi, by rw [List.length_take]; omega⟩
  obtain ⟨k, rfl⟩ : ∃ k, j = i + 1 + k := ⟨j - (i + 1), by omega⟩
  have hk : k < S.length := by simp at hj; omega
  obtain ⟨B, b, D, rfl, hB⟩ : ∃ B b D, S = B ++ b :: D ∧ B.length = k := ⟨S.take k, atP S k, S.drop (k + 1), split_at S k hk, by rw [List.length_take]; omega⟩
  have e1 : atP (A ++ a :: (B ++ b :: D)) i = a := by simp [atP, ← hA]
  have e2 : atP (A ++ a :: (B ++ b :: D)) (i + 1 + k) = b := by
    have : A ++ a :: (B ++ b :: D) = (A ++ a :: B) ++ b :: D := by simp
    rw [this]
    have hl : (A ++ a :: B).length = i + 1 + k := by simp [hA, hB]; omega
    rw [← hl]; simp [atP]
  have e3 : swpP (A ++ a :: (B ++ b :: D)) i (i + 1 + k) = A ++ b :: (B ++ a :: D) := by
    unfold swpP
    rw [e1, e2]
    have s1 : (A ++ a :: (B ++ b :: D)).set i b = A ++ b :: (B ++ b :: D) := by
      rw [List.set_append_right _ _ (by omega)]; simp [hA]
    rw [s1]
    have s2 : A ++ b :: (B ++ b :: D) = (A ++ b :: B) ++ b :: D := by simp
    have hl : (A ++ b :: B).length = i + 1 + k := by simp [hA, hB]; omega
    rw [s2, List.set_append_right _ _ (by omega)]
    simp [hl]
  rw [e3]
  refine List.Perm.append_left A ?_
  have p1 : (b :: (B ++ a :: D)).Perm (b :: a :: (B ++ D)) := List.Perm.cons b List.perm_middle
  have p2 : (a :: (B ++ b :: D)).Perm (a :: b :: (B ++ D)) := List.Perm.cons a List.perm_middle
  exact (p1.trans (List.Perm.swap a b _)).trans p2.symm

theorem ext_atP (a b : List α) (hl : a.length = b.length) (h : ∀ i, i < a.length → atP a i = atP b i) : a = b := by
  refine List.ext_getElem hl fun i h1 h2 => ?_
  have := h i h1
  rwa [atP_eq a i h1, atP_eq b i h2] at this

theorem swpP_comm (xs : List α) (i j : Nat) (hi : i < xs.length) (hj : j < xs.length) : swpP xs i j = swpP xs j i := by
  refine ext_atP _ _ (by rw [swpP_len, swpP_len]) fun m hm => ?_
  rw [swpP_len] at hm
  by_cases h1 : m = i
  · subst h1; rw [swpP_left _ _ _ hi, swpP_right _ _ _ hi]
  · by_cases h2 : m = j
    · subst h2; rw [swpP_left _ _ _ hj, swpP_right _ _ _ hj]
    · rw [swpP_other _ _ _ _ h1 h2, swpP_other _ _ _ _ h2 h1]

theorem swpP_perm (xs : List α) (i j : Nat) (hi : i < xs.length) (hj : j < xs.length) : (swpP xs i j).Perm xs := by
  rcases Nat.lt_trichotomy i j with h | h | h
  · exact swap_perm_lt xs i j h hj
  · subst h
    have : swpP xs i i = xs := ext_atP _ _ (swpP_len _ _ _) fun m hm => by
      by_cases h : m = i
      · subst h; exact swpP_left _ _ _ hi
      · exact swpP_other _ _ _ _ h h
    rw [this]
  · rw [swpP_comm xs i j hi hj]; exact swap_perm_lt xs j i h hi

variable {lt : α → α → Bool}
def OkP (lt : α → α → Bool) (xs : List α) (n j : Nat) : Prop := ∀ c, (c = 2 * j + 1 ∨ c = 2 * j + 2) → c < n → lt (atP xs c) (atP xs j) = false
/-- All is in order from lo on, but for place i, whose children stand in order with its parent. -/
def InvP (lt : α → α → Bool) (lo n i : Nat) (xs : List α) : Prop :=
  (∀ j, lo ≤ j → j ≠ i → OkP lt xs n j) ∧ ∀ p c, lo ≤ p → (i = 2 * p + 1 ∨ i = 2 * p + 2) → (c = 2 * i + 1 ∨ c = 2 * i + 2) → c < n → lt (atP xs c) (atP xs p) = false

theorem InvP.swap (O : Weak lt) {lo n i j : Nat} {xs : List α} (h : InvP lt lo n i xs) (hlo : lo ≤ i) (hn : n ≤ xs.length) (hj : j = 2 * i + 1 ∨ j = 2 * i + 2) (hjn : j < n)
    (hlt : lt (atP xs j) (atP xs i) = true) (hmin : ∀ c, (c = 2 * i + 1 ∨ c = 2 * i + 2) → c < n → lt (atP xs c) (atP xs j) = false) : InvP lt lo n j (swpP xs i j) := by
  obtain ⟨h1, h2⟩ := h
  have hi : i < xs.length := by omega
  have hjl : j < xs.length := by omega
  refine ⟨fun m hm hmj c hc hcn => ?_, fun p c hp hjp hc hcn => ?_⟩
  · by_cases hmi : m = i
    · subst hmi
      rw [swpP_left _ _ _ hi]
      by_cases hcj : c = j
      · subst hcj; rw [swpP_right _ _ _ hjl]; exact O.asymm _ _ hlt
      · rw [swpP_other _ _ _ _ (by omega) hcj]; exact hmin c hc hcn
    · rw [swpP_other _ _ _ m (by omega) (by omega)]
      by_cases hci : c = i
      · subst hci
        rw [swpP_left _ _ _ hi]
        exact h2 m j hm hc hj hjn
      · rw [swpP_other _ _ _ c hci (by omega)]
        exact h1 m hm hmi c hc hcn
  · obtain rfl : p = i := by omega
    rw [swpP_left _ _ _ hi, swpP_other _ _ _ c (by omega) (by omega)]
    exact h1 j (by omega) (by omega) c hc hcn

theorem InvP.done {lo n i : Nat} {xs : List α} (h : InvP lt lo n i xs) (hi : OkP lt xs n i) : ∀ j, lo ≤ j → OkP lt xs n j := fun j hj => by
  by_cases e : j = i
  · subst e; exact hi
  · exact h.1 j hj e

def HeapP (lt : α → α → Bool) (xs : List α) : Prop := ∀ j, OkP lt xs xs.length j

theorem HeapP.min (O : Weak lt) {xs : List α} (h : HeapP lt xs) : ∀ i, i < xs.length → lt (atP xs i) (atP xs 0) = false := by
  intro i
  induction i using Nat.strongRecOn with
  | _ i ih =>
    intro hi
    by_cases h0 : i = 0
    · subst h0; exact O.irr _
    · have hp := h ((i - 1) / 2) i (by omega) hi
      exact O.trans _ _ _ (ih ((i - 1) / 2) (by omega) (by omega)) hp

/-- What sifting down among the first n leaves. -/
def DownP (n : Nat) (xs ys : List α) : Prop := ys.Perm xs ∧ ∀ m, n ≤ m → atP ys m = atP xs m
theorem DownP.refl (n : Nat) (xs : List α) : DownP n xs xs := ⟨List.Perm.refl _, fun _ _ => rfl⟩
theorem DownP.len {n : Nat} {xs ys : List α} (h : DownP n xs ys) : ys.length = xs.length := h.1.length_eq
theorem DownP.swap {n i j : Nat} {xs ys : List α} (h : DownP n xs ys) (hn : n ≤ xs.length) (hi : i < n) (hj : j < n) : DownP n xs (swpP ys i j) :=
  ⟨(swpP_perm ys i j (by rw [h.len]; omega) (by rw [h.len]; omega)).trans h.1, fun m hm => by rw [swpP_other _ _ _ _ (by omega) (by omega)]; exact h.2 m hm⟩

/-- A heap whose first and last are swapped. -/
theorem pop_inv {xs : List α} {n : Nat} (h : HeapP lt xs) (hl : xs.length = n + 1) : InvP lt 0 n 0 (swpP xs 0 n) := by
  refine ⟨fun j _ hj c hc hcn => ?_, fun p c _ hp => by omega⟩
  rw [swpP_other _ _ _ c (by omega) (by omega), swpP_other _ _ _ j hj (by omega)]
  exact h j c hc (by omega)

theorem pop_end (O : Weak lt) {xs zs : List α} {n : Nat} (h : HeapP lt xs) (hl : xs.length = n + 1) (hd : DownP n (swpP xs 0 n) zs) (hok : ∀ j, 0 ≤ j → OkP lt zs n j) :
    zs = zs.take n ++ [atP xs 0] ∧ HeapP lt (zs.take n) ∧ (atP xs 0 :: zs.take n).Perm xs ∧ ∀ y ∈ zs.take n, lt y (atP xs 0) = false := by
  have hzl : zs.length = n + 1 := by rw [hd.len, swpP_len, hl]
  have e1 : atP zs n = atP xs 0 := by rw [hd.2 n (Nat.le_refl _), swpP_right _ _ _ (by omega)]
  have e2 : zs = zs.take n ++ [atP xs 0] := by
    have := split_at zs n (by omega)
    rw [e1, List.drop_eq_nil_of_le (by omega)] at this
    exact this
  have htl : (zs.take n).length = n := by rw [List.length_take]; omega
  have hat : ∀ m, m < n → atP (zs.take n) m = atP zs m := fun m hm => by simp [atP, List.getD_eq_getElem?_getD, List.getElem?_take_of_lt hm]
  have hp : (atP xs 0 :: zs.take n).Perm xs := by
    have p1 : zs.Perm xs := hd.1.trans (swpP_perm xs 0 n (by omega) (by omega))
    have p2 : (zs.take n ++ [atP xs 0]).Perm (atP xs 0 :: zs.take n) := List.perm_append_singleton _ _
    rw [e2] at p1
    exact p2.symm.trans p1
  refine ⟨e2, fun j c hc hcn => ?_, hp, fun y hy => ?_⟩
  · rw [htl] at hcn
    rw [hat c hcn, hat j (by omega)]
    exact hok j (Nat.zero_le _) c hc hcn
  · have hy' : y ∈ xs := hp.mem_iff.1 (List.mem_cons_of_mem _ hy)
    obtain ⟨i, hi, rfl⟩ := List.getElem_of_mem hy'
    rw [← atP_eq xs i hi]
    exact h.min O i hi

end
end Go.Proofs.YtikjbbebfjleaaaGreatDoor
