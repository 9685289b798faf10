/-
  SLICES OF TRIPLES WHILE THEY ARE FILLED.
-/
import Derived.Test.YtldodaejfipebaaNormLits
namespace Go.Proofs.Ytldodaejfipebaa
open Go.RowKit

theorem cellsT_cons (t : Tri) (ts : List Tri) : cellsT (t :: ts) = .int .i64 t.1 :: .int .i64 t.2.1 :: .int .i64 t.2.2 :: cellsT ts := rfl
theorem cellsS_cons (t : Sym) (ts : List Sym) : cellsS (t :: ts) = .int .u8 t.1 :: .int .i64 t.2.1 :: .string t.2.2 :: cellsS ts := rfl
theorem cellsT_set : ∀ (ts : List Tri) (i : Nat) (t : Tri), cellsT (ts.set i t) = (((cellsT ts).set (i * 3) (.int .i64 t.1)).set (i * 3 + 1) (.int .i64 t.2.1)).set (i * 3 + 2) (.int .i64 t.2.2)
  | [], i, t => by simp [cellsT]
  | x :: ts, 0, t => by simp [cellsT_cons]
  | x :: ts, i + 1, t => by
    rw [List.set_cons_succ, cellsT_cons, cellsT_set ts i t, cellsT_cons, show (i + 1) * 3 = i * 3 + 1 + 1 + 1 by omega]
    simp only [List.set_cons_succ]
theorem cellsS_set : ∀ (ts : List Sym) (i : Nat) (t : Sym), cellsS (ts.set i t) = (((cellsS ts).set (i * 3) (.int .u8 t.1)).set (i * 3 + 1) (.int .i64 t.2.1)).set (i * 3 + 2) (.string t.2.2)
  | [], i, t => by simp [cellsS]
  | x :: ts, 0, t => by simp [cellsS_cons]
  | x :: ts, i + 1, t => by
    rw [List.set_cons_succ, cellsS_cons, cellsS_set ts i t, cellsS_cons, show (i + 1) * 3 = i * 3 + 1 + 1 + 1 by omega]
    simp only [List.set_cons_succ]

theorem made_at (a b c : Value) (n k : Nat) (hk : k < n) : (madeCells #[a, b, c] (n * 3)).toList[k * 3]? = some a ∧ (madeCells #[a, b, c] (n * 3)).toList[k * 3 + 1]? = some b ∧ (madeCells #[a, b, c] (n * 3)).toList[k * 3 + 2]? = some c := by
  have e : ∀ i, i < n * 3 → (madeCells #[a, b, c] (n * 3)).toList[i]? = some ((#[a, b, c] : Array Value)[i % 3]!) := fun i hi => by
    rw [Array.getElem?_toList]; simp [madeCells, hi]
  have e0 : k * 3 % 3 = 0 := by omega
  have e1 : (k * 3 + 1) % 3 = 1 := by omega
  have e2 : (k * 3 + 2) % 3 = 2 := by omega
  refine ⟨?_, ?_, ?_⟩
  · rw [e _ (by omega), e0]; rfl
  · rw [e _ (by omega), e1]; rfl
  · rw [e _ (by omega), e2]; rfl
theorem made_eq {l : List Value} {a b c : Value} {n : Nat} (hl : l.length = n * 3) (h : ∀ k, k < n → l[k * 3]? = some a ∧ l[k * 3 + 1]? = some b ∧ l[k * 3 + 2]? = some c) : (madeCells #[a, b, c] (n * 3)).toList = l := by
  apply List.ext_getElem?
  intro i
  by_cases hi : i < n * 3
  · obtain ⟨k, hk, hik⟩ : ∃ k, k < n ∧ (i = k * 3 ∨ i = k * 3 + 1 ∨ i = k * 3 + 2) := ⟨i / 3, by omega, by omega⟩
    have h1 := made_at a b c n k hk
    have h2 := h k hk
    rcases hik with rfl | rfl | rfl
    · rw [h1.1, h2.1]
    · rw [h1.2.1, h2.2.1]
    · rw [h1.2.2, h2.2.2]
  · rw [List.getElem?_eq_none (by rw [Array.length_toList, size_madeCells]; omega), List.getElem?_eq_none (by omega)]
theorem madeT (n : Nat) : (madeCells (Value.agg #[.int .i64 0, .int .i64 0, .int .i64 0]).cells (n * 3)).toList = cellsT (List.replicate n (0, 0, 0)) :=
  made_eq (by rw [cellsT_len, List.length_replicate]) (fun k hk => by
    have hat := cellsT_at (List.replicate n (0, 0, 0)) k (by simpa using hk)
    rw [show atP (List.replicate n ((0, 0, 0) : Tri)) k = (0, 0, 0) from atP_replicate _ _ _ hk] at hat
    exact hat)
theorem madeS (n : Nat) : (madeCells (Value.agg #[.int .u8 0, .int .i64 0, .string ⟨#[]⟩]).cells (n * 3)).toList = cellsS (List.replicate n (0, 0, ⟨#[]⟩)) :=
  made_eq (by rw [cellsS_len, List.length_replicate]) (fun k hk => by
    have hat := cellsS_at (List.replicate n (0, 0, ⟨#[]⟩)) k (by simpa using hk)
    rw [show atP (List.replicate n ((0, 0, ⟨#[]⟩) : Sym)) k = (0, 0, ⟨#[]⟩) from atP_replicate _ _ _ hk] at hat
    exact hat)

/-- A slice of triples while it is filled. -/
structure TMk (w0 : World) (e : TypeId) (g m : Nat) (cs : List Value) (wr : World) : Prop where
  own : wr.ownsRow w0.heap.size e 3 (.slice (some ⟨g, 0, none⟩) m m) m cs
  below : Below w0.heap.size w0 wr
theorem TMk.alloc {w0 wr : World} {e : TypeId} {g m : Nat} {cs : List Value} (h : TMk w0 e g m cs wr) (o : Obj) : TMk w0 e g m cs (wr.alloc o) := ⟨h.own.alloc o, belowThen h.below (below_alloc wr o)⟩
theorem TMk.like {w0 wr : World} {e : TypeId} {g m : Nat} {cs : List Value} (h : TMk w0 e g m cs wr) (q : Nat) : TMk w0 e g m cs (wr.drewN q) := ⟨own_like h.own rfl, belowThen h.below (Drew.below ⟨q, rfl⟩)⟩
theorem TMk.set1 {w0 wr : World} {e : TypeId} {g m : Nat} {cs : List Value} (h : TMk w0 e g m cs wr) (i : Nat) (u : Value) : TMk w0 e g m (cs.set i u) (wr.setCell ⟨g, i, none⟩ u) := by
  obtain ⟨h1, h2⟩ := h.own.stored i u
  have hgb := (h.own.lt g rfl).1
  exact ⟨h1, h.below.grown h2 h.below.size (fun k hk => by cases hk; omega)⟩
theorem TMk.then {w0 wr w' : World} {e : TypeId} {g m : Nat} {cs : List Value} (h : TMk w0 e g m cs wr) (hb : Below wr.heap.size wr w') : TMk w0 e g m cs w' := ⟨own_below h.own hb, belowThen h.below hb⟩
theorem TMk.setT {w0 wr : World} {e : TypeId} {g m : Nat} {ts : List Tri} (h : TMk w0 e g m (cellsT ts) wr) (i : Nat) (t : Tri) : TMk w0 e g m (cellsT (ts.set i t)) (((wr.setCell ⟨g, i * 3, none⟩ (.int .i64 t.1)).setCell ⟨g, i * 3 + 1, none⟩ (.int .i64 t.2.1)).setCell ⟨g, i * 3 + 2, none⟩ (.int .i64 t.2.2)) := by
  rw [cellsT_set]; exact ((h.set1 _ _).set1 _ _).set1 _ _
theorem TMk.setS {w0 wr : World} {e : TypeId} {g m : Nat} {ts : List Sym} (h : TMk w0 e g m (cellsS ts) wr) (i : Nat) (t : Sym) : TMk w0 e g m (cellsS (ts.set i t)) (((wr.setCell ⟨g, i * 3, none⟩ (.int .u8 t.1)).setCell ⟨g, i * 3 + 1, none⟩ (.int .i64 t.2.1)).setCell ⟨g, i * 3 + 2, none⟩ (.string t.2.2)) := by
  rw [cellsS_set]; exact ((h.set1 _ _).set1 _ _).set1 _ _
/-- The three cells of an element. -/
theorem TMk.at3 {w0 wr : World} {e : TypeId} {g m : Nat} {cs : List Value} (h : TMk w0 e g m cs wr) (k : Nat) (hk : k < m) : ∃ u0 u1 u2, wr.cell? ⟨g, k * 3, none⟩ = some u0 ∧ wr.cell? ⟨g, k * 3 + 1, none⟩ = some u1 ∧ wr.cell? ⟨g, k * 3 + 2, none⟩ = some u2 := by
  have hl := h.own.1
  have hc := fun j (hj : j < m * 3) => h.own.cells rfl j _ (List.getElem?_eq_getElem (show j < cs.length by omega))
  have h0 := hc (k * 3) (by omega)
  have h1 := hc (k * 3 + 1) (by omega)
  have h2 := hc (k * 3 + 2) (by omega)
  rw [add_plain, Nat.zero_add] at h0 h1 h2
  exact ⟨_, _, _, h0, h1, h2⟩
end Go.Proofs.Ytldodaejfipebaa
