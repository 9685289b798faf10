/-
  HOW A CIRCUIT LIES IN MEMORY.
-/
import Derived.Test.YtppaifckiaaffaaAigPlain
namespace Go.Proofs.Ytppaifckiaaffaa
open Go.RowKit

/-- The cells of a list of triples of ints. -/
def cellsT (ts : List Tri) : List Value := ts.flatMap (fun t => [.int .i64 t.1, .int .i64 t.2.1, .int .i64 t.2.2])
def cellsS (ts : List Sym) : List Value := ts.flatMap (fun t => [.int .u8 t.1, .int .i64 t.2.1, .string t.2.2])

/-- A slice that can be read, whatever its elements: its cells. -/
def RowC (w : World) (a : Option Addr) (cs : List Value) : Prop := (a = none ∧ cs = []) ∨ ∃ x, a = some x ∧ ∀ j u, cs[j]? = some u → w.cell? (x.add j) = some u

theorem RowC.below {w w' : World} {a : Option Addr} {cs : List Value} (h : RowC w a cs) (hb : Below w.heap.size w w') : RowC w' a cs := by
  rcases h with h | ⟨x, rfl, hx⟩
  · exact .inl h
  · exact .inr ⟨x, rfl, fun j u hu => by have h1 := hx j u hu; exact (hb.cell (block_lt_of_cell h1)).trans h1⟩

theorem RowC.addr {w : World} {a : Option Addr} {cs : List Value} (h : RowC w a cs) (hp : 0 < cs.length) : ∃ b off, a = some ⟨b, off, none⟩ ∧ b < w.heap.size ∧ ∀ j u, cs[j]? = some u → w.cell? ⟨b, off + j, none⟩ = some u := by
  rcases h with ⟨_, rfl⟩ | ⟨⟨b, off, spot⟩, rfl, hx⟩
  · simp at hp
  · have hc := hx 0 _ (List.getElem?_eq_getElem hp)
    have hspot : spot = none := by simpa [Addr.add] using World.cell?_spot hc
    subst hspot
    refine ⟨b, off, rfl, ?_, fun i u hi => ?_⟩
    · have := block_lt_of_cell hc
      rw [add_plain] at this
      exact this
    · have h1 := hx i u hi
      rw [← add_plain]
      exact h1

theorem rowC_of {k : IntKind} {w : World} {a : Option Addr} {xs : List Int} (h : RowK k w a xs) : RowC w a (xs.map (Value.int k)) := by
  rcases h with ⟨rfl, rfl⟩ | ⟨x, rfl, hx⟩
  · exact .inl ⟨rfl, rfl⟩
  · exact .inr ⟨x, rfl, cells_map hx⟩

theorem cellsT_len (ts : List Tri) : (cellsT ts).length = ts.length * 3 := by
  unfold cellsT
  induction ts with
  | nil => rfl
  | cons t ts ih => rw [List.flatMap_cons, List.length_append, ih]; simp; omega
theorem cellsS_len (ts : List Sym) : (cellsS ts).length = ts.length * 3 := by
  unfold cellsS
  induction ts with
  | nil => rfl
  | cons t ts ih => rw [List.flatMap_cons, List.length_append, ih]; simp; omega
theorem cellsT_append (a b : List Tri) : cellsT (a ++ b) = cellsT a ++ cellsT b := by simp [cellsT]
theorem cellsS_append (a b : List Sym) : cellsS (a ++ b) = cellsS a ++ cellsS b := by simp [cellsS]

theorem three_at {α : Type} [Inhabited α] (f g h : α → Value) (ts : List α) (i : Nat) (hi : i < ts.length) :
    (ts.flatMap (fun t => [f t, g t, h t]))[i * 3]? = some (f (atP ts i)) ∧ (ts.flatMap (fun t => [f t, g t, h t]))[i * 3 + 1]? = some (g (atP ts i)) ∧ (ts.flatMap (fun t => [f t, g t, h t]))[i * 3 + 2]? = some (h (atP ts i)) := by
  have hl : ∀ l : List α, (l.flatMap (fun t => [f t, g t, h t])).length = l.length * 3 := fun l => by
    induction l with
    | nil => rfl
    | cons t ts ih => rw [List.flatMap_cons, List.length_append, ih]; simp; omega
  have e := split_at ts i hi
  have e1 : ts.flatMap (fun t => [f t, g t, h t]) = (ts.take i).flatMap (fun t => [f t, g t, h t]) ++ (f (atP ts i) :: g (atP ts i) :: h (atP ts i) :: (ts.drop (i + 1)).flatMap (fun t => [f t, g t, h t])) := by
    conv => lhs; rw [e]
    rw [List.flatMap_append, List.flatMap_cons]
    rfl
  have hk : ((ts.take i).flatMap (fun t => [f t, g t, h t])).length = i * 3 := by rw [hl, List.length_take, Nat.min_eq_left (by omega)]
  rw [e1]
  generalize (ts.take i).flatMap (fun t => [f t, g t, h t]) = L at hk
  subst_vars
  refine ⟨?_, ?_, ?_⟩
  · rw [← hk]; simp
  · rw [← hk, List.getElem?_append_right (by omega), Nat.add_sub_cancel_left]; rfl
  · rw [← hk, List.getElem?_append_right (by omega), Nat.add_sub_cancel_left]; rfl

theorem cellsT_at (ts : List Tri) (i : Nat) (hi : i < ts.length) : (cellsT ts)[i * 3]? = some (.int .i64 (atP ts i).1) ∧ (cellsT ts)[i * 3 + 1]? = some (.int .i64 (atP ts i).2.1) ∧ (cellsT ts)[i * 3 + 2]? = some (.int .i64 (atP ts i).2.2) :=
  three_at _ _ _ ts i hi
theorem cellsS_at (ts : List Sym) (i : Nat) (hi : i < ts.length) : (cellsS ts)[i * 3]? = some (.int .u8 (atP ts i).1) ∧ (cellsS ts)[i * 3 + 1]? = some (.int .i64 (atP ts i).2.1) ∧ (cellsS ts)[i * 3 + 2]? = some (.string (atP ts i).2.2) :=
  three_at _ _ _ ts i hi
theorem cellsT_one (ts : List Tri) : ∀ u ∈ cellsT ts, u.oneCell' = true := by
  intro u hu
  obtain ⟨t, _, h⟩ := List.mem_flatMap.1 hu
  simp at h
  rcases h with rfl | rfl | rfl <;> rfl
theorem cellsS_one (ts : List Sym) : ∀ u ∈ cellsS ts, u.oneCell' = true := by
  intro u hu
  obtain ⟨t, _, h⟩ := List.mem_flatMap.1 hu
  simp at h
  rcases h with rfl | rfl | rfl <;> rfl

/-- A circuit's value: a number and seven slices. -/
structure CV where
  m : Int
  a1 : Option Addr
  n1 : Nat
  c1 : Nat
  a2 : Option Addr
  n2 : Nat
  c2 : Nat
  a3 : Option Addr
  n3 : Nat
  c3 : Nat
  a4 : Option Addr
  n4 : Nat
  c4 : Nat
  a5 : Option Addr
  n5 : Nat
  c5 : Nat
  a6 : Option Addr
  n6 : Nat
  c6 : Nat
  a7 : Option Addr
  n7 : Nat
  c7 : Nat
def CV.v (c : CV) : Value := .agg #[.int .i64 c.m, .slice c.a1 c.n1 c.c1, .slice c.a2 c.n2 c.c2, .slice c.a3 c.n3 c.c3, .slice c.a4 c.n4 c.c4, .slice c.a5 c.n5 c.c5, .slice c.a6 c.n6 c.c6, .slice c.a7 c.n7 c.c7]

/-- Integers that fit. -/
def I64 (n : Int) : Prop := -9223372036854775808 ≤ n ∧ n ≤ 9223372036854775807

/-- In w the value c is the circuit C. -/
structure Holds (w : World) (c : CV) (C : Circ) : Prop where
  m : c.m = C.max
  r1 : RowK .i64 w c.a1 C.ins
  l1 : C.ins.length = c.n1
  z1 : c.a1 = none → c.c1 = 0
  r2 : RowC w c.a2 (cellsT C.lats)
  l2 : C.lats.length = c.n2
  z2 : c.a2 = none → c.c2 = 0
  r3 : RowK .i64 w c.a3 C.outs
  l3 : C.outs.length = c.n3
  z3 : c.a3 = none → c.c3 = 0
  r4 : RowK .i64 w c.a4 C.bads
  l4 : C.bads.length = c.n4
  z4 : c.a4 = none → c.c4 = 0
  r5 : RowK .i64 w c.a5 C.cons
  l5 : C.cons.length = c.n5
  z5 : c.a5 = none → c.c5 = 0
  r6 : RowC w c.a6 (cellsT C.ands)
  l6 : C.ands.length = c.n6
  z6 : c.a6 = none → c.c6 = 0
  r7 : RowC w c.a7 (cellsS C.names)
  l7 : C.names.length = c.n7
  z7 : c.a7 = none → c.c7 = 0

theorem Holds.below {w w' : World} {c : CV} {C : Circ} (h : Holds w c C) (hb : Below w.heap.size w w') : Holds w' c C :=
  ⟨h.m, h.r1.below hb, h.l1, h.z1, h.r2.below hb, h.l2, h.z2, h.r3.below hb, h.l3, h.z3, h.r4.below hb, h.l4, h.z4, h.r5.below hb, h.l5, h.z5, h.r6.below hb, h.l6, h.z6, h.r7.below hb, h.l7, h.z7⟩

theorem below_alloc (w : World) (o : Obj) : Below w.heap.size w (w.alloc o) := (Below.refl _ _).grown (World.grownBy_alloc w o none) (Nat.le_refl _) (fun k hk => by cases hk)
theorem belowThen {w0 w1 w2 : World} (h : Below w0.heap.size w0 w1) (k : Below w1.heap.size w1 w2) : Below w0.heap.size w0 w2 := h.trans (k.mono h.size)

theorem belowThen' {B : Nat} {w0 w1 w2 : World} (h : Below B w0 w1) (k : Below w1.heap.size w1 w2) (hB : B ≤ w1.heap.size := by omega) : Below B w0 w2 := h.trans (k.mono hB)
theorem belowTo {w0 w1 w2 : World} (h : Below w0.heap.size w0 w1) (hg : w1.grownBy w2 none) : Below w0.heap.size w0 w2 := h.grown hg h.size (fun k hk => by cases hk)

/-- Block b is a box that holds the circuit c. -/
def Box (w : World) (b : Nat) (c : CV) : Prop := w.heap[b]? = some (.cells #[.int .i64 c.m, .slice c.a1 c.n1 c.c1, .slice c.a2 c.n2 c.c2, .slice c.a3 c.n3 c.c3, .slice c.a4 c.n4 c.c4, .slice c.a5 c.n5 c.c5, .slice c.a6 c.n6 c.c6, .slice c.a7 c.n7 c.c7] 27 (0, 0))
theorem box_new (w : World) (c : CV) : Box (w.alloc (.cells #[.int .i64 c.m, .slice c.a1 c.n1 c.c1, .slice c.a2 c.n2 c.c2, .slice c.a3 c.n3 c.c3, .slice c.a4 c.n4 c.c4, .slice c.a5 c.n5 c.c5, .slice c.a6 c.n6 c.c6, .slice c.a7 c.n7 c.c7] 27)) w.heap.size c := heap_alloc_new w _
theorem Box.lt {w : World} {b : Nat} {c : CV} (h : Box w b c) : b < w.heap.size := (Array.getElem?_eq_some_iff.1 h).1
theorem Box.below {w w' : World} {b : Nat} {c : CV} (h : Box w b c) (hb : Below w.heap.size w w') : Box w' b c := (hb.block b h.lt).trans h
theorem Box.grown {w w' : World} {b : Nat} {c : CV} {row : Option Nat} (h : Box w b c) (hg : w.grownBy w' row) (hne : row ≠ some b) : Box w' b c := (hg.block b h.lt (fun e => hne e.symm)).trans h
theorem Box.alloc {w : World} {b : Nat} {c : CV} (h : Box w b c) (o : Obj) : Box (w.alloc o) b c := h.below (below_alloc w o)
theorem Box.cells {w : World} {b : Nat} {c : CV} (h : Box w b c) : w.cell? ⟨b, 0, none⟩ = some (.int .i64 c.m) ∧ w.cell? ⟨b, 1, none⟩ = some (.slice c.a1 c.n1 c.c1) ∧ w.cell? ⟨b, 2, none⟩ = some (.slice c.a2 c.n2 c.c2) ∧ w.cell? ⟨b, 3, none⟩ = some (.slice c.a3 c.n3 c.c3) ∧ w.cell? ⟨b, 4, none⟩ = some (.slice c.a4 c.n4 c.c4) ∧ w.cell? ⟨b, 5, none⟩ = some (.slice c.a5 c.n5 c.c5) ∧ w.cell? ⟨b, 6, none⟩ = some (.slice c.a6 c.n6 c.c6) ∧ w.cell? ⟨b, 7, none⟩ = some (.slice c.a7 c.n7 c.c7) := by
  have e : ∀ j, w.cell? ⟨b, j, none⟩ = (#[.int .i64 c.m, .slice c.a1 c.n1 c.c1, .slice c.a2 c.n2 c.c2, .slice c.a3 c.n3 c.c3, .slice c.a4 c.n4 c.c4, .slice c.a5 c.n5 c.c5, .slice c.a6 c.n6 c.c6, .slice c.a7 c.n7 c.c7] : Array Value)[j]? := fun j => cell_of_row w b j _ _ (0, 0) h
  exact ⟨by rw [e]; rfl, by rw [e]; rfl, by rw [e]; rfl, by rw [e]; rfl, by rw [e]; rfl, by rw [e]; rfl, by rw [e]; rfl, by rw [e]; rfl⟩

theorem infoT2 : (Try.prog.info? 43).map (fun i => (i.zero, i.size, i.bytes)) = some (some (.agg #[.int .i64 0, .int .i64 0, .int .i64 0]), 3, 24) := by kernel_rfl
theorem infoT6 : (Try.prog.info? 46).map (fun i => (i.zero, i.size, i.bytes)) = some (some (.agg #[.int .i64 0, .int .i64 0, .int .i64 0]), 3, 24) := by kernel_rfl
theorem infoT7 : (Try.prog.info? 49).map (fun i => (i.zero, i.size, i.bytes)) = some (some (.agg #[.int .u8 0, .int .i64 0, .string ⟨#[]⟩]), 3, 32) := by kernel_rfl
theorem infoBool : (Try.prog.info? 4).map (fun i => (i.zero, i.size, i.bytes)) = some (some (.bool false), 1, 1) := by kernel_rfl
theorem infoSl : (Try.prog.info? 22).map (fun i => (i.zero, i.size, i.bytes)) = some (some (.slice none 0 0), 1, 24) := by kernel_rfl

end Go.Proofs.Ytppaifckiaaffaa
