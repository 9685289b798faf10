/-
  HOW A CIRCUIT LIES IN MEMORY.
  BOXES THAT ARE WRITTEN, rows that a call has made: words for all walks that make a circuit.
  'append(s, make([]int, m)...)', s THE CALL's OWN (nil too), m A NUMBER: a law of no program.
-/
import Derived.Test.YtikjbbebfjleaaaGreatDoorJ9
import Derived.Test.YtikjbbebfjleaaaGreatDoorJ0
import Derived.Lib.AppendZerosOnto
namespace Go.Proofs.YtikjbbebfjleaaaGreatDoor
open Go.RowKit

/-- The cells of a list of triples of ints. -/
def cellsT (ts : List Tri) : List Value := ts.flatMap (fun t => [.int .i64 t.1, .int .i64 t.2.1, .int .i64 t.2.2])
def cellsS (ts : List Sym) : List Value := ts.flatMap (fun t => [.int .u8 t.1, .int .i64 t.2.1, .string t.2.2])

/-- A slice that can be read, whatever its elements: its cells. -/
def RowC (w : World) (a : Option Addr) (cs : List Value) : Prop := (a = none ∧ cs = []) ∨ ∃ x, a = some x ∧ ∀ j u, cs[j]? = some u → w.cell? (x.add j) = some u

theorem RowC.below {w w' : World} {a : Option Addr} {cs : List Value} (h : RowC w a cs) (hb : Below w.heap.size w w') : RowC w' a cs := by
  rcases h with h | ⟨x, rfl, hx⟩
  · exact .inl h
  · exact .inr ⟨x, rfl, fun j u hu => by have h1 := hx j u hu; exact (hb.cell (block_lt_of_cell h1)).trans h1⟩

theorem RowC.addr {w : World} {a : Option Addr} {cs : List Value} (h : RowC w a cs) (hp : 0 < cs.length) : ∃ b off, a = some ⟨b, off, none⟩ ∧ b < w.heap.size ∧ ∀ j u, cs[j]? = some u → w.cell? ⟨b, off + j, none⟩ = some u := by
  rcases h with ⟨_, rfl⟩ | ⟨⟨b, off, spot⟩, rfl, hx⟩
  · simp at hp
  · have hc := hx 0 _ (List.getElem?_eq_getElem hp)
    have hspot : spot = none := by simpa [Addr.add] using World.cell?_spot hc
    subst hspot
    refine ⟨b, off, rfl, ?_, fun i u hi => ?_⟩
    · have := block_lt_of_cell hc
      rw [add_plain] at this
      exact this
    · have h1 := hx i u hi
      rw [← add_plain]
      exact h1

theorem rowC_of {k : IntKind} {w : World} {a : Option Addr} {xs : List Int} (h : RowK k w a xs) : RowC w a (xs.map (Value.int k)) := by
  rcases h with ⟨rfl, rfl⟩ | ⟨x, rfl, hx⟩
  · exact .inl ⟨rfl, rfl⟩
  · exact .inr ⟨x, rfl, cells_map hx⟩

theorem cellsT_len (ts : List Tri) : (cellsT ts).length = ts.length * 3 := by
  unfold cellsT
  induction ts with
  | nil => rfl
  | cons t ts ih => rw [List.flatMap_cons, List.length_append, ih]; simp; omega
theorem cellsS_len (ts : List Sym) : (cellsS ts).length = ts.length * 3 := by
  unfold cellsS
  induction ts with
  | nil => rfl
  | cons t ts ih => rw [List.flatMap_cons, List.length_append, ih]; simp; omega
theorem cellsT_append (a b : List Tri) : cellsT (a ++ b) = cellsT a ++ cellsT b := by simp [cellsT]
theorem cellsS_append (a b : List Sym) : cellsS (a ++ b) = cellsS a ++ cellsS b := by simp [cellsS]

theorem three_at {α : Type} [Inhabited α] (f g h : α → Value) (ts : List α) (i : Nat) (hi : i < ts.length) :
    (ts.flatMap (fun t => [f t, g t, h t]))[i * 3]? = some (f (atP ts i)) ∧ (ts.flatMap (fun t => [f t, g t, h t]))[i * 3 + 1]? = some (g (atP ts i)) ∧ (ts.flatMap (fun t => [f t, g t, h t]))[i * 3 + 2]? = some (h (atP ts i)) := by
  have hl : ∀ l : List α, (l.flatMap (fun t => [f t, g t, h t])).length = l.length * 3 := fun l => by
    induction l with
    | nil => rfl
    | cons t ts ih => rw [List.flatMap_cons, List.length_append, ih]; simp; omega
  have e := split_at ts i hi
  have e1 : ts.flatMap (fun t => [f t, g t, h t]) = (ts.take i).flatMap (fun t => [f t, g t, h t]) ++ (f (atP ts i) :: g (atP ts i) :: h (atP ts i) :: (ts.drop (i + 1)).flatMap (fun t => [f t, g t, h t])) := by
    conv => lhs; rw [e]
    rw [List.flatMap_append, List.flatMap_cons]
    rfl
  have hk : ((ts.take i).flatMap (fun t => [f t, g t, h t])).length = i * 3 := by rw [hl, List.length_take, Nat.min_eq_left (by omega)]
  rw [e1]
  generalize (ts.take i).flatMap (fun t => [f t, g t, h t]) = L at hk
  subst_vars
  refine ⟨?_, ?_, ?_⟩
  · rw [← hk]; simp
  · rw [← hk, List.getElem?_append_right (by omega), Nat.add_sub_cancel_left]; rfl
  · rw [← hk, List.getElem?_append_right (by omega), Nat.add_sub_cancel_left]; rfl

theorem cellsT_at (ts : List Tri) (i : Nat) (hi : i < ts.length) : (cellsT ts)[i * 3]? = some (.int .i64 (atP ts i).1) ∧ (cellsT ts)[i * 3 + 1]? = some (.int .i64 (atP ts i).2.1) ∧ (cellsT ts)[i * 3 + 2]? = some (.int .i64 (atP ts i).2.2) :=
  three_at _ _ _ ts i hi
theorem cellsS_at (ts : List Sym) (i : Nat) (hi : i < ts.length) : (cellsS ts)[i * 3]? = some (.int .u8 (atP ts i).1) ∧ (cellsS ts)[i * 3 + 1]? = some (.int .i64 (atP ts i).2.1) ∧ (cellsS ts)[i * 3 + 2]? = some (.string (atP ts i).2.2) :=
  three_at _ _ _ ts i hi
theorem cellsT_one (ts : List Tri) : ∀ u ∈ cellsT ts, u.oneCell' = true := by
  intro u hu
  obtain ⟨t, _, h⟩ := List.mem_flatMap.1 hu
  simp at h
  rcases h with rfl | rfl | rfl <;> rfl
theorem cellsS_one (ts : List Sym) : ∀ u ∈ cellsS ts, u.oneCell' = true := by
  intro u hu
  obtain ⟨t, _, h⟩ := List.mem_flatMap.1 hu
  simp at h
  rcases h with rfl | rfl | rfl <;> rfl

/-- A circuit's value: a number and seven slices. -/
structure CV where
  m : Int
  a1 : Option Addr
  n1 : Nat
  c1 : Nat
  a2 : Option Addr
  n2 : Nat
  c2 : Nat
  a3 : Option Addr
  n3 : Nat
  c3 : Nat
  a4 : Option Addr
  n4 : Nat
  c4 : Nat
  a5 : Option Addr
  n5 : Nat
  c5 : Nat
  a6 : Option Addr
  n6 : Nat
  c6 : Nat
  a7 : Option Addr
  n7 : Nat
  c7 : Nat
def CV.v (c : CV) : Value := .agg #[.int .i64 c.m, .slice c.a1 c.n1 c.c1, .slice c.a2 c.n2 c.c2, .slice c.a3 c.n3 c.c3, .slice c.a4 c.n4 c.c4, .slice c.a5 c.n5 c.c5, .slice c.a6 c.n6 c.c6, .slice c.a7 c.n7 c.c7]

/-- Integers that fit. -/
def I64 (n : Int) : Prop := -9223372036854775808 ≤ n ∧ n ≤ 9223372036854775807

/-- In w the value c is the circuit C. -/
structure Holds (w : World) (c : CV) (C : Circ) : Prop where
  m : c.m = C.max
  r1 : RowK .i64 w c.a1 C.ins
  l1 : C.ins.length = c.n1
  z1 : c.a1 = none → c.c1 = 0
  r2 : RowC w c.a2 (cellsT C.lats)
  l2 : C.lats.length = c.n2
  z2 : c.a2 = none → c.c2 = 0
  r3 : RowK .i64 w c.a3 C.outs
  l3 : C.outs.length = c.n3
  z3 : c.a3 = none → c.c3 = 0
  r4 : RowK .i64 w c.a4 C.bads
  l4 : C.bads.length = c.n4
  z4 : c.a4 = none → c.c4 = 0
  r5 : RowK .i64 w c.a5 C.cons
  l5 : C.cons.length = c.n5
  z5 : c.a5 = none → c.c5 = 0
  r6 : RowC w c.a6 (cellsT C.ands)
  l6 : C.ands.length = c.n6
  z6 : c.a6 = none → c.c6 = 0
  r7 : RowC w c.a7 (cellsS C.names)
  l7 : C.names.length = c.n7
  z7 : c.a7 = none → c.c7 = 0

theorem Holds.below {w w' : World} {c : CV} {C : Circ} (h : Holds w c C) (hb : Below w.heap.size w w') : Holds w' c C :=
  ⟨h.m, h.r1.below hb, h.l1, h.z1, h.r2.below hb, h.l2, h.z2, h.r3.below hb, h.l3, h.z3, h.r4.below hb, h.l4, h.z4, h.r5.below hb, h.l5, h.z5, h.r6.below hb, h.l6, h.z6, h.r7.below hb, h.l7, h.z7⟩

theorem below_alloc (w : World) (o : Obj) : Below w.heap.size w (w.alloc o) := (Below.refl _ _).grown (World.grownBy_alloc w o none) (Nat.le_refl _) (fun k hk => by cases hk)
theorem belowThen {w0 w1 w2 : World} (h : Below w0.heap.size w0 w1) (k : Below w1.heap.size w1 w2) : Below w0.heap.size w0 w2 := h.trans (k.mono h.size)

theorem belowThen' {B : Nat} {w0 w1 w2 : World} (h : Below B w0 w1) (k : Below w1.heap.size w1 w2) (hB : B ≤ w1.heap.size := by omega) : Below B w0 w2 := h.trans (k.mono hB)
theorem belowTo {w0 w1 w2 : World} (h : Below w0.heap.size w0 w1) (hg : w1.grownBy w2 none) : Below w0.heap.size w0 w2 := h.grown hg h.size (fun k hk => by cases hk)

/-- Block b is a box that holds the circuit c. -/
def Box (w : World) (b : Nat) (c : CV) : Prop := w.heap[b]? = some (.cells #[.int .i64 c.m, .slice c.a1 c.n1 c.c1, .slice c.a2 c.n2 c.c2, .slice c.a3 c.n3 c.c3, .slice c.a4 c.n4 c.c4, .slice c.a5 c.n5 c.c5, .slice c.a6 c.n6 c.c6, .slice c.a7 c.n7 c.c7] 29 (0, 0))
theorem box_new (w : World) (c : CV) : Box (w.alloc (.cells #[.int .i64 c.m, .slice c.a1 c.n1 c.c1, .slice c.a2 c.n2 c.c2, .slice c.a3 c.n3 c.c3, .slice c.a4 c.n4 c.c4, .slice c.a5 c.n5 c.c5, .slice c.a6 c.n6 c.c6, .slice c.a7 c.n7 c.c7] 29)) w.heap.size c := heap_alloc_new w _
theorem Box.lt {w : World} {b : Nat} {c : CV} (h : Box w b c) : b < w.heap.size := (Array.getElem?_eq_some_iff.1 h).1
theorem Box.below {w w' : World} {b : Nat} {c : CV} (h : Box w b c) (hb : Below w.heap.size w w') : Box w' b c := (hb.block b h.lt).trans h
theorem Box.grown {w w' : World} {b : Nat} {c : CV} {row : Option Nat} (h : Box w b c) (hg : w.grownBy w' row) (hne : row ≠ some b) : Box w' b c := (hg.block b h.lt (fun e => hne e.symm)).trans h
theorem Box.alloc {w : World} {b : Nat} {c : CV} (h : Box w b c) (o : Obj) : Box (w.alloc o) b c := h.below (below_alloc w o)
theorem Box.cells {w : World} {b : Nat} {c : CV} (h : Box w b c) : w.cell? ⟨b, 0, none⟩ = some (.int .i64 c.m) ∧ w.cell? ⟨b, 1, none⟩ = some (.slice c.a1 c.n1 c.c1) ∧ w.cell? ⟨b, 2, none⟩ = some (.slice c.a2 c.n2 c.c2) ∧ w.cell? ⟨b, 3, none⟩ = some (.slice c.a3 c.n3 c.c3) ∧ w.cell? ⟨b, 4, none⟩ = some (.slice c.a4 c.n4 c.c4) ∧ w.cell? ⟨b, 5, none⟩ = some (.slice c.a5 c.n5 c.c5) ∧ w.cell? ⟨b, 6, none⟩ = some (.slice c.a6 c.n6 c.c6) ∧ w.cell? ⟨b, 7, none⟩ = some (.slice c.a7 c.n7 c.c7) := by
  have e : ∀ j, w.cell? ⟨b, j, none⟩ = (#[.int .i64 c.m, .slice c.a1 c.n1 c.c1, .slice c.a2 c.n2 c.c2, .slice c.a3 c.n3 c.c3, .slice c.a4 c.n4 c.c4, .slice c.a5 c.n5 c.c5, .slice c.a6 c.n6 c.c6, .slice c.a7 c.n7 c.c7] : Array Value)[j]? := fun j => cell_of_row w b j _ _ (0, 0) h
  exact ⟨by rw [e]; rfl, by rw [e]; rfl, by rw [e]; rfl, by rw [e]; rfl, by rw [e]; rfl, by rw [e]; rfl, by rw [e]; rfl, by rw [e]; rfl⟩

theorem infoT2 : (Tryz.prog.info? 73).map (fun i => (i.zero, i.size, i.bytes)) = some (some (.agg #[.int .i64 0, .int .i64 0, .int .i64 0]), 3, 24) := by kernel_rfl
theorem infoT6 : (Tryz.prog.info? 53).map (fun i => (i.zero, i.size, i.bytes)) = some (some (.agg #[.int .i64 0, .int .i64 0, .int .i64 0]), 3, 24) := by kernel_rfl
theorem infoT7 : (Tryz.prog.info? 77).map (fun i => (i.zero, i.size, i.bytes)) = some (some (.agg #[.int .u8 0, .int .i64 0, .string ⟨#[]⟩]), 3, 32) := by kernel_rfl
theorem infoBool : (Tryz.prog.info? 4).map (fun i => (i.zero, i.size, i.bytes)) = some (some (.bool false), 1, 1) := by kernel_rfl
theorem infoSl : (Tryz.prog.info? 24).map (fun i => (i.zero, i.size, i.bytes)) = some (some (.slice none 0 0), 1, 24) := by kernel_rfl

end Go.Proofs.YtikjbbebfjleaaaGreatDoor

namespace Go.Proofs.YtikjbbebfjleaaaGreatDoor
open Go.RowKit

theorem box_set {w : World} {b : Nat} {c : CV} (h : Box w b c) (j : Nat) (v : Value) : (w.setCell ⟨b, j, none⟩ v).heap[b]? = some (.cells ((#[.int .i64 c.m, .slice c.a1 c.n1 c.c1, .slice c.a2 c.n2 c.c2, .slice c.a3 c.n3 c.c3, .slice c.a4 c.n4 c.c4, .slice c.a5 c.n5 c.c5, .slice c.a6 c.n6 c.c6, .slice c.a7 c.n7 c.c7] : Array Value).setIfInBounds j v) 29 (0, 0)) :=
  heap_setCell_same w b j _ _ v h
theorem box_frozen {w : World} {b : Nat} {c : CV} (h : Box w b c) (j : Nat) : w.frozen? ⟨b, j, none⟩ = false := frozen_of_row w b j _ _ h
theorem rowC_own {w : World} {B n size : Nat} {e : TypeId} {v : Value} {xs : List Value} (h : w.ownsRow B e size v n xs) : ∃ a c, v = .slice a n c ∧ RowC w a xs ∧ (a = none → c = 0) := by
  have hl := h.1
  rcases h.2 with ⟨rfl, rfl⟩ | ⟨g, cap, cur, rfl, -⟩
  · exact ⟨none, 0, rfl, .inl ⟨rfl, List.eq_nil_of_length_eq_zero (by simpa using hl)⟩, fun _ => rfl⟩
  · exact ⟨_, cap, rfl, .inr ⟨_, rfl, h.cells rfl⟩, (fun e => by cases e)⟩
theorem cell_three_at {w : World} {b : Nat} (hb : b = w.heap.size) (x y z : Value) (t : TypeId) : ∀ j u, [x, y, z][j]? = some u → (w.alloc (.cells #[x, y, z] t)).cell? ((⟨b, 0, none⟩ : Addr).add j) = some u := by
  subst hb
  intro j u hj
  rw [add_plain, Nat.zero_add, cell_of_row _ _ j #[x, y, z] t (0, 0) (heap_alloc_new w _)]
  simpa using hj

theorem box_eight {w : World} {b : Nat} {c c' : CV} (h : Box w b c) (j : Nat) (v : Value)
    (hc : ((#[.int .i64 c.m, .slice c.a1 c.n1 c.c1, .slice c.a2 c.n2 c.c2, .slice c.a3 c.n3 c.c3, .slice c.a4 c.n4 c.c4, .slice c.a5 c.n5 c.c5, .slice c.a6 c.n6 c.c6, .slice c.a7 c.n7 c.c7] : Array Value).setIfInBounds j v) = #[.int .i64 c'.m, .slice c'.a1 c'.n1 c'.c1, .slice c'.a2 c'.n2 c'.c2, .slice c'.a3 c'.n3 c'.c3, .slice c'.a4 c'.n4 c'.c4, .slice c'.a5 c'.n5 c'.c5, .slice c'.a6 c'.n6 c'.c6, .slice c'.a7 c'.n7 c'.c7]) : Box (w.setCell ⟨b, j, none⟩ v) b c' := by
  have := box_set h j v
  rw [hc] at this
  exact this

theorem rowK_of_C {k : IntKind} {w : World} {a : Option Addr} {xs : List Int} (h : RowC w a (xs.map (Value.int k))) : RowK k w a xs := by
  rcases h with ⟨rfl, h⟩ | ⟨x, rfl, hx⟩
  · exact .inl ⟨rfl, List.map_eq_nil_iff.1 h⟩
  · refine .inr ⟨x, rfl, fun i hi => hx i _ ?_⟩
    rw [List.getElem?_map, List.getElem?_eq_getElem hi, List.getD_eq_getElem?_getD, List.getElem?_eq_getElem hi]; rfl

/-- 'append(s, x...)', s THE CALL's OWN, x whatever slice whose cells are known (nil too). -/
theorem wpList_append_rowC {P : Program} (w : World) {ops : Array Oper} {rest : List Oper} {o : Oper} {a : Act} {Q : Exit → Act → World → Prop} (hgd : o.guard = none) (s x : Operand) (t : TypeId)
    (ho : o.op = .call { callee := .builtin .append, args := #[s, x], argTypes := #[t, t] })
    (base : Nat) (e : TypeId) (i : TypeInfo) (z : Value) (size bytes : Nat) (ht : P.underlying t = some (.slice e)) (hi : P.info? e = some i) (hz : i.zero = some z)
    (hsize : i.size = size) (hby : i.bytes = bytes) (hzs : z.cells.size = size) (hsz : 0 < size)
    (v : Value) (n : Nat) (xs : List Value) (hs : a.eval s = v) (hown : w.ownsRow base e size v n xs)
    (ao : Option Addr) (m c : Nat) (news : List Value) (hx : a.eval x = .slice ao m c) (hl : news.length = m * size) (hr : RowC w ao news) (hnc : ao = none → c = 0) (h1 : ∀ u ∈ news, u.oneCell' = true)
    (h63 : n + m ≤ maxLen) (hbytes : (n + m) * bytes ≤ 140737488355328) (hbase : base ≤ w.heap.size)
    (h : ∀ v' w', w'.ownsRow base e size v' (n + m) (xs ++ news) → w.grownBy w' v.ownBlock → wpList P ops Q rest (a.put o.dst v') w') : wpList P ops Q (o :: rest) a w := by
  rcases hr with ⟨rfl, rfl⟩ | ⟨ad, rfl, hcell⟩
  · have hm : m = 0 := by
      rcases Nat.mul_eq_zero.1 (show m * size = 0 from by simpa using hl.symm) with h | h
      · exact h
      · omega
    subst hm
    obtain rfl := hnc rfl
    refine wpList_append_own_none hgd s x t ho base e i size ht hi v n xs hs hown hx ?_
    exact h v w (by simpa using hown) (World.grownBy.refl _ _)
  · exact wpList_append_own w hgd s x t ho base e i z size bytes ht hi hz hsize hby hzs hsz v n xs hs hown ad m c news hx hl hcell h1 h63 hbytes hbase (fun v' w' h1 h2 _ => h v' w' h1 h2)

theorem own_carry {W w4 : World} {b j n size B : Nat} {e : TypeId} {v u : Value} {xs : List Value} (h : W.ownsRow B e size v n xs) (hg : W.grownBy w4 none) (hb : b < B) : (w4.setCell ⟨b, j, none⟩ u).ownsRow B e size v n xs :=
  ownsRow_setCell_below (own_below h ((Below.refl _ _).grown hg (Nat.le_refl _) (fun k hk => by cases hk))) (a := ⟨b, j, none⟩) hb u

/-- Block b written anew, cell by cell. -/
def putBox (W : World) (b : Nat) (d : CV) : World :=
  (((((((W.setCell ⟨b, 0, none⟩ (.int .i64 d.m)).setCell ⟨b, 1, none⟩ (.slice d.a1 d.n1 d.c1)).setCell ⟨b, 2, none⟩ (.slice d.a2 d.n2 d.c2)).setCell ⟨b, 3, none⟩ (.slice d.a3 d.n3 d.c3)).setCell ⟨b, 4, none⟩ (.slice d.a4 d.n4 d.c4)).setCell ⟨b, 5, none⟩ (.slice d.a5 d.n5 d.c5)).setCell ⟨b, 6, none⟩ (.slice d.a6 d.n6 d.c6)).setCell ⟨b, 7, none⟩ (.slice d.a7 d.n7 d.c7)
theorem box_put {W : World} {b : Nat} {c : CV} (d : CV) (h : Box W b c) : Box (putBox W b d) b d := by
  have h0 := box_eight (c' := { c with m := d.m }) h 0 (.int .i64 d.m) rfl
  have h1 := box_eight (c' := { c with m := d.m, a1 := d.a1, n1 := d.n1, c1 := d.c1 }) h0 1 (.slice d.a1 d.n1 d.c1) rfl
  have h2 := box_eight (c' := { c with m := d.m, a1 := d.a1, n1 := d.n1, c1 := d.c1, a2 := d.a2, n2 := d.n2, c2 := d.c2 }) h1 2 (.slice d.a2 d.n2 d.c2) rfl
  have h3 := box_eight (c' := { c with m := d.m, a1 := d.a1, n1 := d.n1, c1 := d.c1, a2 := d.a2, n2 := d.n2, c2 := d.c2, a3 := d.a3, n3 := d.n3, c3 := d.c3 }) h2 3 (.slice d.a3 d.n3 d.c3) rfl
  have h4 := box_eight (c' := { d with a5 := c.a5, n5 := c.n5, c5 := c.c5, a6 := c.a6, n6 := c.n6, c6 := c.c6, a7 := c.a7, n7 := c.n7, c7 := c.c7 }) h3 4 (.slice d.a4 d.n4 d.c4) rfl
  have h5 := box_eight (c' := { d with a6 := c.a6, n6 := c.n6, c6 := c.c6, a7 := c.a7, n7 := c.n7, c7 := c.c7 }) h4 5 (.slice d.a5 d.n5 d.c5) rfl
  have h6 := box_eight (c' := { d with a7 := c.a7, n7 := c.n7, c7 := c.c7 }) h5 6 (.slice d.a6 d.n6 d.c6) rfl
  exact box_eight (c' := d) h6 7 (.slice d.a7 d.n7 d.c7) rfl
theorem two_put (W : World) (b : Nat) (d : CV) : Two b b W (putBox W b d) :=
  (((((((((Two.refl b b W).setL 0 _).setL 1 _).setL 2 _).setL 3 _).setL 4 _).setL 5 _).setL 6 _).setL 7 _)
theorem rowC_own' {w : World} {B n c size : Nat} {e : TypeId} {a : Option Addr} {xs : List Value} (h : w.ownsRow B e size (.slice a n c) n xs) : RowC w a xs ∧ (a = none → c = 0) := by
  obtain ⟨a', c', e, hr, hz⟩ := rowC_own h
  cases e
  exact ⟨hr, hz⟩
end Go.Proofs.YtikjbbebfjleaaaGreatDoor

namespace Go.Proofs.YtikjbbebfjleaaaGreatDoor
open Go.RowKit

theorem zeroCells_one (u : Value) (k : Nat) : Builtin.zeroCells #[u] k = (List.replicate k u).toArray := by
  unfold Builtin.zeroCells
  apply Array.ext'
  apply List.ext_getElem
  · simp
  · intro i h1 h2
    simp [Nat.mod_one]

theorem run_append_zeros {P : Program} (w : World) (base : Nat) (t tn ty e : TypeId) (i : TypeInfo) (z : Value) (kq kn : IntKind) (ht : P.underlying t = some (.slice e)) (htn : P.underlying tn = some (.int kn)) (hi : P.info? e = some i) (hz : i.zero = some z)
    (hsize : i.size = 1) (hby : i.bytes = 8) (u : Value) (hzs : z.cells = #[u]) (hu : u.oneCell' = true)
    (v : Value) (n : Nat) (xs : List Value) (hown : w.ownsRow base e 1 v n xs) (m : Nat) (hbytes : n + m ≤ 1000000) (hbase : base ≤ w.heap.size) :
    ∃ v' w', (Builtin.append_ #[t, tn] ty #[v, .int kq m]).run P w = .ok v' w' ∧ w'.ownsRow base e 1 v' (n + m) (xs ++ List.replicate m u) ∧ w.grownBy w' v.ownBlock := by
  have hw : IntKind.i64.wrap (m : Int) = m := by rw [IntKind.wrap_i64]; omega
  have hw0 : IntKind.i64.wrap 0 = 0 := by rw [IntKind.wrap_i64]; omega
  have hneg : ¬ ((m : Int) < 0) := by omega
  have h48i : ¬ (281474976710656 < (m : Int) * (i.bytes : Int)) := by rw [hby]; omega
  have hl : xs.length = n := by simpa using hown.1
  have h63 : n + m ≤ maxLen := by unfold maxLen; omega
  have grown : ∀ (old : Nat), old < n + m → ∀ (row : Option Nat),
      (w.drew.alloc (.cells (xs.toArray ++ Builtin.zeroCells z.cells m ++ Builtin.zeroCells z.cells (grownCap w (n + m) old e - (n + m))) e)).ownsRow base e 1 (.slice (some ⟨w.heap.size, 0, none⟩) (n + m) (grownCap w (n + m) old e)) (n + m) (xs ++ List.replicate m u) ∧
      w.grownBy (w.drew.alloc (.cells (xs.toArray ++ Builtin.zeroCells z.cells m ++ Builtin.zeroCells z.cells (grownCap w (n + m) old e - (n + m))) e)) row := by
    intro old ho row
    have hge := grownCap_ge w (n + m) old e
    have hcm : grownCap w (n + m) old e ≤ maxLen := grownCap_le_maxLen w (n + m) old e h63
    refine ⟨⟨by simp [hl], .inr ⟨w.heap.size, _, _, rfl, hbase, heap_alloc_new w.drew _, hge, hcm, ?_, ?_⟩⟩, ⟨rfl, rfl, rfl, by simp, fun k hk _ => (World.grownBy_alloc w.drew _ none).block k hk (by simp)⟩⟩
    · rw [hzs, zeroCells_one, zeroCells_one]
      simp [hl]
      omega
    · rw [hzs, zeroCells_one, zeroCells_one]
      simp only [Array.toList_append, Nat.mul_one]
      rw [show n + m = (xs ++ List.replicate m u).length by simp [hl]]
      exact List.take_left
  rcases hown.2 with ⟨rfl, rfl⟩ | ⟨g, cap, cur, rfl, hbg, hg, hnc, hcm, hcs, htake⟩
  · have hx : xs = [] := List.eq_nil_of_length_eq_zero hl
    subst hx
    by_cases hm : m = 0
    · subst hm
      refine ⟨.slice none 0 0, w, ?_, World.ownsRow_nil w base e 1, ⟨rfl, rfl, rfl, Nat.le_refl _, fun _ _ _ => rfl⟩⟩
      simp [Builtin.append_, run_underlying ht, run_underlying htn, sizeOf, typeInfo, hi, asInt, asIntOf, hw0]
    · have hr := Lib.run_append_nil_zeros (P := P) w t tn ty e i z kq kn ht htn hi hz m (by omega) (by omega) (by omega) (by rw [hby]; omega)
      have hgr := grown 0 (by omega) (Value.ownBlock (.slice none 0 0))
      simp only [Nat.zero_add, List.nil_append] at hgr ⊢
      exact ⟨_, _, hr, by simpa using hgr.1, by simpa using hgr.2⟩
  · by_cases hm : m = 0
    · subst hm
      refine ⟨.slice (some ⟨g, 0, none⟩) n cap, w, ?_, by simpa using hown, ⟨rfl, rfl, rfl, Nat.le_refl _, fun _ _ _ => rfl⟩⟩
      simp [Builtin.append_, run_underlying ht, run_underlying htn, sizeOf, typeInfo, hi, asInt, asIntOf, hnc, hw0, storeCells]
    · have hns : ¬ (m * i.size = 0) := by rw [hsize]; omega
      by_cases hroom : n + m ≤ cap
      · have hst := run_storeCells_at P g n e (List.replicate m u) 0 cur w hg (by simp [hcs]; omega) (fun x hx => by rw [(List.mem_replicate.1 hx).2]; exact hu)
        simp only [Nat.add_zero] at hst
        have hr : (Builtin.append_ #[t, tn] ty #[.slice (some ⟨g, 0, none⟩) n cap, .int kq m]).run P w = .ok (.slice (some ⟨g, 0, none⟩) (n + m) cap) (w.setRow g (cur.toList.take n ++ List.replicate m u ++ cur.toList.drop (n + (List.replicate m u).length)).toArray) := by
          simp [Builtin.append_, run_underlying ht, run_underlying htn, sizeOf, typeInfo, zeroValue, hi, hz, asInt, asIntOf, hw, hneg, h48i, hroom, hsize, hm, hzs, zeroCells_one, Addr.add_lit, hst]
        refine ⟨_, _, hr, ⟨by simp [hl], .inr ⟨g, cap, _, rfl, hbg, setRow_heap w g cur _ e _ hg, hroom, hcm, ?_, ?_⟩⟩, ⟨rfl, rfl, rfl, by simp, fun k _ hk => setRow_other w g k _ (fun e => hk (by simp [Value.ownBlock, e]))⟩⟩
        · simp only [List.size_toArray, List.length_append, List.length_take, List.length_drop, Array.length_toList, List.length_replicate, hcs]
          omega
        · simp only [Nat.mul_one] at htake ⊢
          rw [htake]
          rw [show n + m = (xs ++ List.replicate m u).length by simp [hl]]
          exact List.take_left
      · have holds : ∀ j x, xs[j]? = some x → w.cell? ((⟨g, 0, none⟩ : Addr).add j) = some x := hown.cells (g := g) rfl
        have hfo := run_firstCells_some (P := P) w.drew i.size n ⟨g, 0, none⟩ n cap xs (by rw [hsize]; simpa using hl) (by simpa using holds)
        have hr := Lib.run_append_grow_zeros (P := P) w t tn ty e i z kq kn ht htn hi hz (some ⟨g, 0, none⟩) n cap xs hfo m (by omega) (by omega) (by omega) (by omega) (by rw [hby]; omega) (growslice_fits (by omega) (by rw [hby]; omega))
        have hgr := grown cap (by omega) (Value.ownBlock (.slice (some ⟨g, 0, none⟩) n cap))
        exact ⟨_, _, hr, hgr.1, hgr.2⟩

/-- .. for the walk. -/
theorem wpList_append_zeros {P : Program} (w : World) {ops : Array Oper} {rest : List Oper} {o : Oper} {a : Act} {Q : Exit → Act → World → Prop} (hgd : o.guard = none) (s x : Operand) (t tn : TypeId)
    (ho : o.op = .call { callee := .builtin .append, args := #[s, x], argTypes := #[t, tn] })
    (base : Nat) (e : TypeId) (i : TypeInfo) (z : Value) (kq kn : IntKind) (ht : P.underlying t = some (.slice e)) (htn : P.underlying tn = some (.int kn)) (hi : P.info? e = some i) (hz : i.zero = some z)
    (hsize : i.size = 1) (hby : i.bytes = 8) (u : Value) (hzs : z.cells = #[u]) (hu : u.oneCell' = true)
    (v : Value) (n : Nat) (xs : List Value) (hs : a.eval s = v) (hown : w.ownsRow base e 1 v n xs) (m : Nat) (M : Int) (hx : a.eval x = .int kq M) (hM : M = (m : Int)) (hbytes : n + m ≤ 1000000) (hbase : base ≤ w.heap.size)
    (h : ∀ v' w', w'.ownsRow base e 1 v' (n + m) (xs ++ List.replicate m u) → w.grownBy w' v.ownBlock → wpList P ops Q rest (a.put o.dst v') w') : wpList P ops Q (o :: rest) a w := by
  subst hM
  obtain ⟨v', w', hr, h1, h2⟩ := run_append_zeros (P := P) w base t tn o.type e i z kq kn ht htn hi hz hsize hby u hzs hu v n xs hown m hbytes hbase
  exact Lib.wpList_append_run w hgd s x t tn ho v _ hs hx v' w' hr (h v' w' h1 h2)
end Go.Proofs.YtikjbbebfjleaaaGreatDoor
