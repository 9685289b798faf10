/-
  A CIRCUIT THAT COMES IN, opened.
-/
import Derived.Test.YtppaifckiaaffaaAigMem
import Derived.Deep.SlicePairs
import Derived.Lib.SmallJoins
namespace Go.Proofs.Ytppaifckiaaffaa
open Go.ChangeShapes Go.WideShapes Go.ChangeAt Go.RowKit

theorem list3 {α : Type} {l : List α} (h : l.length = 3) : ∃ a b c, l = [a, b, c] := by
  match l, h with
  | [a, b, c], _ => exact ⟨a, b, c, rfl⟩
theorem list8 {α : Type} {l : List α} (h : l.length = 8) : ∃ a b c d e f g i, l = [a, b, c, d, e, f, g, i] := by
  match l, h with
  | [a, b, c, d, e, f, g, i], _ => exact ⟨a, b, c, d, e, f, g, i, rfl⟩

section
variable {H : Type} {enc : TypeId × Value → H} {P : Program} {w : World} {base : Nat} {spare : Nat → Bool} {held : Bool}

/-- A slice of structs of three cells. -/
theorem open_three {t e : TypeId} {f0 f1 f2 : Field} {fuel : Nat} {cs : List Value} {x : DataW H × List MemPlace} (ht : P.underlying t = some (.slice e)) (he : P.underlying e = some (.struct #[f0, f1, f2])) (ce : P.cellsOf e = 3)
    (o0 : f0.offset = 0) (o1 : f1.offset = 1) (o2 : f2.offset = 2) (c0 : P.cellsOf f0.type = 1) (c1 : P.cellsOf f1.type = 1) (c2 : P.cellsOf f2.type = 1) (h : DataW.trod enc P w base spare held fuel t cs = some x) :
    cs = [.slice none 0 0] ∨ ∃ (a : Addr) (len cap n : Nat), cs = [.slice (some a) len cap] ∧ len ≤ cap ∧ cap ≤ maxLen ∧ ∀ i, i < len → ∃ v0 v1 v2 y0 y1 y2, w.cell? (a.add (i * 3)) = some v0 ∧ w.cell? (a.add (i * 3 + 1)) = some v1 ∧ w.cell? (a.add (i * 3 + 2)) = some v2 ∧
      DataW.trod enc P w base spare held n f0.type [v0] = some y0 ∧ DataW.trod enc P w base spare held n f1.type [v1] = some y1 ∧ DataW.trod enc P w base spare held n f2.type [v2] = some y2 := by
  rcases Go.Deep.open_slice ht h with ⟨h0, _⟩ | ⟨a, len, cap, m, n, D, Pl, rfl, hb, hl, hm, hmm, rfl, hx⟩
  · exact Or.inl h0
  right
  have hlm : len ≤ m := by rw [hmm]; split <;> omega
  refine ⟨a, len, cap, n - 1, rfl, hl, hm, fun i hi => ?_⟩
  obtain ⟨cs', h1, h2⟩ := hx i (by omega)
  rw [ce] at h1
  obtain ⟨_, hlen, hcell⟩ := World.cells?_some h1
  obtain ⟨xs, k, hk, hxy, _, hxl, hf⟩ := DataW.trod_struct he h2
  have hk' : k = n - 1 := by omega
  subst hk'
  obtain ⟨y0, y1, y2, rfl⟩ := list3 hxl
  obtain ⟨v0, v1, v2, rfl⟩ := list3 hlen
  have g0 := hf 0 f0 rfl
  have g1 := hf 1 f1 rfl
  have g2 := hf 2 f2 rfl
  simp [o0, o1, o2, c0, c1, c2] at g0 g1 g2
  have e0 := hcell 0 (by omega)
  have e1 := hcell 1 (by omega)
  have e2 := hcell 2 (by omega)
  rw [add_add] at e0 e1 e2
  exact ⟨v0, v1, v2, y0, y1, y2, by simpa using e0, by simpa using e1, by simpa using e2, g0, g1, g2⟩
end

section
variable {H : Type} {enc : TypeId × Value → H} {w : World}

theorem ints_field {fuel : Nat} {v : Value} {x : DataW H × List MemPlace} (h : DataW.trod enc Try.prog w 0 (fun _ => true) true fuel 22 [v] = some x) : ∃ a n c zs, v = .slice a n c ∧ IsRow .i64 w a n c zs := by
  rcases open_ints Try.underlying22 Try.underlying3 (by kernel_rfl) h with ⟨hcs, _⟩ | ⟨x, l, c, zs, hcs, _, hl, hm, hz, _, hcell, hwz⟩
  · simp at hcs
    exact ⟨none, 0, 0, [], hcs, .inl ⟨rfl, rfl, rfl, rfl⟩⟩
  · simp at hcs
    exact ⟨_, l, c, zs, hcs, .inr ⟨_, rfl, hl, hm, by simpa using hz, hcell, hwz⟩⟩

theorem rows_three {α : Type} [Inhabited α] {f g k : α → Value} {a : Addr} {n : Nat} (h : ∀ i, i < n → ∃ t : α, w.cell? (a.add (i * 3)) = some (f t) ∧ w.cell? (a.add (i * 3 + 1)) = some (g t) ∧ w.cell? (a.add (i * 3 + 2)) = some (k t)) :
    ∃ ts : List α, ts.length = n ∧ RowC w (some a) (ts.flatMap (fun t => [f t, g t, k t])) := by
  obtain ⟨F, hF⟩ := Go.Deep.choose_lt h
  refine ⟨(List.range n).map F, by simp, .inr ⟨a, rfl, fun j u hu => ?_⟩⟩
  have hl : ∀ l : List α, (l.flatMap (fun t => [f t, g t, k t])).length = l.length * 3 := fun l => by
    induction l with
    | nil => rfl
    | cons t ts ih => rw [List.flatMap_cons, List.length_append, ih]; simp; omega
  have hj : j < n * 3 := by
    rcases Nat.lt_or_ge j (((List.range n).map F).flatMap (fun t => [f t, g t, k t])).length with h1 | h1
    · rw [hl] at h1; simpa using h1
    · rw [List.getElem?_eq_none h1] at hu; cases hu
  obtain ⟨i, hi, hij⟩ : ∃ i, i < n ∧ (j = i * 3 ∨ j = i * 3 + 1 ∨ j = i * 3 + 2) := ⟨j / 3, by omega, by omega⟩
  have hat := three_at f g k ((List.range n).map F) i (by simpa using hi)
  have e : atP ((List.range n).map F) i = F i := by rw [atP_eq _ i (by simpa using hi)]; simp
  rw [e] at hat
  have hc := hF i hi
  rcases hij with rfl | rfl | rfl
  · rw [hat.1] at hu; cases hu; exact hc.1
  · rw [hat.2.1] at hu; cases hu; exact hc.2.1
  · rw [hat.2.2] at hu; cases hu; exact hc.2.2

theorem latches_field {fuel : Nat} {v : Value} {x : DataW H × List MemPlace} (h : DataW.trod enc Try.prog w 0 (fun _ => true) true fuel 23 [v] = some x) : ∃ a n c ts, v = .slice a n c ∧ RowC w a (cellsT ts) ∧ ts.length = n ∧ (a = none → c = 0) ∧ n ≤ maxLen := by
  rcases open_three Try.underlying23 Try.underlying43 (by kernel_rfl) rfl rfl rfl (by kernel_rfl) (by kernel_rfl) (by kernel_rfl) h with hcs | ⟨a, len, cap, n, hcs, hl, hm, hx⟩
  · simp at hcs
    exact ⟨none, 0, 0, [], hcs, .inl ⟨rfl, rfl⟩, rfl, fun _ => rfl, by decide⟩
  · simp at hcs
    obtain ⟨ts, h1, h2⟩ := rows_three (α := Tri) (f := fun t => .int .i64 t.1) (g := fun t => .int .i64 t.2.1) (k := fun t => .int .i64 t.2.2) (fun i hi => by
      obtain ⟨v0, v1, v2, y0, y1, y2, e0, e1, e2, t0, t1, t2⟩ := hx i hi
      obtain ⟨z0, q0, -⟩ := DataW.trod_int Try.underlying3 t0
      obtain ⟨z1, q1, -⟩ := DataW.trod_int Try.underlying3 t1
      obtain ⟨z2, q2, -⟩ := DataW.trod_int Try.underlying3 t2
      simp at q0 q1 q2
      subst q0; subst q1; subst q2
      exact ⟨(z0, z1, z2), e0, e1, e2⟩)
    exact ⟨_, len, cap, ts, hcs, h2, h1, (fun e => by cases e), by omega⟩

theorem ands_field {fuel : Nat} {v : Value} {x : DataW H × List MemPlace} (h : DataW.trod enc Try.prog w 0 (fun _ => true) true fuel 24 [v] = some x) : ∃ a n c ts, v = .slice a n c ∧ RowC w a (cellsT ts) ∧ ts.length = n ∧ (a = none → c = 0) ∧ n ≤ maxLen := by
  rcases open_three Try.underlying24 Try.underlying46 (by kernel_rfl) rfl rfl rfl (by kernel_rfl) (by kernel_rfl) (by kernel_rfl) h with hcs | ⟨a, len, cap, n, hcs, hl, hm, hx⟩
  · simp at hcs
    exact ⟨none, 0, 0, [], hcs, .inl ⟨rfl, rfl⟩, rfl, fun _ => rfl, by decide⟩
  · simp at hcs
    obtain ⟨ts, h1, h2⟩ := rows_three (α := Tri) (f := fun t => .int .i64 t.1) (g := fun t => .int .i64 t.2.1) (k := fun t => .int .i64 t.2.2) (fun i hi => by
      obtain ⟨v0, v1, v2, y0, y1, y2, e0, e1, e2, t0, t1, t2⟩ := hx i hi
      obtain ⟨z0, q0, -⟩ := DataW.trod_int Try.underlying3 t0
      obtain ⟨z1, q1, -⟩ := DataW.trod_int Try.underlying3 t1
      obtain ⟨z2, q2, -⟩ := DataW.trod_int Try.underlying3 t2
      simp at q0 q1 q2
      subst q0; subst q1; subst q2
      exact ⟨(z0, z1, z2), e0, e1, e2⟩)
    exact ⟨_, len, cap, ts, hcs, h2, h1, (fun e => by cases e), by omega⟩

theorem symbols_field {fuel : Nat} {v : Value} {x : DataW H × List MemPlace} (h : DataW.trod enc Try.prog w 0 (fun _ => true) true fuel 25 [v] = some x) : ∃ a n c ts, v = .slice a n c ∧ RowC w a (cellsS ts) ∧ ts.length = n ∧ (a = none → c = 0) ∧ n ≤ maxLen ∧ ∀ s ∈ ts, s.2.2.size ≤ maxLen := by
  rcases open_three Try.underlying25 Try.underlying49 (by kernel_rfl) rfl rfl rfl (by kernel_rfl) (by kernel_rfl) (by kernel_rfl) h with hcs | ⟨a, len, cap, n, hcs, hl, hm, hx⟩
  · simp at hcs
    exact ⟨none, 0, 0, [], hcs, .inl ⟨rfl, rfl⟩, rfl, fun _ => rfl, by decide, fun s hs => by cases hs⟩
  · simp at hcs
    have each : ∀ i, i < len → ∃ t : Sym, w.cell? (a.add (i * 3)) = some (.int .u8 t.1) ∧ w.cell? (a.add (i * 3 + 1)) = some (.int .i64 t.2.1) ∧ w.cell? (a.add (i * 3 + 2)) = some (.string t.2.2) := fun i hi => by
      obtain ⟨v0, v1, v2, y0, y1, y2, e0, e1, e2, t0, t1, t2⟩ := hx i hi
      obtain ⟨z0, q0, -⟩ := DataW.trod_int Try.underlying5 t0
      obtain ⟨z1, q1, -⟩ := DataW.trod_int Try.underlying3 t1
      obtain ⟨z2, q2, -⟩ := DataW.trod_string Try.underlying9 t2
      simp at q0 q1 q2
      subst q0; subst q1; subst q2
      exact ⟨(z0, z1, z2), e0, e1, e2⟩
    obtain ⟨ts, h1, h2⟩ := rows_three (α := Sym) (f := fun t => .int .u8 t.1) (g := fun t => .int .i64 t.2.1) (k := fun t => .string t.2.2) each
    refine ⟨_, len, cap, ts, hcs, h2, h1, (fun e => by cases e), by omega, fun s hs => ?_⟩
    obtain ⟨i, hi, rfl⟩ := List.getElem_of_mem hs
    have hat := (three_at (fun t : Sym => Value.int .u8 t.1) (fun t => .int .i64 t.2.1) (fun t => .string t.2.2) ts i hi).2.2
    rcases h2 with ⟨e, _⟩ | ⟨y, e, hc⟩
    · cases e
    · cases e
      have hcc := hc _ _ hat
      obtain ⟨v0, v1, v2, y0, y1, y2, e0, e1, e2, t0, t1, t2⟩ := hx i (by omega)
      obtain ⟨z2, q2, -, hz⟩ := DataW.trod_string Try.underlying9 t2
      simp at q2
      subst q2
      rw [hcc] at e2
      rw [atP_eq ts i hi] at e2
      cases e2
      exact hz

/-- What is told of a circuit that came in. -/
structure Came (w : World) (c : CV) (C : Circ) : Prop where
  holds : Holds w c C
  n1 : c.n1 ≤ maxLen
  n2 : c.n2 ≤ maxLen
  n3 : c.n3 ≤ maxLen
  n4 : c.n4 ≤ maxLen
  n5 : c.n5 ≤ maxLen
  n6 : c.n6 ≤ maxLen
  n7 : c.n7 ≤ maxLen
  m : I64 c.m
  names : ∀ s ∈ C.names, s.2.2.size ≤ maxLen

set_option maxRecDepth 100000 in
theorem open_circuit {r : Reach} {b0 : Nat} {v : Value} {d : DataW H} {p : List MemPlace} (hv : Value.okWide Try.prog w r b0 27 v) (h : DataW.Trod enc Try.prog w 0 (fun _ => true) true 27 v d p) : ∃ c C, v = CV.v c ∧ Came w c C := by
  obtain ⟨cs, rfl, hsz⟩ := okWide_struct Try.underlying27 hv
  have hc : Try.prog.cellsOf 27 = 8 := by kernel_rfl
  have c1 : Try.prog.cellsOf 3 = 1 := by kernel_rfl
  have c2 : Try.prog.cellsOf 22 = 1 := by kernel_rfl
  have c3 : Try.prog.cellsOf 23 = 1 := by kernel_rfl
  have c4 : Try.prog.cellsOf 24 = 1 := by kernel_rfl
  have c5 : Try.prog.cellsOf 25 = 1 := by kernel_rfl
  obtain ⟨l⟩ := cs
  rw [hc] at hsz
  obtain ⟨v0, v1, v2, v3, v4, v5, v6, v7, rfl⟩ := list8 (l := l) (by simpa using hsz)
  obtain ⟨fuel, hf⟩ := h
  obtain ⟨xs, n, _, _, _, hlen, hff⟩ := DataW.trod_struct Try.underlying27 hf
  obtain ⟨y0, y1, y2, y3, y4, y5, y6, y7, rfl⟩ := list8 (l := xs) (by simpa using hlen)
  have g0 := hff 0 _ rfl
  have g1 := hff 1 _ rfl
  have g2 := hff 2 _ rfl
  have g3 := hff 3 _ rfl
  have g4 := hff 4 _ rfl
  have g5 := hff 5 _ rfl
  have g6 := hff 6 _ rfl
  have g7 := hff 7 _ rfl
  simp [Value.cells, c1, c2, c3, c4, c5] at g0 g1 g2 g3 g4 g5 g6 g7
  obtain ⟨m, q0, -, hm⟩ := DataW.trod_int Try.underlying3 g0
  simp at q0
  subst q0
  obtain ⟨a1, n1, k1, z1, rfl, r1⟩ := ints_field g1
  obtain ⟨a2, n2, k2, t2, rfl, r2, l2, w2, b2⟩ := latches_field g2
  obtain ⟨a3, n3, k3, z3, rfl, r3⟩ := ints_field g3
  obtain ⟨a4, n4, k4, z4, rfl, r4⟩ := ints_field g4
  obtain ⟨a5, n5, k5, z5, rfl, r5⟩ := ints_field g5
  obtain ⟨a6, n6, k6, t6, rfl, r6, l6, w6, b6⟩ := ands_field g6
  obtain ⟨a7, n7, k7, t7, rfl, r7, l7, w7, b7, s7⟩ := symbols_field g7
  obtain ⟨p1, -, p2, p3, p4, p5⟩ := r1.row
  obtain ⟨u1, -, u2, u3, u4, u5⟩ := r3.row
  obtain ⟨x1, -, x2, x3, x4, x5⟩ := r4.row
  obtain ⟨o1, -, o2, o3, o4, o5⟩ := r5.row
  refine ⟨⟨m, a1, n1, k1, a2, n2, k2, a3, n3, k3, a4, n4, k4, a5, n5, k5, a6, n6, k6, a7, n7, k7⟩, ⟨m, z1.take n1, t2, z3.take n3, z4.take n4, z5.take n5, t6, t7⟩, rfl, ⟨⟨rfl, p1, p3, p2, r2, l2, w2, u1, u3, u2, x1, x3, x2, o1, o3, o2, r6, l6, w6, r7, l7, w7⟩, ?_, b2, ?_, ?_, ?_, b6, b7, bounds_i64 hm, s7⟩⟩
  · exact Nat.le_trans p4 p5
  · exact Nat.le_trans u4 u5
  · exact Nat.le_trans x4 x5
  · exact Nat.le_trans o4 o5
end
end Go.Proofs.Ytppaifckiaaffaa
