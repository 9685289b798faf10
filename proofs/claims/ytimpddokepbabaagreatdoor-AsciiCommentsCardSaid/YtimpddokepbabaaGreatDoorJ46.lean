/-
  A CIRCUIT THAT COMES IN, opened.
  A CIRCUIT THAT COMES IN, and its size.
  THE REFERENCE's READER, pure: a row, as far as it goes; a name's line by where its first blank stands; once it has failed a reader stays so.
  THE PLAIN MATHEMATICS of the reference's Dec: a number's digits, and that they are its number. No program in this text.
  WHAT A CIRCUIT IS WITH ITS VARIABLES IN ORDER, no function of the program.
  WHAT IS WRITTEN OF A CIRCUIT, pure: lines of numbers, names; and that each line is read as it was.
-/
import Derived.Test.YtimpddokepbabaaGreatDoorAigMem
import Derived.Deep.SlicePairs
import Derived.Lib.SmallJoins
import Derived.Test.YtimpddokepbabaaGreatDoorAigCheck
import Derived.SizedLaws
import Derived.Test.YtimpddokepbabaaGreatDoorRd2
import Derived.Test.YtimpddokepbabaaGreatDoorPlain
import Derived.Test.YtimpddokepbabaaGreatDoorAigTurn
namespace Go.Proofs.YtimpddokepbabaaGreatDoor
open Go.ChangeShapes Go.WideShapes Go.ChangeAt Go.RowKit

theorem list3 {α : Type} {l : List α} (h : l.length = 3) : ∃ a b c, l = [a, b, c] := by
  match l, h with
  | [a, b, c], _ => exact ⟨a, b, c, rfl⟩
theorem list8 {α : Type} {l : List α} (h : l.length = 8) : ∃ a b c d e f g i, l = [a, b, c, d, e, f, g, i] := by
  match l, h with
  | [a, b, c, d, e, f, g, i], _ => exact ⟨a, b, c, d, e, f, g, i, rfl⟩

section
variable {H : Type} {enc : TypeId × Value → H} {P : Program} {w : World} {base : Nat} {spare : Nat → Bool} {held : Bool}

/-- A slice of structs of three cells. -/
theorem open_three {t e : TypeId} {f0 f1 f2 : Field} {fuel : Nat} {cs : List Value} {x : DataW H × List MemPlace} (ht : P.underlying t = some (.slice e)) (he : P.underlying e = some (.struct #[f0, f1, f2])) (ce : P.cellsOf e = 3)
    (o0 : f0.offset = 0) (o1 : f1.offset = 1) (o2 : f2.offset = 2) (c0 : P.cellsOf f0.type = 1) (c1 : P.cellsOf f1.type = 1) (c2 : P.cellsOf f2.type = 1) (h : DataW.trod enc P w base spare held fuel t cs = some x) :
    cs = [.slice none 0 0] ∨ ∃ (a : Addr) (len cap n : Nat), cs = [.slice (some a) len cap] ∧ len ≤ cap ∧ cap ≤ maxLen ∧ ∀ i, i < len → ∃ v0 v1 v2 y0 y1 y2, w.cell? (a.add (i * 3)) = some v0 ∧ w.cell? (a.add (i * 3 + 1)) = some v1 ∧ w.cell? (a.add (i * 3 + 2)) = some v2 ∧
      DataW.trod enc P w base spare held n f0.type [v0] = some y0 ∧ DataW.trod enc P w base spare held n f1.type [v1] = some y1 ∧ DataW.trod enc P w base spare held n f2.type [v2] = some y2 := by
  rcases Go.Deep.open_slice ht h with ⟨h0, _⟩ | ⟨a, len, cap, m, n, D, Pl, rfl, hb, hl, hm, hmm, rfl, hx⟩
  · exact Or.inl h0
  right
  have hlm : len ≤ m := by rw [hmm]; split <;> omega
  refine ⟨a, len, cap, n - 1, rfl, hl, hm, fun i hi => ?_⟩
  obtain ⟨cs', h1, h2⟩ := hx i (by omega)
  rw [ce] at h1
  obtain ⟨_, hlen, hcell⟩ := World.cells?_some h1
  obtain ⟨xs, k, hk, hxy, _, hxl, hf⟩ := DataW.trod_struct he h2
  have hk' : k = n - 1 := by omega
  subst hk'
  obtain ⟨y0, y1, y2, rfl⟩ := list3 hxl
  obtain ⟨v0, v1, v2, rfl⟩ := list3 hlen
  have g0 := hf 0 f0 rfl
  have g1 := hf 1 f1 rfl
  have g2 := hf 2 f2 rfl
  simp [o0, o1, o2, c0, c1, c2] at g0 g1 g2
  have e0 := hcell 0 (by omega)
  have e1 := hcell 1 (by omega)
  have e2 := hcell 2 (by omega)
  rw [add_add] at e0 e1 e2
  exact ⟨v0, v1, v2, y0, y1, y2, by simpa using e0, by simpa using e1, by simpa using e2, g0, g1, g2⟩
end

section
variable {H : Type} {enc : TypeId × Value → H} {w : World}

theorem ints_field {fuel : Nat} {v : Value} {x : DataW H × List MemPlace} (h : DataW.trod enc Tryz.prog w 0 (fun _ => true) true fuel 24 [v] = some x) : ∃ a n c zs, v = .slice a n c ∧ IsRow .i64 w a n c zs := by
  rcases open_ints Tryz.underlying24 Tryz.underlying3 (by kernel_rfl) h with ⟨hcs, _⟩ | ⟨x, l, c, zs, hcs, _, hl, hm, hz, _, hcell, hwz⟩
  · simp at hcs
    exact ⟨none, 0, 0, [], hcs, .inl ⟨rfl, rfl, rfl, rfl⟩⟩
  · simp at hcs
    exact ⟨_, l, c, zs, hcs, .inr ⟨_, rfl, hl, hm, by simpa using hz, hcell, hwz⟩⟩

theorem rows_three {α : Type} [Inhabited α] {f g k : α → Value} {a : Addr} {n : Nat} (h : ∀ i, i < n → ∃ t : α, w.cell? (a.add (i * 3)) = some (f t) ∧ w.cell? (a.add (i * 3 + 1)) = some (g t) ∧ w.cell? (a.add (i * 3 + 2)) = some (k t)) :
    ∃ ts : List α, ts.length = n ∧ RowC w (some a) (ts.flatMap (fun t => [f t, g t, k t])) := by
  obtain ⟨F, hF⟩ := Go.Deep.choose_lt h
  refine ⟨(List.range n).map F, by simp, .inr ⟨a, rfl, fun j u hu => ?_⟩⟩
  have hl : ∀ l : List α, (l.flatMap (fun t => [f t, g t, k t])).length = l.length * 3 := fun l => by
    induction l with
    | nil => rfl
    | cons t ts ih => rw [List.flatMap_cons, List.length_append, ih]; simp; omega
  have hj : j < n * 3 := by
    rcases Nat.lt_or_ge j (((List.range n).map F).flatMap (fun t => [f t, g t, k t])).length with h1 | h1
    · rw [hl] at h1; simpa using h1
    · rw [List.getElem?_eq_none h1] at hu; cases hu
  obtain ⟨i, hi, hij⟩ : ∃ i, i < n ∧ (j = i * 3 ∨ j = i * 3 + 1 ∨ j = i * 3 + 2) := ⟨j / 3, by omega, by omega⟩
  have hat := three_at f g k ((List.range n).map F) i (by simpa using hi)
  have e : atP ((List.range n).map F) i = F i := by rw [atP_eq _ i (by simpa using hi)]; simp
  rw [e] at hat
  have hc := hF i hi
  rcases hij with rfl | rfl | rfl
  · rw [hat.1] at hu; cases hu; exact hc.1
  · rw [hat.2.1] at hu; cases hu; exact hc.2.1
  · rw [hat.2.2] at hu; cases hu; exact hc.2.2

theorem latches_field {fuel : Nat} {v : Value} {x : DataW H × List MemPlace} (h : DataW.trod enc Tryz.prog w 0 (fun _ => true) true fuel 25 [v] = some x) : ∃ a n c ts, v = .slice a n c ∧ RowC w a (cellsT ts) ∧ ts.length = n ∧ (a = none → c = 0) ∧ n ≤ maxLen := by
  rcases open_three Tryz.underlying25 Tryz.underlying73 (by kernel_rfl) rfl rfl rfl (by kernel_rfl) (by kernel_rfl) (by kernel_rfl) h with hcs | ⟨a, len, cap, n, hcs, hl, hm, hx⟩
  · simp at hcs
    exact ⟨none, 0, 0, [], hcs, .inl ⟨rfl, rfl⟩, rfl, fun _ => rfl, by decide⟩
  · simp at hcs
    obtain ⟨ts, h1, h2⟩ := rows_three (α := Tri) (f := fun t => .int .i64 t.1) (g := fun t => .int .i64 t.2.1) (k := fun t => .int .i64 t.2.2) (fun i hi => by
      obtain ⟨v0, v1, v2, y0, y1, y2, e0, e1, e2, t0, t1, t2⟩ := hx i hi
      obtain ⟨z0, q0, -⟩ := DataW.trod_int Tryz.underlying3 t0
      obtain ⟨z1, q1, -⟩ := DataW.trod_int Tryz.underlying3 t1
      obtain ⟨z2, q2, -⟩ := DataW.trod_int Tryz.underlying3 t2
      simp at q0 q1 q2
      subst q0; subst q1; subst q2
      exact ⟨(z0, z1, z2), e0, e1, e2⟩)
    exact ⟨_, len, cap, ts, hcs, h2, h1, (fun e => by cases e), by omega⟩

theorem ands_field {fuel : Nat} {v : Value} {x : DataW H × List MemPlace} (h : DataW.trod enc Tryz.prog w 0 (fun _ => true) true fuel 26 [v] = some x) : ∃ a n c ts, v = .slice a n c ∧ RowC w a (cellsT ts) ∧ ts.length = n ∧ (a = none → c = 0) ∧ n ≤ maxLen := by
  rcases open_three Tryz.underlying26 Tryz.underlying53 (by kernel_rfl) rfl rfl rfl (by kernel_rfl) (by kernel_rfl) (by kernel_rfl) h with hcs | ⟨a, len, cap, n, hcs, hl, hm, hx⟩
  · simp at hcs
    exact ⟨none, 0, 0, [], hcs, .inl ⟨rfl, rfl⟩, rfl, fun _ => rfl, by decide⟩
  · simp at hcs
    obtain ⟨ts, h1, h2⟩ := rows_three (α := Tri) (f := fun t => .int .i64 t.1) (g := fun t => .int .i64 t.2.1) (k := fun t => .int .i64 t.2.2) (fun i hi => by
      obtain ⟨v0, v1, v2, y0, y1, y2, e0, e1, e2, t0, t1, t2⟩ := hx i hi
      obtain ⟨z0, q0, -⟩ := DataW.trod_int Tryz.underlying3 t0
      obtain ⟨z1, q1, -⟩ := DataW.trod_int Tryz.underlying3 t1
      obtain ⟨z2, q2, -⟩ := DataW.trod_int Tryz.underlying3 t2
      simp at q0 q1 q2
      subst q0; subst q1; subst q2
      exact ⟨(z0, z1, z2), e0, e1, e2⟩)
    exact ⟨_, len, cap, ts, hcs, h2, h1, (fun e => by cases e), by omega⟩

theorem symbols_field {fuel : Nat} {v : Value} {x : DataW H × List MemPlace} (h : DataW.trod enc Tryz.prog w 0 (fun _ => true) true fuel 27 [v] = some x) : ∃ a n c ts, v = .slice a n c ∧ RowC w a (cellsS ts) ∧ ts.length = n ∧ (a = none → c = 0) ∧ n ≤ maxLen ∧ ∀ s ∈ ts, s.2.2.size ≤ maxLen := by
  rcases open_three Tryz.underlying27 Tryz.underlying77 (by kernel_rfl) rfl rfl rfl (by kernel_rfl) (by kernel_rfl) (by kernel_rfl) h with hcs | ⟨a, len, cap, n, hcs, hl, hm, hx⟩
  · simp at hcs
    exact ⟨none, 0, 0, [], hcs, .inl ⟨rfl, rfl⟩, rfl, fun _ => rfl, by decide, fun s hs => by cases hs⟩
  · simp at hcs
    have each : ∀ i, i < len → ∃ t : Sym, w.cell? (a.add (i * 3)) = some (.int .u8 t.1) ∧ w.cell? (a.add (i * 3 + 1)) = some (.int .i64 t.2.1) ∧ w.cell? (a.add (i * 3 + 2)) = some (.string t.2.2) := fun i hi => by
      obtain ⟨v0, v1, v2, y0, y1, y2, e0, e1, e2, t0, t1, t2⟩ := hx i hi
      obtain ⟨z0, q0, -⟩ := DataW.trod_int Tryz.underlying5 t0
      obtain ⟨z1, q1, -⟩ := DataW.trod_int Tryz.underlying3 t1
      obtain ⟨z2, q2, -⟩ := DataW.trod_string Tryz.underlying9 t2
      simp at q0 q1 q2
      subst q0; subst q1; subst q2
      exact ⟨(z0, z1, z2), e0, e1, e2⟩
    obtain ⟨ts, h1, h2⟩ := rows_three (α := Sym) (f := fun t => .int .u8 t.1) (g := fun t => .int .i64 t.2.1) (k := fun t => .string t.2.2) each
    refine ⟨_, len, cap, ts, hcs, h2, h1, (fun e => by cases e), by omega, fun s hs => ?_⟩
    obtain ⟨i, hi, rfl⟩ := List.getElem_of_mem hs
    have hat := (three_at (fun t : Sym => Value.int .u8 t.1) (fun t => .int .i64 t.2.1) (fun t => .string t.2.2) ts i hi).2.2
    rcases h2 with ⟨e, _⟩ | ⟨y, e, hc⟩
    · cases e
    · cases e
      have hcc := hc _ _ hat
      obtain ⟨v0, v1, v2, y0, y1, y2, e0, e1, e2, t0, t1, t2⟩ := hx i (by omega)
      obtain ⟨z2, q2, -, hz⟩ := DataW.trod_string Tryz.underlying9 t2
      simp at q2
      subst q2
      rw [hcc] at e2
      rw [atP_eq ts i hi] at e2
      cases e2
      exact hz

/-- What is told of a circuit that came in. -/
structure Came (w : World) (c : CV) (C : Circ) : Prop where
  holds : Holds w c C
  n1 : c.n1 ≤ maxLen
  n2 : c.n2 ≤ maxLen
  n3 : c.n3 ≤ maxLen
  n4 : c.n4 ≤ maxLen
  n5 : c.n5 ≤ maxLen
  n6 : c.n6 ≤ maxLen
  n7 : c.n7 ≤ maxLen
  m : I64 c.m
  names : ∀ s ∈ C.names, s.2.2.size ≤ maxLen

set_option maxRecDepth 100000 in
theorem open_circuit {r : Reach} {b0 : Nat} {v : Value} {d : DataW H} {p : List MemPlace} (hv : Value.okWide Tryz.prog w r b0 29 v) (h : DataW.Trod enc Tryz.prog w 0 (fun _ => true) true 29 v d p) : ∃ c C, v = CV.v c ∧ Came w c C := by
  obtain ⟨cs, rfl, hsz⟩ := okWide_struct Tryz.underlying29 hv
  have hc : Tryz.prog.cellsOf 29 = 8 := by kernel_rfl
  have c1 : Tryz.prog.cellsOf 3 = 1 := by kernel_rfl
  have c2 : Tryz.prog.cellsOf 24 = 1 := by kernel_rfl
  have c3 : Tryz.prog.cellsOf 25 = 1 := by kernel_rfl
  have c4 : Tryz.prog.cellsOf 26 = 1 := by kernel_rfl
  have c5 : Tryz.prog.cellsOf 27 = 1 := by kernel_rfl
  obtain ⟨l⟩ := cs
  rw [hc] at hsz
  obtain ⟨v0, v1, v2, v3, v4, v5, v6, v7, rfl⟩ := list8 (l := l) (by simpa using hsz)
  obtain ⟨fuel, hf⟩ := h
  obtain ⟨xs, n, _, _, _, hlen, hff⟩ := DataW.trod_struct Tryz.underlying29 hf
  obtain ⟨y0, y1, y2, y3, y4, y5, y6, y7, rfl⟩ := list8 (l := xs) (by simpa using hlen)
  have g0 := hff 0 _ rfl
  have g1 := hff 1 _ rfl
  have g2 := hff 2 _ rfl
  have g3 := hff 3 _ rfl
  have g4 := hff 4 _ rfl
  have g5 := hff 5 _ rfl
  have g6 := hff 6 _ rfl
  have g7 := hff 7 _ rfl
  simp [Value.cells, c1, c2, c3, c4, c5] at g0 g1 g2 g3 g4 g5 g6 g7
  obtain ⟨m, q0, -, hm⟩ := DataW.trod_int Tryz.underlying3 g0
  simp at q0
  subst q0
  obtain ⟨a1, n1, k1, z1, rfl, r1⟩ := ints_field g1
  obtain ⟨a2, n2, k2, t2, rfl, r2, l2, w2, b2⟩ := latches_field g2
  obtain ⟨a3, n3, k3, z3, rfl, r3⟩ := ints_field g3
  obtain ⟨a4, n4, k4, z4, rfl, r4⟩ := ints_field g4
  obtain ⟨a5, n5, k5, z5, rfl, r5⟩ := ints_field g5
  obtain ⟨a6, n6, k6, t6, rfl, r6, l6, w6, b6⟩ := ands_field g6
  obtain ⟨a7, n7, k7, t7, rfl, r7, l7, w7, b7, s7⟩ := symbols_field g7
  obtain ⟨p1, -, p2, p3, p4, p5⟩ := r1.row
  obtain ⟨u1, -, u2, u3, u4, u5⟩ := r3.row
  obtain ⟨x1, -, x2, x3, x4, x5⟩ := r4.row
  obtain ⟨o1, -, o2, o3, o4, o5⟩ := r5.row
  refine ⟨⟨m, a1, n1, k1, a2, n2, k2, a3, n3, k3, a4, n4, k4, a5, n5, k5, a6, n6, k6, a7, n7, k7⟩, ⟨m, z1.take n1, t2, z3.take n3, z4.take n4, z5.take n5, t6, t7⟩, rfl, ⟨⟨rfl, p1, p3, p2, r2, l2, w2, u1, u3, u2, x1, x3, x2, o1, o3, o2, r6, l6, w6, r7, l7, w7⟩, ?_, b2, ?_, ?_, ?_, b6, b7, bounds_i64 hm, s7⟩⟩
  · exact Nat.le_trans p4 p5
  · exact Nat.le_trans u4 u5
  · exact Nat.le_trans x4 x5
  · exact Nat.le_trans o4 o5
end
end Go.Proofs.YtimpddokepbabaaGreatDoor

namespace Go.Proofs.YtimpddokepbabaaGreatDoor
open Go.ChangeShapes Go.WideShapes Go.ChangeAt Go.RowKit

theorem weightsAllS {H : Type} {P : Program} {e : TypeId} : ∀ {l : List (DataW H)} {d : DataW H}, d ∈ l → ∀ n ∈ d.weights P e, n ∈ DataW.weightsAll P e l
  | d' :: r, d, hd, n, hn => by
    simp only [DataW.weightsAll, List.mem_append]
    rcases List.mem_cons.1 hd with rfl | h
    · exact Or.inl hn
    · exact Or.inr (weightsAllS h n hn)

section
variable {H : Type} {enc : TypeId × Value → H} {w : World}

theorem row_sized {t e : TypeId} {fuel n k : Nat} {a : Option Addr} {x : DataW H × List MemPlace} (ht : Tryz.prog.underlying t = some (.slice e)) (hb : 8 ≤ Tryz.prog.bytesOf e) (h : DataW.trod enc Tryz.prog w 0 (fun _ => true) true fuel t [.slice a n k] = some x) (hw : ∀ m ∈ x.1.weights Tryz.prog t, m ≤ reachBytes) : n ≤ 281474976710656 := by
  rcases Go.Deep.open_slice ht h with ⟨h0, _⟩ | ⟨b, len, cap, m, q, D, Pl, h0, -, -, -, -, rfl, -⟩
  · simp at h0; omega
  · simp at h0
    obtain ⟨-, rfl, -⟩ := h0
    have h1 : (((List.range n).map D).length + ((List.range (m - n)).map fun j => D (n + j)).length) * Tryz.prog.bytesOf e ≤ reachBytes := hw _ (by simp only [DataW.weights, ht]; exact List.mem_cons_self ..)
    rw [List.length_map, List.length_range] at h1
    have h2 : n * 8 ≤ (n + ((List.range (m - n)).map fun j => D (n + j)).length) * Tryz.prog.bytesOf e := Nat.mul_le_mul (Nat.le_add_right _ _) hb
    have h3 := reachBytes_lt
    have h4 : (2 : Nat) ^ 47 = 140737488355328 := by decide
    omega

set_option maxRecDepth 100000 in
theorem symbols_sized {fuel n k : Nat} {a : Option Addr} {x : DataW H × List MemPlace} (h : DataW.trod enc Tryz.prog w 0 (fun _ => true) true fuel 27 [.slice a n k] = some x) (hw : ∀ m ∈ x.1.weights Tryz.prog 27, m ≤ reachBytes) (ts : List Sym) (hl : ts.length = n) (hr : RowC w a (cellsS ts)) : ∀ s ∈ ts, s.2.2.size ≤ 281474976710656 := by
  intro s hs
  obtain ⟨i, hi, rfl⟩ := List.getElem_of_mem hs
  have hat := (three_at (fun t : Sym => Value.int .u8 t.1) (fun t => .int .i64 t.2.1) (fun t => .string t.2.2) ts i hi).2.2
  have ce : Tryz.prog.cellsOf 77 = 3 := by kernel_rfl
  have c1 : Tryz.prog.cellsOf 5 = 1 := by kernel_rfl
  have c2 : Tryz.prog.cellsOf 3 = 1 := by kernel_rfl
  have c3 : Tryz.prog.cellsOf 9 = 1 := by kernel_rfl
  rcases Go.Deep.open_slice Tryz.underlying27 h with ⟨h0, _⟩ | ⟨b, len, cap, m, q, D, Pl, h0, -, hlc, -, hm, rfl, hx⟩
  · simp at h0; omega
  · simp at h0
    obtain ⟨rfl, rfl, -⟩ := h0
    obtain ⟨cs', h1, h2⟩ := hx i (by rw [hm, if_pos rfl]; omega)
    rw [ce] at h1
    obtain ⟨_, hlen, hcell⟩ := World.cells?_some h1
    obtain ⟨xs, k', hk, hxy, _, hxl, hf⟩ := DataW.trod_struct Tryz.underlying77 h2
    obtain ⟨y0, y1, y2, rfl⟩ := list3 hxl
    obtain ⟨v0, v1, v2, rfl⟩ := list3 hlen
    have g2 := hf 2 _ rfl
    simp [c3] at g2
    obtain ⟨z2, q2, rfl, -⟩ := DataW.trod_string Tryz.underlying9 g2
    simp at q2
    subst q2
    have e2 := hcell 2 (by omega)
    rw [add_add] at e2
    rcases hr with ⟨e, _⟩ | ⟨y, e, hc⟩
    · cases e
    · cases e
      have hcc := hc _ _ hat
      rw [show i * 3 + 2 = i * 3 + 2 from rfl] at hcc
      rw [hcc] at e2
      rw [atP_eq ts i hi] at e2
      simp at e2
      rw [e2]
      have hD : D i = .agg [y0.1, y1.1, .lit (.string z2.data.toList)] := by simpa using congrArg Prod.fst hxy
      have h3 : z2.data.toList.length ≤ reachBytes := hw _ (by
        simp only [DataW.weights, Tryz.underlying27]
        refine List.mem_cons_of_mem _ (List.mem_append_left _ (weightsAllS (List.mem_map.2 ⟨i, List.mem_range.2 (show i < n by omega), rfl⟩) _ ?_))
        rw [hD]
        simp [DataW.weights, Tryz.underlying77, DataW.weightsEach])
      have h4 := reachBytes_lt
      have h5 : (2 : Nat) ^ 47 = 140737488355328 := by decide
      have h6 : z2.size = z2.data.toList.length := (Array.length_toList).symm
      omega

/-- What is told of a circuit that came in, with its size. -/
structure CameS (w : World) (c : CV) (C : Circ) : Prop where
  came : Came w c C
  n1 : c.n1 ≤ 281474976710656
  n2 : c.n2 ≤ 281474976710656
  n3 : c.n3 ≤ 281474976710656
  n4 : c.n4 ≤ 281474976710656
  n5 : c.n5 ≤ 281474976710656
  n6 : c.n6 ≤ 281474976710656
  n7 : c.n7 ≤ 281474976710656
  names : NamesFit C

set_option maxRecDepth 100000 in
theorem open_circuitS {r : Reach} {b0 : Nat} {v : Value} {d : DataW H} {p : List MemPlace} (hv : Value.okWide Tryz.prog w r b0 29 v) (h : DataW.Trod enc Tryz.prog w 0 (fun _ => true) true 29 v d p) (hs : ∀ m ∈ d.weights Tryz.prog 29, m ≤ reachBytes) : ∃ c C, v = CV.v c ∧ CameS w c C := by
  obtain ⟨c, C, rfl, hC⟩ := open_circuit hv h
  obtain ⟨fuel, hf⟩ := h
  have c1 : Tryz.prog.cellsOf 3 = 1 := by kernel_rfl
  have c2 : Tryz.prog.cellsOf 24 = 1 := by kernel_rfl
  have c3 : Tryz.prog.cellsOf 25 = 1 := by kernel_rfl
  have c4 : Tryz.prog.cellsOf 26 = 1 := by kernel_rfl
  have c5 : Tryz.prog.cellsOf 27 = 1 := by kernel_rfl
  obtain ⟨xs, n, _, hd, _, hlen, hff⟩ := DataW.trod_struct Tryz.underlying29 hf
  obtain ⟨y0, y1, y2, y3, y4, y5, y6, y7, rfl⟩ := list8 (l := xs) (by simpa using hlen)
  have hd1 : d = .agg [y0.1, y1.1, y2.1, y3.1, y4.1, y5.1, y6.1, y7.1] := by simpa using congrArg Prod.fst hd
  subst hd1
  have g1 := hff 1 _ rfl
  have g2 := hff 2 _ rfl
  have g3 := hff 3 _ rfl
  have g4 := hff 4 _ rfl
  have g5 := hff 5 _ rfl
  have g6 := hff 6 _ rfl
  have g7 := hff 7 _ rfl
  unfold CV.v at g1 g2 g3 g4 g5 g6 g7
  simp [Value.cells, c2, c3, c4, c5] at g1 g2 g3 g4 g5 g6 g7
  simp only [DataW.weights, Tryz.underlying29] at hs
  have s (j : Nat) (t : TypeId) (y : DataW H) (ht : _ = some t) (hy : _ = some y) : ∀ m ∈ y.weights Tryz.prog t, m ≤ reachBytes := fun m hm => hs m (DataW.weights_mem_each (j := j) ht hy m hm)
  exact ⟨c, C, rfl, hC, row_sized Tryz.underlying24 (by decide +kernel) g1 (s 1 _ _ rfl rfl), row_sized Tryz.underlying25 (by decide +kernel) g2 (s 2 _ _ rfl rfl), row_sized Tryz.underlying24 (by decide +kernel) g3 (s 3 _ _ rfl rfl), row_sized Tryz.underlying24 (by decide +kernel) g4 (s 4 _ _ rfl rfl), row_sized Tryz.underlying24 (by decide +kernel) g5 (s 5 _ _ rfl rfl), row_sized Tryz.underlying26 (by decide +kernel) g6 (s 6 _ _ rfl rfl), row_sized Tryz.underlying27 (by decide +kernel) g7 (s 7 _ _ rfl rfl), symbols_sized g7 (s 7 _ _ rfl rfl) C.names hC.holds.l7 hC.holds.r7⟩
end
end Go.Proofs.YtimpddokepbabaaGreatDoor

namespace Go.Proofs.YtimpddokepbabaaGreatDoor
open Go.RowKit

/-- The error that a reader bears. -/
def errR (st : Option Nat) : Int := if st.isNone = true then 2 else 0
/-- A row's numbers: none where the reader has failed. -/
def rowL (xs : List Int) (top : Int) (least most : Nat) (st : Option Nat) : List Int := if (rowS xs top least most st).2.isSome = true then nsL (lineS xs st).1 least most top else []

theorem rowS_none (xs : List Int) (top : Int) (least most : Nat) : (rowS xs top least most none).2 = none := by
  unfold rowS
  split <;> rfl
theorem rowS_ok {xs : List Int} {top : Int} {least most : Nat} {st : Option Nat} (h : (rowS xs top least most st).2.isSome = true) :
    nsE (lineS xs st).1 least most top = 0 ∧ (rowS xs top least most st).1 = rowL xs top least most st ++ List.replicate (most - (rowL xs top least most st).length) 0 ∧ least ≤ (rowL xs top least most st).length ∧ (rowL xs top least most st).length ≤ most := by
  by_cases h0 : nsE (lineS xs st).1 least most top = 0
  · have e : rowL xs top least most st = nsL (lineS xs st).1 least most top := by rw [rowL, if_pos h]
    have hl := nsL_len h0
    rw [e]
    refine ⟨h0, ?_, by omega, by omega⟩
    rw [rowS, if_pos h0]
  · rw [rowS, if_neg h0] at h
    cases h
theorem rowL_le (xs : List Int) (top : Int) (least most : Nat) (st : Option Nat) : (rowL xs top least most st).length ≤ most := by
  by_cases h : (rowS xs top least most st).2.isSome = true
  · exact (rowS_ok h).2.2.2
  · rw [rowL, if_neg h]; exact Nat.zero_le _

theorem itemsS_stuck {α : Type} {f : Nat → Option Nat → α × Option Nat} (hf : ∀ n, (f n none).2 = none) {st : Option Nat} {k : Nat} (h : (itemsS f st k).2 = none) : ∀ m, k ≤ m → (itemsS f st m).2 = none := by
  intro m hm
  induction m with
  | zero => obtain rfl : k = 0 := by omega
            exact h
  | succ m ih =>
    by_cases e : k = m + 1
    · rw [← e]; exact h
    · rw [itemsS, ih (by omega)]
      exact hf m
theorem litS_none (xs : List Int) (top lit : Int) : (litS xs top lit none).2 = none := rowS_none xs top 1 1
theorem latS_none (xs : List Int) (top lit : Int) : (latS xs top lit none).2 = none := rowS_none xs top 2 3
theorem andS_none (xs : List Int) (top lit : Int) : (andS xs top lit none).2 = none := rowS_none xs top 3 3

/-- The rows while they are right. -/
def OkL {α : Type} (st : Option Nat) (L L' : List α) : Prop := st.isSome = true → L = L'

/-- Where a line's first blank stands (its end, if none). -/
def Bl (s : ByteArray) (k : Nat) : Prop := k ≤ s.size ∧ NoBl s 0 k ∧ (k < s.size → s.data.toList[k]? = some 32)

theorem index_one (l : List UInt8) (i : Nat) (h1 : l[i]? = some 32) (h2 : ∀ k : Nat, k < i → l[k]? ≠ some 32) : Lib.index l [32] = i := by
  have e := Lib.index_one l 32
  rw [e]
  exact idx_eq l 32 i h1 h2
theorem index_miss1 (l : List UInt8) (h : ∀ k : Nat, l[k]? ≠ some 32) : Lib.index l [32] = -1 := by
  have e := Lib.index_one l 32
  rw [e]
  exact idx_no l 32 h
theorem tail1_get (s : ByteArray) (i : Nat) : (tail1 s)[i]? = s.data.toList[i + 1]? := by
  rw [tail1, List.getElem?_drop, Nat.add_comm]
theorem size_list (s : ByteArray) : s.data.toList.length = s.size := Array.length_toList

theorem cut_hit {s : ByteArray} {k : Nat} (h : Bl s k) (h1 : 1 ≤ k) (h2 : k < s.size) :
    (Lib.cut (tail1 s) [32]).1 = (s.extract 1 k).data.toList ∧ (⟨(Lib.cut (tail1 s) [32]).2.1.toArray⟩ : ByteArray) = s.extract (k + 1) s.size ∧ (Lib.cut (tail1 s) [32]).2.2 = true := by
  have hi : Lib.index (tail1 s) [32] = ((k - 1 : Nat) : Int) := index_one _ _ (by rw [tail1_get, show k - 1 + 1 = k by omega]; exact h.2.2 h2) (fun j hj => by rw [tail1_get]; exact h.2.1 (j + 1) (by omega) (by omega))
  unfold Lib.cut
  rw [hi, if_pos (by omega)]
  refine ⟨?_, ?_, rfl⟩
  · dsimp only
    rw [Lib.extract_data, tail1]
    simp
  · apply ByteArray.ext
    apply Array.toList_inj.1
    rw [Lib.extract_to_end]
    show List.drop _ (tail1 s) = _
    rw [tail1, List.drop_drop]
    congr 1
    simp
    omega
theorem cut_miss {s : ByteArray} (h : Bl s s.size) : (Lib.cut (tail1 s) [32]).2.2 = false := by
  have hi : Lib.index (tail1 s) [32] = -1 := index_miss1 _ (fun j => by
    rw [tail1_get]
    by_cases hj : j + 1 < s.size
    · exact h.2.1 (j + 1) (by omega) hj
    · rw [List.getElem?_eq_none (by rw [size_list]; omega)]
      intro e; cases e)
  unfold Lib.cut
  rw [hi, if_neg (by decide)]

theorem symO_short {s : ByteArray} {k : Nat} (h : Bl s k) (hk : k < 2) : symO s = none := by
  by_cases hz : s.size = 0
  · exact symO_nil s hz
  · have hp : 0 < s.size := by omega
    rw [symO_at s hp]
    rw [if_neg]
    rintro ⟨q1, q2, q3⟩
    rcases (by omega : k = 0 ∨ k = 1) with rfl | rfl
    · have e := (at_blank s 0 hp).1 (h.2.2 hp)
      have e2 : s[0] = 32 := by apply UInt8.toNat_inj.1; have : (32 : UInt8).toNat = 32 := rfl; omega
      rw [e2] at q1
      revert q1
      decide
    · by_cases h1 : 1 < s.size
      · obtain ⟨c1, -, -⟩ := cut_hit h (Nat.le_refl _) h1
        rw [c1, show (s.extract 1 1).data.toList = [] by rw [Lib.extract_data]; simp] at q3
        revert q3
        decide
      · obtain e : s.size = 1 := by omega
        rw [← e] at h
        rw [cut_miss h] at q2
        cases q2
theorem symO_full {s : ByteArray} (h : Bl s s.size) : symO s = none := by
  by_cases hz : s.size = 0
  · exact symO_nil s hz
  · rw [symO_at s (by omega), cut_miss h, if_neg]
    rintro ⟨-, q, -⟩
    cases q
theorem symO_line {s : ByteArray} {k : Nat} (h : Bl s k) (h2 : 2 ≤ k) (h3 : k < s.size) (hp : 0 < s.size) :
    symO s = if isKind s[0] = true ∧ numE (s.extract 1 k).data.toList 2147483647 = 0 then some ((s[0].toNat : Int), numV (s.extract 1 k).data.toList 2147483647, s.extract (k + 1) s.size) else none := by
  obtain ⟨c1, c2, c3⟩ := cut_hit h (by omega) h3
  rw [symO_at s hp, c1, c2, c3]
  simp
theorem bl_start (s : ByteArray) : NoBl s 0 0 := fun _j _ hj => absurd hj (Nat.not_lt_zero _)
theorem bl_next {s : ByteArray} {k : Nat} (h : NoBl s 0 k) (hk : k < s.size) (hb : ¬ (s[k].toNat : Int) = 32) : NoBl s 0 (k + 1) := fun j h0 hj => by
  by_cases e : j < k
  · exact h j h0 e
  · obtain rfl : j = k := by omega
    intro e
    exact hb ((at_blank s j hk).1 e)
theorem bl_hit {s : ByteArray} {k : Nat} (h : NoBl s 0 k) (hk : k < s.size) (hb : (s[k].toNat : Int) = 32) : Bl s k := ⟨by omega, h, fun _ => (at_blank s k hk).2 hb⟩
theorem bl_end {s : ByteArray} (h : NoBl s 0 s.size) : Bl s s.size := ⟨Nat.le_refl _, h, fun e => absurd e (Nat.lt_irrefl _)⟩
end Go.Proofs.YtimpddokepbabaaGreatDoor

namespace Go.Proofs.YtimpddokepbabaaGreatDoor
open Go

/-- A digit's byte. -/
def dg (k : Nat) : UInt8 := UInt8.ofNat (48 + k)
/-- The digits of a number of at most f + 1 of them. -/
def decF : Nat → Nat → List UInt8
  | 0, n => [dg (n % 10)]
  | f + 1, n => if n ≤ 9 then [dg (n % 10)] else decF f (n / 10) ++ [dg (n % 10)]

theorem dg_toNat (k : Nat) (h : k < 10) : (dg k).toNat = 48 + k := by
  unfold dg
  rw [UInt8.toNat_ofNat']
  omega

theorem dg_dig (k : Nat) (h : k < 10) : dig (dg k) = true := by
  simp only [dig, Bool.and_eq_true, decide_eq_true_eq, dg_toNat k h]
  omega

theorem decF_small (f n : Nat) (h : n ≤ 9) : decF f n = [dg n] := by
  have e : n % 10 = n := Nat.mod_eq_of_lt (by omega)
  cases f with
  | zero => rw [decF, e]
  | succ f => rw [decF, if_pos h, e]

theorem decF_len (f : Nat) : ∀ n, 1 ≤ (decF f n).length ∧ (decF f n).length ≤ f + 1 := by
  induction f with
  | zero => intro n; simp [decF]
  | succ f ih =>
    intro n
    rw [decF]
    have := ih (n / 10)
    split
    · simp
    · simp; omega

theorem decF_all (f : Nat) : ∀ n, (decF f n).all dig = true := by
  induction f with
  | zero => intro n; simp [decF, dg_dig _ (Nat.mod_lt n (by decide : 10 > 0))]
  | succ f ih =>
    intro n
    rw [decF]
    split
    · simp [dg_dig _ (Nat.mod_lt n (by decide : 10 > 0))]
    · rw [List.all_append, ih (n / 10)]
      simp [dg_dig _ (Nat.mod_lt n (by decide : 10 > 0))]

theorem decF_val (f : Nat) : ∀ n, n < 10 ^ (f + 1) → val 0 (decF f n) = n := by
  induction f with
  | zero =>
    intro n h
    have e : n % 10 = n := Nat.mod_eq_of_lt (by simpa using h)
    rw [decF, e, val_cons, val_nil, dg_toNat n (by simpa using h)]
    omega
  | succ f ih =>
    intro n h
    by_cases h9 : n ≤ 9
    · rw [decF_small _ _ h9, val_cons, val_nil, dg_toNat n (by omega)]
      omega
    · rw [decF, if_neg h9, val_append, ih (n / 10) (by rw [Nat.pow_succ] at h; exact Nat.div_lt_of_lt_mul (by omega)), val_cons, val_nil, dg_toNat _ (Nat.mod_lt n (by decide))]
      omega

theorem decF_head (f : Nat) : ∀ n, 1 ≤ n → n < 10 ^ (f + 1) → ((decF f n).getD 0 0 == 48) = false := by
  induction f with
  | zero =>
    intro n h1 h
    have e : n % 10 = n := Nat.mod_eq_of_lt (by simpa using h)
    rw [decF, e, beq_eq_false_iff_ne]
    intro e2
    have e3 : (dg n).toNat = (48 : UInt8).toNat := congrArg UInt8.toNat e2
    have e4 : (48 : UInt8).toNat = 48 := rfl
    rw [dg_toNat n (by simpa using h)] at e3
    omega
  | succ f ih =>
    intro n h1 h
    by_cases h9 : n ≤ 9
    · rw [decF_small _ _ h9, beq_eq_false_iff_ne]
      intro e2
      have e3 : (dg n).toNat = (48 : UInt8).toNat := congrArg UInt8.toNat e2
      have e4 : (48 : UInt8).toNat = 48 := rfl
      rw [dg_toNat n (by omega)] at e3
      omega
    · have hi := ih (n / 10) (by omega) (by rw [Nat.pow_succ] at h; exact Nat.div_lt_of_lt_mul (by omega))
      have hl := (decF_len f (n / 10)).1
      rw [decF, if_neg h9]
      rw [List.getD_eq_getElem?_getD, List.getElem?_append_left (by omega), ← List.getD_eq_getElem?_getD]
      exact hi

theorem decF_isDec (f n : Nat) (h : n < 10 ^ (f + 1)) : isDec (decF f n) = true := by
  unfold isDec
  have hl := decF_len f n
  have hne : (decF f n).isEmpty = false := by
    cases hc : decF f n with
    | nil => rw [hc] at hl; simp at hl
    | cons a r => rfl
  rw [decF_all, hne]
  by_cases h0 : 1 ≤ n
  · rw [decF_head f n h0 h]; simp
  · have : n = 0 := by omega
    subst this
    rw [decF_small _ _ (by omega)]
    simp

theorem zero_isDec (f n : Nat) : isDec (48 :: decF f n) = false := by
  unfold isDec
  have hl := (decF_len f n).1
  have : decide (1 < (48 :: decF f n).length) = true := decide_eq_true (by rw [List.length_cons]; omega)
  rw [this]
  simp
end Go.Proofs.YtimpddokepbabaaGreatDoor

namespace Go.Proofs.YtimpddokepbabaaGreatDoor
open Go.RowKit

theorem atP_left {α : Type} [Inhabited α] (a b : List α) (i : Nat) (h : i < a.length) : atP (a ++ b) i = atP a i := by
  unfold atP; rw [List.getD_eq_getElem?_getD, List.getD_eq_getElem?_getD, List.getElem?_append_left h]
theorem atP_right {α : Type} [Inhabited α] (a b : List α) (i : Nat) : atP (a ++ b) (a.length + i) = atP b i := by
  unfold atP; rw [List.getD_eq_getElem?_getD, List.getD_eq_getElem?_getD, List.getElem?_append_right (by omega), Nat.add_sub_cancel_left]
theorem atP_map {α β : Type} [Inhabited α] [Inhabited β] (f : α → β) (l : List α) (i : Nat) (h : i < l.length) : atP (l.map f) i = f (atP l i) := by
  rw [atP_eq _ i (by simpa using h), atP_eq l i h]; simp
theorem take_snocP {α : Type} [Inhabited α] (l : List α) (k : Nat) (h : k < l.length) : l.take (k + 1) = l.take k ++ [atP l k] := by
  rw [List.take_succ_eq_append_getElem h, ← atP_eq l k h]

/-- The variables are given numbers, one by one, from n + 1 on. -/
def giveN : List Int → Nat → List Nat → List Int
  | r, _, [] => r
  | r, n, v :: vs => giveN (r.set v ((n + 1 : Nat) : Int)) (n + 1) vs
theorem giveN_append (a b : List Nat) : ∀ (r : List Int) (n : Nat), giveN r n (a ++ b) = giveN (giveN r n a) (n + a.length) b := by
  induction a with
  | nil => intro r n; rfl
  | cons x a ih => intro r n; simp only [List.cons_append, giveN, List.length_cons]; rw [ih, show n + 1 + a.length = n + (a.length + 1) by omega]
theorem giveN_snoc (a : List Nat) (v : Nat) (r : List Int) (n : Nat) : giveN r n (a ++ [v]) = (giveN r n a).set v ((n + a.length + 1 : Nat) : Int) := by
  rw [giveN_append]; rfl
theorem giveN_len (a : List Nat) : ∀ (r : List Int) (n : Nat), (giveN r n a).length = r.length := by
  induction a with
  | nil => intro r n; rfl
  | cons x a ih => intro r n; simp only [giveN]; rw [ih]; simp
/-- Every number that is given is at most as many as there are. -/
theorem giveN_le (a : List Nat) : ∀ (r : List Int) (n : Nat) (B : Int), (∀ x ∈ r, 0 ≤ x ∧ x ≤ B) → ((n + a.length : Nat) : Int) ≤ B → ∀ x ∈ giveN r n a, 0 ≤ x ∧ x ≤ B := by
  induction a with
  | nil => intro r n B h _ x hx; exact h x hx
  | cons y a ih =>
    intro r n B h hB x hx
    simp only [giveN] at hx
    simp only [List.length_cons] at hB
    refine ih _ _ B (fun z hz => ?_) (by omega) x hx
    rcases List.mem_or_eq_of_mem_set hz with h1 | rfl
    · exact h z h1
    · constructor <;> omega

def Circ.order (C : Circ) : List Nat := C.ins.map varN ++ (C.lats.map (fun t => varN t.1) ++ C.turn.map C.gateOf)
theorem order_in {C : Circ} {k : Nat} (h : k < C.ins.length) : atP C.order k = varN (atP C.ins k) := by
  unfold Circ.order; rw [atP_left _ _ _ (by simpa using h), atP_map _ _ _ h]
theorem order_lat {C : Circ} {k : Nat} (h : k < C.lats.length) : atP C.order (C.ins.length + k) = varN (atP C.lats k).1 := by
  unfold Circ.order
  have e : C.ins.length = (C.ins.map varN).length := by simp
  rw [e, atP_right, atP_left _ _ _ (by simpa using h), atP_map _ _ _ h]
theorem order_and {C : Circ} {k : Nat} (h : k < C.turn.length) : atP C.order (C.ins.length + C.lats.length + k) = C.gateOf (atP C.turn k) := by
  unfold Circ.order
  have e : C.ins.length + C.lats.length + k = (C.ins.map varN).length + ((C.lats.map (fun t => varN t.1)).length + k) := by simp; omega
  rw [e, atP_right, atP_right, atP_map _ _ _ h]
theorem order_len (C : Circ) : C.order.length = C.ins.length + C.lats.length + C.turn.length := by simp [Circ.order]; omega

theorem nextA_lt {C : Circ} {T : List Nat} {i : Nat} (h : C.nextA T = some i) : i < C.ands.length ∧ i ∉ T ∧ C.readyB T i = true := by
  unfold Circ.nextA at h
  have h1 := List.mem_of_find?_eq_some h
  have h2 := List.find?_some h
  simp at h1 h2
  exact ⟨h1, h2.1, h2.2⟩
theorem turnA_lt {C : Circ} : ∀ (f : Nat) (T : List Nat), (∀ i ∈ T, i < C.ands.length) → ∀ i ∈ C.turnA f T, i < C.ands.length := by
  intro f
  induction f with
  | zero => intro T h i hi; exact h i hi
  | succ f ih =>
    intro T h i hi
    unfold Circ.turnA at hi
    cases hn : C.nextA T with
    | none => rw [hn] at hi; exact h i hi
    | some x =>
      rw [hn] at hi
      refine ih _ (fun j hj => ?_) i hi
      rcases List.mem_append.1 hj with h1 | h1
      · exact h j h1
      · simp at h1; subst h1; exact (nextA_lt hn).1
theorem turn_lt {C : Circ} : ∀ i ∈ C.turn, i < C.ands.length := turnA_lt _ [] (fun i hi => by cases hi)
theorem turnA_nodup {C : Circ} : ∀ (f : Nat) (T : List Nat), T.Nodup → (C.turnA f T).Nodup := by
  intro f
  induction f with
  | zero => intro T h; exact h
  | succ f ih =>
    intro T h
    unfold Circ.turnA
    cases hn : C.nextA T with
    | none => exact h
    | some x =>
      refine ih _ ?_
      rw [List.nodup_append]
      refine ⟨h, by simp, fun a ha b hb => ?_⟩
      simp at hb; subst hb
      exact fun e => (nextA_lt hn).2.1 (e ▸ ha)
theorem turn_nodup (C : Circ) : C.turn.Nodup := turnA_nodup _ [] List.nodup_nil
theorem turn_le (C : Circ) : C.turn.length ≤ C.ands.length := by
  have h := List.Nodup.length_le_of_subset (turn_nodup C) (l₂ := List.range C.ands.length) (fun i hi => List.mem_range.2 (turn_lt i hi))
  simpa using h

/-- Which variable each one becomes. -/
def Circ.renK (C : Circ) (k : Nat) : List Int := giveN (List.replicate (C.max.toNat + 1) 0) 0 (C.order.take k)
def Circ.ren (C : Circ) : List Int := giveN (List.replicate (C.max.toNat + 1) 0) 0 C.order
theorem renK_zero (C : Circ) : C.renK 0 = List.replicate (C.max.toNat + 1) 0 := rfl
theorem renK_succ {C : Circ} {k : Nat} (h : k < C.order.length) : C.renK (k + 1) = (C.renK k).set (atP C.order k) ((k + 1 : Nat) : Int) := by
  unfold Circ.renK; rw [take_snocP _ _ h, giveN_snoc, List.length_take, Nat.min_eq_left (by omega), Nat.zero_add]
theorem renK_all (C : Circ) {k : Nat} (h : k = C.order.length) : C.renK k = C.ren := by subst h; unfold Circ.renK Circ.ren; rw [List.take_length]
theorem ren_len (C : Circ) : C.ren.length = C.max.toNat + 1 := by unfold Circ.ren; rw [giveN_len]; simp
theorem renK_len (C : Circ) (k : Nat) : (C.renK k).length = C.max.toNat + 1 := by unfold Circ.renK; rw [giveN_len]; simp

def renL (r : List Int) (l : Int) : Int := 2 * atP r (varN l) + l % 2
def renT (r : List Int) (t : Tri) : Tri := (renL r t.1, renL r t.2.1, renL r t.2.2)
def renA (r : List Int) (t : Tri) : Tri := (renL r t.1, max (renL r t.2.1) (renL r t.2.2), min (renL r t.2.1) (renL r t.2.2))
def Circ.norm (C : Circ) : Circ := ⟨((C.ins.length + C.lats.length + C.ands.length : Nat) : Int), C.ins.map (renL C.ren), C.lats.map (renT C.ren), C.outs.map (renL C.ren), C.bads.map (renL C.ren), C.cons.map (renL C.ren), C.turn.map (fun i => renA C.ren (atP C.ands i)), C.names⟩

/-- What the program hands a renaming: small numbers. -/
theorem ren_small {C : Circ} (hS : Small C) : ∀ x ∈ C.ren, 0 ≤ x ∧ x ≤ 10000 := by
  unfold Circ.ren
  refine giveN_le _ _ _ _ (fun x hx => ?_) ?_
  · rw [List.mem_replicate] at hx; obtain ⟨_, rfl⟩ := hx; decide
  · rw [order_len]
    have := turn_le C
    have h1 := hS.ins
    have h2 := hS.lats
    have h3 := hS.ands
    omega
end Go.Proofs.YtimpddokepbabaaGreatDoor

namespace Go.Proofs.YtimpddokepbabaaGreatDoor
open Go.RowKit

def numsU (l : List UInt8) : List Int := l.map (fun b => (b.toNat : Int))
def bytesA (l : List UInt8) : ByteArray := ⟨l.toArray⟩
theorem numsU_len (l : List UInt8) : (numsU l).length = l.length := List.length_map _
theorem numsU_drop (l : List UInt8) (k : Nat) : (numsU l).drop k = numsU (l.drop k) := by rw [numsU, numsU, List.map_drop]
theorem numsU_take (l : List UInt8) (k : Nat) : (numsU l).take k = numsU (l.take k) := by rw [numsU, numsU, List.map_take]
theorem numsU_append (a b : List UInt8) : numsU (a ++ b) = numsU a ++ numsU b := List.map_append
theorem strOf_numsU (l : List UInt8) : strOfNums (numsU l) = bytesA l := by
  unfold strOfNums numsU bytesA
  rw [List.map_map]
  congr 2
  have : ∀ x : UInt8, ((fun n : Int => UInt8.ofNat n.toNat) ∘ fun b : UInt8 => (b.toNat : Int)) x = x := fun x => by simp
  rw [List.map_congr_left (g := id) (fun x _ => this x), List.map_id]
theorem numsU_bytes (l : List UInt8) : Bytes8 (numsU l) := fun n hn => by
  obtain ⟨b, -, rfl⟩ := List.mem_map.1 hn
  have := b.toNat_lt
  omega
theorem bytesA_size (l : List UInt8) : (bytesA l).size = l.length := List.size_toArray
theorem bytesA_list (l : List UInt8) : (bytesA l).data.toList = l := rfl
theorem bytesA_ext {a b : List UInt8} (h : a = b) : bytesA a = bytesA b := by rw [h]
theorem bytesA_of (s : ByteArray) : bytesA s.data.toList = s := by obtain ⟨⟨l⟩⟩ := s; rfl

theorem nlAt_line : ∀ (b t : List UInt8), 10 ∉ b → nlAt (numsU (b ++ 10 :: t)) = some b.length
  | [], t, _ => rfl
  | x :: b, t, h => by
    have hx : ¬ (x.toNat : Int) = 10 := fun e => h (by
      have : x = 10 := by apply UInt8.toNat_inj.1; have : (10 : UInt8).toNat = 10 := rfl; omega
      rw [this]; exact List.mem_cons_self)
    show nlAt ((x.toNat : Int) :: numsU (b ++ 10 :: t)) = _
    rw [nlAt, if_neg hx, nlAt_line b t (fun e => h (List.mem_cons_of_mem _ e))]
    rfl
theorem line_at {T : List UInt8} {k : Nat} {b t : List UInt8} (h : T.drop k = b ++ 10 :: t) (hb : 10 ∉ b) : lineO (numsU T) k = some (bytesA b, k + b.length + 1) := by
  unfold lineO
  rw [numsU_drop, h, nlAt_line b t hb]
  dsimp only
  rw [numsU_take, List.take_left, strOf_numsU]
theorem lineS_at {T : List UInt8} {k : Nat} {b t : List UInt8} (h : T.drop k = b ++ 10 :: t) (hb : 10 ∉ b) : lineS (numsU T) (some k) = (bytesA b, some (k + b.length + 1)) := lineS_yes (line_at h hb)
theorem drop_more {T : List UInt8} {k : Nat} {b t : List UInt8} (h : T.drop k = b ++ t) : T.drop (k + b.length) = t := by rw [← List.drop_drop, h, List.drop_left]
theorem drop_le {T : List UInt8} {k : Nat} {b t : List UInt8} (h : T.drop k = b ++ t) (hk : k ≤ T.length) : k + b.length ≤ T.length := by
  have := congrArg List.length h
  rw [List.length_drop, List.length_append] at this
  omega

/-- A number's digits. -/
def digs (n : Int) : List UInt8 := decF 18 n.toNat
theorem digs_no (n : Int) {c : UInt8} (hc : dig c = false) : c ∉ digs n := fun h => by
  have := List.all_eq_true.1 (decF_all 18 n.toNat) c h
  rw [hc] at this
  cases this
theorem digs_pos (n : Int) : 1 ≤ (digs n).length := (decF_len 18 n.toNat).1
theorem digs_num {n top : Int} (h0 : 0 ≤ n) (h1 : n ≤ top) (h2 : top ≤ 9223372036854775807) : numE (digs n) top = 0 ∧ numV (digs n) top = n := by
  have hlt : n.toNat < 10 ^ (18 + 1) := by rw [show (10 : Nat) ^ (18 + 1) = 10000000000000000000 by decide]; omega
  have hd : isDec (digs n) = true := decF_isDec 18 n.toNat hlt
  have hv : val 0 (digs n) = n.toNat := decF_val 18 n.toNat hlt
  have hle : (val 0 (digs n) : Int) ≤ top := by rw [hv]; omega
  exact ⟨numE_ok hd hle, by rw [numV_ok hd hle, hv]; omega⟩
theorem decF_few (f : Nat) : ∀ (n d : Nat), 1 ≤ d → n < 10 ^ d → (decF f n).length ≤ d := by
  induction f with
  | zero => intro n d h _; simp only [decF, List.length_singleton]; exact h
  | succ f ih =>
    intro n d h hn
    rw [decF]
    split
    · simpa using h
    · rename_i h9
      obtain ⟨e, rfl⟩ : ∃ e, d = e + 1 := ⟨d - 1, by omega⟩
      have he : 1 ≤ e := by
        rcases e with _ | e
        · simp at hn; omega
        · omega
      have := ih (n / 10) e he (by rw [Nat.pow_succ] at hn; omega)
      rw [List.length_append, List.length_singleton]
      omega
theorem digs_few {n : Int} (h0 : 0 ≤ n) (h1 : n < 100000) : (digs n).length ≤ 5 := decF_few 18 n.toNat 5 (by decide) (by rw [show (10 : Nat) ^ 5 = 100000 by decide]; omega)

/-- Numbers with a blank between; a line of them. -/
def joinT : List Int → List UInt8
  | [] => []
  | [n] => digs n
  | n :: m :: r => digs n ++ 32 :: joinT (m :: r)
def rowT (l : List Int) : List UInt8 := joinT l ++ [10]
theorem joinT_cons (n m : Int) (r : List Int) : joinT (n :: m :: r) = digs n ++ 32 :: joinT (m :: r) := rfl
theorem joinT_no : ∀ l : List Int, 10 ∉ joinT l
  | [] => by simp [joinT]
  | [n] => digs_no n (by decide)
  | n :: m :: r => by
    rw [joinT_cons]
    intro h
    rcases List.mem_append.1 h with h | h
    · exact digs_no n (by decide) h
    · rcases List.mem_cons.1 h with h | h
      · revert h; decide
      · exact joinT_no (m :: r) h
theorem no32 (n : Int) (k : Nat) : (digs n)[k]? ≠ some 32 := fun h => digs_no n (by decide) (List.mem_of_getElem? h)
theorem spl_two (D R : List UInt8) (hD : 32 ∉ D) : spl (bytesA (D ++ 32 :: R)) = bytesA D :: spl (bytesA R) := by
  have h := spl_hit (bytesA (D ++ 32 :: R)) D.length (by rw [bytesA_list, List.getElem?_append_right (Nat.le_refl _), Nat.sub_self]; rfl) (fun k hk => by rw [bytesA_list, List.getElem?_append_left hk]; exact fun e => hD (List.mem_of_getElem? e))
  rw [h]
  congr 1
  · apply ByteArray.ext
    apply Array.toList_inj.1
    rw [Lib.extract_data, bytesA_list]
    simp [bytesA]
  · congr 1
    apply ByteArray.ext
    apply Array.toList_inj.1
    rw [Lib.extract_to_end, bytesA_list, ← List.drop_drop, List.drop_left]
    rfl
theorem spl_join : ∀ (n : Int) (l : List Int), spl (bytesA (joinT (n :: l))) = (n :: l).map (fun n => bytesA (digs n)) := by
  intro n l
  induction l generalizing n with
  | nil => exact spl_miss _ (fun k => no32 n k)
  | cons m l ih => rw [joinT_cons, spl_two _ _ (digs_no n (by decide)), ih m]; rfl
theorem nums_join {l : List Int} (hne : l ≠ []) {least most top : Int} (h : ∀ n ∈ l, 0 ≤ n ∧ n ≤ top) (ht : top ≤ 9223372036854775807) (h1 : least ≤ l.length) (h2 : (l.length : Int) ≤ most) :
    nsE (bytesA (joinT l)) least most top = 0 ∧ nsL (bytesA (joinT l)) least most top = l := by
  obtain ⟨n, r, rfl⟩ := List.exists_cons_of_ne_nil hne
  have e := spl_join n r
  have hok : okW (bytesA (joinT (n :: r))) = true := by
    unfold okW
    rw [e, List.all_eq_true]
    intro p hp
    obtain ⟨m, -, rfl⟩ := List.mem_map.1 hp
    have := digs_pos m
    have h3 : (bytesA (digs m)).size = (digs m).length := bytesA_size _
    have h4 : (bytesA (digs m)).size ≠ 0 := by omega
    simpa only [bne_iff_ne, ne_eq] using h4
  have hf : nsFit (bytesA (joinT (n :: r))) least most = true := fit_yes hok (by rw [e, List.length_map]; exact h1) (by rw [e, List.length_map]; exact h2)
  have hget : ∀ j, j < (n :: r).length → numE (((n :: r).map (fun n => bytesA (digs n))).getD j ByteArray.empty).data.toList top = 0 := fun j hj => by
    rw [List.getD_eq_getElem?_getD, List.getElem?_map, List.getElem?_eq_getElem hj]
    exact (digs_num (h _ (List.getElem_mem hj)).1 (h _ (List.getElem_mem hj)).2 ht).1
  have he : errAt top (spl (bytesA (joinT (n :: r)))) = 0 := by
    rw [e]
    exact errAt_all top _ (fun j hj => hget j (by rw [List.length_map] at hj; exact hj))
  refine ⟨by rw [nsE, if_pos hf, he], ?_⟩
  rw [nsL, if_pos ⟨hf, he⟩, e, valsOf, List.map_map]
  have : ∀ x ∈ (n :: r), ((fun p : ByteArray => numV p.data.toList top) ∘ fun n => bytesA (digs n)) x = x := fun x hx => (digs_num (h x hx).1 (h x hx).2 ht).2
  rw [List.map_congr_left (g := id) this, List.map_id]

theorem rowT_at {T : List UInt8} {k : Nat} {l : List Int} {t : List UInt8} (h : T.drop k = rowT l ++ t) (hne : l ≠ []) {top : Int} (hl : ∀ n ∈ l, 0 ≤ n ∧ n ≤ top) (ht : top ≤ 9223372036854775807) {least most : Nat} (h1 : least ≤ l.length) (h2 : l.length ≤ most) :
    rowS (numsU T) top least most (some k) = (l ++ List.replicate (most - l.length) 0, some (k + (rowT l).length)) := by
  have e := lineS_at (T := T) (k := k) (b := joinT l) (t := t) (by rw [h]; simp [rowT]) (joinT_no l)
  obtain ⟨n1, n2⟩ := nums_join hne hl ht (least := least) (most := most) (by omega) (by omega)
  unfold rowS
  rw [e, if_pos n1, n2]
  simp [rowT, Nat.add_assoc]

theorem lit_at {T : List UInt8} {k : Nat} {x : Int} {t : List UInt8} (h : T.drop k = rowT [x] ++ t) {top lit : Int} (h0 : 0 ≤ x) (h1 : x ≤ top) (ht : top ≤ 9223372036854775807) : litS (numsU T) top lit (some k) = (x, some (k + (rowT [x]).length)) := by
  unfold litS
  rw [rowT_at (least := 1) (most := 1) h (by simp) (fun n hn => by rw [List.mem_singleton.1 hn]; exact ⟨h0, h1⟩) ht (Nat.le_refl _) (Nat.le_refl _)]
  rfl
/-- What is written of a latch behind its literal, and with it; of an And. -/
def laterN (x : Tri) : List Int := if x.2.2 = 0 then [x.2.1] else [x.2.1, x.2.2]
def latN (x : Tri) : List Int := x.1 :: laterN x
def andN (x : Tri) : List Int := [x.1, x.2.1, x.2.2]
theorem lat_at {T : List UInt8} {k : Nat} {x : Tri} {t : List UInt8} (h : T.drop k = rowT (latN x) ++ t) {top lit : Int} (h0 : 0 ≤ x.1 ∧ x.1 ≤ top) (h1 : 0 ≤ x.2.1 ∧ x.2.1 ≤ top) (h2 : 0 ≤ x.2.2 ∧ x.2.2 ≤ top) (ht : top ≤ 9223372036854775807) : latS (numsU T) top lit (some k) = (x, some (k + (rowT (latN x)).length)) := by
  obtain ⟨a, b, c⟩ := x
  dsimp only at h0 h1 h2
  have hm : ∀ n ∈ latN (a, b, c), 0 ≤ n ∧ n ≤ top := fun n hn => by
    unfold latN laterN at hn
    split at hn <;> simp at hn
    · rcases hn with rfl | rfl <;> assumption
    · rcases hn with rfl | rfl | rfl <;> assumption
  have hl : 2 ≤ (latN (a, b, c)).length ∧ (latN (a, b, c)).length ≤ 3 := by unfold latN laterN; split <;> simp
  unfold latS
  rw [rowT_at h (by simp [latN]) hm ht hl.1 hl.2]
  unfold latN laterN
  split
  · rename_i hc; dsimp only at hc; subst hc; rfl
  · rfl
theorem and_at {T : List UInt8} {k : Nat} {x : Tri} {t : List UInt8} (h : T.drop k = rowT (andN x) ++ t) {top lit : Int} (h0 : 0 ≤ x.1 ∧ x.1 ≤ top) (h1 : 0 ≤ x.2.1 ∧ x.2.1 ≤ top) (h2 : 0 ≤ x.2.2 ∧ x.2.2 ≤ top) (ht : top ≤ 9223372036854775807) : andS (numsU T) top lit (some k) = (x, some (k + (rowT (andN x)).length)) := by
  unfold andS
  rw [rowT_at (least := 3) (most := 3) h (by simp [andN]) (fun n hn => by
    unfold andN at hn
    simp at hn
    rcases hn with rfl | rfl | rfl <;> assumption) ht (Nat.le_refl _) (Nat.le_refl _)]
  rfl

theorem items_at {α : Type} {T : List UInt8} (wr : α → List UInt8) (F : Nat → Option Nat → α × Option Nat) (L : List α) (k : Nat) (t : List UInt8) (h : T.drop k = L.flatMap wr ++ t) (hk : k ≤ T.length)
    (hF : ∀ (i : Nat) (hi : i < L.length) k' t', T.drop k' = wr L[i] ++ t' → F i (some k') = (L[i], some (k' + (wr L[i]).length))) :
    itemsS F (some k) L.length = (L, some (k + (L.flatMap wr).length)) ∧ T.drop (k + (L.flatMap wr).length) = t ∧ k + (L.flatMap wr).length ≤ T.length := by
  refine ⟨?_, drop_more h, drop_le h hk⟩
  have go : ∀ j, j ≤ L.length → itemsS F (some k) j = (L.take j, some (k + ((L.take j).flatMap wr).length)) := by
    intro j
    induction j with
    | zero => intro _; rfl
    | succ j ih =>
      intro hj
      rw [itemsS, ih (by omega)]
      dsimp only
      have hs : T.drop (k + ((L.take j).flatMap wr).length) = wr L[j] ++ ((L.drop (j + 1)).flatMap wr ++ t) := by
        have e : L.flatMap wr = (L.take j).flatMap wr ++ (wr L[j] ++ (L.drop (j + 1)).flatMap wr) := by
          conv => lhs; rw [← List.take_append_drop j L, List.flatMap_append]
          rw [List.drop_eq_getElem_cons (by omega : j < L.length), List.flatMap_cons]
        rw [e, List.append_assoc, List.append_assoc] at h
        exact drop_more h
      rw [hF j (by omega) _ _ hs, List.take_succ_eq_append_getElem (by omega), List.flatMap_append]
      simp [Nat.add_assoc]
  have := go L.length (Nat.le_refl _)
  rwa [List.take_length] at this

/-- A name's line. -/
def symT (y : Sym) : List UInt8 := UInt8.ofNat y.1.toNat :: (digs y.2.1 ++ 32 :: (y.2.2.data.toList ++ [10]))
structure NameOk (y : Sym) : Prop where
  kind : y.1 = 105 ∨ y.1 = 108 ∨ y.1 = 111 ∨ y.1 = 98 ∨ y.1 = 99
  pos : 0 ≤ y.2.1
  top : y.2.1 ≤ 2147483647
  line : 10 ∉ y.2.2.data.toList
def symB0 (y : Sym) : List UInt8 := UInt8.ofNat y.1.toNat :: (digs y.2.1 ++ 32 :: y.2.2.data.toList)
theorem symT_eq (y : Sym) : symT y = symB0 y ++ [10] := by simp [symT, symB0]
theorem symB0_no {y : Sym} (h : NameOk y) : 10 ∉ symB0 y := by
  intro e
  unfold symB0 at e
  rcases List.mem_cons.1 e with e | e
  · rcases h.kind with q | q | q | q | q <;> rw [q] at e <;> revert e <;> decide
  · rcases List.mem_append.1 e with e | e
    · exact digs_no _ (by decide) e
    · rcases List.mem_cons.1 e with e | e
      · revert e; decide
      · exact h.line e
theorem cut_name (n : Int) (s : List UInt8) : Lib.cut (digs n ++ 32 :: s) [32] = (digs n, s, true) := by
  have hi : Lib.index (digs n ++ 32 :: s) [32] = ((digs n).length : Int) := by
    rw [Lib.index_one]
    exact idx_eq _ _ _ (by rw [List.getElem?_append_right (Nat.le_refl _), Nat.sub_self]; rfl) (fun k hk => by rw [List.getElem?_append_left hk]; exact no32 n k)
  unfold Lib.cut
  rw [hi, if_pos (by omega)]
  simp
theorem symO_name {y : Sym} (h : NameOk y) : symO (bytesA (symB0 y)) = some y := by
  obtain ⟨a, b, c⟩ := y
  obtain ⟨e1, e2⟩ := digs_num h.pos h.top (by decide)
  dsimp only at e1 e2
  have hk : isKind (UInt8.ofNat a.toNat) = true := by rcases h.kind with q | q | q | q | q <;> (dsimp only at q; rw [q]; decide)
  have ha : ((UInt8.ofNat a.toNat).toNat : Int) = a := by rcases h.kind with q | q | q | q | q <;> (dsimp only at q; rw [q]; decide)
  show (if (isKind (UInt8.ofNat a.toNat) && ((Lib.cut (digs b ++ 32 :: c.data.toList) [32]).2.2 && decide (numE (Lib.cut (digs b ++ 32 :: c.data.toList) [32]).1 2147483647 = 0))) = true then some (((UInt8.ofNat a.toNat).toNat : Int), numV (Lib.cut (digs b ++ 32 :: c.data.toList) [32]).1 2147483647, (⟨(Lib.cut (digs b ++ 32 :: c.data.toList) [32]).2.1.toArray⟩ : ByteArray)) else none) = _
  rw [cut_name, hk, e1, e2, ha]
  simp
theorem symB0_c {y : Sym} : ¬ bytesA (symB0 y) = lineC := fun e => by
  have := congrArg ByteArray.size e
  rw [bytesA_size] at this
  have h1 := digs_pos y.2.1
  simp [symB0, lineC] at this
  have h2 : (⟨#[99]⟩ : ByteArray).size = 1 := rfl
  omega
/-- What may stand behind the names: nothing, or a line of c and whatever. -/
def Tail (t : List UInt8) : Prop := t = [] ∨ ∃ more, t = 99 :: 10 :: more
theorem names_at {T : List UInt8} {t : List UInt8} (ht : Tail t) : ∀ (L : List Sym) (f k : Nat) (acc : List Sym), (∀ y ∈ L, NameOk y) → T.drop k = L.flatMap symT ++ t → k ≤ T.length → L.length < f → ∃ j, namesF (numsU T) f k acc = (acc ++ L, some j) := by
  intro L
  induction L with
  | nil =>
    intro f k acc _ h hk hf
    cases f with
    | zero => exact absurd hf (Nat.not_lt_zero _)
    | succ f =>
      rw [List.append_nil, namesF, numsU_len]
      rcases ht with rfl | ⟨more, rfl⟩
      · have : T.length ≤ k := by have := congrArg List.length h; simp at this; omega
        exact ⟨k, by rw [if_neg (by omega)]⟩
      · have : k < T.length := by have := congrArg List.length h; simp at this; omega
        rw [if_pos this, line_at (b := [99]) (t := more) h (by decide)]
        exact ⟨_, rfl⟩
  | cons y L ih =>
    intro f k acc hn h hk hf
    cases f with
    | zero => exact absurd hf (Nat.not_lt_zero _)
    | succ f =>
      have hy := hn y List.mem_cons_self
      have hlt : k < T.length := by
        have := congrArg List.length h
        simp [symT] at this
        omega
      have h2 : T.drop k = symB0 y ++ 10 :: (L.flatMap symT ++ t) := by rw [h, List.flatMap_cons, symT_eq]; simp
      have h3 : T.drop (k + (symB0 y).length + 1) = L.flatMap symT ++ t := by
        have := drop_more (b := symB0 y ++ [10]) (t := L.flatMap symT ++ t) (T := T) (k := k) (by rw [h2]; simp)
        rw [List.length_append, List.length_singleton, ← Nat.add_assoc] at this
        exact this
      have hle : k + (symB0 y).length + 1 ≤ T.length := by have := congrArg List.length h2; simp at this; omega
      obtain ⟨j, hj⟩ := ih f _ (acc ++ [y]) (fun z hz => hn z (List.mem_cons_of_mem _ hz)) h3 hle (by simpa using hf)
      refine ⟨j, ?_⟩
      rw [namesF, numsU_len, if_pos hlt, line_at h2 (symB0_no hy)]
      dsimp only
      rw [if_neg symB0_c, symO_name hy]
      dsimp only
      rw [hj, List.append_assoc]
      rfl
end Go.Proofs.YtimpddokepbabaaGreatDoor
