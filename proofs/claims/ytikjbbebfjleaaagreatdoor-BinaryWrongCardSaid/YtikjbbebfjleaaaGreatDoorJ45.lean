/-
  A CIRCUIT THAT THE REFERENCE READS: the reader's block, the circuit's box, the header's row, the rows filled so far; and that a reader which stands at the end stood all along.
  A TEXT AS BYTES IN MEMORY; a list's cells where it is laid anew.
-/
import Derived.Test.YtikjbbebfjleaaaGreatDoorRefNm
import Derived.Test.YtikjbbebfjleaaaGreatDoorRefRd3
import Derived.Test.YtikjbbebfjleaaaGreatDoorRd3
import Derived.Lib.ConvBytes
namespace Go.Proofs.YtikjbbebfjleaaaGreatDoor
open Go.RowKit

theorem some_back {α : Type} {f : Nat → Option Nat → α × Option Nat} (hf : ∀ n, (f n none).2 = none) {st : Option Nat} {k : Nat} (h : (itemsS f st k).2.isSome = true) : st.isSome = true := by
  cases st with
  | some j => rfl
  | none =>
    rw [itemsS_stuck hf (k := 0) (st := none) rfl k (Nat.zero_le _)] at h
    cases h
theorem step_back {α : Type} {f : Nat → Option Nat → α × Option Nat} (hf : ∀ n, (f n none).2 = none) {st : Option Nat} {k : Nat} (h : (itemsS f st (k + 1)).2.isSome = true) : (itemsS f st k).2.isSome = true := by
  cases e : (itemsS f st k).2 with
  | some j => rfl
  | none =>
    rw [itemsS, e] at h
    rw [hf k] at h
    cases h
theorem names_back {xs : List Int} {st : Option Nat} (h : (namesS xs st).2.isSome = true) : st.isSome = true := by
  cases st with
  | some j => rfl
  | none => exact h

theorem own_ne_rd {w : World} {B p size n : Nat} {e : TypeId} {v : Value} {cs : List Value} {a : Option Addr} {m c : Nat} {xs : List Int} {top : Int} {st : Option Nat} (h : w.ownsRow B e size v n cs) (hp : RdR p a m c xs top st w) (he : e ≠ 68) : v.ownBlock ≠ some p := by
  rcases h.2 with ⟨rfl, _⟩ | ⟨g, cap, cur, rfl, -, hg, -⟩
  · simp [Value.ownBlock]
  · intro e2
    have e3 : g = p := Option.some.inj e2
    subst e3
    obtain ⟨k, h1, -⟩ := hp.blk
    rw [hg] at h1
    have e4 := Option.some.inj h1
    injection e4 with _ e5
    exact he e5
theorem own_rd {w w' : World} {B p size n : Nat} {e : TypeId} {v : Value} {cs : List Value} {a : Option Addr} {m c : Nat} {xs : List Int} {top : Int} {st : Option Nat} (h : w.ownsRow B e size v n cs) (hp : RdR p a m c xs top st w) (t : Two p p w w') (he : e ≠ 68) : w'.ownsRow B e size v n cs := by
  have hne := own_ne_rd h hp he
  exact own_block h (fun g hv => t.block g (h.lt g hv).2 (fun e2 => hne (e2 ▸ hv)) (fun e2 => hne (e2 ▸ hv)))
theorem own_two2 {w w' : World} {B p b size n : Nat} {e : TypeId} {v : Value} {cs : List Value} {a : Option Addr} {m c : Nat} {xs : List Int} {top : Int} {st : Option Nat} {d : CV} (h : w.ownsRow B e size v n cs) (hp : RdR p a m c xs top st w) (hb : Box w b d) (t : Two p b w w') (he : e ≠ 68) (hx : e ≠ 29) : w'.ownsRow B e size v n cs := by
  have h1 := own_ne_rd h hp he
  have h2 := own_ne_box h hb hx
  exact own_block h (fun g hv => t.block g (h.lt g hv).2 (fun e2 => h1 (e2 ▸ hv)) (fun e2 => h2 (e2 ▸ hv)))
theorem rd_ne_box {w : World} {p b : Nat} {a : Option Addr} {m c : Nat} {xs : List Int} {top : Int} {st : Option Nat} {d : CV} (hp : RdR p a m c xs top st w) (hb : Box w b d) : p ≠ b := by
  rintro rfl
  obtain ⟨k, h1, -⟩ := hp.blk
  unfold Box at hb
  rw [hb] at h1
  have e4 := Option.some.inj h1
  injection e4 with _ e5
  exact absurd e5 (by decide)

/-- A circuit while the reference reads it. -/
structure RR (w0 : World) (p b : Nat) (a : Option Addr) (n c : Nat) (xs : List Int) (top : Int) (hg hcap : Nat) (H : List Int) (C : Circ) (d : CV) (st : Option Nat) (W : World) : Prop where
  rd : RdR p a n c xs top st W
  box : Box W b d
  lp : w0.heap.size ≤ p
  lb : w0.heap.size ≤ b
  m : d.m = C.max
  oh : W.ownsRow w0.heap.size 3 1 (.slice (some ⟨hg, 0, none⟩) 9 hcap) 9 (H.map (Value.int .i64))
  o1 : W.ownsRow w0.heap.size 3 1 (.slice d.a1 d.n1 d.c1) d.n1 (C.ins.map (Value.int .i64))
  o2 : W.ownsRow w0.heap.size 73 3 (.slice d.a2 d.n2 d.c2) d.n2 (cellsT C.lats)
  o3 : W.ownsRow w0.heap.size 3 1 (.slice d.a3 d.n3 d.c3) d.n3 (C.outs.map (Value.int .i64))
  o4 : W.ownsRow w0.heap.size 3 1 (.slice d.a4 d.n4 d.c4) d.n4 (C.bads.map (Value.int .i64))
  o5 : W.ownsRow w0.heap.size 3 1 (.slice d.a5 d.n5 d.c5) d.n5 (C.cons.map (Value.int .i64))
  o6 : W.ownsRow w0.heap.size 53 3 (.slice d.a6 d.n6 d.c6) d.n6 (cellsT C.ands)
  o7 : W.ownsRow w0.heap.size 77 3 (.slice d.a7 d.n7 d.c7) d.n7 (cellsS C.names)
  below : Below w0.heap.size w0 W
  tx : Row8 w0 a xs
section
variable {w0 W W1 w4 : World} {p b n c hg hcap m K : Nat} {a A : Option Addr} {xs H : List Int} {top : Int} {C : Circ} {d : CV} {st st' : Option Nat}
theorem RR.ne (h : RR w0 p b a n c xs top hg hcap H C d st W) : p ≠ b := rd_ne_box h.rd h.box
theorem RR.then (h : RR w0 p b a n c xs top hg hcap H C d st W) (hb : Below W.heap.size W W1) : RR w0 p b a n c xs top hg hcap H C d st W1 :=
  ⟨h.rd.below hb, h.box.below hb, h.lp, h.lb, h.m, own_below h.oh hb, own_below h.o1 hb, own_below h.o2 hb, own_below h.o3 hb, own_below h.o4 hb, own_below h.o5 hb, own_below h.o6 hb, own_below h.o7 hb, belowThen h.below hb, h.tx⟩
theorem RR.went (h : RR w0 p b a n c xs top hg hcap H C d st W) (g : WentR p a n c xs top W st' W1) : RR w0 p b a n c xs top hg hcap H C d st' W1 := by
  have ni : 3 ≠ 68 := by decide
  have nl : 73 ≠ 68 := by decide
  have na : 53 ≠ 68 := by decide
  have ns : 77 ≠ 68 := by decide
  exact ⟨g.1, (g.2.block b h.box.lt (fun e => h.ne e.symm) (fun e => h.ne e.symm)).trans h.box, h.lp, h.lb, h.m, own_rd h.oh h.rd g.2 ni, own_rd h.o1 h.rd g.2 ni, own_rd h.o2 h.rd g.2 nl, own_rd h.o3 h.rd g.2 ni, own_rd h.o4 h.rd g.2 ni, own_rd h.o5 h.rd g.2 ni, own_rd h.o6 h.rd g.2 na, own_rd h.o7 h.rd g.2 ns, g.2.below h.below (Nat.le_refl _) h.lp h.lp, h.tx⟩
/-- The header's row. -/
theorem RR.hd (h : RR w0 p b a n c xs top hg hcap H C d st W) (hl : H.length = 9) : ∀ i, i < 9 → W.cell? ⟨hg, i, none⟩ = some (.int .i64 (H.getD i 0)) := fun i hi => by
  obtain ⟨g, cap, e, hc, -⟩ := ownI_at (n := 9) (L := H) (v := .slice (some ⟨hg, 0, none⟩) 9 hcap) (B := w0.heap.size) (w := W) (by unfold OwnI; rw [hl]; exact h.oh) hl (by omega)
  cases e
  exact hc i hi
/-- Rows that are there when a cell of the circuit's box is written. -/
theorem rows_cell {d0 : CV} (bx : Box w4 b d0) {j : Nat} {v : Value} {d' : CV}
    (rd : RdR p a n c xs top st w4) (lp : w0.heap.size ≤ p) (lb : w0.heap.size ≤ b) (hm : d'.m = C.max) (ob : Box (w4.setCell ⟨b, j, none⟩ v) b d')
    (oh : w4.ownsRow w0.heap.size 3 1 (.slice (some ⟨hg, 0, none⟩) 9 hcap) 9 (H.map (Value.int .i64)))
    (o1 : w4.ownsRow w0.heap.size 3 1 (.slice d'.a1 d'.n1 d'.c1) d'.n1 (C.ins.map (Value.int .i64)))
    (o2 : w4.ownsRow w0.heap.size 73 3 (.slice d'.a2 d'.n2 d'.c2) d'.n2 (cellsT C.lats))
    (o3 : w4.ownsRow w0.heap.size 3 1 (.slice d'.a3 d'.n3 d'.c3) d'.n3 (C.outs.map (Value.int .i64)))
    (o4 : w4.ownsRow w0.heap.size 3 1 (.slice d'.a4 d'.n4 d'.c4) d'.n4 (C.bads.map (Value.int .i64)))
    (o5 : w4.ownsRow w0.heap.size 3 1 (.slice d'.a5 d'.n5 d'.c5) d'.n5 (C.cons.map (Value.int .i64)))
    (o6 : w4.ownsRow w0.heap.size 53 3 (.slice d'.a6 d'.n6 d'.c6) d'.n6 (cellsT C.ands))
    (o7 : w4.ownsRow w0.heap.size 77 3 (.slice d'.a7 d'.n7 d'.c7) d'.n7 (cellsS C.names)) (bl : Below w0.heap.size w0 w4) (tx : Row8 w0 a xs) :
    RR w0 p b a n c xs top hg hcap H C d' st (w4.setCell ⟨b, j, none⟩ v) := by
  have ni : 3 ≠ 29 := by decide
  have nl : 73 ≠ 29 := by decide
  have na : 53 ≠ 29 := by decide
  have ns : 77 ≠ 29 := by decide
  have hne := rd_ne_box rd bx
  have t2 : Two b b w4 (w4.setCell ⟨b, j, none⟩ v) := (Two.refl b b w4).setL j v
  have rd' : RdR p a n c xs top st (w4.setCell ⟨b, j, none⟩ v) := by
    obtain ⟨k, h1, h2⟩ := rd.blk
    exact ⟨⟨k, (heap_setCell_other w4 ⟨b, j, none⟩ p v hne).trans h1, h2⟩, rd.inb, row8_two2 rd.text t2 (row8_box rd.text bx) (row8_box rd.text bx), rd.len, rd.cap, rd.apart, rd.bytes, rd.small⟩
  exact ⟨rd', ob, lp, lb, hm, own_cellQ oh bx ni, own_cellQ o1 bx ni, own_cellQ o2 bx nl, own_cellQ o3 bx ni, own_cellQ o4 bx ni, own_cellQ o5 bx ni, own_cellQ o6 bx na, own_cellQ o7 bx ns, bl.setCell (p := ⟨b, j, none⟩) lb v, tx⟩
/-- Outputs, Bads, Constraints: a row that a call has made is stored. -/
theorem RR.set3 (h : RR w0 p b a n c xs top hg hcap H C d st W) {B : Nat} (hB : w0.heap.size ≤ B) {L : List Int} (ho : W.ownsRow B 3 1 (.slice A m K) m (L.map (Value.int .i64))) : RR w0 p b a n c xs top hg hcap H { C with outs := L } { d with a3 := A, n3 := m, c3 := K } st (W.setCell ⟨b, 3, none⟩ (.slice A m K)) :=
  rows_cell h.box h.rd h.lp h.lb h.m (box_eight (c' := { d with a3 := A, n3 := m, c3 := K }) h.box 3 _ rfl) h.oh h.o1 h.o2 (own_le ho hB) h.o4 h.o5 h.o6 h.o7 h.below h.tx
theorem RR.set4 (h : RR w0 p b a n c xs top hg hcap H C d st W) {B : Nat} (hB : w0.heap.size ≤ B) {L : List Int} (ho : W.ownsRow B 3 1 (.slice A m K) m (L.map (Value.int .i64))) : RR w0 p b a n c xs top hg hcap H { C with bads := L } { d with a4 := A, n4 := m, c4 := K } st (W.setCell ⟨b, 4, none⟩ (.slice A m K)) :=
  rows_cell h.box h.rd h.lp h.lb h.m (box_eight (c' := { d with a4 := A, n4 := m, c4 := K }) h.box 4 _ rfl) h.oh h.o1 h.o2 h.o3 (own_le ho hB) h.o5 h.o6 h.o7 h.below h.tx
theorem RR.set5 (h : RR w0 p b a n c xs top hg hcap H C d st W) {B : Nat} (hB : w0.heap.size ≤ B) {L : List Int} (ho : W.ownsRow B 3 1 (.slice A m K) m (L.map (Value.int .i64))) : RR w0 p b a n c xs top hg hcap H { C with cons := L } { d with a5 := A, n5 := m, c5 := K } st (W.setCell ⟨b, 5, none⟩ (.slice A m K)) :=
  rows_cell h.box h.rd h.lp h.lb h.m (box_eight (c' := { d with a5 := A, n5 := m, c5 := K }) h.box 5 _ rfl) h.oh h.o1 h.o2 h.o3 h.o4 (own_le ho hB) h.o6 h.o7 h.below h.tx
/-- The world when a row of the circuit has grown. -/
theorem RR.bel (h : RR w0 p b a n c xs top hg hcap H C d st W) {B size k : Nat} {e : TypeId} {v : Value} {cs : List Value} {o : Obj} (hB : w0.heap.size ≤ B) (ho : W.ownsRow B e size v k cs) (hg' : (W.alloc o).grownBy w4 v.ownBlock) : Below w0.heap.size W w4 :=
  ((Below.refl _ W).grown (World.grownBy_alloc W o none) h.below.size (fun k hk => by cases hk)).grown hg' (by have := h.below.size; simp; omega) (fun k hk => Nat.le_trans hB (ho.lt k hk).1)
theorem rd_grown (hp : RdR p a n c xs top st W) {row : Option Nat} (hg' : W.grownBy w4 row) (hne : row ≠ some p) (tx : Row8 w0 a xs) (bl : Below w0.heap.size w0 w4) : RdR p a n c xs top st w4 := by
  obtain ⟨k, h1, h2⟩ := hp.blk
  exact ⟨⟨k, (hg'.block p hp.lt (fun e => hne e.symm)).trans h1, h2⟩, hp.inb, tx.below bl, hp.len, hp.cap, hp.apart, hp.bytes, hp.small⟩
/-- One latch more. -/
theorem RR.lat (h : RR w0 p b a n c xs top hg hcap H C d st W) {o : Obj} {L2 : List Tri} (hg' : (W.alloc o).grownBy w4 (Value.slice d.a2 d.n2 d.c2).ownBlock)
    (ho : w4.ownsRow w0.heap.size 73 3 (.slice A m K) m (cellsT L2)) : RR w0 p b a n c xs top hg hcap H { C with lats := L2 } { d with a2 := A, n2 := m, c2 := K } st (w4.setCell ⟨b, 2, none⟩ (.slice A m K)) ∧ Box w4 b d := by
  have k := h.then (below_alloc W o)
  have bl := (h.below.trans (h.bel (Nat.le_refl _) h.o2 hg'))
  have m1 : 3 ≠ 73 := by decide
  have m6 : 53 ≠ 73 := by decide
  have m7 : 77 ≠ 73 := by decide
  have bx : Box w4 b d := k.box.grown hg' (own_ne_box k.o2 k.box (by decide))
  have rd := rd_grown k.rd hg' (own_ne_rd k.o2 k.rd (by decide)) h.tx bl
  exact ⟨rows_cell bx rd h.lp h.lb h.m (box_eight (c' := { d with a2 := A, n2 := m, c2 := K }) bx 2 _ rfl) (own_grown k.oh k.o2 m1 hg') (own_grown k.o1 k.o2 m1 hg') ho (own_grown k.o3 k.o2 m1 hg') (own_grown k.o4 k.o2 m1 hg') (own_grown k.o5 k.o2 m1 hg') (own_grown k.o6 k.o2 m6 hg') (own_grown k.o7 k.o2 m7 hg') bl h.tx, bx⟩
/-- One And more. -/
theorem RR.and (h : RR w0 p b a n c xs top hg hcap H C d st W) {o : Obj} {L6 : List Tri} (hg' : (W.alloc o).grownBy w4 (Value.slice d.a6 d.n6 d.c6).ownBlock)
    (ho : w4.ownsRow w0.heap.size 53 3 (.slice A m K) m (cellsT L6)) : RR w0 p b a n c xs top hg hcap H { C with ands := L6 } { d with a6 := A, n6 := m, c6 := K } st (w4.setCell ⟨b, 6, none⟩ (.slice A m K)) ∧ Box w4 b d := by
  have k := h.then (below_alloc W o)
  have bl := (h.below.trans (h.bel (Nat.le_refl _) h.o6 hg'))
  have m1 : 3 ≠ 53 := by decide
  have m2 : 73 ≠ 53 := by decide
  have m7 : 77 ≠ 53 := by decide
  have bx : Box w4 b d := k.box.grown hg' (own_ne_box k.o6 k.box (by decide))
  have rd := rd_grown k.rd hg' (own_ne_rd k.o6 k.rd (by decide)) h.tx bl
  exact ⟨rows_cell bx rd h.lp h.lb h.m (box_eight (c' := { d with a6 := A, n6 := m, c6 := K }) bx 6 _ rfl) (own_grown k.oh k.o6 m1 hg') (own_grown k.o1 k.o6 m1 hg') (own_grown k.o2 k.o6 m2 hg') (own_grown k.o3 k.o6 m1 hg') (own_grown k.o4 k.o6 m1 hg') (own_grown k.o5 k.o6 m1 hg') ho (own_grown k.o7 k.o6 m7 hg') bl h.tx, bx⟩
/-- The names are read. -/
theorem RR.syms (h : RR w0 p b a n c xs top hg hcap H C d st W) {L7 : List Sym} (k : NR W p b a n c xs top d L7 A K st' W1) : RR w0 p b a n c xs top hg hcap H { C with names := L7 } { d with a7 := A, n7 := L7.length, c7 := K } st' W1 := by
  have ni : 3 ≠ 68 := by decide
  have nl : 73 ≠ 68 := by decide
  have na : 53 ≠ 68 := by decide
  have mi : 3 ≠ 29 := by decide
  have ml : 73 ≠ 29 := by decide
  have ma : 53 ≠ 29 := by decide
  exact ⟨k.rd, k.box, h.lp, h.lb, h.m, own_two2 h.oh h.rd h.box k.two ni mi, own_two2 h.o1 h.rd h.box k.two ni mi, own_two2 h.o2 h.rd h.box k.two nl ml, own_two2 h.o3 h.rd h.box k.two ni mi, own_two2 h.o4 h.rd h.box k.two ni mi, own_two2 h.o5 h.rd h.box k.two ni mi, own_two2 h.o6 h.rd h.box k.two na ma, own_le k.own h.below.size, k.two.below h.below (Nat.le_refl _) h.lp h.lb, h.tx⟩
/-- What is held at the end. -/
theorem RR.holds (h : RR w0 p b a n c xs top hg hcap H C d st W) : Holds W d C ∧ Above w0.heap.size d := by
  have rows : ∀ r ∈ ([⟨3, 1, .slice d.a1 d.n1 d.c1, d.n1, C.ins.map (Value.int .i64)⟩, ⟨73, 3, .slice d.a2 d.n2 d.c2, d.n2, cellsT C.lats⟩, ⟨3, 1, .slice d.a3 d.n3 d.c3, d.n3, C.outs.map (Value.int .i64)⟩, ⟨3, 1, .slice d.a4 d.n4 d.c4, d.n4, C.bads.map (Value.int .i64)⟩, ⟨3, 1, .slice d.a5 d.n5 d.c5, d.n5, C.cons.map (Value.int .i64)⟩, ⟨53, 3, .slice d.a6 d.n6 d.c6, d.n6, cellsT C.ands⟩, ⟨77, 3, .slice d.a7 d.n7 d.c7, d.n7, cellsS C.names⟩] : List Rw), W.ownsRow w0.heap.size r.e r.s r.v r.n r.cs := by
    intro r hr
    simp only [List.mem_cons, List.not_mem_nil, or_false] at hr
    rcases hr with rfl | rfl | rfl | rfl | rfl | rfl | rfl
    · exact h.o1
    · exact h.o2
    · exact h.o3
    · exact h.o4
    · exact h.o5
    · exact h.o6
    · exact h.o7
  exact ⟨mid_holds rows h.m, mid_above rows (Nat.le_refl _)⟩
end
end Go.Proofs.YtikjbbebfjleaaaGreatDoor

namespace Go.Proofs.YtikjbbebfjleaaaGreatDoor
open Go.RowKit

def numsOf (s : ByteArray) : List Int := s.data.toList.map (fun b => (b.toNat : Int))
theorem numsOf_len (s : ByteArray) : (numsOf s).length = s.size := by
  rw [numsOf, List.length_map]; exact Array.length_toList
theorem numsOf_bytes (s : ByteArray) : Bytes8 (numsOf s) := fun n hn => by
  obtain ⟨b, -, rfl⟩ := List.mem_map.1 hn
  have := b.toNat_lt
  omega
theorem numsOf_get (s : ByteArray) (i : Nat) (hi : i < s.size) : (numsOf s).getD i 0 = ((s.data.toList.getD i 0).toNat : Int) := by
  have hl : i < s.data.toList.length := by rw [Array.length_toList]; exact hi
  rw [numsOf, List.getD_eq_getElem?_getD, List.getElem?_map, List.getElem?_eq_getElem hl, List.getD_eq_getElem?_getD, List.getElem?_eq_getElem hl]
  rfl
/-- A text as bytes. -/
theorem txt_str {w : World} (hE : Env w) (hM : EnvM w) (s : ByteArray) (hs : s.size ≤ 100000) : Txt (Lib.bytesWorld w 5 s) (some ⟨w.heap.size, 0, none⟩) s.size (grownCap w s.size 0 5) (numsOf s) ∧ Below w.heap.size w (Lib.bytesWorld w 5 s) := by
  have hb : Below w.heap.size w (Lib.bytesWorld w 5 s) := ⟨rfl, rfl, rfl, by rw [Lib.bytesWorld_size]; omega, fun k hk => Lib.bytesWorld_at_old w _ s k hk⟩
  refine ⟨⟨.inr ⟨_, rfl, fun i hi => ?_⟩, numsOf_len s, fun e => (by cases e), grownCap_ge w s.size 0 _, grownCap_le_maxLen w s.size 0 _ (by unfold maxLen; omega), numsOf_bytes s, hs, hE.below hb, hM.below hb⟩, hb⟩
  rw [numsOf_len] at hi
  rw [add_plain, Nat.zero_add, Lib.bytesWorld_cell w _ s i hi, numsOf_get s i hi]
theorem cells_at (w : World) (l : List Value) (t : TypeId) (k : Nat) (v : Value) (h : l[k]? = some v) : (w.alloc (.cells l.toArray t)).cell? ⟨w.heap.size, k, none⟩ = some v := by
  rw [cell_of_row _ _ k _ t (0, 0) (heap_alloc_new w _)]
  simpa using h
end Go.Proofs.YtikjbbebfjleaaaGreatDoor
