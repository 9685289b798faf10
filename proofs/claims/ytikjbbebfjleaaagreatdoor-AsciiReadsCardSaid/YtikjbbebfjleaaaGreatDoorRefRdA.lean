/-
  THE WALK of the reference's ReadAscii: which circuit any text is, or why it is none.
-/
import Derived.Test.YtikjbbebfjleaaaGreatDoorJ45
import Derived.Deep.CutRange
import Derived.Deep.Light
namespace Go.Proofs.YtikjbbebfjleaaaGreatDoor
open Go.RowKit

theorem restA_eq (xs : List Int) : restW [97, 97, 103] xs = gramA.rest xs := rfl
theorem readA_eq (xs : List Int) (h : xs.length ≤ 100000) : gramA.readE xs = if begE [97, 97, 103] xs = 0 then endE (gramA.circ xs) (gramA.last xs) else begE [97, 97, 103] xs := by
  have h0 : gramA.hE (gramA.rest xs) = hdrE (restW [97, 97, 103] xs) := rfl
  have hw : gramA.word = [97, 97, 103] := rfl
  rw [readE_len gramA xs h, hw]
  unfold begE endE
  rw [h0]
  cases Lib.hasPrefix (lineS xs (some 0)).1.data.toList ([97, 97, 103] ++ [32])
  · rw [if_neg Bool.false_ne_true, if_neg Bool.false_ne_true, if_neg (show ¬ (2 : Int) = 0 by decide)]
  · rw [if_pos rfl, if_pos rfl]
/-- A new reader of the reference's. -/
theorem rdR_new {w : World} {a : Option Addr} {n c : Nat} {xs : List Int} (h : Txt w a n c xs) : RdR (w.heap.size + 1) a n c xs 0 (some 0) ((w.alloc (.cells #[.int .i64 0, .slice none 0 0, .slice none 0 0, .slice none 0 0, .slice none 0 0, .slice none 0 0, .slice none 0 0, .slice none 0 0] 29)).alloc (.cells #[.slice a n c, .int .i64 0, .int .i64 0, .int .i64 0] 68)) ∧ Box ((w.alloc (.cells #[.int .i64 0, .slice none 0 0, .slice none 0 0, .slice none 0 0, .slice none 0 0, .slice none 0 0, .slice none 0 0, .slice none 0 0] 29)).alloc (.cells #[.slice a n c, .int .i64 0, .int .i64 0, .int .i64 0] 68)) w.heap.size cvN ∧ Below w.heap.size w ((w.alloc (.cells #[.int .i64 0, .slice none 0 0, .slice none 0 0, .slice none 0 0, .slice none 0 0, .slice none 0 0, .slice none 0 0, .slice none 0 0] 29)).alloc (.cells #[.slice a n c, .int .i64 0, .int .i64 0, .int .i64 0] 68)) := by
  have b1 := below_alloc w (.cells #[.int .i64 0, .slice none 0 0, .slice none 0 0, .slice none 0 0, .slice none 0 0, .slice none 0 0, .slice none 0 0, .slice none 0 0] 29)
  have x1 := boxN w
  have s1 : (w.alloc (.cells #[.int .i64 0, .slice none 0 0, .slice none 0 0, .slice none 0 0, .slice none 0 0, .slice none 0 0, .slice none 0 0, .slice none 0 0] 29)).heap.size = w.heap.size + 1 := by simp
  generalize (w.alloc (.cells #[.int .i64 0, .slice none 0 0, .slice none 0 0, .slice none 0 0, .slice none 0 0, .slice none 0 0, .slice none 0 0, .slice none 0 0] 29)) = wa at *
  have b2 := below_alloc wa (.cells #[.slice a n c, .int .i64 0, .int .i64 0, .int .i64 0] 68)
  have n2 := heap_alloc_new wa (.cells #[.slice a n c, .int .i64 0, .int .i64 0, .int .i64 0] 68)
  rw [s1] at n2
  have hb := belowThen b1 b2
  refine ⟨⟨⟨0, n2, fun j hj => by cases hj; rfl⟩, fun j hj => by cases hj; exact Nat.zero_le _, h.row.below hb, h.len, h.cap, fun x hx hp => ?_, h.bytes, h.small⟩, x1.below b2, hb⟩
  rcases h.row with ⟨e, -⟩ | ⟨y, e, hc⟩
  · rw [e] at hx; cases hx
  · rw [e] at hx
    cases hx
    have := block_lt_of_cell (hc 0 hp)
    rw [add_block] at this
    omega
theorem nil_far0 {W : World} {b q j : Nat} {u : Value} (hne : q ≠ b) (h : W.cell? ⟨q, j, none⟩ = some u) : ((((((((W.setCell ⟨b, 0, none⟩ (.int .i64 0)).setCell ⟨b, 1, none⟩ (.slice none 0 0)).setCell ⟨b, 2, none⟩ (.slice none 0 0)).setCell ⟨b, 3, none⟩ (.slice none 0 0)).setCell ⟨b, 4, none⟩ (.slice none 0 0)).setCell ⟨b, 5, none⟩ (.slice none 0 0)).setCell ⟨b, 6, none⟩ (.slice none 0 0)).setCell ⟨b, 7, none⟩ (.slice none 0 0)).drew.cell? ⟨q, j, none⟩ = some u := nil_far hne h
theorem latS_row (xs : List Int) (top lit : Int) (j : Nat) : (latS xs top lit (some j)).2 = (rowS xs top 2 3 (some j)).2 ∧ ((rowS xs top 2 3 (some j)).2.isSome = true → 2 ≤ (rowL xs top 2 3 (some j)).length ∧ (rowL xs top 2 3 (some j)).length ≤ 3 ∧ (latS xs top lit (some j)).1 = ((rowL xs top 2 3 (some j) ++ [0]).getD 0 0, (rowL xs top 2 3 (some j) ++ [0]).getD 1 0, (rowL xs top 2 3 (some j) ++ [0]).getD 2 0)) := by
  refine ⟨rfl, fun h => ?_⟩
  obtain ⟨-, h1, h2, h3⟩ := rowS_ok h
  refine ⟨h2, h3, ?_⟩
  unfold latS
  rw [h1]
  generalize rowL xs top 2 3 (some j) = L at *
  match L, h2, h3 with
  | [x, y], _, _ => rfl
  | [x, y, z], _, _ => rfl
theorem andS_row (xs : List Int) (top lit : Int) (j : Nat) : (andS xs top lit (some j)).2 = (rowS xs top 3 3 (some j)).2 ∧ ((rowS xs top 3 3 (some j)).2.isSome = true → (rowL xs top 3 3 (some j)).length = 3 ∧ (andS xs top lit (some j)).1 = ((rowL xs top 3 3 (some j)).getD 0 0, (rowL xs top 3 3 (some j)).getD 1 0, (rowL xs top 3 3 (some j)).getD 2 0)) := by
  refine ⟨rfl, fun h => ?_⟩
  obtain ⟨-, h1, h2, h3⟩ := rowS_ok h
  have hl : (rowL xs top 3 3 (some j)).length = 3 := by omega
  refine ⟨hl, ?_⟩
  unfold andS
  rw [h1, hl, Nat.sub_self, List.replicate_zero, List.append_nil]


/-- A circuit that is read, and the result's box beside it. -/
structure RX (w : World) (a : Option Addr) (n c : Nat) (xs : List Int) (hg hcap : Nat) (H : List Int) (lc : Nat) (C : Circ) (d : CV) (st : Option Nat) (W : World) : Prop where
  rr : RR w (w.heap.size + 1) lc a n c xs (rTop H) hg hcap H C d st W
  bx : Box W w.heap.size cvN
  ne : lc ≠ w.heap.size
  z7 : d.a7 = none ∧ d.n7 = 0 ∧ d.c7 = 0
section
variable {w W W1 w4 : World} {n c hg hcap lc m K : Nat} {a A : Option Addr} {xs H : List Int} {C : Circ} {d : CV} {st st' : Option Nat}
theorem RX.then (h : RX w a n c xs hg hcap H lc C d st W) (hb : Below W.heap.size W W1) : RX w a n c xs hg hcap H lc C d st W1 := ⟨h.rr.then hb, h.bx.below hb, h.ne, h.z7⟩
theorem RX.went (h : RX w a n c xs hg hcap H lc C d st W) (g : WentR (w.heap.size + 1) a n c xs (rTop H) W st' W1) : RX w a n c xs hg hcap H lc C d st' W1 := ⟨h.rr.went g, (g.2.block w.heap.size h.bx.lt (by omega) (by omega)).trans h.bx, h.ne, h.z7⟩
theorem bx_set {b j : Nat} {v : Value} {d' : CV} (h : Box W b d') (hne : lc ≠ b) : Box (W.setCell ⟨lc, j, none⟩ v) b d' := (heap_setCell_other W ⟨lc, j, none⟩ b v (Ne.symm hne)).trans h
theorem RX.set3 (h : RX w a n c xs hg hcap H lc C d st W) {B : Nat} (hB : w.heap.size ≤ B) {L : List Int} (ho : W.ownsRow B 3 1 (.slice A m K) m (L.map (Value.int .i64))) : RX w a n c xs hg hcap H lc { C with outs := L } { d with a3 := A, n3 := m, c3 := K } st (W.setCell ⟨lc, 3, none⟩ (.slice A m K)) := ⟨h.rr.set3 hB ho, bx_set h.bx h.ne, h.ne, h.z7⟩
theorem RX.set4 (h : RX w a n c xs hg hcap H lc C d st W) {B : Nat} (hB : w.heap.size ≤ B) {L : List Int} (ho : W.ownsRow B 3 1 (.slice A m K) m (L.map (Value.int .i64))) : RX w a n c xs hg hcap H lc { C with bads := L } { d with a4 := A, n4 := m, c4 := K } st (W.setCell ⟨lc, 4, none⟩ (.slice A m K)) := ⟨h.rr.set4 hB ho, bx_set h.bx h.ne, h.ne, h.z7⟩
theorem RX.set5 (h : RX w a n c xs hg hcap H lc C d st W) {B : Nat} (hB : w.heap.size ≤ B) {L : List Int} (ho : W.ownsRow B 3 1 (.slice A m K) m (L.map (Value.int .i64))) : RX w a n c xs hg hcap H lc { C with cons := L } { d with a5 := A, n5 := m, c5 := K } st (W.setCell ⟨lc, 5, none⟩ (.slice A m K)) := ⟨h.rr.set5 hB ho, bx_set h.bx h.ne, h.ne, h.z7⟩
theorem RX.lat (h : RX w a n c xs hg hcap H lc C d st W) {o : Obj} {L2 : List Tri} (hg' : (W.alloc o).grownBy w4 (Value.slice d.a2 d.n2 d.c2).ownBlock) (ho : w4.ownsRow w.heap.size 73 3 (.slice A m K) m (cellsT L2)) : RX w a n c xs hg hcap H lc { C with lats := L2 } { d with a2 := A, n2 := m, c2 := K } st (w4.setCell ⟨lc, 2, none⟩ (.slice A m K)) ∧ Box w4 lc d :=
  ⟨⟨(h.rr.lat hg' ho).1, bx_set ((h.bx.alloc o).grown hg' (own_ne_box (h.rr.then (below_alloc W o)).o2 (h.bx.alloc o) (by decide))) h.ne, h.ne, h.z7⟩, (h.rr.lat hg' ho).2⟩
theorem RX.and (h : RX w a n c xs hg hcap H lc C d st W) {o : Obj} {L6 : List Tri} (hg' : (W.alloc o).grownBy w4 (Value.slice d.a6 d.n6 d.c6).ownBlock) (ho : w4.ownsRow w.heap.size 53 3 (.slice A m K) m (cellsT L6)) : RX w a n c xs hg hcap H lc { C with ands := L6 } { d with a6 := A, n6 := m, c6 := K } st (w4.setCell ⟨lc, 6, none⟩ (.slice A m K)) ∧ Box w4 lc d :=
  ⟨⟨(h.rr.and hg' ho).1, bx_set ((h.bx.alloc o).grown hg' (own_ne_box (h.rr.then (below_alloc W o)).o6 (h.bx.alloc o) (by decide))) h.ne, h.ne, h.z7⟩, (h.rr.and hg' ho).2⟩
theorem rx_start {N0 : Int} {L : List Int} (rd : RdR (w.heap.size + 1) a n c xs (rTop H) st W) (bx : Box W w.heap.size cvN) (oh : W.ownsRow w.heap.size 3 1 (.slice (some ⟨hg, 0, none⟩) 9 hcap) 9 (H.map (Value.int .i64))) {B : Nat} (hB : w.heap.size ≤ B) (o1 : W.ownsRow B 3 1 (.slice A m K) m (L.map (Value.int .i64))) (bl : Below w.heap.size w W) (tx : Row8 w a xs) (lb : w.heap.size < lc) (bc : Box W lc ⟨N0, A, m, K, none, 0, 0, none, 0, 0, none, 0, 0, none, 0, 0, none, 0, 0, none, 0, 0⟩) : RX w a n c xs hg hcap H lc ⟨N0, L, [], [], [], [], [], []⟩ ⟨N0, A, m, K, none, 0, 0, none, 0, 0, none, 0, 0, none, 0, 0, none, 0, 0, none, 0, 0⟩ st W :=
  ⟨⟨rd, bc, Nat.le_succ _, Nat.le_of_lt lb, rfl, oh, own_le o1 hB, (World.ownsRow_nil _ _ _ _), (World.ownsRow_nil _ _ _ _), (World.ownsRow_nil _ _ _ _), (World.ownsRow_nil _ _ _ _), (World.ownsRow_nil _ _ _ _), (World.ownsRow_nil _ _ _ _), bl, tx⟩, bx, by omega, rfl, rfl, rfl⟩
theorem RX.put (h : RX w a n c xs hg hcap H lc ⟨0, [], [], [], [], [], [], []⟩ cvN st W) {B : Nat} (hB : w.heap.size ≤ B) {L : List Int} (ho : W.ownsRow B 3 1 (.slice A m K) m (L.map (Value.int .i64))) (N0 : Int) : RX w a n c xs hg hcap H lc ⟨N0, L, [], [], [], [], [], []⟩ ⟨N0, A, m, K, none, 0, 0, none, 0, 0, none, 0, 0, none, 0, 0, none, 0, 0, none, 0, 0⟩ st (putBox W lc ⟨N0, A, m, K, none, 0, 0, none, 0, 0, none, 0, 0, none, 0, 0, none, 0, 0, none, 0, 0⟩) := by
  have ho0 : (W.setCell ⟨lc, 0, none⟩ (.int .i64 N0)).ownsRow B 3 1 (.slice A m K) m (L.map (Value.int .i64)) := own_cellQ ho h.rr.box (by decide)
  have x0 : Box (W.setCell ⟨lc, 0, none⟩ (.int .i64 N0)) lc ⟨N0, none, 0, 0, none, 0, 0, none, 0, 0, none, 0, 0, none, 0, 0, none, 0, 0, none, 0, 0⟩ := box_eight (c' := ⟨N0, none, 0, 0, none, 0, 0, none, 0, 0, none, 0, 0, none, 0, 0, none, 0, 0, none, 0, 0⟩) h.rr.box 0 _ rfl
  have s0 : RR w (w.heap.size + 1) lc a n c xs (rTop H) hg hcap H ⟨N0, [], [], [], [], [], [], []⟩ ⟨N0, none, 0, 0, none, 0, 0, none, 0, 0, none, 0, 0, none, 0, 0, none, 0, 0, none, 0, 0⟩ st _ := rows_cell h.rr.box h.rr.rd h.rr.lp h.rr.lb rfl x0 h.rr.oh h.rr.o1 h.rr.o2 h.rr.o3 h.rr.o4 h.rr.o5 h.rr.o6 h.rr.o7 h.rr.below h.rr.tx
  have y0 := bx_set (j := 0) (v := .int .i64 N0) h.bx h.ne
  have s1 : RR w (w.heap.size + 1) lc a n c xs (rTop H) hg hcap H ⟨N0, L, [], [], [], [], [], []⟩ ⟨N0, A, m, K, none, 0, 0, none, 0, 0, none, 0, 0, none, 0, 0, none, 0, 0, none, 0, 0⟩ st _ := rows_cell (j := 1) (v := .slice A m K) s0.box s0.rd s0.lp s0.lb rfl (box_eight (c' := ⟨N0, A, m, K, none, 0, 0, none, 0, 0, none, 0, 0, none, 0, 0, none, 0, 0, none, 0, 0⟩) s0.box 1 _ rfl) s0.oh (own_le ho0 hB) s0.o2 s0.o3 s0.o4 s0.o5 s0.o6 s0.o7 s0.below s0.tx
  have y1 := bx_set (j := 1) (v := .slice A m K) y0 h.ne
  have s2 : RR w (w.heap.size + 1) lc a n c xs (rTop H) hg hcap H ⟨N0, L, [], [], [], [], [], []⟩ ⟨N0, A, m, K, none, 0, 0, none, 0, 0, none, 0, 0, none, 0, 0, none, 0, 0, none, 0, 0⟩ st _ := rows_cell (j := 2) (v := .slice none 0 0) s1.box s1.rd s1.lp s1.lb rfl (box_eight (c' := ⟨N0, A, m, K, none, 0, 0, none, 0, 0, none, 0, 0, none, 0, 0, none, 0, 0, none, 0, 0⟩) s1.box 2 _ rfl) s1.oh s1.o1 s1.o2 s1.o3 s1.o4 s1.o5 s1.o6 s1.o7 s1.below s1.tx
  have y2 := bx_set (j := 2) (v := .slice none 0 0) y1 h.ne
  have s3 : RR w (w.heap.size + 1) lc a n c xs (rTop H) hg hcap H ⟨N0, L, [], [], [], [], [], []⟩ ⟨N0, A, m, K, none, 0, 0, none, 0, 0, none, 0, 0, none, 0, 0, none, 0, 0, none, 0, 0⟩ st _ := rows_cell (j := 3) (v := .slice none 0 0) s2.box s2.rd s2.lp s2.lb rfl (box_eight (c' := ⟨N0, A, m, K, none, 0, 0, none, 0, 0, none, 0, 0, none, 0, 0, none, 0, 0, none, 0, 0⟩) s2.box 3 _ rfl) s2.oh s2.o1 s2.o2 s2.o3 s2.o4 s2.o5 s2.o6 s2.o7 s2.below s2.tx
  have y3 := bx_set (j := 3) (v := .slice none 0 0) y2 h.ne
  have s4 : RR w (w.heap.size + 1) lc a n c xs (rTop H) hg hcap H ⟨N0, L, [], [], [], [], [], []⟩ ⟨N0, A, m, K, none, 0, 0, none, 0, 0, none, 0, 0, none, 0, 0, none, 0, 0, none, 0, 0⟩ st _ := rows_cell (j := 4) (v := .slice none 0 0) s3.box s3.rd s3.lp s3.lb rfl (box_eight (c' := ⟨N0, A, m, K, none, 0, 0, none, 0, 0, none, 0, 0, none, 0, 0, none, 0, 0, none, 0, 0⟩) s3.box 4 _ rfl) s3.oh s3.o1 s3.o2 s3.o3 s3.o4 s3.o5 s3.o6 s3.o7 s3.below s3.tx
  have y4 := bx_set (j := 4) (v := .slice none 0 0) y3 h.ne
  have s5 : RR w (w.heap.size + 1) lc a n c xs (rTop H) hg hcap H ⟨N0, L, [], [], [], [], [], []⟩ ⟨N0, A, m, K, none, 0, 0, none, 0, 0, none, 0, 0, none, 0, 0, none, 0, 0, none, 0, 0⟩ st _ := rows_cell (j := 5) (v := .slice none 0 0) s4.box s4.rd s4.lp s4.lb rfl (box_eight (c' := ⟨N0, A, m, K, none, 0, 0, none, 0, 0, none, 0, 0, none, 0, 0, none, 0, 0, none, 0, 0⟩) s4.box 5 _ rfl) s4.oh s4.o1 s4.o2 s4.o3 s4.o4 s4.o5 s4.o6 s4.o7 s4.below s4.tx
  have y5 := bx_set (j := 5) (v := .slice none 0 0) y4 h.ne
  have s6 : RR w (w.heap.size + 1) lc a n c xs (rTop H) hg hcap H ⟨N0, L, [], [], [], [], [], []⟩ ⟨N0, A, m, K, none, 0, 0, none, 0, 0, none, 0, 0, none, 0, 0, none, 0, 0, none, 0, 0⟩ st _ := rows_cell (j := 6) (v := .slice none 0 0) s5.box s5.rd s5.lp s5.lb rfl (box_eight (c' := ⟨N0, A, m, K, none, 0, 0, none, 0, 0, none, 0, 0, none, 0, 0, none, 0, 0, none, 0, 0⟩) s5.box 6 _ rfl) s5.oh s5.o1 s5.o2 s5.o3 s5.o4 s5.o5 s5.o6 s5.o7 s5.below s5.tx
  have y6 := bx_set (j := 6) (v := .slice none 0 0) y5 h.ne
  have s7 : RR w (w.heap.size + 1) lc a n c xs (rTop H) hg hcap H ⟨N0, L, [], [], [], [], [], []⟩ ⟨N0, A, m, K, none, 0, 0, none, 0, 0, none, 0, 0, none, 0, 0, none, 0, 0, none, 0, 0⟩ st _ := rows_cell (j := 7) (v := .slice none 0 0) s6.box s6.rd s6.lp s6.lb rfl (box_eight (c' := ⟨N0, A, m, K, none, 0, 0, none, 0, 0, none, 0, 0, none, 0, 0, none, 0, 0, none, 0, 0⟩) s6.box 7 _ rfl) s6.oh s6.o1 s6.o2 s6.o3 s6.o4 s6.o5 s6.o6 s6.o7 s6.below s6.tx
  have y7 := bx_set (j := 7) (v := .slice none 0 0) y6 h.ne
  exact ⟨s7, y7, h.ne, rfl, rfl, rfl⟩
theorem rr_out {p b q : Nat} {top : Int} {d e d' : CV} (h : RR w p b a n c xs top hg hcap H C d st W) (hb : Box W q e) : Holds (putBox W q d') d C ∧ Above w.heap.size d := by
  have rows : ∀ r ∈ ([⟨3, 1, .slice d.a1 d.n1 d.c1, d.n1, C.ins.map (Value.int .i64)⟩, ⟨73, 3, .slice d.a2 d.n2 d.c2, d.n2, cellsT C.lats⟩, ⟨3, 1, .slice d.a3 d.n3 d.c3, d.n3, C.outs.map (Value.int .i64)⟩, ⟨3, 1, .slice d.a4 d.n4 d.c4, d.n4, C.bads.map (Value.int .i64)⟩, ⟨3, 1, .slice d.a5 d.n5 d.c5, d.n5, C.cons.map (Value.int .i64)⟩, ⟨53, 3, .slice d.a6 d.n6 d.c6, d.n6, cellsT C.ands⟩, ⟨77, 3, .slice d.a7 d.n7 d.c7, d.n7, cellsS C.names⟩] : List Rw), (putBox W q d').ownsRow w.heap.size r.e r.s r.v r.n r.cs := by
    intro r hr
    simp only [List.mem_cons, List.not_mem_nil, or_false] at hr
    rcases hr with rfl | rfl | rfl | rfl | rfl | rfl | rfl
    · exact own_put h.o1 hb (show (3 : TypeId) ≠ 29 by decide)
    · exact own_put h.o2 hb (show (73 : TypeId) ≠ 29 by decide)
    · exact own_put h.o3 hb (show (3 : TypeId) ≠ 29 by decide)
    · exact own_put h.o4 hb (show (3 : TypeId) ≠ 29 by decide)
    · exact own_put h.o5 hb (show (3 : TypeId) ≠ 29 by decide)
    · exact own_put h.o6 hb (show (53 : TypeId) ≠ 29 by decide)
    · exact own_put h.o7 hb (show (77 : TypeId) ≠ 29 by decide)
  exact ⟨mid_holds rows h.m, mid_above rows (Nat.le_refl _)⟩
end
theorem beg_hdr {word : List UInt8} {xs : List Int} (h : begE word xs = 0) : hdrE (restW word xs) = 0 := by
  unfold begE at h
  split at h
  · exact h
  · cases h
theorem beg_some {xs : List Int} (h : begE [97, 97, 103] xs = 0) : ∃ j, (lineS xs (some 0)).2 = some j := by
  cases e : lineO xs 0 with
  | none =>
    unfold begE at h
    rw [lineS_no e] at h
    rw [if_neg (show ¬ Lib.hasPrefix (⟨#[]⟩ : ByteArray).data.toList ([97, 97, 103] ++ [32]) = true by decide)] at h
    cases h
  | some y => exact ⟨y.2, by rw [lineS_yes e]⟩
theorem cond_alloc {W : World} {o : Obj} {g : Nat} {u0 u1 : Value} (h : W.cell? ⟨g, 0, none⟩ = some u0 ∧ W.cell? ⟨g, 1, none⟩ = some u1) : (W.alloc o).cell? ⟨g, 0, none⟩ = some u0 ∧ (W.alloc o).cell? ⟨g, 1, none⟩ = some u1 := ⟨((below_alloc W o).cell (block_lt_of_cell h.1)).trans h.1, ((below_alloc W o).cell (block_lt_of_cell h.2)).trans h.2⟩
theorem cond_set {W : World} {g b j : Nat} {v u0 u1 : Value} (hne : g ≠ b) (h : W.cell? ⟨g, 0, none⟩ = some u0 ∧ W.cell? ⟨g, 1, none⟩ = some u1) : (W.setCell ⟨b, j, none⟩ v).cell? ⟨g, 0, none⟩ = some u0 ∧ (W.setCell ⟨b, j, none⟩ v).cell? ⟨g, 1, none⟩ = some u1 := ⟨(two_cell ((Two.refl b b W).setL j v) h.1 hne hne), (two_cell ((Two.refl b b W).setL j v) h.2 hne hne)⟩
theorem went_on {p : Nat} {a : Option Addr} {n c : Nat} {xs : List Int} {top : Int} {st st' : Option Nat} {w w3 w4 : World} (h : RdR p a n c xs top st w) (g : WentR p a n c xs top w st' w3) (hb : Below w.heap.size w3 w4) : WentR p a n c xs top w st' w4 := by
  have t : Two p p w w4 := ⟨hb.os.trans g.2.os, hb.tape.trans g.2.tape, hb.output.trans g.2.output, by first | exact hb.size | exact Nat.le_trans g.2.size hb.size, fun k hk h1 h2 => (hb.block k hk).trans (g.2.block k hk h1 h2)⟩
  obtain ⟨k, e1, e2⟩ := g.1.blk
  exact ⟨h.to t ⟨k, (hb.block p h.lt).trans e1, e2⟩ g.1.inb, t⟩
theorem rowI_new (w : World) (x : Int) : RowK .i64 (w.alloc (.cells #[.int .i64 x] 3)) (some ⟨w.heap.size, 0, none⟩) [x] := .inr ⟨_, rfl, fun i hi => by
  have hi0 : i = 0 := by simpa using hi
  subst hi0
  exact cells_at w [.int .i64 x] 3 0 (.int .i64 x) rfl⟩
theorem infoLatR : (Tryz.prog.info? 73).map (fun i => (i.zero, i.size, i.bytes)) = some (some (.agg #[.int .i64 0, .int .i64 0, .int .i64 0]), 3, 24) := by kernel_rfl
theorem infoAndR : (Tryz.prog.info? 53).map (fun i => (i.zero, i.size, i.bytes)) = some (some (.agg #[.int .i64 0, .int .i64 0, .int .i64 0]), 3, 24) := by kernel_rfl
theorem nat_of {n : Int} (h : 0 ≤ n) : ∃ k : Nat, n = (k : Int) := Int.eq_ofNat_of_zero_le h

set_option maxRecDepth 100000 in
set_option maxHeartbeats 40000000 in
theorem readAscii_any (a : Option Addr) (n c : Nat) (xs : List Int) (w : World) (h : Txt w a n c xs) :
    Calls Tryz.prog 13 #[.slice a n c] w (ReadPost gramA xs w) := by
  have hsz : (⟨#[97, 97, 103]⟩ : ByteArray).size ≤ 100 := by decide
  obtain ⟨hr0, hx0, hb0⟩ := rdR_new h
  have HBg := hide (refBegin_any (w.heap.size + 1) a n c xs ⟨#[97, 97, 103]⟩ hsz _ hr0)
  have HRE := hide (readA_eq xs (by have := h.len; have := h.small; omega))
  have BX0 := hide hx0
  have BL0 := hide hb0
  have HR0 := hide hr0
  unfold BegR at HBg
  rw [show (⟨#[97, 97, 103]⟩ : ByteArray).data.toList = [97, 97, 103] from rfl] at HBg
  clear hr0 hx0 hb0 hsz
  by_cases hE : begE [97, 97, 103] xs = 0
  · skip
    have hF := hdr_fit (beg_hdr hE)
    rw [if_pos hE] at HRE
    have hci : gramA.circ xs = rCirc gramA xs (hdrL (restW [97, 97, 103] xs)) (lineS xs (some 0)).2 := rfl
    have hla : gramA.last xs = (rNames gramA xs (hdrL (restW [97, 97, 103] xs)) (lineS xs (some 0)).2).2 := rfl
    have HRd : Hid (gramA.read xs = if gramA.readE xs = 0 then gramA.circ xs else noCirc) := rfl
    rw [hci] at HRE HRd
    rw [hla] at HRE
    have HSm := hide (circ_small gramA xs (hdrL (restW [97, 97, 103] xs)) (lineS xs (some 0)).2 hF (by have := h.len; have := h.small; omega))
    clear hci hla
    generalize hdrL (restW [97, 97, 103] xs) = H at *
    obtain ⟨j0, hj0⟩ := beg_some hE
    generalize (lineS xs (some 0)).2 = ST at *
    subst hj0
    have HE0 := hide hE
    have hT0 : 0 ≤ rTop H := by have := hF.pos 0; unfold rTop; omega
    have hT1 : rTop H ≤ 9223372036854775807 := by have := hF.b0; unfold rTop; omega
    obtain ⟨N0, hN0⟩ := nat_of (hF.pos 0)
    obtain ⟨N1, hN1⟩ := nat_of (hF.pos 1)
    obtain ⟨N2, hN2⟩ := nat_of (hF.pos 2)
    obtain ⟨N3, hN3⟩ := nat_of (hF.pos 3)
    obtain ⟨N4, hN4⟩ := nat_of (hF.pos 4)
    obtain ⟨N5, hN5⟩ := nat_of (hF.pos 5)
    obtain ⟨N6, hN6⟩ := nat_of (hF.pos 6)
    have b1 := hF.b1
    have b2 := hF.b2
    have b3 := hF.b3
    have b4 := hF.b4
    have b5 := hF.b5
    have b6 := hF.b6
    rw [hN1] at b1
    rw [hN2] at b2
    rw [hN3] at b3
    rw [hN4] at b4
    rw [hN5] at b5
    rw [hN6] at b6
    have HFi := hide hF
    have HOn := hide (fun st k (hk : k ≤ 10000) W (hr : RdR (w.heap.size + 1) a n c xs (rTop H) st W) => refOnes_any (w.heap.size + 1) a n c xs (rTop H) st W hr hT0 hT1 k hk)
    unfold OnesR at HOn
    have HTx := hide h.row
    clear hF h hE
    go_enter Tryz.func13, Tryz.ntmps13
    go_wp2_with fail
    refine HBg.out.mono ?_
    rintro e w1 ⟨v, rfl, hcase⟩
    rcases hcase with ⟨-, ho, hw⟩ | ⟨h0, -⟩
    rotate_left
    · exact absurd HE0.out h0
    obtain ⟨hg, hcap, rfl, hcl, hge⟩ := ownI_at ho HFi.out.len (by decide)
    have BX : Hid (Box w1 w.heap.size cvN) := (hw.2.block w.heap.size BX0.out.lt (by omega) (by omega)).trans BX0.out
    have BL := hide (hw.2.below BL0.out (Nat.le_refl _) (Nat.le_succ _) (Nat.le_succ _))
    have RD := hide hw.1
    have HO9 : Hid (w1.ownsRow w.heap.size 3 1 (.slice (some ⟨hg, 0, none⟩) 9 hcap) 9 (H.map (Value.int .i64))) := own_le (by have := ho; unfold OwnI at this; rw [HFi.out.len] at this; exact this) (by simp; omega)
    have g0 := hcl 0 (by decide)
    have g1 := hcl 1 (by decide)
    rw [hN1] at g1
    rw [hN0] at g0
    clear HBg BX0 BL0 HR0 hw ho hcl
    obtain ⟨k1, hk1, c0, c1, c2, c3⟩ := RD.out.cells
    rw [show errR (some j0) = 0 from rfl] at c3
    clear hk1 c0 c1 c2
    have e1 : rIns gramA xs H (some j0) = itemsS (fun i => litS xs (rTop H) (2 * (0 + (i : Int)))) (some j0) N1 := by unfold rIns; rw [hN1]; rfl
    have HO1 := hide (HOn.out (some j0) N1 (by omega))
    rw [← e1] at HO1
    have hge2 : w.heap.size + 2 ≤ hg := by simpa using hge
    clear e1 hge
    go_upto_region 5 with fail
    go_cut [6] from 11 to 134 (fun v wx => ∃ (lc : Nat) (d : CV) (L : List Int), v = .pointer (some ⟨lc, 0, none⟩) ∧ Hid (RX w a n c xs hg hcap H lc ⟨(N0 : Int), L, [], [], [], [], [], []⟩ d (rIns gramA xs H (some j0)).2 wx) ∧ Hid (OkL (rIns gramA xs H (some j0)).2 L (rIns gramA xs H (some j0)).1) ∧ Hid (L.length ≤ N1))
    case first =>
      rename_i J K2 hJ hK
      have hMK : ∀ a w, J a w → K2 a w := fun a w h => hK a w (Met.intro h)
      clear hK
      go_light
      have g01d : w1.drew.cell? ⟨hg, 0, none⟩ = some (.int .i64 N0) ∧ w1.drew.cell? ⟨hg, 1, none⟩ = some (.int .i64 N1) := ⟨g0, g1⟩
      have RDa := hide (RD.out.below (Drew.below ⟨1, rfl⟩) : RdR (w.heap.size + 1) a n c xs (rTop H) (some j0) w1.drew)
      have RDb := hide ((RD.out.below (below_alloc w1 (.cells #[.int .i64 0, .slice none 0 0, .slice none 0 0, .slice none 0 0, .slice none 0 0, .slice none 0 0, .slice none 0 0, .slice none 0 0] 29))).below (Drew.below ⟨1, rfl⟩) : RdR (w.heap.size + 1) a n c xs (rTop H) (some j0) (w1.alloc (.cells #[.int .i64 0, .slice none 0 0, .slice none 0 0, .slice none 0 0, .slice none 0 0, .slice none 0 0, .slice none 0 0, .slice none 0 0] 29)).drew)
      have g01a : (w1.alloc (.cells #[.int .i64 0, .slice none 0 0, .slice none 0 0, .slice none 0 0, .slice none 0 0, .slice none 0 0, .slice none 0 0, .slice none 0 0] 29)).drew.cell? ⟨hg, 0, none⟩ = some (.int .i64 N0) ∧ (w1.alloc (.cells #[.int .i64 0, .slice none 0 0, .slice none 0 0, .slice none 0 0, .slice none 0 0, .slice none 0 0, .slice none 0 0, .slice none 0 0] 29)).drew.cell? ⟨hg, 1, none⟩ = some (.int .i64 N1) := cond_alloc (W := w1) ⟨g0, g1⟩
      have HO9a : Hid (w1.drew.ownsRow w.heap.size 3 1 (.slice (some ⟨hg, 0, none⟩) 9 hcap) 9 (H.map (Value.int .i64))) := own_below HO9.out (Drew.below ⟨1, rfl⟩)
      have BLa : Hid (Below w.heap.size w w1.drew) := belowThen BL.out (Drew.below ⟨1, rfl⟩)
      have BLb : Hid (Below w.heap.size w (w1.alloc (.cells #[.int .i64 0, .slice none 0 0, .slice none 0 0, .slice none 0 0, .slice none 0 0, .slice none 0 0, .slice none 0 0, .slice none 0 0] 29)).drew) := belowThen (belowThen BL.out (below_alloc w1 _)) (Drew.below ⟨1, rfl⟩)
      have BXb : Hid (Box (w1.alloc (.cells #[.int .i64 0, .slice none 0 0, .slice none 0 0, .slice none 0 0, .slice none 0 0, .slice none 0 0, .slice none 0 0, .slice none 0 0] 29)).drew w.heap.size cvN) := Box.alloc BX.out _
      have HO9b : Hid ((w1.alloc (.cells #[.int .i64 0, .slice none 0 0, .slice none 0 0, .slice none 0 0, .slice none 0 0, .slice none 0 0, .slice none 0 0, .slice none 0 0] 29)).drew.ownsRow w.heap.size 3 1 (.slice (some ⟨hg, 0, none⟩) 9 hcap) 9 (H.map (Value.int .i64))) := own_below HO9.out (belowThen (below_alloc w1 _) (Drew.below ⟨1, rfl⟩))
      have hpl : w.heap.size + 1 < w1.heap.size := RD.out.lt
      have hl1 : hg < w1.heap.size := block_lt_of_cell g0
      have hnp : hg ≠ w.heap.size + 1 := by omega
      clear HRE HRd HSm HE0 HOn HFi hN0 hN1 hN2 hN3 hN4 hN5 hN6 b1 b2 b3 b4 b5 b6 hT0 hT1 c3
      go_region_held3 (fun w' => w'.cell? ⟨hg, 0, none⟩ = some (.int .i64 N0) ∧ w'.cell? ⟨hg, 1, none⟩ = some (.int .i64 N1)) (first | with_reducible exact g01d | with_reducible exact g01a | with_reducible exact g2 | with_reducible exact cond_alloc g2 | ((iterate 8 refine cond_set (by omega) ?_); first | with_reducible exact g2 | with_reducible exact cond_alloc g2)) (first | (go_at_call 40; refine (HO1.out _ (by first | exact RDa.out | exact RDb.out)).mono ?_; rintro e w2 ⟨v2, L, rfl, ho2, hlL, hok2, hw2⟩; obtain ⟨A1, K1, rfl⟩ := own_is ho2; (first | (have bz : Box w2 w1.heap.size cvN := (hw2.2.block w1.heap.size (by simp) (by omega) (by omega)).trans (boxN w1)) | (have bz := boxN w2)); obtain ⟨z0, z1, z2, z3, z4, z5, z6, z7⟩ := bz.cells; simp only [cvN] at z0 z1 z2 z3 z4 z5 z6 z7; have f0 := box_frozen bz 0; have f1 := box_frozen bz 1; have f2 := box_frozen bz 2; have f3 := box_frozen bz 3; have f4 := box_frozen bz 4; have f5 := box_frozen bz 5; have f6 := box_frozen bz 6; have f7 := box_frozen bz 7; have BZ := hide bz; clear bz; have g2 := And.intro (two_cell hw2.2 (by first | exact g01d.1 | exact g01a.1) hnp hnp) (two_cell hw2.2 (by first | exact g01d.2 | exact g01a.2) hnp hnp); have hl2 : hg < w2.heap.size := block_lt_of_cell g2.1))
      all_goals refine hMK _ _ (hJ _ _ ?_)
      all_goals ((repeat apply Exists.intro); refine ⟨?_, rfl⟩)
      · refine ⟨_, ⟨(N0 : Int), A1, L.length, K1, none, 0, 0, none, 0, 0, none, 0, 0, none, 0, 0, none, 0, 0, none, 0, 0⟩, L, rfl, ?_, hok2, hlL⟩
        refine rx_start (hw2.1.below (below_alloc w2 _)) (Box.alloc ((hw2.2.block w.heap.size (Nat.lt_trans (Nat.lt_succ_self _) hpl) (by omega) (by omega)).trans BX.out) _) (own_below (own_rd HO9a.out RDa.out hw2.2 (by decide)) (below_alloc w2 _)) (Nat.le_of_lt (Nat.lt_trans (Nat.lt_succ_self _) hpl)) (own_below ho2 (below_alloc w2 _)) (belowThen (hw2.2.below BLa.out (Nat.le_refl _) (Nat.le_succ _) (Nat.le_succ _)) (below_alloc w2 _)) HTx.out (by have := hw2.2.size; have : w1.drew.heap.size = w1.heap.size := rfl; omega) (box_new w2 ⟨(N0 : Int), A1, L.length, K1, none, 0, 0, none, 0, 0, none, 0, 0, none, 0, 0, none, 0, 0, none, 0, 0⟩)
      · refine ⟨_, ⟨(N0 : Int), A1, L.length, K1, none, 0, 0, none, 0, 0, none, 0, 0, none, 0, 0, none, 0, 0, none, 0, 0⟩, L, rfl, ?_, hok2, hlL⟩
        refine RX.put (rx_start (L := []) hw2.1 ((hw2.2.block w.heap.size (by simp; omega) (by omega) (by omega)).trans BXb.out) (own_rd HO9b.out RDb.out hw2.2 (by decide)) (Nat.le_refl _) (World.ownsRow_nil _ _ _ _) (hw2.2.below BLb.out (Nat.le_refl _) (Nat.le_succ _) (Nat.le_succ _)) HTx.out (by omega) BZ.out) (by simp; omega) ho2 _
    case rest =>
      obtain ⟨lc, d, L, rfl, HX1, HOk1, HLl1⟩ := hcut
      obtain ⟨P2, hP2⟩ : ∃ P2 : Nat → List Tri × Option Nat, P2 = fun k => itemsS (fun i => latS xs (rTop H) (2 * (1 + H.getD 1 0 + (i : Int)))) (rIns gramA xs H (some j0)).2 k := ⟨_, rfl⟩
      have HP0 : Hid (P2 0 = ([], (rIns gramA xs H (some j0)).2)) := by rw [hP2]; exact rfl
      have HPn : Hid (∀ k, (P2 k).2 = none → ∀ m, k ≤ m → (P2 m).2 = none) := fun k hk m hm => by rw [hP2] at hk ⊢; exact itemsS_stuck (fun n => latS_none xs (rTop H) _) hk m hm
      have HPs : Hid (∀ k j, (P2 k).2 = some j → (P2 (k + 1)).2 = (rowS xs (rTop H) 2 3 (some j)).2 ∧ ((rowS xs (rTop H) 2 3 (some j)).2.isSome = true → 2 ≤ (rowL xs (rTop H) 2 3 (some j)).length ∧ (rowL xs (rTop H) 2 3 (some j)).length ≤ 3 ∧ (P2 (k + 1)).1 = (P2 k).1 ++ [((rowL xs (rTop H) 2 3 (some j) ++ [0]).getD 0 0, (rowL xs (rTop H) 2 3 (some j) ++ [0]).getD 1 0, (rowL xs (rTop H) 2 3 (some j) ++ [0]).getD 2 0)])) := fun k j hk => by
        obtain ⟨q1, q2⟩ := latS_row xs (rTop H) (2 * (1 + H.getD 1 0 + (k : Int))) j
        rw [hP2] at hk ⊢
        dsimp only at hk ⊢
        refine ⟨by rw [itemsS, hk]; exact q1, fun hs => ⟨(q2 hs).1, (q2 hs).2.1, by rw [itemsS, hk, (q2 hs).2.2]⟩⟩
      have HPe : Hid (rLats gramA xs H (some j0) = P2 N2) := by rw [hP2]; unfold rLats; rw [hN2]; exact rfl
      have HS1 := hide (congrArg Prod.snd HP0.out)
      dsimp only at HS1
      clear hP2
      generalize hR1 : rIns gramA xs H (some j0) = R1 at *
      rename_i KR hKR
      refine hKR _ _ ?_
      refine wp_seq_k (fun KS hKS => ?_)
      go_cut [7, 8] from 35 to 134 (fun i r wx => ∃ (L2 : List Tri) (d2 : CV), Hid (RX w a n c xs hg hcap H lc ⟨(N0 : Int), L, L2, [], [], [], [], []⟩ d2 (P2 N2).2 wx) ∧ Hid (OkL (P2 N2).2 L2 (P2 N2).1) ∧ Hid (L2.length ≤ N2))
      case first =>
        rename_i J K2 hJ hK
        have hMK : ∀ a w, J a w → K2 a w := fun a w h => hK a w (Met.intro h)
        clear hK
        go_light
        clear HRE HRd HSm HE0 HOn HO1 HTx BX BL RD HO9 g0 g1 c3
        go_wp2
        go_loopw [7, 8] (fun i _ wr => ∃ (k : Nat) (L2 : List Tri) (d2 : CV), i = .int .i64 k ∧ k ≤ N2 ∧ Hid (RX w a n c xs hg hcap H lc ⟨(N0 : Int), L, L2, [], [], [], [], []⟩ d2 (P2 k).2 wr) ∧ Hid (OkL (P2 k).2 L2 (P2 k).1) ∧ Hid (L2.length ≤ k)) (fun i _ _ => N2 - (intOf i).toNat)
        case atStart =>
          refine ⟨0, [], d, rfl, Nat.zero_le _, ?_, ?_, Nat.le_refl _⟩
          · rw [HS1.out]; exact HX1
          · intro _; rw [HP0.out]
        case round =>
          obtain ⟨k, L2, d2, rfl, hk, HX, HOk, HLl⟩ := hrel
          have g2 := HX.out.rr.hd HFi.out.len 2 (by decide)
          rw [hN2] at g2
          obtain ⟨kk, hkk, c0, c1, c2, c3⟩ := HX.out.rr.rd.cells
          by_cases hex : k < N2 ∧ (P2 k).2.isSome = true
          · obtain ⟨hlt, hso⟩ := hex
            obtain ⟨j, hj⟩ := Option.isSome_iff_exists.1 hso
            rw [hj] at HX c3
            rw [show errR (some j) = 0 from rfl] at c3
            have HRow := hide (refRow_any (w.heap.size + 1) a n c xs (rTop H) (some j) 2 3 wr HX.out.rr.rd (by decide) (by decide) hT0 hT1)
            obtain ⟨q1, q2⟩ := HPs.out k j hj
            have Q1 := hide q1
            have Q2 := hide q2
            have hkI : (k : Int) < (N2 : Int) := by omega
            have hR3 := rowL_le xs (rTop H) 2 3 (some j)
            clear c0 c1 c2 hkk hso q1 q2 HPs HP0 HPn
            obtain ⟨i0, hi, hz0, hz1, hz2⟩ := info_parts infoInt
            go_wp2_with fail
            refine HRow.out.mono ?_
            rintro e w3 ⟨v3, rfl, ho3, hw3⟩
            unfold OwnI at ho3
            generalize rowL xs (rTop H) 2 3 (some j) = R at *
            generalize (rowS xs (rTop H) 2 3 (some j)).2 = sj at *
            clear HRow g2 c3
            cases sj with
            | none =>
              go_wp2_with (first | (at_builtin; refine wpList_append_row _ rfl (.tmp 50) (.tmp 51) 24 rfl .i64 wr.heap.size 3 i0 (.int .i64 0) 8 Tryz.underlying24 hi hz0 hz1 hz2 rfl _ _ _ rfl (own_below ho3 (below_alloc w3 _)) (some ⟨w3.heap.size, 0, none⟩) 1 1 [0] rfl rfl (rowI_new w3 0) (fun e => by cases e) (by unfold maxLen; omega) (by omega) (Nat.le_trans hw3.2.size (below_alloc w3 _).size) ?_; intro v4 w4 hown4 hg4; have HX4 := hide (HX.out.went (went_on HX.out.rr.rd hw3 ((Below.grown (Below.grown (Below.refl _ w3) (World.grownBy_alloc w3 _ none) hw3.2.size (fun k hk => by cases hk)) hg4 (Nat.le_trans hw3.2.size (below_alloc w3 _).size) (fun k hk => (ho3.lt k hk).1))))); obtain ⟨k4, hk4, c0, c1, c2, c3⟩ := HX4.out.rr.rd.cells; clear hk4 c0 c1 c2; rw [show errR none = 2 from rfl] at c3))
              go_roundw
              case rel => exact ⟨k + 1, L2, d2, by go_num, by omega, by rw [Q1.out]; exact HX4, (fun e => by rw [Q1.out] at e; cases e), Nat.le_succ_of_le HLl.out⟩
              case measure => simp [intOf]; omega
            | some j1 =>
              go_wp2_with (first | (at_builtin; refine wpList_append_row _ rfl (.tmp 50) (.tmp 51) 24 rfl .i64 wr.heap.size 3 i0 (.int .i64 0) 8 Tryz.underlying24 hi hz0 hz1 hz2 rfl _ _ _ rfl (own_below ho3 (below_alloc w3 _)) (some ⟨w3.heap.size, 0, none⟩) 1 1 [0] rfl rfl (rowI_new w3 0) (fun e => by cases e) (by unfold maxLen; omega) (by omega) (Nat.le_trans hw3.2.size (below_alloc w3 _).size) ?_; intro v4 w4 hown4 hg4; have HX4 := hide (HX.out.went (went_on HX.out.rr.rd hw3 ((Below.grown (Below.grown (Below.refl _ w3) (World.grownBy_alloc w3 _ none) hw3.2.size (fun k hk => by cases hk)) hg4 (Nat.le_trans hw3.2.size (below_alloc w3 _).size) (fun k hk => (ho3.lt k hk).1))))); obtain ⟨k4, hk4, c0, c1, c2, c3⟩ := HX4.out.rr.rd.cells; clear hk4 c0 c1 c2; rw [show errR (some j1) = 0 from rfl] at c3))
              clear hg4 ho3 hw3
              have hqs := Q2.out rfl
              have hown5 : OwnI wr.heap.size w4 v4 (R ++ [0]) := by unfold OwnI; rw [List.length_append, List.map_append]; exact hown4
              have hlen5 : (R ++ [0]).length = R.length + 1 := by rw [List.length_append]; rfl
              obtain ⟨lg, cap4, rfl, hcl4, hge4⟩ := ownI_at hown5 hlen5 (Nat.succ_pos _)
              have x0c := hcl4 0 (by omega)
              have x1c := hcl4 1 (by omega)
              have x2c := hcl4 2 (by omega)
              have hLen : L2.length ≤ k := HLl.out
              have hn2 : d2.n2 = L2.length := by
                have h1 : L2.length * 3 = d2.n2 * 3 := by have := HX4.out.rr.o2.1; rw [cellsT_len] at this; exact this
                omega
              have HOk2 : Hid ((P2 (k + 1)).1 = L2 ++ [((R ++ [0]).getD 0 0, (R ++ [0]).getD 1 0, (R ++ [0]).getD 2 0)]) := by
                show _ = _
                rw [hqs.2.2, ← HOk.out (by rw [hj]; rfl)]
              have hlr := hqs.1
              generalize (R ++ [0]).getD 0 0 = x0 at *
              generalize (R ++ [0]).getD 1 0 = x1 at *
              generalize (R ++ [0]).getD 2 0 = x2 at *
              have HNq : Hid (lc ≠ lg) := fun e => own_ne_box hown4 HX4.out.rr.box (by decide) (by rw [e]; rfl)
              have HNe : Hid (some lg ≠ (Value.slice d2.a2 d2.n2 d2.c2).ownBlock) := by
                rcases own_ne_own hown4 HX4.out.rr.o2 (by decide) with h0 | h0
                · cases h0
                · exact h0
              generalize hm : R.length + 1 = m at *
              have hm0 : 0 < m := by omega
              have hm1 : (1 : Int) < (m : Int) := by omega
              have hm2 : (2 : Int) < (m : Int) := by omega
              have HT3 := hide (And.intro x0c (And.intro x1c x2c))
              have HTa : Hid (∀ o, (w4.alloc o).drew.cell? ⟨lg, 0, none⟩ = some (.int .i64 x0) ∧ (w4.alloc o).drew.cell? ⟨lg, 1, none⟩ = some (.int .i64 x1) ∧ (w4.alloc o).drew.cell? ⟨lg, 2, none⟩ = some (.int .i64 x2)) := fun o => three_belowQ HT3.out (belowThen (below_alloc w4 o) (Drew.below ⟨1, rfl⟩))
              obtain ⟨i2, hi2, hy0, hy1, hy2⟩ := info_parts infoLatR
              have hd : w4.drew.cell? ⟨lc, 2, none⟩ = some (.slice d2.a2 d2.n2 d2.c2) := HX4.out.rr.box.cells.2.2.1
              have hda : ∀ o, (w4.alloc o).drew.cell? ⟨lc, 2, none⟩ = some (.slice d2.a2 d2.n2 d2.c2) := fun o => ((HX4.out.then (below_alloc w4 o)).rr.box.cells).2.2.1
              have HO : Hid (∀ o, (w4.alloc o).drew.ownsRow w.heap.size 73 3 (.slice d2.a2 d2.n2 d2.c2) d2.n2 (cellsT L2)) := fun o => (HX4.out.then (below_alloc w4 o)).rr.o2
              have HSz : Hid (∀ o, w.heap.size ≤ (w4.alloc o).drew.heap.size) := fun o => (HX4.out.then (below_alloc w4 o)).rr.below.size
              have HPu : Hid (∀ o w5 A5 K5, (w4.drew.alloc o).grownBy w5 (Value.slice d2.a2 d2.n2 d2.c2).ownBlock → w5.ownsRow w.heap.size 73 3 (.slice A5 (d2.n2 + 1) K5) (d2.n2 + 1) (cellsT L2 ++ [.int .i64 x0, .int .i64 x1, .int .i64 x2]) → RX w a n c xs hg hcap H lc ⟨(N0 : Int), L, L2 ++ [(x0, x1, x2)], [], [], [], [], []⟩ { d2 with a2 := A5, n2 := d2.n2 + 1, c2 := K5 } (some j1) (w5.setCell ⟨lc, 2, none⟩ (.slice A5 (d2.n2 + 1) K5)) ∧ Box w5 lc d2) := fun o w5 A5 K5 hg' ho =>
                RX.lat (W := w4.drew) (HX4.out.then (Drew.below ⟨1, rfl⟩)) (o := o) hg' (by rw [cellsT_append]; exact ho)
              have HXx : Hid (d2.n2 + 1 ≤ maxLen) := by show d2.n2 + 1 ≤ maxLen; unfold maxLen; omega
              have HY : Hid ((d2.n2 + 1) * 24 ≤ 140737488355328) := by show (d2.n2 + 1) * 24 ≤ 140737488355328; omega
              have HOne : Hid (∀ u ∈ [Value.int .i64 x0, .int .i64 x1, .int .i64 x2], u.oneCell' = true) := fun u hu => by simp at hu; rcases hu with rfl | rfl | rfl <;> rfl
              clear hown4 hown5 hcl4 hge4 hqs HOk HX4 x0c x1c x2c c3 hi hz0 hz1 hz2 hn2 hlen5 hm hj Q2
              refine wp_region_held_drew (S := fun w' => w'.cell? ⟨lg, 0, none⟩ = some (.int .i64 x0) ∧ w'.cell? ⟨lg, 1, none⟩ = some (.int .i64 x1) ∧ w'.cell? ⟨lg, 2, none⟩ = some (.int .i64 x2)) (by kernel_rfl) HT3.out (fun hHeld => ?_)
              refine wpAnyH_take (i := 0) (oi := { dst := some 58, op := Op.fieldAddr 29 (Operand.tmp 6) 2, type := 0, pos := "text.go:141", after := #[], guard := none }) (v := ?_) rfl (by kernel_rfl) (by kernel_rfl) (by kernel_rfl) (fun _ _ _ h => h) (Or.inl ⟨by rfl, ?_⟩) (by assumption) ?_
              rotate_left
              · (intro w0 hSw; (try dsimp only at hSw); go_simp; try with_reducible rfl)
              try simp only [Act.put, List.setIfInBounds_toArray, List.set_cons_zero, List.set_cons_succ]
              refine wpAnyH_take (i := 2) (oi := { dst := some 60, op := Op.move (Operand.tmp 8), type := 24, pos := "text.go:141", after := #[], guard := none }) (v := ?_) rfl (by kernel_rfl) (by kernel_rfl) (by kernel_rfl) (fun _ _ _ h => h) (Or.inl ⟨by rfl, ?_⟩) (by assumption) ?_
              rotate_left
              · (intro w0 hSw; (try dsimp only at hSw); go_simp; try with_reducible rfl)
              try simp only [Act.put, List.setIfInBounds_toArray, List.set_cons_zero, List.set_cons_succ]
              refine wpAnyH_take (i := 3) (oi := { dst := some 61, op := Op.indexAddr 24 (Operand.tmp 60) (Operand.const (Value.int IntKind.i64 0)), type := 0, pos := "text.go:141", after := #[{ on := 2, ground := Ground.data }], guard := none }) (v := ?_) rfl (by kernel_rfl) (by kernel_rfl) (by kernel_rfl) (fun _ _ _ h => h) (Or.inl ⟨by rfl, ?_⟩) (by assumption) ?_
              rotate_left
              · (intro w0 hSw; (try dsimp only at hSw); go_simp; try with_reducible rfl)
              try simp only [Act.put, List.setIfInBounds_toArray, List.set_cons_zero, List.set_cons_succ]
              refine wpAnyH_take (i := 4) (oi := { dst := some 62, op := Op.load 3 (Operand.tmp 61), type := 3, pos := "text.go:141", after := #[{ on := 3, ground := Ground.data }], guard := none }) (v := ?_) rfl (by kernel_rfl) (by kernel_rfl) (by kernel_rfl) (fun _ _ _ h => h) (Or.inl ⟨by rfl, ?_⟩) (by assumption) ?_
              rotate_left
              · (intro w0 hSw; (try dsimp only at hSw); go_simp; try with_reducible rfl)
              try simp only [Act.put, List.setIfInBounds_toArray, List.set_cons_zero, List.set_cons_succ]
              refine wpAnyH_take (i := 5) (oi := { dst := some 63, op := Op.move (Operand.tmp 8), type := 24, pos := "text.go:141", after := #[], guard := none }) (v := ?_) rfl (by kernel_rfl) (by kernel_rfl) (by kernel_rfl) (fun _ _ _ h => h) (Or.inl ⟨by rfl, ?_⟩) (by assumption) ?_
              rotate_left
              · (intro w0 hSw; (try dsimp only at hSw); go_simp; try with_reducible rfl)
              try simp only [Act.put, List.setIfInBounds_toArray, List.set_cons_zero, List.set_cons_succ]
              refine wpAnyH_take (i := 6) (oi := { dst := some 64, op := Op.indexAddr 24 (Operand.tmp 63) (Operand.const (Value.int IntKind.i64 1)), type := 0, pos := "text.go:141", after := #[{ on := 5, ground := Ground.data }], guard := none }) (v := ?_) rfl (by kernel_rfl) (by kernel_rfl) (by kernel_rfl) (fun _ _ _ h => h) (Or.inl ⟨by rfl, ?_⟩) (by assumption) ?_
              rotate_left
              · (intro w0 hSw; (try dsimp only at hSw); go_simp; try with_reducible rfl)
              try simp only [Act.put, List.setIfInBounds_toArray, List.set_cons_zero, List.set_cons_succ]
              refine wpAnyH_take (i := 7) (oi := { dst := some 65, op := Op.load 3 (Operand.tmp 64), type := 3, pos := "text.go:141", after := #[{ on := 6, ground := Ground.data }], guard := none }) (v := ?_) rfl (by kernel_rfl) (by kernel_rfl) (by kernel_rfl) (fun _ _ _ h => h) (Or.inl ⟨by rfl, ?_⟩) (by assumption) ?_
              rotate_left
              · (intro w0 hSw; (try dsimp only at hSw); go_simp; try with_reducible rfl)
              try simp only [Act.put, List.setIfInBounds_toArray, List.set_cons_zero, List.set_cons_succ]
              refine wpAnyH_take (i := 8) (oi := { dst := some 66, op := Op.move (Operand.tmp 8), type := 24, pos := "text.go:141", after := #[], guard := none }) (v := ?_) rfl (by kernel_rfl) (by kernel_rfl) (by kernel_rfl) (fun _ _ _ h => h) (Or.inl ⟨by rfl, ?_⟩) (by assumption) ?_
              rotate_left
              · (intro w0 hSw; (try dsimp only at hSw); go_simp; try with_reducible rfl)
              try simp only [Act.put, List.setIfInBounds_toArray, List.set_cons_zero, List.set_cons_succ]
              refine wpAnyH_take (i := 9) (oi := { dst := some 67, op := Op.indexAddr 24 (Operand.tmp 66) (Operand.const (Value.int IntKind.i64 2)), type := 0, pos := "text.go:141", after := #[{ on := 8, ground := Ground.data }], guard := none }) (v := ?_) rfl (by kernel_rfl) (by kernel_rfl) (by kernel_rfl) (fun _ _ _ h => h) (Or.inl ⟨by rfl, ?_⟩) (by assumption) ?_
              rotate_left
              · (intro w0 hSw; (try dsimp only at hSw); go_simp; try with_reducible rfl)
              try simp only [Act.put, List.setIfInBounds_toArray, List.set_cons_zero, List.set_cons_succ]
              refine wpAnyH_take (i := 10) (oi := { dst := some 68, op := Op.load 3 (Operand.tmp 67), type := 3, pos := "text.go:141", after := #[{ on := 9, ground := Ground.data }], guard := none }) (v := ?_) rfl (by kernel_rfl) (by kernel_rfl) (by kernel_rfl) (fun _ _ _ h => h) (Or.inl ⟨by rfl, ?_⟩) (by assumption) ?_
              rotate_left
              · (intro w0 hSw; (try dsimp only at hSw); go_simp; try with_reducible rfl)
              try simp only [Act.put, List.setIfInBounds_toArray, List.set_cons_zero, List.set_cons_succ]
              refine wpAnyH_take (i := 11) (oi := { dst := some 69, op := Op.build 73 #[(0, Operand.tmp 62), (1, Operand.tmp 65), (2, Operand.tmp 68)], type := 73, pos := "text.go:141", after := #[{ on := 4, ground := Ground.data }, { on := 7, ground := Ground.data }, { on := 10, ground := Ground.data }], guard := none }) (v := ?_) rfl (by kernel_rfl) (by kernel_rfl) (by kernel_rfl) (fun _ _ _ h => h) (Or.inl ⟨by rfl, ?_⟩) (by assumption) ?_
              rotate_left
              · (intro w0 hSw; (try dsimp only at hSw); go_simp; try with_reducible rfl)
              try simp only [Act.put, List.setIfInBounds_toArray, List.set_cons_zero, List.set_cons_succ]
              refine wpAnyH_ready (rs := [1, 12]) (by kernel_rfl) (by simp) ?_
              refine AllReadyH.cons (o := { dst := some 59, op := Op.load 25 (Operand.tmp 58), type := 25, pos := "text.go:141", after := #[{ on := 0, ground := Ground.data }], guard := none }) rfl (fun KZ hKZ => ?_) ?_
              · skip
                go_simp
                refine hKZ.out _ _ ?_ (fun hHeld => ?_)
                · exact HT3.out
                clear hKZ KZ
                try simp only [Act.put, List.setIfInBounds_toArray, List.set_cons_zero, List.set_cons_succ]
                refine wpAnyH_ready (rs := [12]) (by kernel_rfl) (by simp) ?_
                refine AllReadyH.cons (o := { dst := some 70, op := Op.buildSlice 25 1 #[(0, Operand.tmp 69)], type := 25, pos := "text.go:141", after := #[{ on := 11, ground := Ground.data }], guard := none }) rfl (fun KZ hKZ => ?_) ?_
                · skip
                  go_simp
                  refine hKZ.out _ _ ?_ (fun hHeld => ?_)
                  · exact HTa.out _
                  clear hKZ KZ
                  try simp only [Act.put, List.setIfInBounds_toArray, List.set_cons_zero, List.set_cons_succ]
                  refine wpAnyH_ready (rs := [13]) (by kernel_rfl) (by simp) ?_
                  refine AllReadyH.cons (o := { dst := some 71, op := Op.call { callee := Callee.builtin Builtin.append, args := #[Operand.tmp 59, Operand.tmp 70], argTypes := #[25, 25] }, type := 25, pos := "text.go:141", after := #[{ on := 1, ground := Ground.data }, { on := 12, ground := Ground.data }], guard := none }) rfl (fun KZ hKZ => ?_) ?_
                  · skip
                    (refine step_append_wr (.tmp 59) (.tmp 70) 25 w.heap.size 73 i2 (.agg #[.int .i64 0, .int .i64 0, .int .i64 0]) 3 24 Tryz.underlying25 hi2 hy0 hy1 hy2 rfl (Nat.succ_pos 2) (.slice d2.a2 d2.n2 d2.c2) d2.n2 (cellsT L2) (some ⟨w4.heap.size, 0, none⟩) 1 1 [.int .i64 x0, .int .i64 x1, .int .i64 x2] rfl (fun e => by cases e) HOne.out HXx.out HY.out (by simp [Act.eval]) (by simp [Act.eval]) (HO.out _) ((rowC_three (t := 73) (w := w4) rfl rfl).below (Drew.below ⟨1, rfl⟩)) (HSz.out _) ?_; intro v5 w5 ho hg'; obtain ⟨A5, K5, rfl⟩ := own_is ho; obtain ⟨hr5, hbx⟩ := HPu.out _ w5 A5 K5 hg' ho; have HR5 := hide hr5; have hq5 := hbx.cells.2.2.1; have hf5 := box_frozen hbx 2; have HT5 := hide (three_grown (HTa.out _) hg' HNe.out); clear ho hg' hbx hr5)
                    refine hKZ.out _ _ ?_ (fun hHeld => ?_)
                    · exact HT5.out
                    clear hKZ KZ
                    try simp only [Act.put, List.setIfInBounds_toArray, List.set_cons_zero, List.set_cons_succ]
                    refine wpAnyH_take (i := 14) (oi := { dst := some 72, op := Op.fieldAddr 29 (Operand.tmp 6) 2, type := 0, pos := "text.go:141", after := #[{ on := 0, ground := Ground.phase }, { on := 1, ground := Ground.phase }, { on := 2, ground := Ground.phase }, { on := 3, ground := Ground.phase }, { on := 4, ground := Ground.phase }, { on := 5, ground := Ground.phase }, { on := 6, ground := Ground.phase }, { on := 7, ground := Ground.phase }, { on := 8, ground := Ground.phase }, { on := 9, ground := Ground.phase }, { on := 10, ground := Ground.phase }, { on := 11, ground := Ground.phase }, { on := 12, ground := Ground.phase }, { on := 13, ground := Ground.phase }], guard := none }) (v := ?_) rfl (by kernel_rfl) (by kernel_rfl) (by kernel_rfl) (fun _ _ _ h => h) (Or.inl ⟨by rfl, ?_⟩) (by assumption) ?_
                    rotate_left
                    · (intro w0 hSw; (try dsimp only at hSw); go_simp; try with_reducible rfl)
                    try simp only [Act.put, List.setIfInBounds_toArray, List.set_cons_zero, List.set_cons_succ]
                    refine wpAnyH_ready (rs := [15]) (by kernel_rfl) (by simp) ?_
                    refine AllReadyH.cons (o := { dst := none, op := Op.store 25 (Operand.tmp 72) (Operand.tmp 71), type := 0, pos := "text.go:141", after := #[{ on := 14, ground := Ground.data }, { on := 13, ground := Ground.data }, { on := 13, ground := Ground.chain }, { on := 0, ground := Ground.phase }, { on := 1, ground := Ground.phase }, { on := 2, ground := Ground.phase }, { on := 3, ground := Ground.phase }, { on := 4, ground := Ground.phase }, { on := 5, ground := Ground.phase }, { on := 6, ground := Ground.phase }, { on := 7, ground := Ground.phase }, { on := 8, ground := Ground.phase }, { on := 9, ground := Ground.phase }, { on := 10, ground := Ground.phase }, { on := 11, ground := Ground.phase }, { on := 12, ground := Ground.phase }, { on := 13, ground := Ground.phase }], guard := none }) rfl (fun KZ hKZ => ?_) ?_
                    · skip
                      go_simp
                      refine hKZ.out _ _ ?_ (fun hHeld => ?_)
                      · exact three_set HT5.out HNq.out
                      clear hKZ KZ
                      try simp only [Act.put, List.setIfInBounds_toArray, List.set_cons_zero, List.set_cons_succ]
                      refine wpAnyH_done (by kernel_rfl) ?_ _
                      clear hq5 hf5 HT5 hHeld hd hda HO HSz HPu HXx HY HOne HT3 HTa HNe HNq hi2 hy0 hy1 hy2
                      go_wp2
                      go_roundw
                      case rel => exact ⟨k + 1, L2 ++ [(x0, x1, x2)], _, by go_num, by omega, by rw [Q1.out]; exact HR5.out, (fun _ => HOk2.out.symm), by rw [List.length_append]; exact Nat.succ_le_succ hLen⟩
                      case measure => simp [intOf]; omega
                    exact AllReadyH.nil
                  exact AllReadyH.nil
                exact AllReadyH.nil
              refine AllReadyH.cons (o := { dst := some 70, op := Op.buildSlice 25 1 #[(0, Operand.tmp 69)], type := 25, pos := "text.go:141", after := #[{ on := 11, ground := Ground.data }], guard := none }) rfl (fun KZ hKZ => ?_) ?_
              · skip
                go_simp
                refine hKZ.out _ _ ?_ (fun hHeld => ?_)
                · exact HTa.out _
                clear hKZ KZ
                try simp only [Act.put, List.setIfInBounds_toArray, List.set_cons_zero, List.set_cons_succ]
                refine wpAnyH_ready (rs := [1]) (by kernel_rfl) (by simp) ?_
                refine AllReadyH.cons (o := { dst := some 59, op := Op.load 25 (Operand.tmp 58), type := 25, pos := "text.go:141", after := #[{ on := 0, ground := Ground.data }], guard := none }) rfl (fun KZ hKZ => ?_) ?_
                · skip
                  go_simp
                  refine hKZ.out _ _ ?_ (fun hHeld => ?_)
                  · exact HTa.out _
                  clear hKZ KZ
                  try simp only [Act.put, List.setIfInBounds_toArray, List.set_cons_zero, List.set_cons_succ]
                  refine wpAnyH_ready (rs := [13]) (by kernel_rfl) (by simp) ?_
                  refine AllReadyH.cons (o := { dst := some 71, op := Op.call { callee := Callee.builtin Builtin.append, args := #[Operand.tmp 59, Operand.tmp 70], argTypes := #[25, 25] }, type := 25, pos := "text.go:141", after := #[{ on := 1, ground := Ground.data }, { on := 12, ground := Ground.data }], guard := none }) rfl (fun KZ hKZ => ?_) ?_
                  · skip
                    (refine step_append_wr (.tmp 59) (.tmp 70) 25 w.heap.size 73 i2 (.agg #[.int .i64 0, .int .i64 0, .int .i64 0]) 3 24 Tryz.underlying25 hi2 hy0 hy1 hy2 rfl (Nat.succ_pos 2) (.slice d2.a2 d2.n2 d2.c2) d2.n2 (cellsT L2) (some ⟨w4.heap.size, 0, none⟩) 1 1 [.int .i64 x0, .int .i64 x1, .int .i64 x2] rfl (fun e => by cases e) HOne.out HXx.out HY.out (by simp [Act.eval]) (by simp [Act.eval]) (HO.out _) ((rowC_three (t := 73) (w := w4) rfl rfl).below (Drew.below ⟨1, rfl⟩)) (HSz.out _) ?_; intro v5 w5 ho hg'; obtain ⟨A5, K5, rfl⟩ := own_is ho; obtain ⟨hr5, hbx⟩ := HPu.out _ w5 A5 K5 hg' ho; have HR5 := hide hr5; have hq5 := hbx.cells.2.2.1; have hf5 := box_frozen hbx 2; have HT5 := hide (three_grown (HTa.out _) hg' HNe.out); clear ho hg' hbx hr5)
                    refine hKZ.out _ _ ?_ (fun hHeld => ?_)
                    · exact HT5.out
                    clear hKZ KZ
                    try simp only [Act.put, List.setIfInBounds_toArray, List.set_cons_zero, List.set_cons_succ]
                    refine wpAnyH_take (i := 14) (oi := { dst := some 72, op := Op.fieldAddr 29 (Operand.tmp 6) 2, type := 0, pos := "text.go:141", after := #[{ on := 0, ground := Ground.phase }, { on := 1, ground := Ground.phase }, { on := 2, ground := Ground.phase }, { on := 3, ground := Ground.phase }, { on := 4, ground := Ground.phase }, { on := 5, ground := Ground.phase }, { on := 6, ground := Ground.phase }, { on := 7, ground := Ground.phase }, { on := 8, ground := Ground.phase }, { on := 9, ground := Ground.phase }, { on := 10, ground := Ground.phase }, { on := 11, ground := Ground.phase }, { on := 12, ground := Ground.phase }, { on := 13, ground := Ground.phase }], guard := none }) (v := ?_) rfl (by kernel_rfl) (by kernel_rfl) (by kernel_rfl) (fun _ _ _ h => h) (Or.inl ⟨by rfl, ?_⟩) (by assumption) ?_
                    rotate_left
                    · (intro w0 hSw; (try dsimp only at hSw); go_simp; try with_reducible rfl)
                    try simp only [Act.put, List.setIfInBounds_toArray, List.set_cons_zero, List.set_cons_succ]
                    refine wpAnyH_ready (rs := [15]) (by kernel_rfl) (by simp) ?_
                    refine AllReadyH.cons (o := { dst := none, op := Op.store 25 (Operand.tmp 72) (Operand.tmp 71), type := 0, pos := "text.go:141", after := #[{ on := 14, ground := Ground.data }, { on := 13, ground := Ground.data }, { on := 13, ground := Ground.chain }, { on := 0, ground := Ground.phase }, { on := 1, ground := Ground.phase }, { on := 2, ground := Ground.phase }, { on := 3, ground := Ground.phase }, { on := 4, ground := Ground.phase }, { on := 5, ground := Ground.phase }, { on := 6, ground := Ground.phase }, { on := 7, ground := Ground.phase }, { on := 8, ground := Ground.phase }, { on := 9, ground := Ground.phase }, { on := 10, ground := Ground.phase }, { on := 11, ground := Ground.phase }, { on := 12, ground := Ground.phase }, { on := 13, ground := Ground.phase }], guard := none }) rfl (fun KZ hKZ => ?_) ?_
                    · skip
                      go_simp
                      refine hKZ.out _ _ ?_ (fun hHeld => ?_)
                      · exact three_set HT5.out HNq.out
                      clear hKZ KZ
                      try simp only [Act.put, List.setIfInBounds_toArray, List.set_cons_zero, List.set_cons_succ]
                      refine wpAnyH_done (by kernel_rfl) ?_ _
                      clear hq5 hf5 HT5 hHeld hd hda HO HSz HPu HXx HY HOne HT3 HTa HNe HNq hi2 hy0 hy1 hy2
                      go_wp2
                      go_roundw
                      case rel => exact ⟨k + 1, L2 ++ [(x0, x1, x2)], _, by go_num, by omega, by rw [Q1.out]; exact HR5.out, (fun _ => HOk2.out.symm), by rw [List.length_append]; exact Nat.succ_le_succ hLen⟩
                      case measure => simp [intOf]; omega
                    exact AllReadyH.nil
                  exact AllReadyH.nil
                exact AllReadyH.nil
              exact AllReadyH.nil
          · have HE : Hid (∀ q, ∃ (L2 : List Tri) (d2 : CV), Hid (RX w a n c xs hg hcap H lc ⟨(N0 : Int), L, L2, [], [], [], [], []⟩ d2 (P2 N2).2 (wr.drewN q)) ∧ Hid (OkL (P2 N2).2 L2 (P2 N2).1) ∧ Hid (L2.length ≤ N2)) := fun q => by
              have h1 : RX w a n c xs hg hcap H lc ⟨(N0 : Int), L, L2, [], [], [], [], []⟩ d2 (P2 k).2 (wr.drewN q) := HX.out.then (Drew.below ⟨q, rfl⟩)
              by_cases hkn : k = N2
              · subst hkn
                exact ⟨L2, d2, h1, HOk, HLl⟩
              · have hn : (P2 k).2 = none := by
                  cases e : (P2 k).2 with
                  | none => rfl
                  | some j => exact absurd ⟨by omega, by rw [e]; rfl⟩ hex
                have hm := HPn.out k hn N2 hk
                rw [hm]
                rw [hn] at h1
                exact ⟨L2, d2, h1, (fun e => by cases e), Nat.le_trans HLl.out hk⟩
            by_cases hkn : k = N2
            · subst hkn
              clear c0 c1 c2 c3 hkk
              go_wp2
              (repeat apply Exists.intro)
              refine ⟨HE.out 0, rfl⟩
            · have hn : (P2 k).2 = none := by
                cases e : (P2 k).2 with
                | none => rfl
                | some j => exact absurd ⟨by omega, by rw [e]; rfl⟩ hex
              rw [hn, show errR none = 2 from rfl] at c3
              have hlt : (k : Int) < (N2 : Int) := by omega
              clear c0 c1 c2 hkk
              go_wp2
              (repeat apply Exists.intro)
              refine ⟨HE.out 0, rfl⟩
      case rest =>
        obtain ⟨L2, d2, HX2, HOk2, HLl2⟩ := hcut
        have e3 : itemsS (fun i => litS xs (rTop H) (2 * (0 + (i : Int)))) (P2 N2).2 N3 = rOuts gramA xs H (some j0) := by unfold rOuts; rw [HPe.out, hN3]; rfl
        have HO3 := hide (HOn.out (P2 N2).2 N3 (by omega) _ HX2.out.rr.rd)
        rw [e3] at HO3
        have g3 := HX2.out.rr.hd HFi.out.len 3 (by decide)
        rw [hN3] at g3
        have e4 : itemsS (fun i => litS xs (rTop H) (2 * (0 + (i : Int)))) (rOuts gramA xs H (some j0)).2 N5 = rBads gramA xs H (some j0) := by unfold rBads; rw [hN5]; rfl
        have HO4 := hide (HOn.out (rOuts gramA xs H (some j0)).2 N5 (by omega))
        rw [e4] at HO4
        have e5 : itemsS (fun i => litS xs (rTop H) (2 * (0 + (i : Int)))) (rBads gramA xs H (some j0)).2 N6 = rCons gramA xs H (some j0) := by unfold rCons; rw [hN6]; rfl
        have HO5 := hide (HOn.out (rBads gramA xs H (some j0)).2 N6 (by omega))
        rw [e5] at HO5
        clear e3 e4 e5 HOn HO1 BX BL RD HO9 g0 g1 c3 HPn HPs HP0 HS1
        go_wp2_with fail
        refine HO3.out.mono ?_
        rintro e w3 ⟨v3, Lo, rfl, ho3, hl3, hok3, hw3⟩
        obtain ⟨A3, K3, rfl⟩ := own_is ho3
        have HX3 := hide (HX2.out.went hw3)
        have HY3 := hide (HX3.out.set3 HX2.out.rr.below.size ho3)
        have HOk3 := hide hok3
        have HLo := hide hl3
        have y3 := HX3.out.rr.box.cells.2.2.2.1
        have f3 := box_frozen HX3.out.rr.box 3
        clear hok3 hl3 ho3 hw3 HX2 g3 HO3
        go_upto_region 13 with fail
        generalize w3.setCell ⟨lc, 3, none⟩ (.slice A3 Lo.length K3) = W3 at *
        clear y3 f3 HX3
        have HO4' := hide (HO4.out _ HY3.out.rr.rd)
        have g5 := HY3.out.rr.hd HFi.out.len 5 (by decide)
        rw [hN5] at g5
        clear HO4
        go_wp2_with fail
        refine HO4'.out.mono ?_
        rintro e w4 ⟨v4, Lb, rfl, ho4, hl4, hok4, hw4⟩
        obtain ⟨A4, K4, rfl⟩ := own_is ho4
        have HX4 := hide (HY3.out.went hw4)
        have HY4 := hide (HX4.out.set4 HY3.out.rr.below.size ho4)
        have HOk4 := hide hok4
        have HLb := hide hl4
        have y4 := HX4.out.rr.box.cells.2.2.2.2.1
        have f4 := box_frozen HX4.out.rr.box 4
        clear hok4 hl4 ho4 hw4 HY3 g5 HO4'
        go_upto_region 14 with fail
        generalize w4.setCell ⟨lc, 4, none⟩ (.slice A4 Lb.length K4) = W4 at *
        clear y4 f4 HX4
        go_cut [85] from 35 to 134 (fun _ wx => ∃ (Lc : List Int) (d5 : CV), Hid (RX w a n c xs hg hcap H lc ⟨(N0 : Int), L, L2, Lo, Lb, Lc, [], []⟩ d5 (rCons gramA xs H (some j0)).2 wx) ∧ Hid (OkL (rCons gramA xs H (some j0)).2 Lc (rCons gramA xs H (some j0)).1) ∧ Hid (Lc.length ≤ N6))
        case first =>
          rename_i J K2 hJ hK
          have hMK : ∀ a w, J a w → K2 a w := fun a w h => hK a w (Met.intro h)
          clear hK
          go_light
          have HO5' := hide (HO5.out _ HY4.out.rr.rd)
          have g6 := HY4.out.rr.hd HFi.out.len 6 (by decide)
          rw [hN6] at g6
          clear HO5
          go_wp2_with fail
          refine HO5'.out.mono ?_
          rintro e w5 ⟨v5, Lc, rfl, ho5, hl5, hok5, hw5⟩
          obtain ⟨A5, K5, rfl⟩ := own_is ho5
          have HX5 := hide (HY4.out.went hw5)
          have HY5 := hide (HX5.out.set5 HY4.out.rr.below.size ho5)
          have HOk5 := hide hok5
          have HLc := hide hl5
          have y5 := HX5.out.rr.box.cells.2.2.2.2.2.1
          have f5 := box_frozen HX5.out.rr.box 5
          clear hok5 hl5 ho5 hw5 HY4 g6 HO5'
          go_wp2_with fail
          (repeat apply Exists.intro)
          exact ⟨⟨Lc, _, HY5, HOk5, HLc⟩, rfl⟩
        case rest =>
          obtain ⟨Lc, d5, HX5, HOk5, HLc⟩ := hcut
          rename_i KR hKR
          refine hKR _ _ ?_
          refine wp_seq_k (fun KS hKS => ?_)
          obtain ⟨P6, hP6⟩ : ∃ P6 : Nat → List Tri × Option Nat, P6 = fun k => itemsS (fun i => andS xs (rTop H) (2 * (1 + H.getD 1 0 + H.getD 2 0 + (i : Int)))) (rCons gramA xs H (some j0)).2 k := ⟨_, rfl⟩
          have HQ0 : Hid (P6 0 = ([], (rCons gramA xs H (some j0)).2)) := by rw [hP6]; exact rfl
          have HQn : Hid (∀ k, (P6 k).2 = none → ∀ m, k ≤ m → (P6 m).2 = none) := fun k hk m hm => by rw [hP6] at hk ⊢; exact itemsS_stuck (fun n => andS_none xs (rTop H) _) hk m hm
          have HQs : Hid (∀ k j, (P6 k).2 = some j → (P6 (k + 1)).2 = (rowS xs (rTop H) 3 3 (some j)).2 ∧ ((rowS xs (rTop H) 3 3 (some j)).2.isSome = true → (rowL xs (rTop H) 3 3 (some j)).length = 3 ∧ (P6 (k + 1)).1 = (P6 k).1 ++ [((rowL xs (rTop H) 3 3 (some j)).getD 0 0, (rowL xs (rTop H) 3 3 (some j)).getD 1 0, (rowL xs (rTop H) 3 3 (some j)).getD 2 0)])) := fun k j hk => by
            obtain ⟨q1, q2⟩ := andS_row xs (rTop H) (2 * (1 + H.getD 1 0 + H.getD 2 0 + (k : Int))) j
            rw [hP6] at hk ⊢
            dsimp only at hk ⊢
            refine ⟨by rw [itemsS, hk]; exact q1, fun hs => ⟨(q2 hs).1, by rw [itemsS, hk, (q2 hs).2]⟩⟩
          have HQe : Hid (rAnds gramA xs H (some j0) = P6 N4) := by rw [hP6]; unfold rAnds; rw [hN4]; exact rfl
          have HS6 := hide (congrArg Prod.snd HQ0.out)
          dsimp only at HS6
          clear hP6
          go_cut [9, 10] from 91 to 134 (fun i r wx => ∃ (L6 : List Tri) (d6 : CV), Hid (RX w a n c xs hg hcap H lc ⟨(N0 : Int), L, L2, Lo, Lb, Lc, L6, []⟩ d6 (P6 N4).2 wx) ∧ Hid (OkL (P6 N4).2 L6 (P6 N4).1) ∧ Hid (L6.length ≤ N4))
          case first =>
            rename_i J K2 hJ hK
            have hMK : ∀ a w, J a w → K2 a w := fun a w h => hK a w (Met.intro h)
            clear hK
            go_light
            clear HRE HRd HSm HE0 HTx
            go_wp2
            go_loopw [9, 10] (fun i _ wr => ∃ (k : Nat) (L6 : List Tri) (d6 : CV), i = .int .i64 k ∧ k ≤ N4 ∧ Hid (RX w a n c xs hg hcap H lc ⟨(N0 : Int), L, L2, Lo, Lb, Lc, L6, []⟩ d6 (P6 k).2 wr) ∧ Hid (OkL (P6 k).2 L6 (P6 k).1) ∧ Hid (L6.length ≤ k)) (fun i _ _ => N4 - (intOf i).toNat)
            case atStart =>
              refine ⟨0, [], d5, rfl, Nat.zero_le _, ?_, ?_, Nat.le_refl _⟩
              · rw [HS6.out]; exact HX5
              · intro _; rw [HQ0.out]
            case round =>
              obtain ⟨k, L6, d6, rfl, hk, HX, HOk, HLl⟩ := hrel
              have g2 := HX.out.rr.hd HFi.out.len 4 (by decide)
              rw [hN4] at g2
              obtain ⟨kk, hkk, c0, c1, c2, c3⟩ := HX.out.rr.rd.cells
              by_cases hex : k < N4 ∧ (P6 k).2.isSome = true
              · obtain ⟨hlt, hso⟩ := hex
                obtain ⟨j, hj⟩ := Option.isSome_iff_exists.1 hso
                rw [hj] at HX c3
                rw [show errR (some j) = 0 from rfl] at c3
                have HRow := hide (refRow_any (w.heap.size + 1) a n c xs (rTop H) (some j) 3 3 wr HX.out.rr.rd (by decide) (by decide) hT0 hT1)
                obtain ⟨q1, q2⟩ := HQs.out k j hj
                have Q1 := hide q1
                have Q2 := hide q2
                have hkI : (k : Int) < (N4 : Int) := by omega
                have hR3 := rowL_le xs (rTop H) 3 3 (some j)
                clear c0 c1 c2 hkk hso q1 q2 HQs HQ0 HQn
                obtain ⟨i0, hi, hz0, hz1, hz2⟩ := info_parts infoInt
                go_wp2_with fail
                refine HRow.out.mono ?_
                rintro e w3 ⟨v3, rfl, ho3, hw3⟩
                unfold OwnI at ho3
                generalize rowL xs (rTop H) 3 3 (some j) = R at *
                generalize (rowS xs (rTop H) 3 3 (some j)).2 = sj at *
                clear HRow g2 c3
                cases sj with
                | none =>
                  have HX4 := hide (HX.out.went hw3)
                  obtain ⟨k4, hk4, c0, c1, c2, c3⟩ := HX4.out.rr.rd.cells
                  clear hk4 c0 c1 c2
                  rw [show errR none = 2 from rfl] at c3
                  go_wp2
                  go_roundw
                  case rel => exact ⟨k + 1, L6, d6, by go_num, by omega, by rw [Q1.out]; exact HX4, (fun e => by rw [Q1.out] at e; cases e), Nat.le_succ_of_le HLl.out⟩
                  case measure => simp [intOf]; omega
                | some j1 =>
                  have HX4 := hide (HX.out.went hw3)
                  obtain ⟨k4, hk4, c0, c1, c2, c3⟩ := HX4.out.rr.rd.cells
                  clear hk4 c0 c1 c2
                  rw [show errR (some j1) = 0 from rfl] at c3
                  go_wp2
                  clear hw3
                  have hqs := Q2.out rfl
                  have hown5 : OwnI wr.heap.size w3 v3 R := by unfold OwnI; exact ho3
                  have hlen5 : R.length = 3 := hqs.1
                  obtain ⟨lg, cap4, rfl, hcl4, hge4⟩ := ownI_at hown5 hlen5 (by decide)
                  have x0c := hcl4 0 (by omega)
                  have x1c := hcl4 1 (by omega)
                  have x2c := hcl4 2 (by omega)
                  have hLen : L6.length ≤ k := HLl.out
                  have hn2 : d6.n6 = L6.length := by
                    have h1 : L6.length * 3 = d6.n6 * 3 := by have := HX4.out.rr.o6.1; rw [cellsT_len] at this; exact this
                    omega
                  have HOk2 : Hid ((P6 (k + 1)).1 = L6 ++ [(R.getD 0 0, R.getD 1 0, R.getD 2 0)]) := by
                    show _ = _
                    rw [hqs.2, ← HOk.out (by rw [hj]; rfl)]
                  have hlr := hqs.1
                  generalize R.getD 0 0 = x0 at *
                  generalize R.getD 1 0 = x1 at *
                  generalize R.getD 2 0 = x2 at *
                  have HNq : Hid (lc ≠ lg) := fun e => own_ne_box ho3 HX4.out.rr.box (by decide) (by rw [e]; rfl)
                  have HNe : Hid (some lg ≠ (Value.slice d6.a6 d6.n6 d6.c6).ownBlock) := by
                    rcases own_ne_own ho3 HX4.out.rr.o6 (by decide) with h0 | h0
                    · cases h0
                    · exact h0
                  have HT3 := hide (And.intro x0c (And.intro x1c x2c))
                  have HTa : Hid (∀ o, (w3.alloc o).drew.cell? ⟨lg, 0, none⟩ = some (.int .i64 x0) ∧ (w3.alloc o).drew.cell? ⟨lg, 1, none⟩ = some (.int .i64 x1) ∧ (w3.alloc o).drew.cell? ⟨lg, 2, none⟩ = some (.int .i64 x2)) := fun o => three_belowQ HT3.out (belowThen (below_alloc w3 o) (Drew.below ⟨1, rfl⟩))
                  obtain ⟨i2, hi2, hy0, hy1, hy2⟩ := info_parts infoAndR
                  have hd : w3.drew.cell? ⟨lc, 6, none⟩ = some (.slice d6.a6 d6.n6 d6.c6) := HX4.out.rr.box.cells.2.2.2.2.2.2.1
                  have hda : ∀ o, (w3.alloc o).drew.cell? ⟨lc, 6, none⟩ = some (.slice d6.a6 d6.n6 d6.c6) := fun o => ((HX4.out.then (below_alloc w3 o)).rr.box.cells).2.2.2.2.2.2.1
                  have HO : Hid (∀ o, (w3.alloc o).drew.ownsRow w.heap.size 53 3 (.slice d6.a6 d6.n6 d6.c6) d6.n6 (cellsT L6)) := fun o => (HX4.out.then (below_alloc w3 o)).rr.o6
                  have HSz : Hid (∀ o, w.heap.size ≤ (w3.alloc o).drew.heap.size) := fun o => (HX4.out.then (below_alloc w3 o)).rr.below.size
                  have HQu : Hid (∀ o w5 A5 K5, (w3.drew.alloc o).grownBy w5 (Value.slice d6.a6 d6.n6 d6.c6).ownBlock → w5.ownsRow w.heap.size 53 3 (.slice A5 (d6.n6 + 1) K5) (d6.n6 + 1) (cellsT L6 ++ [.int .i64 x0, .int .i64 x1, .int .i64 x2]) → RX w a n c xs hg hcap H lc ⟨(N0 : Int), L, L2, Lo, Lb, Lc, L6 ++ [(x0, x1, x2)], []⟩ { d6 with a6 := A5, n6 := d6.n6 + 1, c6 := K5 } (some j1) (w5.setCell ⟨lc, 6, none⟩ (.slice A5 (d6.n6 + 1) K5)) ∧ Box w5 lc d6) := fun o w5 A5 K5 hg' ho =>
                    RX.and (W := w3.drew) (HX4.out.then (Drew.below ⟨1, rfl⟩)) (o := o) hg' (by rw [cellsT_append]; exact ho)
                  have HXx : Hid (d6.n6 + 1 ≤ maxLen) := by show d6.n6 + 1 ≤ maxLen; unfold maxLen; omega
                  have HY : Hid ((d6.n6 + 1) * 24 ≤ 140737488355328) := by show (d6.n6 + 1) * 24 ≤ 140737488355328; omega
                  have HOne : Hid (∀ u ∈ [Value.int .i64 x0, .int .i64 x1, .int .i64 x2], u.oneCell' = true) := fun u hu => by simp at hu; rcases hu with rfl | rfl | rfl <;> rfl
                  clear ho3 hown5 hcl4 hge4 hqs HOk HX4 x0c x1c x2c c3 hi hz0 hz1 hz2 hn2 hlen5 hj Q2
                  refine wp_region_held_drew (S := fun w' => w'.cell? ⟨lg, 0, none⟩ = some (.int .i64 x0) ∧ w'.cell? ⟨lg, 1, none⟩ = some (.int .i64 x1) ∧ w'.cell? ⟨lg, 2, none⟩ = some (.int .i64 x2)) (by kernel_rfl) HT3.out (fun hHeld => ?_)
                  refine wpAnyH_take (i := 0) (oi := { dst := some 112, op := Op.fieldAddr 29 (Operand.tmp 6) 6, type := 0, pos := "text.go:150", after := #[], guard := none }) (v := ?_) rfl (by kernel_rfl) (by kernel_rfl) (by kernel_rfl) (fun _ _ _ h => h) (Or.inl ⟨by rfl, ?_⟩) (by assumption) ?_
                  rotate_left
                  · (intro w0 hSw; (try dsimp only at hSw); go_simp; try with_reducible rfl)
                  try simp only [Act.put, List.setIfInBounds_toArray, List.set_cons_zero, List.set_cons_succ]
                  refine wpAnyH_take (i := 2) (oi := { dst := some 114, op := Op.move (Operand.tmp 10), type := 24, pos := "text.go:150", after := #[], guard := none }) (v := ?_) rfl (by kernel_rfl) (by kernel_rfl) (by kernel_rfl) (fun _ _ _ h => h) (Or.inl ⟨by rfl, ?_⟩) (by assumption) ?_
                  rotate_left
                  · (intro w0 hSw; (try dsimp only at hSw); go_simp; try with_reducible rfl)
                  try simp only [Act.put, List.setIfInBounds_toArray, List.set_cons_zero, List.set_cons_succ]
                  refine wpAnyH_take (i := 3) (oi := { dst := some 115, op := Op.indexAddr 24 (Operand.tmp 114) (Operand.const (Value.int IntKind.i64 0)), type := 0, pos := "text.go:150", after := #[{ on := 2, ground := Ground.data }], guard := none }) (v := ?_) rfl (by kernel_rfl) (by kernel_rfl) (by kernel_rfl) (fun _ _ _ h => h) (Or.inl ⟨by rfl, ?_⟩) (by assumption) ?_
                  rotate_left
                  · (intro w0 hSw; (try dsimp only at hSw); go_simp; try with_reducible rfl)
                  try simp only [Act.put, List.setIfInBounds_toArray, List.set_cons_zero, List.set_cons_succ]
                  refine wpAnyH_take (i := 4) (oi := { dst := some 116, op := Op.load 3 (Operand.tmp 115), type := 3, pos := "text.go:150", after := #[{ on := 3, ground := Ground.data }], guard := none }) (v := ?_) rfl (by kernel_rfl) (by kernel_rfl) (by kernel_rfl) (fun _ _ _ h => h) (Or.inl ⟨by rfl, ?_⟩) (by assumption) ?_
                  rotate_left
                  · (intro w0 hSw; (try dsimp only at hSw); go_simp; try with_reducible rfl)
                  try simp only [Act.put, List.setIfInBounds_toArray, List.set_cons_zero, List.set_cons_succ]
                  refine wpAnyH_take (i := 5) (oi := { dst := some 117, op := Op.move (Operand.tmp 10), type := 24, pos := "text.go:150", after := #[], guard := none }) (v := ?_) rfl (by kernel_rfl) (by kernel_rfl) (by kernel_rfl) (fun _ _ _ h => h) (Or.inl ⟨by rfl, ?_⟩) (by assumption) ?_
                  rotate_left
                  · (intro w0 hSw; (try dsimp only at hSw); go_simp; try with_reducible rfl)
                  try simp only [Act.put, List.setIfInBounds_toArray, List.set_cons_zero, List.set_cons_succ]
                  refine wpAnyH_take (i := 6) (oi := { dst := some 118, op := Op.indexAddr 24 (Operand.tmp 117) (Operand.const (Value.int IntKind.i64 1)), type := 0, pos := "text.go:150", after := #[{ on := 5, ground := Ground.data }], guard := none }) (v := ?_) rfl (by kernel_rfl) (by kernel_rfl) (by kernel_rfl) (fun _ _ _ h => h) (Or.inl ⟨by rfl, ?_⟩) (by assumption) ?_
                  rotate_left
                  · (intro w0 hSw; (try dsimp only at hSw); go_simp; try with_reducible rfl)
                  try simp only [Act.put, List.setIfInBounds_toArray, List.set_cons_zero, List.set_cons_succ]
                  refine wpAnyH_take (i := 7) (oi := { dst := some 119, op := Op.load 3 (Operand.tmp 118), type := 3, pos := "text.go:150", after := #[{ on := 6, ground := Ground.data }], guard := none }) (v := ?_) rfl (by kernel_rfl) (by kernel_rfl) (by kernel_rfl) (fun _ _ _ h => h) (Or.inl ⟨by rfl, ?_⟩) (by assumption) ?_
                  rotate_left
                  · (intro w0 hSw; (try dsimp only at hSw); go_simp; try with_reducible rfl)
                  try simp only [Act.put, List.setIfInBounds_toArray, List.set_cons_zero, List.set_cons_succ]
                  refine wpAnyH_take (i := 8) (oi := { dst := some 120, op := Op.move (Operand.tmp 10), type := 24, pos := "text.go:150", after := #[], guard := none }) (v := ?_) rfl (by kernel_rfl) (by kernel_rfl) (by kernel_rfl) (fun _ _ _ h => h) (Or.inl ⟨by rfl, ?_⟩) (by assumption) ?_
                  rotate_left
                  · (intro w0 hSw; (try dsimp only at hSw); go_simp; try with_reducible rfl)
                  try simp only [Act.put, List.setIfInBounds_toArray, List.set_cons_zero, List.set_cons_succ]
                  refine wpAnyH_take (i := 9) (oi := { dst := some 121, op := Op.indexAddr 24 (Operand.tmp 120) (Operand.const (Value.int IntKind.i64 2)), type := 0, pos := "text.go:150", after := #[{ on := 8, ground := Ground.data }], guard := none }) (v := ?_) rfl (by kernel_rfl) (by kernel_rfl) (by kernel_rfl) (fun _ _ _ h => h) (Or.inl ⟨by rfl, ?_⟩) (by assumption) ?_
                  rotate_left
                  · (intro w0 hSw; (try dsimp only at hSw); go_simp; try with_reducible rfl)
                  try simp only [Act.put, List.setIfInBounds_toArray, List.set_cons_zero, List.set_cons_succ]
                  refine wpAnyH_take (i := 10) (oi := { dst := some 122, op := Op.load 3 (Operand.tmp 121), type := 3, pos := "text.go:150", after := #[{ on := 9, ground := Ground.data }], guard := none }) (v := ?_) rfl (by kernel_rfl) (by kernel_rfl) (by kernel_rfl) (fun _ _ _ h => h) (Or.inl ⟨by rfl, ?_⟩) (by assumption) ?_
                  rotate_left
                  · (intro w0 hSw; (try dsimp only at hSw); go_simp; try with_reducible rfl)
                  try simp only [Act.put, List.setIfInBounds_toArray, List.set_cons_zero, List.set_cons_succ]
                  refine wpAnyH_take (i := 11) (oi := { dst := some 123, op := Op.build 53 #[(0, Operand.tmp 116), (1, Operand.tmp 119), (2, Operand.tmp 122)], type := 53, pos := "text.go:150", after := #[{ on := 4, ground := Ground.data }, { on := 7, ground := Ground.data }, { on := 10, ground := Ground.data }], guard := none }) (v := ?_) rfl (by kernel_rfl) (by kernel_rfl) (by kernel_rfl) (fun _ _ _ h => h) (Or.inl ⟨by rfl, ?_⟩) (by assumption) ?_
                  rotate_left
                  · (intro w0 hSw; (try dsimp only at hSw); go_simp; try with_reducible rfl)
                  try simp only [Act.put, List.setIfInBounds_toArray, List.set_cons_zero, List.set_cons_succ]
                  refine wpAnyH_ready (rs := [1, 12]) (by kernel_rfl) (by simp) ?_
                  refine AllReadyH.cons (o := { dst := some 113, op := Op.load 26 (Operand.tmp 112), type := 26, pos := "text.go:150", after := #[{ on := 0, ground := Ground.data }], guard := none }) rfl (fun KZ hKZ => ?_) ?_
                  · skip
                    go_simp
                    refine hKZ.out _ _ ?_ (fun hHeld => ?_)
                    · exact HT3.out
                    clear hKZ KZ
                    try simp only [Act.put, List.setIfInBounds_toArray, List.set_cons_zero, List.set_cons_succ]
                    refine wpAnyH_ready (rs := [12]) (by kernel_rfl) (by simp) ?_
                    refine AllReadyH.cons (o := { dst := some 124, op := Op.buildSlice 26 1 #[(0, Operand.tmp 123)], type := 26, pos := "text.go:150", after := #[{ on := 11, ground := Ground.data }], guard := none }) rfl (fun KZ hKZ => ?_) ?_
                    · skip
                      go_simp
                      refine hKZ.out _ _ ?_ (fun hHeld => ?_)
                      · exact HTa.out _
                      clear hKZ KZ
                      try simp only [Act.put, List.setIfInBounds_toArray, List.set_cons_zero, List.set_cons_succ]
                      refine wpAnyH_ready (rs := [13]) (by kernel_rfl) (by simp) ?_
                      refine AllReadyH.cons (o := { dst := some 125, op := Op.call { callee := Callee.builtin Builtin.append, args := #[Operand.tmp 113, Operand.tmp 124], argTypes := #[26, 26] }, type := 26, pos := "text.go:150", after := #[{ on := 1, ground := Ground.data }, { on := 12, ground := Ground.data }], guard := none }) rfl (fun KZ hKZ => ?_) ?_
                      · skip
                        (refine step_append_wr (.tmp 113) (.tmp 124) 26 w.heap.size 53 i2 (.agg #[.int .i64 0, .int .i64 0, .int .i64 0]) 3 24 Tryz.underlying26 hi2 hy0 hy1 hy2 rfl (Nat.succ_pos 2) (.slice d6.a6 d6.n6 d6.c6) d6.n6 (cellsT L6) (some ⟨w3.heap.size, 0, none⟩) 1 1 [.int .i64 x0, .int .i64 x1, .int .i64 x2] rfl (fun e => by cases e) HOne.out HXx.out HY.out (by simp [Act.eval]) (by simp [Act.eval]) (HO.out _) ((rowC_three (t := 53) (w := w3) rfl rfl).below (Drew.below ⟨1, rfl⟩)) (HSz.out _) ?_; intro v5 w5 ho hg'; obtain ⟨A5, K5, rfl⟩ := own_is ho; obtain ⟨hr5, hbx⟩ := HQu.out _ w5 A5 K5 hg' ho; have HR5 := hide hr5; have hq5 := hbx.cells.2.2.2.2.2.2.1; have hf5 := box_frozen hbx 6; have HT5 := hide (three_grown (HTa.out _) hg' HNe.out); clear ho hg' hbx hr5)
                        refine hKZ.out _ _ ?_ (fun hHeld => ?_)
                        · exact HT5.out
                        clear hKZ KZ
                        try simp only [Act.put, List.setIfInBounds_toArray, List.set_cons_zero, List.set_cons_succ]
                        refine wpAnyH_take (i := 14) (oi := { dst := some 126, op := Op.fieldAddr 29 (Operand.tmp 6) 6, type := 0, pos := "text.go:150", after := #[{ on := 0, ground := Ground.phase }, { on := 1, ground := Ground.phase }, { on := 2, ground := Ground.phase }, { on := 3, ground := Ground.phase }, { on := 4, ground := Ground.phase }, { on := 5, ground := Ground.phase }, { on := 6, ground := Ground.phase }, { on := 7, ground := Ground.phase }, { on := 8, ground := Ground.phase }, { on := 9, ground := Ground.phase }, { on := 10, ground := Ground.phase }, { on := 11, ground := Ground.phase }, { on := 12, ground := Ground.phase }, { on := 13, ground := Ground.phase }], guard := none }) (v := ?_) rfl (by kernel_rfl) (by kernel_rfl) (by kernel_rfl) (fun _ _ _ h => h) (Or.inl ⟨by rfl, ?_⟩) (by assumption) ?_
                        rotate_left
                        · (intro w0 hSw; (try dsimp only at hSw); go_simp; try with_reducible rfl)
                        try simp only [Act.put, List.setIfInBounds_toArray, List.set_cons_zero, List.set_cons_succ]
                        refine wpAnyH_ready (rs := [15]) (by kernel_rfl) (by simp) ?_
                        refine AllReadyH.cons (o := { dst := none, op := Op.store 26 (Operand.tmp 126) (Operand.tmp 125), type := 0, pos := "text.go:150", after := #[{ on := 14, ground := Ground.data }, { on := 13, ground := Ground.data }, { on := 13, ground := Ground.chain }, { on := 0, ground := Ground.phase }, { on := 1, ground := Ground.phase }, { on := 2, ground := Ground.phase }, { on := 3, ground := Ground.phase }, { on := 4, ground := Ground.phase }, { on := 5, ground := Ground.phase }, { on := 6, ground := Ground.phase }, { on := 7, ground := Ground.phase }, { on := 8, ground := Ground.phase }, { on := 9, ground := Ground.phase }, { on := 10, ground := Ground.phase }, { on := 11, ground := Ground.phase }, { on := 12, ground := Ground.phase }, { on := 13, ground := Ground.phase }], guard := none }) rfl (fun KZ hKZ => ?_) ?_
                        · skip
                          go_simp
                          refine hKZ.out _ _ ?_ (fun hHeld => ?_)
                          · exact three_set HT5.out HNq.out
                          clear hKZ KZ
                          try simp only [Act.put, List.setIfInBounds_toArray, List.set_cons_zero, List.set_cons_succ]
                          refine wpAnyH_done (by kernel_rfl) ?_ _
                          clear hq5 hf5 HT5 hHeld hd hda HO HSz HQu HXx HY HOne HT3 HTa HNe HNq hi2 hy0 hy1 hy2
                          go_wp2
                          go_roundw
                          case rel => exact ⟨k + 1, L6 ++ [(x0, x1, x2)], _, by go_num, by omega, by rw [Q1.out]; exact HR5.out, (fun _ => HOk2.out.symm), by rw [List.length_append]; exact Nat.succ_le_succ hLen⟩
                          case measure => simp [intOf]; omega
                        exact AllReadyH.nil
                      exact AllReadyH.nil
                    exact AllReadyH.nil
                  refine AllReadyH.cons (o := { dst := some 124, op := Op.buildSlice 26 1 #[(0, Operand.tmp 123)], type := 26, pos := "text.go:150", after := #[{ on := 11, ground := Ground.data }], guard := none }) rfl (fun KZ hKZ => ?_) ?_
                  · skip
                    go_simp
                    refine hKZ.out _ _ ?_ (fun hHeld => ?_)
                    · exact HTa.out _
                    clear hKZ KZ
                    try simp only [Act.put, List.setIfInBounds_toArray, List.set_cons_zero, List.set_cons_succ]
                    refine wpAnyH_ready (rs := [1]) (by kernel_rfl) (by simp) ?_
                    refine AllReadyH.cons (o := { dst := some 113, op := Op.load 26 (Operand.tmp 112), type := 26, pos := "text.go:150", after := #[{ on := 0, ground := Ground.data }], guard := none }) rfl (fun KZ hKZ => ?_) ?_
                    · skip
                      go_simp
                      refine hKZ.out _ _ ?_ (fun hHeld => ?_)
                      · exact HTa.out _
                      clear hKZ KZ
                      try simp only [Act.put, List.setIfInBounds_toArray, List.set_cons_zero, List.set_cons_succ]
                      refine wpAnyH_ready (rs := [13]) (by kernel_rfl) (by simp) ?_
                      refine AllReadyH.cons (o := { dst := some 125, op := Op.call { callee := Callee.builtin Builtin.append, args := #[Operand.tmp 113, Operand.tmp 124], argTypes := #[26, 26] }, type := 26, pos := "text.go:150", after := #[{ on := 1, ground := Ground.data }, { on := 12, ground := Ground.data }], guard := none }) rfl (fun KZ hKZ => ?_) ?_
                      · skip
                        (refine step_append_wr (.tmp 113) (.tmp 124) 26 w.heap.size 53 i2 (.agg #[.int .i64 0, .int .i64 0, .int .i64 0]) 3 24 Tryz.underlying26 hi2 hy0 hy1 hy2 rfl (Nat.succ_pos 2) (.slice d6.a6 d6.n6 d6.c6) d6.n6 (cellsT L6) (some ⟨w3.heap.size, 0, none⟩) 1 1 [.int .i64 x0, .int .i64 x1, .int .i64 x2] rfl (fun e => by cases e) HOne.out HXx.out HY.out (by simp [Act.eval]) (by simp [Act.eval]) (HO.out _) ((rowC_three (t := 53) (w := w3) rfl rfl).below (Drew.below ⟨1, rfl⟩)) (HSz.out _) ?_; intro v5 w5 ho hg'; obtain ⟨A5, K5, rfl⟩ := own_is ho; obtain ⟨hr5, hbx⟩ := HQu.out _ w5 A5 K5 hg' ho; have HR5 := hide hr5; have hq5 := hbx.cells.2.2.2.2.2.2.1; have hf5 := box_frozen hbx 6; have HT5 := hide (three_grown (HTa.out _) hg' HNe.out); clear ho hg' hbx hr5)
                        refine hKZ.out _ _ ?_ (fun hHeld => ?_)
                        · exact HT5.out
                        clear hKZ KZ
                        try simp only [Act.put, List.setIfInBounds_toArray, List.set_cons_zero, List.set_cons_succ]
                        refine wpAnyH_take (i := 14) (oi := { dst := some 126, op := Op.fieldAddr 29 (Operand.tmp 6) 6, type := 0, pos := "text.go:150", after := #[{ on := 0, ground := Ground.phase }, { on := 1, ground := Ground.phase }, { on := 2, ground := Ground.phase }, { on := 3, ground := Ground.phase }, { on := 4, ground := Ground.phase }, { on := 5, ground := Ground.phase }, { on := 6, ground := Ground.phase }, { on := 7, ground := Ground.phase }, { on := 8, ground := Ground.phase }, { on := 9, ground := Ground.phase }, { on := 10, ground := Ground.phase }, { on := 11, ground := Ground.phase }, { on := 12, ground := Ground.phase }, { on := 13, ground := Ground.phase }], guard := none }) (v := ?_) rfl (by kernel_rfl) (by kernel_rfl) (by kernel_rfl) (fun _ _ _ h => h) (Or.inl ⟨by rfl, ?_⟩) (by assumption) ?_
                        rotate_left
                        · (intro w0 hSw; (try dsimp only at hSw); go_simp; try with_reducible rfl)
                        try simp only [Act.put, List.setIfInBounds_toArray, List.set_cons_zero, List.set_cons_succ]
                        refine wpAnyH_ready (rs := [15]) (by kernel_rfl) (by simp) ?_
                        refine AllReadyH.cons (o := { dst := none, op := Op.store 26 (Operand.tmp 126) (Operand.tmp 125), type := 0, pos := "text.go:150", after := #[{ on := 14, ground := Ground.data }, { on := 13, ground := Ground.data }, { on := 13, ground := Ground.chain }, { on := 0, ground := Ground.phase }, { on := 1, ground := Ground.phase }, { on := 2, ground := Ground.phase }, { on := 3, ground := Ground.phase }, { on := 4, ground := Ground.phase }, { on := 5, ground := Ground.phase }, { on := 6, ground := Ground.phase }, { on := 7, ground := Ground.phase }, { on := 8, ground := Ground.phase }, { on := 9, ground := Ground.phase }, { on := 10, ground := Ground.phase }, { on := 11, ground := Ground.phase }, { on := 12, ground := Ground.phase }, { on := 13, ground := Ground.phase }], guard := none }) rfl (fun KZ hKZ => ?_) ?_
                        · skip
                          go_simp
                          refine hKZ.out _ _ ?_ (fun hHeld => ?_)
                          · exact three_set HT5.out HNq.out
                          clear hKZ KZ
                          try simp only [Act.put, List.setIfInBounds_toArray, List.set_cons_zero, List.set_cons_succ]
                          refine wpAnyH_done (by kernel_rfl) ?_ _
                          clear hq5 hf5 HT5 hHeld hd hda HO HSz HQu HXx HY HOne HT3 HTa HNe HNq hi2 hy0 hy1 hy2
                          go_wp2
                          go_roundw
                          case rel => exact ⟨k + 1, L6 ++ [(x0, x1, x2)], _, by go_num, by omega, by rw [Q1.out]; exact HR5.out, (fun _ => HOk2.out.symm), by rw [List.length_append]; exact Nat.succ_le_succ hLen⟩
                          case measure => simp [intOf]; omega
                        exact AllReadyH.nil
                      exact AllReadyH.nil
                    exact AllReadyH.nil
                  exact AllReadyH.nil
              · have HE : Hid (∀ q, ∃ (L6 : List Tri) (d6 : CV), Hid (RX w a n c xs hg hcap H lc ⟨(N0 : Int), L, L2, Lo, Lb, Lc, L6, []⟩ d6 (P6 N4).2 (wr.drewN q)) ∧ Hid (OkL (P6 N4).2 L6 (P6 N4).1) ∧ Hid (L6.length ≤ N4)) := fun q => by
                  have h1 : RX w a n c xs hg hcap H lc ⟨(N0 : Int), L, L2, Lo, Lb, Lc, L6, []⟩ d6 (P6 k).2 (wr.drewN q) := HX.out.then (Drew.below ⟨q, rfl⟩)
                  by_cases hkn : k = N4
                  · subst hkn
                    exact ⟨L6, d6, h1, HOk, HLl⟩
                  · have hn : (P6 k).2 = none := by
                      cases e : (P6 k).2 with
                      | none => rfl
                      | some j => exact absurd ⟨by omega, by rw [e]; rfl⟩ hex
                    have hm := HQn.out k hn N4 hk
                    rw [hm]
                    rw [hn] at h1
                    exact ⟨L6, d6, h1, (fun e => by cases e), Nat.le_trans HLl.out hk⟩
                by_cases hkn : k = N4
                · subst hkn
                  clear c0 c1 c2 c3 hkk
                  go_wp2
                  (repeat apply Exists.intro)
                  refine ⟨HE.out 0, rfl⟩
                · have hn : (P6 k).2 = none := by
                    cases e : (P6 k).2 with
                    | none => rfl
                    | some j => exact absurd ⟨by omega, by rw [e]; rfl⟩ hex
                  rw [hn, show errR none = 2 from rfl] at c3
                  have hlt : (k : Int) < (N4 : Int) := by omega
                  clear c0 c1 c2 hkk
                  go_wp2
                  (repeat apply Exists.intro)
                  refine ⟨HE.out 0, rfl⟩
          case rest =>
            obtain ⟨L6, d6, HX6, HOk6, HLl6⟩ := hcut
            rename World => W6
            obtain ⟨e71, e72, e73⟩ := HX6.out.z7
            have h70 : Box W6 lc { d6 with a7 := none, n7 := 0, c7 := 0 } := by
              have e : ({ d6 with a7 := none, n7 := 0, c7 := 0 } : CV) = d6 := by
                cases d6
                dsimp only at e71 e72 e73
                subst e71; subst e72; subst e73
                rfl
              rw [e]; exact HX6.out.rr.box
            have HNm := hide (refNames_any (w.heap.size + 1) lc a n c xs (rTop H) d6 (P6 N4).2 W6 HX6.out.rr.rd h70 HX6.out.rr.ne)
            unfold NamesR at HNm
            have hLast : rNames gramA xs H (some j0) = namesS xs (P6 N4).2 := by
              show namesS xs (rAnds gramA xs H (some j0)).2 = _
              rw [HQe.out]
            have HCC : Hid (∀ L7, OkL (namesS xs (P6 N4).2).2 L7 (namesS xs (P6 N4).2).1 → (namesS xs (P6 N4).2).2.isSome = true → (⟨(N0 : Int), L, L2, Lo, Lb, Lc, L6, L7⟩ : Circ) = rCirc gramA xs H (some j0)) := by
              intro L7 ho hs
              have s6 := names_back hs
              have sA : (rAnds gramA xs H (some j0)).2.isSome = true := by rw [HQe.out]; exact s6
              have sC : (rCons gramA xs H (some j0)).2.isSome = true := some_back (f := fun i => andS xs (rTop H) (2 * (1 + H.getD 1 0 + H.getD 2 0 + (i : Int)))) (fun n => andS_none xs (rTop H) _) sA
              have sB : (rBads gramA xs H (some j0)).2.isSome = true := some_back (f := fun i => litS xs (rTop H) (2 * (0 + (i : Int)))) (fun n => litS_none xs (rTop H) _) sC
              have sO : (rOuts gramA xs H (some j0)).2.isSome = true := some_back (f := fun i => litS xs (rTop H) (2 * (0 + (i : Int)))) (fun n => litS_none xs (rTop H) _) sB
              have sL : (rLats gramA xs H (some j0)).2.isSome = true := some_back (f := fun i => litS xs (rTop H) (2 * (0 + (i : Int)))) (fun n => litS_none xs (rTop H) _) sO
              have s1 : (rIns gramA xs H (some j0)).2.isSome = true := some_back (f := fun i => latS xs (rTop H) (2 * (1 + H.getD 1 0 + (i : Int)))) (fun n => latS_none xs (rTop H) _) sL
              rw [hR1] at s1
              rw [HPe.out] at sL
              unfold rCirc
              rw [hR1, HPe.out, HQe.out, hLast, hN0, ← HOk1.out s1, ← HOk2.out sL, ← HOk3.out sO, ← HOk4.out sB, ← HOk5.out sC, ← HOk6.out s6, ← ho hs]
            rw [hLast] at HRE
            generalize namesS xs (P6 N4).2 = PN at HNm HCC HRE
            have hmx : (rCirc gramA xs H (some j0)).max ≤ 100000 := by
              have := HFi.out.b0
              show H.getD 0 0 ≤ 100000
              omega
            generalize rCirc gramA xs H (some j0) = CC at HCC HRE HRd HSm hmx
            clear hLast HOk1 HOk2 HOk3 HOk4 HOk5 HOk6 HQe HPe HQ0 HQn HQs HS6 HX5 h70 HTx HFi
            go_wp2_with fail
            refine HNm.out.mono ?_
            rintro e w7 ⟨L7, A7, K7, rfl, hnr, hok7, hl7⟩
            have RR7 := HX6.out.rr.syms hnr
            have bx7 : Box w7 w.heap.size cvN := (hnr.two.block w.heap.size HX6.out.bx.lt (by omega) (Ne.symm HX6.out.ne)).trans HX6.out.bx
            obtain ⟨d7, hd7⟩ : ∃ d7, d7 = ({ d6 with a7 := A7, n7 := L7.length, c7 := K7 } : CV) := ⟨_, rfl⟩
            rw [← hd7] at RR7
            have HEn := hide (refEnd_any (w.heap.size + 1) a n c xs (rTop H) PN.2 w7 hnr.rd d7 CC (fun hs => by rw [← HCC.out L7 hok7 hs]; exact RR7.holds.1) (fun _ => HSm.out) hmx)
            have hcv7 : d7.v = .agg #[.int .i64 d7.m, .slice d7.a1 d7.n1 d7.c1, .slice d7.a2 d7.n2 d7.c2, .slice d7.a3 d7.n3 d7.c3, .slice d7.a4 d7.n4 d7.c4, .slice d7.a5 d7.n5 d7.c5, .slice d7.a6 d7.n6 d7.c6, .slice d7.a7 d7.n7 d7.c7] := rfl
            rw [hcv7] at HEn
            have HR7 := hide RR7
            have BX7 := hide bx7
            have HOk7 := hide hok7
            clear hd7 hcv7 RR7 bx7 hok7 hl7 hnr HNm HX6
            obtain ⟨q0, q1, q2, q3, q4, q5, q6, q7⟩ := HR7.out.box.cells
            go_wp2_with fail
            refine HEn.out.mono ?_
            rintro e w8 ⟨d', rfl, h0, h1, hb8⟩
            have BX := hide (BX7.out.below hb8)
            have BL := hide (belowThen HR7.out.below hb8)
            have HR8 := hide (HR7.out.then hb8)
            have HFin : Hid (ReadPost gramA xs w (.returned (.tuple #[d'.v, .int .i64 (endE CC PN.2)])) (putBox w8 w.heap.size d')) := by
              have hbel := (two_put w8 w.heap.size d').below BL.out (Nat.le_refl _) (Nat.le_refl _) (Nat.le_refl _)
              by_cases hE0 : endE CC PN.2 = 0
              · have hs : PN.2.isSome = true := by
                  cases e : PN.2.isSome with
                  | true => rfl
                  | false => unfold endE at hE0; rw [e, if_neg (by decide)] at hE0; exact absurd hE0 (by decide)
                obtain rfl := h0 hE0
                obtain ⟨g1, g2⟩ := rr_out (d' := d') HR8.out BX.out
                rw [HCC.out L7 HOk7.out hs] at g1
                refine ⟨d', by rw [HRE.out], ?_, (small_fits g1 HSm.out).2, g2, hbel⟩
                rw [HRd.out, HRE.out, if_pos hE0]
                exact g1
              · obtain rfl := h1 hE0
                refine ⟨cvN, by rw [HRE.out], ?_, ⟨by decide, by decide, by decide, by decide, by decide, by decide, by decide⟩, aboveN _, hbel⟩
                rw [HRd.out, HRE.out, if_neg hE0]
                exact holdsN _
            have hb := hide (box_put d' BX.out)
            rw [show d'.v = .agg #[.int .i64 d'.m, .slice d'.a1 d'.n1 d'.c1, .slice d'.a2 d'.n2 d'.c2, .slice d'.a3 d'.n3 d'.c3, .slice d'.a4 d'.n4 d'.c4, .slice d'.a5 d'.n5 d'.c5, .slice d'.a6 d'.n6 d'.c6, .slice d'.a7 d'.n7 d'.c7] from rfl] at HFin ⊢
            generalize endE CC PN.2 = EE at *
            obtain ⟨z0, z1, z2, z3, z4, z5, z6, z7⟩ := BX.out.cells
            simp only [cvN] at z0 z1 z2 z3 z4 z5 z6 z7
            have f0 := box_frozen BX.out 0
            have f1 := box_frozen BX.out 1
            have f2 := box_frozen BX.out 2
            have f3 := box_frozen BX.out 3
            have f4 := box_frozen BX.out 4
            have f5 := box_frozen BX.out 5
            have f6 := box_frozen BX.out 6
            have f7 := box_frozen BX.out 7
            clear h0 h1 hb8 HR7 HR8 BX7 HEn HCC HRE HRd HSm hmx HOk7 q0 q1 q2 q3 q4 q5 q6 q7 BL
            go_wp2
            show bodyPost _ _ _ _ _ (putBox w8 w.heap.size d')
            clear z0 z1 z2 z3 z4 z5 z6 z7 f0 f1 f2 f3 f4 f5 f6 f7 BX
            generalize putBox w8 w.heap.size d' = Wf at *
            obtain ⟨r0, r1, r2, r3, r4, r5, r6, r7⟩ := hb.out.cells
            refine bodyPost_ret (v := .tuple #[.agg #[.int .i64 d'.m, .slice d'.a1 d'.n1 d'.c1, .slice d'.a2 d'.n2 d'.c2, .slice d'.a3 d'.n3 d'.c3, .slice d'.a4 d'.n4 d'.c4, .slice d'.a5 d'.n5 d'.c5, .slice d'.a6 d'.n6 d'.c6, .slice d'.a7 d'.n7 d'.c7], .int .i64 EE]) (by simp [results, Tryz.results13, go_sem, *]) rfl ?_
            exact HFin.out
  · rw [if_neg hE] at HRE
    have HEr := hide hE
    generalize begE [97, 97, 103] xs = E at *
    have hE1 : (E == 0) = false := by rw [beq_eq_false_iff_ne]; exact hE
    have hE2 : (E != 0) = true := by rw [bne, hE1]; rfl
    clear hE h
    go_enter Tryz.func13, Tryz.ntmps13
    go_wp2_with fail
    refine HBg.out.mono ?_
    rintro e w1 ⟨v, rfl, hcase⟩
    rcases hcase with ⟨h0, -⟩ | ⟨-, ht, hc3⟩
    · exact absurd h0 HEr.out
    have BX : Hid (Box w1 w.heap.size cvN) := (ht.block w.heap.size BX0.out.lt (by omega) (by omega)).trans BX0.out
    have BL := hide (ht.below BL0.out (Nat.le_refl _) (Nat.le_succ _) (Nat.le_succ _))
    clear HBg BX0 BL0 HR0 ht
    go_upto_region 4 with fail
    have e3d : w1.drew.cell? ⟨w.heap.size + 1, 3, none⟩ = some (.int .i64 E) := hc3
    have hne : w.heap.size + 1 ≠ w.heap.size := by omega
    obtain ⟨z0, z1, z2, z3, z4, z5, z6, z7⟩ := BX.out.cells
    simp only [cvN] at z0 z1 z2 z3 z4 z5 z6 z7
    have f0 := box_frozen BX.out 0
    have f1 := box_frozen BX.out 1
    have f2 := box_frozen BX.out 2
    have f3 := box_frozen BX.out 3
    have f4 := box_frozen BX.out 4
    have f5 := box_frozen BX.out 5
    have f6 := box_frozen BX.out 6
    have f7 := box_frozen BX.out 7
    go_region_held3 (fun w' => w'.cell? ⟨w.heap.size + 1, 3, none⟩ = some (.int .i64 E)) (first | with_reducible exact e3d | with_reducible exact nil_far hne hc3) (fail)
    all_goals go_wp2
    have hb := hide (box_put cvN BX.out).drew
    have hbel := hide (below_drew ((two_put w1 w.heap.size cvN).below BL.out (Nat.le_refl _) (Nat.le_refl _) (Nat.le_refl _)))
    show bodyPost _ _ _ _ _ (putBox w1 w.heap.size cvN).drew
    generalize (putBox w1 w.heap.size cvN).drew = Wf at *
    obtain ⟨r0, r1, r2, r3, r4, r5, r6, r7⟩ := hb.out.cells
    simp only [cvN] at r0 r1 r2 r3 r4 r5 r6 r7
    clear z0 z1 z2 z3 z4 z5 z6 z7 f0 f1 f2 f3 f4 f5 f6 f7 hc3 e3d
    refine bodyPost_ret (v := .tuple #[.agg #[.int .i64 0, .slice none 0 0, .slice none 0 0, .slice none 0 0, .slice none 0 0, .slice none 0 0, .slice none 0 0, .slice none 0 0], .int .i64 E]) (by simp [results, Tryz.results13, go_sem, *]) rfl ?_
    exact ⟨cvN, by rw [HRE.out]; rfl, by unfold Gram.read; rw [HRE.out, if_neg HEr.out]; exact holdsN _, ⟨by decide, by decide, by decide, by decide, by decide, by decide, by decide⟩, aboveN _, hbel.out⟩

end Go.Proofs.YtikjbbebfjleaaaGreatDoor
