/-
  What the reference's args asks, no function of the program.
-/
import Derived.Test.YtppaifckiaaffaaRefLits
namespace Go.Proofs.Ytppaifckiaaffaa
open Go.RowKit

def evenB (l : Int) : Bool := decide (0 < l) && decide (l % 2 = 0)
def triB (top : Int) (x : Tri) : Bool := [x.1, x.2.1, x.2.2].all (litB top) && evenB x.1
def latOkB (top : Int) (x : Tri) : Bool := triB top x && resetB x
def Circ.portsB (C : Circ) : Bool := C.ins.all (litB C.top) && (C.outs.all (litB C.top) && (C.bads.all (litB C.top) && C.cons.all (litB C.top)))
def Circ.argsB (C : Circ) : Bool := decide (0 ≤ C.max) && ((((C.portsB && C.ins.all evenB) && C.lats.all (latOkB C.top)) && C.ands.all (triB C.top)) && C.namesB)

theorem all_take {α : Type} [Inhabited α] (p : α → Bool) (l : List α) (k : Nat) (h : k < l.length) : (l.take (k + 1)).all p = ((l.take k).all p && p (atP l k)) := by
  rw [List.take_succ_eq_append_getElem h, List.all_append, ← atP_eq l k h]; simp

theorem args_same (C : Circ) : C.argsB = (C.litsB && C.namesB) := by
  unfold Circ.argsB Circ.litsB
  by_cases hm : 0 ≤ C.max
  · rw [decide_eq_true hm, Bool.true_and, Bool.true_and]
    congr 1
    rw [Bool.eq_iff_iff]
    unfold Circ.portsB Circ.made Circ.used
    simp only [Bool.and_eq_true, List.all_eq_true, List.mem_append, List.mem_map, List.mem_flatMap, latOkB, triB, evenB, ownB, litB, resetB, decide_eq_true_eq, Bool.or_eq_true, List.mem_cons, List.not_mem_nil, or_false, Circ.top]
    constructor
    · rintro ⟨⟨⟨⟨p1, p3, p4, p5⟩, e1⟩, l2⟩, a6⟩
      refine ⟨?_, ?_, fun x hx => (l2 x hx).2⟩
      · rintro y ((hy | ⟨x, hx, rfl⟩) | ⟨x, hx, rfl⟩)
        · exact ⟨(e1 y hy).1, (p1 y hy).2, (e1 y hy).2⟩
        · exact ⟨(l2 x hx).1.2.1, ((l2 x hx).1.1 _ (.inl rfl)).2, (l2 x hx).1.2.2⟩
        · exact ⟨(a6 x hx).2.1, ((a6 x hx).1 _ (.inl rfl)).2, (a6 x hx).2.2⟩
      · rintro y ((((⟨x, hx, rfl⟩ | hy) | hy) | hy) | ⟨x, hx, rfl | rfl⟩)
        · exact (l2 x hx).1.1 _ (.inr (.inl rfl))
        · exact p3 y hy
        · exact p4 y hy
        · exact p5 y hy
        · exact (a6 x hx).1 _ (.inr (.inl rfl))
        · exact (a6 x hx).1 _ (.inr (.inr rfl))
    · rintro ⟨m, u, r⟩
      refine ⟨⟨⟨⟨fun y hy => ?_, fun y hy => u y (.inl (.inl (.inl (.inr hy)))), fun y hy => u y (.inl (.inl (.inr hy))), fun y hy => u y (.inl (.inr hy))⟩, fun y hy => ?_⟩, fun x hx => ⟨⟨?_, ?_⟩, r x hx⟩⟩, fun x hx => ⟨?_, ?_⟩⟩
      · have := m y (.inl (.inl hy)); omega
      · have := m y (.inl (.inl hy)); omega
      · have h1 := m x.1 (.inl (.inr ⟨x, hx, rfl⟩))
        have h2 := u x.2.1 (.inl (.inl (.inl (.inl ⟨x, hx, rfl⟩))))
        have h3 := r x hx
        rintro y (rfl | rfl | rfl) <;> omega
      · have h1 := m x.1 (.inl (.inr ⟨x, hx, rfl⟩)); omega
      · have h1 := m x.1 (.inr ⟨x, hx, rfl⟩)
        have h2 := u x.2.1 (.inr ⟨x, hx, .inl rfl⟩)
        have h3 := u x.2.2 (.inr ⟨x, hx, .inr rfl⟩)
        rintro y (rfl | rfl | rfl) <;> omega
      · have h1 := m x.1 (.inr ⟨x, hx, rfl⟩); omega
  · rw [decide_eq_false hm, Bool.false_and, Bool.false_and, Bool.false_and]

theorem row_three {w : World} {b : Nat} (hb : b = w.heap.size) (x y z : Int) (t : TypeId) : RowK .i64 (w.alloc (.cells #[.int .i64 x, .int .i64 y, .int .i64 z] t)) (some ⟨b, 0, none⟩) [x, y, z] := by
  subst hb
  refine .inr ⟨_, rfl, fun i hi => ?_⟩
  rw [add_plain, Nat.zero_add, cell_of_row _ _ i _ t (0, 0) (heap_alloc_new w _)]
  rcases (by simp at hi; omega : i = 0 ∨ i = 1 ∨ i = 2) with rfl | rfl | rfl <;> rfl
/-- Names of any size that there is. -/
def NamesWide (C : Circ) : Prop := ∀ s ∈ C.names, s.2.2.size ≤ 9223372036854775807
end Go.Proofs.Ytppaifckiaaffaa
