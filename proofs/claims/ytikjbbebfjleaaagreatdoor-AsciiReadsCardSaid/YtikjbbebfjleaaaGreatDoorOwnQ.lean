/-
  ROWS THAT ARE THE CALL's OWN, beside boxes and other rows; an append as a step of a region that draws its order.
-/
import Derived.Test.YtikjbbebfjleaaaGreatDoorJ10
import Derived.Deep.RegionHeld3
namespace Go.Proofs.YtikjbbebfjleaaaGreatDoor
open Go.RowKit

/-- 'append(s, x...)' as a step of a region that draws: s the call's own, x whatever slice whose cells are known. -/
theorem step_append_rowC {P : Program} (w : World) {ops : Array Oper} {o : Oper} {a : Act} {K : Act → World → Prop} {Q : Exit → Act → World → Prop} {E : Prop} (hgd : o.guard = none) (s x : Operand) (t : TypeId)
    (ho : o.op = .call { callee := .builtin .append, args := #[s, x], argTypes := #[t, t] })
    (base : Nat) (e : TypeId) (i : TypeInfo) (z : Value) (size bytes : Nat) (ht : P.underlying t = some (.slice e)) (hi : P.info? e = some i) (hz : i.zero = some z)
    (hsize : i.size = size) (hby : i.bytes = bytes) (hzs : z.cells.size = size) (hsz : 0 < size)
    (v : Value) (n : Nat) (xs : List Value) (hs : a.eval s = v) (hown : w.ownsRow base e size v n xs)
    (ao : Option Addr) (m c : Nat) (news : List Value) (hx : a.eval x = .slice ao m c) (hl : news.length = m * size) (hr : RowC w ao news) (hnc : ao = none → c = 0) (h1 : ∀ u ∈ news, u.oneCell' = true)
    (h63 : n + m ≤ maxLen) (hbytes : (n + m) * bytes ≤ 140737488355328) (hbase : base ≤ w.heap.size)
    (h : ∀ v' w', w'.ownsRow base e size v' (n + m) (xs ++ news) → w.grownBy w' v.ownBlock → K (a.put o.dst v') w') :
    if Region.wanted o (yielded ops a.tmps) = true then Oper.wp P o a w K Q else E := by
  have hw : Region.wanted o (yielded ops a.tmps) = true := by simp [Region.wanted, hgd]
  rw [if_pos hw]
  rcases hr with ⟨rfl, rfl⟩ | ⟨ad, rfl, hcell⟩
  · have hm : m = 0 := by
      rcases Nat.mul_eq_zero.1 (show m * size = 0 from by simpa using hl.symm) with h | h
      · exact h
      · omega
    subst hm
    obtain rfl := hnc rfl
    have hrun := run_append_owned_none (P := P) (w := w) base t o.type e i size ht hi v n xs hown
    unfold Oper.wp
    simp [execOp, ho, resolve, invoke, builtin, hs, hx, hrun, Result.andThen]
    exact h v w (by simpa using hown) (World.grownBy.refl _ _)
  · exact wp_append_own w s x t ho base e i z size bytes ht hi hz hsize hby hzs hsz v n xs hs hown ad m c news hx hl hcell h1 h63 hbytes hbase (fun v' w' h1 h2 _ => h v' w' h1 h2)

/-- The same, the operation written out: so that it is not tried at another one. -/
theorem step_append_wr {P : Program} {w : World} {ops : Array Oper} {d : Option Tmp} {ty : TypeId} {pos : String} {af : Array Edge} {a : Act} {K : Act → World → Prop} {Q : Exit → Act → World → Prop} {E : Prop} (s x : Operand) (t : TypeId)
    (base : Nat) (e : TypeId) (i : TypeInfo) (z : Value) (size bytes : Nat) (ht : P.underlying t = some (.slice e)) (hi : P.info? e = some i) (hz : i.zero = some z)
    (hsize : i.size = size) (hby : i.bytes = bytes) (hzs : z.cells.size = size) (hsz : 0 < size)
    (v : Value) (n : Nat) (xs : List Value) (ao : Option Addr) (m c : Nat) (news : List Value) (hl : news.length = m * size) (hnc : ao = none → c = 0) (h1 : ∀ u ∈ news, u.oneCell' = true)
    (h63 : n + m ≤ maxLen) (hbytes : (n + m) * bytes ≤ 140737488355328)
    (hs : a.eval s = v) (hx : a.eval x = .slice ao m c) (hown : w.ownsRow base e size v n xs) (hr : RowC w ao news) (hbase : base ≤ w.heap.size)
    (h : ∀ v' w', w'.ownsRow base e size v' (n + m) (xs ++ news) → w.grownBy w' v.ownBlock → K (a.put d v') w') :
    if Region.wanted { dst := d, op := .call { callee := .builtin .append, args := #[s, x], argTypes := #[t, t] }, type := ty, pos := pos, after := af, guard := none } (yielded ops a.tmps) = true then Oper.wp P { dst := d, op := .call { callee := .builtin .append, args := #[s, x], argTypes := #[t, t] }, type := ty, pos := pos, after := af, guard := none } a w K Q else E :=
  step_append_rowC w rfl s x t rfl base e i z size bytes ht hi hz hsize hby hzs hsz v n xs hs hown ao m c news hx hl hr hnc h1 h63 hbytes hbase h

/-- A row of other elements does not lie in a circuit's box, nor where a row of yet others lies. -/
theorem own_ne_box {w : World} {B b size n : Nat} {e : TypeId} {v : Value} {xs : List Value} {d : CV} (h : w.ownsRow B e size v n xs) (hb : Box w b d) (he : e ≠ 29) : v.ownBlock ≠ some b := by
  rcases h.2 with ⟨rfl, _⟩ | ⟨g, cap, cur, rfl, -, hg, -⟩
  · simp [Value.ownBlock]
  · intro e2
    have e3 : g = b := Option.some.inj e2
    subst e3
    unfold Box at hb
    rw [hg] at hb
    have e4 := Option.some.inj hb
    injection e4 with _ e5
    exact he e5
theorem own_ne_own {w : World} {B B' size size' n n' : Nat} {e e' : TypeId} {v v' : Value} {xs xs' : List Value} (h : w.ownsRow B e size v n xs) (h' : w.ownsRow B' e' size' v' n' xs') (he : e ≠ e') : v.ownBlock = none ∨ v.ownBlock ≠ v'.ownBlock := by
  rcases h.2 with ⟨rfl, _⟩ | ⟨g, cap, cur, rfl, -, hg, -⟩
  · left; rfl
  · right
    rcases h'.2 with ⟨rfl, _⟩ | ⟨g', cap', cur', rfl, -, hg', -⟩
    · simp [Value.ownBlock]
    · intro e2
      have e3 : g = g' := Option.some.inj e2
      subst e3
      rw [hg'] at hg
      have e4 := Option.some.inj hg
      injection e4 with _ e5
      exact he e5.symm
theorem own_block {w w' : World} {B size n : Nat} {e : TypeId} {v : Value} {xs : List Value} (h : w.ownsRow B e size v n xs) (hb : ∀ g, v.ownBlock = some g → w'.heap[g]? = w.heap[g]?) : w'.ownsRow B e size v n xs := by
  obtain ⟨h1, h2⟩ := h
  refine ⟨h1, ?_⟩
  rcases h2 with h2 | ⟨g, cap, cur, rfl, hg, hh, r⟩
  · exact .inl h2
  · exact .inr ⟨g, cap, cur, rfl, hg, (hb g rfl).trans hh, r⟩
theorem own_grown {w w' : World} {B B' size size' n n' : Nat} {e e' : TypeId} {v v' : Value} {xs xs' : List Value} (h : w.ownsRow B e size v n xs) (h' : w.ownsRow B' e' size' v' n' xs') (he : e ≠ e') (hg : w.grownBy w' v'.ownBlock) : w'.ownsRow B e size v n xs := by
  refine own_block h (fun g hv => hg.block g (h.lt g hv).2 (fun e2 => ?_))
  rcases own_ne_own h h' he with h0 | h0
  · rw [h0] at hv; cases hv
  · exact h0 (hv.trans e2)
theorem own_put {w : World} {B b size n : Nat} {e : TypeId} {v : Value} {xs : List Value} {d d' : CV} (h : w.ownsRow B e size v n xs) (hb : Box w b d) (he : e ≠ 29) : (putBox w b d').ownsRow B e size v n xs := by
  have hne := own_ne_box h hb he
  exact own_block h (fun g hv => (two_put w b d').block g (h.lt g hv).2 (fun e2 => hne (e2 ▸ hv)) (fun e2 => hne (e2 ▸ hv)))
theorem own_cellQ {w : World} {B b j size n : Nat} {e : TypeId} {v u : Value} {xs : List Value} {d : CV} (h : w.ownsRow B e size v n xs) (hb : Box w b d) (he : e ≠ 29) : (w.setCell ⟨b, j, none⟩ u).ownsRow B e size v n xs := by
  have hne := own_ne_box h hb he
  exact own_block h (fun g hv => heap_setCell_other w ⟨b, j, none⟩ g u (fun e2 => hne (by rw [hv]; exact congrArg some e2)))

theorem rowC_three {w W : World} {u0 u1 u2 : Value} {t : TypeId} {b : Nat} (hW : W = w.alloc (.cells #[u0, u1, u2] t)) (hb : b = w.heap.size) : RowC W (some ⟨b, 0, none⟩) [u0, u1, u2] := by
  subst hW
  subst hb
  refine .inr ⟨_, rfl, fun j u hu => ?_⟩
  rw [add_plain, Nat.zero_add, cell_of_row _ _ j #[u0, u1, u2] t (0, 0) (heap_alloc_new w _)]
  simpa using hu
/-- Three cells of a block, carried on. -/
theorem three_belowQ {w W : World} {q : Nat} {u0 u1 u2 : Value} (h : w.cell? ⟨q, 0, none⟩ = some u0 ∧ w.cell? ⟨q, 1, none⟩ = some u1 ∧ w.cell? ⟨q, 2, none⟩ = some u2) (hb : Below w.heap.size w W) : W.cell? ⟨q, 0, none⟩ = some u0 ∧ W.cell? ⟨q, 1, none⟩ = some u1 ∧ W.cell? ⟨q, 2, none⟩ = some u2 :=
  ⟨(hb.cell (block_lt_of_cell h.1)).trans h.1, (hb.cell (block_lt_of_cell h.2.1)).trans h.2.1, (hb.cell (block_lt_of_cell h.2.2)).trans h.2.2⟩
theorem three_grown {w W : World} {q : Nat} {u0 u1 u2 : Value} {row : Option Nat} (h : w.cell? ⟨q, 0, none⟩ = some u0 ∧ w.cell? ⟨q, 1, none⟩ = some u1 ∧ w.cell? ⟨q, 2, none⟩ = some u2) (hg : w.grownBy W row) (hne : some q ≠ row) : W.cell? ⟨q, 0, none⟩ = some u0 ∧ W.cell? ⟨q, 1, none⟩ = some u1 ∧ W.cell? ⟨q, 2, none⟩ = some u2 :=
  ⟨hg.cell h.1 hne, hg.cell h.2.1 hne, hg.cell h.2.2 hne⟩
theorem three_set {w : World} {q b j : Nat} {u0 u1 u2 v : Value} (h : w.cell? ⟨q, 0, none⟩ = some u0 ∧ w.cell? ⟨q, 1, none⟩ = some u1 ∧ w.cell? ⟨q, 2, none⟩ = some u2) (hne : b ≠ q) : (w.setCell ⟨b, j, none⟩ v).cell? ⟨q, 0, none⟩ = some u0 ∧ (w.setCell ⟨b, j, none⟩ v).cell? ⟨q, 1, none⟩ = some u1 ∧ (w.setCell ⟨b, j, none⟩ v).cell? ⟨q, 2, none⟩ = some u2 := by
  have e : ∀ i, (w.setCell ⟨b, j, none⟩ v).cell? ⟨q, i, none⟩ = w.cell? ⟨q, i, none⟩ := fun i => cell_set_other (fun e => by have := congrArg Addr.block e; simp at this; omega)
  rw [e, e, e]; exact h
theorem three_new (w : World) (u0 u1 u2 : Value) (t : TypeId) : (w.alloc (.cells #[u0, u1, u2] t)).drew.cell? ⟨w.heap.size, 0, none⟩ = some u0 ∧ (w.alloc (.cells #[u0, u1, u2] t)).drew.cell? ⟨w.heap.size, 1, none⟩ = some u1 ∧ (w.alloc (.cells #[u0, u1, u2] t)).drew.cell? ⟨w.heap.size, 2, none⟩ = some u2 :=
  ⟨cell_of_row _ _ 0 _ _ (0, 0) (heap_alloc_new w _), cell_of_row _ _ 1 _ _ (0, 0) (heap_alloc_new w _), cell_of_row _ _ 2 _ _ (0, 0) (heap_alloc_new w _)⟩
end Go.Proofs.YtikjbbebfjleaaaGreatDoor
