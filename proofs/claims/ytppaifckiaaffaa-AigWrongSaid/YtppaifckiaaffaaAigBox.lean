/-
  BOXES THAT ARE WRITTEN, rows that a call has made: words for all walks that make a circuit.
-/
import Derived.Test.YtppaifckiaaffaaAigMem
namespace Go.Proofs.Ytppaifckiaaffaa
open Go.RowKit

theorem box_set {w : World} {b : Nat} {c : CV} (h : Box w b c) (j : Nat) (v : Value) : (w.setCell ⟨b, j, none⟩ v).heap[b]? = some (.cells ((#[.int .i64 c.m, .slice c.a1 c.n1 c.c1, .slice c.a2 c.n2 c.c2, .slice c.a3 c.n3 c.c3, .slice c.a4 c.n4 c.c4, .slice c.a5 c.n5 c.c5, .slice c.a6 c.n6 c.c6, .slice c.a7 c.n7 c.c7] : Array Value).setIfInBounds j v) 27 (0, 0)) :=
  heap_setCell_same w b j _ _ v h
theorem box_frozen {w : World} {b : Nat} {c : CV} (h : Box w b c) (j : Nat) : w.frozen? ⟨b, j, none⟩ = false := frozen_of_row w b j _ _ h
theorem rowC_own {w : World} {B n size : Nat} {e : TypeId} {v : Value} {xs : List Value} (h : w.ownsRow B e size v n xs) : ∃ a c, v = .slice a n c ∧ RowC w a xs ∧ (a = none → c = 0) := by
  have hl := h.1
  rcases h.2 with ⟨rfl, rfl⟩ | ⟨g, cap, cur, rfl, -⟩
  · exact ⟨none, 0, rfl, .inl ⟨rfl, List.eq_nil_of_length_eq_zero (by simpa using hl)⟩, fun _ => rfl⟩
  · exact ⟨_, cap, rfl, .inr ⟨_, rfl, h.cells rfl⟩, (fun e => by cases e)⟩
theorem cell_three_at {w : World} {b : Nat} (hb : b = w.heap.size) (x y z : Value) (t : TypeId) : ∀ j u, [x, y, z][j]? = some u → (w.alloc (.cells #[x, y, z] t)).cell? ((⟨b, 0, none⟩ : Addr).add j) = some u := by
  subst hb
  intro j u hj
  rw [add_plain, Nat.zero_add, cell_of_row _ _ j #[x, y, z] t (0, 0) (heap_alloc_new w _)]
  simpa using hj

theorem box_eight {w : World} {b : Nat} {c c' : CV} (h : Box w b c) (j : Nat) (v : Value)
    (hc : ((#[.int .i64 c.m, .slice c.a1 c.n1 c.c1, .slice c.a2 c.n2 c.c2, .slice c.a3 c.n3 c.c3, .slice c.a4 c.n4 c.c4, .slice c.a5 c.n5 c.c5, .slice c.a6 c.n6 c.c6, .slice c.a7 c.n7 c.c7] : Array Value).setIfInBounds j v) = #[.int .i64 c'.m, .slice c'.a1 c'.n1 c'.c1, .slice c'.a2 c'.n2 c'.c2, .slice c'.a3 c'.n3 c'.c3, .slice c'.a4 c'.n4 c'.c4, .slice c'.a5 c'.n5 c'.c5, .slice c'.a6 c'.n6 c'.c6, .slice c'.a7 c'.n7 c'.c7]) : Box (w.setCell ⟨b, j, none⟩ v) b c' := by
  have := box_set h j v
  rw [hc] at this
  exact this

theorem rowK_of_C {k : IntKind} {w : World} {a : Option Addr} {xs : List Int} (h : RowC w a (xs.map (Value.int k))) : RowK k w a xs := by
  rcases h with ⟨rfl, h⟩ | ⟨x, rfl, hx⟩
  · exact .inl ⟨rfl, List.map_eq_nil_iff.1 h⟩
  · refine .inr ⟨x, rfl, fun i hi => hx i _ ?_⟩
    rw [List.getElem?_map, List.getElem?_eq_getElem hi, List.getD_eq_getElem?_getD, List.getElem?_eq_getElem hi]; rfl

/-- 'append(s, x...)', s THE CALL's OWN, x whatever slice whose cells are known (nil too). -/
theorem wpList_append_rowC {P : Program} (w : World) {ops : Array Oper} {rest : List Oper} {o : Oper} {a : Act} {Q : Exit → Act → World → Prop} (hgd : o.guard = none) (s x : Operand) (t : TypeId)
    (ho : o.op = .call { callee := .builtin .append, args := #[s, x], argTypes := #[t, t] })
    (base : Nat) (e : TypeId) (i : TypeInfo) (z : Value) (size bytes : Nat) (ht : P.underlying t = some (.slice e)) (hi : P.info? e = some i) (hz : i.zero = some z)
    (hsize : i.size = size) (hby : i.bytes = bytes) (hzs : z.cells.size = size) (hsz : 0 < size)
    (v : Value) (n : Nat) (xs : List Value) (hs : a.eval s = v) (hown : w.ownsRow base e size v n xs)
    (ao : Option Addr) (m c : Nat) (news : List Value) (hx : a.eval x = .slice ao m c) (hl : news.length = m * size) (hr : RowC w ao news) (hnc : ao = none → c = 0) (h1 : ∀ u ∈ news, u.oneCell' = true)
    (h63 : n + m ≤ maxLen) (hbytes : (n + m) * bytes ≤ 140737488355328) (hbase : base ≤ w.heap.size)
    (h : ∀ v' w', w'.ownsRow base e size v' (n + m) (xs ++ news) → w.grownBy w' v.ownBlock → wpList P ops Q rest (a.put o.dst v') w') : wpList P ops Q (o :: rest) a w := by
  rcases hr with ⟨rfl, rfl⟩ | ⟨ad, rfl, hcell⟩
  · have hm : m = 0 := by
      rcases Nat.mul_eq_zero.1 (show m * size = 0 from by simpa using hl.symm) with h | h
      · exact h
      · omega
    subst hm
    obtain rfl := hnc rfl
    refine wpList_append_own_none hgd s x t ho base e i size ht hi v n xs hs hown hx ?_
    exact h v w (by simpa using hown) (World.grownBy.refl _ _)
  · exact wpList_append_own w hgd s x t ho base e i z size bytes ht hi hz hsize hby hzs hsz v n xs hs hown ad m c news hx hl hcell h1 h63 hbytes hbase (fun v' w' h1 h2 _ => h v' w' h1 h2)

theorem own_carry {W w4 : World} {b j n size B : Nat} {e : TypeId} {v u : Value} {xs : List Value} (h : W.ownsRow B e size v n xs) (hg : W.grownBy w4 none) (hb : b < B) : (w4.setCell ⟨b, j, none⟩ u).ownsRow B e size v n xs :=
  ownsRow_setCell_below (own_below h ((Below.refl _ _).grown hg (Nat.le_refl _) (fun k hk => by cases hk))) (a := ⟨b, j, none⟩) hb u

/-- Block b written anew, cell by cell. -/
def putBox (W : World) (b : Nat) (d : CV) : World :=
  (((((((W.setCell ⟨b, 0, none⟩ (.int .i64 d.m)).setCell ⟨b, 1, none⟩ (.slice d.a1 d.n1 d.c1)).setCell ⟨b, 2, none⟩ (.slice d.a2 d.n2 d.c2)).setCell ⟨b, 3, none⟩ (.slice d.a3 d.n3 d.c3)).setCell ⟨b, 4, none⟩ (.slice d.a4 d.n4 d.c4)).setCell ⟨b, 5, none⟩ (.slice d.a5 d.n5 d.c5)).setCell ⟨b, 6, none⟩ (.slice d.a6 d.n6 d.c6)).setCell ⟨b, 7, none⟩ (.slice d.a7 d.n7 d.c7)
theorem box_put {W : World} {b : Nat} {c : CV} (d : CV) (h : Box W b c) : Box (putBox W b d) b d := by
  have h0 := box_eight (c' := { c with m := d.m }) h 0 (.int .i64 d.m) rfl
  have h1 := box_eight (c' := { c with m := d.m, a1 := d.a1, n1 := d.n1, c1 := d.c1 }) h0 1 (.slice d.a1 d.n1 d.c1) rfl
  have h2 := box_eight (c' := { c with m := d.m, a1 := d.a1, n1 := d.n1, c1 := d.c1, a2 := d.a2, n2 := d.n2, c2 := d.c2 }) h1 2 (.slice d.a2 d.n2 d.c2) rfl
  have h3 := box_eight (c' := { c with m := d.m, a1 := d.a1, n1 := d.n1, c1 := d.c1, a2 := d.a2, n2 := d.n2, c2 := d.c2, a3 := d.a3, n3 := d.n3, c3 := d.c3 }) h2 3 (.slice d.a3 d.n3 d.c3) rfl
  have h4 := box_eight (c' := { d with a5 := c.a5, n5 := c.n5, c5 := c.c5, a6 := c.a6, n6 := c.n6, c6 := c.c6, a7 := c.a7, n7 := c.n7, c7 := c.c7 }) h3 4 (.slice d.a4 d.n4 d.c4) rfl
  have h5 := box_eight (c' := { d with a6 := c.a6, n6 := c.n6, c6 := c.c6, a7 := c.a7, n7 := c.n7, c7 := c.c7 }) h4 5 (.slice d.a5 d.n5 d.c5) rfl
  have h6 := box_eight (c' := { d with a7 := c.a7, n7 := c.n7, c7 := c.c7 }) h5 6 (.slice d.a6 d.n6 d.c6) rfl
  exact box_eight (c' := d) h6 7 (.slice d.a7 d.n7 d.c7) rfl
theorem two_put (W : World) (b : Nat) (d : CV) : Two b b W (putBox W b d) :=
  (((((((((Two.refl b b W).setL 0 _).setL 1 _).setL 2 _).setL 3 _).setL 4 _).setL 5 _).setL 6 _).setL 7 _)
theorem rowC_own' {w : World} {B n c size : Nat} {e : TypeId} {a : Option Addr} {xs : List Value} (h : w.ownsRow B e size (.slice a n c) n xs) : RowC w a xs ∧ (a = none → c = 0) := by
  obtain ⟨a', c', e, hr, hz⟩ := rowC_own h
  cases e
  exact ⟨hr, hz⟩
end Go.Proofs.Ytppaifckiaaffaa
