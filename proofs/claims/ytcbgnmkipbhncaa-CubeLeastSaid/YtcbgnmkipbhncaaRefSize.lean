/-
  THE WALK of the reference's size; laws for a step of a region that draws.
-/
import Derived.Test.YtcbgnmkipbhncaaCubeOf
import Derived.Deep.RegionLaw
namespace Go.Proofs.Ytcbgnmkipbhncaa
open Go.RowKit

set_option maxHeartbeats 400000 in
theorem refSize_any (n : Int) (w : World) (h : SignB n) : Calls Try.prog 33 #[.int .i64 n] w fun e w' => e = .returned (.int .i64 (mag n)) ∧ w' = w := by
  obtain ⟨h1, h2⟩ := h
  by_cases h0 : n < 0
  · have e : mag n = -n := if_pos h0
    rw [e]
    go_enter Try.func33, Try.ntmps33
    go_wp2
    go_ret
    exact ⟨rfl, rfl⟩
  · have e : mag n = n := if_neg h0
    rw [e]
    go_enter Try.func33, Try.ntmps33
    go_wp2
    go_ret
    exact ⟨rfl, rfl⟩

/-- 'append(s, x...)' as a step of a region that draws: s the call's own, x whatever slice of integers. -/
theorem step_append_row {P : Program} (w : World) {ops : Array Oper} {o : Oper} {a : Act} {K : Act → World → Prop} {Q : Exit → Act → World → Prop} {E : Prop} (hgd : o.guard = none) (s x : Operand) (t : TypeId)
    (ho : o.op = .call { callee := .builtin .append, args := #[s, x], argTypes := #[t, t] })
    (k : IntKind) (base : Nat) (e : TypeId) (i : TypeInfo) (z : Value) (bytes : Nat) (ht : P.underlying t = some (.slice e)) (hi : P.info? e = some i) (hz : i.zero = some z)
    (hsize : i.size = 1) (hby : i.bytes = bytes) (hzs : z.cells.size = 1)
    (v : Value) (n : Nat) (xs : List Value) (hs : a.eval s = v) (hown : w.ownsRow base e 1 v n xs)
    (ao : Option Addr) (m c : Nat) (ys : List Int) (hx : a.eval x = .slice ao m c) (hl : ys.length = m) (hr : RowK k w ao ys) (hnc : ao = none → c = 0)
    (h63 : n + m ≤ maxLen) (hbytes : (n + m) * bytes ≤ 140737488355328) (hbase : base ≤ w.heap.size)
    (h : ∀ v' w', w'.ownsRow base e 1 v' (n + m) (xs ++ ys.map (Value.int k)) → w.grownBy w' v.ownBlock → K (a.put o.dst v') w') :
    if Region.wanted o (yielded ops a.tmps) = true then Oper.wp P o a w K Q else E := by
  have hw : Region.wanted o (yielded ops a.tmps) = true := by simp [Region.wanted, hgd]
  rw [if_pos hw]
  rcases hr with ⟨rfl, rfl⟩ | ⟨ad, rfl, hcell⟩
  · obtain rfl : m = 0 := by simpa using hl.symm
    obtain rfl := hnc rfl
    have hrun := run_append_owned_none (P := P) (w := w) base t o.type e i 1 ht hi v n xs hown
    unfold Oper.wp
    simp [execOp, ho, resolve, invoke, builtin, hs, hx, hrun, Result.andThen]
    exact h v w (by simpa using hown) (World.grownBy.refl _ _)
  · exact wp_append_own w s x t ho base e i z 1 bytes ht hi hz hsize hby hzs (by decide) v n xs hs hown ad m c (ys.map (Value.int k)) hx (by simpa using hl) (cells_map hcell) (one_ints k ys) h63 hbytes hbase (fun v' w' h1 h2 _ => h v' w' h1 h2)

/-- A slice's head is the call's own as the slice is. -/
theorem own_prefix {w : World} {base : Nat} {e : TypeId} {g n c : Nat} {xs : List Value} (h : w.ownsRow base e 1 (.slice (some ⟨g, 0, none⟩) n c) n xs) (k : Nat) (hk : k ≤ n) : w.ownsRow base e 1 (.slice (some ⟨g, 0, none⟩) k c) k (xs.take k) := by
  have hl := h.1
  rcases h.2 with ⟨e, _⟩ | ⟨g', cap, cur, e, hb, hg, hc, hm, hcs, ht⟩
  · cases e
  · cases e
    refine ⟨by rw [List.length_take]; omega, .inr ⟨g, c, cur, rfl, hb, hg, by omega, hm, hcs, ?_⟩⟩
    rw [Nat.mul_one] at ht ⊢
    rw [← ht, List.take_take, Nat.min_eq_left hk]

/-- A slice's tail can be read. -/
theorem own_tail {w : World} {base : Nat} {e : TypeId} {g n c : Nat} {xs : List Int} (h : w.ownsRow base e 1 (.slice (some ⟨g, 0, none⟩) n c) n (xs.map (Value.int .i64))) (k : Nat) : RowK .i64 w (some ⟨g, k, none⟩) (xs.drop k) := by
  obtain ⟨a, c', e, hr, _⟩ := row_of_own h
  cases e
  rcases hr with ⟨e, _⟩ | ⟨x, e, hx⟩
  · cases e
  · cases e
    refine .inr ⟨_, rfl, fun i hi => ?_⟩
    rw [List.length_drop] at hi
    have := hx (k + i) (by omega)
    rw [add_plain, Nat.zero_add] at this
    rw [add_plain, this, List.getD_eq_getElem?_getD, List.getD_eq_getElem?_getD, List.getElem?_drop]
theorem row_empty (k : IntKind) (w : World) (x : Addr) : RowK k w (some x) [] := .inr ⟨x, rfl, fun _i hi => absurd hi (Nat.not_lt_zero _)⟩
theorem row_one (w : World) (x : Int) (t : TypeId) : RowK .i64 (w.alloc (.cells #[.int .i64 x] t)) (some ⟨w.heap.size, 0, none⟩) [x] := by
  refine .inr ⟨_, rfl, fun i hi => ?_⟩
  obtain rfl : i = 0 := by simpa using hi
  exact cell_one_new w (.int .i64 x) t 0 _ rfl
theorem own_apart {w : World} {B n g : Nat} {e : TypeId} {v : Value} {xs : List Value} (h : w.ownsRow B e 1 v n xs) (hg : g < B) : v.ownBlock = none ∨ v.ownBlock ≠ some g := by
  cases hv : v.ownBlock with
  | none => exact .inl rfl
  | some k =>
    refine .inr fun e => ?_
    have := (h.lt k hv).1
    cases e
    omega

theorem below_step {B : Nat} {w0 wr W w1 : World} {o : Obj} {row : Option Nat} (hb : Below B w0 wr) (hg : (W.alloc o).grownBy w1 row) (hB : B ≤ wr.heap.size) (hrow : ∀ k, row = some k → B ≤ k) (e : W.heap = wr.heap ∧ W.os = wr.os ∧ W.tape = wr.tape ∧ W.output = wr.output) : Below B w0 w1 := by
  have hW : Below B w0 W := ⟨e.2.1.trans hb.os, e.2.2.1.trans hb.tape, e.2.2.2.trans hb.output, by rw [e.1]; exact hb.size, fun k hk => by rw [e.1]; exact hb.block k hk⟩
  exact (hW.grown (World.grownBy_alloc W o none) (by rw [e.1]; exact hB) (fun k hk => by cases hk)).grown hg (by simp [e.1]; omega) hrow
theorem cell_heap {w W : World} (e : W.heap = w.heap) (a : Addr) : W.cell? a = w.cell? a := World.cell?_of_block (by rw [e])
theorem kept_like {w W w' : World} {base n : Nat} {e : TypeId} {size : Nat} {v : Value} {xs : List Value} {row : Option Nat} (h : w.ownsRow base e size v n xs) (hg : W.grownBy w' row) (eh : W.heap = w.heap) (hne : v.ownBlock = none ∨ v.ownBlock ≠ row) : w'.ownsRow base e size v n xs := by
  have hW : W.ownsRow base e size v n xs := by
    unfold World.ownsRow at h ⊢
    rw [eh]
    exact h
  exact hW.kept hg hne
theorem row_like {k : IntKind} {w W : World} {a : Option Addr} {xs : List Int} (h : RowK k w a xs) (e : W.heap = w.heap) : RowK k W a xs := by
  rcases h with h | ⟨x, h1, h2⟩
  · exact .inl h
  · exact .inr ⟨x, h1, fun i hi => (cell_heap e _).trans (h2 i hi)⟩
theorem cell_like {w W w' : World} {row : Option Nat} {a : Addr} {v : Value} (hg : W.grownBy w' row) (e : W.heap = w.heap) (h : w.cell? a = some v) (hne : some a.block ≠ row) : w'.cell? a = some v := hg.cell ((cell_heap e a).trans h) hne
theorem below_like {B : Nat} {w0 wr W w1 : World} {row : Option Nat} (hb : Below B w0 wr) (hg : W.grownBy w1 row) (hB : B ≤ wr.heap.size) (hrow : ∀ k, row = some k → B ≤ k) (e : W.heap = wr.heap ∧ W.os = wr.os ∧ W.tape = wr.tape ∧ W.output = wr.output) : Below B w0 w1 := by
  have hW : Below B w0 W := ⟨e.2.1.trans hb.os, e.2.2.1.trans hb.tape, e.2.2.2.trans hb.output, by rw [e.1]; exact hb.size, fun k hk => by rw [e.1]; exact hb.block k hk⟩
  exact hW.grown hg (by rw [e.1]; exact hB) hrow
theorem own_like {w W : World} {base n : Nat} {e : TypeId} {size : Nat} {v : Value} {xs : List Value} (h : w.ownsRow base e size v n xs) (eh : W.heap = w.heap) : W.ownsRow base e size v n xs := by
  unfold World.ownsRow at h ⊢
  rw [eh]
  exact h
end Go.Proofs.Ytcbgnmkipbhncaa
