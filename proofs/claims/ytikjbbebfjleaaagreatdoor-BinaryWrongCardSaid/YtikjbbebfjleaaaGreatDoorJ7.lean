/-
  WORDS FOR LAYER 4 AND ON, no function of the code: steps of regions that draw, all but two blocks, new slices of ints; SameInts of the reference.
  THE WALKS of layer 1: Numbers (scan's).
-/
import Derived.Test.YtikjbbebfjleaaaGreatDoorJ6
import Derived.Deep.RegionLaw
import Derived.BigQuiet
import Derived.RegionTactic
import Derived.Laws.OwnMore
import Derived.Maps.AppendAt
import Derived.WalkSmall
namespace Go.Proofs.YtikjbbebfjleaaaGreatDoor
open Go.RowKit

theorem atP_getD (xs : List Int) (i : Nat) : xs.getD i 0 = atP xs i := rfl

theorem all_of {xs : List Int} {p : Int → Prop} (h : ∀ j, j < xs.length → p (atP xs j)) : ∀ x ∈ xs, p x := fun x hx => by
  obtain ⟨j, hj, rfl⟩ := List.getElem_of_mem hx
  have := h j hj
  rwa [atP_eq xs j hj] at this

/-- 'append(s, x...)' as a step of a region that draws: s the call's own, x whatever slice of integers. -/
theorem step_append_row {P : Program} (w : World) {ops : Array Oper} {o : Oper} {a : Act} {K : Act → World → Prop} {Q : Exit → Act → World → Prop} {E : Prop} (hgd : o.guard = none) (s x : Operand) (t : TypeId)
    (ho : o.op = .call { callee := .builtin .append, args := #[s, x], argTypes := #[t, t] })
    (k : IntKind) (base : Nat) (e : TypeId) (i : TypeInfo) (z : Value) (bytes : Nat) (ht : P.underlying t = some (.slice e)) (hi : P.info? e = some i) (hz : i.zero = some z)
    (hsize : i.size = 1) (hby : i.bytes = bytes) (hzs : z.cells.size = 1)
    (v : Value) (n : Nat) (xs : List Value) (hs : a.eval s = v) (hown : w.ownsRow base e 1 v n xs)
    (ao : Option Addr) (m c : Nat) (ys : List Int) (hx : a.eval x = .slice ao m c) (hl : ys.length = m) (hr : RowK k w ao ys) (hnc : ao = none → c = 0)
    (h63 : n + m ≤ maxLen) (hbytes : (n + m) * bytes ≤ 140737488355328) (hbase : base ≤ w.heap.size)
    (h : ∀ v' w', w'.ownsRow base e 1 v' (n + m) (xs ++ ys.map (Value.int k)) → w.grownBy w' v.ownBlock → K (a.put o.dst v') w') :
    if Region.wanted o (yielded ops a.tmps) = true then Oper.wp P o a w K Q else E := by
  have hw : Region.wanted o (yielded ops a.tmps) = true := by simp [Region.wanted, hgd]
  rw [if_pos hw]
  rcases hr with ⟨rfl, rfl⟩ | ⟨ad, rfl, hcell⟩
  · obtain rfl : m = 0 := by simpa using hl.symm
    obtain rfl := hnc rfl
    have hrun := run_append_owned_none (P := P) (w := w) base t o.type e i 1 ht hi v n xs hown
    unfold Oper.wp
    simp [execOp, ho, resolve, invoke, builtin, hs, hx, hrun, Result.andThen]
    exact h v w (by simpa using hown) (World.grownBy.refl _ _)
  · exact wp_append_own w s x t ho base e i z 1 bytes ht hi hz hsize hby hzs (by decide) v n xs hs hown ad m c (ys.map (Value.int k)) hx (by simpa using hl) (cells_map hcell) (one_ints k ys) h63 hbytes hbase (fun v' w' h1 h2 _ => h v' w' h1 h2)

/-- A slice's head is the call's own as the slice is. -/
theorem own_prefix {w : World} {base : Nat} {e : TypeId} {g n c : Nat} {xs : List Value} (h : w.ownsRow base e 1 (.slice (some ⟨g, 0, none⟩) n c) n xs) (k : Nat) (hk : k ≤ n) : w.ownsRow base e 1 (.slice (some ⟨g, 0, none⟩) k c) k (xs.take k) := by
  have hl := h.1
  rcases h.2 with ⟨e, _⟩ | ⟨g', cap, cur, e, hb, hg, hc, hm, hcs, ht⟩
  · cases e
  · cases e
    refine ⟨by rw [List.length_take]; omega, .inr ⟨g, c, cur, rfl, hb, hg, by omega, hm, hcs, ?_⟩⟩
    rw [Nat.mul_one] at ht ⊢
    rw [← ht, List.take_take, Nat.min_eq_left hk]

/-- A slice's tail can be read. -/
theorem own_tail {w : World} {base : Nat} {e : TypeId} {g n c : Nat} {xs : List Int} (h : w.ownsRow base e 1 (.slice (some ⟨g, 0, none⟩) n c) n (xs.map (Value.int .i64))) (k : Nat) : RowK .i64 w (some ⟨g, k, none⟩) (xs.drop k) := by
  obtain ⟨a, c', e, hr, _⟩ := row_of_own h
  cases e
  rcases hr with ⟨e, _⟩ | ⟨x, e, hx⟩
  · cases e
  · cases e
    refine .inr ⟨_, rfl, fun i hi => ?_⟩
    rw [List.length_drop] at hi
    have := hx (k + i) (by omega)
    rw [add_plain, Nat.zero_add] at this
    rw [add_plain, this, List.getD_eq_getElem?_getD, List.getD_eq_getElem?_getD, List.getElem?_drop]
theorem row_empty (k : IntKind) (w : World) (x : Addr) : RowK k w (some x) [] := .inr ⟨x, rfl, fun _i hi => absurd hi (Nat.not_lt_zero _)⟩
theorem row_one (w : World) (x : Int) (t : TypeId) : RowK .i64 (w.alloc (.cells #[.int .i64 x] t)) (some ⟨w.heap.size, 0, none⟩) [x] := by
  refine .inr ⟨_, rfl, fun i hi => ?_⟩
  obtain rfl : i = 0 := by simpa using hi
  exact cell_one_new w (.int .i64 x) t 0 _ rfl
theorem own_apart {w : World} {B n g : Nat} {e : TypeId} {v : Value} {xs : List Value} (h : w.ownsRow B e 1 v n xs) (hg : g < B) : v.ownBlock = none ∨ v.ownBlock ≠ some g := by
  cases hv : v.ownBlock with
  | none => exact .inl rfl
  | some k =>
    refine .inr fun e => ?_
    have := (h.lt k hv).1
    cases e
    omega

theorem below_step {B : Nat} {w0 wr W w1 : World} {o : Obj} {row : Option Nat} (hb : Below B w0 wr) (hg : (W.alloc o).grownBy w1 row) (hB : B ≤ wr.heap.size) (hrow : ∀ k, row = some k → B ≤ k) (e : W.heap = wr.heap ∧ W.os = wr.os ∧ W.tape = wr.tape ∧ W.output = wr.output) : Below B w0 w1 := by
  have hW : Below B w0 W := ⟨e.2.1.trans hb.os, e.2.2.1.trans hb.tape, e.2.2.2.trans hb.output, by rw [e.1]; exact hb.size, fun k hk => by rw [e.1]; exact hb.block k hk⟩
  exact (hW.grown (World.grownBy_alloc W o none) (by rw [e.1]; exact hB) (fun k hk => by cases hk)).grown hg (by simp [e.1]; omega) hrow
theorem cell_heap {w W : World} (e : W.heap = w.heap) (a : Addr) : W.cell? a = w.cell? a := World.cell?_of_block (by rw [e])
theorem kept_like {w W w' : World} {base n : Nat} {e : TypeId} {size : Nat} {v : Value} {xs : List Value} {row : Option Nat} (h : w.ownsRow base e size v n xs) (hg : W.grownBy w' row) (eh : W.heap = w.heap) (hne : v.ownBlock = none ∨ v.ownBlock ≠ row) : w'.ownsRow base e size v n xs := by
  have hW : W.ownsRow base e size v n xs := by
    unfold World.ownsRow at h ⊢
    rw [eh]
    exact h
  exact hW.kept hg hne
theorem row_like {k : IntKind} {w W : World} {a : Option Addr} {xs : List Int} (h : RowK k w a xs) (e : W.heap = w.heap) : RowK k W a xs := by
  rcases h with h | ⟨x, h1, h2⟩
  · exact .inl h
  · exact .inr ⟨x, h1, fun i hi => (cell_heap e _).trans (h2 i hi)⟩
theorem cell_like {w W w' : World} {row : Option Nat} {a : Addr} {v : Value} (hg : W.grownBy w' row) (e : W.heap = w.heap) (h : w.cell? a = some v) (hne : some a.block ≠ row) : w'.cell? a = some v := hg.cell ((cell_heap e a).trans h) hne
theorem below_like {B : Nat} {w0 wr W w1 : World} {row : Option Nat} (hb : Below B w0 wr) (hg : W.grownBy w1 row) (hB : B ≤ wr.heap.size) (hrow : ∀ k, row = some k → B ≤ k) (e : W.heap = wr.heap ∧ W.os = wr.os ∧ W.tape = wr.tape ∧ W.output = wr.output) : Below B w0 w1 := by
  have hW : Below B w0 W := ⟨e.2.1.trans hb.os, e.2.2.1.trans hb.tape, e.2.2.2.trans hb.output, by rw [e.1]; exact hb.size, fun k hk => by rw [e.1]; exact hb.block k hk⟩
  exact hW.grown hg (by rw [e.1]; exact hB) hrow
theorem own_like {w W : World} {base n : Nat} {e : TypeId} {size : Nat} {v : Value} {xs : List Value} (h : w.ownsRow base e size v n xs) (eh : W.heap = w.heap) : W.ownsRow base e size v n xs := by
  unfold World.ownsRow at h ⊢
  rw [eh]
  exact h
theorem cell_set_same {w : World} {a : Addr} {u v : Value} (h : w.cell? a = some u) : (w.setCell a v).cell? a = some v := by first | exact World.cell?_setCell_same _ h | exact World.cell?_setCell_same _ _ h | exact World.cell?_setCell_same _ _ _ h
theorem cell_set_other {w : World} {a b : Addr} {v : Value} (h : a ≠ b) : (w.setCell a v).cell? b = w.cell? b := by first | exact World.cell?_setCell_other _ h | exact World.cell?_setCell_other _ _ h | exact World.cell?_setCell_other _ _ _ h | exact World.cell?_setCell_other _ _ _ _ h

/-- All but two blocks stand as they stood. -/
structure Two (p g : Nat) (w w' : World) : Prop where
  os : w'.os = w.os
  tape : w'.tape = w.tape
  output : w'.output = w.output
  size : w.heap.size ≤ w'.heap.size
  block : ∀ k, k < w.heap.size → k ≠ p → k ≠ g → w'.heap[k]? = w.heap[k]?

theorem Two.refl (p g : Nat) (w : World) : Two p g w w := ⟨rfl, rfl, rfl, Nat.le_refl _, fun _ _ _ _ => rfl⟩
theorem Two.trans {p g : Nat} {a b c : World} (h : Two p g a b) (k : Two p g b c) : Two p g a c :=
  ⟨k.os.trans h.os, k.tape.trans h.tape, k.output.trans h.output, Nat.le_trans h.size k.size, fun i hi h1 h2 => (k.block i (Nat.lt_of_lt_of_le hi h.size) h1 h2).trans (h.block i hi h1 h2)⟩
theorem Two.drewN (p g q : Nat) (w : World) : Two p g w (w.drewN q) := ⟨rfl, rfl, rfl, Nat.le_refl _, fun _ _ _ _ => rfl⟩
theorem Two.setL {p g : Nat} {a w : World} (h : Two p g a w) (o : Nat) (v : Value) : Two p g a (w.setCell ⟨p, o, none⟩ v) :=
  ⟨h.os, h.tape, h.output, by simpa using h.size, fun i hi h1 h2 => (heap_setCell_other w ⟨p, o, none⟩ i v h1).trans (h.block i hi h1 h2)⟩
theorem Two.setR {p g : Nat} {a w : World} (h : Two p g a w) (o : Nat) (v : Value) : Two p g a (w.setCell ⟨g, o, none⟩ v) :=
  ⟨h.os, h.tape, h.output, by simpa using h.size, fun i hi h1 h2 => (heap_setCell_other w ⟨g, o, none⟩ i v h2).trans (h.block i hi h1 h2)⟩

theorem Two.below {p g B : Nat} {w0 w w' : World} (h : Two p g w w') (hb : Below B w0 w) (hB : B ≤ w0.heap.size) (hp : B ≤ p) (hg : B ≤ g) : Below B w0 w' :=
  ⟨h.os.trans hb.os, h.tape.trans hb.tape, h.output.trans hb.output, Nat.le_trans hb.size h.size, fun k hk => (h.block k (by have := hb.size; omega) (by omega) (by omega)).trans (hb.block k hk)⟩

theorem own_two {w w' : World} {base p g : Nat} {e : TypeId} {size : Nat} {v : Value} {n : Nat} {xs : List Value} (h : w.ownsRow base e size v n xs) (hb : Two p g w w') (hp : p < base) (hg : g < base) : w'.ownsRow base e size v n xs := by
  have hlt := h.lt
  obtain ⟨h1, h2⟩ := h
  refine ⟨h1, ?_⟩
  rcases h2 with h2 | ⟨k, cap, cur, rfl, hk, hh, r⟩
  · exact .inl h2
  · exact .inr ⟨k, cap, cur, rfl, hk, (hb.block k (hlt k rfl).2 (by omega) (by omega)).trans hh, r⟩

theorem Two.of_below {p g : Nat} {w w' : World} (h : Below w.heap.size w w') : Two p g w w' := ⟨h.os, h.tape, h.output, h.size, fun k hk _ _ => h.block k hk⟩
theorem Two.alloc {p g : Nat} {a w : World} (h : Two p g a w) (o : Obj) : Two p g a (w.alloc o) :=
  h.trans ⟨rfl, rfl, rfl, by simp, fun k hk _ _ => (World.grownBy_alloc w o none).block k hk (by simp)⟩

theorem infoInt : (Tryz.prog.info? 3).map (fun i => (i.zero, i.size, i.bytes)) = some (some (.int .i64 0), 1, 8) := by kernel_rfl

/-- A new slice of ints. -/
def NewInts (w : World) (xs : List Int) (v : Value) (w' : World) : Prop :=
  w'.ownsRow w.heap.size 3 1 v xs.length (xs.map (Value.int .i64)) ∧ Below w.heap.size w w'

theorem below_grow {w w' : World} {v : Value} {w0 : World} {B : Nat} (h : Below B w0 w) (hg : w.grownBy w' v.ownBlock) (hB : B ≤ w.heap.size) (hv : ∀ k, v.ownBlock = some k → B ≤ k) : Below B w0 w' :=
  h.grown hg hB hv

/-- What a function that reads and draws leaves. -/
def Drew (w w' : World) : Prop := ∃ q, w' = w.drewN q
theorem Drew.below {w w' : World} (h : Drew w w') : Below w.heap.size w w' := by obtain ⟨q, rfl⟩ := h; exact ⟨rfl, rfl, rfl, Nat.le_refl _, fun _ _ => rfl⟩
theorem Drew.heap {w w' : World} (h : Drew w w') : w'.heap = w.heap := by obtain ⟨q, rfl⟩ := h; rfl

set_option maxRecDepth 100000 in
set_option maxHeartbeats 400000 in
theorem same_any (a b : Option Addr) (n c m d : Nat) (xs ys : List Int) (w : World) (hr : RowK .i64 w a xs) (hx : xs.length = n) (hs : RowK .i64 w b ys) (hy : ys.length = m) (hn : n ≤ 9223372036854775807) (hm : m ≤ 9223372036854775807) :
    Calls Tryz.prog 18 #[.slice a n c, .slice b m d] w fun e w' => e = .returned (.bool (decide (xs = ys))) ∧ Drew w w' := by
  by_cases hne : n = m
  · subst hne
    have HR := hide hr
    have HX := hide hx
    have HS := hide hs
    have HYL := hide hy
    generalize hP : (fun (e : Ending) (w' : World) => e = .returned (.bool (decide (xs = ys))) ∧ Drew w w') = Post
    have HP := hide hP
    clear hr hx hP hs hy
    go_enter Tryz.func18, Tryz.ntmps18
    go_wp2
    go_loopw [5] (fun i wr => ∃ k : Nat, i = .int .i64 k ∧ k ≤ n ∧ Hid (Drew w wr ∧ ∀ j, j < k → atP xs j = atP ys j)) (fun i _ => n - (intOf i).toNat)
    case atStart => exact ⟨0, rfl, Nat.zero_le _, ⟨0, rfl⟩, fun j hj => absurd hj (Nat.not_lt_zero _)⟩
    case round =>
      obtain ⟨k, rfl, hk, HF⟩ := hrel
      by_cases hlt : k < n
      · obtain ⟨g, off, rfl, -, hcell⟩ := HR.out.addr (by rw [HX.out]; omega)
        obtain ⟨g2, off2, rfl, -, hcell2⟩ := HS.out.addr (by rw [HYL.out]; omega)
        have hc := (cell_heap HF.out.1.heap _).trans (hcell k (by rw [HX.out]; omega))
        have hc2 := (cell_heap HF.out.1.heap _).trans (hcell2 k (by rw [HYL.out]; omega))
        rw [atP_getD] at hc hc2
        obtain ⟨x, HXX⟩ : ∃ x, Hid (x = atP xs k) := ⟨_, rfl⟩
        obtain ⟨y, HYY⟩ : ∃ y, Hid (y = atP ys k) := ⟨_, rfl⟩
        rw [← HXX.out] at hc
        rw [← HYY.out] at hc2
        clear hcell hcell2
        by_cases he : x = y
        · subst he
          go_wp2
          go_quiet (fail)
          go_wp2
          go_roundw
          case rel =>
            refine ⟨k + 1, by go_num, by omega, ?_, fun j hj => ?_⟩
            · obtain ⟨q, e⟩ := HF.out.1
              exact ⟨q + _, by rw [e, World.drewN_drewN]⟩
            · by_cases hjk : j < k
              · exact HF.out.2 j hjk
              · obtain rfl : j = k := by omega
                rw [← HXX.out]; exact HYY.out
          case measure => simp [intOf]; omega
        · have hb : (x == y) = false := by rw [beq_eq_false_iff_ne]; exact he
          have hfin : Hid (∀ q, Post (.returned (.bool false)) (wr.drewN q)) := by
            intro q
            rw [← HP.out]
            refine ⟨ret_bool (decide_eq_false (fun h => he (by rw [HXX.out, HYY.out, h]))).symm, ?_⟩
            obtain ⟨q2, e⟩ := HF.out.1
            exact ⟨q2 + q, by rw [e, World.drewN_drewN]⟩
          go_wp2
          go_quiet (fail)
          go_wp2
          exact hfin.out _
      · obtain rfl : k = n := by omega
        have hfin : Hid (Post (.returned (.bool true)) wr) := by
          show Post (.returned (.bool true)) wr
          rw [← HP.out]
          exact ⟨ret_bool (decide_eq_true (ext_atP xs ys (by rw [HX.out, HYL.out]) (fun i hi => HF.out.2 i (by rw [← HX.out]; exact hi)))).symm, HF.out.1⟩
        go_wp2
        exact hfin.out
  · have e : decide (xs = ys) = false := decide_eq_false (fun h => hne (by rw [← hx, ← hy, h]))
    rw [e]
    have hb : ((n : Int) == (m : Int)) = false := by rw [beq_eq_false_iff_ne]; omega
    go_enter Tryz.func18, Tryz.ntmps18
    go_wp2
    go_ret
    exact ⟨rfl, 0, rfl⟩
end Go.Proofs.YtikjbbebfjleaaaGreatDoor

namespace Go.Proofs.YtikjbbebfjleaaaGreatDoor
open Go.RowKit


theorem fit_no {s : ByteArray} {least most : Int} (h : okW s = false ∨ ((spl s).length : Int) < least ∨ most < (spl s).length) : ¬ nsFit s least most = true := by
  unfold nsFit
  rcases h with h | h | h
  · rw [h]; simp
  · have : decide (least ≤ ((spl s).length : Int)) = false := decide_eq_false (by omega)
    rw [this]; simp
  · have : decide (((spl s).length : Int) ≤ most) = false := decide_eq_false (by omega)
    rw [this]; simp
theorem fit_yes {s : ByteArray} {least most : Int} (h1 : okW s = true) (h2 : least ≤ (spl s).length) (h3 : ((spl s).length : Int) ≤ most) : nsFit s least most = true := by
  unfold nsFit
  rw [h1, decide_eq_true h2, decide_eq_true h3]; rfl

set_option maxHeartbeats 400000 in
theorem numbers_no (s : ByteArray) (least most top : Int) (w : World) (hs : s.size ≤ 100000) (hM : EnvM w) (h : okW s = false ∨ ((spl s).length : Int) < least ∨ most < (spl s).length) :
    Calls Tryz.prog 44 #[.string s, .int .i64 least, .int .i64 most, .int .i64 top] w (NumsPost s least most top w) := by
  have HB := hide (fun w' => nums_bad (top := top) (w := w) (w' := w') (fit_no h))
  cases hok : okW s with
  | false =>
    have H1 := hide (split_no s w hs hM hok)
    clear h hok hM
    go_enter Tryz.func44, Tryz.ntmps44
    go_wp2_with fail
    refine H1.out.mono ?_
    rintro e w1 ⟨rfl, hb⟩
    go_wp2
    go_ret2
    exact HB.out _ hb
  | true =>
    have H1 := hide (split_yes s w hs hM hok)
    have hle := spl_le s
    have h' : ((spl s).length : Int) < least ∨ most < (spl s).length := by rw [hok] at h; simpa using h
    generalize spl s = l at *
    generalize l.length = n at *
    clear h hok hM
    rcases h' with h | h
    all_goals
      go_enter Tryz.func44, Tryz.ntmps44
      go_wp2_with fail
      refine H1.out.mono ?_
      rintro e w1 ⟨rfl, rfl⟩
      go_wp2
      all_goals
        go_ret2
        exact HB.out _ ((Below.refl _ _).alloc (Nat.le_refl _) _)


theorem own_cell {w : World} {base g n cap : Nat} {e : TypeId} {xs : List Value} (h : w.ownsRow base e 1 (.slice (some ⟨g, 0, none⟩) n cap) n xs) {k : Nat} (hk : k < n) : ∃ u, w.cell? ⟨g, k, none⟩ = some u := by
  have hl : xs.length = n := by simpa using h.1
  have h1 := h.cells (g := g) rfl k xs[k] (List.getElem?_eq_getElem (by omega))
  have hplain : (⟨g, 0, none⟩ : Addr).add k = ⟨g, k, none⟩ := by unfold Addr.add; split <;> simp_all
  rw [hplain] at h1
  exact ⟨_, h1⟩

theorem next_row (l : List ByteArray) (top : Int) (k : Nat) (xs xs' : List Value) (h0 : ∀ j, j < k → xs[j]? = some (.int .i64 (numV (l.getD j ByteArray.empty).data.toList top)) ∧ numE (l.getD j ByteArray.empty).data.toList top = 0)
    (h : ∀ j, j < k → xs'[j]? = xs[j]?) (h2 : xs'[k]? = some (.int .i64 (numV (l.getD k ByteArray.empty).data.toList top))) (h3 : numE (l.getD k ByteArray.empty).data.toList top = 0) :
    ∀ j, j < k + 1 → xs'[j]? = some (.int .i64 (numV (l.getD j ByteArray.empty).data.toList top)) ∧ numE (l.getD j ByteArray.empty).data.toList top = 0 := by
  intro j hj
  by_cases e : j < k
  · rw [h j e]; exact h0 j e
  · obtain rfl : j = k := by omega
    exact ⟨h2, h3⟩

set_option maxRecDepth 100000 in
set_option maxHeartbeats 1000000 in
theorem numbers_yes (s : ByteArray) (least most top : Int) (w : World) (hs : s.size ≤ 100000) (hM : EnvM w) (hE : Env w) (ht : top ≤ 9223372036854775807) (hok : okW s = true) (h2 : least ≤ (spl s).length) (h3 : ((spl s).length : Int) ≤ most) :
    Calls Tryz.prog 44 #[.string s, .int .i64 least, .int .i64 most, .int .i64 top] w (NumsPost s least most top w) := by
  obtain ⟨i0, hi, hz0, hz1, hz2⟩ := info_parts infoInt
  have hfit := fit_yes hok h2 h3
  have H1 := hide (split_yes s w hs hM hok)
  have hle := spl_le s
  have HErr := hide (fun w' k => nums_err (top := top) (w := w) (w' := w') hfit k)
  have HOk := hide (fun w' v => nums_ok (top := top) (w := w) (w' := w') (v := v) hfit)
  have HZ := hide (fun j hj => piece_size s j hj)
  clear hM hok hfit
  generalize hP : NumsPost s least most top = Post at *
  clear hP
  generalize spl s = l at *
  obtain ⟨n, hn⟩ : ∃ n, n = l.length := ⟨_, rfl⟩
  rw [← hn] at H1 hle h2 h3 HErr HOk HZ
  have HN := hide hn
  clear hn
  go_enter Tryz.func44, Tryz.ntmps44
  go_wp2_with fail
  refine H1.out.mono ?_
  rintro e w1 ⟨rfl, rfl⟩
  go_wp2_with (at_make; refine wpList_make_full _ rfl (.tmp 37) (.tmp 37) 24 rfl (w.heap.size + 1) 3 i0 (.int .i64 0) 1 Tryz.underlying24 hi hz0 hz1 .i64 .i64 _ _ n rfl rfl rfl rfl (by rw [hz2]; omega) (by unfold maxLen; omega) (by simp) ?_; intro w2 hown2 hg2)
  have hsz1 : (w.alloc (.cells (strC l) 9)).heap.size = w.heap.size + 1 := by simp
  rw [hsz1] at hown2
  have hh2 : w2.heap[w.heap.size]? = some (.cells (strC l) 9 (0, 0)) := (hg2.block _ (by rw [hsz1]; omega) (fun e => by cases e)).trans (heap_new _ _)
  have hb2 : Below w.heap.size w w2 := ((Below.refl _ w).alloc (Nat.le_refl _) _).grown hg2 (by rw [hsz1]; omega) (fun k hk => by cases hk)
  have HO2 := hide hown2
  have HH2 := hide hh2
  have HB2 := hide hb2
  clear hown2 hg2 hsz1 hh2 hb2
  go_loopw [41] (fun i wr => ∃ (k : Nat) (xs : List Value), k ≤ n ∧ i = .int .i64 k ∧ Hid (wr.heap[w.heap.size]? = some (.cells (strC l) 9 (0, 0))) ∧ Hid (wr.ownsRow (w.heap.size + 1) 3 1 (.slice (some ⟨w.heap.size + 1, 0, none⟩) n n) n xs) ∧ Hid (∀ j, j < k → xs[j]? = some (.int .i64 (numV (l.getD j ByteArray.empty).data.toList top)) ∧ numE (l.getD j ByteArray.empty).data.toList top = 0) ∧ Hid (Below w.heap.size w wr)) (fun i _ => n - (intOf i).toNat)
  case atStart => exact ⟨0, _, Nat.zero_le _, rfl, HH2, HO2, fun j hj => absurd hj (Nat.not_lt_zero _), HB2⟩
  case round =>
    obtain ⟨k, xs, hk, rfl, HH, HO, HX, HB⟩ := hrel
    by_cases hlt : k < n
    · have hg := strC_get l k (by rw [← HN.out]; exact hlt)
      have hz := HZ.out k hlt
      have HErrk := hide (fun w' => HErr.out w' k hlt (fun j hj => (HX.out j hj).2))
      have HC := hide (number_any (l.getD k ByteArray.empty) top wr (by omega) ht (hE.below HB.out))
      have HXk := hide (fun xs' (h : ∀ j, j < k → xs'[j]? = xs[j]?) (h2 : xs'[k]? = some (.int .i64 (numV (l.getD k ByteArray.empty).data.toList top))) (h3 : numE (l.getD k ByteArray.empty).data.toList top = 0) => next_row l top k xs xs' HX.out h h2 h3)
      obtain ⟨hc, _⟩ := cells_heap HH.out hg
      generalize l.getD k ByteArray.empty = p at *
      generalize numV p.data.toList top = V at *
      generalize numE p.data.toList top = E at *
      have hB : w.heap.size < wr.heap.size := (Array.getElem?_eq_some_iff.1 HH.out).1
      clear hg hz
      go_wp2_with fail
      refine HC.out.mono ?_
      rintro e w3 ⟨rfl, hb3⟩
      have HB3 := hide (HB.out.trans (hb3.mono HB.out.size))
      have HO3 := hide (own_below HO.out hb3)
      have HH3 := hide ((hb3.block _ hB).trans HH.out)
      clear hb3 hc HC
      by_cases hE0 : E = 0
      · subst hE0
        obtain ⟨u, hu⟩ := own_cell HO3.out hlt
        have hf := World.ownsRow.frozenAt HO3.out k
        have HO4 := hide (HO3.out.stored k (.int .i64 V))
        have HH4 := hide ((Below.heap_setCell w3 ⟨w.heap.size + 1, k, none⟩ (.int .i64 V) w.heap.size (by simp)).trans HH3.out)
        have HB4 := hide (HB3.out.setCell (p := ⟨w.heap.size + 1, k, none⟩) (by simp) (.int .i64 V))
        go_wp2
        go_roundw
        case rel =>
          refine ⟨k + 1, xs.set k (.int .i64 V), by omega, by go_num, HH4, HO4.out.1, HXk.out _ (fun j hj => ?_) ?_ trivial, HB4⟩
          · rw [List.getElem?_set_ne (by omega)]
          · have hl : xs.length = n := by simpa using HO3.out.1
            rw [List.getElem?_set_self (by omega)]
        case measure => simp [intOf]; omega
      · have hE1 : (E == 0) = false := by rw [beq_eq_false_iff_ne]; exact hE0
        go_wp2
        exact HErrk.out _ hE0 HB3.out
    · obtain rfl : k = n := by omega
      go_wp2
      exact HOk.out _ _ (fun j hj => (HX.out j hj).2) (OwnI.of HO.out (Nat.le_succ _) (by rw [vals_length]; exact HN.out) (fun i hi => by
        rw [vals_length] at hi
        rw [vals_get top l i hi]
        exact (HX.out i (by rw [HN.out]; exact hi)).1)) HB.out

theorem numbers_any (s : ByteArray) (least most top : Int) (w : World) (hs : s.size ≤ 100000) (hM : EnvM w) (hE : Env w) (ht : top ≤ 9223372036854775807) :
    Calls Tryz.prog 44 #[.string s, .int .i64 least, .int .i64 most, .int .i64 top] w (NumsPost s least most top w) := by
  by_cases h : okW s = false ∨ ((spl s).length : Int) < least ∨ most < (spl s).length
  · exact numbers_no s least most top w hs hM h
  · have h1 : okW s = true := by
      cases e : okW s
      · exact absurd (.inl e) h
      · rfl
    exact numbers_yes s least most top w hs hM hE ht h1 (by omega) (by omega)
end Go.Proofs.YtikjbbebfjleaaaGreatDoor
