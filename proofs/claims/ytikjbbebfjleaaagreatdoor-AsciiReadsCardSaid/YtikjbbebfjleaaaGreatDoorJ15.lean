/-
  HEAPS, no function of the program: sifting up.
  THE WALKS of a pile of places: its five methods, and which function each is.
-/
import Derived.Test.YtikjbbebfjleaaaGreatDoorJ6
import Derived.Test.YtikjbbebfjleaaaGreatDoorJ7
import Derived.Deep.RegionHeld3
import Derived.Shelf.Abstract
namespace Go.Proofs.YtikjbbebfjleaaaGreatDoor
section
variable {α : Type} [Inhabited α] {lt : α → α → Bool}

/-- All is in order but for place j and its parent; its children stand in order with its parent. -/
def UpP (lt : α → α → Bool) (xs : List α) (j : Nat) : Prop :=
  (∀ p c, (c = 2 * p + 1 ∨ c = 2 * p + 2) → c < xs.length → c ≠ j → lt (atP xs c) (atP xs p) = false) ∧
  ∀ p c, (j = 2 * p + 1 ∨ j = 2 * p + 2) → (c = 2 * j + 1 ∨ c = 2 * j + 2) → c < xs.length → lt (atP xs c) (atP xs p) = false

theorem UpP.swap (O : Weak lt) {xs : List α} {i j : Nat} (h : UpP lt xs j) (hj : j < xs.length) (hij : j = 2 * i + 1 ∨ j = 2 * i + 2) (hlt : lt (atP xs j) (atP xs i) = true) : UpP lt (swpP xs i j) i := by
  obtain ⟨h1, h2⟩ := h
  have hi : i < xs.length := by omega
  refine ⟨fun p c hc hcl hci => ?_, fun p c hp hc hcl => ?_⟩
  · rw [swpP_len] at hcl
    by_cases hpi : p = i
    · subst hpi
      rw [swpP_left _ _ _ hi]
      by_cases hcj : c = j
      · subst hcj; rw [swpP_right _ _ _ hj]; exact O.asymm _ _ hlt
      · rw [swpP_other _ _ _ _ hci hcj]
        exact O.trans _ _ _ (O.asymm _ _ hlt) (h1 p c hc hcl hcj)
    · by_cases hpj : p = j
      · subst hpj
        rw [swpP_right _ _ _ hj, swpP_other _ _ _ _ hci (by omega)]
        exact h2 i c hij hc hcl
      · rw [swpP_other _ _ _ p hpi hpj, swpP_other _ _ _ c hci (by omega)]
        exact h1 p c hc hcl (by omega)
  · rw [swpP_len] at hcl
    rw [swpP_other _ _ _ p (by omega) (by omega)]
    by_cases hcj : c = j
    · subst hcj
      rw [swpP_right _ _ _ hj]
      exact h1 p i hp hi (by omega)
    · rw [swpP_other _ _ _ c (by omega) hcj]
      exact O.trans _ _ _ (h1 p i hp hi (by omega)) (h1 i c hc hcl hcj)

theorem UpP.done {xs : List α} {j : Nat} (h : UpP lt xs j) (hd : ∀ p, (j = 2 * p + 1 ∨ j = 2 * p + 2) → j < xs.length → lt (atP xs j) (atP xs p) = false) : HeapP lt xs := fun p c hc hcl => by
  by_cases e : c = j
  · subst e; exact hd p hc hcl
  · exact h.1 p c hc hcl e

theorem up_start {xs : List α} (h : HeapP lt xs) (x : α) : UpP lt (xs ++ [x]) xs.length := by
  have e : ∀ m, m < xs.length → atP (xs ++ [x]) m = atP xs m := fun m hm => by simp [atP, List.getD_eq_getElem?_getD, List.getElem?_append_left hm]
  refine ⟨fun p c hc hcl hne => ?_, fun p c hp hc hcl => ?_⟩
  · rw [List.length_append, List.length_singleton] at hcl
    rw [e c (by omega), e p (by omega)]
    exact h p c hc (by omega)
  · rw [List.length_append, List.length_singleton] at hcl
    omega

theorem heap_nil : HeapP lt ([] : List α) := fun _ _c _ hc => absurd hc (Nat.not_lt_zero _)
end
def ltN (a b : Int) : Bool := decide (a < b)
theorem weakN : Weak ltN where
  asymm a b h := by unfold ltN at *; simp at *; omega
  trans a b c h1 h2 := by unfold ltN at *; simp at *; omega
end Go.Proofs.YtikjbbebfjleaaaGreatDoor

namespace Go.Proofs.YtikjbbebfjleaaaGreatDoor
open Go.RowKit

/-- The order of a pile of places: the least on top. -/
def leastV : Value := .func (.func 177) #[] #[]

set_option maxHeartbeats 400000 in
theorem least1_any (x y : Int) (w : World) : Calls Tryz.prog 177 #[.int .i64 x, .int .i64 y] w fun e w' => e = .returned (.bool (ltN x y)) ∧ w' = w := by
  unfold ltN
  go_enter Tryz.func177, Tryz.ntmps177
  go_wp2
  go_ret
  exact ⟨rfl, rfl⟩

theorem eLen : ∀ args w, (callFunc 145 args).run Tryz.prog w = .ok (.enter 145 args) w := enters_of Tryz.func145 (by kernel_rfl) rfl
theorem eLess : ∀ args w, (callFunc 213 args).run Tryz.prog w = .ok (.enter 213 args) w := enters_of Tryz.func213 (by kernel_rfl) rfl
theorem eSwap : ∀ args w, (callFunc 216 args).run Tryz.prog w = .ok (.enter 216 args) w := enters_of Tryz.func216 (by kernel_rfl) rfl
theorem ePop : ∀ args w, (callFunc 214 args).run Tryz.prog w = .ok (.enter 214 args) w := enters_of Tryz.func214 (by kernel_rfl) rfl
theorem ePush : ∀ args w, (callFunc 215 args).run Tryz.prog w = .ok (.enter 215 args) w := enters_of Tryz.func215 (by kernel_rfl) rfl

set_option maxHeartbeats 400000 in
theorem plLen (q : Nat) (a : Option Addr) (n c : Nat) (w : World) (h0 : w.cell? ⟨q, 0, none⟩ = some (.slice a n c)) : Calls Tryz.prog 145 #[.pointer (some ⟨q, 0, none⟩)] w fun e w' => e = .returned (.int .i64 n) ∧ w' = w := by
  go_enter Tryz.func145, Tryz.ntmps145
  go_wp2
  go_ret
  exact ⟨rfl, rfl⟩

set_option maxHeartbeats 2000000 in
theorem plLess (q g n c : Nat) (w : World) (i j : Nat) (x y : Int) (h0 : w.cell? ⟨q, 0, none⟩ = some (.slice (some ⟨g, 0, none⟩) n c)) (h1 : w.cell? ⟨q, 1, none⟩ = some leastV) (hi : i < n) (hj : j < n) (_hn : n ≤ 1152921504606846976) (hx : w.cell? ⟨g, i, none⟩ = some (.int .i64 x)) (hy : w.cell? ⟨g, j, none⟩ = some (.int .i64 y)) :
    Calls Tryz.prog 213 #[.pointer (some ⟨q, 0, none⟩), .int .i64 i, .int .i64 j] w fun e w' => e = .returned (.bool (ltN x y)) ∧ ∃ r, w' = w.drewN r := by
  unfold leastV at h1
  go_enter Tryz.func213, Tryz.ntmps213
  go_wp2
  go_quiet (first | (go_at_call 177; refine Calls.quiet_of_same (least1_any x y _)))
  go_wp2
  go_ret
  exact ⟨rfl, nq, rfl⟩

set_option maxRecDepth 100000 in
set_option maxHeartbeats 4000000 in
theorem plSwap (q g n c : Nat) (w : World) (i j : Nat) (x y : Int) (h0 : w.cell? ⟨q, 0, none⟩ = some (.slice (some ⟨g, 0, none⟩) n c)) (hi : i < n) (hj : j < n) (_hn : n ≤ 1152921504606846976) (hx : w.cell? ⟨g, i, none⟩ = some (.int .i64 x)) (hy : w.cell? ⟨g, j, none⟩ = some (.int .i64 y)) (fi : w.frozen? ⟨g, i, none⟩ = false) (fj : w.frozen? ⟨g, j, none⟩ = false) :
    Calls Tryz.prog 216 #[.pointer (some ⟨q, 0, none⟩), .int .i64 i, .int .i64 j] w fun e w' => e = .returned (.tuple #[]) ∧ ∃ r, w' = ((w.setCell ⟨g, i, none⟩ (.int .i64 y)).setCell ⟨g, j, none⟩ (.int .i64 x)).drewN r := by
  obtain ⟨v1, e1⟩ := cell?_setCell_some (w := w) (p := ⟨g, i, none⟩) (x := .int .i64 y) (q := ⟨g, j, none⟩) hy
  go_enter Tryz.func216, Tryz.ntmps216
  go_wp2
  go_region
  all_goals (try go_wp2)
  all_goals go_end0
  all_goals exact ⟨rfl, 1, rfl⟩

set_option maxHeartbeats 2000000 in
theorem plPop (q g n c : Nat) (w : World) (h0 : w.cell? ⟨q, 0, none⟩ = some (.slice (some ⟨g, 0, none⟩) (n + 1) c)) (f0 : w.frozen? ⟨q, 0, none⟩ = false) (x : Int) (_hn : n ≤ 1152921504606846976) (hc : n + 1 ≤ c) (_hc2 : c ≤ 9223372036854775807) (hx : w.cell? ⟨g, n, none⟩ = some (.int .i64 x)) :
    Calls Tryz.prog 214 #[.pointer (some ⟨q, 0, none⟩)] w fun e w' => e = .returned (.iface 3 (.int .i64 x)) ∧ w' = w.setCell ⟨q, 0, none⟩ (.slice (some ⟨g, 0, none⟩) n c) := by
  go_enter Tryz.func214, Tryz.ntmps214
  go_wp2
  go_ret
  exact ⟨rfl, rfl⟩

theorem isI (w : World) (x : Int) : (Instr.typeAssert (.iface 3 (.int .i64 x)) 20 3 false).run Tryz.prog w = .ok (.int .i64 x) w := by kernel_rfl
theorem step_append_at {P : Program} (w : World) {ops : Array Oper} {o : Oper} {a : Act} {K : Act → World → Prop} {Q : Exit → Act → World → Prop} {E : Prop} (hgd : o.guard = none) (s x : Operand) (t : TypeId)
    (ho : o.op = .call { callee := .builtin .append, args := #[s, x], argTypes := #[t, t] })
    (base : Nat) (e : TypeId) (i : TypeInfo) (z : Value) (size bytes : Nat) (ht : P.underlying t = some (.slice e)) (hi : P.info? e = some i) (hz : i.zero = some z)
    (hsize : i.size = size) (hby : i.bytes = bytes) (hzs : z.cells.size = size) (hsz : 0 < size)
    (v : Value) (n : Nat) (xs : List Value) (hs : a.eval s = v) (hown : w.ownsRow base e size v n xs)
    (ad : Addr) (m c : Nat) (news : List Value) (hx : a.eval x = .slice (some ad) m c) (hl : news.length = m * size) (hnews : ∀ j u, news[j]? = some u → w.cell? (ad.add j) = some u) (h1 : ∀ u ∈ news, u.oneCell' = true)
    (h63 : n + m ≤ maxLen) (hbytes : (n + m) * bytes ≤ 140737488355328) (hbase : base ≤ w.heap.size)
    (h : ∀ v' w', w'.ownsRow base e size v' (n + m) (xs ++ news) → w.grownBy w' v.ownBlock → (v'.ownBlock = v.ownBlock ∨ v'.ownBlock = some w.heap.size) → K (a.put o.dst v') w') :
    if Region.wanted o (yielded ops a.tmps) = true then Oper.wp P o a w K Q else E := by
  have hw : Region.wanted o (yielded ops a.tmps) = true := by simp [Region.wanted, hgd]
  rw [if_pos hw]
  obtain ⟨v', w', hr, h2, h3, _, h5⟩ := run_append_own_at (P := P) w base t o.type e i z size bytes ht hi hz hsize hby hzs hsz v n xs hown ad m c news hl hnews h1 h63 hbytes hbase
  unfold Oper.wp execOp
  simp only [ho, resolve, invoke, builtin, Sem.run_bind, Sem.run_pure, Result.andThen_ok, List.map_toArray, List.map_cons, List.map_nil, hs, hx, hr]
  exact h v' w' h2 h3 h5


theorem frozen_like {w W w' : World} {row : Option Nat} {a : Addr} (hg : W.grownBy w' row) (e : W.heap = w.heap) (hlt : a.block < w.heap.size) (h : w.frozen? a = false) (hne : some a.block ≠ row) : w'.frozen? a = false := by
  rw [World.frozen?_of_block (w := W) (hg.block a.block (by rw [e]; exact hlt) hne)]
  rw [World.frozen?_of_block (w := w) (by rw [e])]
  exact h

theorem own_form {w : World} {B n size : Nat} {e : TypeId} {v : Value} {xs : List Value} (h : w.ownsRow B e size v n xs) : ∃ a c, v = .slice a n c := by
  rcases h.2 with ⟨rfl, rfl⟩ | ⟨g, cap, cur, rfl, -⟩
  · exact ⟨_, _, rfl⟩
  · exact ⟨_, _, rfl⟩

/-- All but the blocks of S stand as they stood. -/
structure Kept (S : Nat → Prop) (w w' : World) : Prop where
  os : w'.os = w.os
  tape : w'.tape = w.tape
  output : w'.output = w.output
  size : w.heap.size ≤ w'.heap.size
  block : ∀ k, k < w.heap.size → ¬ S k → w'.heap[k]? = w.heap[k]?

theorem Kept.refl (S : Nat → Prop) (w : World) : Kept S w w := ⟨rfl, rfl, rfl, Nat.le_refl _, fun _ _ _ => rfl⟩
theorem Kept.trans {S T : Nat → Prop} {a b c : World} (h : Kept S a b) (k : Kept T b c) (hT : ∀ i, i < a.heap.size → T i → S i) : Kept S a c :=
  ⟨k.os.trans h.os, k.tape.trans h.tape, k.output.trans h.output, Nat.le_trans h.size k.size, fun i hi hs => (k.block i (Nat.lt_of_lt_of_le hi h.size) (fun ht => hs (hT i hi ht))).trans (h.block i hi hs)⟩
theorem Kept.mono {S T : Nat → Prop} {a b : World} (h : Kept S a b) (hST : ∀ i, S i → T i) : Kept T a b := ⟨h.os, h.tape, h.output, h.size, fun i hi hs => h.block i hi (fun x => hs (hST i x))⟩
theorem Kept.below {S : Nat → Prop} {w0 w w' : World} {B : Nat} (h : Kept S w w') (hb : Below B w0 w) (hB : B ≤ w.heap.size) (hS : ∀ k, S k → B ≤ k) : Below B w0 w' :=
  ⟨h.os.trans hb.os, h.tape.trans hb.tape, h.output.trans hb.output, Nat.le_trans hb.size h.size, fun k hk => (h.block k (by omega) (fun hs => by have := hS k hs; omega)).trans (hb.block k hk)⟩
theorem Kept.own {S : Nat → Prop} {w w' : World} {base : Nat} {e : TypeId} {size : Nat} {v : Value} {n : Nat} {xs : List Value} (h : Kept S w w') (ho : w.ownsRow base e size v n xs) (hS : ∀ b, v.ownBlock = some b → ¬ S b) : w'.ownsRow base e size v n xs := by
  have hlt := ho.lt
  obtain ⟨h1, h2⟩ := ho
  refine ⟨h1, ?_⟩
  rcases h2 with h2 | ⟨k, cap, cur, rfl, hk, hh, r⟩
  · exact .inl h2
  · exact .inr ⟨k, cap, cur, rfl, hk, (h.block k (hlt k rfl).2 (hS k rfl)).trans hh, r⟩
theorem Kept.drew {S : Nat → Prop} {a w : World} (h : Kept S a w) (r : Nat) : Kept S a (w.drewN r) := ⟨h.os, h.tape, h.output, h.size, h.block⟩
theorem Kept.set {S : Nat → Prop} {a w : World} (h : Kept S a w) (g o : Nat) (v : Value) (hg : S g) : Kept S a (w.setCell ⟨g, o, none⟩ v) :=
  ⟨h.os, h.tape, h.output, by simpa using h.size, fun i hi hs => (heap_setCell_other w ⟨g, o, none⟩ i v (fun e => hs (by rw [e]; exact hg))).trans (h.block i hi hs)⟩
theorem Kept.grown {S : Nat → Prop} {a w w' : World} {row : Option Nat} (h : Kept S a w) (hg : w.grownBy w' row) (hr : ∀ k, row = some k → k < a.heap.size → S k) : Kept S a w' :=
  ⟨hg.os.trans h.os, hg.tape.trans h.tape, hg.output.trans h.output, Nat.le_trans h.size hg.size, fun i hi hs => (hg.block i (Nat.lt_of_lt_of_le hi h.size) (fun e => hs (hr i e.symm hi))).trans (h.block i hi hs)⟩
theorem Kept.of_below {S : Nat → Prop} {a w : World} (h : Below a.heap.size a w) : Kept S a w := ⟨h.os, h.tape, h.output, h.size, fun i hi _ => h.block i hi⟩

/-- The pile whose head lies in block q holds xs. -/
structure Pile (B q : Nat) (v : Value) (xs : List Int) (w : World) : Prop where
  c0 : w.cell? ⟨q, 0, none⟩ = some v
  c1 : w.cell? ⟨q, 1, none⟩ = some leastV
  f0 : w.frozen? ⟨q, 0, none⟩ = false
  own : w.ownsRow B 3 1 v xs.length (xs.map (Value.int .i64))
  ne : v.ownBlock ≠ some q

theorem Pile.kept {B q : Nat} {v : Value} {xs : List Int} {w w' : World} {S : Nat → Prop} (h : Pile B q v xs w) (hk : Kept S w w') (hq : ¬ S q) (hv : ∀ b, v.ownBlock = some b → ¬ S b) : Pile B q v xs w' := by
  have hl := World.block_lt_of_cell? w _ h.c0
  have hb := hk.block q hl hq
  exact ⟨(World.cell?_of_block (w := w) hb).trans h.c0, (World.cell?_of_block (w := w) hb).trans h.c1, (World.frozen?_of_block (w := w) hb).trans h.f0, hk.own h.own hv, h.ne⟩
theorem Pile.blk {B q : Nat} {v : Value} {xs : List Int} {w : World} (h : Pile B q v xs w) : q < w.heap.size := World.block_lt_of_cell? w _ h.c0

/-- What a push, or a pop, leaves. -/
structure Moved (B q : Nat) (v v1 : Value) (xs : List Int) (w w' : World) : Prop where
  pile : Pile B q v1 xs w'
  kept : Kept (fun k => k = q ∨ v.ownBlock = some k) w w'
  at_ : v1.ownBlock = v.ownBlock ∨ ∃ b, v1.ownBlock = some b ∧ w.heap.size ≤ b
  rest : ∀ o, 0 < o → w'.cell? ⟨q, o, none⟩ = w.cell? ⟨q, o, none⟩

theorem cell_head (q o : Nat) (w : World) (v : Value) (ho : 0 < o) : (w.setCell ⟨q, 0, none⟩ v).cell? ⟨q, o, none⟩ = w.cell? ⟨q, o, none⟩ := cell_set_other (fun e => by cases e; omega)

theorem push_end {B q n : Nat} {v v4 : Value} {xs : List Int} {x : Int} {w W w4 : World} {o : Obj} {r : Nat} (h : Pile B q v xs w) (e : W.heap = (w.alloc o).heap ∧ W.os = w.os ∧ W.tape = w.tape ∧ W.output = w.output) (hg : W.grownBy w4 v.ownBlock) (hown : w4.ownsRow B 3 1 v4 (n + 1) (xs.map (Value.int .i64) ++ [.int .i64 x])) (hn : xs.length = n) (hat : v4.ownBlock = v.ownBlock ∨ v4.ownBlock = some W.heap.size) :
    Moved B q v v4 (xs ++ [x]) w ((w4.setCell ⟨q, 0, none⟩ v4).drewN r) := by
  have hql := h.blk
  have hWs : W.heap.size = w.heap.size + 1 := by rw [e.1]; simp
  have hk4 : Kept (fun k => k = q ∨ v.ownBlock = some k) w w4 := by
    refine ⟨hg.os.trans e.2.1, hg.tape.trans e.2.2.1, hg.output.trans e.2.2.2, by have := hg.size; omega, fun k hk hs => ?_⟩
    rw [hg.block k (by omega) (fun h => hs (.inr h.symm)), e.1]
    exact (World.grownBy_alloc w o none).block k hk (by simp)
  have hnq : v4.ownBlock ≠ some q := by
    rcases hat with h1 | h1
    · rw [h1]; exact h.ne
    · rw [h1]; intro h2; have := Option.some.inj h2; omega
  have hbq : w4.heap[q]? = w.heap[q]? := by
    rw [hg.block q (by omega) (fun h1 => h.ne h1.symm), e.1]
    exact (World.grownBy_alloc w o none).block q hql (by simp)
  have hc4 : w4.cell? ⟨q, 0, none⟩ = some v := (World.cell?_of_block (w := w) hbq).trans h.c0
  have hf4 : w4.frozen? ⟨q, 0, none⟩ = false := (World.frozen?_of_block (w := w) hbq).trans h.f0
  refine ⟨⟨cell_set_same hc4, ((cell_head q 1 w4 v4 (by decide)).trans (World.cell?_of_block (w := w) hbq)).trans h.c1, by simpa using hf4, ?_, hnq⟩, (hk4.set q 0 v4 (.inl rfl)).drew r, ?_, fun o ho => ?_⟩
  · rw [List.length_append, List.length_singleton, hn, List.map_append]
    refine Kept.own (S := fun k => k = q) (w := w4) ?_ hown (fun b hb hs => hnq (by rw [hb, hs]))
    exact ((Kept.refl (fun k => k = q) w4).set q 0 v4 rfl).drew r
  · rcases hat with h1 | h1
    · exact .inl h1
    · exact .inr ⟨_, h1, by omega⟩
  · exact (cell_head q o w4 v4 ho).trans (World.cell?_of_block (w := w) hbq)

set_option maxRecDepth 100000 in
set_option maxHeartbeats 4000000 in
theorem plPush (q B : Nat) (v : Value) (xs : List Int) (x : Int) (w : World) (h : Pile B q v xs w) (hB : B ≤ w.heap.size) (hn : xs.length ≤ 1000000) :
    Calls Tryz.prog 215 #[.pointer (some ⟨q, 0, none⟩), .iface 3 (.int .i64 x)] w fun e w' => e = .returned (.tuple #[]) ∧ ∃ v1, Moved B q v v1 (xs ++ [x]) w w' := by
  obtain ⟨i0, hi, hz0, hz1, hz2⟩ := info_parts infoInt
  have hty := fun W => isI W x
  have hql := h.blk
  have h0 := h.c0
  have f0 := h.f0
  have HPile := hide h
  obtain ⟨n, hnn⟩ : ∃ n, n = xs.length := ⟨_, rfl⟩
  rw [← hnn] at hn
  have HO : Hid (w.ownsRow B 3 1 v n (xs.map (Value.int .i64))) := by rw [hnn]; exact h.own
  have HQ : Hid (some q ≠ v.ownBlock) := fun e => h.ne e.symm
  have HN := hide hnn
  have HC : Hid ((w.alloc (.cells #[.int .i64 x] 3)).cell? ⟨q, 0, none⟩ = some v) := (World.grownBy_alloc w _ none).cell h0 (by simp)
  have HF : Hid ((w.alloc (.cells #[.int .i64 x] 3)).frozen? ⟨q, 0, none⟩ = false) := frozen_like (World.grownBy_alloc w _ none) rfl hql f0 (by simp)
  obtain ⟨a, c, ev⟩ : ∃ a c, v = .slice a n c := by obtain ⟨a, c, e, -⟩ := row_of_own HO.out; exact ⟨a, c, e⟩
  subst ev
  clear h hnn
  go_enter Tryz.func215, Tryz.ntmps215
  go_wp2
  go_region_law ((refine step_append_at _ (by rfl) (.tmp 8) (.tmp 11) 24 (by rfl) B 3 i0 (.int .i64 0) 1 8 Tryz.underlying24 hi hz0 hz1 hz2 (by rfl) (by decide) (.slice a n c) n (xs.map (Value.int .i64)) (by simp [Act.eval]) (own_like (HO.out.alloc (.cells #[.int .i64 x] 3)) rfl) ⟨w.heap.size, 0, none⟩ 1 1 [.int .i64 x] (by simp [Act.eval]) (by rfl) (fun j u hu => (cell_heap rfl _).trans (cell_one_new w (.int .i64 x) 3 j u hu)) (by intro u hu; simp at hu; subst hu; rfl) (by unfold maxLen; omega) (by omega) (by simp; omega) ?_; intro v4 w4 hown4 hg4 hat4; obtain ⟨a4, c4, rfl⟩ := own_form hown4; have hc4 : w4.cell? ⟨q, 0, none⟩ = some (.slice a n c) := cell_like hg4 rfl HC.out HQ.out; have hf4 : w4.frozen? ⟨q, 0, none⟩ = false := frozen_like hg4 rfl (by simp; omega) HF.out HQ.out))
  all_goals (try go_wp2)
  all_goals go_end0
  all_goals exact ⟨rfl, _, push_end (r := 0) HPile.out ⟨by rfl, by rfl, by rfl, by rfl⟩ hg4 hown4 HN.out.symm hat4⟩
end Go.Proofs.YtikjbbebfjleaaaGreatDoor
