/-
  THE WALK of a new reach.
-/
import Derived.Test.YtppaifckiaaffaaConeM
namespace Go.Proofs.Ytppaifckiaaffaa
open Go.RowKit

def upd {α : Type} (f : Nat → α) (v : Nat) (x : α) : Nat → α := fun u => if u = v then x else f u
theorem upd_same {α : Type} (f : Nat → α) (v : Nat) (x : α) : upd f v x v = x := if_pos rfl
theorem upd_other {α : Type} (f : Nat → α) {v u : Nat} (x : α) (h : u ≠ v) : upd f v x u = f u := if_neg h

/-- A new reach while it is filled. -/
structure NR (w0 : World) (c : CV) (r pq gv n : Nat) (th : Nat → Bool) (ov : Nat → Value) (on : Nat → List Int) (w : World) : Prop where
  below : Below w0.heap.size w0 w
  box : Box w w0.heap.size c
  rc : w.heap[r]? = some (.cells #[.slice (some ⟨gv, 0, none⟩) n n, .pointer (some ⟨pq, 0, none⟩)] 116 (0, 0))
  pc : w.heap[pq]? = some (.cells #[.slice none 0 0, leastV] 135 (0, 0))
  ct : ∀ v, v < n → w.cell? ⟨gv, v * 3, none⟩ = some (.bool (th v))
  cf : ∀ v, v < n → w.cell? ⟨gv, v * 3 + 1, none⟩ = some (.bool false)
  co : ∀ v, v < n → w.cell? ⟨gv, v * 3 + 2, none⟩ = some (ov v)
  fz : ∀ o, w.frozen? ⟨gv, o, none⟩ = false
  rows : ∀ v, v < n → ∃ a k, ov v = .slice a (on v).length k ∧ RowK .i64 w a (on v) ∧ ∀ x, a = some x → x.block < w.heap.size ∧ x.block ≠ gv ∧ x.block ≠ pq
  lt : gv < w.heap.size ∧ r ≠ pq ∧ r ≠ gv ∧ pq ≠ gv ∧ w0.heap.size < r ∧ w0.heap.size < pq ∧ w0.heap.size < gv

section
variable {w0 w : World} {c : CV} {r pq gv n : Nat} {th : Nat → Bool} {ov : Nat → Value} {on : Nat → List Int}

theorem NR.rl (h : NR w0 c r pq gv n th ov on w) : r < w.heap.size := (Array.getElem?_eq_some_iff.1 h.rc).1
theorem NR.pl (h : NR w0 c r pq gv n th ov on w) : pq < w.heap.size := (Array.getElem?_eq_some_iff.1 h.pc).1
theorem NR.cell0 (h : NR w0 c r pq gv n th ov on w) : w.cell? ⟨r, 0, none⟩ = some (.slice (some ⟨gv, 0, none⟩) n n) := cell_of_row w r 0 _ _ (0, 0) h.rc
theorem NR.below' {w' : World} (h : NR w0 c r pq gv n th ov on w) (hb : Below w.heap.size w w') : NR w0 c r pq gv n th ov on w' := by
  have e2 : ∀ o, w'.cell? ⟨gv, o, none⟩ = w.cell? ⟨gv, o, none⟩ := fun o => World.cell?_of_block (hb.block gv h.lt.1)
  refine ⟨belowThen h.below hb, h.box.below hb, (hb.block r h.rl).trans h.rc, (hb.block pq h.pl).trans h.pc, fun v hv => (e2 _).trans (h.ct v hv), fun v hv => (e2 _).trans (h.cf v hv), fun v hv => (e2 _).trans (h.co v hv), fun o => (World.frozen?_of_block (hb.block gv h.lt.1)).trans (h.fz o), fun v hv => ?_, ⟨Nat.lt_of_lt_of_le h.lt.1 hb.size, h.lt.2⟩⟩
  obtain ⟨a, k, e, hr, hx⟩ := h.rows v hv
  exact ⟨a, k, e, hr.below hb, fun x hx2 => ⟨Nat.lt_of_lt_of_le (hx x hx2).1 hb.size, (hx x hx2).2⟩⟩
theorem below_same {w w' : World} (e : w'.heap = w.heap) (h : w'.os = w.os ∧ w'.tape = w.tape ∧ w'.output = w.output) : Below w.heap.size w w' := ⟨h.1, h.2.1, h.2.2, by rw [e]; exact Nat.le_refl _, fun k _ => by rw [e]⟩

theorem set3_alloc {W : World} {gv i j k : Nat} {x y z : Value} {o : Obj} (h : gv < W.heap.size) : (((W.setCell ⟨gv, i, none⟩ x).setCell ⟨gv, j, none⟩ y).setCell ⟨gv, k, none⟩ z).alloc o = (((W.alloc o).setCell ⟨gv, i, none⟩ x).setCell ⟨gv, j, none⟩ y).setCell ⟨gv, k, none⟩ z := by
  rw [World.setCell_alloc_past o gv i x h, World.setCell_alloc_past (w := W.setCell ⟨gv, i, none⟩ x) o gv j y (by simpa using h), World.setCell_alloc_past (w := (W.setCell ⟨gv, i, none⟩ x).setCell ⟨gv, j, none⟩ y) o gv k z (by simpa using h)]

/-- A variable's cells written. -/
theorem NR.put (h : NR w0 c r pq gv n th ov on w) {v : Nat} (hv : v < n) (a : Option Addr) (k : Nat) (L : List Int) (hr : RowK .i64 w a L) (ha : ∀ x, a = some x → x.block < w.heap.size ∧ x.block ≠ gv ∧ x.block ≠ pq) :
    NR w0 c r pq gv n (upd th v true) (upd ov v (.slice a L.length k)) (upd on v L) (((w.setCell ⟨gv, v * 3, none⟩ (.bool true)).setCell ⟨gv, v * 3 + 1, none⟩ (.bool false)).setCell ⟨gv, v * 3 + 2, none⟩ (.slice a L.length k)) := by
  have hk : Kept (fun b => b = gv) w (((w.setCell ⟨gv, v * 3, none⟩ (.bool true)).setCell ⟨gv, v * 3 + 1, none⟩ (.bool false)).setCell ⟨gv, v * 3 + 2, none⟩ (.slice a L.length k)) := (((Kept.refl (fun b => b = gv) w).set gv _ _ rfl).set gv _ _ rfl).set gv _ _ rfl
  obtain ⟨l1, l2, l3, l4, l5, l6, l7⟩ := h.lt
  have hs : ∀ (W : World) (o p : Nat) (x : Value), o ≠ p → (W.setCell ⟨gv, p, none⟩ x).cell? ⟨gv, o, none⟩ = W.cell? ⟨gv, o, none⟩ := fun W o p x ho => cell_set_other (fun e => by cases e; exact ho rfl)
  refine ⟨hk.below h.below h.below.size (fun b hb => by omega), (hk.block _ h.box.lt (by omega)).trans h.box, (hk.block r h.rl l3).trans h.rc, (hk.block pq h.pl l4).trans h.pc, fun u hu => ?_, fun u hu => ?_, fun u hu => ?_, fun o => by simpa using h.fz o, fun u hu => ?_, ⟨Nat.lt_of_lt_of_le l1 hk.size, l2, l3, l4, l5, l6, l7⟩⟩
  · rw [hs _ _ _ _ (by omega), hs _ _ _ _ (by omega)]
    by_cases e : u = v
    · subst e; rw [upd_same]; exact cell_set_same (h.ct u hu)
    · rw [upd_other _ _ e, hs _ _ _ _ (by omega)]; exact h.ct u hu
  · rw [hs _ _ _ _ (by omega)]
    by_cases e : u = v
    · subst e
      exact cell_set_same ((hs _ _ _ _ (by omega)).trans (h.cf u hu))
    · rw [hs _ _ _ _ (by omega), hs _ _ _ _ (by omega)]; exact h.cf u hu
  · by_cases e : u = v
    · subst e; rw [upd_same]
      exact cell_set_same ((hs _ _ _ _ (by omega)).trans ((hs _ _ _ _ (by omega)).trans (h.co u hu)))
    · rw [upd_other _ _ e, hs _ _ _ _ (by omega), hs _ _ _ _ (by omega), hs _ _ _ _ (by omega)]; exact h.co u hu
  · by_cases e : u = v
    · subst e
      rw [upd_same, upd_same]
      exact ⟨a, k, rfl, row_kept hr (fun x hx => hk.block _ (ha x hx).1 (ha x hx).2.1), fun x hx => ⟨Nat.lt_of_lt_of_le (ha x hx).1 hk.size, (ha x hx).2⟩⟩
    · rw [upd_other _ _ e, upd_other _ _ e]
      obtain ⟨a', k', e', hr', hx'⟩ := h.rows u hu
      exact ⟨a', k', e', row_kept hr' (fun x hx => hk.block _ (hx' x hx).1 (hx' x hx).2.1), fun x hx => ⟨Nat.lt_of_lt_of_le (hx' x hx).1 hk.size, (hx' x hx).2⟩⟩

theorem NR.there (h : NR w0 c r pq gv n th ov on w) {v : Nat} (hv : v < n) : NR w0 c r pq gv n (upd th v true) ov on (w.setCell ⟨gv, v * 3, none⟩ (.bool true)) := by
  have hk : Kept (fun b => b = gv) w (w.setCell ⟨gv, v * 3, none⟩ (.bool true)) := (Kept.refl (fun b => b = gv) w).set gv _ _ rfl
  obtain ⟨l1, l2, l3, l4, l5, l6, l7⟩ := h.lt
  have hs : ∀ (W : World) (o p : Nat) (x : Value), o ≠ p → (W.setCell ⟨gv, p, none⟩ x).cell? ⟨gv, o, none⟩ = W.cell? ⟨gv, o, none⟩ := fun W o p x ho => cell_set_other (fun e => by cases e; exact ho rfl)
  refine ⟨hk.below h.below h.below.size (fun b hb => by omega), (hk.block _ h.box.lt (by omega)).trans h.box, (hk.block r h.rl l3).trans h.rc, (hk.block pq h.pl l4).trans h.pc, fun u hu => ?_, fun u hu => ?_, fun u hu => ?_, fun o => by simpa using h.fz o, fun u hu => ?_, ⟨Nat.lt_of_lt_of_le l1 hk.size, l2, l3, l4, l5, l6, l7⟩⟩
  · by_cases e : u = v
    · subst e; rw [upd_same]; exact cell_set_same (h.ct u hu)
    · rw [upd_other _ _ e, hs _ _ _ _ (by omega)]; exact h.ct u hu
  · rw [hs _ _ _ _ (by omega)]; exact h.cf u hu
  · rw [hs _ _ _ _ (by omega)]; exact h.co u hu
  · obtain ⟨a', k', e', hr', hx'⟩ := h.rows u hu
    exact ⟨a', k', e', row_kept hr' (fun x hx => hk.block _ (hx' x hx).1 (hx' x hx).2.1), fun x hx => ⟨Nat.lt_of_lt_of_le (hx' x hx).1 hk.size, (hx' x hx).2⟩⟩
end

/-- Which variables are there, behind so many Inputs, Latches and Ands. -/
def ThK (C : Circ) (n ki kl ka : Nat) (th : Nat → Bool) : Prop :=
  ∀ v, v < n → (th v = true ↔ v = 0 ∨ (∃ k, k < ki ∧ varN (atP C.ins k) = v) ∨ (∃ k, k < kl ∧ varN (atP C.lats k).1 = v) ∨ (∃ k, k < ka ∧ varN (atP C.ands k).1 = v))
theorem ThK.ins {C : Circ} {n k : Nat} {th : Nat → Bool} (h : ThK C n k 0 0 th) : ThK C n (k + 1) 0 0 (upd th (varN (atP C.ins k)) true) := fun v hv => by
  by_cases e : v = varN (atP C.ins k)
  · rw [e, upd_same]
    exact ⟨fun _ => .inr (.inl ⟨k, Nat.lt_succ_self _, rfl⟩), fun _ => rfl⟩
  · rw [upd_other _ _ e, h v hv]
    constructor
    · rintro (h1 | ⟨j, h1, h2⟩ | h1)
      · exact .inl h1
      · exact .inr (.inl ⟨j, by omega, h2⟩)
      · exact .inr (.inr h1)
    · rintro (h1 | ⟨j, h1, h2⟩ | h1)
      · exact .inl h1
      · by_cases e2 : j = k
        · subst e2; exact absurd h2.symm e
        · exact .inr (.inl ⟨j, by omega, h2⟩)
      · exact .inr (.inr h1)
theorem ThK.lats {C : Circ} {n i k : Nat} {th : Nat → Bool} (h : ThK C n i k 0 th) : ThK C n i (k + 1) 0 (upd th (varN (atP C.lats k).1) true) := fun v hv => by
  by_cases e : v = varN (atP C.lats k).1
  · rw [e, upd_same]
    exact ⟨fun _ => .inr (.inr (.inl ⟨k, Nat.lt_succ_self _, rfl⟩)), fun _ => rfl⟩
  · rw [upd_other _ _ e, h v hv]
    constructor
    · rintro (h1 | h1 | ⟨j, h1, h2⟩ | h1)
      · exact .inl h1
      · exact .inr (.inl h1)
      · exact .inr (.inr (.inl ⟨j, by omega, h2⟩))
      · exact .inr (.inr (.inr h1))
    · rintro (h1 | h1 | ⟨j, h1, h2⟩ | h1)
      · exact .inl h1
      · exact .inr (.inl h1)
      · by_cases e2 : j = k
        · subst e2; exact absurd h2.symm e
        · exact .inr (.inr (.inl ⟨j, by omega, h2⟩))
      · exact .inr (.inr (.inr h1))
theorem ThK.ands {C : Circ} {n i l k : Nat} {th : Nat → Bool} (h : ThK C n i l k th) : ThK C n i l (k + 1) (upd th (varN (atP C.ands k).1) true) := fun v hv => by
  by_cases e : v = varN (atP C.ands k).1
  · rw [e, upd_same]
    exact ⟨fun _ => .inr (.inr (.inr ⟨k, Nat.lt_succ_self _, rfl⟩)), fun _ => rfl⟩
  · rw [upd_other _ _ e, h v hv]
    constructor
    · rintro (h1 | h1 | h1 | ⟨j, h1, h2⟩)
      · exact .inl h1
      · exact .inr (.inl h1)
      · exact .inr (.inr (.inl h1))
      · exact .inr (.inr (.inr ⟨j, by omega, h2⟩))
    · rintro (h1 | h1 | h1 | ⟨j, h1, h2⟩)
      · exact .inl h1
      · exact .inr (.inl h1)
      · exact .inr (.inr (.inl h1))
      · by_cases e2 : j = k
        · subst e2; exact absurd h2.symm e
        · exact .inr (.inr (.inr ⟨j, by omega, h2⟩))
theorem ThK.vars {C : Circ} {n : Nat} {th : Nat → Bool} (h : ThK C n C.ins.length C.lats.length C.ands.length th) : ∀ v, v < n → th v = decide (v = 0 ∨ v ∈ C.vars) := fun v hv => by
  have e : (∃ k, k < C.ands.length ∧ varN (atP C.ands k).1 = v) ↔ v ∈ C.gates := by
    unfold Circ.gates
    rw [List.mem_map]
    constructor
    · rintro ⟨k, hk, e⟩
      exact ⟨_, atP_mem _ _ hk, e⟩
    · rintro ⟨t, ht, e⟩
      obtain ⟨k, hk, rfl⟩ := List.getElem_of_mem ht
      exact ⟨k, hk, by rw [atP_eq _ k hk]; exact e⟩
  have h1 := h v hv
  rw [e, ← vars_mem] at h1
  rw [Bool.eq_iff_iff, decide_eq_true_eq]
  exact h1

/-- .. and on what each hangs. -/
def OnK (C : Circ) (n kl ka : Nat) (on : Nat → List Int) : Prop :=
  ∀ v, v < n → (on v).length ≤ 2 ∧ ∀ l, l ∈ on v ↔ (∃ k, k < kl ∧ varN (atP C.lats k).1 = v ∧ l = (atP C.lats k).2.1) ∨ (∃ k, k < ka ∧ varN (atP C.ands k).1 = v ∧ (l = (atP C.ands k).2.1 ∨ l = (atP C.ands k).2.2))
theorem lat_one {C : Circ} (hR : Right C) {i j : Nat} (hi : i < C.lats.length) (hj : j < C.lats.length) (h : varN (atP C.lats i).1 = varN (atP C.lats j).1) : i = j := by
  have hl : ∀ k, k < C.lats.length → C.ins.length + k < C.made.length := fun k hk => by rw [made_len]; omega
  have := made_one hR (hl i hi) (hl j hj) (by rw [made_lats hi, made_lats hj]; exact h)
  omega
theorem and_one {C : Circ} (hR : Right C) {i j : Nat} (hi : i < C.ands.length) (hj : j < C.ands.length) (h : varN (atP C.ands i).1 = varN (atP C.ands j).1) : i = j := by
  have hl : ∀ k, k < C.ands.length → C.ins.length + C.lats.length + k < C.made.length := fun k hk => by rw [made_len]; omega
  have := made_one hR (hl i hi) (hl j hj) (by rw [made_ands hi, made_ands hj]; exact h)
  omega
theorem lat_and {C : Circ} (hR : Right C) {i j : Nat} (hi : i < C.lats.length) (hj : j < C.ands.length) (h : varN (atP C.lats i).1 = varN (atP C.ands j).1) : False := by
  have := made_one hR (i := C.ins.length + i) (j := C.ins.length + C.lats.length + j) (by rw [made_len]; omega) (by rw [made_len]; omega) (by rw [made_lats hi, made_ands hj]; exact h)
  omega
theorem OnK.lats {C : Circ} (hR : Right C) {n k : Nat} {on : Nat → List Int} (h : OnK C n k 0 on) (hk : k < C.lats.length) : OnK C n (k + 1) 0 (upd on (varN (atP C.lats k).1) [(atP C.lats k).2.1]) := fun v hv => by
  by_cases e : v = varN (atP C.lats k).1
  · rw [e, upd_same]
    refine ⟨by simp, fun l => ?_⟩
    rw [List.mem_singleton]
    constructor
    · rintro rfl
      exact .inl ⟨k, Nat.lt_succ_self _, rfl, rfl⟩
    · rintro (⟨j, h1, h2, h3⟩ | ⟨j, h1, -⟩)
      · obtain rfl := lat_one hR (show j < C.lats.length by omega) hk h2
        exact h3
      · omega
  · rw [upd_other _ _ e]
    refine ⟨(h v hv).1, fun l => ?_⟩
    rw [(h v hv).2 l]
    constructor
    · rintro (⟨j, h1, h2⟩ | ⟨j, h1, -⟩)
      · exact .inl ⟨j, by omega, h2⟩
      · omega
    · rintro (⟨j, h1, h2, h3⟩ | ⟨j, h1, -⟩)
      · by_cases e2 : j = k
        · subst e2; exact absurd h2.symm e
        · exact .inl ⟨j, by omega, h2, h3⟩
      · omega
theorem OnK.ands {C : Circ} (hR : Right C) {n k : Nat} {on : Nat → List Int} (h : OnK C n C.lats.length k on) (hk : k < C.ands.length) : OnK C n C.lats.length (k + 1) (upd on (varN (atP C.ands k).1) [(atP C.ands k).2.1, (atP C.ands k).2.2]) := fun v hv => by
  by_cases e : v = varN (atP C.ands k).1
  · rw [e, upd_same]
    refine ⟨by simp, fun l => ?_⟩
    rw [List.mem_cons, List.mem_singleton]
    constructor
    · intro hl
      exact .inr ⟨k, Nat.lt_succ_self _, rfl, hl⟩
    · rintro (⟨j, h1, h2, h3⟩ | ⟨j, h1, h2, h3⟩)
      · exact (lat_and hR h1 hk h2).elim
      · obtain rfl := and_one hR (show j < C.ands.length by omega) hk h2
        exact h3
  · rw [upd_other _ _ e]
    refine ⟨(h v hv).1, fun l => ?_⟩
    rw [(h v hv).2 l]
    constructor
    · rintro (h1 | ⟨j, h1, h2⟩)
      · exact .inl h1
      · exact .inr ⟨j, by omega, h2⟩
    · rintro (h1 | ⟨j, h1, h2, h3⟩)
      · exact .inl h1
      · by_cases e2 : j = k
        · subst e2; exact absurd h2.symm e
        · exact .inr ⟨j, by omega, h2, h3⟩

/-- WHAT newReach TELLS. -/
def NRPost (w : World) (C : Circ) (e : Ending) (w' : World) : Prop :=
  ∃ r pq gv th ov on, e = .returned (.pointer (some ⟨r, 0, none⟩)) ∧ RM w.heap.size w'.heap.size r pq gv (C.max.toNat + 1) th ov on (List.replicate (C.max.toNat + 1) false) (.slice none 0 0) [] w' ∧ Below w.heap.size w w' ∧
    (∀ v, v < C.max.toNat + 1 → th v = decide (v = 0 ∨ v ∈ C.vars)) ∧ OnOk C (C.max.toNat + 1) on ∧ ∀ v, v < C.max.toNat + 1 → (on v).length ≤ 2

theorem nr_end {w0 w : World} {c : CV} {C : Circ} {r pq gv : Nat} {th : Nat → Bool} {ov : Nat → Value} {on : Nat → List Int} (h : NR w0 c r pq gv (C.max.toNat + 1) th ov on w) (ht : ThK C (C.max.toNat + 1) C.ins.length C.lats.length C.ands.length th) (ho : OnK C (C.max.toNat + 1) C.lats.length C.ands.length on) :
    NRPost w0 C (.returned (.pointer (some ⟨r, 0, none⟩))) w := by
  obtain ⟨l1, l2, l3, l4, l5, l6, l7⟩ := h.lt
  have hr := h.rl
  have hp := h.pl
  refine ⟨r, pq, gv, th, ov, on, rfl, ⟨⟨⟨cell_of_row w pq 0 _ _ (0, 0) h.pc, cell_of_row w pq 1 _ _ (0, 0) h.pc, frozen_of_row w pq 0 _ _ h.pc, World.ownsRow_nil _ _ _ _, by simp [Value.ownBlock]⟩, Nat.le_refl _, by simp⟩, heap_nil, h.cell0, cell_of_row w r 1 _ _ (0, 0) h.rc, h.ct, fun v hv => by rw [atP_replicate _ _ _ hv]; exact h.cf v hv, h.co, h.fz, h.rows, by simp, ⟨hr, hp, l1, l2, l3, l4, by omega, by omega, by omega⟩⟩, h.below, ht.vars, fun v hv l => (ho v hv).2 l, fun v hv => (ho v hv).1⟩

theorem infoVar : (Try.prog.info? 118).map (fun i => (i.zero, i.size, i.bytes)) = some (some (.agg #[.bool false, .bool false, .slice none 0 0]), 3, 32) := by kernel_rfl

theorem alloc4 {w W : World} {o1 o2 o3 o4 : Obj} (e : W.heap = ((((w.alloc o1).alloc o2).alloc o3).alloc o4).heap) (h : W.os = w.os ∧ W.tape = w.tape ∧ W.output = w.output) : W.heap[w.heap.size]? = some o1 ∧ W.heap[w.heap.size + 1]? = some o2 ∧ W.heap[w.heap.size + 1 + 1]? = some o3 ∧ W.heap[w.heap.size + 1 + 1 + 1]? = some o4 ∧ W.heap.size = w.heap.size + 4 ∧ Below w.heap.size w W := by
  have s1 : (w.alloc o1).heap.size = w.heap.size + 1 := by simp
  have s2 : ((w.alloc o1).alloc o2).heap.size = w.heap.size + 1 + 1 := by simp
  have s3 : (((w.alloc o1).alloc o2).alloc o3).heap.size = w.heap.size + 1 + 1 + 1 := by simp
  have b1 := heap_alloc_new w o1
  have b2 := heap_alloc_new (w.alloc o1) o2
  have b3 := heap_alloc_new ((w.alloc o1).alloc o2) o3
  have b4 := heap_alloc_new (((w.alloc o1).alloc o2).alloc o3) o4
  rw [s1] at b2
  rw [s2] at b3
  rw [s3] at b4
  have k2 := (World.grownBy_alloc (w.alloc o1) o2 none).block
  have k3 := (World.grownBy_alloc ((w.alloc o1).alloc o2) o3 none).block
  have k4 := (World.grownBy_alloc (((w.alloc o1).alloc o2).alloc o3) o4 none).block
  have hb := belowThen (belowThen (belowThen (below_alloc w o1) (below_alloc _ o2)) (below_alloc _ o3)) (below_alloc _ o4)
  rw [e]
  refine ⟨?_, ?_, ?_, b4, by simp, h.1, h.2.1, h.2.2, by rw [e]; exact hb.size, fun k hk => by rw [e]; exact hb.block k hk⟩
  · exact (k4 _ (by omega) (by simp)).trans ((k3 _ (by omega) (by simp)).trans ((k2 _ (by omega) (by simp)).trans b1))
  · exact (k4 _ (by omega) (by simp)).trans ((k3 _ (by omega) (by simp)).trans b2)
  · exact (k4 _ (by omega) (by simp)).trans b3

/-- What lies in memory of a reach that is made, wherever its pile is. -/
def NR0 (w : World) (c : CV) (n : Nat) (wx : World) : Prop := ∃ pq gv, NR w c (w.heap.size + 1 + 1 + 1) pq gv n (fun _ => false) (fun _ => .slice none 0 0) (fun _ => []) wx
theorem nr0_alloc {w W : World} {c : CV} {n : Nat} (o1 o2 o3 o4 : Obj) (e : W.heap = ((((w.alloc o1).alloc o2).alloc o3).alloc o4).heap) (h : W.os = w.os ∧ W.tape = w.tape ∧ W.output = w.output) (k : (W.heap[w.heap.size]? = some o1 ∧ W.heap[w.heap.size + 1]? = some o2 ∧ W.heap[w.heap.size + 1 + 1]? = some o3 ∧ W.heap[w.heap.size + 1 + 1 + 1]? = some o4 ∧ W.heap.size = w.heap.size + 4 ∧ Below w.heap.size w W) → NR0 w c n W) : Hid (NR0 w c n W) := k (alloc4 e h)

theorem nr_of {w W : World} {c : CV} {A1 A2 A6 : Option Addr} {pq gv n : Nat} {K : Array Value} (hK : K = madeCells #[.bool false, .bool false, .slice none 0 0] (n * 3)) (hA1 : c.a1 = A1) (hA2 : c.a2 = A2) (hA6 : c.a6 = A6) (hb : Below w.heap.size w W) (hs : W.heap.size = w.heap.size + 4)
    (h1 : W.heap[w.heap.size]? = some (.cells #[.int .i64 c.m, .slice A1 c.n1 c.c1, .slice A2 c.n2 c.c2, .slice c.a3 c.n3 c.c3, .slice c.a4 c.n4 c.c4, .slice c.a5 c.n5 c.c5, .slice A6 c.n6 c.c6, .slice c.a7 c.n7 c.c7] 27))
    (hv : W.heap[gv]? = some (.cells K 118 (0, 0))) (hp : W.heap[pq]? = some (.cells #[.slice none 0 0, leastV] 135 (0, 0)))
    (hr : W.heap[w.heap.size + 1 + 1 + 1]? = some (.cells #[.slice (some ⟨gv, 0, none⟩) n n, .pointer (some ⟨pq, 0, none⟩)] 116 (0, 0)))
    (l1 : w.heap.size < pq ∧ pq < w.heap.size + 3) (l2 : w.heap.size < gv ∧ gv < w.heap.size + 3) (l3 : pq ≠ gv) : NR w c (w.heap.size + 1 + 1 + 1) pq gv n (fun _ => false) (fun _ => .slice none 0 0) (fun _ => []) W := by
  subst hK
  have e : ∀ j, W.cell? ⟨gv, j, none⟩ = (madeCells #[.bool false, .bool false, .slice none 0 0] (n * 3)).toList[j]? := fun j => by
    rw [cell_of_row W gv j _ _ (0, 0) hv, Array.getElem?_toList]
  refine ⟨hb, by rw [← hA1, ← hA2, ← hA6] at h1; exact h1, hr, hp, fun v hv => (e _).trans (made_at _ _ _ n v hv).1, fun v hv => (e _).trans (made_at _ _ _ n v hv).2.1, fun v hv => (e _).trans (made_at _ _ _ n v hv).2.2, fun o => frozen_of_row W gv o _ _ hv, fun v hv => ⟨none, 0, rfl, .inl ⟨rfl, rfl⟩, fun x hx => by cases hx⟩, by omega⟩

theorem nr_fin {w W : World} {c : CV} {A1 A2 A6 : Option Addr} {pq gv n : Nat} {K : Array Value} {o1 oV oP oR : Obj} (hK : K = madeCells #[.bool false, .bool false, .slice none 0 0] (n * 3)) (hA1 : c.a1 = A1) (hA2 : c.a2 = A2) (hA6 : c.a6 = A6) (hb : Below w.heap.size w W) (hs : W.heap.size = w.heap.size + 4)
    (h1 : W.heap[w.heap.size]? = some o1) (hv : W.heap[gv]? = some oV) (hp : W.heap[pq]? = some oP) (hr : W.heap[w.heap.size + 1 + 1 + 1]? = some oR)
    (eV : oV = .cells K 118 (0, 0)) (eP : oP = .cells #[.slice none 0 0, leastV] 135 (0, 0))
    (e1 : o1 = .cells #[.int .i64 c.m, .slice A1 c.n1 c.c1, .slice A2 c.n2 c.c2, .slice c.a3 c.n3 c.c3, .slice c.a4 c.n4 c.c4, .slice c.a5 c.n5 c.c5, .slice A6 c.n6 c.c6, .slice c.a7 c.n7 c.c7] 27 (0, 0))
    (eR : oR = .cells #[.slice (some ⟨gv, 0, none⟩) n n, .pointer (some ⟨pq, 0, none⟩)] 116 (0, 0))
    (l1 : w.heap.size < pq ∧ pq < w.heap.size + 3) (l2 : w.heap.size < gv ∧ gv < w.heap.size + 3) (l3 : pq ≠ gv) : NR0 w c n W := by
  subst eV; subst eP; subst e1; subst eR
  exact ⟨_, _, nr_of hK hA1 hA2 hA6 hb hs h1 hv hp hr l1 l2 l3⟩

set_option maxRecDepth 100000 in
set_option maxHeartbeats 4000000 in
theorem newReach_any (c : CV) (C : Circ) (w : World) (h : Holds w c C) (hR : Right C) :
    Calls Try.prog 56 #[c.v] w (NRPost w C) := by
  obtain ⟨i0, hi, hz0, hz1, hz2⟩ := info_parts infoVar
  have hS := hR.small
  have hL := hR.lits
  have hm0 : 0 ≤ c.m := by rw [h.m]; exact hL.max
  have hm5 : c.m ≤ 5000 := by rw [h.m]; exact hS.max
  have h1 : c.n1 ≤ 64 := by rw [← h.l1]; exact hS.ins
  have h2 : c.n2 ≤ 64 := by rw [← h.l2]; exact hS.lats
  have h6 : c.n6 ≤ 2000 := by rw [← h.l6]; exact hS.ands
  obtain ⟨n, HN⟩ : ∃ n, Hid (n = C.max.toNat + 1) := ⟨_, rfl⟩
  have hnm : c.m + 1 = (n : Int) := by have := HN.out; rw [this, ← h.m]; omega
  have hn0 : 0 < n := by omega
  have hn6 : n ≤ 6000 := by omega
  obtain ⟨K, HK⟩ : ∃ K, Hid (K = madeCells #[.bool false, .bool false, .slice none 0 0] (n * 3)) := ⟨_, rfl⟩
  have hmk : ∀ W, (Instr.makeSlice 112 (.int .i64 (n : Int)) (.int .i64 (n : Int))).run Try.prog W = .ok (.slice (some ⟨W.heap.size, 0, none⟩) n n) (W.alloc (.cells K 118)) := fun W => by
    rw [HK.out]
    have hr := run_make (P := Try.prog) W 112 118 i0 (.agg #[.bool false, .bool false, .slice none 0 0]) Try.underlying112 hi hz0 .i64 .i64 n n (by omega) (Int.le_refl _) (by rw [hz2]; omega) (by omega)
    simp only [Int.toNat_natCast, hz1] at hr
    exact hr
  have hwrap : IntKind.i64.wrap (c.m + 1) = (n : Int) := by rw [IntKind.wrap_i64]; omega
  clear hnm
  have HH := hide h
  have HRt := hide hR
  have HI := hide (fun k (hk : k < C.ins.length) => own_lit hL (made_in hk))
  have HLa := hide (fun k (hk : k < C.lats.length) => own_lit hL (made_lat hk))
  have HAn := hide (fun k (hk : k < C.ands.length) => own_lit hL (made_and hk))
  generalize hP : NRPost w C = Post
  have HP := hide hP
  clear h hR hS hL hP hz0 hz1 hz2 hi
  unfold CV.v
  generalize hA1 : c.a1 = A1
  generalize hA2 : c.a2 = A2
  generalize hA6 : c.a6 = A6
  have HA1 := hide hA1
  have HA2 := hide hA2
  have HA6 := hide hA6
  clear hA1 hA2 hA6
  go_enter Try.func56, Try.ntmps56
  go_upto_region 1 with fail
  go_cut [3] from 10 (fun s3 wx => s3 = .pointer (some ⟨w.heap.size + 1 + 1 + 1, 0, none⟩) ∧ Hid (NR0 w c n wx))
  case first =>
    go_region_with (go_at_call 90; refine (least_any _).mono ?_; rintro e w1 ⟨rfl, rfl⟩)
    all_goals go_wp2_with fail
    all_goals go_meet
    all_goals
      refine ⟨rfl, ?_⟩
      refine nr0_alloc _ _ _ _ rfl ⟨rfl, rfl, rfl⟩ ?_
      rintro ⟨a1, a2, a3, a4, a5, a6⟩
      first
        | exact nr_fin HK.out HA1.out HA2.out HA6.out a6 a5 a1 a2 a3 a4 rfl rfl rfl rfl (by omega) (by omega) (by omega)
        | exact nr_fin HK.out HA1.out HA2.out HA6.out a6 a5 a1 a3 a2 a4 rfl rfl rfl rfl (by omega) (by omega) (by omega)
  case rest =>
    obtain ⟨rfl, HCut0⟩ := hcut
    obtain ⟨pq, gv, hcut1⟩ := HCut0.out
    have HCut := hide hcut1
    clear HCut0 hcut1
    obtain ⟨r, HRr⟩ : ∃ r, Hid (r = w.heap.size + 1 + 1 + 1) := ⟨_, rfl⟩
    rw [← HRr.out] at HCut ⊢
    obtain ⟨q0, q1, q2, q3, q4, q5, q6, q7⟩ := HCut.out.box.cells
    rw [HA1.out] at q1
    have hcr := HCut.out.cell0
    have hct := HCut.out.ct 0 hn0
    have hfz := HCut.out.fz 0
    have hlt := HCut.out.lt
    have hrg : r ≠ gv := hlt.2.2.1
    have hwg : w.heap.size ≠ gv := by have := hlt.2.2.2.2.2.2; omega
    have hn0' : (0 : Int) < (n : Int) := by omega
    have HM0 := hide (HCut.out.there (v := 0) hn0)
    rw [Nat.zero_mul] at HM0 hct
    have HT0 : Hid (ThK C n 0 0 0 (upd (fun _ => false) 0 true)) := fun v hv => by
      by_cases e : v = 0
      · subst e; rw [upd_same]; exact ⟨fun _ => .inl rfl, fun _ => rfl⟩
      · rw [upd_other _ _ e]
        exact ⟨(fun h => by cases h), fun h => by
          rcases h with h | ⟨k, hk, _⟩ | ⟨k, hk, _⟩ | ⟨k, hk, _⟩
          · exact absurd h e
          · omega
          · omega
          · omega⟩
    clear hmk HCut hlt
    go_wp2
    clear q0 q1 q2 q3 q4 q5 q6 q7 hcr hct hfz
    go_loopw [5, 26] (fun _ i wr => ∃ (k : Nat) (th : Nat → Bool), i = .int .i64 k ∧ k ≤ c.n1 ∧ Hid (NR w c r pq gv n th (fun _ => .slice none 0 0) (fun _ => []) wr ∧ ThK C n k 0 0 th)) (fun _ i _ => c.n1 - (intOf i).toNat)
    case atStart => exact ⟨0, _, rfl, Nat.zero_le _, HM0.out, HT0.out⟩
    case round =>
      clear HM0 HT0
      obtain ⟨k, th, rfl, hk, HF⟩ := hrel
      by_cases hlt : k < c.n1
      · obtain ⟨b, off, ha, hbw, hcell⟩ := HH.out.r1.addr (by rw [HH.out.l1]; omega)
        rw [HA1.out] at ha
        subst ha
        have hcl := (HF.out.1.below.cell (p := ⟨b, off + k, none⟩) hbw).trans (hcell k (by rw [HH.out.l1]; exact hlt))
        rw [atP_getD] at hcl
        have hlo := HI.out k (by rw [HH.out.l1]; exact hlt)
        rw [← HN.out] at hlo
        have hth := hide HF.out.2.ins
        obtain ⟨l, HLx⟩ : ∃ l, Hid (l = atP C.ins k) := ⟨_, rfl⟩
        rw [← HLx.out] at hcl hlo hth
        have hq := tdiv_two hlo.1
        have hvn := hlo.2
        obtain ⟨v, HV⟩ : ∃ v, Hid (v = varN l) := ⟨_, rfl⟩
        rw [← HV.out] at hq hvn hth
        have hcr := HF.out.1.cell0
        have hct := HF.out.1.ct v hvn
        have hfz := HF.out.1.fz (v * 3)
        have HS := hide (HF.out.1.there hvn)
        clear hcell
        go_wp2
        go_roundw
        case rel => exact ⟨k + 1, _, by go_num, by omega, HS.out, hth.out⟩
        case measure => simp [intOf]; omega
      · obtain rfl : k = c.n1 := by omega
        have HM1 := HF
        obtain ⟨q0, q1, q2, q3, q4, q5, q6, q7⟩ := HM1.out.1.box.cells
        rw [HA2.out] at q2
        have HO0 : Hid (OnK C n 0 0 (fun _ => [])) := fun v hv => ⟨Nat.zero_le _, fun l => ⟨(fun h => by cases h), fun h => by
          rcases h with ⟨k, hk, _⟩ | ⟨k, hk, _⟩
          · omega
          · omega⟩⟩
        clear HF hlt hk
        go_wp2
        clear q0 q1 q2 q3 q4 q5 q6 q7
        go_loopw [7, 42] (fun _ i wr => ∃ (k : Nat) (th : Nat → Bool) (ov : Nat → Value) (on : Nat → List Int), i = .int .i64 k ∧ k ≤ c.n2 ∧ Hid (NR w c r pq gv n th ov on wr ∧ ThK C n c.n1 k 0 th ∧ OnK C n k 0 on)) (fun _ i _ => c.n2 - (intOf i).toNat)
        case atStart => exact ⟨0, th, _, _, rfl, Nat.zero_le _, HM1.out.1, HM1.out.2, HO0.out⟩
        case round =>
          clear HM1 HO0
          obtain ⟨k, th, ov, on, rfl, hk, HF⟩ := hrel
          by_cases hlt : k < c.n2
          · obtain ⟨b, off, ha, hbw, hcell⟩ := HH.out.r2.addr (by rw [cellsT_len, HH.out.l2]; omega)
            rw [HA2.out] at ha
            subst ha
            have hat := cellsT_at C.lats k (by rw [HH.out.l2]; exact hlt)
            have hx0 := (HF.out.1.below.cell (p := ⟨b, off + k * 3, none⟩) hbw).trans (hcell _ _ hat.1)
            have hx1 := (HF.out.1.below.cell (p := ⟨b, off + k * 3 + 1, none⟩) hbw).trans (hcell _ _ hat.2.1)
            have hx2 := (HF.out.1.below.cell (p := ⟨b, off + k * 3 + 2, none⟩) hbw).trans (hcell _ _ hat.2.2)
            have hlo := HLa.out k (by rw [HH.out.l2]; exact hlt)
            rw [← HN.out] at hlo
            have hth := hide HF.out.2.1.lats
            have hon := hide (HF.out.2.2.lats HRt.out (by rw [HH.out.l2]; exact hlt))
            generalize atP C.lats k = x at hx0 hx1 hx2 hlo hth hon
            obtain ⟨x0, x1, x2⟩ := x
            dsimp only at hx0 hx1 hx2 hlo hth hon
            have hq := tdiv_two hlo.1
            have hvn := hlo.2
            obtain ⟨v, HV⟩ : ∃ v, Hid (v = varN x0) := ⟨_, rfl⟩
            rw [← HV.out] at hq hvn hth hon
            have hgl := HF.out.1.lt.1
            have hrl := HF.out.1.rl
            have hpl := HF.out.1.pl
            have HNA := hide (HF.out.1.below' (below_alloc wr (.cells #[.int .i64 x0, .int .i64 x1, .int .i64 x2] 43)))
            have hr0 : (wr.alloc (.cells #[.int .i64 x0, .int .i64 x1, .int .i64 x2] 43)).cell? ⟨wr.heap.size, 0, none⟩ = some (.int .i64 x0) := cell_of_row _ _ 0 _ _ (0, 0) (heap_alloc_new wr _)
            have hr1 : (wr.alloc (.cells #[.int .i64 x0, .int .i64 x1, .int .i64 x2] 43)).cell? ⟨wr.heap.size, 1, none⟩ = some (.int .i64 x1) := cell_of_row _ _ 1 _ _ (0, 0) (heap_alloc_new wr _)
            have hs1 : (wr.alloc (.cells #[.int .i64 x0, .int .i64 x1, .int .i64 x2] 43)).heap.size = wr.heap.size + 1 := by simp
            clear hcell hat
            go_wp2
            clear hx0 hx1 hx2
            generalize wr.alloc (.cells #[.int .i64 x0, .int .i64 x1, .int .i64 x2] 43) = W at HNA hr0 hr1 hs1 ⊢
            have hcr := HNA.out.cell0
            have hc0 := HNA.out.ct v hvn
            have hc1 := HNA.out.cf v hvn
            have hc2 := HNA.out.co v hvn
            have hf0 := HNA.out.fz (v * 3)
            have hf1 := HNA.out.fz (v * 3 + 1)
            have hf2 := HNA.out.fz (v * 3 + 2)
            have HNB := hide (HNA.out.below' (below_alloc W (.cells #[.int .i64 x1] 3)))
            have hcrB := HNB.out.cell0
            have hc0B := HNB.out.ct v hvn
            have hc1B := HNB.out.cf v hvn
            have hc2B := HNB.out.co v hvn
            have hf0B := HNB.out.fz (v * 3)
            have hf1B := HNB.out.fz (v * 3 + 1)
            have hf2B := HNB.out.fz (v * 3 + 2)
            have hr0B := (below_alloc W (.cells #[.int .i64 x1] 3)).cell (p := ⟨wr.heap.size, 0, none⟩) (by show wr.heap.size < W.heap.size; omega) |>.trans hr0
            have hr1B := (below_alloc W (.cells #[.int .i64 x1] 3)).cell (p := ⟨wr.heap.size, 1, none⟩) (by show wr.heap.size < W.heap.size; omega) |>.trans hr1
            have hrow : RowK .i64 (W.alloc (.cells #[.int .i64 x1] 3)) (some ⟨W.heap.size, 0, none⟩) [x1] := rowK_of_C (xs := [x1]) (.inr ⟨_, rfl, cell_one_at rfl _ _⟩)
            have hgW2 : gv < W.heap.size := by omega
            have hfin : Hid (∀ W', W'.heap = ((((W.setCell ⟨gv, v * 3, none⟩ (.bool true)).setCell ⟨gv, v * 3 + 1, none⟩ (.bool false)).setCell ⟨gv, v * 3 + 2, none⟩ (.slice (some ⟨wr.heap.size + 1, 0, none⟩) 1 1)).alloc (.cells #[.int .i64 x1] 3)).heap → W'.os = W.os ∧ W'.tape = W.tape ∧ W'.output = W.output → NR w c r pq gv n (upd th v true) (upd ov v (.slice (some ⟨wr.heap.size + 1, 0, none⟩) 1 1)) (upd on v [x1]) W') := fun W' e1 e2 => by
              rw [← hs1] at e1 ⊢
              rw [set3_alloc hgW2] at e1
              refine NR.below' (HNB.out.put hvn (some ⟨W.heap.size, 0, none⟩) 1 [x1] hrow (fun x hx => ?_)) (below_same e1 e2)
              cases hx
              exact ⟨by simp, by show W.heap.size ≠ gv; omega, by show W.heap.size ≠ pq; omega⟩
            have hgW : gv ≠ W.heap.size := by omega
            clear hrow
            go_region
            all_goals (try go_wp2)
            all_goals go_roundw
            case rel => exact ⟨k + 1, _, _, _, by go_num, by omega, hfin.out _ (by rfl) ⟨by rfl, by rfl, by rfl⟩, hth.out, hon.out⟩
            case measure => simp [intOf]; omega
          · obtain rfl : k = c.n2 := by omega
            have HM2 := HF
            obtain ⟨q0, q1, q2, q3, q4, q5, q6, q7⟩ := HM2.out.1.box.cells
            rw [HA6.out] at q6
            clear HF hlt hk
            go_wp2
            clear q0 q1 q2 q3 q4 q5 q6 q7
            go_loopw [9, 62] (fun _ i wr => ∃ (k : Nat) (th : Nat → Bool) (ov : Nat → Value) (on : Nat → List Int), i = .int .i64 k ∧ k ≤ c.n6 ∧ Hid (NR w c r pq gv n th ov on wr ∧ ThK C n c.n1 c.n2 k th ∧ OnK C n C.lats.length k on)) (fun _ i _ => c.n6 - (intOf i).toNat)
            case atStart => exact ⟨0, th, ov, on, rfl, Nat.zero_le _, HM2.out.1, HM2.out.2.1, by rw [HH.out.l2]; exact HM2.out.2.2⟩
            case round =>
              clear HM2
              obtain ⟨k, th, ov, on, rfl, hk, HF⟩ := hrel
              by_cases hlt : k < c.n6
              · obtain ⟨b, off, ha, hbw, hcell⟩ := HH.out.r6.addr (by rw [cellsT_len, HH.out.l6]; omega)
                rw [HA6.out] at ha
                subst ha
                have hat := cellsT_at C.ands k (by rw [HH.out.l6]; exact hlt)
                have hx0 := (HF.out.1.below.cell (p := ⟨b, off + k * 3, none⟩) hbw).trans (hcell _ _ hat.1)
                have hx1 := (HF.out.1.below.cell (p := ⟨b, off + k * 3 + 1, none⟩) hbw).trans (hcell _ _ hat.2.1)
                have hx2 := (HF.out.1.below.cell (p := ⟨b, off + k * 3 + 2, none⟩) hbw).trans (hcell _ _ hat.2.2)
                have hlo := HAn.out k (by rw [HH.out.l6]; exact hlt)
                rw [← HN.out] at hlo
                have hth := hide HF.out.2.1.ands
                have hon := hide (HF.out.2.2.ands HRt.out (by rw [HH.out.l6]; exact hlt))
                generalize atP C.ands k = x at hx0 hx1 hx2 hlo hth hon
                obtain ⟨x0, x1, x2⟩ := x
                dsimp only at hx0 hx1 hx2 hlo hth hon
                have hq := tdiv_two hlo.1
                have hvn := hlo.2
                obtain ⟨v, HV⟩ : ∃ v, Hid (v = varN x0) := ⟨_, rfl⟩
                rw [← HV.out] at hq hvn hth hon
                have hgl := HF.out.1.lt.1
                have hrl := HF.out.1.rl
                have hpl := HF.out.1.pl
                have HNA := hide (HF.out.1.below' (below_alloc wr (.cells #[.int .i64 x0, .int .i64 x1, .int .i64 x2] 46)))
                have hr0 : (wr.alloc (.cells #[.int .i64 x0, .int .i64 x1, .int .i64 x2] 46)).cell? ⟨wr.heap.size, 0, none⟩ = some (.int .i64 x0) := cell_of_row _ _ 0 _ _ (0, 0) (heap_alloc_new wr _)
                have hr1 : (wr.alloc (.cells #[.int .i64 x0, .int .i64 x1, .int .i64 x2] 46)).cell? ⟨wr.heap.size, 1, none⟩ = some (.int .i64 x1) := cell_of_row _ _ 1 _ _ (0, 0) (heap_alloc_new wr _)
                have hr2 : (wr.alloc (.cells #[.int .i64 x0, .int .i64 x1, .int .i64 x2] 46)).cell? ⟨wr.heap.size, 2, none⟩ = some (.int .i64 x2) := cell_of_row _ _ 2 _ _ (0, 0) (heap_alloc_new wr _)
                have hs1 : (wr.alloc (.cells #[.int .i64 x0, .int .i64 x1, .int .i64 x2] 46)).heap.size = wr.heap.size + 1 := by simp
                clear hcell hat
                go_wp2
                clear hx0 hx1 hx2
                generalize wr.alloc (.cells #[.int .i64 x0, .int .i64 x1, .int .i64 x2] 46) = W at HNA hr0 hr1 hr2 hs1 ⊢
                have hcr := HNA.out.cell0
                have hc0 := HNA.out.ct v hvn
                have hc1 := HNA.out.cf v hvn
                have hc2 := HNA.out.co v hvn
                have hf0 := HNA.out.fz (v * 3)
                have hf1 := HNA.out.fz (v * 3 + 1)
                have hf2 := HNA.out.fz (v * 3 + 2)
                have HNB := hide (HNA.out.below' (below_alloc W (.cells #[.int .i64 x1, .int .i64 x2] 3)))
                have hcrB := HNB.out.cell0
                have hc0B := HNB.out.ct v hvn
                have hc1B := HNB.out.cf v hvn
                have hc2B := HNB.out.co v hvn
                have hf0B := HNB.out.fz (v * 3)
                have hf1B := HNB.out.fz (v * 3 + 1)
                have hf2B := HNB.out.fz (v * 3 + 2)
                have hr0B := (below_alloc W (.cells #[.int .i64 x1, .int .i64 x2] 3)).cell (p := ⟨wr.heap.size, 0, none⟩) (by show wr.heap.size < W.heap.size; omega) |>.trans hr0
                have hr1B := (below_alloc W (.cells #[.int .i64 x1, .int .i64 x2] 3)).cell (p := ⟨wr.heap.size, 1, none⟩) (by show wr.heap.size < W.heap.size; omega) |>.trans hr1
                have hr2B := (below_alloc W (.cells #[.int .i64 x1, .int .i64 x2] 3)).cell (p := ⟨wr.heap.size, 2, none⟩) (by show wr.heap.size < W.heap.size; omega) |>.trans hr2
                have hrow : RowK .i64 (W.alloc (.cells #[.int .i64 x1, .int .i64 x2] 3)) (some ⟨W.heap.size, 0, none⟩) [x1, x2] := rowK_of_C (xs := [x1, x2]) (.inr ⟨_, rfl, cell_two_at rfl _ _ _⟩)
                have hgW2 : gv < W.heap.size := by omega
                have hfin : Hid (∀ W', W'.heap = ((((W.setCell ⟨gv, v * 3, none⟩ (.bool true)).setCell ⟨gv, v * 3 + 1, none⟩ (.bool false)).setCell ⟨gv, v * 3 + 2, none⟩ (.slice (some ⟨wr.heap.size + 1, 0, none⟩) 2 2)).alloc (.cells #[.int .i64 x1, .int .i64 x2] 3)).heap → W'.os = W.os ∧ W'.tape = W.tape ∧ W'.output = W.output → NR w c r pq gv n (upd th v true) (upd ov v (.slice (some ⟨wr.heap.size + 1, 0, none⟩) 2 2)) (upd on v [x1, x2]) W') := fun W' e1 e2 => by
                  rw [← hs1] at e1 ⊢
                  rw [set3_alloc hgW2] at e1
                  refine NR.below' (HNB.out.put hvn (some ⟨W.heap.size, 0, none⟩) 2 [x1, x2] hrow (fun x hx => ?_)) (below_same e1 e2)
                  cases hx
                  exact ⟨by simp, by show W.heap.size ≠ gv; omega, by show W.heap.size ≠ pq; omega⟩
                have hgW : gv ≠ W.heap.size := by omega
                clear hrow
                go_region
                all_goals (try go_wp2)
                all_goals go_roundw
                case rel => exact ⟨k + 1, _, _, _, by go_num, by omega, hfin.out _ (by rfl) ⟨by rfl, by rfl, by rfl⟩, hth.out, hon.out⟩
                case measure => simp [intOf]; omega
              · obtain rfl : k = c.n6 := by omega
                have hfin : Hid (Post (.returned (.pointer (some ⟨r, 0, none⟩))) wr) := by
                  show Post _ wr
                  rw [← HP.out]
                  have hm := HF.out
                  rw [HN.out, ← HH.out.l1, ← HH.out.l2, ← HH.out.l6] at hm
                  exact nr_end hm.1 hm.2.1 hm.2.2
                go_wp2
                exact hfin.out
end Go.Proofs.Ytppaifckiaaffaa
