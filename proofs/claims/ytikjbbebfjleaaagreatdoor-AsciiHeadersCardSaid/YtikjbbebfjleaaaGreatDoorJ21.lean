/-
  THE WALK of layer 4's andPlaces.
  A NEW QUEUE IN MEMORY: what lies in it at first, and what one more user leaves.
-/
import Derived.Test.YtikjbbebfjleaaaGreatDoorAigKnown
import Derived.Test.YtikjbbebfjleaaaGreatDoorJ17
import Derived.Test.YtikjbbebfjleaaaGreatDoorAigQueue
import Derived.Deep.OwnRows
namespace Go.Proofs.YtikjbbebfjleaaaGreatDoor
open Go.RowKit

/-- Of each variable its place among the first k Ands, or -1. -/
def Pl (C : Circ) (n k : Nat) (ps : List Int) : Prop := ps.length = n ∧ ∀ v, v < n → (atP ps v = -1 ∧ ∀ i, i < k → C.gateOf i ≠ v) ∨ ∃ i, i < k ∧ atP ps v = (i : Int) ∧ C.gateOf i = v

theorem pl_step {C : Circ} {n k : Nat} {ps : List Int} (h : Pl C n k ps) (hv : C.gateOf k < n) : Pl C n (k + 1) (ps.set (C.gateOf k) (k : Int)) := by
  obtain ⟨h1, h2⟩ := h
  refine ⟨by simpa using h1, fun v hv2 => ?_⟩
  by_cases e : v = C.gateOf k
  · subst e
    exact .inr ⟨k, Nat.lt_succ_self _, atP_set_same _ _ _ (by omega), rfl⟩
  · rw [atP_set_other _ _ _ _ (fun h => e h.symm)]
    rcases h2 v hv2 with ⟨h3, h4⟩ | ⟨i, h3, h4, h5⟩
    · refine .inl ⟨h3, fun i hi => ?_⟩
      by_cases hik : i = k
      · subst hik; exact fun h => e h.symm
      · exact h4 i (by omega)
    · exact .inr ⟨i, by omega, h4, h5⟩

/-- WHAT andPlaces TELLS. -/
def PlacesPost (w : World) (C : Circ) (n : Nat) (e : Ending) (w' : World) : Prop :=
  ∃ g ps, e = .returned (.slice (some ⟨g, 0, none⟩) n n) ∧ Below w.heap.size w w' ∧ Pl C n C.ands.length ps ∧ w'.ownsRow w.heap.size 3 1 (.slice (some ⟨g, 0, none⟩) n n) n (ps.map (Value.int .i64))

structure PMid (w0 : World) (c : CV) (g n : Nat) (ps : List Int) (wr : World) : Prop where
  own : wr.ownsRow (w0.heap.size + 1) 3 1 (.slice (some ⟨g, 0, none⟩) n n) n (ps.map (Value.int .i64))
  below : Below w0.heap.size w0 wr
  box : Box wr w0.heap.size c

theorem PMid.set {w0 wr : World} {c : CV} {g n : Nat} {ps : List Int} (h : PMid w0 c g n ps wr) (i : Nat) (x : Int) (hg : g ≠ w0.heap.size) : PMid w0 c g n (ps.set i x) (wr.setCell ⟨g, i, none⟩ (.int .i64 x)) := by
  obtain ⟨h1, h2⟩ := h.own.stored i (.int .i64 x)
  have hgb := (h.own.lt g rfl).1
  refine ⟨by rw [List.map_set]; exact h1, h.below.grown h2 h.below.size (fun k hk => by cases hk; omega), h.box.grown h2 (by simpa using hg)⟩
theorem PMid.alloc {w0 wr : World} {c : CV} {g n : Nat} {ps : List Int} (h : PMid w0 c g n ps wr) (o : Obj) : PMid w0 c g n ps (wr.alloc o) := ⟨h.own.alloc o, belowThen h.below (below_alloc wr o), h.box.alloc o⟩

theorem gate_lt {C : Circ} (hL : Lits C) (i : Nat) (hi : i < C.ands.length) : 0 ≤ (atP C.ands i).1 ∧ (atP C.ands i).1 ≤ 2 * C.max + 1 := by
  have := hL.own (atP C.ands i).1 (by unfold Circ.made; exact List.mem_append_right _ (List.mem_map.2 ⟨_, atP_mem C.ands i hi, rfl⟩))
  omega

set_option maxRecDepth 100000 in
set_option maxHeartbeats 1000000 in
theorem andPlaces_any (c : CV) (C : Circ) (w : World) (h : Holds w c C) (hS : Small C) (hL : Lits C) :
    Calls Tryz.prog 161 #[c.v] w (PlacesPost w C (C.max.toNat + 1)) := by
  obtain ⟨i0, hi, hz0, hz1, hz2⟩ := info_parts infoInt
  have hm0 : 0 ≤ c.m := by rw [h.m]; exact hL.max
  have hm5 : c.m ≤ 5000 := by rw [h.m]; exact hS.max
  have h6 : c.n6 ≤ 2000 := by rw [← h.l6]; exact hS.ands
  obtain ⟨n, hn⟩ : ∃ n, n = C.max.toNat + 1 := ⟨_, rfl⟩
  have hnm : c.m + 1 = (n : Int) := by rw [hn, ← h.m]; omega
  have HG : Hid (∀ i, i < C.ands.length → 0 ≤ (atP C.ands i).1 ∧ (atP C.ands i).1 ≤ 2 * c.m + 1) := by rw [h.m]; exact fun i hi => gate_lt hL i hi
  rw [← hn]
  have HH := hide h
  have HB := hide (box_new w c)
  generalize hP : PlacesPost w C n = Post
  have HP := hide hP
  clear h hS hL hP hn
  have ez : ∀ o, (w.alloc o).heap.size = w.heap.size + 1 := fun o => by simp
  unfold CV.v
  generalize hA6 : c.a6 = A6 at HB ⊢
  have HA6 := hide hA6
  clear hA6
  go_enter Tryz.func161, Tryz.ntmps161
  go_wp2_with (first | (at_make; refine wpList_make_full _ rfl _ _ 24 rfl (w.heap.size + 1) 3 i0 (.int .i64 0) 1 Tryz.underlying24 hi hz0 hz1 .i64 .i64 _ _ n rfl rfl (by first | rfl | omega) (by first | rfl | omega) (by rw [hz2]; omega) (by unfold maxLen; omega) (by simp) ?_; intro w2 hown hg2; rw [madeI, ez] at hown; have HM0 : Hid (PMid w c (w.heap.size + 1) n (List.replicate n 0) w2) := ⟨hown, (below_alloc w _).grown hg2 (by simp) (fun k hk => by cases hk), HB.out.grown hg2 (by simp)⟩; clear hown hg2))
  go_loopw [4, 13] (fun _ i wr => ∃ (k : Nat) (ps : List Int), i = .int .i64 k ∧ k ≤ n ∧ Hid (PMid w c (w.heap.size + 1) n ps wr ∧ ∀ j, j < k → atP ps j = -1)) (fun _ i _ => n - (intOf i).toNat)
  case atStart => exact ⟨0, _, rfl, Nat.zero_le _, HM0.out, fun j hj => absurd hj (Nat.not_lt_zero _)⟩
  case round =>
    clear HM0
    obtain ⟨k, ps, rfl, hk, HF⟩ := hrel
    by_cases hlt : k < n
    · have hc := row_at HF.out.1.own k hlt
      have hf := HF.out.1.own.frozenAt k
      obtain ⟨x, HX⟩ : ∃ x, Hid (x = atP ps k) := ⟨_, rfl⟩
      rw [← HX.out] at hc
      go_wp2
      go_roundw
      case rel =>
        refine ⟨k + 1, ps.set k (-1), by go_num, by omega, HF.out.1.set k (-1) (by omega), fun j hj => ?_⟩
        by_cases e : k = j
        · subst e; exact atP_set_same _ _ _ (by have := HF.out.1.own.1; simp at this; omega)
        · rw [atP_set_other _ _ _ _ e]; exact HF.out.2 j (by omega)
      case measure => simp [intOf]; omega
    · obtain rfl : k = n := by omega
      have HM1 : Hid (PMid w c (w.heap.size + 1) k ps wr ∧ Pl C k 0 ps) := ⟨HF.out.1, by have := HF.out.1.own.1; simpa using this, fun v hv => .inl ⟨HF.out.2 v hv, fun i hi => absurd hi (Nat.not_lt_zero _)⟩⟩
      obtain ⟨-, -, -, -, -, -, q6, -⟩ := HM1.out.1.box.cells
      rw [HA6.out] at q6
      clear HF hlt hk
      go_wp2
      rename World => wo
      go_loopw [5, 6, 23] (fun _ _ i wr => ∃ (j : Nat) (qs : List Int), i = .int .i64 j ∧ j ≤ c.n6 ∧ Hid (PMid w c (w.heap.size + 1) k qs wr ∧ Pl C k j qs)) (fun _ _ i _ => c.n6 - (intOf i).toNat)
      case atStart => exact ⟨0, ps, rfl, Nat.zero_le _, HM1.out⟩
      case round =>
        clear HM1 q6
        obtain ⟨j, qs, rfl, hj, HF⟩ := hrel
        by_cases hlt : j < c.n6
        · obtain ⟨b, off, ha, hbw, hcell⟩ := HH.out.r6.addr (by rw [cellsT_len, HH.out.l6]; omega)
          rw [HA6.out] at ha
          subst ha
          have hat := cellsT_at C.ands j (by rw [HH.out.l6]; exact hlt)
          have hc0 := (HF.out.1.below.cell (p := ⟨b, off + j * 3, none⟩) hbw).trans (hcell _ _ hat.1)
          have hc1 := (HF.out.1.below.cell (p := ⟨b, off + j * 3 + 1, none⟩) hbw).trans (hcell _ _ hat.2.1)
          have hc2 := (HF.out.1.below.cell (p := ⟨b, off + j * 3 + 2, none⟩) hbw).trans (hcell _ _ hat.2.2)
          have hg := HG.out j (by rw [HH.out.l6]; exact hlt)
          obtain ⟨x, HX⟩ : ∃ x, Hid (x = atP C.ands j) := ⟨_, rfl⟩
          rw [← HX.out] at hc0 hc1 hc2 hg
          obtain ⟨x0, x1, x2⟩ := x
          dsimp only at hc0 hc1 hc2 hg
          have hq := tdiv_two hg.1
          have hv : varN x0 < k := by unfold varN; omega
          have hgo : Hid (C.gateOf j = varN x0) := by show C.gateOf j = _; unfold Circ.gateOf; rw [← HX.out]
          obtain ⟨v, HVV⟩ : ∃ v, Hid (v = varN x0) := ⟨_, rfl⟩
          rw [← HVV.out] at hq hv hgo
          have hbig := HF.out.1.box.lt
          have hcv := (World.grownBy_alloc wr (.cells #[.int .i64 x0, .int .i64 x1, .int .i64 x2] 53) none).cell (row_at HF.out.1.own v hv) (by simp)
          have hfv := (HF.out.1.own.alloc (.cells #[.int .i64 x0, .int .i64 x1, .int .i64 x2] 53)).frozenAt v
          have hne : w.heap.size + 1 ≠ wr.heap.size := by have := (HF.out.1.own.lt (w.heap.size + 1) rfl).2; omega
          obtain ⟨y, HYy⟩ : ∃ y, Hid (y = atP qs v) := ⟨_, rfl⟩
          rw [← HYy.out] at hcv
          clear hcell hat
          go_wp2
          go_roundw
          case rel =>
            refine ⟨j + 1, qs.set v (j : Int), by go_num, by omega, (HF.out.1.alloc _).set v _ (Nat.succ_ne_self _), ?_⟩
            have := pl_step HF.out.2 (by rw [hgo.out]; exact hv)
            rwa [hgo.out] at this
          case measure => simp [intOf]; omega
        · obtain rfl : j = c.n6 := by omega
          have hfin : Hid (Post (.returned (.slice (some ⟨w.heap.size + 1, 0, none⟩) k k)) wr) := by
            show Post _ wr
            rw [← HP.out]
            have hm := HF.out
            rw [← HH.out.l6] at hm
            exact ⟨_, qs, rfl, hm.1.below, hm.2, own_le hm.1.own (Nat.le_succ _)⟩
          go_wp2
          exact hfin.out
end Go.Proofs.YtikjbbebfjleaaaGreatDoor

namespace Go.Proofs.YtikjbbebfjleaaaGreatDoor
open Go.RowKit

section
variable {B0 B q pq gw gu n : Nat} {rv : Value} {xs wts : List Int} {vs : List Value} {us : List (List Nat)} {w : World}

theorem QM.kept {w' : World} (h : QM B0 B q pq gw gu n rv xs wts vs us w) (hk : Kept (fun _ => False) w w') : QM B0 B q pq gw gu n rv xs wts vs us w' := by
  have hq := hk.block q h.qlt (fun h => h)
  exact ⟨⟨h.pile.1.kept hk (fun h => h) (fun _ _ h => h), Nat.le_trans h.pile.2.1 hk.size, h.pile.2.2⟩, h.heap, (World.cell?_of_block (w := w) (a := ⟨q, 0, none⟩) hq).trans h.c0, (World.cell?_of_block (w := w) (a := ⟨q, 1, none⟩) hq).trans h.c1, (World.cell?_of_block (w := w) (a := ⟨q, 2, none⟩) hq).trans h.c2, hk.own h.ow (fun _ _ h => h), hk.own h.ou (fun _ _ h => h), fun i hi => hk.own (h.rows i hi) (fun _ _ h => h), h.sep, h.sep2, h.lt⟩

theorem atP_repl {α : Type} [Inhabited α] (n i : Nat) (x : α) (h : i < n) : atP (List.replicate n x) i = x := by simp [atP, List.getD_eq_getElem?_getD, h]

theorem queue_new {w : World} (hw : w.heap[gw]? = some (.cells (madeCells #[.int .i64 0] n) 3 (0, 0))) (hu : w.heap[gu]? = some (.cells (madeCells #[.slice none 0 0] n) 24 (0, 0))) (hq : w.heap[q]? = some (.cells #[.pointer (some ⟨pq, 0, none⟩), .slice (some ⟨gw, 0, none⟩) n n, .slice (some ⟨gu, 0, none⟩) n n] 180 (0, 0))) (hp : w.cell? ⟨pq, 0, none⟩ = some (.slice none 0 0) ∧ w.cell? ⟨pq, 1, none⟩ = some leastV ∧ w.frozen? ⟨pq, 0, none⟩ = false)
    (hn : n ≤ 2000) (l : q < B ∧ gw < B ∧ gu < B ∧ q ≠ gw ∧ q ≠ gu ∧ gw ≠ gu ∧ B0 ≤ q ∧ pq < B ∧ pq ≠ q ∧ pq ≠ gw ∧ pq ≠ gu ∧ B0 ≤ pq) (l1 : B0 ≤ gw) (l2 : B0 ≤ gu) (hB : B ≤ w.heap.size) :
    QM B0 B q pq gw gu n (.slice none 0 0) [] (List.replicate n 0) (List.replicate n (.slice none 0 0)) (List.replicate n []) w := by
  have e : ∀ j, w.cell? ⟨q, j, none⟩ = (#[.pointer (some ⟨pq, 0, none⟩), .slice (some ⟨gw, 0, none⟩) n n, .slice (some ⟨gu, 0, none⟩) n n] : Array Value)[j]? := fun j => cell_of_row w q j _ _ (0, 0) hq
  have hm : n ≤ maxLen := by unfold maxLen; omega
  refine ⟨⟨⟨hp.1, hp.2.1, hp.2.2, World.ownsRow_nil _ _ _ _, by simp [Value.ownBlock]⟩, hB, by simp⟩, heap_nil, by rw [e]; rfl, by rw [e]; rfl, by rw [e]; rfl, ?_, ?_, ?_, ?_, ?_, l⟩
  · refine ⟨by simp, .inr ⟨gw, n, _, rfl, l1, hw, Nat.le_refl _, hm, by rw [size_madeCells, Nat.mul_one], ?_⟩⟩
    rw [toList_madeCells_one, Nat.mul_one, List.take_of_length_le (by simp), List.map_replicate]
  · refine ⟨by simp, .inr ⟨gu, n, _, rfl, l2, hu, Nat.le_refl _, hm, by rw [size_madeCells, Nat.mul_one], ?_⟩⟩
    rw [toList_madeCells_one, Nat.mul_one, List.take_of_length_le (by simp)]
  · intro i hi
    rw [atP_repl _ _ _ hi, atP_repl _ _ _ hi]
    exact World.ownsRow_nil _ _ _ _
  · intro i hi b hb
    rw [atP_repl _ _ _ hi] at hb
    simp [Value.ownBlock] at hb
  · intro i j hi hj hij b hb
    rw [atP_repl _ _ _ hi] at hb
    simp [Value.ownBlock] at hb

/-- One more that waits for p. -/
theorem QM.addU {p i : Nat} {v4 : Value} {W w4 : World} {b4 : Nat} (h : QM B0 B q pq gw gu n rv xs wts vs us w) (hp : p < n) (hul : us.length = n) (hW : Kept (fun _ => False) w W) (hg : W.grownBy w4 (atP vs p).ownBlock) (hown : w4.ownsRow B 3 1 v4 ((atP us p).length + 1) ((atP us p).map natV ++ [natV i])) (hat : v4.ownBlock = (atP vs p).ownBlock ∨ v4.ownBlock = some b4) (hb4 : w.heap.size ≤ b4) :
    QM B0 B q pq gw gu n rv xs wts (vs.set p v4) (us.set p (atP us p ++ [i])) (w4.setCell ⟨gu, p, none⟩ v4) ∧ Kept (fun b => b = gu ∨ (atP vs p).ownBlock = some b) w (w4.setCell ⟨gu, p, none⟩ v4) := by
  obtain ⟨l1, l2, l3, l4, l5, l6, l7, l8, l9, l10, l11, l12⟩ := h.lt
  have hWs := hW.size
  have hk4 : Kept (fun b => b = gu ∨ (atP vs p).ownBlock = some b) w w4 := (hW.mono (fun _ h => h.elim)).grown hg (fun k hk _ => .inr hk)
  have hk : Kept (fun b => b = gu ∨ (atP vs p).ownBlock = some b) w (w4.setCell ⟨gu, p, none⟩ v4) := hk4.set gu p v4 (.inl rfl)
  have hpB := fun b hb => (h.vsB p hp b hb)
  have hnS : ∀ b, b < B → b ≠ gu → ¬ (b = gu ∨ (atP vs p).ownBlock = some b) := fun b hb hbg e => by
    rcases e with e | e
    · exact hbg e
    · have := (hpB b e).1; omega
  have hq := hk.block q h.qlt (hnS q l1 l5)
  have hv4 : ∀ b, v4.ownBlock = some b → B ≤ b := fun b hb => (hown.lt b hb).1
  have hvl := h.vlen
  have hnew : ∀ b, b < w.heap.size → (∀ b', (atP vs p).ownBlock = some b' → b ≠ b') → v4.ownBlock ≠ some b := fun b hb hne e => by
    rcases hat with h1 | h1
    · rw [h1] at e; exact hne b e rfl
    · rw [h1] at e; have := Option.some.inj e; omega
  refine ⟨⟨⟨h.pile.1.kept hk (hnS pq l8 l11) (fun b hb e => ?_), by have := h.pile.2.1; have := hk.size; omega, h.pile.2.2⟩, h.heap, (World.cell?_of_block (w := w) (a := ⟨q, 0, none⟩) hq).trans h.c0, (World.cell?_of_block (w := w) (a := ⟨q, 1, none⟩) hq).trans h.c1, (World.cell?_of_block (w := w) (a := ⟨q, 2, none⟩) hq).trans h.c2, ?_, ?_, ?_, ?_, ?_, h.lt⟩, hk⟩
  · rcases e with e | e
    · have := h.rvB b hb; omega
    · exact h.sep p hp b e hb
  · exact hk.own h.ow (fun b hb => by cases hb; exact hnS gw l2 l6)
  · have h4 : w4.ownsRow B0 24 1 (.slice (some ⟨gu, 0, none⟩) n n) n vs := by
      refine ((hW.own h.ou (fun _ _ h => h)).kept hg ?_)
      refine .inr (fun e => ?_)
      have := (hpB gu e.symm).1
      omega
    exact (h4.stored p v4).1
  · intro j hj
    by_cases e : j = p
    · subst e
      rw [atP_set_same _ _ _ (by omega), atP_set_same _ _ _ (by omega), List.length_append, List.length_singleton, List.map_append]
      refine Kept.own (S := fun b => b = gu) ((Kept.refl (fun b => b = gu) w4).set gu j v4 rfl) hown (fun b hb e => ?_)
      have := hv4 b hb; omega
    · rw [atP_set_other _ _ _ _ (fun h => e h.symm), atP_set_other _ _ _ _ (fun h => e h.symm)]
      refine hk.own (h.rows j hj) (fun b hb e2 => ?_)
      rcases e2 with e2 | e2
      · have := (h.vsB j hj b hb).1; omega
      · exact h.sep2 j p hj hp e b hb e2
  · intro j hj b hb
    by_cases e : j = p
    · subst e
      rw [atP_set_same _ _ _ (by omega)] at hb
      intro e2
      have hl := (h.pile.1.own.lt b e2).2
      rcases hat with h1 | h1
      · rw [h1] at hb; exact h.sep j hj b hb e2
      · rw [h1] at hb; have := Option.some.inj hb; omega
    · rw [atP_set_other _ _ _ _ (fun h => e h.symm)] at hb
      exact h.sep j hj b hb
  · intro j k hj hk2 hjk b hb
    by_cases e : j = p
    · subst e
      rw [atP_set_same _ _ _ (by omega)] at hb
      rw [atP_set_other _ _ _ _ hjk]
      intro e2
      have hl := (h.vsB k hk2 b e2).2
      rcases hat with h1 | h1
      · rw [h1] at hb; exact h.sep2 j k hj hk2 hjk b hb e2
      · rw [h1] at hb; have := Option.some.inj hb; omega
    · rw [atP_set_other _ _ _ _ (fun h => e h.symm)] at hb
      have hl := (h.vsB j hj b hb).2
      by_cases e2 : k = p
      · subst e2
        rw [atP_set_same _ _ _ (by omega)]
        exact hnew b hl (fun b' hb' e3 => h.sep2 j k hj hk2 hjk b hb (e3 ▸ hb'))
      · rw [atP_set_other _ _ _ _ (fun h => e2 h.symm)]
        exact h.sep2 j k hj hk2 hjk b hb

/-- What stands behind the first k Ands, and behind the sides L of the next one. -/
structure NInv (C : Circ) (k : Nat) (L : List Nat) (wts : List Int) (us : List (List Nat)) : Prop where
  wl : wts.length = C.ands.length
  ul : us.length = C.ands.length
  w1 : ∀ j, j < C.ands.length → j ≠ k → atP wts j = if j < k then (C.wl [] j : Int) else 0
  w2 : k < C.ands.length → atP wts k = ((L.filter (fun s => decide (s ∈ C.gates))).length : Int)
  u1 : ∀ p, p < C.ands.length → atP us p = C.upTo k p ++ C.hits p k L

theorem ninv_start (C : Circ) : NInv C 0 [] (List.replicate C.ands.length 0) (List.replicate C.ands.length []) :=
  ⟨by simp, by simp, fun j hj _ => by rw [atP_repl _ _ _ hj]; simp, fun h => by rw [atP_repl _ _ _ h]; rfl, fun p hp => by rw [atP_repl _ _ _ hp]; simp [Circ.upTo, Circ.hits]⟩

theorem wl_nil (C : Circ) (i : Nat) : C.wl [] i = ((C.sides i).filter (fun s => decide (s ∈ C.gates))).length := by unfold Circ.wl Circ.waitsL; simp

theorem ninv_next {C : Circ} {k : Nat} {wts : List Int} {us : List (List Nat)} (h : NInv C k (C.sides k) wts us) (hk : k < C.ands.length) : NInv C (k + 1) [] wts us := by
  have e1 := h.w2 hk
  rw [← wl_nil] at e1
  refine ⟨h.wl, h.ul, fun j hj hjk => ?_, fun hk1 => ?_, fun p hp => ?_⟩
  · by_cases e : j = k
    · subst e; rw [if_pos (Nat.lt_succ_self _)]; exact e1
    · rw [h.w1 j hj e]
      by_cases h2 : j < k
      · rw [if_pos h2, if_pos (by omega)]
      · rw [if_neg h2, if_neg (by omega)]
  · rw [h.w1 (k + 1) hk1 (by omega), if_neg (by omega)]; rfl
  · rw [h.u1 p hp, C.upTo_succ]; simp [Circ.hits]

theorem ninv_hit {C : Circ} (hG : C.gates.Nodup) {k p s : Nat} {L : List Nat} {wts : List Int} {us : List (List Nat)} (h : NInv C k L wts us) (hk : k < C.ands.length) (hp : p < C.ands.length) (hs : C.gateOf p = s) : NInv C k (L ++ [s]) (wts.set k (atP wts k + 1)) (us.set p (atP us p ++ [k])) := by
  subst hs
  have hw := h.wl
  have hu := h.ul
  refine ⟨by simpa using h.wl, by simpa using h.ul, fun j hj hjk => ?_, fun _ => ?_, fun r hr => ?_⟩
  · rw [atP_set_other _ _ _ _ (fun e => hjk e.symm)]; exact h.w1 j hj hjk
  · rw [atP_set_same _ _ _ (by omega), h.w2 hk, List.filter_append, List.length_append]
    simp [gate_mem C p hp]
  · by_cases e : r = p
    · subst e
      rw [atP_set_same _ _ _ (by omega), h.u1 r hr, C.hits_append, C.hits_one, if_pos rfl, List.append_assoc]
    · rw [atP_set_other _ _ _ _ (fun h => e h.symm), h.u1 r hr, C.hits_append, C.hits_one, if_neg (fun h => e (gate_inj hG hp hr h).symm), List.append_nil]

theorem ninv_miss {C : Circ} {k s : Nat} {L : List Nat} {wts : List Int} {us : List (List Nat)} (h : NInv C k L wts us) (hs : s ∉ C.gates) : NInv C k (L ++ [s]) wts us := by
  refine ⟨h.wl, h.ul, h.w1, fun hk => ?_, fun r hr => ?_⟩
  · rw [h.w2 hk, List.filter_append, List.length_append]; simp [hs]
  · rw [h.u1 r hr, C.hits_append, C.hits_one, if_neg (fun h => hs (by rw [h]; exact gate_mem C r hr)), List.append_nil]

/-- Those of the first k Ands that wait for none. -/
def Circ.frees (C : Circ) (k : Nat) : List Nat := (List.range k).filter (fun i => decide (C.wl [] i = 0))
theorem frees_succ (C : Circ) (k : Nat) : C.frees (k + 1) = C.frees k ++ (if C.wl [] k = 0 then [k] else []) := by
  unfold Circ.frees; rw [List.range_succ, List.filter_append]; by_cases h : C.wl [] k = 0 <;> simp [h]
theorem frees_taken {C : Circ} {wts : List Int} {us : List (List Nat)} (h : NInv C C.ands.length [] wts us) : Taken C [] wts (C.frees C.ands.length) :=
  taken_start h.wl (fun i hi => by rw [h.w1 i hi (by omega), if_pos hi]) (fun i => by unfold Circ.frees; rw [List.mem_filter, List.mem_range]; simp) (List.Pairwise.filter _ List.nodup_range)
end
end Go.Proofs.YtikjbbebfjleaaaGreatDoor
