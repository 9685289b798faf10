/-
  A PILE OF PLACES IS A HEAP; Push and Pop of container/heap over it.
  IN WHICH ORDER ANDS ARE TAKEN, no function of the program: waiting counts, users, what a take does.
-/
import Derived.Test.YtikjbbebfjleaaaGreatDoorJ15
import Derived.Test.YtikjbbebfjleaaaGreatDoorHeapV
import Derived.Test.YtikjbbebfjleaaaGreatDoorJ9
namespace Go.Proofs.YtikjbbebfjleaaaGreatDoor
open Go.RowKit

section
variable {B q g n c : Nat}
theorem pl_form {v : Value} {xs : List Int} {w : World} (h : Pile B q v xs w) (hp : 0 < xs.length) : ∃ g c, v = .slice (some ⟨g, 0, none⟩) xs.length c ∧ xs.length ≤ c ∧ c ≤ 9223372036854775807 := by
  rcases h.own.2 with ⟨_, e⟩ | ⟨g, cap, cur, e, _, _, h1, h2, _⟩
  · omega
  · exact ⟨g, cap, e, h1, h2⟩
theorem pl_cell {xs : List Int} {w : World} (h : Pile B q (.slice (some ⟨g, 0, none⟩) xs.length c) xs w) (i : Nat) (hi : i < xs.length) : w.cell? ⟨g, i, none⟩ = some (.int .i64 (atP xs i)) := by
  rw [h.own.cellAt i (by omega), List.getElem?_map, atP_some xs i hi]; rfl
theorem swp_vals (xs : List Int) (i j : Nat) : ((xs.map (Value.int .i64)).set i (.int .i64 (atP xs j))).set j (.int .i64 (atP xs i)) = (swpP xs i j).map (Value.int .i64) := by
  unfold swpP; simp [List.map_set]

/-- The pile, of a size that may be. -/
def PileR (B q : Nat) (v : Value) (w : World) (xs : List Int) : Prop := Pile B q v xs w ∧ B ≤ w.heap.size ∧ xs.length ≤ 1152921504606846976
def Touch (v : Value) : World → World → Prop := Kept (fun k => v.ownBlock = some k)
structure Mv (q : Nat) (v v1 : Value) (w w' : World) : Prop where
  kept : Kept (fun k => k = q ∨ v.ownBlock = some k) w w'
  at_ : v1.ownBlock = v.ownBlock ∨ ∃ b, v1.ownBlock = some b ∧ w.heap.size ≤ b
  rest : ∀ o, 0 < o → w'.cell? ⟨q, o, none⟩ = w.cell? ⟨q, o, none⟩

theorem places_heaps (B q : Nat) : HeapsV (α := Int) 177 (.pointer (some ⟨q, 0, none⟩)) 145 213 216 214 215 (fun x => .iface 3 (.int .i64 x)) ltN (PileR B q) Touch (Mv q) where
  mN v w xs h := by kernel_rfl
  mL v w xs h := by kernel_rfl
  mS v w xs h := by kernel_rfl
  mP w := by kernel_rfl
  mU w := by kernel_rfl
  eN := eLen
  eL := eLess
  eS := eSwap
  eP := ePop
  eU := ePush
  len v w xs h := by
    obtain ⟨a, c, rfl⟩ := own_form h.1.own
    exact plLen q a xs.length c w h.1.c0
  less v w xs h i j I J hI hJ hi hj := by
    subst hI; subst hJ
    obtain ⟨g, c, rfl, -, -⟩ := pl_form h.1 (by omega)
    refine (plLess q g xs.length c w i j _ _ h.1.c0 h.1.c1 hi hj h.2.2 (pl_cell h.1 i hi) (pl_cell h.1 j hj)).mono ?_
    rintro e w' ⟨rfl, r, rfl⟩
    exact ⟨rfl, ⟨h.1.kept (S := fun _ => False) ((Kept.refl _ _).drew r) (fun h => h) (fun _ _ h => h), h.2⟩, (Kept.refl _ _).drew r⟩
  swap v w xs h i j I J hI hJ hi hj := by
    subst hI; subst hJ
    obtain ⟨g, c, rfl, -, -⟩ := pl_form h.1 (by omega)
    refine (plSwap q g xs.length c w i j _ _ h.1.c0 hi hj h.2.2 (pl_cell h.1 i hi) (pl_cell h.1 j hj) (h.1.own.frozenAt i) (h.1.own.frozenAt j)).mono ?_
    rintro e w' ⟨rfl, r, rfl⟩
    have hgq : ¬ (Value.slice (some ⟨g, 0, none⟩) xs.length c).ownBlock = some q := h.1.ne
    have hk : Touch (.slice (some ⟨g, 0, none⟩) xs.length c) w (((w.setCell ⟨g, i, none⟩ (.int .i64 (atP xs j))).setCell ⟨g, j, none⟩ (.int .i64 (atP xs i))).drewN r) := (((Kept.refl (fun k => (Value.slice (some ⟨g, 0, none⟩) xs.length c).ownBlock = some k) w).set g i _ rfl).set g j _ rfl).drew r
    refine ⟨rfl, ⟨⟨?_, ?_, ?_, ?_, h.1.ne⟩, by simpa using h.2.1, by rw [swpP_len]; exact h.2.2⟩, hk⟩
    · exact (World.cell?_of_block (w := w) (hk.block q h.1.blk hgq)).trans h.1.c0
    · exact (World.cell?_of_block (w := w) (hk.block q h.1.blk hgq)).trans h.1.c1
    · exact (World.frozen?_of_block (w := w) (hk.block q h.1.blk hgq)).trans h.1.f0
    · have h2 := ((h.1.own.stored i (.int .i64 (atP xs j))).1.stored j (.int .i64 (atP xs i))).1
      rw [swp_vals xs i j] at h2
      rw [swpP_len]
      exact h2
  pop v w xs x h := by
    obtain ⟨g, c, rfl, h1, h2⟩ := pl_form h.1 (by simp)
    have hl : (xs ++ [x]).length = xs.length + 1 := by simp
    have hx := pl_cell h.1 xs.length (by omega)
    have e : atP (xs ++ [x]) xs.length = x := by simp [atP]
    rw [e] at hx
    have hc0 := h.1.c0
    rw [hl] at hc0
    rw [hl] at h1
    refine (plPop q g xs.length c w hc0 h.1.f0 x (by have := h.2.2; omega) h1 h2 hx).mono ?_
    rintro e w' ⟨rfl, rfl⟩
    have hne : ¬ (some g = some q) := h.1.ne
    have hk : Kept (fun k => k = q) w (w.setCell ⟨q, 0, none⟩ (.slice (some ⟨g, 0, none⟩) xs.length c)) := (Kept.refl (fun k => k = q) w).set q 0 _ rfl
    refine ⟨rfl, .slice (some ⟨g, 0, none⟩) xs.length c, ⟨⟨cell_set_same hc0, (cell_head q 1 w _ (by decide)).trans h.1.c1, by simpa using h.1.f0, ?_, h.1.ne⟩, by simpa using h.2.1, by have := h.2.2; omega⟩, ⟨hk.mono (fun i hi => .inl hi), .inl rfl, fun o ho => cell_head q o w _ ho⟩⟩
    have ho := h.1.own
    rw [hl, List.map_append] at ho
    have ho2 := ownsRow_pop (by simp) ho
    exact hk.own ho2 (fun b hb hs => hne (by rw [← hs]; exact hb))
  push v w xs x h hn := by
    refine (plPush q B v xs x w h.1 h.2.1 hn).mono ?_
    rintro e w' ⟨rfl, v1, hm⟩
    exact ⟨rfl, v1, ⟨hm.pile, Nat.le_trans h.2.1 hm.kept.size, by simp; omega⟩, ⟨hm.kept, hm.at_, hm.rest⟩⟩
  crefl v w := Kept.refl _ _
  ctrans v a b c h k := h.trans k (fun _ _ h => h)
  small v w xs h := h.2.2

/-- What a push, or a pop, of the heap leaves. -/
structure HMoved (B q : Nat) (v v1 : Value) (xs : List Int) (w w' : World) : Prop where
  pile : PileR B q v1 w' xs
  heap : HeapP ltN xs
  kept : Kept (fun k => k = q ∨ v.ownBlock = some k) w w'
  at_ : v1.ownBlock = v.ownBlock ∨ ∃ b, v1.ownBlock = some b ∧ w.heap.size ≤ b
  rest : ∀ o, 0 < o → w'.cell? ⟨q, o, none⟩ = w.cell? ⟨q, o, none⟩

theorem heapPush {v : Value} {w : World} {xs : List Int} (x : Int) (h : PileR B q v w xs) (hh : HeapP ltN xs) (hn : xs.length ≤ 1000000) :
    Calls Tryz.prog 162 #[.iface 177 (.pointer (some ⟨q, 0, none⟩)), .iface 3 (.int .i64 x)] w fun e w' => e = .returned (.tuple #[]) ∧ ∃ v1 ys, HMoved B q v v1 ys w w' ∧ ys.Perm (xs ++ [x]) := by
  refine (hpush_any (places_heaps B q) weakN v w xs x h hh hn).mono ?_
  rintro e w' ⟨rfl, v1, w1, ys, hm, hc, hr, hp, hperm⟩
  have hnq := hr.1.ne
  have hql : q < w1.heap.size := Nat.lt_of_lt_of_le h.1.blk hm.kept.size
  refine ⟨rfl, v1, ys, ⟨hr, hp, hm.kept.trans hc (fun i hi ht => ?_), hm.at_, fun o ho => ?_⟩, hperm⟩
  · rcases hm.at_ with e | ⟨b, e, hb⟩
    · rw [e] at ht; exact .inr ht
    · rw [e] at ht; have := Option.some.inj ht; omega
  · exact (World.cell?_of_block (w := w1) (a := ⟨q, o, none⟩) (hc.block q hql hnq)).trans (hm.rest o ho)

theorem heapPop {v : Value} {w : World} {xs : List Int} (h : PileR B q v w xs) (hh : HeapP ltN xs) (m : Nat) (hl : xs.length = m + 1) :
    Calls Tryz.prog 163 #[.iface 177 (.pointer (some ⟨q, 0, none⟩))] w fun e w' => e = .returned (.iface 3 (.int .i64 (atP xs 0))) ∧ ∃ v1 ys, HMoved B q v v1 ys w w' ∧ (atP xs 0 :: ys).Perm xs ∧ ∀ y ∈ ys, ltN y (atP xs 0) = false := by
  refine (hpop_any (places_heaps B q) weakN v w xs h m hl hh).mono ?_
  rintro e w' ⟨rfl, v1, w1, ys, hc, hm, hr, hp, hperm, hmin⟩
  have hnq := h.1.ne
  refine ⟨rfl, v1, ys, ⟨hr, hp, ?_, ?_, fun o ho => ?_⟩, hperm, hmin⟩
  · exact (hc.mono (fun i hi => .inr hi)).trans hm.kept (fun i _ ht => ht)
  · rcases hm.at_ with e | ⟨b, e, hb⟩
    · exact .inl e
    · exact .inr ⟨b, e, Nat.le_trans hc.size hb⟩
  · exact (hm.rest o ho).trans (World.cell?_of_block (w := w) (a := ⟨q, o, none⟩) (hc.block q h.1.blk hnq))
end
end Go.Proofs.YtikjbbebfjleaaaGreatDoor

namespace Go.Proofs.YtikjbbebfjleaaaGreatDoor

theorem snocInd {α : Type} {P : List α → Prop} (h0 : P []) (hs : ∀ l x, P l → P (l ++ [x])) : ∀ l, P l := fun l => by
  rw [← List.reverse_reverse l]
  induction l.reverse with
  | nil => exact h0
  | cons x r ih => rw [List.reverse_cons]; exact hs _ _ ih

def Circ.wl (C : Circ) (T : List Nat) (i : Nat) : Nat := (C.waitsL T i).length
/-- How often And i has And p for a side, told as often as that. -/
def Circ.hits (C : Circ) (p i : Nat) (L : List Nat) : List Nat := (L.filter (fun s => decide (s = C.gateOf p))).map (fun _ => i)
def Circ.upTo (C : Circ) (k p : Nat) : List Nat := (List.range k).flatMap (fun i => C.hits p i (C.sides i))
def Circ.users (C : Circ) (p : Nat) : List Nat := C.upTo C.ands.length p

theorem Circ.upTo_succ (C : Circ) (k p : Nat) : C.upTo (k + 1) p = C.upTo k p ++ C.hits p k (C.sides k) := by
  unfold Circ.upTo; rw [List.range_succ, List.flatMap_append]; simp
theorem Circ.hits_append (C : Circ) (p i : Nat) (L M : List Nat) : C.hits p i (L ++ M) = C.hits p i L ++ C.hits p i M := by simp [Circ.hits]
theorem Circ.hits_one (C : Circ) (p i s : Nat) : C.hits p i [s] = if s = C.gateOf p then [i] else [] := by
  unfold Circ.hits
  by_cases h : s = C.gateOf p <;> simp [h]
theorem Circ.hits_count_same (C : Circ) (p i : Nat) (L : List Nat) : (C.hits p i L).count i = (L.filter (fun s => decide (s = C.gateOf p))).length := by
  unfold Circ.hits
  rw [List.map_const', List.count_replicate_self]
theorem Circ.hits_count_other (C : Circ) (p i j : Nat) (L : List Nat) (h : i ≠ j) : (C.hits p i L).count j = 0 := by
  unfold Circ.hits
  rw [List.map_const', List.count_replicate]
  simp [h]
theorem Circ.upTo_count (C : Circ) (p j : Nat) : ∀ k, (C.upTo k p).count j = if j < k then ((C.sides j).filter (fun s => decide (s = C.gateOf p))).length else 0
  | 0 => by simp [Circ.upTo]
  | k + 1 => by
    rw [Circ.upTo_succ, List.count_append, Circ.upTo_count C p j k]
    by_cases hj : j = k
    · subst hj
      rw [Circ.hits_count_same, if_neg (Nat.lt_irrefl _), if_pos (Nat.lt_succ_self _), Nat.zero_add]
    · rw [Circ.hits_count_other C p k j _ (fun e => hj e.symm), Nat.add_zero]
      by_cases h : j < k
      · rw [if_pos h, if_pos (by omega)]
      · rw [if_neg h, if_neg (by omega)]
theorem Circ.users_lt (C : Circ) (p : Nat) : ∀ u ∈ C.users p, u < C.ands.length := by
  intro u hu
  unfold Circ.users Circ.upTo at hu
  obtain ⟨i, hi, h⟩ := List.mem_flatMap.1 hu
  unfold Circ.hits at h
  obtain ⟨s, _, rfl⟩ := List.mem_map.1 h
  exact List.mem_range.1 hi
theorem Circ.sides_len (C : Circ) (i : Nat) : (C.sides i).length = 2 := rfl
theorem Circ.wl_le (C : Circ) (T : List Nat) (i : Nat) : C.wl T i ≤ 2 := by
  unfold Circ.wl Circ.waitsL
  exact Nat.le_trans (List.length_filter_le _ _) (Nat.le_of_eq (C.sides_len i))
theorem Circ.upTo_len (C : Circ) (p : Nat) : ∀ k, (C.upTo k p).length ≤ 2 * k
  | 0 => by simp [Circ.upTo]
  | k + 1 => by
    rw [Circ.upTo_succ, List.length_append]
    have h1 := Circ.upTo_len C p k
    have h2 : (C.hits p k (C.sides k)).length ≤ 2 := by
      unfold Circ.hits
      rw [List.length_map]
      exact Nat.le_trans (List.length_filter_le _ _) (Nat.le_of_eq (C.sides_len k))
    omega

theorem gates_len (C : Circ) : C.gates.length = C.ands.length := by simp [Circ.gates]
theorem gates_at (C : Circ) (i : Nat) (h : i < C.ands.length) : C.gates[i]'(by rw [gates_len]; exact h) = C.gateOf i := by
  unfold Circ.gates Circ.gateOf
  rw [List.getElem_map, atP_eq _ i h]
theorem gate_mem (C : Circ) (i : Nat) (h : i < C.ands.length) : C.gateOf i ∈ C.gates := by
  rw [← gates_at C i h]; exact List.getElem_mem _
theorem gate_inj {C : Circ} (hG : C.gates.Nodup) {i j : Nat} (hi : i < C.ands.length) (hj : j < C.ands.length) (h : C.gateOf i = C.gateOf j) : i = j := by
  rw [← gates_at C i hi, ← gates_at C j hj] at h
  have hp := List.pairwise_iff_getElem.1 hG
  have hl := gates_len C
  rcases Nat.lt_trichotomy i j with h1 | h1 | h1
  · exact absurd h (hp i j (by omega) (by omega) h1)
  · exact h1
  · exact absurd h.symm (hp j i (by omega) (by omega) h1)

theorem split_count (L : List Nat) (p p' : Nat → Bool) (g : Nat) (hg : p g = true) (hg' : p' g = false) (ho : ∀ s, s ≠ g → p s = p' s) : (L.filter p).length = (L.filter p').length + (L.filter (fun s => decide (s = g))).length := by
  induction L with
  | nil => rfl
  | cons s L ih =>
    by_cases h : s = g
    · subst h
      simp [hg, hg', ih]
      omega
    · simp only [List.filter_cons, ho s h, decide_eq_false h]
      cases p' s <;> simp <;> omega

theorem wl_step {C : Circ} (hG : C.gates.Nodup) {T : List Nat} {x : Nat} (hx : x < C.ands.length) (hT : ∀ t ∈ T, t < C.ands.length) (hn : x ∉ T) (i : Nat) (hi : i < C.ands.length) :
    C.wl T i = C.wl (T ++ [x]) i + (C.users x).count i := by
  have hu : (C.users x).count i = ((C.sides i).filter (fun s => decide (s = C.gateOf x))).length := by
    unfold Circ.users; rw [C.upTo_count, if_pos hi]
  rw [hu]
  unfold Circ.wl Circ.waitsL
  have hgT : C.gateOf x ∉ T.map C.gateOf := fun hm => by
    obtain ⟨t, ht, e⟩ := List.mem_map.1 hm
    have := gate_inj hG (hT t ht) hx e
    subst this
    exact hn ht
  refine split_count _ _ _ _ ?_ ?_ ?_
  · rw [decide_eq_true (gate_mem C x hx), decide_eq_false hgT]; rfl
  · rw [decide_eq_true (show C.gateOf x ∈ (T ++ [x]).map C.gateOf by simp)]; simp
  · intro s hs
    have : (s ∈ (T ++ [x]).map C.gateOf) ↔ s ∈ T.map C.gateOf := by
      rw [List.map_append, List.mem_append]
      constructor
      · rintro (h | h)
        · exact h
        · simp at h; exact absurd h hs
      · exact .inl
    rw [decide_eq_decide.2 this]

/-- One that waited for what is taken. -/
def dec1 (st : List Int × List Nat) (u : Nat) : List Int × List Nat := (st.1.set u (atP st.1 u - 1), if atP st.1 u - 1 = 0 then st.2 ++ [u] else st.2)
def decL (r : List Nat) (wts : List Int) : List Int × List Nat := r.foldl dec1 (wts, [])
theorem decL_snoc (r : List Nat) (u : Nat) (wts : List Int) : decL (r ++ [u]) wts = dec1 (decL r wts) u := by unfold decL; rw [List.foldl_append]; rfl
theorem at_set_same {α : Type} [Inhabited α] (xs : List α) (i : Nat) (x : α) (h : i < xs.length) : atP (xs.set i x) i = x := by simp [atP, List.getD_eq_getElem?_getD, h]
theorem at_set_other {α : Type} [Inhabited α] (xs : List α) (i j : Nat) (x : α) (h : i ≠ j) : atP (xs.set i x) j = atP xs j := by simp [atP, List.getD_eq_getElem?_getD, List.getElem?_set_ne h]

theorem decL_spec (wts : List Int) : ∀ r : List Nat, (∀ u ∈ r, u < wts.length) → (decL r wts).1.length = wts.length ∧ (∀ i, i < wts.length → atP (decL r wts).1 i = atP wts i - (r.count i : Int)) ∧
    ((∀ i, i < wts.length → (r.count i : Int) ≤ atP wts i) → (∀ u, u ∈ (decL r wts).2 ↔ u ∈ r ∧ atP wts u = (r.count u : Int)) ∧ (decL r wts).2.Nodup) := by
  refine snocInd (fun _ => ⟨rfl, fun i _ => by simp [decL], fun _ => ⟨fun u => by simp [decL], List.nodup_nil⟩⟩) ?_
  intro r u ih hr
  obtain ⟨h1, h2, h3⟩ := ih (fun v hv => hr v (List.mem_append_left _ hv))
  have hu : u < wts.length := hr u (by simp)
  have hcu : (r ++ [u]).count u = r.count u + 1 := by simp
  have hco : ∀ i, i ≠ u → (r ++ [u]).count i = r.count i := fun i hi => by rw [List.count_append, List.count_singleton]; simp [Ne.symm hi]
  rw [decL_snoc]
  unfold dec1
  refine ⟨by simpa using h1, fun i hi => ?_, fun hle => ?_⟩
  · by_cases e : i = u
    · subst e
      rw [at_set_same _ _ _ (by omega), h2 i hi, hcu]; omega
    · rw [at_set_other _ _ _ _ (fun h => e h.symm), h2 i hi, hco i e]
  · have hle' : ∀ i, i < wts.length → (r.count i : Int) ≤ atP wts i := fun i hi => by
      have := hle i hi
      by_cases e : i = u
      · subst e; rw [hcu] at this; omega
      · rw [hco i e] at this; exact this
    obtain ⟨h4, h5⟩ := h3 hle'
    have hun : u ∉ (decL r wts).2 := fun hm => by
      have := ((h4 u).1 hm).2
      have h6 := hle u hu
      rw [hcu] at h6
      omega
    dsimp only
    rw [h2 u hu]
    by_cases hz : atP wts u - (r.count u : Int) - 1 = 0
    · rw [if_pos hz]
      refine ⟨fun v => ?_, List.nodup_append.2 ⟨h5, List.nodup_cons.2 ⟨List.not_mem_nil, List.nodup_nil⟩, fun a ha b hb e => by rw [List.mem_singleton] at hb; subst hb; subst e; exact hun ha⟩⟩
      rw [List.mem_append, List.mem_append, h4, List.mem_singleton]
      by_cases e : v = u
      · subst e
        rw [hcu]
        constructor
        · intro _; exact ⟨.inr rfl, by omega⟩
        · intro _; exact .inr rfl
      · rw [hco v e]; simp [e]
    · rw [if_neg hz]
      refine ⟨fun v => ?_, h5⟩
      rw [h4, List.mem_append, List.mem_singleton]
      by_cases e : v = u
      · subst e
        rw [hcu]
        have h6 := hle v hu
        rw [hcu] at h6
        constructor
        · rintro ⟨-, h7⟩; exfalso; omega
        · rintro ⟨-, h7⟩; exfalso; omega
      · rw [hco v e]; simp [e]

/-- WHAT STANDS WHEN T HAS BEEN TAKEN: who waits for how many, and who may be taken. -/
structure Taken (C : Circ) (T : List Nat) (wts : List Int) (rs : List Nat) : Prop where
  len : wts.length = C.ands.length
  wait : ∀ i, i < C.ands.length → atP wts i = (C.wl T i : Int)
  mem : ∀ i, i ∈ rs ↔ i < C.ands.length ∧ i ∉ T ∧ C.wl T i = 0
  nd : rs.Nodup
  lt : ∀ t ∈ T, t < C.ands.length
  tnd : T.Nodup
  done : ∀ t ∈ T, C.wl T t = 0

theorem readyB_iff (C : Circ) (T : List Nat) (i : Nat) : C.readyB T i = true ↔ C.wl T i = 0 := by
  unfold Circ.readyB Circ.wl
  rw [List.isEmpty_iff, List.length_eq_zero_iff]

theorem next_none {C : Circ} {T : List Nat} {wts : List Int} (h : Taken C T wts []) : C.nextA T = none := by
  unfold Circ.nextA
  rw [List.find?_eq_none]
  intro i hi hp
  rw [Bool.and_eq_true] at hp
  have hm := (h.mem i).2 ⟨List.mem_range.1 hi, by simpa using hp.1, (readyB_iff C T i).1 hp.2⟩
  cases hm

theorem next_some {C : Circ} {T : List Nat} {wts : List Int} {rs : List Nat} {x : Nat} (h : Taken C T wts rs) (hx : x ∈ rs) (hmin : ∀ y ∈ rs, x ≤ y) : C.nextA T = some x := by
  unfold Circ.nextA
  obtain ⟨h1, h2, h3⟩ := (h.mem x).1 hx
  rw [List.find?_range_eq_some]
  refine ⟨by rw [Bool.and_eq_true]; exact ⟨by simpa using h2, (readyB_iff C T x).2 h3⟩, List.mem_range.2 h1, fun j hj => ?_⟩
  cases hp : (!decide (j ∈ T) && C.readyB T j) with
  | false => rfl
  | true =>
    rw [Bool.and_eq_true] at hp
    have := hmin j ((h.mem j).2 ⟨by omega, by simpa using hp.1, (readyB_iff C T j).1 hp.2⟩)
    omega

theorem taken_start {C : Circ} {wts : List Int} {rs : List Nat} (hl : wts.length = C.ands.length) (hw : ∀ i, i < C.ands.length → atP wts i = (C.wl [] i : Int)) (hm : ∀ i, i ∈ rs ↔ i < C.ands.length ∧ C.wl [] i = 0) (hn : rs.Nodup) : Taken C [] wts rs :=
  ⟨hl, hw, fun i => by rw [hm]; simp, hn, (fun t ht => by cases ht), List.nodup_nil, (fun t ht => by cases ht)⟩

theorem taken_step {C : Circ} (hG : C.gates.Nodup) {T : List Nat} {wts : List Int} {rs rest rs' : List Nat} {x : Nat} (h : Taken C T wts rs) (hp : (x :: rest).Perm rs) (hp' : rs'.Perm (rest ++ (decL (C.users x) wts).2)) :
    Taken C (T ++ [x]) (decL (C.users x) wts).1 rs' := by
  have hx : x ∈ rs := hp.mem_iff.1 List.mem_cons_self
  obtain ⟨x1, x2, x3⟩ := (h.mem x).1 hx
  have hstep := fun i hi => wl_step hG x1 h.lt x2 i hi
  obtain ⟨d1, d2, d3⟩ := decL_spec wts (C.users x) (fun u hu => by rw [h.len]; exact C.users_lt x u hu)
  obtain ⟨d4, d5⟩ := d3 (fun i hi => by rw [h.len] at hi; rw [h.wait i hi, hstep i hi]; omega)
  have hwait : ∀ i, i < C.ands.length → atP (decL (C.users x) wts).1 i = (C.wl (T ++ [x]) i : Int) := fun i hi => by
    rw [d2 i (by rw [h.len]; exact hi), h.wait i hi, hstep i hi]; omega
  have hndx : (x :: rest).Nodup := hp.nodup_iff.2 h.nd
  obtain ⟨hxr, hrn⟩ := List.nodup_cons.1 hndx
  have hrest : ∀ i, i ∈ rest ↔ i ∈ rs ∧ i ≠ x := fun i => by
    rw [← hp.mem_iff, List.mem_cons]
    constructor
    · intro hi; exact ⟨.inr hi, fun e => hxr (e ▸ hi)⟩
    · rintro ⟨h1 | h1, h2⟩
      · exact absurd h1 h2
      · exact h1
  have hpush : ∀ i, i ∈ (decL (C.users x) wts).2 ↔ i < C.ands.length ∧ 0 < C.wl T i ∧ C.wl (T ++ [x]) i = 0 := fun i => by
    rw [d4]
    constructor
    · rintro ⟨h1, h2⟩
      have hi := C.users_lt x i h1
      have hc : 0 < (C.users x).count i := List.count_pos_iff.2 h1
      rw [h.wait i hi] at h2
      have := hstep i hi
      exact ⟨hi, by omega, by omega⟩
    · rintro ⟨hi, h1, h2⟩
      have := hstep i hi
      exact ⟨List.count_pos_iff.1 (by omega), by rw [h.wait i hi]; omega⟩
  refine ⟨by rw [d1]; exact h.len, hwait, fun i => ?_, ?_, ?_, ?_, ?_⟩
  · rw [hp'.mem_iff, List.mem_append, hrest, hpush, h.mem, List.mem_append, List.mem_singleton]
    constructor
    · rintro (⟨⟨h1, h2, h3⟩, h4⟩ | ⟨h1, h2, h3⟩)
      · have := hstep i h1
        exact ⟨h1, by rintro (h | h); exact h2 h; exact h4 h, by omega⟩
      · refine ⟨h1, ?_, h3⟩
        rintro (hm | hm)
        · have := h.done i hm; omega
        · subst hm; omega
    · rintro ⟨h1, h2, h3⟩
      have := hstep i h1
      by_cases hz : C.wl T i = 0
      · exact .inl ⟨⟨h1, fun hm => h2 (.inl hm), hz⟩, fun e => h2 (.inr e)⟩
      · exact .inr ⟨h1, by omega, h3⟩
  · rw [hp'.nodup_iff]
    refine List.nodup_append.2 ⟨hrn, d5, fun a ha b hb e => ?_⟩
    subst e
    have h1 := ((h.mem a).1 ((hrest a).1 ha).1).2.2
    have h2 := ((hpush a).1 hb).2.1
    omega
  · intro t ht
    rcases List.mem_append.1 ht with ht | ht
    · exact h.lt t ht
    · rw [List.mem_singleton] at ht; subst ht; exact x1
  · exact List.nodup_append.2 ⟨h.tnd, List.nodup_cons.2 ⟨List.not_mem_nil, List.nodup_nil⟩, fun a ha b hb e => by rw [List.mem_singleton] at hb; subst hb; subst e; exact x2 ha⟩
  · intro t ht
    have htl : t < C.ands.length := by
      rcases List.mem_append.1 ht with ht | ht
      · exact h.lt t ht
      · rw [List.mem_singleton] at ht; subst ht; exact x1
    have := hstep t htl
    rcases List.mem_append.1 ht with ht | ht
    · have := h.done t ht; omega
    · rw [List.mem_singleton] at ht; subst ht; omega

theorem nodup_len : ∀ (n : Nat) (T : List Nat), T.Nodup → (∀ t ∈ T, t < n) → T.length ≤ n
  | 0, T, _, h => by
    cases T with
    | nil => exact Nat.le_refl _
    | cons t T => exact absurd (h t List.mem_cons_self) (Nat.not_lt_zero _)
  | n + 1, T, hn, h => by
    have h1 := nodup_len n (T.erase n) (hn.erase n) (fun t ht => by
      obtain ⟨h2, h3⟩ := (List.Nodup.mem_erase_iff hn).1 ht
      have := h t h3
      omega)
    have h4 : T.length ≤ (T.erase n).length + 1 := by
      rw [List.length_erase]
      split <;> omega
    omega

theorem taken_len {C : Circ} {T : List Nat} {wts : List Int} {rs : List Nat} (h : Taken C T wts rs) : T.length ≤ C.ands.length := by
  exact nodup_len C.ands.length T h.tnd h.lt

theorem turn_go {C : Circ} {T : List Nat} {x : Nat} (hn : C.nextA T = some x) (hl : T.length < C.ands.length) : C.turnA (C.ands.length - T.length) T = C.turnA (C.ands.length - (T ++ [x]).length) (T ++ [x]) := by
  obtain ⟨f, hf⟩ : ∃ f, C.ands.length - T.length = f + 1 := ⟨C.ands.length - T.length - 1, by omega⟩
  rw [hf, Circ.turnA, hn]
  have : C.ands.length - (T ++ [x]).length = f := by simp; omega
  rw [this]
theorem turn_end {C : Circ} {T : List Nat} (hn : C.nextA T = none) (f : Nat) : C.turnA f T = T := by
  cases f with
  | zero => rfl
  | succ f => rw [Circ.turnA, hn]
end Go.Proofs.YtikjbbebfjleaaaGreatDoor
