/-
  A PILE OF PLACES IS A HEAP; Push and Pop of container/heap over it.
-/
import Derived.Test.YtppaifckiaaffaaPlaces
import Derived.Test.YtppaifckiaaffaaHeapV
namespace Go.Proofs.Ytppaifckiaaffaa
open Go.RowKit

section
variable {B q g n c : Nat}
theorem pl_form {v : Value} {xs : List Int} {w : World} (h : Pile B q v xs w) (hp : 0 < xs.length) : ∃ g c, v = .slice (some ⟨g, 0, none⟩) xs.length c ∧ xs.length ≤ c ∧ c ≤ 9223372036854775807 := by
  rcases h.own.2 with ⟨_, e⟩ | ⟨g, cap, cur, e, _, _, h1, h2, _⟩
  · omega
  · exact ⟨g, cap, e, h1, h2⟩
theorem pl_cell {xs : List Int} {w : World} (h : Pile B q (.slice (some ⟨g, 0, none⟩) xs.length c) xs w) (i : Nat) (hi : i < xs.length) : w.cell? ⟨g, i, none⟩ = some (.int .i64 (atP xs i)) := by
  rw [h.own.cellAt i (by omega), List.getElem?_map, atP_some xs i hi]; rfl
theorem swp_vals (xs : List Int) (i j : Nat) : ((xs.map (Value.int .i64)).set i (.int .i64 (atP xs j))).set j (.int .i64 (atP xs i)) = (swpP xs i j).map (Value.int .i64) := by
  unfold swpP; simp [List.map_set]

/-- The pile, of a size that may be. -/
def PileR (B q : Nat) (v : Value) (w : World) (xs : List Int) : Prop := Pile B q v xs w ∧ B ≤ w.heap.size ∧ xs.length ≤ 1152921504606846976
def Touch (v : Value) : World → World → Prop := Kept (fun k => v.ownBlock = some k)
structure Mv (q : Nat) (v v1 : Value) (w w' : World) : Prop where
  kept : Kept (fun k => k = q ∨ v.ownBlock = some k) w w'
  at_ : v1.ownBlock = v.ownBlock ∨ ∃ b, v1.ownBlock = some b ∧ w.heap.size ≤ b
  rest : ∀ o, 0 < o → w'.cell? ⟨q, o, none⟩ = w.cell? ⟨q, o, none⟩

theorem places_heaps (B q : Nat) : HeapsV (α := Int) 113 (.pointer (some ⟨q, 0, none⟩)) 92 129 132 130 131 (fun x => .iface 3 (.int .i64 x)) ltN (PileR B q) Touch (Mv q) where
  mN v w xs h := by kernel_rfl
  mL v w xs h := by kernel_rfl
  mS v w xs h := by kernel_rfl
  mP w := by kernel_rfl
  mU w := by kernel_rfl
  eN := eLen
  eL := eLess
  eS := eSwap
  eP := ePop
  eU := ePush
  len v w xs h := by
    obtain ⟨a, c, rfl⟩ := own_form h.1.own
    exact plLen q a xs.length c w h.1.c0
  less v w xs h i j I J hI hJ hi hj := by
    subst hI; subst hJ
    obtain ⟨g, c, rfl, -, -⟩ := pl_form h.1 (by omega)
    refine (plLess q g xs.length c w i j _ _ h.1.c0 h.1.c1 hi hj h.2.2 (pl_cell h.1 i hi) (pl_cell h.1 j hj)).mono ?_
    rintro e w' ⟨rfl, r, rfl⟩
    exact ⟨rfl, ⟨h.1.kept (S := fun _ => False) ((Kept.refl _ _).drew r) (fun h => h) (fun _ _ h => h), h.2⟩, (Kept.refl _ _).drew r⟩
  swap v w xs h i j I J hI hJ hi hj := by
    subst hI; subst hJ
    obtain ⟨g, c, rfl, -, -⟩ := pl_form h.1 (by omega)
    refine (plSwap q g xs.length c w i j _ _ h.1.c0 hi hj h.2.2 (pl_cell h.1 i hi) (pl_cell h.1 j hj) (h.1.own.frozenAt i) (h.1.own.frozenAt j)).mono ?_
    rintro e w' ⟨rfl, r, rfl⟩
    have hgq : ¬ (Value.slice (some ⟨g, 0, none⟩) xs.length c).ownBlock = some q := h.1.ne
    have hk : Touch (.slice (some ⟨g, 0, none⟩) xs.length c) w (((w.setCell ⟨g, i, none⟩ (.int .i64 (atP xs j))).setCell ⟨g, j, none⟩ (.int .i64 (atP xs i))).drewN r) := (((Kept.refl (fun k => (Value.slice (some ⟨g, 0, none⟩) xs.length c).ownBlock = some k) w).set g i _ rfl).set g j _ rfl).drew r
    refine ⟨rfl, ⟨⟨?_, ?_, ?_, ?_, h.1.ne⟩, by simpa using h.2.1, by rw [swpP_len]; exact h.2.2⟩, hk⟩
    · exact (World.cell?_of_block (w := w) (hk.block q h.1.blk hgq)).trans h.1.c0
    · exact (World.cell?_of_block (w := w) (hk.block q h.1.blk hgq)).trans h.1.c1
    · exact (World.frozen?_of_block (w := w) (hk.block q h.1.blk hgq)).trans h.1.f0
    · have h2 := ((h.1.own.stored i (.int .i64 (atP xs j))).1.stored j (.int .i64 (atP xs i))).1
      rw [swp_vals xs i j] at h2
      rw [swpP_len]
      exact h2
  pop v w xs x h := by
    obtain ⟨g, c, rfl, h1, h2⟩ := pl_form h.1 (by simp)
    have hl : (xs ++ [x]).length = xs.length + 1 := by simp
    have hx := pl_cell h.1 xs.length (by omega)
    have e : atP (xs ++ [x]) xs.length = x := by simp [atP]
    rw [e] at hx
    have hc0 := h.1.c0
    rw [hl] at hc0
    rw [hl] at h1
    refine (plPop q g xs.length c w hc0 h.1.f0 x (by have := h.2.2; omega) h1 h2 hx).mono ?_
    rintro e w' ⟨rfl, rfl⟩
    have hne : ¬ (some g = some q) := h.1.ne
    have hk : Kept (fun k => k = q) w (w.setCell ⟨q, 0, none⟩ (.slice (some ⟨g, 0, none⟩) xs.length c)) := (Kept.refl (fun k => k = q) w).set q 0 _ rfl
    refine ⟨rfl, .slice (some ⟨g, 0, none⟩) xs.length c, ⟨⟨cell_set_same hc0, (cell_head q 1 w _ (by decide)).trans h.1.c1, by simpa using h.1.f0, ?_, h.1.ne⟩, by simpa using h.2.1, by have := h.2.2; omega⟩, ⟨hk.mono (fun i hi => .inl hi), .inl rfl, fun o ho => cell_head q o w _ ho⟩⟩
    have ho := h.1.own
    rw [hl, List.map_append] at ho
    have ho2 := ownsRow_pop (by simp) ho
    exact hk.own ho2 (fun b hb hs => hne (by rw [← hs]; exact hb))
  push v w xs x h hn := by
    refine (plPush q B v xs x w h.1 h.2.1 hn).mono ?_
    rintro e w' ⟨rfl, v1, hm⟩
    exact ⟨rfl, v1, ⟨hm.pile, Nat.le_trans h.2.1 hm.kept.size, by simp; omega⟩, ⟨hm.kept, hm.at_, hm.rest⟩⟩
  crefl v w := Kept.refl _ _
  ctrans v a b c h k := h.trans k (fun _ _ h => h)
  small v w xs h := h.2.2

/-- What a push, or a pop, of the heap leaves. -/
structure HMoved (B q : Nat) (v v1 : Value) (xs : List Int) (w w' : World) : Prop where
  pile : PileR B q v1 w' xs
  heap : HeapP ltN xs
  kept : Kept (fun k => k = q ∨ v.ownBlock = some k) w w'
  at_ : v1.ownBlock = v.ownBlock ∨ ∃ b, v1.ownBlock = some b ∧ w.heap.size ≤ b
  rest : ∀ o, 0 < o → w'.cell? ⟨q, o, none⟩ = w.cell? ⟨q, o, none⟩

theorem heapPush {v : Value} {w : World} {xs : List Int} (x : Int) (h : PileR B q v w xs) (hh : HeapP ltN xs) (hn : xs.length ≤ 1000000) :
    Calls Try.prog 108 #[.iface 113 (.pointer (some ⟨q, 0, none⟩)), .iface 3 (.int .i64 x)] w fun e w' => e = .returned (.tuple #[]) ∧ ∃ v1 ys, HMoved B q v v1 ys w w' ∧ ys.Perm (xs ++ [x]) := by
  refine (hpush_any (places_heaps B q) weakN v w xs x h hh hn).mono ?_
  rintro e w' ⟨rfl, v1, w1, ys, hm, hc, hr, hp, hperm⟩
  have hnq := hr.1.ne
  have hql : q < w1.heap.size := Nat.lt_of_lt_of_le h.1.blk hm.kept.size
  refine ⟨rfl, v1, ys, ⟨hr, hp, hm.kept.trans hc (fun i hi ht => ?_), hm.at_, fun o ho => ?_⟩, hperm⟩
  · rcases hm.at_ with e | ⟨b, e, hb⟩
    · rw [e] at ht; exact .inr ht
    · rw [e] at ht; have := Option.some.inj ht; omega
  · exact (World.cell?_of_block (w := w1) (a := ⟨q, o, none⟩) (hc.block q hql hnq)).trans (hm.rest o ho)

theorem heapPop {v : Value} {w : World} {xs : List Int} (h : PileR B q v w xs) (hh : HeapP ltN xs) (m : Nat) (hl : xs.length = m + 1) :
    Calls Try.prog 93 #[.iface 113 (.pointer (some ⟨q, 0, none⟩))] w fun e w' => e = .returned (.iface 3 (.int .i64 (atP xs 0))) ∧ ∃ v1 ys, HMoved B q v v1 ys w w' ∧ (atP xs 0 :: ys).Perm xs ∧ ∀ y ∈ ys, ltN y (atP xs 0) = false := by
  refine (hpop_any (places_heaps B q) weakN v w xs h m hl hh).mono ?_
  rintro e w' ⟨rfl, v1, w1, ys, hc, hm, hr, hp, hperm, hmin⟩
  have hnq := h.1.ne
  refine ⟨rfl, v1, ys, ⟨hr, hp, ?_, ?_, fun o ho => ?_⟩, hperm, hmin⟩
  · exact (hc.mono (fun i hi => .inr hi)).trans hm.kept (fun i _ ht => ht)
  · rcases hm.at_ with e | ⟨b, e, hb⟩
    · exact .inl e
    · exact .inr ⟨b, e, Nat.le_trans hc.size hb⟩
  · exact (hm.rest o ho).trans (World.cell?_of_block (w := w) (a := ⟨q, o, none⟩) (hc.block q h.1.blk hnq))
end
end Go.Proofs.Ytppaifckiaaffaa
