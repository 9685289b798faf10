/-
  WHAT STANDS between two rounds of Least's first loop.
-/
import Derived.Test.YtcbgnmkipbhncaaLeastPlain
import Derived.Test.YtcbgnmkipbhncaaLawCubeSets
namespace Go.Proofs.Ytcbgnmkipbhncaa
open Go.RowKit Go.Maps
set_option linter.unusedSectionVars false
variable [Inhabited El]

structure LMid (R : List Pl) (ss : List El) (wA w3 : World) (i q : Nat) (v : Value) (K : List El) (nU : Nat) (D : DataW Value) (gv : Int → Value) (G : Int → List El) (wr : World) : Prop where
  kp : Keeper wr (wA.heap.size + 2) wA.heap.size (wA.heap.size + 1) w3.heap.size nU wA D gv G
  own : wr.ownsRow w3.heap.size 53 2 v q (cellsE K)
  len : K.length = q
  apart : ∀ n g, (gv n).ownBlock = some g → v.ownBlock ≠ some g
  old : ∀ k, k < w3.heap.size → k ≠ wA.heap.size + 1 → wr.heap[k]? = w3.heap[k]?
  big : w3.heap.size ≤ wr.heap.size
  mem : ∀ e, e ∈ K ↔ (∃ j, j < i ∧ e = atP ss j) ∧ Ideal R (keyE e)
  nd : (K.map fun e => e.place).Nodup
  grp1 : ∀ n, ∀ e ∈ G n, e ∈ K ∧ ((e.xs = [] ∧ n = 0) ∨ n ∈ e.xs)
  grp2 : ∀ e ∈ K, ∃ n, e ∈ G n
  cnt : ∀ n, (G n).length ≤ q
  cntU : nU ≤ q

theorem part_iff {R : List Pl} {ss : List El} {wA w3 : World} {i q : Nat} {v : Value} {K : List El} {nU : Nat} {D : DataW Value} {gv : Int → Value} {G : Int → List El} {wr : World} (h : LMid R ss wA w3 i q v K nU D gv G wr) (hf : ∀ e ∈ K, ∀ y ∈ e.xs, Fits y) (xs : List Int) :
    partB G xs = true ↔ ∃ e ∈ K, ∀ y ∈ e.xs, y ∈ xs := by
  unfold partB
  rw [Bool.or_eq_true, decide_eq_true_iff, List.any_eq_true]
  constructor
  · rintro (h0 | ⟨n, hn, h1⟩)
    · obtain ⟨e, he⟩ : ∃ e, e ∈ G 0 := ⟨atP (G 0) 0, atP_mem _ 0 h0⟩
      obtain ⟨h1, h2 | h2⟩ := h.grp1 0 e he
      · exact ⟨e, h1, fun y hy => by rw [h2.1] at hy; cases hy⟩
      · exact absurd rfl (hf e h1 0 h2).1
    · obtain ⟨e, he, hw⟩ := List.any_eq_true.1 h1
      exact ⟨e, (h.grp1 n e he).1, (withinB_iff _ _).1 hw⟩
  · rintro ⟨e, he, hs⟩
    obtain ⟨n, hn⟩ := h.grp2 e he
    rcases (h.grp1 n e hn).2 with ⟨h1, rfl⟩ | h1
    · exact .inl (List.length_pos_of_mem hn)
    · exact .inr ⟨n, hs n h1, List.any_eq_true.2 ⟨e, hn, (withinB_iff _ _).2 hs⟩⟩

theorem LMid.skip {R : List Pl} {ss : List El} {wA w3 : World} {i q : Nat} {v : Value} {K : List El} {nU : Nat} {D : DataW Value} {gv : Int → Value} {G : Int → List El} {wr w5 : World} (h : LMid R ss wA w3 i q v K nU D gv G wr) (hb : Below wr.heap.size wr w5) (hid : ¬ Ideal R (keyE (atP ss i))) : LMid R ss wA w3 (i + 1) q v K nU D gv G w5 :=
  { h with
    kp := h.kp.under hb
    own := own_below h.own hb
    old := fun k hk hne => (hb.block k (Nat.lt_of_lt_of_le hk h.big)).trans (h.old k hk hne)
    big := Nat.le_trans h.big hb.size
    mem := fun e => by
      rw [h.mem e]
      constructor
      · rintro ⟨⟨j, hj, e1⟩, h2⟩; exact ⟨⟨j, by omega, e1⟩, h2⟩
      · rintro ⟨⟨j, hj, e1⟩, h2⟩
        by_cases hji : j = i
        · subst hji; rw [e1] at h2; exact absurd h2 hid
        · exact ⟨⟨j, by omega, e1⟩, h2⟩ }

theorem LMid.take {R : List Pl} {ss : List El} {wA w3 : World} {i q : Nat} {v v7 : Value} {K : List El} {nU : Nat} {D : DataW Value} {gv : Int → Value} {G : Int → List El} {wr w5 w6 w7 : World} {x : El} {o : Obj} {e0 : Ending} (h : LMid R ss wA w3 i q v K nU D gv G wr) (hS : Sorted R ss) (hi : i < ss.length) (hx : x = atP ss i) (hb : Below wr.heap.size wr w5) (hid : Ideal R (keyE x))
    (hk : KeepPost w5 (wA.heap.size + 2) wA.heap.size (wA.heap.size + 1) w3.heap.size nU wA gv G x e0 w6)
    (hown : w7.ownsRow w3.heap.size 53 2 v7 (q + 1) (cellsE K ++ cellsE [x])) (hg : (w6.alloc o).grownBy w7 v.ownBlock) (hat : v7.ownBlock = v.ownBlock ∨ v7.ownBlock = some (w6.alloc o).heap.size) :
    ∃ D' gv' G', LMid R ss wA w3 (i + 1) (q + 1) v7 (K ++ [x]) (nU + 1) D' gv' G' w7 := by
  obtain ⟨-, r, D', v', hkp, hr1, hr2, hs6, hold, hnew⟩ := hk
  have hsz7 : (w6.alloc o).heap.size = w6.heap.size + 1 := by simp
  have hbs := hb.size
  have hvlt := h.own.lt
  have hapart : ∀ n g, (putV gv r v' n).ownBlock = some g → v.ownBlock ≠ some g := fun n g hn hv => by
    unfold putV at hn
    by_cases e : n = r
    · rw [if_pos e] at hn
      rcases hnew g hn with e2 | e2
      · exact h.apart r g e2 hv
      · have := (hvlt g hv).2; omega
    · rw [if_neg e] at hn
      exact h.apart n g hn hv
  have hfar : ∀ j, j < w3.heap.size → some j ≠ v.ownBlock := fun j hj e => by have := (hvlt j e.symm).1; omega
  have k6 : Keeper (w6.alloc o) (wA.heap.size + 2) wA.heap.size (wA.heap.size + 1) w3.heap.size (nU + 1) wA D' (putV gv r v') (putG G r x) := hkp.kept (World.grownBy_alloc w6 o none) (by simp) (by simp) (by simp) (fun n => by cases (putV gv r v' n).ownBlock <;> simp) (fun k hk => by cases hk)
  have k7 := k6.kept hg (hfar _ hkp.kbB) (hfar _ hkp.cbB) (hfar _ hkp.ubB) (fun n => by
    cases hn : (putV gv r v' n).ownBlock with
    | none => exact .inl rfl
    | some g => exact .inr (fun e => hapart n g hn e.symm)) (fun k hk => by have := (hvlt k hk).1; have := hkp.ubB; omega)
  refine ⟨D', putV gv r v', putG G r x, k7, by rw [cellsE_append]; exact hown, by simp [h.len], fun n g hn hv => ?_, fun k hk hne => ?_, by have := hg.size; have := h.big; omega, fun e => ?_, ?_, fun n e he => ?_, fun e he => ?_, fun n => ?_, by have := h.cntU; omega⟩
  · rcases hat with e | e
    · rw [e] at hv; exact hapart n g hn hv
    · rw [e] at hv
      have h1 := Option.some.inj hv
      have h2 := ((hkp.own n).lt g hn).2
      omega
  · have hgr : ∀ n, (gv n).ownBlock ≠ some k := fun n e => by have := ((h.kp.own n).lt k e).1; omega
    have hkr : k < wr.heap.size := Nat.lt_of_lt_of_le hk h.big
    exact (hg.block k (by omega) (hfar k hk)).trans (((World.grownBy_alloc w6 o none).block k (by omega) (by simp)).trans ((hold k (by omega) hne hgr).trans ((hb.block k hkr).trans (h.old k hk hne))))
  · rw [List.mem_append, h.mem e, List.mem_singleton]
    constructor
    · rintro (⟨⟨j, hj, e1⟩, h2⟩ | e1)
      · exact ⟨⟨j, by omega, e1⟩, h2⟩
      · subst e1; exact ⟨⟨i, by omega, hx⟩, hid⟩
    · rintro ⟨⟨j, hj, e1⟩, h2⟩
      by_cases hji : j = i
      · subst hji; exact .inr (e1.trans hx.symm)
      · exact .inl ⟨⟨j, by omega, e1⟩, h2⟩
  · rw [List.map_append]
    refine List.pairwise_append.2 ⟨h.nd, List.pairwise_singleton _ _, fun a ha b hb2 => ?_⟩
    obtain ⟨e, he, rfl⟩ := List.mem_map.1 ha
    obtain ⟨⟨j, hj, rfl⟩, _⟩ := (h.mem e).1 he
    have : b = x.place := by simpa using hb2
    subst this
    have hn := List.pairwise_iff_getElem.1 hS.nodup j i (by simp; omega) (by simp; exact hi) hj
    simp only [List.getElem_map] at hn
    rwa [← atP_eq ss i hi, ← atP_eq ss j (by omega), ← hx] at hn
  · unfold putG at he
    by_cases hn : n = r
    · rw [if_pos hn] at he
      rcases List.mem_append.1 he with he | he
      · have := h.grp1 r e he
        rw [hn]
        exact ⟨List.mem_append_left _ this.1, this.2⟩
      · rw [List.mem_singleton] at he
        subst he
        refine ⟨List.mem_append_right _ List.mem_cons_self, ?_⟩
        rw [hn]
        by_cases h0 : 0 < e.xs.length
        · exact .inr (hr2 h0)
        · have : e.xs = [] := List.eq_nil_of_length_eq_zero (by omega)
          exact .inl ⟨this, hr1 this⟩
    · rw [if_neg hn] at he
      have := h.grp1 n e he
      exact ⟨List.mem_append_left _ this.1, this.2⟩
  · rcases List.mem_append.1 he with he | he
    · obtain ⟨n, hn⟩ := h.grp2 e he
      refine ⟨n, ?_⟩
      unfold putG
      by_cases hnr : n = r
      · rw [if_pos hnr, ← hnr]; exact List.mem_append_left _ hn
      · rw [if_neg hnr]; exact hn
    · rw [List.mem_singleton] at he
      subst he
      exact ⟨r, by unfold putG; rw [if_pos rfl]; exact List.mem_append_right _ List.mem_cons_self⟩
  · unfold putG
    by_cases hnr : n = r
    · rw [if_pos hnr, List.length_append]
      have := h.cnt r
      simp; omega
    · rw [if_neg hnr]
      have := h.cnt n
      omega
end Go.Proofs.Ytcbgnmkipbhncaa
