/-
  THE QUEUE OF ANDS IN MEMORY; the walk of take.
-/
import Derived.Test.YtikjbbebfjleaaaGreatDoorJ17
import Derived.Test.YtikjbbebfjleaaaGreatDoorAigKnown
namespace Go.Proofs.YtikjbbebfjleaaaGreatDoor
open Go.RowKit

def natV (k : Nat) : Value := .int .i64 (k : Int)

/-- The queue at q, whose pile lies at pq: xs may be taken, wts tells how many each waits for, us who waits for each. -/
structure QM (B0 B q pq gw gu n : Nat) (rv : Value) (xs wts : List Int) (vs : List Value) (us : List (List Nat)) (w : World) : Prop where
  pile : PileR B pq rv w xs
  heap : HeapP ltN xs
  c0 : w.cell? ⟨q, 0, none⟩ = some (.pointer (some ⟨pq, 0, none⟩))
  c1 : w.cell? ⟨q, 1, none⟩ = some (.slice (some ⟨gw, 0, none⟩) n n)
  c2 : w.cell? ⟨q, 2, none⟩ = some (.slice (some ⟨gu, 0, none⟩) n n)
  ow : w.ownsRow B0 3 1 (.slice (some ⟨gw, 0, none⟩) n n) n (wts.map (Value.int .i64))
  ou : w.ownsRow B0 24 1 (.slice (some ⟨gu, 0, none⟩) n n) n vs
  rows : ∀ i, i < n → w.ownsRow B 3 1 (atP vs i) (atP us i).length ((atP us i).map natV)
  sep : ∀ i, i < n → ∀ b, (atP vs i).ownBlock = some b → rv.ownBlock ≠ some b
  sep2 : ∀ i j, i < n → j < n → i ≠ j → ∀ b, (atP vs i).ownBlock = some b → (atP vs j).ownBlock ≠ some b
  lt : q < B ∧ gw < B ∧ gu < B ∧ q ≠ gw ∧ q ≠ gu ∧ gw ≠ gu ∧ B0 ≤ q ∧ pq < B ∧ pq ≠ q ∧ pq ≠ gw ∧ pq ≠ gu ∧ B0 ≤ pq

section
variable {B0 B q pq gw gu n : Nat} {rv : Value} {xs wts : List Int} {vs : List Value} {us : List (List Nat)} {w : World}

theorem QM.qlt (h : QM B0 B q pq gw gu n rv xs wts vs us w) : q < w.heap.size := World.block_lt_of_cell? w _ h.c0
theorem QM.rvB (h : QM B0 B q pq gw gu n rv xs wts vs us w) : ∀ b, rv.ownBlock = some b → B ≤ b := fun b hb => (h.pile.1.own.lt b hb).1
theorem QM.vsB (h : QM B0 B q pq gw gu n rv xs wts vs us w) (i : Nat) (hi : i < n) : ∀ b, (atP vs i).ownBlock = some b → B ≤ b ∧ b < w.heap.size := fun b hb => (h.rows i hi).lt b hb
theorem QM.wlen (h : QM B0 B q pq gw gu n rv xs wts vs us w) : wts.length = n := by have := h.ow.1; simpa using this
theorem QM.vlen (h : QM B0 B q pq gw gu n rv xs wts vs us w) : vs.length = n := by have := h.ou.1; simpa using this
theorem QM.gwB (h : QM B0 B q pq gw gu n rv xs wts vs us w) : B0 ≤ gw ∧ gw < w.heap.size := h.ow.lt gw rfl
theorem QM.guB (h : QM B0 B q pq gw gu n rv xs wts vs us w) : B0 ≤ gu ∧ gu < w.heap.size := h.ou.lt gu rfl

/-- Waiting for one less, or more. -/
theorem QM.setW (h : QM B0 B q pq gw gu n rv xs wts vs us w) (i : Nat) (x : Int) : QM B0 B q pq gw gu n rv xs (wts.set i x) vs us (w.setCell ⟨gw, i, none⟩ (.int .i64 x)) ∧ Kept (fun b => b = gw) w (w.setCell ⟨gw, i, none⟩ (.int .i64 x)) := by
  have hk : Kept (fun b => b = gw) w (w.setCell ⟨gw, i, none⟩ (.int .i64 x)) := (Kept.refl (fun b => b = gw) w).set gw i _ rfl
  obtain ⟨l1, l2, l3, l4, l5, l6, l7, l8, l9, l10, l11, l12⟩ := h.lt
  have hq := hk.block q h.qlt l4
  refine ⟨⟨⟨h.pile.1.kept hk l10 (fun b hb e => by have := h.rvB b hb; omega), by simpa using h.pile.2.1, h.pile.2.2⟩, h.heap, (World.cell?_of_block (w := w) (a := ⟨q, 0, none⟩) hq).trans h.c0, (World.cell?_of_block (w := w) (a := ⟨q, 1, none⟩) hq).trans h.c1, (World.cell?_of_block (w := w) (a := ⟨q, 2, none⟩) hq).trans h.c2, ?_, ?_, ?_, h.sep, h.sep2, h.lt⟩, hk⟩
  · rw [List.map_set]; exact (h.ow.stored i _).1
  · exact hk.own h.ou (fun b hb e => by cases hb; exact l6 e.symm)
  · exact fun j hj => hk.own (h.rows j hj) (fun b hb e => by have := (h.vsB j hj b hb).1; omega)

/-- What a heap's push or pop leaves of the queue. -/
theorem QM.moved {rv1 : Value} {ys : List Int} {w' : World} (h : QM B0 B q pq gw gu n rv xs wts vs us w) (hm : HMoved B pq rv rv1 ys w w') : QM B0 B q pq gw gu n rv1 ys wts vs us w' := by
  obtain ⟨l1, l2, l3, l4, l5, l6, l7, l8, l9, l10, l11, l12⟩ := h.lt
  have hne : ∀ b, b < B → b ≠ pq → ¬ (b = pq ∨ rv.ownBlock = some b) := fun b hb hbq e => by
    rcases e with e | e
    · exact hbq e
    · have := h.rvB b e; omega
  have hq := hm.kept.block q h.qlt (hne q l1 (Ne.symm l9))
  refine ⟨hm.pile, hm.heap, (World.cell?_of_block (w := w) (a := ⟨q, 0, none⟩) hq).trans h.c0, (World.cell?_of_block (w := w) (a := ⟨q, 1, none⟩) hq).trans h.c1, (World.cell?_of_block (w := w) (a := ⟨q, 2, none⟩) hq).trans h.c2, ?_, ?_, ?_, ?_, h.sep2, h.lt⟩
  · exact hm.kept.own h.ow (fun b hb => by cases hb; exact hne gw l2 (Ne.symm l10))
  · exact hm.kept.own h.ou (fun b hb => by cases hb; exact hne gu l3 (Ne.symm l11))
  · refine fun j hj => hm.kept.own (h.rows j hj) (fun b hb e => ?_)
    rcases e with e | e
    · have := (h.vsB j hj b hb).1; omega
    · exact h.sep j hj b hb e
  · intro j hj b hb
    rcases hm.at_ with e | ⟨b', e, hb'⟩
    · rw [e]; exact h.sep j hj b hb
    · rw [e]; intro e2
      have := (h.vsB j hj b hb).2
      have := Option.some.inj e2
      omega

theorem QM.row (h : QM B0 B q pq gw gu n rv xs wts vs us w) (i : Nat) (hi : i < n) : ∃ a c, atP vs i = .slice a (atP us i).length c ∧ RowK .i64 w a ((atP us i).map (fun k : Nat => (k : Int))) ∧ (a = none → c = 0) := by
  have hr := h.rows i hi
  have e : (atP us i).map natV = ((atP us i).map (fun k : Nat => (k : Int))).map (Value.int .i64) := by rw [List.map_map]; rfl
  rw [e] at hr
  obtain ⟨a, c, e1, h1, h2, -⟩ := row_of_own hr
  exact ⟨a, c, e1, h1, h2⟩
theorem QM.ucell (h : QM B0 B q pq gw gu n rv xs wts vs us w) (i : Nat) (hi : i < n) : w.cell? ⟨gu, i, none⟩ = some (atP vs i) := by
  rw [h.ou.cellAt i (by omega), atP_some vs i (by rw [h.vlen]; exact hi)]
theorem QM.wcell (h : QM B0 B q pq gw gu n rv xs wts vs us w) (i : Nat) (hi : i < n) : w.cell? ⟨gw, i, none⟩ = some (.int .i64 (atP wts i)) := row_at h.ow i hi

/-- WHAT take TELLS. -/
def TakePost (B0 B q pq gw gu n f : Nat) (rv : Value) (xs wts : List Int) (vs : List Value) (us : List (List Nat)) (w : World) (e : Ending) (w' : World) : Prop :=
  e = .returned (.int .i64 (f : Int)) ∧ ∃ rv1 ys zs, QM B0 B q pq gw gu n rv1 zs (decL (atP us f) wts).1 vs us w' ∧ ((f : Int) :: ys).Perm xs ∧ zs.Perm (ys ++ (decL (atP us f) wts).2.map (fun k : Nat => (k : Int))) ∧
    Kept (fun b => b = pq ∨ b = gw ∨ rv.ownBlock = some b) w w' ∧ (rv1.ownBlock = rv.ownBlock ∨ ∃ b, rv1.ownBlock = some b ∧ w.heap.size ≤ b)

theorem perm_push {a b c : List Int} {x : Int} (h1 : c.Perm (b ++ [x])) (h2 : b.Perm a) : c.Perm (a ++ [x]) := h1.trans (List.Perm.append_right _ h2)

set_option maxRecDepth 100000 in
set_option maxHeartbeats 2000000 in
theorem take_any (h : QM B0 B q pq gw gu n rv xs wts vs us w) (m f : Nat) (hm : xs.length = m + 1) (hm2 : m ≤ 5000) (hf : atP xs 0 = (f : Int)) (hfn : f < n) (_hn : n ≤ 2000) (hlen : (atP us f).length ≤ 4000) (hu : ∀ u ∈ atP us f, u < n) (hw : ∀ i, i < n → 0 ≤ atP wts i ∧ atP wts i ≤ 2) :
    Calls Tryz.prog 146 #[.pointer (some ⟨q, 0, none⟩)] w (TakePost B0 B q pq gw gu n f rv xs wts vs us w) := by
  have hpop := heapPop h.pile h.heap m hm
  have hc0 := h.c0
  rw [hf] at hpop
  have HQ := hide h
  have HU := hide hu
  have HW := hide hw
  have HM := hide hm
  have hty := fun W => isI W (f : Int)
  generalize hP : TakePost B0 B q pq gw gu n f rv xs wts vs us w = Post
  have HP := hide hP
  clear h hu hw hP hm hf
  go_enter Tryz.func146, Tryz.ntmps146
  go_wp2_with fail
  refine hpop.mono ?_
  rintro e w1 ⟨rfl, rv1, ys, hmv, hperm, -⟩
  have HQ1 := hide (HQ.out.moved hmv)
  have HK1 := hide hmv.kept
  have HA1 := hide hmv.at_
  have HPm := hide hperm
  have hyl : ys.length = m := by have := hperm.length_eq; rw [HM.out] at this; simpa using this
  have hcu := HQ1.out.ucell f hfn
  obtain ⟨ra, rc, hre, hrow, -⟩ := HQ1.out.row f hfn
  obtain ⟨r, HRr⟩ : ∃ r, Hid (r = atP us f) := ⟨_, rfl⟩
  rw [← HRr.out] at hre hrow hlen HU
  rw [hre] at hcu
  have hc2 := HQ1.out.c2
  clear hc0
  have HRow := hide hrow
  obtain ⟨L, HL⟩ : ∃ L, Hid (L = r.length) := ⟨_, rfl⟩
  rw [← HL.out] at hcu hlen
  have HRe : Hid (atP vs f = .slice ra L rc) := by rw [HL.out]; exact hre
  have HYL := hide hyl
  clear hpop hmv hperm hre hrow hyl
  go_wp2
  go_loopw [5, 21] (fun _ i wr => ∃ (k : Nat) (rvk : Value) (zs : List Int), i = .int .i64 k ∧ k ≤ L ∧ zs.length ≤ m + k ∧ Hid (QM B0 B q pq gw gu n rvk zs (decL (r.take k) wts).1 vs us wr ∧ zs.Perm (ys ++ (decL (r.take k) wts).2.map (fun k : Nat => (k : Int))) ∧ Kept (fun b => b = pq ∨ b = gw ∨ rv.ownBlock = some b) w wr ∧ (rvk.ownBlock = rv.ownBlock ∨ ∃ b, rvk.ownBlock = some b ∧ w.heap.size ≤ b))) (fun _ i _ => L - (intOf i).toNat)
  case atStart => exact ⟨0, rv1, ys, rfl, Nat.zero_le _, by rw [HYL.out]; exact Nat.le_refl _, HQ1.out, by simp [decL], HK1.out.mono (fun i hi => by rcases hi with h | h; exact .inl h; exact .inr (.inr h)), HA1.out⟩
  case round =>
    clear HQ1 HK1 HA1 hcu hc2
    obtain ⟨k, rvk, zs, rfl, hk, hzl, HF⟩ := hrel
    by_cases hlt : k < L
    · have hrow : RowK .i64 wr ra (r.map (fun k : Nat => (k : Int))) := by
        obtain ⟨a', c', e, h1, -⟩ := HF.out.1.row f hfn
        rw [HRe.out] at e
        cases e
        rw [HRr.out]; exact h1
      obtain ⟨b, off, rfl, -, hcell⟩ := hrow.addr (by rw [List.length_map, ← HL.out]; omega)
      have hc := hcell k (by rw [List.length_map, ← HL.out]; omega)
      have eu : (r.map (fun k : Nat => (k : Int))).getD k 0 = ((atP r k : Nat) : Int) := by
        rw [List.getD_eq_getElem?_getD, List.getElem?_map, atP_some r k (by rw [← HL.out]; exact hlt)]; rfl
      rw [eu] at hc
      have hst : r.take (k + 1) = r.take k ++ [atP r k] := by rw [List.take_succ_eq_append_getElem (by rw [← HL.out]; exact hlt), ← atP_eq r k (by rw [← HL.out]; exact hlt)]
      have hun := HU.out _ (atP_mem r k (by rw [← HL.out]; exact hlt))
      obtain ⟨u, HUU⟩ : ∃ u, Hid (u = atP r k) := ⟨_, rfl⟩
      rw [← HUU.out] at hc hst hun
      have hwl : wts.length = n := HQ.out.wlen
      have hds := (decL_spec wts (r.take k) (fun v hv => by rw [hwl]; exact HU.out v (List.mem_of_mem_take hv))).2.1 u (by rw [hwl]; exact hun)
      have hwb := HW.out u hun
      have hcl : ((r.take k).count u : Int) ≤ 4000 := by
        have h1 := List.count_le_length (a := u) (l := r.take k)
        rw [List.length_take] at h1
        omega
      have hc0 : (0 : Int) ≤ ((r.take k).count u : Int) := by omega
      have hcw := HF.out.1.wcell u hun
      have hfw := HF.out.1.ow.frozenAt u
      have hcq := HF.out.1.c0
      have hc1 := HF.out.1.c1
      have hsnoc := decL_snoc (r.take k) u wts
      rw [← hst] at hsnoc
      unfold dec1 at hsnoc
      obtain ⟨x, HX⟩ : ∃ x, Hid (x = atP (decL (r.take k) wts).1 u) := ⟨_, rfl⟩
      rw [← HX.out] at hds hcw hsnoc
      have hx1 : -5000 ≤ x := by omega
      have hx2 : x ≤ 2 := by omega
      have hset := HF.out.1.setW u (x - 1)
      have HSet := hide hset
      have HSn := hide hsnoc
      have hgq : gw ≠ q := fun e => HF.out.1.lt.2.2.2.1 e.symm
      clear hcell hst hds hwb hcl hc0 hsnoc hset eu hrow hwl
      have hk2 : Hid (Kept (fun b => b = pq ∨ b = gw ∨ rv.ownBlock = some b) w (wr.setCell ⟨gw, u, none⟩ (.int .i64 (x - 1)))) := HF.out.2.2.1.trans HSet.out.2 (fun i _ hi => .inr (.inl hi))
      by_cases hz : x = 1
      · subst hz
        have hpush := heapPush (u : Int) HSet.out.1.pile HSet.out.1.heap (by omega)
        have HPush := hide hpush
        clear hpush
        go_wp2_with (first | (go_at_call 162; refine HPush.out.mono ?_; rintro e w5 ⟨rfl, rv5, zs5, hmv, hpm⟩))
        go_roundw
        case rel =>
          have e1 := HSn.out
          rw [if_pos (by omega)] at e1
          refine ⟨k + 1, rv5, zs5, by go_num, by omega, by have := hpm.length_eq; simp at this; omega, ?_, ?_, ?_, ?_⟩
          · rw [e1]; exact HSet.out.1.moved hmv
          · rw [e1]
            dsimp only
            rw [List.map_append, ← List.append_assoc]
            exact perm_push hpm HF.out.2.1
          · refine hk2.out.trans hmv.kept (fun i hi ht => ?_)
            rcases ht with ht | ht
            · exact .inl ht
            · rcases HF.out.2.2.2 with e | ⟨b', e, hb'⟩
              · rw [e] at ht; exact .inr (.inr ht)
              · rw [e] at ht; have := Option.some.inj ht; omega
          · have hs := hk2.out.size
            rcases hmv.at_ with e | ⟨b', e, hb'⟩
            · rw [e]; exact HF.out.2.2.2
            · exact .inr ⟨b', e, by omega⟩
        case measure => simp [intOf]; omega
      · have hzb : (x - 1 == 0) = false := by rw [beq_eq_false_iff_ne]; omega
        have hz2 : ¬ x - 1 = 0 := by omega
        go_wp2
        go_roundw
        case rel =>
          have e1 := HSn.out
          rw [if_neg (by omega)] at e1
          refine ⟨k + 1, rvk, zs, by go_num, by omega, by omega, ?_, ?_, hk2.out, HF.out.2.2.2⟩
          · rw [e1]; exact HSet.out.1
          · rw [e1]; exact HF.out.2.1
        case measure => simp [intOf]; omega
    · obtain rfl : k = L := by omega
      have hfin : Hid (Post (.returned (.int .i64 (f : Int))) wr) := by
        show Post _ wr
        rw [← HP.out]
        have hq := HF.out
        rw [List.take_of_length_le (by rw [HL.out]; exact Nat.le_refl _), HRr.out] at hq
        exact ⟨rfl, rvk, ys, zs, hq.1, HPm.out, hq.2.1, hq.2.2.1, hq.2.2.2⟩
      go_wp2
      exact hfin.out
end
end Go.Proofs.YtikjbbebfjleaaaGreatDoor
