/-
  THE WALKS of layer 4's variables, allKnown, andPlaces.
-/
import Derived.Test.YtikjbbebfjleaaaGreatDoorJ18
namespace Go.Proofs.YtikjbbebfjleaaaGreatDoor
open Go.RowKit

theorem tdiv_two {y : Int} (h : 0 ≤ y) : y.tdiv 2 = (varN y : Nat) := by
  unfold varN
  rw [Int.tdiv_eq_ediv_of_nonneg h]
  omega

theorem atP_set_same {α : Type} [Inhabited α] (xs : List α) (i : Nat) (x : α) (h : i < xs.length) : atP (xs.set i x) i = x := by simp [atP, List.getD_eq_getElem?_getD, h]
theorem atP_set_other {α : Type} [Inhabited α] (xs : List α) (i j : Nat) (x : α) (h : i ≠ j) : atP (xs.set i x) j = atP xs j := by simp [atP, List.getD_eq_getElem?_getD, List.getElem?_set_ne h]
theorem atP_replicate {α : Type} [Inhabited α] (n i : Nat) (x : α) (h : i < n) : atP (List.replicate n x) i = x := by simp [atP, List.getD_eq_getElem?_getD, h]

theorem row_at {α : Type} [Inhabited α] {w : World} {B g n c : Nat} {e : TypeId} {f : α → Value} {xs : List α} (h : w.ownsRow B e 1 (.slice (some ⟨g, 0, none⟩) n c) n (xs.map f)) (i : Nat) (hi : i < n) : w.cell? ⟨g, i, none⟩ = some (f (atP xs i)) := by
  have hl : xs.length = n := by have := h.1; simpa using this
  rw [h.cellAt i (by omega), List.getElem?_map, atP_some xs i (by omega)]; rfl

theorem madeB (n : Nat) : (madeCells (Value.bool false).cells (n * 1)).toList = (List.replicate n false).map Value.bool := by
  rw [Nat.mul_one, List.map_replicate]; exact toList_madeCells_one _ n
theorem madeI (n : Nat) : (madeCells (Value.int .i64 0).cells (n * 1)).toList = (List.replicate n (0 : Int)).map (Value.int .i64) := by
  rw [Nat.mul_one, List.map_replicate]; exact toList_madeCells_one _ n

theorem row_kept {k : IntKind} {w w' : World} {a : Option Addr} {xs : List Int} (h : RowK k w a xs) (hb : ∀ x, a = some x → w'.heap[x.block]? = w.heap[x.block]?) : RowK k w' a xs := by
  rcases h with h | ⟨x, rfl, hx⟩
  · exact .inl h
  · refine .inr ⟨x, rfl, fun i hi => ?_⟩
    have hbk : (x.add i).block = x.block := by unfold Addr.add; split <;> rfl
    rw [World.cell?_of_block (w := w) (a := x.add i) (by rw [hbk]; exact hb x rfl)]
    exact hx i hi

/-- Which variables are known. -/
def Kn (n : Nat) (vs : List Nat) (bs : List Bool) : Prop := bs.length = n ∧ ∀ v, v < n → atP bs v = decide (v = 0 ∨ v ∈ vs)

/-- WHAT variables TELLS. -/
def VarsPost (w : World) (C : Circ) (n : Nat) (e : Ending) (w' : World) : Prop :=
  Below w.heap.size w w' ∧ ((C.onceB = false ∧ e = .returned (.tuple #[.slice none 0 0, .bool false])) ∨
    (C.onceB = true ∧ ∃ g bs, e = .returned (.tuple #[.slice (some ⟨g, 0, none⟩) n n, .bool true]) ∧ Kn n C.vars bs ∧ w'.ownsRow w.heap.size 4 1 (.slice (some ⟨g, 0, none⟩) n n) n (bs.map Value.bool)))

theorem take_vars {xs : List Int} {k : Nat} (h : k < xs.length) : (xs.take (k + 1)).map varN = (xs.take k).map varN ++ [varN (atP xs k)] := map_take varN xs k h

theorem kn_step {n v : Nat} {vs : List Nat} {bs : List Bool} (h : Kn n vs bs) (hv : v < n) : Kn n (vs ++ [v]) (bs.set v true) := by
  obtain ⟨h1, h2⟩ := h
  refine ⟨by simpa using h1, fun u hu => ?_⟩
  by_cases e : u = v
  · subst e; rw [atP_set_same _ _ _ (by omega)]; simp
  · rw [atP_set_other _ _ _ _ (fun h => e h.symm), h2 u hu]; simp [e]

structure VMid (w0 : World) (c : CV) (g n : Nat) (vs : List Nat) (bs : List Bool) (wr : World) : Prop where
  own : wr.ownsRow (w0.heap.size + 1) 4 1 (.slice (some ⟨g, 0, none⟩) n n) n (bs.map Value.bool)
  below : Below w0.heap.size w0 wr
  kn : Kn n vs bs
  nd : vs.Nodup
  pos : ∀ v ∈ vs, v ≠ 0

set_option maxRecDepth 100000 in
set_option maxHeartbeats 1000000 in
theorem variables_any (c : CV) (C : Circ) (w : World) (h : Holds w c C) (hS : Small C) (hL : Lits C) :
    Calls Tryz.prog 124 #[c.v] w (VarsPost w C (C.max.toNat + 1)) := by
  obtain ⟨i0, hi, hz0, hz1, hz2⟩ := info_parts infoBool
  have hm0 : 0 ≤ c.m := by rw [h.m]; exact hL.max
  have hm5 : c.m ≤ 5000 := by rw [h.m]; exact hS.max
  obtain ⟨n, hn⟩ : ∃ n, n = C.max.toNat + 1 := ⟨_, rfl⟩
  have hnm : c.m + 1 = (n : Int) := by rw [hn, ← h.m]; omega
  have hM := fun W (hb : Below w.heap.size w W) => made_any c C W (h.below hb) hS
  have hml : C.made.length ≤ 5000 := by rw [made_len]; have := hS.ins; have := hS.lats; have := hS.ands; omega
  obtain ⟨xs, HXS⟩ : ∃ xs, Hid (xs = C.made) := ⟨_, rfl⟩
  have HOwn : Hid (∀ y ∈ xs, 0 < y ∧ y ≤ 2 * c.m + 1 ∧ y % 2 = 0) := by rw [HXS.out, h.m]; exact hL.own
  rw [← HXS.out] at hM hml
  rw [← hn]
  have HM := hide hM
  have HB := hide (box_new w c)
  generalize hP : VarsPost w C n = Post
  have HP := hide hP
  have HVX : Hid (C.vars = xs.map varN) := by show C.vars = _; unfold Circ.vars; rw [HXS.out]
  clear h hS hL hM hP hn
  have ez : ∀ o, (w.alloc o).heap.size = w.heap.size + 1 := fun o => by simp
  unfold CV.v at HM ⊢
  go_enter Tryz.func124, Tryz.ntmps124
  go_wp2_with (first | (at_make; refine wpList_make_full _ rfl _ _ 130 rfl (w.heap.size + 1) 4 i0 (.bool false) 1 Tryz.underlying130 hi hz0 hz1 .i64 .i64 _ _ n rfl rfl (by first | rfl | omega) (by first | rfl | omega) (by rw [hz2]; omega) (by unfold maxLen; omega) (by simp) ?_; intro w2 hown hg2; rw [madeB, ez] at hown; have hbx := hide (HB.out.grown hg2 (by simp)); obtain ⟨q0, q1, q2, q3, q4, q5, q6, q7⟩ := hbx.out.cells; have hc0 := row_at hown 0 (by omega); have hf0 := hown.frozenAt 0; rw [atP_replicate _ _ _ (by omega)] at hc0) | fail)
  have hbw2 : Below w.heap.size w w2 := (below_alloc w _).grown hg2 (by simp) (fun k hk => by cases hk)
  obtain ⟨hown2, hg3⟩ := hown.stored 0 (.bool true)
  have hb3 : Below w.heap.size w (w2.setCell ⟨w.heap.size + 1, 0, none⟩ (.bool true)) := hbw2.grown hg3 hbw2.size (fun k hk => by cases hk; omega)
  have HV0 : Hid (VMid w c (w.heap.size + 1) n [] ((List.replicate n false).set 0 true) (w2.setCell ⟨w.heap.size + 1, 0, none⟩ (.bool true))) := by
    refine ⟨by rw [List.map_set]; exact hown2, hb3, ⟨by simp, fun v hv => ?_⟩, List.nodup_nil, fun v hv => by cases hv⟩
    by_cases e : v = 0
    · subst e; rw [atP_set_same _ _ _ (by simpa using hv)]; simp
    · rw [atP_set_other _ _ _ _ (fun h => e h.symm), atP_replicate _ _ _ hv]; simp [e]
  clear hown hown2 hg2 hg3 hbw2 hc0 hf0 q0 q1 q2 q3 q4 q5 q6 q7 hbx
  obtain ⟨w4, hw4⟩ : ∃ w4, w4 = w2.setCell ⟨w.heap.size + 1, 0, none⟩ (.bool true) := ⟨_, rfl⟩
  rw [← hw4] at hb3 HV0 ⊢
  refine (HM.out _ hb3).mono ?_
  rintro e w1 ⟨v1, rfl, hown1, hb1⟩
  obtain ⟨b1, cp1, rfl, hrow1, -, hl1, -, -⟩ := row_of_own hown1
  have HV1 : Hid (VMid w c (w.heap.size + 1) n [] ((List.replicate n false).set 0 true) w1) := ⟨own_below HV0.out.own hb1, belowThen HV0.out.below hb1, HV0.out.kn, HV0.out.nd, HV0.out.pos⟩
  have HR1 := hide hrow1
  have HS1 := hide hb1.size
  have HB41 := hide (belowThen hb3 hb1)
  have HNW : Hid (∀ y, b1 = some y → w4.heap.size ≤ y.block) := fun y hy => by subst hy; exact (hown1.lt _ rfl).1
  have H4S : Hid (w.heap.size + 1 < w4.heap.size) := (HV0.out.own.lt _ rfl).2
  obtain ⟨m, hm⟩ : ∃ m, m = xs.length := ⟨_, rfl⟩
  rw [← hm] at hml ⊢
  have HN := hide hm
  clear hown1 hb1 hrow1 hl1 HM hm HB HV0 hb3 hw4
  go_wp2
  go_loopw [6, 16] (fun _ i wr => ∃ (k : Nat) (bs : List Bool), i = .int .i64 k ∧ k ≤ m ∧ Hid (VMid w c (w.heap.size + 1) n ((xs.take k).map varN) bs wr ∧ RowK .i64 wr b1 xs)) (fun _ i _ => m - (intOf i).toNat)
  case atStart => exact ⟨0, _, rfl, Nat.zero_le _, HV1.out, HR1.out⟩
  case round =>
    clear HV1
    obtain ⟨k, bs, rfl, hk, HF⟩ := hrel
    by_cases hlt : k < m
    · obtain ⟨b, off, rfl, -, hcell⟩ := HF.out.2.addr (by rw [← HN.out]; omega)
      have hc := hcell k (by rw [← HN.out]; omega)
      rw [atP_getD] at hc
      have hy := HOwn.out _ (atP_mem xs k (by rw [← HN.out]; exact hlt))
      have hst := take_vars (xs := xs) (k := k) (by rw [← HN.out]; exact hlt)
      have HMem := hide (atP_mem xs k (by rw [← HN.out]; exact hlt))
      have hin : varN (atP xs k) ∈ (xs.drop k).map varN := by
        have hl := HN.out
        rw [List.drop_eq_getElem_cons (by omega), ← atP_eq xs k (by omega)]
        exact List.mem_map.2 ⟨_, List.mem_cons_self, rfl⟩
      have hnb := HNW.out _ rfl
      obtain ⟨y, HY⟩ : ∃ y, Hid (y = atP xs k) := ⟨_, rfl⟩
      rw [← HY.out] at hc hy hst hin
      have hq := tdiv_two (show 0 ≤ y by omega)
      have hv : varN y < n := by unfold varN; omega
      have hv0 : varN y ≠ 0 := by unfold varN; omega
      obtain ⟨v, HVV⟩ : ∃ v, Hid (v = varN y) := ⟨_, rfl⟩
      rw [← HVV.out] at hq hv hst hin hv0
      have hcv := row_at HF.out.1.own v hv
      have hfv := HF.out.1.own.frozenAt v
      have hkn := HF.out.1.kn.2 v hv
      have HST := hide hst
      have HIN := hide hin
      clear hcell hst hin
      cases hb : atP bs v with
      | true =>
        rw [hb] at hcv hkn
        have hfin : Hid (Post (.returned (.tuple #[.slice none 0 0, .bool false])) wr) := by
          show Post _ wr
          rw [← HP.out]
          refine ⟨HF.out.1.below, .inl ⟨?_, rfl⟩⟩
          unfold Circ.onceB
          refine decide_eq_false (fun hnd => ?_)
          rw [HVX.out, ← List.take_append_drop k xs, List.map_append] at hnd
          have hm : v ∈ (xs.take k).map varN := by simpa [hv0] using hkn.symm
          exact (List.nodup_append.1 hnd).2.2 v hm v HIN.out rfl
        clear hkn hb
        go_wp2
        exact hfin.out
      | false =>
        rw [hb] at hcv hkn
        obtain ⟨hown2, hg3⟩ := HF.out.1.own.stored v (.bool true)
        have H3 := hide (And.intro hown2 hg3)
        have HKN := hide hkn
        clear hkn hown2 hg3 hb
        go_wp2
        go_roundw
        case rel =>
          refine ⟨k + 1, bs.set v true, by go_num, by omega, ⟨?_, ?_, ?_, ?_, ?_⟩, ?_⟩
          · rw [List.map_set]; exact H3.out.1
          · exact HF.out.1.below.grown H3.out.2 (HF.out.1.below.size) (fun j hj => by cases hj; omega)
          · rw [HST.out]; exact kn_step HF.out.1.kn hv
          · rw [HST.out]
            have hm : v ∉ (xs.take k).map varN := by simpa [hv0] using HKN.out.symm
            exact List.nodup_append.2 ⟨HF.out.1.nd, List.nodup_cons.2 ⟨List.not_mem_nil, List.nodup_nil⟩, fun a ha b hb e => by rw [List.mem_singleton] at hb; subst hb; subst e; exact hm ha⟩
          · rw [HST.out]
            intro u hu
            rcases List.mem_append.1 hu with h | h
            · exact HF.out.1.pos u h
            · rw [List.mem_singleton] at h; subst h; exact hv0
          · refine row_kept HF.out.2 (fun x hx => ?_)
            cases hx
            have := H4S.out
            exact heap_setCell_other wr ⟨w.heap.size + 1, v, none⟩ b _ (by show b ≠ w.heap.size + 1; have : w4.heap.size ≤ b := hnb; omega)
        case measure => simp [intOf]; omega
    · obtain rfl : k = m := by omega
      have hfin : Hid (Post (.returned (.tuple #[.slice (some ⟨w.heap.size + 1, 0, none⟩) n n, .bool true])) wr) := by
        show Post _ wr
        rw [← HP.out]
        have hm := HF.out.1
        rw [List.take_of_length_le (by rw [HN.out]; exact Nat.le_refl _), ← HVX.out] at hm
        exact ⟨hm.below, .inr ⟨by unfold Circ.onceB; exact decide_eq_true hm.nd, _, bs, rfl, hm.kn, own_le hm.own (Nat.le_succ _)⟩⟩
      go_wp2
      exact hfin.out

set_option maxRecDepth 100000 in
set_option maxHeartbeats 1000000 in
theorem allKnown_any (c : CV) (C : Circ) (g n : Nat) (bs : List Bool) (w : World) (h : Holds w c C) (hS : Small C) (hL : Lits C) (hn : n = C.max.toNat + 1) (hk : Kn n C.vars bs) {B : Nat} {e : TypeId} (hown : w.ownsRow B e 1 (.slice (some ⟨g, 0, none⟩) n n) n (bs.map Value.bool)) :
    Calls Tryz.prog 126 #[c.v, .slice (some ⟨g, 0, none⟩) n n] w fun e w' => e = .returned (.bool C.knownB) ∧ Below w.heap.size w w' := by
  have hm0 : 0 ≤ c.m := by rw [h.m]; exact hL.max
  have hm5 : c.m ≤ 5000 := by rw [h.m]; exact hS.max
  have hnm : (n : Int) = c.m + 1 := by rw [hn, h.m]; have := hL.max; omega
  have hU := fun W (hb : Below w.heap.size w W) => used_any c C W (h.below hb) hS
  have hul : C.used.length ≤ 5000 := by rw [used_len]; have := hS.lats; have := hS.outs; have := hS.bads; have := hS.cons; have := hS.ands; omega
  have hkb : C.knownB = C.used.all (fun l => atP bs (varN l)) := by
    unfold Circ.knownB
    rw [Bool.eq_iff_iff, List.all_eq_true, List.all_eq_true]
    have hlt : ∀ l ∈ C.used, varN l < n := fun l hl => by have := hL.lit l hl; unfold varN; rw [← h.m] at this; omega
    constructor
    · intro H l hl; have := H l hl; rw [hk.2 _ (hlt l hl)]; simpa using this
    · intro H l hl; have := H l hl; rw [hk.2 _ (hlt l hl)] at this; simpa using this
  rw [hkb]
  obtain ⟨xs, HXS⟩ : ∃ xs, Hid (xs = C.used) := ⟨_, rfl⟩
  have HLit : Hid (∀ y ∈ xs, 0 ≤ y ∧ y ≤ 2 * c.m + 1) := by rw [HXS.out, h.m]; exact hL.lit
  rw [← HXS.out] at hU hul ⊢
  have HU := hide hU
  have HO := hide hown
  have hgl := (hown.lt g rfl).2
  generalize hP : (fun (e : Ending) (w' : World) => e = .returned (.bool (xs.all (fun l => atP bs (varN l)))) ∧ Below w.heap.size w w') = Post
  have HP := hide hP
  clear h hS hL hU hP hn hk hkb hown
  unfold CV.v at HU ⊢
  go_enter Tryz.func126, Tryz.ntmps126
  go_wp2_with fail
  refine (HU.out _ (below_alloc _ _)).mono ?_
  rintro e w1 ⟨v1, rfl, hown1, hb1⟩
  obtain ⟨b1, cp1, rfl, hrow1, -, hl1, -, -⟩ := row_of_own hown1
  have HW1 := hide (belowThen (below_alloc w _) hb1)
  have HR1 := hide hrow1
  have HO1 := hide (own_below HO.out HW1.out)
  obtain ⟨m, hm⟩ : ∃ m, m = xs.length := ⟨_, rfl⟩
  rw [← hm] at hul ⊢
  have HN := hide hm
  clear hown1 hb1 hrow1 hl1 HU hm HO
  go_wp2
  go_loop [6, 10] (fun _ i => ∃ k : Nat, i = .int .i64 k ∧ k ≤ m ∧ Hid (∀ j, j < k → atP bs (varN (atP xs j)) = true)) (fun _ i => m - (intOf i).toNat)
  case atStart => exact ⟨0, rfl, Nat.zero_le _, fun j hj => absurd hj (Nat.not_lt_zero _)⟩
  case round =>
    obtain ⟨k, rfl, hk, HF⟩ := hrel
    by_cases hlt : k < m
    · obtain ⟨b, off, rfl, -, hcell⟩ := HR1.out.addr (by rw [← HN.out]; omega)
      have hc := hcell k (by rw [← HN.out]; omega)
      rw [atP_getD] at hc
      have hy := HLit.out _ (atP_mem xs k (by rw [← HN.out]; exact hlt))
      have HMem := hide (atP_mem xs k (by rw [← HN.out]; exact hlt))
      obtain ⟨y, HY⟩ : ∃ y, Hid (y = atP xs k) := ⟨_, rfl⟩
      rw [← HY.out] at hc hy HMem
      have hq := tdiv_two (show 0 ≤ y by omega)
      have hv : varN y < n := by unfold varN; omega
      obtain ⟨v, HVV⟩ : ∃ v, Hid (v = varN y) := ⟨_, rfl⟩
      rw [← HVV.out] at hq hv
      have hcv := row_at HO1.out v hv
      clear hcell
      cases hb : atP bs v with
      | true =>
        rw [hb] at hcv
        have HBT := hide hb
        clear hb
        go_wp2
        go_round
        case rel =>
          refine ⟨k + 1, by go_num, by omega, fun j hj => ?_⟩
          by_cases hjk : j < k
          · exact HF.out j hjk
          · obtain rfl : j = k := by omega
            rw [← HY.out, ← HVV.out]; exact HBT.out
        case measure => simp [intOf]; omega
      | false =>
        rw [hb] at hcv
        have hfin : Hid (Post (.returned (.bool false)) w1) := by
          show Post _ w1
          rw [← HP.out]
          exact ⟨ret_bool (List.all_eq_false.2 ⟨y, HMem.out, by rw [← HVV.out, hb]; decide⟩).symm, HW1.out⟩
        clear hb
        go_wp2
        exact hfin.out
    · obtain rfl : k = m := by omega
      have hfin : Hid (Post (.returned (.bool true)) w1) := by
        show Post _ w1
        rw [← HP.out]
        exact ⟨ret_bool (List.all_eq_true.2 (all_of (p := fun y => atP bs (varN y) = true) (fun j hj => HF.out j (by rw [HN.out]; exact hj)))).symm, HW1.out⟩
      go_wp2
      exact hfin.out
end Go.Proofs.YtikjbbebfjleaaaGreatDoor
