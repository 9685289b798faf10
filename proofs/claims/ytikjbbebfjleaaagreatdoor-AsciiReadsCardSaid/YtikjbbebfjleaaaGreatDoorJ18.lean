/-
  THE WALKS of layer 4's Vars, howMany, made, used.
  THE WALK of layer 4's used.
-/
import Derived.Test.YtikjbbebfjleaaaGreatDoorJ10
namespace Go.Proofs.YtikjbbebfjleaaaGreatDoor
open Go.RowKit

set_option maxHeartbeats 400000 in
theorem vars_any (c : CV) (w : World) (h1 : c.n1 ≤ 1000000) (h2 : c.n2 ≤ 1000000) (h6 : c.n6 ≤ 1000000) :
    Calls Tryz.prog 99 #[c.v] w fun e w' => e = .returned (.int .i64 ((c.n1 + c.n2 + c.n6 : Nat) : Int)) ∧ Below w.heap.size w w' := by
  unfold CV.v
  go_enter Tryz.func99, Tryz.ntmps99
  go_wp2
  go_ret
  exact ⟨by simp, below_alloc w _⟩

theorem cell_one_at {w : World} {b : Nat} (hb : b = w.heap.size) (x : Value) (t : TypeId) : ∀ j u, [x][j]? = some u → (w.alloc (.cells #[x] t)).cell? ((⟨b, 0, none⟩ : Addr).add j) = some u := by
  subst hb; exact cell_one_new w x t

/-- A slice of ints that is being made behind a circuit's box. -/
structure Mk (w0 : World) (c : CV) (v : Value) (k : Nat) (xs : List Int) (wr : World) : Prop where
  own : wr.ownsRow (w0.heap.size + 1) 3 1 v k (xs.map (Value.int .i64))
  below : Below w0.heap.size w0 wr
  box : Box wr w0.heap.size c

theorem Mk.big {w0 wr : World} {c : CV} {v : Value} {k : Nat} {xs : List Int} (h : Mk w0 c v k xs wr) : w0.heap.size + 1 ≤ wr.heap.size := h.box.lt
theorem Mk.step {w0 wr w2 w3 : World} {c : CV} {v v3 : Value} {k k3 : Nat} {xs ys : List Int} (h : Mk w0 c v k xs wr) (hb : Below wr.heap.size wr w2) (hg : w2.grownBy w3 v.ownBlock) (hown : w3.ownsRow (w0.heap.size + 1) 3 1 v3 k3 (ys.map (Value.int .i64))) : Mk w0 c v3 k3 ys w3 := by
  have hs := hb.size
  have hbig := h.big
  refine ⟨hown, (h.below.trans (hb.mono (by omega))).grown hg (by omega) (fun k hk => by have := (h.own.lt k hk).1; omega), (h.box.below hb).grown hg (fun e => by have := (h.own.lt _ e).1; omega)⟩

theorem Mk.alloc {w0 wr : World} {c : CV} {v : Value} {k : Nat} {xs : List Int} (h : Mk w0 c v k xs wr) (o : Obj) : Mk w0 c v k xs (wr.alloc o) :=
  ⟨h.own.alloc o, belowThen' h.below (below_alloc wr o) h.below.size, h.box.alloc o⟩

def mkA (C : Circ) (k : Nat) : List Int := C.ins ++ (C.lats.take k).map (·.1)
def mkB (C : Circ) (k : Nat) : List Int := C.ins ++ C.lats.map (·.1) ++ (C.ands.take k).map (·.1)
theorem mkA_step (C : Circ) (k : Nat) (h : k < C.lats.length) : mkA C (k + 1) = mkA C k ++ [(atP C.lats k).1] := by
  unfold mkA; rw [map_take _ _ _ h, List.append_assoc]
theorem mkB_step (C : Circ) (k : Nat) (h : k < C.ands.length) : mkB C (k + 1) = mkB C k ++ [(atP C.ands k).1] := by
  unfold mkB; rw [map_take _ _ _ h, List.append_assoc, List.append_assoc, List.append_assoc]
theorem mkA_zero (C : Circ) : mkA C 0 = C.ins := by simp [mkA]
theorem mkA_end (C : Circ) : mkB C 0 = mkA C C.lats.length := by simp [mkA, mkB]
theorem mkB_end (C : Circ) : mkB C C.ands.length = C.made := by simp [mkB, Circ.made]

theorem below_two (w : World) (o o' : Obj) : Below w.heap.size w ((w.alloc o).alloc o') := belowThen (below_alloc w o) (below_alloc _ o')

set_option maxRecDepth 100000 in
set_option maxHeartbeats 1000000 in
theorem made_any (c : CV) (C : Circ) (w : World) (h : Holds w c C) (hS : Small C) :
    Calls Tryz.prog 140 #[c.v] w fun e w' => ∃ v, e = .returned v ∧ NewInts w C.made v w' := by
  obtain ⟨i0, hi, hz0, hz1, hz2⟩ := info_parts infoInt
  have h1 : c.n1 ≤ 64 := by rw [← h.l1]; exact hS.ins
  have h2 : c.n2 ≤ 64 := by rw [← h.l2]; exact hS.lats
  have h6 : c.n6 ≤ 2000 := by rw [← h.l6]; exact hS.ands
  have HV := hide (fun W => vars_any c W (by omega) (by omega) (by omega))
  have HH := hide h
  have HB := hide (box_new w c)
  generalize hP : (fun (e : Ending) (w' : World) => ∃ v, e = .returned v ∧ NewInts w C.made v w') = Post
  have HP := hide hP
  clear h hS hP
  unfold CV.v at HV ⊢
  unfold Box at HB
  generalize hA2 : c.a2 = A2 at HV HB ⊢
  generalize hA6 : c.a6 = A6 at HV HB ⊢
  have HA2 := hide hA2
  have HA6 := hide hA6
  clear hA2 hA6
  go_enter Tryz.func140, Tryz.ntmps140
  go_wp2_with fail
  refine (HV.out _).mono ?_
  rintro e w1 ⟨rfl, hb1⟩
  have hB1 : Hid (Box w1 w.heap.size c) := by
    have := hb1.block w.heap.size (by simp)
    rw [HB.out] at this
    show w1.heap[w.heap.size]? = _
    rw [this, HA2.out, HA6.out]
  have hbw1 := hide (belowThen (below_alloc w _) hb1)
  have hbig1 : w.heap.size + 1 ≤ w1.heap.size := hB1.out.lt
  clear hb1
  go_wp2_with (first | (at_make; refine wpList_make_len _ rfl _ _ 24 rfl 3 i0 (.int .i64 0) Tryz.underlying24 hi hz0 hz1 .i64 .i64 _ _ 0 (c.n1 + c.n2 + c.n6) rfl rfl rfl (by omega) (by omega) (by rw [hz2]; omega) (by unfold maxLen; omega) ?_; intro w2 cur hgc hcs hgr; have HM0 : Hid (Mk w c (.slice (some ⟨w1.heap.size, 0, none⟩) 0 (c.n1 + c.n2 + c.n6)) 0 [] w2) := ⟨⟨rfl, .inr ⟨w1.heap.size, _, cur, rfl, hbig1, hgc, Nat.zero_le _, by unfold maxLen; omega, by simpa using hcs, rfl⟩⟩, hbw1.out.grown hgr (by have := hbw1.out.size; omega) (fun k hk => by cases hk), hB1.out.grown hgr (by simp)⟩; obtain ⟨-, q1, -, -, -, -, -, -⟩ := HM0.out.box.cells; have hr1 := hide (HH.out.r1.below (belowTo hbw1.out hgr)); clear hgc hcs hgr) | (at_builtin; refine wpList_append_row _ rfl (.tmp 11) (.tmp 13) 24 rfl .i64 (w.heap.size + 1) 3 i0 (.int .i64 0) 8 Tryz.underlying24 hi hz0 hz1 hz2 rfl _ 0 [] rfl HM0.out.own c.a1 c.n1 c.c1 C.ins rfl HH.out.l1 hr1.out HH.out.z1 (by unfold maxLen; omega) (by omega) HM0.out.big ?_; intro v3 w3 hown3 hg3; have HM : Hid (Mk w c v3 c.n1 C.ins w3) := HM0.out.step (Below.refl _ _) hg3 (by simpa using hown3); obtain ⟨-, -, q2, -, -, -, q6, -⟩ := HM.out.box.cells; rw [HA2.out] at q2; clear HM0 hown3 hg3 q1 hr1 q6))
  go_loopw [3, 5, 18] (fun v _ i wr => ∃ k : Nat, i = .int .i64 k ∧ k ≤ c.n2 ∧ Hid (Mk w c v (c.n1 + k) (mkA C k) wr)) (fun _ _ i _ => c.n2 - (intOf i).toNat)
  case atStart => exact ⟨0, rfl, Nat.zero_le _, by rw [mkA_zero, Nat.add_zero]; exact HM.out⟩
  case round =>
    clear HM
    obtain ⟨k, rfl, hk, HM⟩ := hrel
    by_cases hlt : k < c.n2
    · obtain ⟨b, off, ha, hbw, hcell⟩ := HH.out.r2.addr (by rw [cellsT_len, HH.out.l2]; omega)
      rw [HA2.out] at ha
      subst ha
      have hat := cellsT_at C.lats k (by rw [HH.out.l2]; exact hlt)
      have hc0 := (HM.out.below.cell (p := ⟨b, off + k * 3, none⟩) hbw).trans (hcell _ _ hat.1)
      have hc1 := (HM.out.below.cell (p := ⟨b, off + k * 3 + 1, none⟩) hbw).trans (hcell _ _ hat.2.1)
      have hc2 := (HM.out.below.cell (p := ⟨b, off + k * 3 + 2, none⟩) hbw).trans (hcell _ _ hat.2.2)
      have hst := mkA_step C k (by rw [HH.out.l2]; exact hlt)
      obtain ⟨x, HX⟩ : ∃ x, Hid (x = atP C.lats k) := ⟨_, rfl⟩
      rw [← HX.out] at hc0 hc1 hc2 hst
      obtain ⟨x0, x1, x2⟩ := x
      dsimp only at hc0 hc1 hc2 hst
      have HST := hide hst
      have hbig := HM.out.big
      clear hcell hat hst
      go_wp2_with (at_builtin; refine wpList_append_own _ rfl (.tmp 22) (.tmp 25) 24 rfl (w.heap.size + 1) 3 i0 (.int .i64 0) 1 8 Tryz.underlying24 hi hz0 hz1 hz2 rfl (by decide) _ _ _ rfl ((HM.out.own.alloc _).alloc _) ⟨wr.heap.size + 1, 0, none⟩ 1 1 [.int .i64 x0] rfl rfl (cell_one_at (by simp) _ _) (by intro u hu; simp at hu; subst hu; rfl) (by unfold maxLen; omega) (by omega) (by simp; omega) ?_; intro v6 w6 hown6 hg6 _)
      go_roundw
      case rel =>
        refine ⟨k + 1, by go_num, by omega, HM.out.step (below_two wr _ _) hg6 ?_⟩
        rw [HST.out, List.map_append]; exact hown6
      case measure => simp [intOf]; omega
    · obtain rfl : k = c.n2 := by omega
      have HM1 : Hid (Mk w c u3 (c.n1 + c.n2) (mkB C 0) wr) := by
        rw [mkA_end, HH.out.l2]; exact HM.out
      obtain ⟨-, -, -, -, -, -, q6, -⟩ := HM1.out.box.cells
      rw [HA6.out] at q6
      clear HM hlt hk
      go_wp2
      rename World => wo
      go_loopw [3, 7, 31] (fun v _ i wr => ∃ k : Nat, i = .int .i64 k ∧ k ≤ c.n6 ∧ Hid (Mk w c v (c.n1 + c.n2 + k) (mkB C k) wr)) (fun _ _ i _ => c.n6 - (intOf i).toNat)
      case atStart => exact ⟨0, rfl, Nat.zero_le _, by rw [Nat.add_zero]; exact HM1.out⟩
      case round =>
        clear HM1 q6
        obtain ⟨k, rfl, hk, HM⟩ := hrel
        by_cases hlt : k < c.n6
        · obtain ⟨b, off, ha, hbw, hcell⟩ := HH.out.r6.addr (by rw [cellsT_len, HH.out.l6]; omega)
          rw [HA6.out] at ha
          subst ha
          have hat := cellsT_at C.ands k (by rw [HH.out.l6]; exact hlt)
          have hc0 := (HM.out.below.cell (p := ⟨b, off + k * 3, none⟩) hbw).trans (hcell _ _ hat.1)
          have hc1 := (HM.out.below.cell (p := ⟨b, off + k * 3 + 1, none⟩) hbw).trans (hcell _ _ hat.2.1)
          have hc2 := (HM.out.below.cell (p := ⟨b, off + k * 3 + 2, none⟩) hbw).trans (hcell _ _ hat.2.2)
          have hst := mkB_step C k (by rw [HH.out.l6]; exact hlt)
          obtain ⟨x, HX⟩ : ∃ x, Hid (x = atP C.ands k) := ⟨_, rfl⟩
          rw [← HX.out] at hc0 hc1 hc2 hst
          obtain ⟨x0, x1, x2⟩ := x
          dsimp only at hc0 hc1 hc2 hst
          have HST := hide hst
          have hbig := HM.out.big
          clear hcell hat hst
          go_wp2_with (at_builtin; refine wpList_append_own _ rfl (.tmp 35) (.tmp 38) 24 rfl (w.heap.size + 1) 3 i0 (.int .i64 0) 1 8 Tryz.underlying24 hi hz0 hz1 hz2 rfl (by decide) _ _ _ rfl ((HM.out.own.alloc _).alloc _) ⟨wr.heap.size + 1, 0, none⟩ 1 1 [.int .i64 x0] rfl rfl (cell_one_at (by simp) _ _) (by intro u hu; simp at hu; subst hu; rfl) (by unfold maxLen; omega) (by omega) (by simp; omega) ?_; intro v6 w6 hown6 hg6 _)
          go_roundw
          case rel =>
            refine ⟨k + 1, by go_num, by omega, HM.out.step (below_two wr _ _) hg6 ?_⟩
            rw [HST.out, List.map_append]; exact hown6
          case measure => simp [intOf]; omega
        · obtain rfl : k = c.n6 := by omega
          have hfin : Hid (Post (.returned u3) wr) := by
            show Post (.returned u3) wr
            rw [← HP.out]
            have hm := HM.out
            rw [← HH.out.l6, mkB_end] at hm
            refine ⟨u3, rfl, ?_, hm.below⟩
            have e : C.made.length = c.n1 + c.n2 + c.n6 := by rw [made_len, HH.out.l1, HH.out.l2, HH.out.l6]
            rw [e, ← HH.out.l6]
            exact own_le hm.own (Nat.le_succ _)
          go_wp2
          exact hfin.out
end Go.Proofs.YtikjbbebfjleaaaGreatDoor

namespace Go.Proofs.YtikjbbebfjleaaaGreatDoor
open Go.RowKit

theorem cell_two_at {w : World} {b : Nat} (hb : b = w.heap.size) (x y : Value) (t : TypeId) : ∀ j u, [x, y][j]? = some u → (w.alloc (.cells #[x, y] t)).cell? ((⟨b, 0, none⟩ : Addr).add j) = some u := by
  subst hb
  intro j u hj
  rw [add_plain, Nat.zero_add, cell_of_row _ _ j #[x, y] t (0, 0) (heap_alloc_new w _)]
  simpa using hj

def usA (C : Circ) (k : Nat) : List Int := (C.lats.take k).map (·.2.1)
def usB (C : Circ) (k : Nat) : List Int := C.lats.map (·.2.1) ++ C.outs ++ C.bads ++ C.cons ++ (C.ands.take k).flatMap (fun a => [a.2.1, a.2.2])
theorem usA_step (C : Circ) (k : Nat) (h : k < C.lats.length) : usA C (k + 1) = usA C k ++ [(atP C.lats k).2.1] := by
  unfold usA; rw [map_take _ _ _ h]
theorem usB_step (C : Circ) (k : Nat) (h : k < C.ands.length) : usB C (k + 1) = usB C k ++ [(atP C.ands k).2.1, (atP C.ands k).2.2] := by
  unfold usB; rw [flat_take _ _ h, ← List.append_assoc]
theorem usA_zero (C : Circ) : usA C 0 = [] := by simp [usA]
theorem usA_end (C : Circ) : usB C 0 = usA C C.lats.length ++ C.outs ++ C.bads ++ C.cons := by simp [usA, usB]
theorem usB_end (C : Circ) : usB C C.ands.length = C.used := by simp [usB, Circ.used]

theorem Mk.below' {w0 wr : World} {c : CV} {v : Value} {k : Nat} {xs : List Int} (h : Mk w0 c v k xs wr) : w0.heap.size ≤ wr.heap.size := h.below.size

set_option maxRecDepth 100000 in
set_option maxHeartbeats 1000000 in
theorem used_any (c : CV) (C : Circ) (w : World) (h : Holds w c C) (hS : Small C) :
    Calls Tryz.prog 141 #[c.v] w fun e w' => ∃ v, e = .returned v ∧ NewInts w C.used v w' := by
  obtain ⟨i0, hi, hz0, hz1, hz2⟩ := info_parts infoInt
  have h2 : c.n2 ≤ 64 := by rw [← h.l2]; exact hS.lats
  have h3 : c.n3 ≤ 64 := by rw [← h.l3]; exact hS.outs
  have h4 : c.n4 ≤ 64 := by rw [← h.l4]; exact hS.bads
  have h5 : c.n5 ≤ 64 := by rw [← h.l5]; exact hS.cons
  have h6 : c.n6 ≤ 2000 := by rw [← h.l6]; exact hS.ands
  have HH := hide h
  have HM0 : Hid (Mk w c (.slice none 0 0) 0 [] (w.alloc (.cells #[.int .i64 c.m, .slice c.a1 c.n1 c.c1, .slice c.a2 c.n2 c.c2, .slice c.a3 c.n3 c.c3, .slice c.a4 c.n4 c.c4, .slice c.a5 c.n5 c.c5, .slice c.a6 c.n6 c.c6, .slice c.a7 c.n7 c.c7] 29))) := ⟨World.ownsRow_nil _ _ _ _, below_alloc w _, box_new w c⟩
  generalize hP : (fun (e : Ending) (w' : World) => ∃ v, e = .returned v ∧ NewInts w C.used v w') = Post
  have HP := hide hP
  clear h hS hP
  unfold CV.v
  generalize hA2 : c.a2 = A2 at HM0 ⊢
  generalize hA6 : c.a6 = A6 at HM0 ⊢
  have HA2 := hide hA2
  have HA6 := hide hA6
  clear hA2 hA6
  go_enter Tryz.func141, Tryz.ntmps141
  go_wp2
  go_loopw [3, 5, 11] (fun v _ i wr => ∃ k : Nat, i = .int .i64 k ∧ k ≤ c.n2 ∧ Hid (Mk w c v k (usA C k) wr)) (fun _ _ i _ => c.n2 - (intOf i).toNat)
  case atStart => exact ⟨0, rfl, Nat.zero_le _, by rw [usA_zero]; exact HM0.out⟩
  case round =>
    clear HM0
    obtain ⟨k, rfl, hk, HM⟩ := hrel
    by_cases hlt : k < c.n2
    · obtain ⟨b, off, ha, hbw, hcell⟩ := HH.out.r2.addr (by rw [cellsT_len, HH.out.l2]; omega)
      rw [HA2.out] at ha
      subst ha
      have hat := cellsT_at C.lats k (by rw [HH.out.l2]; exact hlt)
      have hc0 := (HM.out.below.cell (p := ⟨b, off + k * 3, none⟩) hbw).trans (hcell _ _ hat.1)
      have hc1 := (HM.out.below.cell (p := ⟨b, off + k * 3 + 1, none⟩) hbw).trans (hcell _ _ hat.2.1)
      have hc2 := (HM.out.below.cell (p := ⟨b, off + k * 3 + 2, none⟩) hbw).trans (hcell _ _ hat.2.2)
      have hst := usA_step C k (by rw [HH.out.l2]; exact hlt)
      obtain ⟨x, HX⟩ : ∃ x, Hid (x = atP C.lats k) := ⟨_, rfl⟩
      rw [← HX.out] at hc0 hc1 hc2 hst
      obtain ⟨x0, x1, x2⟩ := x
      dsimp only at hc0 hc1 hc2 hst
      have HST := hide hst
      have hbig := HM.out.big
      clear hcell hat hst
      go_wp2_with (at_builtin; refine wpList_append_own _ rfl (.tmp 15) (.tmp 18) 24 rfl (w.heap.size + 1) 3 i0 (.int .i64 0) 1 8 Tryz.underlying24 hi hz0 hz1 hz2 rfl (by decide) _ _ _ rfl ((HM.out.own.alloc _).alloc _) ⟨wr.heap.size + 1, 0, none⟩ 1 1 [.int .i64 x1] rfl rfl (cell_one_at (by simp) _ _) (by intro u hu; simp at hu; subst hu; rfl) (by unfold maxLen; omega) (by omega) (by simp; omega) ?_; intro v6 w6 hown6 hg6 _)
      go_roundw
      case rel =>
        refine ⟨k + 1, by go_num, by omega, HM.out.step (below_two wr _ _) hg6 ?_⟩
        rw [HST.out, List.map_append]; exact hown6
      case measure => simp [intOf]; omega
    · obtain rfl : k = c.n2 := by omega
      obtain ⟨L, HL⟩ : ∃ L, Hid (L = usA C c.n2) := ⟨_, rfl⟩
      rw [← HL.out] at HM
      obtain ⟨-, -, -, q3, -, -, -, -⟩ := HM.out.box.cells
      have hr3 := hide (HH.out.r3.below HM.out.below)
      clear hlt hk
      go_wp2_with (first | (at_builtin; refine wpList_append_row _ rfl (.tmp 21) (.tmp 23) 24 rfl .i64 (w.heap.size + 1) 3 i0 (.int .i64 0) 8 Tryz.underlying24 hi hz0 hz1 hz2 rfl _ c.n2 (L.map (Value.int .i64)) rfl HM.out.own c.a3 c.n3 c.c3 C.outs rfl HH.out.l3 hr3.out HH.out.z3 (by unfold maxLen; omega) (by omega) HM.out.big ?_; intro v3 w3 hown3 hg3; have HM3 : Hid (Mk w c v3 (c.n2 + c.n3) (L ++ C.outs) w3) := HM.out.step (Below.refl _ _) hg3 (by rw [List.map_append]; exact hown3); obtain ⟨-, -, -, -, q4, -, -, -⟩ := HM3.out.box.cells; have hr4 := hide (HH.out.r4.below HM3.out.below); clear HM hr3 q3 hown3 hg3) | (at_builtin; refine wpList_append_row _ rfl (.tmp 25) (.tmp 27) 24 rfl .i64 (w.heap.size + 1) 3 i0 (.int .i64 0) 8 Tryz.underlying24 hi hz0 hz1 hz2 rfl _ (c.n2 + c.n3) ((L ++ C.outs).map (Value.int .i64)) rfl HM3.out.own c.a4 c.n4 c.c4 C.bads rfl HH.out.l4 hr4.out HH.out.z4 (by unfold maxLen; omega) (by omega) HM3.out.big ?_; intro v4 w4 hown4 hg4; have HM4 : Hid (Mk w c v4 (c.n2 + c.n3 + c.n4) (L ++ C.outs ++ C.bads) w4) := HM3.out.step (Below.refl _ _) hg4 (by rw [List.map_append (l₂ := C.bads)]; exact hown4); obtain ⟨-, -, -, -, -, q5, -, -⟩ := HM4.out.box.cells; have hr5 := hide (HH.out.r5.below HM4.out.below); clear HM3 hr4 q4 hown4 hg4) | (at_builtin; refine wpList_append_row _ rfl (.tmp 29) (.tmp 31) 24 rfl .i64 (w.heap.size + 1) 3 i0 (.int .i64 0) 8 Tryz.underlying24 hi hz0 hz1 hz2 rfl _ (c.n2 + c.n3 + c.n4) ((L ++ C.outs ++ C.bads).map (Value.int .i64)) rfl HM4.out.own c.a5 c.n5 c.c5 C.cons rfl HH.out.l5 hr5.out HH.out.z5 (by unfold maxLen; omega) (by omega) HM4.out.big ?_; intro v5 w5 hown5 hg5; have HM5 : Hid (Mk w c v5 (c.n2 + c.n3 + c.n4 + c.n5) (L ++ C.outs ++ C.bads ++ C.cons) w5) := HM4.out.step (Below.refl _ _) hg5 (by rw [List.map_append (l₂ := C.cons)]; exact hown5); obtain ⟨-, -, -, -, -, -, q6, -⟩ := HM5.out.box.cells; rw [HA6.out] at q6; clear HM4 hr5 q5 hown5 hg5))
      rename World => wo
      go_loopw [3, 7, 36] (fun v _ i wr => ∃ k : Nat, i = .int .i64 k ∧ k ≤ c.n6 ∧ Hid (Mk w c v (c.n2 + c.n3 + c.n4 + c.n5 + k * 2) (usB C k) wr)) (fun _ _ i _ => c.n6 - (intOf i).toNat)
      case atStart => exact ⟨0, rfl, Nat.zero_le _, by rw [Nat.zero_mul, Nat.add_zero, usA_end, HH.out.l2, ← HL.out]; exact HM5.out⟩
      case round =>
        clear HM5 q6
        obtain ⟨k, rfl, hk, HM⟩ := hrel
        by_cases hlt : k < c.n6
        · obtain ⟨b, off, ha, hbw, hcell⟩ := HH.out.r6.addr (by rw [cellsT_len, HH.out.l6]; omega)
          rw [HA6.out] at ha
          subst ha
          have hat := cellsT_at C.ands k (by rw [HH.out.l6]; exact hlt)
          have hc0 := (HM.out.below.cell (p := ⟨b, off + k * 3, none⟩) hbw).trans (hcell _ _ hat.1)
          have hc1 := (HM.out.below.cell (p := ⟨b, off + k * 3 + 1, none⟩) hbw).trans (hcell _ _ hat.2.1)
          have hc2 := (HM.out.below.cell (p := ⟨b, off + k * 3 + 2, none⟩) hbw).trans (hcell _ _ hat.2.2)
          have hst := usB_step C k (by rw [HH.out.l6]; exact hlt)
          obtain ⟨x, HX⟩ : ∃ x, Hid (x = atP C.ands k) := ⟨_, rfl⟩
          rw [← HX.out] at hc0 hc1 hc2 hst
          obtain ⟨x0, x1, x2⟩ := x
          dsimp only at hc0 hc1 hc2 hst
          have HST := hide hst
          have hbig := HM.out.big
          clear hcell hat hst
          go_wp2_with (at_builtin; refine wpList_append_own _ rfl (.tmp 40) (.tmp 45) 24 rfl (w.heap.size + 1) 3 i0 (.int .i64 0) 1 8 Tryz.underlying24 hi hz0 hz1 hz2 rfl (by decide) _ _ _ rfl ((HM.out.own.alloc _).alloc _) ⟨wr.heap.size + 1, 0, none⟩ 2 2 [.int .i64 x1, .int .i64 x2] rfl rfl (cell_two_at (by simp) _ _ _) (by intro u hu; simp at hu; rcases hu with rfl | rfl <;> rfl) (by unfold maxLen; omega) (by omega) (by simp; omega) ?_; intro v6 w6 hown6 hg6 _)
          go_roundw
          case rel =>
            refine ⟨k + 1, by go_num, by omega, ?_⟩
            have e : c.n2 + c.n3 + c.n4 + c.n5 + (k + 1) * 2 = c.n2 + c.n3 + c.n4 + c.n5 + k * 2 + 2 := by omega
            rw [e]
            refine HM.out.step (below_two wr _ _) hg6 ?_
            rw [HST.out, List.map_append]; exact hown6
          case measure => simp [intOf]; omega
        · obtain rfl : k = c.n6 := by omega
          have hfin : Hid (Post (.returned u3) wr) := by
            show Post (.returned u3) wr
            rw [← HP.out]
            have hm := HM.out
            rw [← HH.out.l6, usB_end] at hm
            refine ⟨u3, rfl, ?_, hm.below⟩
            have e : C.used.length = c.n2 + c.n3 + c.n4 + c.n5 + C.ands.length * 2 := by rw [used_len, HH.out.l2, HH.out.l3, HH.out.l4, HH.out.l5]; omega
            rw [e]
            exact own_le hm.own (Nat.le_succ _)
          go_wp2
          exact hfin.out
end Go.Proofs.YtikjbbebfjleaaaGreatDoor
