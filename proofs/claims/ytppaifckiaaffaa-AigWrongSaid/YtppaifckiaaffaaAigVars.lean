/-
  THE WALKS of layer 4's Vars, howMany, made, used.
-/
import Derived.Test.YtppaifckiaaffaaAigMem
namespace Go.Proofs.Ytppaifckiaaffaa
open Go.RowKit

set_option maxHeartbeats 400000 in
theorem vars_any (c : CV) (w : World) (h1 : c.n1 ≤ 1000000) (h2 : c.n2 ≤ 1000000) (h6 : c.n6 ≤ 1000000) :
    Calls Try.prog 21 #[c.v] w fun e w' => e = .returned (.int .i64 ((c.n1 + c.n2 + c.n6 : Nat) : Int)) ∧ Below w.heap.size w w' := by
  unfold CV.v
  go_enter Try.func21, Try.ntmps21
  go_wp2
  go_ret
  exact ⟨by simp, below_alloc w _⟩

theorem cell_one_at {w : World} {b : Nat} (hb : b = w.heap.size) (x : Value) (t : TypeId) : ∀ j u, [x][j]? = some u → (w.alloc (.cells #[x] t)).cell? ((⟨b, 0, none⟩ : Addr).add j) = some u := by
  subst hb; exact cell_one_new w x t

/-- A slice of ints that is being made behind a circuit's box. -/
structure Mk (w0 : World) (c : CV) (v : Value) (k : Nat) (xs : List Int) (wr : World) : Prop where
  own : wr.ownsRow (w0.heap.size + 1) 3 1 v k (xs.map (Value.int .i64))
  below : Below w0.heap.size w0 wr
  box : Box wr w0.heap.size c

theorem Mk.big {w0 wr : World} {c : CV} {v : Value} {k : Nat} {xs : List Int} (h : Mk w0 c v k xs wr) : w0.heap.size + 1 ≤ wr.heap.size := h.box.lt
theorem Mk.step {w0 wr w2 w3 : World} {c : CV} {v v3 : Value} {k k3 : Nat} {xs ys : List Int} (h : Mk w0 c v k xs wr) (hb : Below wr.heap.size wr w2) (hg : w2.grownBy w3 v.ownBlock) (hown : w3.ownsRow (w0.heap.size + 1) 3 1 v3 k3 (ys.map (Value.int .i64))) : Mk w0 c v3 k3 ys w3 := by
  have hs := hb.size
  have hbig := h.big
  refine ⟨hown, (h.below.trans (hb.mono (by omega))).grown hg (by omega) (fun k hk => by have := (h.own.lt k hk).1; omega), (h.box.below hb).grown hg (fun e => by have := (h.own.lt _ e).1; omega)⟩

theorem Mk.alloc {w0 wr : World} {c : CV} {v : Value} {k : Nat} {xs : List Int} (h : Mk w0 c v k xs wr) (o : Obj) : Mk w0 c v k xs (wr.alloc o) :=
  ⟨h.own.alloc o, belowThen' h.below (below_alloc wr o) h.below.size, h.box.alloc o⟩

def mkA (C : Circ) (k : Nat) : List Int := C.ins ++ (C.lats.take k).map (·.1)
def mkB (C : Circ) (k : Nat) : List Int := C.ins ++ C.lats.map (·.1) ++ (C.ands.take k).map (·.1)
theorem mkA_step (C : Circ) (k : Nat) (h : k < C.lats.length) : mkA C (k + 1) = mkA C k ++ [(atP C.lats k).1] := by
  unfold mkA; rw [map_take _ _ _ h, List.append_assoc]
theorem mkB_step (C : Circ) (k : Nat) (h : k < C.ands.length) : mkB C (k + 1) = mkB C k ++ [(atP C.ands k).1] := by
  unfold mkB; rw [map_take _ _ _ h, List.append_assoc, List.append_assoc, List.append_assoc]
theorem mkA_zero (C : Circ) : mkA C 0 = C.ins := by simp [mkA]
theorem mkA_end (C : Circ) : mkB C 0 = mkA C C.lats.length := by simp [mkA, mkB]
theorem mkB_end (C : Circ) : mkB C C.ands.length = C.made := by simp [mkB, Circ.made]

theorem below_two (w : World) (o o' : Obj) : Below w.heap.size w ((w.alloc o).alloc o') := belowThen (below_alloc w o) (below_alloc _ o')

set_option maxRecDepth 100000 in
set_option maxHeartbeats 1000000 in
theorem made_any (c : CV) (C : Circ) (w : World) (h : Holds w c C) (hS : Small C) :
    Calls Try.prog 99 #[c.v] w fun e w' => ∃ v, e = .returned v ∧ NewInts w C.made v w' := by
  obtain ⟨i0, hi, hz0, hz1, hz2⟩ := info_parts infoInt
  have h1 : c.n1 ≤ 64 := by rw [← h.l1]; exact hS.ins
  have h2 : c.n2 ≤ 64 := by rw [← h.l2]; exact hS.lats
  have h6 : c.n6 ≤ 2000 := by rw [← h.l6]; exact hS.ands
  have HV := hide (fun W => vars_any c W (by omega) (by omega) (by omega))
  have HH := hide h
  have HB := hide (box_new w c)
  generalize hP : (fun (e : Ending) (w' : World) => ∃ v, e = .returned v ∧ NewInts w C.made v w') = Post
  have HP := hide hP
  clear h hS hP
  unfold CV.v at HV ⊢
  unfold Box at HB
  generalize hA2 : c.a2 = A2 at HV HB ⊢
  generalize hA6 : c.a6 = A6 at HV HB ⊢
  have HA2 := hide hA2
  have HA6 := hide hA6
  clear hA2 hA6
  go_enter Try.func99, Try.ntmps99
  go_wp2_with fail
  refine (HV.out _).mono ?_
  rintro e w1 ⟨rfl, hb1⟩
  have hB1 : Hid (Box w1 w.heap.size c) := by
    have := hb1.block w.heap.size (by simp)
    rw [HB.out] at this
    show w1.heap[w.heap.size]? = _
    rw [this, HA2.out, HA6.out]
  have hbw1 := hide (belowThen (below_alloc w _) hb1)
  have hbig1 : w.heap.size + 1 ≤ w1.heap.size := hB1.out.lt
  clear hb1
  go_wp2_with (first | (at_make; refine wpList_make_len _ rfl _ _ 22 rfl 3 i0 (.int .i64 0) Try.underlying22 hi hz0 hz1 .i64 .i64 _ _ 0 (c.n1 + c.n2 + c.n6) rfl rfl rfl (by omega) (by omega) (by rw [hz2]; omega) (by unfold maxLen; omega) ?_; intro w2 cur hgc hcs hgr; have HM0 : Hid (Mk w c (.slice (some ⟨w1.heap.size, 0, none⟩) 0 (c.n1 + c.n2 + c.n6)) 0 [] w2) := ⟨⟨rfl, .inr ⟨w1.heap.size, _, cur, rfl, hbig1, hgc, Nat.zero_le _, by unfold maxLen; omega, by simpa using hcs, rfl⟩⟩, hbw1.out.grown hgr (by have := hbw1.out.size; omega) (fun k hk => by cases hk), hB1.out.grown hgr (by simp)⟩; obtain ⟨-, q1, -, -, -, -, -, -⟩ := HM0.out.box.cells; have hr1 := hide (HH.out.r1.below (belowTo hbw1.out hgr)); clear hgc hcs hgr) | (at_builtin; refine wpList_append_row _ rfl (.tmp 11) (.tmp 13) 22 rfl .i64 (w.heap.size + 1) 3 i0 (.int .i64 0) 8 Try.underlying22 hi hz0 hz1 hz2 rfl _ 0 [] rfl HM0.out.own c.a1 c.n1 c.c1 C.ins rfl HH.out.l1 hr1.out HH.out.z1 (by unfold maxLen; omega) (by omega) HM0.out.big ?_; intro v3 w3 hown3 hg3; have HM : Hid (Mk w c v3 c.n1 C.ins w3) := HM0.out.step (Below.refl _ _) hg3 (by simpa using hown3); obtain ⟨-, -, q2, -, -, -, q6, -⟩ := HM.out.box.cells; rw [HA2.out] at q2; clear HM0 hown3 hg3 q1 hr1 q6))
  go_loopw [3, 5, 18] (fun v _ i wr => ∃ k : Nat, i = .int .i64 k ∧ k ≤ c.n2 ∧ Hid (Mk w c v (c.n1 + k) (mkA C k) wr)) (fun _ _ i _ => c.n2 - (intOf i).toNat)
  case atStart => exact ⟨0, rfl, Nat.zero_le _, by rw [mkA_zero, Nat.add_zero]; exact HM.out⟩
  case round =>
    clear HM
    obtain ⟨k, rfl, hk, HM⟩ := hrel
    by_cases hlt : k < c.n2
    · obtain ⟨b, off, ha, hbw, hcell⟩ := HH.out.r2.addr (by rw [cellsT_len, HH.out.l2]; omega)
      rw [HA2.out] at ha
      subst ha
      have hat := cellsT_at C.lats k (by rw [HH.out.l2]; exact hlt)
      have hc0 := (HM.out.below.cell (p := ⟨b, off + k * 3, none⟩) hbw).trans (hcell _ _ hat.1)
      have hc1 := (HM.out.below.cell (p := ⟨b, off + k * 3 + 1, none⟩) hbw).trans (hcell _ _ hat.2.1)
      have hc2 := (HM.out.below.cell (p := ⟨b, off + k * 3 + 2, none⟩) hbw).trans (hcell _ _ hat.2.2)
      have hst := mkA_step C k (by rw [HH.out.l2]; exact hlt)
      obtain ⟨x, HX⟩ : ∃ x, Hid (x = atP C.lats k) := ⟨_, rfl⟩
      rw [← HX.out] at hc0 hc1 hc2 hst
      obtain ⟨x0, x1, x2⟩ := x
      dsimp only at hc0 hc1 hc2 hst
      have HST := hide hst
      have hbig := HM.out.big
      clear hcell hat hst
      go_wp2_with (at_builtin; refine wpList_append_own _ rfl (.tmp 22) (.tmp 25) 22 rfl (w.heap.size + 1) 3 i0 (.int .i64 0) 1 8 Try.underlying22 hi hz0 hz1 hz2 rfl (by decide) _ _ _ rfl ((HM.out.own.alloc _).alloc _) ⟨wr.heap.size + 1, 0, none⟩ 1 1 [.int .i64 x0] rfl rfl (cell_one_at (by simp) _ _) (by intro u hu; simp at hu; subst hu; rfl) (by unfold maxLen; omega) (by omega) (by simp; omega) ?_; intro v6 w6 hown6 hg6 _)
      go_roundw
      case rel =>
        refine ⟨k + 1, by go_num, by omega, HM.out.step (below_two wr _ _) hg6 ?_⟩
        rw [HST.out, List.map_append]; exact hown6
      case measure => simp [intOf]; omega
    · obtain rfl : k = c.n2 := by omega
      have HM1 : Hid (Mk w c u3 (c.n1 + c.n2) (mkB C 0) wr) := by
        rw [mkA_end, HH.out.l2]; exact HM.out
      obtain ⟨-, -, -, -, -, -, q6, -⟩ := HM1.out.box.cells
      rw [HA6.out] at q6
      clear HM hlt hk
      go_wp2
      rename World => wo
      go_loopw [3, 7, 31] (fun v _ i wr => ∃ k : Nat, i = .int .i64 k ∧ k ≤ c.n6 ∧ Hid (Mk w c v (c.n1 + c.n2 + k) (mkB C k) wr)) (fun _ _ i _ => c.n6 - (intOf i).toNat)
      case atStart => exact ⟨0, rfl, Nat.zero_le _, by rw [Nat.add_zero]; exact HM1.out⟩
      case round =>
        clear HM1 q6
        obtain ⟨k, rfl, hk, HM⟩ := hrel
        by_cases hlt : k < c.n6
        · obtain ⟨b, off, ha, hbw, hcell⟩ := HH.out.r6.addr (by rw [cellsT_len, HH.out.l6]; omega)
          rw [HA6.out] at ha
          subst ha
          have hat := cellsT_at C.ands k (by rw [HH.out.l6]; exact hlt)
          have hc0 := (HM.out.below.cell (p := ⟨b, off + k * 3, none⟩) hbw).trans (hcell _ _ hat.1)
          have hc1 := (HM.out.below.cell (p := ⟨b, off + k * 3 + 1, none⟩) hbw).trans (hcell _ _ hat.2.1)
          have hc2 := (HM.out.below.cell (p := ⟨b, off + k * 3 + 2, none⟩) hbw).trans (hcell _ _ hat.2.2)
          have hst := mkB_step C k (by rw [HH.out.l6]; exact hlt)
          obtain ⟨x, HX⟩ : ∃ x, Hid (x = atP C.ands k) := ⟨_, rfl⟩
          rw [← HX.out] at hc0 hc1 hc2 hst
          obtain ⟨x0, x1, x2⟩ := x
          dsimp only at hc0 hc1 hc2 hst
          have HST := hide hst
          have hbig := HM.out.big
          clear hcell hat hst
          go_wp2_with (at_builtin; refine wpList_append_own _ rfl (.tmp 35) (.tmp 38) 22 rfl (w.heap.size + 1) 3 i0 (.int .i64 0) 1 8 Try.underlying22 hi hz0 hz1 hz2 rfl (by decide) _ _ _ rfl ((HM.out.own.alloc _).alloc _) ⟨wr.heap.size + 1, 0, none⟩ 1 1 [.int .i64 x0] rfl rfl (cell_one_at (by simp) _ _) (by intro u hu; simp at hu; subst hu; rfl) (by unfold maxLen; omega) (by omega) (by simp; omega) ?_; intro v6 w6 hown6 hg6 _)
          go_roundw
          case rel =>
            refine ⟨k + 1, by go_num, by omega, HM.out.step (below_two wr _ _) hg6 ?_⟩
            rw [HST.out, List.map_append]; exact hown6
          case measure => simp [intOf]; omega
        · obtain rfl : k = c.n6 := by omega
          have hfin : Hid (Post (.returned u3) wr) := by
            show Post (.returned u3) wr
            rw [← HP.out]
            have hm := HM.out
            rw [← HH.out.l6, mkB_end] at hm
            refine ⟨u3, rfl, ?_, hm.below⟩
            have e : C.made.length = c.n1 + c.n2 + c.n6 := by rw [made_len, HH.out.l1, HH.out.l2, HH.out.l6]
            rw [e, ← HH.out.l6]
            exact own_le hm.own (Nat.le_succ _)
          go_wp2
          exact hfin.out
end Go.Proofs.Ytppaifckiaaffaa
