/-
  THE WALK of the reference's uses.
-/
import Derived.Test.YtppaifckiaaffaaAigCheck
import Derived.Deep.Cut
namespace Go.Proofs.Ytppaifckiaaffaa
open Go.RowKit

def urA (C : Circ) (k : Nat) : List Int := C.outs ++ C.bads ++ C.cons ++ (C.lats.take k).map (·.2.1)
def urB (C : Circ) (k : Nat) : List Int := C.outs ++ C.bads ++ C.cons ++ C.lats.map (·.2.1) ++ (C.ands.take k).flatMap (fun a => [a.2.1, a.2.2])
def Circ.usesL (C : Circ) : List Int := C.outs ++ C.bads ++ C.cons ++ C.lats.map (·.2.1) ++ C.ands.flatMap (fun a => [a.2.1, a.2.2])
theorem urA_step (C : Circ) (k : Nat) (h : k < C.lats.length) : urA C (k + 1) = urA C k ++ [(atP C.lats k).2.1] := by
  unfold urA; rw [map_take _ _ _ h, ← List.append_assoc]
theorem urB_step (C : Circ) (k : Nat) (h : k < C.ands.length) : urB C (k + 1) = urB C k ++ [(atP C.ands k).2.1, (atP C.ands k).2.2] := by
  unfold urB; rw [flat_take _ _ h, ← List.append_assoc]
theorem urA_zero (C : Circ) : urA C 0 = C.outs ++ C.bads ++ C.cons := by simp [urA]
theorem urA_end (C : Circ) : urB C 0 = urA C C.lats.length := by simp [urA, urB]
theorem urB_end (C : Circ) : urB C C.ands.length = C.usesL := by simp [urB, Circ.usesL]
theorem uses_mem (C : Circ) (x : Int) : x ∈ C.usesL ↔ x ∈ C.used := by
  unfold Circ.usesL Circ.used
  simp only [List.mem_append]
  constructor <;> (rintro ((((h | h) | h) | h) | h) <;> simp [h])
theorem uses_all (C : Circ) (p : Int → Bool) : C.usesL.all p = C.used.all p := by
  rw [Bool.eq_iff_iff, List.all_eq_true, List.all_eq_true]
  exact ⟨fun h x hx => h x ((uses_mem C x).2 hx), fun h x hx => h x ((uses_mem C x).1 hx)⟩

theorem row_two {w : World} {b : Nat} (hb : b = w.heap.size) (x y : Int) (t : TypeId) : RowK .i64 (w.alloc (.cells #[.int .i64 x, .int .i64 y] t)) (some ⟨b, 0, none⟩) [x, y] := by
  subst hb
  refine .inr ⟨_, rfl, fun i hi => ?_⟩
  rw [add_plain, Nat.zero_add, cell_of_row _ _ i _ t (0, 0) (heap_alloc_new w _)]
  rcases (by simp at hi; omega : i = 0 ∨ i = 1) with rfl | rfl <;> rfl

set_option maxRecDepth 100000 in
set_option maxHeartbeats 4000000 in
theorem uses_any (c : CV) (C : Circ) (w : World) (h : Holds w c C) (hS : Small C) :
    Calls Try.prog 43 #[c.v] w fun e w' => ∃ v, e = .returned v ∧ NewInts w C.usesL v w' := by
  obtain ⟨i0, hi, hz0, hz1, hz2⟩ := info_parts infoInt
  have h2 : c.n2 ≤ 64 := by rw [← h.l2]; exact hS.lats
  have h3 : c.n3 ≤ 64 := by rw [← h.l3]; exact hS.outs
  have h4 : c.n4 ≤ 64 := by rw [← h.l4]; exact hS.bads
  have h5 : c.n5 ≤ 64 := by rw [← h.l5]; exact hS.cons
  have h6 : c.n6 ≤ 2000 := by rw [← h.l6]; exact hS.ands
  have HH := hide h
  have HB := hide (box_new w c)
  have HR3 := hide (fun W (hb : Below w.heap.size w W) => h.r3.below hb)
  have HR4 := hide (fun W (hb : Below w.heap.size w W) => h.r4.below hb)
  have HR5 := hide (fun W (hb : Below w.heap.size w W) => h.r5.below hb)
  generalize hP : (fun (e : Ending) (w' : World) => ∃ v, e = .returned v ∧ NewInts w C.usesL v w') = Post
  have HP := hide hP
  clear h hS hP
  unfold CV.v
  unfold Box at HB
  generalize hA2 : c.a2 = A2 at HB ⊢
  generalize hA6 : c.a6 = A6 at HB ⊢
  have HA2 := hide hA2
  have HA6 := hide hA6
  clear hA2 hA6
  go_enter Try.func43, Try.ntmps43
  go_upto_region 2 with (at_builtin; refine wpList_append_row _ rfl (.const (.slice none 0 0)) (.tmp 7) 22 rfl .i64 (w.heap.size + 1) 3 i0 (.int .i64 0) 8 Try.underlying22 hi hz0 hz1 hz2 rfl _ 0 [] rfl (World.ownsRow_nil _ _ _ _) c.a3 c.n3 c.c3 C.outs rfl HH.out.l3 (HR3.out _ (below_alloc _ _)) HH.out.z3 (by unfold maxLen; omega) (by omega) (by simp) ?_; intro v1 w1 hown1 hg1)
  have HM1 : Hid (Mk w c v1 c.n3 C.outs w1) := by
    rw [Nat.zero_add, List.nil_append] at hown1
    refine ⟨hown1, (below_alloc w _).grown hg1 (by simp) (fun k hk => by cases hk), ?_⟩
    have hb : Box (w.alloc (.cells #[.int .i64 c.m, .slice c.a1 c.n1 c.c1, .slice A2 c.n2 c.c2, .slice c.a3 c.n3 c.c3, .slice c.a4 c.n4 c.c4, .slice c.a5 c.n5 c.c5, .slice A6 c.n6 c.c6, .slice c.a7 c.n7 c.c7] 27)) w.heap.size c := by
      show _ = some (Obj.cells _ _ _)
      rw [HA2.out, HA6.out]; exact HB.out
    exact hb.grown hg1 (fun e => by cases e)
  clear hown1 hg1 HB
  go_cut [3] from 9 to 15 (fun v wx => Hid (Mk w c v (c.n3 + c.n4 + c.n5) (C.outs ++ C.bads ++ C.cons) wx))
  case first =>
    obtain ⟨q0, q1, q2, q3, q4, q5, q6, q7⟩ := HM1.out.box.cells
    have hbig := HM1.out.big
    have HR4w := hide (HR4.out w1 HM1.out.below)
    have HR5w := hide (HR5.out w1 HM1.out.below)
    have HV1 : Hid (∀ k, v1.ownBlock = some k → w.heap.size + 1 ≤ k) := fun k hk => (HM1.out.own.lt k hk).1
    go_region_law ((first | (refine step_append_row _ (by rfl) (.tmp 9) (.tmp 11) 22 (by rfl) .i64 (w.heap.size + 1) 3 i0 (.int .i64 0) 8 Try.underlying22 hi hz0 hz1 hz2 (by rfl) v1 c.n3 (C.outs.map (Value.int .i64)) (by simp [Act.eval]) (own_like HM1.out.own rfl) c.a4 c.n4 c.c4 C.bads (by simp [Act.eval]) HH.out.l4 (row_like HR4w.out rfl) HH.out.z4 (by unfold maxLen; omega) (by omega) (by exact hbig) ?_; intro v2 w2 hown2 hg2; have hbl2 := below_like HM1.out.below hg2 HM1.out.below.size (fun k hk => by have := HV1.out k hk; omega) ⟨rfl, rfl, rfl, rfl⟩; have hbx2 : Box w2 w.heap.size c := (hg2.block w.heap.size hbig (fun e => by have := HV1.out _ e.symm; omega)).trans HM1.out.box; have hbg2 : w.heap.size + 1 ≤ w2.heap.size := hbx2.lt; obtain ⟨r0, r1, r2, r3, r4, r5, r6, r7⟩ := hbx2.cells) | (refine step_append_row _ (by rfl) (.tmp 12) (.tmp 14) 22 (by rfl) .i64 (w.heap.size + 1) 3 i0 (.int .i64 0) 8 Try.underlying22 hi hz0 hz1 hz2 (by rfl) _ _ _ (by simp [Act.eval]) hown2 c.a5 c.n5 c.c5 C.cons (by simp [Act.eval]) HH.out.l5 (HR5.out _ hbl2) HH.out.z5 (by unfold maxLen; omega) (by omega) (by omega) ?_; intro v3 w3 hown3 hg3)))
    all_goals
      go_wp2_with fail
      go_meet
      refine ⟨?_, hbl2.grown hg3 hbl2.size (fun k hk => by have := (hown2.lt k hk).1; omega), hbx2.grown hg3 (fun e => by have := (hown2.lt _ e).1; omega)⟩
      rw [List.map_append, List.map_append]; exact hown3
  case rest =>
    rename World => wx
    have HM : Hid (Mk w c u3 (c.n3 + c.n4 + c.n5) (C.outs ++ C.bads ++ C.cons) wx) := hcut
    clear hcut HM1 HR3 HR4 HR5
    go_wp2
    go_loopw [3, 4] (fun v i wr => ∃ k : Nat, i = .int .i64 k ∧ k ≤ c.n2 ∧ Hid (Mk w c v (c.n3 + c.n4 + c.n5 + k) (urA C k) wr)) (fun _ i _ => c.n2 - (intOf i).toNat)
    case atStart => exact ⟨0, rfl, Nat.zero_le _, hide (by rw [Nat.add_zero, urA_zero]; exact HM.out)⟩
    case round =>
      clear HM
      obtain ⟨k, rfl, hk, HM⟩ := hrel
      obtain ⟨q0, q1, q2, q3, q4, q5, q6, q7⟩ := HM.out.box.cells
      rw [HA2.out] at q2
      rw [HA6.out] at q6
      by_cases hlt : k < c.n2
      · obtain ⟨b, off, ha, hbw, hcell⟩ := HH.out.r2.addr (by rw [cellsT_len, HH.out.l2]; omega)
        rw [HA2.out] at ha
        subst ha
        have hat := cellsT_at C.lats k (by rw [HH.out.l2]; exact hlt)
        have hc1 := (HM.out.below.cell (p := ⟨b, off + k * 3 + 1, none⟩) hbw).trans (hcell _ _ hat.2.1)
        have hst := urA_step C k (by rw [HH.out.l2]; exact hlt)
        obtain ⟨x, HX⟩ : ∃ x, Hid (x = atP C.lats k) := ⟨_, rfl⟩
        rw [← HX.out] at hc1 hst
        obtain ⟨x0, x1, x2⟩ := x
        dsimp only at hc1 hst
        have HST := hide hst
        have hbig := HM.out.big
        clear hcell hat hst HX
        go_wp2_with (at_builtin; refine wpList_append_own _ rfl (.tmp 23) (.tmp 30) 22 rfl (w.heap.size + 1) 3 i0 (.int .i64 0) 1 8 Try.underlying22 hi hz0 hz1 hz2 rfl (by decide) _ _ _ rfl (HM.out.own.alloc _) ⟨wr.heap.size, 0, none⟩ 1 1 [.int .i64 x1] rfl rfl (cell_one_at (by simp) _ _) (by intro u hu; simp at hu; subst hu; rfl) (by unfold maxLen; omega) (by omega) (by simp; omega) ?_; intro v6 w6 hown6 hg6 _)
        go_roundw
        case rel =>
          refine ⟨k + 1, by go_num, by omega, HM.out.step (below_alloc wr _) hg6 ?_⟩
          rw [HST.out, List.map_append]; exact hown6
        case measure => simp [intOf]; omega
      · obtain rfl : k = c.n2 := by omega
        have HM2 : Hid (Mk w c u3 (c.n3 + c.n4 + c.n5 + c.n2) (urB C 0) wr) := hide (by rw [urA_end, HH.out.l2]; exact HM.out)
        clear HM hlt hk
        go_wp2
        clear q0 q1 q2 q3 q4 q5 q6 q7
        go_loopw [3, 5] (fun v i wr => ∃ k : Nat, i = .int .i64 k ∧ k ≤ c.n6 ∧ Hid (Mk w c v (c.n3 + c.n4 + c.n5 + c.n2 + k * 2) (urB C k) wr)) (fun _ i _ => c.n6 - (intOf i).toNat)
        case atStart => exact ⟨0, rfl, Nat.zero_le _, hide (by rw [Nat.zero_mul, Nat.add_zero]; exact HM2.out)⟩
        case round =>
          clear HM2
          obtain ⟨k, rfl, hk, HM⟩ := hrel
          obtain ⟨q0, q1, q2, q3, q4, q5, q6, q7⟩ := HM.out.box.cells
          rw [HA2.out] at q2
          rw [HA6.out] at q6
          by_cases hlt : k < c.n6
          · obtain ⟨b, off, ha, hbw, hcell⟩ := HH.out.r6.addr (by rw [cellsT_len, HH.out.l6]; omega)
            rw [HA6.out] at ha
            subst ha
            have hat := cellsT_at C.ands k (by rw [HH.out.l6]; exact hlt)
            have hc1 := (HM.out.below.cell (p := ⟨b, off + k * 3 + 1, none⟩) hbw).trans (hcell _ _ hat.2.1)
            have hc2 := (HM.out.below.cell (p := ⟨b, off + k * 3 + 2, none⟩) hbw).trans (hcell _ _ hat.2.2)
            have hst := urB_step C k (by rw [HH.out.l6]; exact hlt)
            obtain ⟨x, HX⟩ : ∃ x, Hid (x = atP C.ands k) := ⟨_, rfl⟩
            rw [← HX.out] at hc1 hc2 hst
            obtain ⟨x0, x1, x2⟩ := x
            dsimp only at hc1 hc2 hst
            have HST := hide hst
            have hbig := HM.out.big
            have HV1 : Hid (∀ j, (u3).ownBlock = some j → w.heap.size + 1 ≤ j) := fun j hj => (HM.out.own.lt j hj).1
            clear hcell hat hst HX
            go_wp2
            go_region_law ((refine step_append_row _ (by rfl) (.tmp 39) (.tmp 52) 22 (by rfl) .i64 (w.heap.size + 1) 3 i0 (.int .i64 0) 8 Try.underlying22 hi hz0 hz1 hz2 (by rfl) _ (c.n3 + c.n4 + c.n5 + c.n2 + k * 2) ((urB C k).map (Value.int .i64)) (by simp [Act.eval]) (own_like (HM.out.own.alloc (.cells #[.int .i64 x1, .int .i64 x2] 3)) rfl) (some ⟨wr.heap.size, 0, none⟩) 2 2 [x1, x2] (by simp [Act.eval]) (by rfl) (row_like (row_two (w := wr) rfl x1 x2 3) rfl) (fun e => by cases e) (by unfold maxLen; omega) (by omega) (by simp; omega) ?_; intro v6 w6 hown6 hg6))
            all_goals
              go_wp2
              go_roundw
              case rel =>
                refine ⟨k + 1, by go_num, by omega, ?_, ?_, ?_⟩
                · rw [HST.out, List.map_append, show c.n3 + c.n4 + c.n5 + c.n2 + (k + 1) * 2 = c.n3 + c.n4 + c.n5 + c.n2 + k * 2 + 2 by omega]; exact hown6
                · exact below_like (belowThen HM.out.below (below_alloc wr (.cells #[.int .i64 x1, .int .i64 x2] 3))) hg6 (by have := HM.out.below.size; simp; omega) (fun j hj => by have := HV1.out j hj; omega) ⟨rfl, rfl, rfl, rfl⟩
                · exact (hg6.block w.heap.size (by simp; omega) (fun e => by have := HV1.out _ e.symm; omega)).trans (HM.out.box.alloc (.cells #[.int .i64 x1, .int .i64 x2] 3))
              case measure => simp [intOf]; omega
          · obtain rfl : k = c.n6 := by omega
            have hfin : Hid (Post (.returned u3) wr) := by
              show Post (.returned u3) wr
              rw [← HP.out]
              have hm := HM.out
              rw [← HH.out.l6, urB_end] at hm
              refine ⟨u3, rfl, ?_, hm.below⟩
              have e : C.usesL.length = c.n3 + c.n4 + c.n5 + c.n2 + C.ands.length * 2 := by
                have := hm.own.1
                simpa using this
              rw [e]
              exact own_le hm.own (Nat.le_succ _)
            go_wp2
            exact hfin.out
end Go.Proofs.Ytppaifckiaaffaa
