/-
  THE WALKS of Vars and Bads, the program's and the reference's, and of the reference's known.
  THE WALK of the reference's uses.
-/
import Derived.Test.YtikjbbebfjleaaaGreatDoorJ26
import Derived.Deep.Cut
namespace Go.Proofs.YtikjbbebfjleaaaGreatDoor
open Go.RowKit

def Circ.numVars (C : Circ) : Nat := C.ins.length + C.lats.length + C.ands.length
def Circ.badsOr (C : Circ) : List Int := if C.bads.length = 0 then C.outs else C.bads

set_option maxHeartbeats 1000000 in
theorem vars_of (c : CV) (C : Circ) (w : World) (h : Holds w c C) (h1 : c.n1 ≤ 281474976710656) (h2 : c.n2 ≤ 281474976710656) (h6 : c.n6 ≤ 281474976710656) :
    Calls Tryz.prog 99 #[c.v] w fun e w' => e = .returned (.int .i64 C.numVars) ∧ Below w.heap.size w w' := by
  have e : ((C.numVars : Nat) : Int) = c.n1 + c.n2 + c.n6 := by unfold Circ.numVars; rw [h.l1, h.l2, h.l6]; omega
  rw [e]
  clear e h
  unfold CV.v
  go_enter Tryz.func99, Tryz.ntmps99
  go_wp2
  go_ret
  exact ⟨by go_num, below_alloc w _⟩

/-- Which literals are of variables that are there (the reference's). -/
def knowB (ks : List Int) (l : Int) : Bool := !(decide (1 < l) && decide (atP ks (varN l) = 0))

set_option maxRecDepth 100000 in
set_option maxHeartbeats 1000000 in
theorem known_any (a b : Option Addr) (n c m d : Nat) (ks xs : List Int) (w : World) (hk : RowK .i64 w a ks) (hkl : ks.length = n) (hr : RowK .i64 w b xs) (hx : xs.length = m) (hn : n ≤ 9223372036854775807) (hm : m ≤ 9223372036854775807) (hin : ∀ l ∈ xs, varN l < ks.length) :
    Calls Tryz.prog 60 #[.slice a n c, .slice b m d] w fun e w' => e = .returned (.bool (xs.all (knowB ks))) ∧ w' = w := by
  have HR := hide hr
  have HX := hide hx
  have HK := hide hk
  have HKL := hide hkl
  have HI := hide hin
  generalize hP : (fun (e : Ending) (w' : World) => e = .returned (.bool (xs.all (knowB ks))) ∧ w' = w) = Post
  have HP := hide hP
  clear hr hx hP hk hkl hin
  go_enter Tryz.func60, Tryz.ntmps60
  go_wp2
  go_loop [5] (fun i => ∃ k : Nat, i = .int .i64 k ∧ k ≤ m ∧ Hid (∀ j, j < k → knowB ks (atP xs j) = true)) (fun i => m - (intOf i).toNat)
  case atStart => exact ⟨0, rfl, Nat.zero_le _, fun j hj => absurd hj (Nat.not_lt_zero _)⟩
  case round =>
    obtain ⟨k, rfl, hk, HF⟩ := hrel
    by_cases hlt : k < m
    · obtain ⟨b1, off, rfl, -, hcell⟩ := HR.out.addr (by rw [HX.out]; omega)
      have hc := hcell k (by rw [HX.out]; omega)
      rw [atP_getD] at hc
      have hmem := HI.out _ (atP_mem xs k (by rw [HX.out]; exact hlt))
      obtain ⟨y, HY⟩ : ∃ y, Hid (y = atP xs k) := ⟨_, rfl⟩
      rw [← HY.out] at hc hmem
      clear hcell
      have hgo : Hid (knowB ks y = true → ∀ j, j < k + 1 → knowB ks (atP xs j) = true) := fun hy j hj => by
        by_cases hjk : j < k
        · exact HF.out j hjk
        · obtain rfl : j = k := by omega
          rw [← HY.out]; exact hy
      by_cases q1 : 1 < y
      · have hq : decide (1 < y) = true := decide_eq_true q1
        have hv : y.tdiv 2 = (varN y : Nat) := tdiv_two (by omega)
        obtain ⟨b2, off2, rfl, -, hkc⟩ := HK.out.addr (by omega)
        have hc2 := hkc (varN y) hmem
        rw [HKL.out] at hmem
        rw [atP_getD] at hc2
        obtain ⟨v, HV⟩ : ∃ v, Hid (v = varN y) := ⟨_, rfl⟩
        obtain ⟨z, HZ⟩ : ∃ z, Hid (z = atP ks (varN y)) := ⟨_, rfl⟩
        rw [← HZ.out, ← HV.out] at hc2
        rw [← HV.out] at hv hmem
        clear hkc
        by_cases hz : z = 0
        · subst hz
          have hfin : Hid (Post (.returned (.bool false)) w) := by
            show Post (.returned (.bool false)) w
            rw [← HP.out]
            exact ⟨ret_bool (List.all_eq_false.2 ⟨y, by rw [HY.out]; exact atP_mem xs k (by rw [HX.out]; exact hlt), by unfold knowB; rw [hq, ← HZ.out]; decide⟩).symm, rfl⟩
          clear hgo
          go_wp2
          exact hfin.out
        · have hzb : (z == 0) = false := by rw [beq_eq_false_iff_ne]; exact hz
          have hg := hide (hgo.out (by unfold knowB; rw [hq, ← HZ.out, decide_eq_false hz]; rfl))
          clear hgo
          go_wp2
          go_round
          case rel => exact ⟨k + 1, by go_num, by omega, hg.out⟩
          case measure => simp [intOf]; omega
      · have hq : decide (1 < y) = false := decide_eq_false q1
        have hg := hide (hgo.out (by unfold knowB; rw [hq]; rfl))
        clear hgo hmem
        go_wp2
        go_round
        case rel => exact ⟨k + 1, by go_num, by omega, hg.out⟩
        case measure => simp [intOf]; omega
    · obtain rfl : k = m := by omega
      have hfin : Hid (Post (.returned (.bool true)) w) := by
        show Post (.returned (.bool true)) w
        rw [← HP.out]
        exact ⟨ret_bool (List.all_eq_true.2 (all_of (p := fun y => knowB ks y = true) (fun j hj => HF.out j (by rw [← HX.out]; exact hj)))).symm, rfl⟩
      go_wp2
      exact hfin.out
end Go.Proofs.YtikjbbebfjleaaaGreatDoor

namespace Go.Proofs.YtikjbbebfjleaaaGreatDoor
open Go.RowKit

def urA (C : Circ) (k : Nat) : List Int := C.outs ++ C.bads ++ C.cons ++ (C.lats.take k).map (·.2.1)
def urB (C : Circ) (k : Nat) : List Int := C.outs ++ C.bads ++ C.cons ++ C.lats.map (·.2.1) ++ (C.ands.take k).flatMap (fun a => [a.2.1, a.2.2])
def Circ.usesL (C : Circ) : List Int := C.outs ++ C.bads ++ C.cons ++ C.lats.map (·.2.1) ++ C.ands.flatMap (fun a => [a.2.1, a.2.2])
theorem urA_step (C : Circ) (k : Nat) (h : k < C.lats.length) : urA C (k + 1) = urA C k ++ [(atP C.lats k).2.1] := by
  unfold urA; rw [map_take _ _ _ h, ← List.append_assoc]
theorem urB_step (C : Circ) (k : Nat) (h : k < C.ands.length) : urB C (k + 1) = urB C k ++ [(atP C.ands k).2.1, (atP C.ands k).2.2] := by
  unfold urB; rw [flat_take _ _ h, ← List.append_assoc]
theorem urA_zero (C : Circ) : urA C 0 = C.outs ++ C.bads ++ C.cons := by simp [urA]
theorem urA_end (C : Circ) : urB C 0 = urA C C.lats.length := by simp [urA, urB]
theorem urB_end (C : Circ) : urB C C.ands.length = C.usesL := by simp [urB, Circ.usesL]
theorem uses_mem (C : Circ) (x : Int) : x ∈ C.usesL ↔ x ∈ C.used := by
  unfold Circ.usesL Circ.used
  simp only [List.mem_append]
  constructor <;> (rintro ((((h | h) | h) | h) | h) <;> simp [h])
theorem uses_all (C : Circ) (p : Int → Bool) : C.usesL.all p = C.used.all p := by
  rw [Bool.eq_iff_iff, List.all_eq_true, List.all_eq_true]
  exact ⟨fun h x hx => h x ((uses_mem C x).2 hx), fun h x hx => h x ((uses_mem C x).1 hx)⟩

theorem row_two {w : World} {b : Nat} (hb : b = w.heap.size) (x y : Int) (t : TypeId) : RowK .i64 (w.alloc (.cells #[.int .i64 x, .int .i64 y] t)) (some ⟨b, 0, none⟩) [x, y] := by
  subst hb
  refine .inr ⟨_, rfl, fun i hi => ?_⟩
  rw [add_plain, Nat.zero_add, cell_of_row _ _ i _ t (0, 0) (heap_alloc_new w _)]
  rcases (by simp at hi; omega : i = 0 ∨ i = 1) with rfl | rfl <;> rfl

set_option maxRecDepth 100000 in
set_option maxHeartbeats 4000000 in
theorem uses_any (c : CV) (C : Circ) (w : World) (h : Holds w c C) (hS : Small C) :
    Calls Tryz.prog 61 #[c.v] w fun e w' => ∃ v, e = .returned v ∧ NewInts w C.usesL v w' := by
  obtain ⟨i0, hi, hz0, hz1, hz2⟩ := info_parts infoInt
  have h2 : c.n2 ≤ 64 := by rw [← h.l2]; exact hS.lats
  have h3 : c.n3 ≤ 64 := by rw [← h.l3]; exact hS.outs
  have h4 : c.n4 ≤ 64 := by rw [← h.l4]; exact hS.bads
  have h5 : c.n5 ≤ 64 := by rw [← h.l5]; exact hS.cons
  have h6 : c.n6 ≤ 2000 := by rw [← h.l6]; exact hS.ands
  have HH := hide h
  have HB := hide (box_new w c)
  have HR3 := hide (fun W (hb : Below w.heap.size w W) => h.r3.below hb)
  have HR4 := hide (fun W (hb : Below w.heap.size w W) => h.r4.below hb)
  have HR5 := hide (fun W (hb : Below w.heap.size w W) => h.r5.below hb)
  generalize hP : (fun (e : Ending) (w' : World) => ∃ v, e = .returned v ∧ NewInts w C.usesL v w') = Post
  have HP := hide hP
  clear h hS hP
  unfold CV.v
  unfold Box at HB
  generalize hA2 : c.a2 = A2 at HB ⊢
  generalize hA6 : c.a6 = A6 at HB ⊢
  have HA2 := hide hA2
  have HA6 := hide hA6
  clear hA2 hA6
  go_enter Tryz.func61, Tryz.ntmps61
  go_upto_region 2 with (at_builtin; refine wpList_append_row _ rfl (.const (.slice none 0 0)) (.tmp 7) 24 rfl .i64 (w.heap.size + 1) 3 i0 (.int .i64 0) 8 Tryz.underlying24 hi hz0 hz1 hz2 rfl _ 0 [] rfl (World.ownsRow_nil _ _ _ _) c.a3 c.n3 c.c3 C.outs rfl HH.out.l3 (HR3.out _ (below_alloc _ _)) HH.out.z3 (by unfold maxLen; omega) (by omega) (by simp) ?_; intro v1 w1 hown1 hg1)
  have HM1 : Hid (Mk w c v1 c.n3 C.outs w1) := by
    rw [Nat.zero_add, List.nil_append] at hown1
    refine ⟨hown1, (below_alloc w _).grown hg1 (by simp) (fun k hk => by cases hk), ?_⟩
    have hb : Box (w.alloc (.cells #[.int .i64 c.m, .slice c.a1 c.n1 c.c1, .slice A2 c.n2 c.c2, .slice c.a3 c.n3 c.c3, .slice c.a4 c.n4 c.c4, .slice c.a5 c.n5 c.c5, .slice A6 c.n6 c.c6, .slice c.a7 c.n7 c.c7] 29)) w.heap.size c := by
      show _ = some (Obj.cells _ _ _)
      rw [HA2.out, HA6.out]; exact HB.out
    exact hb.grown hg1 (fun e => by cases e)
  clear hown1 hg1 HB
  go_cut [3] from 9 to 15 (fun v wx => Hid (Mk w c v (c.n3 + c.n4 + c.n5) (C.outs ++ C.bads ++ C.cons) wx))
  case first =>
    obtain ⟨q0, q1, q2, q3, q4, q5, q6, q7⟩ := HM1.out.box.cells
    have hbig := HM1.out.big
    have HR4w := hide (HR4.out w1 HM1.out.below)
    have HR5w := hide (HR5.out w1 HM1.out.below)
    have HV1 : Hid (∀ k, v1.ownBlock = some k → w.heap.size + 1 ≤ k) := fun k hk => (HM1.out.own.lt k hk).1
    go_region_law ((first | (refine step_append_row _ (by rfl) (.tmp 9) (.tmp 11) 24 (by rfl) .i64 (w.heap.size + 1) 3 i0 (.int .i64 0) 8 Tryz.underlying24 hi hz0 hz1 hz2 (by rfl) v1 c.n3 (C.outs.map (Value.int .i64)) (by simp [Act.eval]) (own_like HM1.out.own rfl) c.a4 c.n4 c.c4 C.bads (by simp [Act.eval]) HH.out.l4 (row_like HR4w.out rfl) HH.out.z4 (by unfold maxLen; omega) (by omega) (by exact hbig) ?_; intro v2 w2 hown2 hg2; have hbl2 := below_like HM1.out.below hg2 HM1.out.below.size (fun k hk => by have := HV1.out k hk; omega) ⟨rfl, rfl, rfl, rfl⟩; have hbx2 : Box w2 w.heap.size c := (hg2.block w.heap.size hbig (fun e => by have := HV1.out _ e.symm; omega)).trans HM1.out.box; have hbg2 : w.heap.size + 1 ≤ w2.heap.size := hbx2.lt; obtain ⟨r0, r1, r2, r3, r4, r5, r6, r7⟩ := hbx2.cells) | (refine step_append_row _ (by rfl) (.tmp 12) (.tmp 14) 24 (by rfl) .i64 (w.heap.size + 1) 3 i0 (.int .i64 0) 8 Tryz.underlying24 hi hz0 hz1 hz2 (by rfl) _ _ _ (by simp [Act.eval]) hown2 c.a5 c.n5 c.c5 C.cons (by simp [Act.eval]) HH.out.l5 (HR5.out _ hbl2) HH.out.z5 (by unfold maxLen; omega) (by omega) (by omega) ?_; intro v3 w3 hown3 hg3)))
    all_goals
      go_wp2_with fail
      go_meet
      refine ⟨?_, hbl2.grown hg3 hbl2.size (fun k hk => by have := (hown2.lt k hk).1; omega), hbx2.grown hg3 (fun e => by have := (hown2.lt _ e).1; omega)⟩
      rw [List.map_append, List.map_append]; exact hown3
  case rest =>
    rename World => wx
    have HM : Hid (Mk w c u3 (c.n3 + c.n4 + c.n5) (C.outs ++ C.bads ++ C.cons) wx) := hcut
    clear hcut HM1 HR3 HR4 HR5
    go_wp2
    go_loopw [3, 4] (fun v i wr => ∃ k : Nat, i = .int .i64 k ∧ k ≤ c.n2 ∧ Hid (Mk w c v (c.n3 + c.n4 + c.n5 + k) (urA C k) wr)) (fun _ i _ => c.n2 - (intOf i).toNat)
    case atStart => exact ⟨0, rfl, Nat.zero_le _, hide (by rw [Nat.add_zero, urA_zero]; exact HM.out)⟩
    case round =>
      clear HM
      obtain ⟨k, rfl, hk, HM⟩ := hrel
      obtain ⟨q0, q1, q2, q3, q4, q5, q6, q7⟩ := HM.out.box.cells
      rw [HA2.out] at q2
      rw [HA6.out] at q6
      by_cases hlt : k < c.n2
      · obtain ⟨b, off, ha, hbw, hcell⟩ := HH.out.r2.addr (by rw [cellsT_len, HH.out.l2]; omega)
        rw [HA2.out] at ha
        subst ha
        have hat := cellsT_at C.lats k (by rw [HH.out.l2]; exact hlt)
        have hc1 := (HM.out.below.cell (p := ⟨b, off + k * 3 + 1, none⟩) hbw).trans (hcell _ _ hat.2.1)
        have hst := urA_step C k (by rw [HH.out.l2]; exact hlt)
        obtain ⟨x, HX⟩ : ∃ x, Hid (x = atP C.lats k) := ⟨_, rfl⟩
        rw [← HX.out] at hc1 hst
        obtain ⟨x0, x1, x2⟩ := x
        dsimp only at hc1 hst
        have HST := hide hst
        have hbig := HM.out.big
        clear hcell hat hst HX
        go_wp2_with (at_builtin; refine wpList_append_own _ rfl (.tmp 23) (.tmp 30) 24 rfl (w.heap.size + 1) 3 i0 (.int .i64 0) 1 8 Tryz.underlying24 hi hz0 hz1 hz2 rfl (by decide) _ _ _ rfl (HM.out.own.alloc _) ⟨wr.heap.size, 0, none⟩ 1 1 [.int .i64 x1] rfl rfl (cell_one_at (by simp) _ _) (by intro u hu; simp at hu; subst hu; rfl) (by unfold maxLen; omega) (by omega) (by simp; omega) ?_; intro v6 w6 hown6 hg6 _)
        go_roundw
        case rel =>
          refine ⟨k + 1, by go_num, by omega, HM.out.step (below_alloc wr _) hg6 ?_⟩
          rw [HST.out, List.map_append]; exact hown6
        case measure => simp [intOf]; omega
      · obtain rfl : k = c.n2 := by omega
        have HM2 : Hid (Mk w c u3 (c.n3 + c.n4 + c.n5 + c.n2) (urB C 0) wr) := hide (by rw [urA_end, HH.out.l2]; exact HM.out)
        clear HM hlt hk
        go_wp2
        clear q0 q1 q2 q3 q4 q5 q6 q7
        go_loopw [3, 5] (fun v i wr => ∃ k : Nat, i = .int .i64 k ∧ k ≤ c.n6 ∧ Hid (Mk w c v (c.n3 + c.n4 + c.n5 + c.n2 + k * 2) (urB C k) wr)) (fun _ i _ => c.n6 - (intOf i).toNat)
        case atStart => exact ⟨0, rfl, Nat.zero_le _, hide (by rw [Nat.zero_mul, Nat.add_zero]; exact HM2.out)⟩
        case round =>
          clear HM2
          obtain ⟨k, rfl, hk, HM⟩ := hrel
          obtain ⟨q0, q1, q2, q3, q4, q5, q6, q7⟩ := HM.out.box.cells
          rw [HA2.out] at q2
          rw [HA6.out] at q6
          by_cases hlt : k < c.n6
          · obtain ⟨b, off, ha, hbw, hcell⟩ := HH.out.r6.addr (by rw [cellsT_len, HH.out.l6]; omega)
            rw [HA6.out] at ha
            subst ha
            have hat := cellsT_at C.ands k (by rw [HH.out.l6]; exact hlt)
            have hc1 := (HM.out.below.cell (p := ⟨b, off + k * 3 + 1, none⟩) hbw).trans (hcell _ _ hat.2.1)
            have hc2 := (HM.out.below.cell (p := ⟨b, off + k * 3 + 2, none⟩) hbw).trans (hcell _ _ hat.2.2)
            have hst := urB_step C k (by rw [HH.out.l6]; exact hlt)
            obtain ⟨x, HX⟩ : ∃ x, Hid (x = atP C.ands k) := ⟨_, rfl⟩
            rw [← HX.out] at hc1 hc2 hst
            obtain ⟨x0, x1, x2⟩ := x
            dsimp only at hc1 hc2 hst
            have HST := hide hst
            have hbig := HM.out.big
            have HV1 : Hid (∀ j, (u3).ownBlock = some j → w.heap.size + 1 ≤ j) := fun j hj => (HM.out.own.lt j hj).1
            clear hcell hat hst HX
            go_wp2
            go_region_law ((refine step_append_row _ (by rfl) (.tmp 39) (.tmp 52) 24 (by rfl) .i64 (w.heap.size + 1) 3 i0 (.int .i64 0) 8 Tryz.underlying24 hi hz0 hz1 hz2 (by rfl) _ (c.n3 + c.n4 + c.n5 + c.n2 + k * 2) ((urB C k).map (Value.int .i64)) (by simp [Act.eval]) (own_like (HM.out.own.alloc (.cells #[.int .i64 x1, .int .i64 x2] 3)) rfl) (some ⟨wr.heap.size, 0, none⟩) 2 2 [x1, x2] (by simp [Act.eval]) (by rfl) (row_like (row_two (w := wr) rfl x1 x2 3) rfl) (fun e => by cases e) (by unfold maxLen; omega) (by omega) (by simp; omega) ?_; intro v6 w6 hown6 hg6))
            all_goals
              go_wp2
              go_roundw
              case rel =>
                refine ⟨k + 1, by go_num, by omega, ?_, ?_, ?_⟩
                · rw [HST.out, List.map_append, show c.n3 + c.n4 + c.n5 + c.n2 + (k + 1) * 2 = c.n3 + c.n4 + c.n5 + c.n2 + k * 2 + 2 by omega]; exact hown6
                · exact below_like (belowThen HM.out.below (below_alloc wr (.cells #[.int .i64 x1, .int .i64 x2] 3))) hg6 (by have := HM.out.below.size; simp; omega) (fun j hj => by have := HV1.out j hj; omega) ⟨rfl, rfl, rfl, rfl⟩
                · exact (hg6.block w.heap.size (by simp; omega) (fun e => by have := HV1.out _ e.symm; omega)).trans (HM.out.box.alloc (.cells #[.int .i64 x1, .int .i64 x2] 3))
              case measure => simp [intOf]; omega
          · obtain rfl : k = c.n6 := by omega
            have hfin : Hid (Post (.returned u3) wr) := by
              show Post (.returned u3) wr
              rw [← HP.out]
              have hm := HM.out
              rw [← HH.out.l6, urB_end] at hm
              refine ⟨u3, rfl, ?_, hm.below⟩
              have e : C.usesL.length = c.n3 + c.n4 + c.n5 + c.n2 + C.ands.length * 2 := by
                have := hm.own.1
                simpa using this
              rw [e]
              exact own_le hm.own (Nat.le_succ _)
            go_wp2
            exact hfin.out
end Go.Proofs.YtikjbbebfjleaaaGreatDoor
