/-
  THE WALKS of layer 3's sets: setOf, has, hasAll, Within; a set is a map of the call's own.
-/
import Derived.Test.YtcbgnmkipbhncaaCubeAlive
import Derived.Maps.OwnSet
namespace Go.Proofs.Ytcbgnmkipbhncaa
open Go.RowKit Go.Maps

def WfL (xs : List Int) : Prop := ∀ x ∈ xs, (Lit.int .i64 x).wf = true
theorem keyI : Keyed Try.prog 3 := int_keyed Try.underlying3
theorem keyI_of {n : Int} (h : (Lit.int .i64 n).wf = true) : keyOf Try.prog 3 (.int .i64 n) = some (.int .i64 n) := keyOf_int_mk Try.underlying3 h
theorem isKeyI (n : Int) : WideAt.IsKeyLit (.int .i64 n) := by simp [WideAt.IsKeyLit]
theorem zeroUnit (w : World) : (zeroValue 62).run Try.prog w = .ok (.agg #[]) w := by kernel_rfl

/-- Block b is the set of the numbers xs. -/
def SetIs (w : World) (b m : Nat) (xs : List Int) : Prop := ∃ D : DataW Unit, w.ownsMap Try.prog 3 unitElem b m D ∧ ∀ n : Int, has D (.int .i64 n) = decide (n ∈ xs)

theorem SetIs.kept {w w' : World} {b m : Nat} {xs : List Int} (h : SetIs w b m xs) {row : Option Nat} (hg : w.grownBy w' row) (hne : some b ≠ row) : SetIs w' b m xs := by
  obtain ⟨D, h1, h2⟩ := h
  exact ⟨D, h1.kept hg hne, h2⟩
theorem SetIs.below {w w' : World} {b m : Nat} {xs : List Int} (h : SetIs w b m xs) (hb : Below w.heap.size w w') : SetIs w' b m xs := by
  obtain ⟨D, h1, h2⟩ := h
  refine ⟨D, ?_, h2⟩
  exact h1.kept (row := none) ⟨hb.os, hb.tape, hb.output, hb.size, fun k hk _ => hb.block k hk⟩ (by simp)

set_option maxHeartbeats 400000 in
theorem setHas_any (b m : Nat) (xs : List Int) (n : Int) (w : World) (hs : SetIs w b m xs) (hn : (Lit.int .i64 n).wf = true) :
    Calls Try.prog 38 #[.map (some b), .int .i64 n] w fun e w' => e = .returned (.bool (decide (n ∈ xs))) ∧ Below w.heap.size w w' := by
  obtain ⟨D, hown, hh⟩ := hs
  rw [← hh n]
  clear hh
  go_enter Try.func38, Try.ntmps38
  go_wp2_with (at_lookup; refine wpList_lookup_own_unit _ rfl _ _ 42 rfl 3 62 keyI Try.underlying42 (zeroUnit _) b m D rfl hown _ _ rfl (keyI_of hn) ?_)
  go_ret
  exact ⟨rfl, (Below.refl _ _).grown (World.grownBy_alloc w _ none) (Nat.le_refl _) (fun k hk => by cases hk)⟩

theorem makeSet (w : World) (n : Nat) : (Instr.makeMap 42 (some (.int .i64 n))).run Try.prog w = .ok (.map (some w.heap.size)) (w.alloc (.map #[] 0)) := by
  simp [Instr.makeMap, asInt, asIntOf]

set_option maxRecDepth 100000 in
set_option maxHeartbeats 400000 in
theorem setOf_any (a : Option Addr) (n c : Nat) (xs : List Int) (w : World) (hr : RowK .i64 w a xs) (hx : xs.length = n) (hn : n ≤ 1048576) (hw : WfL xs) :
    Calls Try.prog 35 #[.slice a n c] w fun e w' => e = .returned (.map (some w.heap.size)) ∧ SetIs w' w.heap.size n xs ∧ Below w.heap.size w w' := by
  have HR := hide hr
  have HX := hide hx
  have HW := hide hw
  have hmm := makeSet w n
  clear hr hx hw
  go_enter Try.func35, Try.ntmps35
  go_wp2
  go_loopw [11] (fun i wr => ∃ k : Nat, i = .int .i64 k ∧ k ≤ n ∧ ∃ D : DataW Unit, Hid (wr.ownsMap Try.prog 3 unitElem w.heap.size k D ∧ Below w.heap.size w wr ∧ (∀ m : Int, has D (.int .i64 m) = decide (m ∈ xs.take k)))) (fun i _ => n - (intOf i).toNat)
  case atStart =>
    refine ⟨0, rfl, Nat.zero_le _, .map [], World.ownsMap_made w _ _ _, (Below.refl _ _).grown (World.grownBy_alloc w _ none) (Nat.le_refl _) (fun k hk => by cases hk), fun m => ?_⟩
    simp [has_eq]
  case round =>
    obtain ⟨k, rfl, hk, D, HF⟩ := hrel
    by_cases hlt : k < n
    · obtain ⟨b, off, rfl, hbw, hcell⟩ := HR.out.addr (by rw [HX.out]; omega)
      have hc := (HF.out.2.1.cell (p := ⟨b, off + k, none⟩) hbw).trans (hcell k (by rw [HX.out]; omega))
      rw [atP_getD] at hc
      have hy := HW.out _ (atP_mem xs k (by rw [HX.out]; exact hlt))
      obtain ⟨y, HY⟩ : ∃ y, Hid (y = atP xs k) := ⟨_, rfl⟩
      rw [← HY.out] at hc hy
      clear hcell
      have hown := HF.out.1
      go_wp2_with (at_mapUpdate; refine wpList_mapUpdate_own _ rfl _ _ _ 42 rfl 3 62 keyI Try.underlying42 unitElem w.heap.size k D rfl hown (by unfold maxLen; omega) _ _ (.int .i64 y) rfl rfl (keyI_of hy) (.agg []) [] unitElem_mk ?_; intro w3 hown3 hg3)
      go_roundw
      case rel =>
        refine ⟨k + 1, by go_num, by omega, _, hown3, HF.out.2.1.grown hg3 (by have := HF.out.2.1.size; omega) (fun k hk => by cases hk; exact Nat.le_refl _), fun m => ?_⟩
        have e : xs.take (k + 1) = xs.take k ++ [y] := by rw [List.take_succ_eq_append_getElem (by rw [HX.out]; exact hlt), ← atP_eq, ← HY.out]
        rw [e]
        by_cases hm : m = y
        · subst hm
          rw [has_put_same hown.isMap (isKeyI m)]
          simp
        · rw [has_put_other (fun h => hm (by cases h; rfl)), HF.out.2.2 m]
          simp [hm]
      case measure => simp [intOf]; omega
    · obtain rfl : k = n := by omega
      go_wp2
      go_ret
      refine ⟨rfl, ⟨D, HF.out.1, fun m => ?_⟩, HF.out.2.1⟩
      have := HF.out.2.2 m
      rwa [List.take_of_length_le (by rw [HX.out]; exact Nat.le_refl _)] at this

set_option maxRecDepth 100000 in
set_option maxHeartbeats 400000 in
theorem hasAll_any (b m : Nat) (ys : List Int) (a : Option Addr) (n c : Nat) (xs : List Int) (w : World) (hs : SetIs w b m ys) (hr : RowK .i64 w a xs) (hx : xs.length = n) (hn : n ≤ 1048576) (hw : WfL xs) :
    Calls Try.prog 36 #[.map (some b), .slice a n c] w fun e w' => e = .returned (.bool (withinB xs ys)) ∧ Below w.heap.size w w' := by
  have HR := hide hr
  have HX := hide hx
  have HW := hide hw
  have HS := hide hs
  generalize hP : (fun (e : Ending) (w' : World) => e = .returned (.bool (withinB xs ys)) ∧ Below w.heap.size w w') = Post
  have HP := hide hP
  clear hr hx hw hs hP
  go_enter Try.func36, Try.ntmps36
  go_wp2
  go_loopw [9] (fun i wr => ∃ k : Nat, i = .int .i64 k ∧ k ≤ n ∧ Hid (Below w.heap.size w wr ∧ ∀ j, j < k → atP xs j ∈ ys)) (fun i _ => n - (intOf i).toNat)
  case atStart => exact ⟨0, rfl, Nat.zero_le _, Below.refl _ _, fun j hj => absurd hj (Nat.not_lt_zero _)⟩
  case round =>
    obtain ⟨k, rfl, hk, HF⟩ := hrel
    by_cases hlt : k < n
    · obtain ⟨g, off, rfl, hbw, hcell⟩ := HR.out.addr (by rw [HX.out]; omega)
      have hc := (HF.out.1.cell (p := ⟨g, off + k, none⟩) hbw).trans (hcell k (by rw [HX.out]; omega))
      rw [atP_getD] at hc
      have hy := HW.out _ (atP_mem xs k (by rw [HX.out]; exact hlt))
      have hmem := atP_mem xs k (by rw [HX.out]; exact hlt)
      obtain ⟨y, HY⟩ : ∃ y, Hid (y = atP xs k) := ⟨_, rfl⟩
      rw [← HY.out] at hc hy hmem
      have HMem := hide hmem
      clear hcell hmem
      have hcall := setHas_any b m ys y wr (HS.out.below HF.out.1) hy
      clear hy
      by_cases he : y ∈ ys
      · rw [decide_eq_true he] at hcall
        have HE := hide he
        clear he
        go_wp2_with (go_at_call 38; refine hcall.mono ?_; rintro e w1 ⟨rfl, hb1⟩)
        go_roundw
        case rel =>
          refine ⟨k + 1, by go_num, by omega, HF.out.1.trans (hb1.mono HF.out.1.size), fun j hj => ?_⟩
          by_cases hjk : j < k
          · exact HF.out.2 j hjk
          · obtain rfl : j = k := by omega
            rw [← HY.out]; exact HE.out
        case measure => simp [intOf]; omega
      · rw [decide_eq_false he] at hcall
        have hfin : Hid (∀ W, Below wr.heap.size wr W → Post (.returned (.bool false)) W) := fun W hW => by
          rw [← HP.out]
          refine ⟨ret_bool ?_, HF.out.1.trans (hW.mono HF.out.1.size)⟩
          cases hw : withinB xs ys with
          | false => rfl
          | true => exact absurd ((withinB_iff xs ys).1 hw y HMem.out) he
        clear he
        go_wp2_with (go_at_call 38; refine hcall.mono ?_; rintro e w1 ⟨rfl, hb1⟩)
        exact hfin.out _ hb1
    · obtain rfl : k = n := by omega
      have hfin : Hid (Post (.returned (.bool true)) wr) := by
        show Post (.returned (.bool true)) wr
        rw [← HP.out]
        exact ⟨ret_bool ((withinB_iff xs ys).2 (all_of (p := fun y => y ∈ ys) (fun j hj => HF.out.2 j (by rw [← HX.out]; exact hj)))).symm, HF.out.1⟩
      go_wp2
      exact hfin.out

set_option maxRecDepth 100000 in
set_option maxHeartbeats 400000 in
theorem within_any (a b : Option Addr) (n c m d : Nat) (xs ys : List Int) (w : World) (hr : RowK .i64 w a xs) (hx : xs.length = n) (hs : RowK .i64 w b ys) (hy : ys.length = m) (hn : n ≤ 1048576) (hm : m ≤ 1048576) (hw : WfL xs) (hv : WfL ys) :
    Calls Try.prog 17 #[.slice a n c, .slice b m d] w fun e w' => e = .returned (.bool (withinB xs ys)) ∧ Below w.heap.size w w' := by
  have hS := setOf_any b m d ys w hs hy hm hv
  have HH := hide (fun W (hb : Below w.heap.size w W) (h : SetIs W w.heap.size m ys) => hasAll_any w.heap.size m ys a n c xs W h (hr.below hb) hx hn hw)
  generalize withinB xs ys = r at HH ⊢
  clear hr hx hs hy
  go_enter Try.func17, Try.ntmps17
  go_wp2_with (first | (go_at_call 35; refine hS.mono ?_; rintro e w1 ⟨rfl, hs1, hb1⟩) | (go_at_call 36; refine (HH.out _ hb1 hs1).mono ?_; rintro e w2 ⟨rfl, hb2⟩))
  go_ret
  exact ⟨rfl, hb1.trans (hb2.mono hb1.size)⟩
end Go.Proofs.Ytcbgnmkipbhncaa
