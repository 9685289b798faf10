/-
  THE WALKS of layer 3: Not, and the reference's NotCube.
-/
import Derived.Test.YtcbgnmkipbhncaaCubeRight
namespace Go.Proofs.Ytcbgnmkipbhncaa
open Go.RowKit

def notL (xs : List Int) : List Int := xs.map fun n => -n
theorem notL_len (xs : List Int) : (notL xs).length = xs.length := List.length_map _
theorem notL_at (xs : List Int) (i : Nat) (h : i < xs.length) : atP (notL xs) i = - atP xs i := by
  rw [atP_eq _ i (by rw [notL_len]; exact h), atP_eq xs i h]; simp [notL]
/-- Numbers that have an opposite. -/
def Mild (xs : List Int) : Prop := ∀ x ∈ xs, -4611686018427387904 ≤ x ∧ x ≤ 9223372036854775807

set_option maxRecDepth 100000 in
set_option maxHeartbeats 400000 in
theorem refNot_any (a : Option Addr) (n c : Nat) (xs : List Int) (w : World) (hr : RowK .i64 w a xs) (hx : xs.length = n) (hn : n ≤ 1048576) (hm : Mild xs) :
    Calls Try.prog 16 #[.slice a n c] w fun e w' => ∃ v, e = .returned v ∧ NewInts w (notL xs) v w' := by
  obtain ⟨i0, hi, hz0, hz1, hz2⟩ := info_parts infoInt
  have HR := hide hr
  have HX := hide hx
  have HMD := hide hm
  generalize hP : (fun (e : Ending) (w' : World) => ∃ v, e = .returned v ∧ NewInts w (notL xs) v w') = Post
  have HP := hide hP
  clear hr hx hP hm
  go_enter Try.func16, Try.ntmps16
  go_wp2
  go_loopw [3, 4] (fun v i wr => ∃ k : Nat, i = .int .i64 k ∧ k ≤ n ∧ Hid (wr.ownsRow w.heap.size 3 1 v k (((notL xs).take k).map (Value.int .i64)) ∧ Below w.heap.size w wr)) (fun _ i _ => n - (intOf i).toNat)
  case atStart => exact ⟨0, rfl, Nat.zero_le _, World.ownsRow_nil _ _ _ _, Below.refl _ _⟩
  case round =>
    obtain ⟨k, rfl, hk, HF⟩ := hrel
    by_cases hlt : k < n
    · obtain ⟨b, off, rfl, hbw, hcell⟩ := HR.out.addr (by rw [HX.out]; omega)
      have hc := (HF.out.2.cell (p := ⟨b, off + k, none⟩) hbw).trans (hcell k (by rw [HX.out]; omega))
      rw [atP_getD] at hc
      have hy := HMD.out _ (atP_mem xs k (by rw [HX.out]; exact hlt))
      obtain ⟨y, HY⟩ : ∃ y, Hid (y = atP xs k) := ⟨_, rfl⟩
      rw [← HY.out] at hc hy
      obtain ⟨hy1, hy2⟩ := hy
      clear hcell
      have hown := HF.out.1
      have hsz := HF.out.2.size
      go_wp2_with (at_builtin; refine wpList_append_own _ rfl (.tmp 11) (.tmp 17) 22 rfl w.heap.size 3 i0 (.int .i64 0) 1 8 Try.underlying22 hi hz0 hz1 hz2 rfl (by decide) _ _ _ rfl (hown.alloc _) ⟨wr.heap.size, 0, none⟩ 1 1 [.int .i64 (-y)] rfl rfl (cell_one_new _ _ _) (by intro u hu; simp at hu; subst hu; rfl) (by unfold maxLen; omega) (by omega) (by simp; omega) ?_; intro v6 w6 hown6 hg6 _)
      go_roundw
      case rel =>
        have hlt := (HF.out.1).lt
        refine ⟨k + 1, by go_num, by omega, ?_, below_step HF.out.2 hg6 hsz (fun k hk => (hlt k hk).1) ⟨rfl, rfl, rfl, rfl⟩⟩
        have e : (notL xs).take (k + 1) = (notL xs).take k ++ [-y] := by
          rw [List.take_succ_eq_append_getElem (by rw [notL_len, HX.out]; omega), ← atP_eq, notL_at _ _ (by rw [HX.out]; omega), ← HY.out]
        rw [e, List.map_append]
        exact hown6
      case measure => simp [intOf]; omega
    · obtain rfl : k = n := by omega
      have hfin : Hid (Post (.returned u3) wr) := by
        show Post (.returned u3) wr
        rw [← HP.out]
        have h := HF.out
        rw [List.take_of_length_le (by rw [notL_len, HX.out]; exact Nat.le_refl _)] at h
        exact ⟨u3, rfl, by rw [notL_len, HX.out]; exact h.1, h.2⟩
      go_wp2
      exact hfin.out

set_option maxRecDepth 100000 in
set_option maxHeartbeats 400000 in
theorem not_any (a : Option Addr) (n c : Nat) (xs : List Int) (w : World) (hr : RowK .i64 w a xs) (hx : xs.length = n) (hn : n ≤ 1048576) (hm : Mild xs) :
    Calls Try.prog 15 #[.slice a n c] w fun e w' => ∃ v, e = .returned v ∧ NewInts w (notL xs) v w' := by
  obtain ⟨i0, hi, hz0, hz1, hz2⟩ := info_parts infoInt
  have HR := hide hr
  have HX := hide hx
  have HMD := hide hm
  generalize hP : (fun (e : Ending) (w' : World) => ∃ v, e = .returned v ∧ NewInts w (notL xs) v w') = Post
  have HP := hide hP
  clear hr hx hP hm
  go_enter Try.func15, Try.ntmps15
  go_wp2_with (at_make; refine wpList_make_len _ rfl (.tmp 7) (.tmp 7) 22 rfl 3 i0 (.int .i64 0) Try.underlying22 hi hz0 hz1 .i64 .i64 _ _ n n rfl rfl rfl rfl (Nat.le_refl _) (by rw [hz2]; omega) (by unfold maxLen; omega) ?_; intro w1 cur hgc hcs hgr)
  have hb1 : Below w.heap.size w w1 := (Below.refl _ _).grown hgr (Nat.le_refl _) (fun k hk => by cases hk)
  have H1 := hide (And.intro hgc (And.intro hcs hb1))
  clear hgc hcs hb1 hgr
  go_simp
  go_loopw [11] (fun i wr => ∃ k : Nat, i = .int .i64 k ∧ k ≤ n ∧ ∃ cr : Array Value, Hid (wr.heap[w.heap.size]? = some (.cells cr 3 (0, 0)) ∧ cr.size = n ∧ Below w.heap.size w wr ∧ ∀ j, j < k → cr[j]? = some (.int .i64 (atP (notL xs) j)))) (fun i _ => n - (intOf i).toNat)
  case atStart => exact ⟨0, rfl, Nat.zero_le _, cur, H1.out.1, H1.out.2.1, H1.out.2.2, fun j hj => absurd hj (Nat.not_lt_zero _)⟩
  case round =>
    obtain ⟨k, rfl, hk, cr, HF⟩ := hrel
    by_cases hlt : k < n
    · obtain ⟨b, off, rfl, hbw, hcell⟩ := HR.out.addr (by rw [HX.out]; omega)
      have hc := (HF.out.2.2.1.cell (p := ⟨b, off + k, none⟩) hbw).trans (hcell k (by rw [HX.out]; omega))
      rw [atP_getD] at hc
      have hy := HMD.out _ (atP_mem xs k (by rw [HX.out]; exact hlt))
      obtain ⟨y, HY⟩ : ∃ y, Hid (y = atP xs k) := ⟨_, rfl⟩
      rw [← HY.out] at hc hy
      obtain ⟨hy1, hy2⟩ := hy
      clear hcell
      have hck : wr.cell? ⟨w.heap.size, k, none⟩ = some (cr[k]'(by rw [HF.out.2.1]; exact hlt)) := by
        rw [cell_of_row wr _ k cr _ _ HF.out.1, Array.getElem?_eq_getElem]
      have hfk := frozen_of_row wr w.heap.size k cr _ HF.out.1
      generalize cr[k]'(by rw [HF.out.2.1]; exact hlt) = old at hck
      go_wp2
      go_roundw
      case rel =>
        refine ⟨k + 1, by go_num, by omega, cr.setIfInBounds k (.int .i64 (-y)), heap_setCell_same wr _ k cr _ _ HF.out.1, by simpa using HF.out.2.1, HF.out.2.2.1.setCell (Nat.le_refl _) _, fun j hj => ?_⟩
        rw [Array.getElem?_setIfInBounds]
        by_cases hjk : k = j
        · subst hjk
          rw [if_pos rfl, if_pos (by rw [HF.out.2.1]; exact hlt), notL_at _ _ (by rw [HX.out]; exact hlt), ← HY.out]
        · rw [if_neg hjk]; exact HF.out.2.2.2 j (by omega)
      case measure => simp [intOf]; omega
    · obtain rfl : k = n := by omega
      have hfin : Hid (Post (.returned (.slice (some ⟨w.heap.size, 0, none⟩) k k)) wr) := by
        show Post (.returned (.slice (some ⟨w.heap.size, 0, none⟩) k k)) wr
        rw [← HP.out]
        obtain ⟨h1, h2, h3, h4⟩ := HF.out
        refine ⟨_, rfl, ⟨by simp, .inr ⟨w.heap.size, k, cr, by rw [notL_len, HX.out], Nat.le_refl _, h1, by rw [notL_len, HX.out]; exact Nat.le_refl _, by unfold maxLen; omega, by rw [h2, Nat.mul_one], ?_⟩⟩, h3⟩
        have hlen : (notL xs).length = k := by rw [notL_len, HX.out]
        rw [hlen, Nat.mul_one, List.take_of_length_le (by simp [h2])]
        refine List.ext_getElem (by simp [h2, hlen]) fun i p1 p2 => ?_
        have hik : i < k := by simpa [h2] using p1
        have := h4 i hik
        rw [Array.getElem?_eq_getElem (by rw [h2]; exact hik)] at this
        simp only [Option.some.injEq] at this
        simp [this, atP_eq _ i (by rw [hlen]; exact hik)]
      go_wp2
      exact hfin.out
end Go.Proofs.Ytcbgnmkipbhncaa
