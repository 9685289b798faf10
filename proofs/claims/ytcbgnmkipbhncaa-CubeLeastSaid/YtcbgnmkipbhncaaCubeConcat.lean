/-
  THE WALKS of slices.Grow and slices.Concat, as Resolve calls them.
-/
import Derived.Test.YtcbgnmkipbhncaaCubeNot
import Derived.Lib.AppendZeros
namespace Go.Proofs.Ytcbgnmkipbhncaa
open Go.RowKit

set_option maxRecDepth 100000 in
set_option maxHeartbeats 400000 in
theorem grow_any (n : Nat) (N : Int) (hN : N = n) (w : World) (hn : n ≤ 1048576) :
    Calls Try.prog 53 #[.slice none 0 0, .int .i64 N] w fun e w' => ∃ v, e = .returned v ∧ w'.ownsRow w.heap.size 3 1 v 0 [] ∧ Below w.heap.size w w' := by
  subst hN
  obtain ⟨i0, hi, hz0, hz1, hz2⟩ := info_parts infoInt
  by_cases h0 : n = 0
  · subst h0
    go_enter Try.func53, Try.ntmps53
    go_wp2
    go_ret
    exact ⟨_, rfl, World.ownsRow_nil _ _ _ _, Below.refl _ _⟩
  · have hrun := Lib.run_append_nil_zeros (P := Try.prog) w 22 3 22 3 i0 (.int .i64 0) .i64 .i64 Try.underlying22 Try.underlying3 hi hz0 n (by omega) (by rw [hz1]; decide) (by omega) (by rw [hz2]; omega)
    have hcap := grownCap_ge w n 0 3
    have hcap2 := grownCap_le_maxLen w n 0 3 (by unfold maxLen; omega)
    have hcapm : grownCap w n 0 3 ≤ 9223372036854775807 := hcap2
    generalize grownCap w n 0 3 = cp at hrun hcap hcap2 hcapm
    obtain ⟨cells, hcells⟩ : ∃ cs, cs = Builtin.zeroCells (Value.int .i64 0).cells n ++ Builtin.zeroCells (Value.int .i64 0).cells (cp - n) := ⟨_, rfl⟩
    rw [← hcells] at hrun
    have hsz : cells.size = cp := by
      rw [hcells]
      have hone : ∀ m, (Builtin.zeroCells (Value.int .i64 0).cells m).size = m := fun m => by simp [Builtin.zeroCells, Value.cells]
      rw [Array.size_append, hone, hone]; omega
    have HSZ := hide hsz
    clear hcells hsz
    go_enter Try.func53, Try.ntmps53
    go_wp2_with (at_builtin; refine Lib.wpList_append_run _ rfl _ _ _ _ rfl (.slice none 0 0) (.int .i64 n) rfl rfl _ _ hrun ?_)
    go_ret
    refine ⟨_, rfl, ⟨by simp, .inr ⟨w.heap.size, cp, cells, rfl, Nat.le_refl _, ?_, Nat.zero_le _, hcap2, by rw [HSZ.out, Nat.mul_one], by simp⟩⟩, ?_⟩
    · exact heap_alloc_new w.drew _
    · exact ⟨rfl, rfl, rfl, by simp, fun k hk => (World.grownBy_alloc w.drew (.cells cells 3) none).block k hk (by simp)⟩

set_option maxRecDepth 100000 in
set_option maxHeartbeats 1000000 in
theorem concat_any (p n c m d : Nat) (a b : Option Addr) (xs ys : List Int) (w : World) (h0 : w.cell? ⟨p, 0, none⟩ = some (.slice a n c)) (h1 : w.cell? ⟨p, 1, none⟩ = some (.slice b m d)) (hr : RowK .i64 w a xs) (hx : xs.length = n) (hnc : a = none → c = 0) (hs : RowK .i64 w b ys) (hy : ys.length = m) (hmd : b = none → d = 0) (hn : n ≤ 500000) (hm : m ≤ 500000) :
    Calls Try.prog 40 #[.slice (some ⟨p, 0, none⟩) 2 2] w fun e w' => ∃ v, e = .returned v ∧ NewInts w (xs ++ ys) v w' := by
  obtain ⟨i0, hi, hz0, hz1, hz2⟩ := info_parts infoInt
  have hpl : p < w.heap.size := World.block_lt_of_cell? w _ h0
  have HR := hide (And.intro hr (And.intro hx hnc))
  have HS := hide (And.intro hs (And.intro hy hmd))
  have HG := hide (grow_any (n + m) ((n : Int) + m) (by omega) w (by omega))
  have HC := hide (And.intro h0 h1)
  generalize hP : (fun (e : Ending) (w' : World) => ∃ v, e = .returned v ∧ NewInts w (xs ++ ys) v w') = Post
  have HP := hide hP
  clear hr hx hnc hs hy hmd hP
  go_enter Try.func40, Try.ntmps40
  go_wp2
  go_loop [3, 11] (fun s i => (s = .int .i64 0 ∧ i = .int .i64 0) ∨ (s = .int .i64 n ∧ i = .int .i64 1) ∨ (s = .int .i64 ((n : Int) + m) ∧ i = .int .i64 2)) (fun _ i => 2 - (intOf i).toNat)
  case atStart => exact .inl ⟨rfl, rfl⟩
  case round =>
    rcases hrel with ⟨rfl, rfl⟩ | ⟨rfl, rfl⟩ | ⟨rfl, rfl⟩
    · go_wp2
      go_round
      case rel => exact .inr (.inl ⟨rfl, rfl⟩)
      case measure => simp [intOf]
    · go_wp2
      go_round
      case rel => exact .inr (.inr ⟨rfl, rfl⟩)
      case measure => simp [intOf]
    · clear h0 h1
      go_wp2_with fail
      refine HG.out.mono ?_
      rintro e w1 ⟨v1, rfl, hown1, hb1⟩
      have H1 := hide (And.intro hown1 hb1)
      clear hown1 hb1 HG
      go_wp2
      go_loopw [6, 27] (fun v i wr => ∃ (zs : List Int) (k : Nat), k ≤ 1000000 ∧ Hid (wr.ownsRow w.heap.size 3 1 v k (zs.map (Value.int .i64)) ∧ Below w.heap.size w wr ∧ zs.length = k) ∧ ((i = .int .i64 0 ∧ k = 0 ∧ Hid (zs = [])) ∨ (i = .int .i64 1 ∧ k = n ∧ Hid (zs = xs)) ∨ (i = .int .i64 2 ∧ k = n + m ∧ Hid (zs = xs ++ ys)))) (fun _ i _ => 2 - (intOf i).toNat)
      case atStart => exact ⟨[], 0, by omega, ⟨H1.out.1, H1.out.2, rfl⟩, .inl ⟨rfl, rfl, rfl⟩⟩
      case round =>
        obtain ⟨zs, k, hk, HM, hcase⟩ := hrel
        have hbz := HM.out.2.1.size
        have hown := HM.out.1
        have hcells : wr.cell? ⟨p, 0, none⟩ = some (.slice a n c) ∧ wr.cell? ⟨p, 1, none⟩ = some (.slice b m d) := ⟨(HM.out.2.1.cell (p := ⟨p, 0, none⟩) hpl).trans HC.out.1, (HM.out.2.1.cell (p := ⟨p, 1, none⟩) hpl).trans HC.out.2⟩
        obtain ⟨hc0, hc1⟩ := hcells
        rcases hcase with ⟨rfl, rfl, HZ⟩ | ⟨rfl, rfl, HZ⟩ | ⟨rfl, rfl, HZ⟩
        · go_wp2_with (at_builtin; refine wpList_append_row _ rfl (.tmp 31) (.tmp 32) 22 rfl .i64 w.heap.size 3 i0 (.int .i64 0) 8 Try.underlying22 hi hz0 hz1 hz2 rfl _ 0 (zs.map (Value.int .i64)) rfl hown a n c xs rfl HR.out.2.1 (HR.out.1.below HM.out.2.1) HR.out.2.2 (by unfold maxLen; omega) (by omega) (by omega) ?_; intro v6 w6 hown6 hg6)
          go_roundw
          case rel =>
            have e := HZ.out
            subst e
            exact ⟨xs, n, by omega, ⟨by simpa using hown6, below_like HM.out.2.1 hg6 hbz (fun k hk => (hown.lt k hk).1) ⟨rfl, rfl, rfl, rfl⟩, HR.out.2.1⟩, .inr (.inl ⟨rfl, rfl, rfl⟩)⟩
          case measure => simp [intOf]
        · go_wp2_with (at_builtin; refine wpList_append_row _ rfl (.tmp 31) (.tmp 32) 22 rfl .i64 w.heap.size 3 i0 (.int .i64 0) 8 Try.underlying22 hi hz0 hz1 hz2 rfl _ k (zs.map (Value.int .i64)) rfl hown b m d ys rfl HS.out.2.1 (HS.out.1.below HM.out.2.1) HS.out.2.2 (by unfold maxLen; omega) (by omega) (by omega) ?_; intro v6 w6 hown6 hg6)
          go_roundw
          case rel =>
            have e := HZ.out
            subst e
            exact ⟨zs ++ ys, k + m, by omega, ⟨by rw [List.map_append]; exact hown6, below_like HM.out.2.1 hg6 hbz (fun k hk => (hown.lt k hk).1) ⟨rfl, rfl, rfl, rfl⟩, by rw [List.length_append, HM.out.2.2, HS.out.2.1]⟩, .inr (.inr ⟨rfl, rfl, rfl⟩)⟩
          case measure => simp [intOf]
        · have hfin : Hid (Post (.returned u6) wr) := by
            show Post (.returned u6) wr
            rw [← HP.out]
            have h := HM.out
            rw [HZ.out] at h
            exact ⟨u6, rfl, by rw [h.2.2]; exact h.1, h.2.1⟩
          go_wp2
          exact hfin.out
end Go.Proofs.Ytcbgnmkipbhncaa
