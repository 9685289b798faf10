/-
  THE WALK of a renaming's latches.
-/
import Derived.Test.YtppaifckiaaffaaNormLits
import Derived.Deep.RegionHeld3
namespace Go.Proofs.Ytppaifckiaaffaa
open Go.RowKit

theorem Ren.like {w w' : World} {g n : Nat} {rs : List Int} (h : Ren w g n rs) (e : w'.heap = w.heap) : Ren w' g n rs := ⟨fun i hi => (cell_heap e _).trans (h.row i hi), h.len, h.le, h.small⟩
def TriIn (n : Nat) (t : Tri) : Prop := LitIn n t.1 ∧ LitIn n t.2.1 ∧ LitIn n t.2.2

set_option maxRecDepth 100000 in
set_option maxHeartbeats 2000000 in
theorem latches_any (g n : Nat) (rs : List Int) (la : Option Addr) (m lc : Nat) (xs : List Tri) (w : World) (h : Ren w g n rs) (hr : RowC w la (cellsT xs)) (hx : xs.length = m) (hm : m ≤ 10000) (hin : ∀ t ∈ xs, TriIn n t) :
    Calls Try.prog 47 #[.slice (some ⟨g, 0, none⟩) n n, .slice la m lc] w fun e w' => ∃ v, e = .returned v ∧ w'.ownsRow w.heap.size 43 3 v m (cellsT (xs.map (renT rs))) ∧ Below w.heap.size w w' := by
  obtain ⟨i0, hi, hz0, hz1, hz2⟩ := info_parts infoT2
  have HH := hide h
  have HR := hide hr
  have HX := hide hx
  have HI := hide hin
  generalize hP : (fun (e : Ending) (w' : World) => ∃ v, e = .returned v ∧ w'.ownsRow w.heap.size 43 3 v m (cellsT (xs.map (renT rs))) ∧ Below w.heap.size w w') = Post
  have HP := hide hP
  clear h hr hx hin hP
  go_enter Try.func47, Try.ntmps47
  go_wp2_with (first | (at_make; refine wpList_make_full _ rfl _ _ 23 rfl w.heap.size 43 i0 (.agg #[.int .i64 0, .int .i64 0, .int .i64 0]) 3 Try.underlying23 hi hz0 hz1 .i64 .i64 _ _ m rfl rfl (by first | rfl | omega) (by first | rfl | omega) (by rw [hz2]; omega) (by unfold maxLen; omega) (by simp) ?_; intro w2 hown hg2; rw [madeT] at hown; have HM0 : Hid (TMk w 43 w.heap.size m (cellsT (List.replicate m (0, 0, 0))) w2) := ⟨hown, (Below.refl _ _).grown hg2 (Nat.le_refl _) (fun k hk => by cases hk)⟩; clear hown hg2))
  go_loopw [6, 7, 13] (fun _ _ i wr => ∃ (k : Nat), i = .int .i64 k ∧ k ≤ m ∧ Hid (TMk w 43 w.heap.size m (cellsT (doneK (renT rs) (0, 0, 0) xs k)) wr)) (fun _ _ i _ => m - (intOf i).toNat)
  case atStart => exact ⟨0, rfl, Nat.zero_le _, by rw [doneK_zero, HX.out]; exact HM0.out⟩
  case round =>
    clear HM0
    obtain ⟨k, rfl, hk, HF⟩ := hrel
    by_cases hlt : k < m
    · obtain ⟨b, off, rfl, hbw, hcell⟩ := HR.out.addr (by rw [cellsT_len, HX.out]; omega)
      have hat := cellsT_at xs k (by rw [HX.out]; exact hlt)
      have hc0 := (HF.out.below.cell (p := ⟨b, off + k * 3, none⟩) hbw).trans (hcell _ _ hat.1)
      have hc1 := (HF.out.below.cell (p := ⟨b, off + k * 3 + 1, none⟩) hbw).trans (hcell _ _ hat.2.1)
      have hc2 := (HF.out.below.cell (p := ⟨b, off + k * 3 + 2, none⟩) hbw).trans (hcell _ _ hat.2.2)
      have hli := hide (HI.out _ (atP_mem xs k (by rw [HX.out]; exact hlt)))
      have HS := hide (doneK_succ (renT rs) (0, 0, 0) xs k (by rw [HX.out]; exact hlt))
      generalize atP xs k = x at hc0 hc1 hc2 hli HS
      obtain ⟨x0, x1, x2⟩ := x
      dsimp only at hc0 hc1 hc2
      obtain ⟨u0, u1, u2, hu0, hu1, hu2⟩ := (HF.out.alloc (.cells #[.int .i64 x0, .int .i64 x1, .int .i64 x2] 43)).at3 k hlt
      have hf0 := (HF.out.alloc (.cells #[.int .i64 x0, .int .i64 x1, .int .i64 x2] 43)).own.frozenAt (k * 3)
      have hf1 := (HF.out.alloc (.cells #[.int .i64 x0, .int .i64 x1, .int .i64 x2] 43)).own.frozenAt (k * 3 + 1)
      have hf2 := (HF.out.alloc (.cells #[.int .i64 x0, .int .i64 x1, .int .i64 x2] 43)).own.frozenAt (k * 3 + 2)
      have hgl := (HF.out.own.lt w.heap.size rfl).2
      have hne : w.heap.size ≠ wr.heap.size := by omega
      have HG : Hid (∀ l q, LitIn n l → Calls Try.prog 88 #[.slice (some ⟨g, 0, none⟩) n n, .int .i64 l] ((wr.alloc (.cells #[.int .i64 x0, .int .i64 x1, .int .i64 x2] 43)).drewN q) fun e w' => e = .returned (.int .i64 (renL rs l)) ∧ w' = (wr.alloc (.cells #[.int .i64 x0, .int .i64 x1, .int .i64 x2] 43)).drewN q) := fun l q hl => literalN_any g n rs l _ (((HH.out.below HF.out.below).below (below_alloc wr _)).like rfl) hl
      have hfin : Hid (∀ q, TMk w 43 w.heap.size m (cellsT ((doneK (renT rs) (0, 0, 0) xs k).set k (renT rs (x0, x1, x2)))) (((((wr.alloc (.cells #[.int .i64 x0, .int .i64 x1, .int .i64 x2] 43)).drewN q).setCell ⟨w.heap.size, k * 3, none⟩ (.int .i64 (renL rs x0))).setCell ⟨w.heap.size, k * 3 + 1, none⟩ (.int .i64 (renL rs x1))).setCell ⟨w.heap.size, k * 3 + 2, none⟩ (.int .i64 (renL rs x2)))) := fun q => ((HF.out.alloc _).like q).setT k (renT rs (x0, x1, x2))
      have hr0 : (wr.alloc (.cells #[.int .i64 x0, .int .i64 x1, .int .i64 x2] 43)).cell? ⟨wr.heap.size, 0, none⟩ = some (.int .i64 x0) := cell_of_row _ _ 0 _ _ (0, 0) (heap_alloc_new wr _)
      have hr1 : (wr.alloc (.cells #[.int .i64 x0, .int .i64 x1, .int .i64 x2] 43)).cell? ⟨wr.heap.size, 1, none⟩ = some (.int .i64 x1) := cell_of_row _ _ 1 _ _ (0, 0) (heap_alloc_new wr _)
      have hr2 : (wr.alloc (.cells #[.int .i64 x0, .int .i64 x1, .int .i64 x2] 43)).cell? ⟨wr.heap.size, 2, none⟩ = some (.int .i64 x2) := cell_of_row _ _ 2 _ _ (0, 0) (heap_alloc_new wr _)
      have hk0 : (0 : Int) ≤ (k : Int) := by omega
      have hk1 : (k : Int) < (m : Int) := by omega
      clear hcell hat
      go_wp2
      clear hc0 hc1 hc2
      generalize wr.alloc (.cells #[.int .i64 x0, .int .i64 x1, .int .i64 x2] 43) = W at hu0 hu1 hu2 hf0 hf1 hf2 HG hfin hr0 hr1 hr2 ⊢
      go_region_held3 (fun w' => w'.cell? ⟨wr.heap.size, 0, none⟩ = some (.int .i64 x0) ∧ w'.cell? ⟨wr.heap.size, 1, none⟩ = some (.int .i64 x1) ∧ w'.cell? ⟨wr.heap.size, 2, none⟩ = some (.int .i64 x2)) (go_keep) (first | (go_at_call_of 88 (Value.int .i64 x0); refine (HG.out x0 _ hli.out.1).mono ?_; rintro e w3 ⟨rfl, hw3⟩; obtain rfl := hw3.symm) | (go_at_call_of 88 (Value.int .i64 x1); refine (HG.out x1 _ hli.out.2.1).mono ?_; rintro e w3 ⟨rfl, hw3⟩; obtain rfl := hw3.symm) | (go_at_call_of 88 (Value.int .i64 x2); refine (HG.out x2 _ hli.out.2.2).mono ?_; rintro e w3 ⟨rfl, hw3⟩; obtain rfl := hw3.symm))
      all_goals go_wp2
      all_goals go_roundw
      case rel => exact ⟨k + 1, by go_num, by omega, by rw [HS.out]; exact hfin.out _⟩
      case measure => simp [intOf]; omega
    · obtain rfl : k = m := by omega
      have hfin : Hid (Post (.returned (.slice (some ⟨w.heap.size, 0, none⟩) k k)) wr) := by
        show Post _ wr
        rw [← HP.out]
        refine ⟨_, rfl, ?_, HF.out.below⟩
        have := HF.out.own
        rw [doneK_all _ _ _ HX.out] at this
        exact this
      go_wp2
      exact hfin.out


theorem if_max (a b : Int) : (if a < b then b else a) = max a b := by rw [Int.max_def]; split <;> split <;> omega
theorem if_min (a b : Int) : (if b < a then b else a) = min a b := by rw [Int.min_def]; split <;> split <;> omega

set_option maxRecDepth 100000 in
set_option maxHeartbeats 2000000 in
theorem ands_any (g n : Nat) (rs : List Int) (la oa : Option Addr) (m lc on oc : Nat) (xs : List Tri) (T : List Nat) (w : World) (h : Ren w g n rs) (hr : RowC w la (cellsT xs)) (hx : xs.length = m) (ho : RowK .i64 w oa (T.map (fun k : Nat => (k : Int)))) (hol : T.length = on) (hT : ∀ i ∈ T, i < xs.length) (_hm : m ≤ 10000) (hon : on ≤ 10000) (hin : ∀ t ∈ xs, TriIn n t) :
    Calls Try.prog 48 #[.slice (some ⟨g, 0, none⟩) n n, .slice la m lc, .slice oa on oc] w fun e w' => ∃ v, e = .returned v ∧ w'.ownsRow w.heap.size 46 3 v on (cellsT (T.map (fun i => renA rs (atP xs i)))) ∧ Below w.heap.size w w' := by
  obtain ⟨i0, hi, hz0, hz1, hz2⟩ := info_parts infoT6
  have HH := hide h
  have HR := hide hr
  have HX := hide hx
  have HO := hide ho
  have HOL := hide hol
  have HT := hide hT
  have HI := hide hin
  generalize hP : (fun (e : Ending) (w' : World) => ∃ v, e = .returned v ∧ w'.ownsRow w.heap.size 46 3 v on (cellsT (T.map (fun i => renA rs (atP xs i)))) ∧ Below w.heap.size w w') = Post
  have HP := hide hP
  clear h hr hx hin hP ho hol hT
  go_enter Try.func48, Try.ntmps48
  go_wp2_with (first | (at_make; refine wpList_make_full _ rfl _ _ 24 rfl w.heap.size 46 i0 (.agg #[.int .i64 0, .int .i64 0, .int .i64 0]) 3 Try.underlying24 hi hz0 hz1 .i64 .i64 _ _ on rfl rfl (by first | rfl | omega) (by first | rfl | omega) (by rw [hz2]; omega) (by unfold maxLen; omega) (by simp) ?_; intro w2 hown hg2; rw [madeT] at hown; have HM0 : Hid (TMk w 46 w.heap.size on (cellsT (List.replicate on (0, 0, 0))) w2) := ⟨hown, (Below.refl _ _).grown hg2 (Nat.le_refl _) (fun k hk => by cases hk)⟩; clear hown hg2))
  go_loopw [8, 9, 10, 11, 12, 18] (fun _ _ _ _ _ i wr => ∃ (k : Nat), i = .int .i64 k ∧ k ≤ on ∧ Hid (TMk w 46 w.heap.size on (cellsT (doneK (fun i => renA rs (atP xs i)) (0, 0, 0) T k)) wr)) (fun _ _ _ _ _ i _ => on - (intOf i).toNat)
  case atStart => exact ⟨0, rfl, Nat.zero_le _, by rw [doneK_zero, HOL.out]; exact HM0.out⟩
  case round =>
    clear HM0
    obtain ⟨k, rfl, hk, HF⟩ := hrel
    by_cases hlt : k < on
    · obtain ⟨bo, oo, rfl, hbo, hocell⟩ := HO.out.addr (by rw [List.length_map, HOL.out]; omega)
      have ho0 := (HF.out.below.cell (p := ⟨bo, oo + k, none⟩) hbo).trans (hocell k (by rw [List.length_map, HOL.out]; exact hlt))
      rw [atP_getD, atP_map _ _ _ (by rw [HOL.out]; exact hlt)] at ho0
      have hpl := HT.out _ (atP_mem T k (by rw [HOL.out]; exact hlt))
      have HS := hide (doneK_succ (fun i => renA rs (atP xs i)) (0, 0, 0) T k (by rw [HOL.out]; exact hlt))
      generalize atP T k = p at ho0 hpl HS
      obtain ⟨b, off, rfl, hbw, hcell⟩ := HR.out.addr (by rw [cellsT_len]; omega)
      have hat := cellsT_at xs p hpl
      have hc0 := (HF.out.below.cell (p := ⟨b, off + p * 3, none⟩) hbw).trans (hcell _ _ hat.1)
      have hc1 := (HF.out.below.cell (p := ⟨b, off + p * 3 + 1, none⟩) hbw).trans (hcell _ _ hat.2.1)
      have hc2 := (HF.out.below.cell (p := ⟨b, off + p * 3 + 2, none⟩) hbw).trans (hcell _ _ hat.2.2)
      have hli := hide (HI.out _ (atP_mem xs p hpl))
      rw [HX.out] at hpl
      generalize atP xs p = x at hc0 hc1 hc2 hli HS
      obtain ⟨x0, x1, x2⟩ := x
      dsimp only at hc0 hc1 hc2
      obtain ⟨u0, u1, u2, hu0, hu1, hu2⟩ := (HF.out.alloc (.cells #[.int .i64 x0, .int .i64 x1, .int .i64 x2] 46)).at3 k hlt
      have hf0 := (HF.out.alloc (.cells #[.int .i64 x0, .int .i64 x1, .int .i64 x2] 46)).own.frozenAt (k * 3)
      have hf1 := (HF.out.alloc (.cells #[.int .i64 x0, .int .i64 x1, .int .i64 x2] 46)).own.frozenAt (k * 3 + 1)
      have hf2 := (HF.out.alloc (.cells #[.int .i64 x0, .int .i64 x1, .int .i64 x2] 46)).own.frozenAt (k * 3 + 2)
      have hgl := (HF.out.own.lt w.heap.size rfl).2
      have hne : w.heap.size ≠ wr.heap.size := by omega
      have HG : Hid (∀ l q, LitIn n l → Calls Try.prog 88 #[.slice (some ⟨g, 0, none⟩) n n, .int .i64 l] ((wr.alloc (.cells #[.int .i64 x0, .int .i64 x1, .int .i64 x2] 46)).drewN q) fun e w' => e = .returned (.int .i64 (renL rs l)) ∧ w' = (wr.alloc (.cells #[.int .i64 x0, .int .i64 x1, .int .i64 x2] 46)).drewN q) := fun l q hl => literalN_any g n rs l _ (((HH.out.below HF.out.below).below (below_alloc wr _)).like rfl) hl
      have hfin : Hid (∀ q, TMk w 46 w.heap.size on (cellsT ((doneK (fun i => renA rs (atP xs i)) (0, 0, 0) T k).set k (renA rs (x0, x1, x2)))) (((((wr.alloc (.cells #[.int .i64 x0, .int .i64 x1, .int .i64 x2] 46)).drewN q).setCell ⟨w.heap.size, k * 3, none⟩ (.int .i64 (renL rs x0))).setCell ⟨w.heap.size, k * 3 + 1, none⟩ (.int .i64 (max (renL rs x1) (renL rs x2)))).setCell ⟨w.heap.size, k * 3 + 2, none⟩ (.int .i64 (min (renL rs x1) (renL rs x2))))) := fun q => ((HF.out.alloc _).like q).setT k (renA rs (x0, x1, x2))
      have hr0 : (wr.alloc (.cells #[.int .i64 x0, .int .i64 x1, .int .i64 x2] 46)).cell? ⟨wr.heap.size, 0, none⟩ = some (.int .i64 x0) := cell_of_row _ _ 0 _ _ (0, 0) (heap_alloc_new wr _)
      have hr1 : (wr.alloc (.cells #[.int .i64 x0, .int .i64 x1, .int .i64 x2] 46)).cell? ⟨wr.heap.size, 1, none⟩ = some (.int .i64 x1) := cell_of_row _ _ 1 _ _ (0, 0) (heap_alloc_new wr _)
      have hr2 : (wr.alloc (.cells #[.int .i64 x0, .int .i64 x1, .int .i64 x2] 46)).cell? ⟨wr.heap.size, 2, none⟩ = some (.int .i64 x2) := cell_of_row _ _ 2 _ _ (0, 0) (heap_alloc_new wr _)
      have hk0 : (0 : Int) ≤ (k : Int) := by omega
      have hk1 : (k : Int) < (on : Int) := by omega
      clear hcell hat hocell
      go_wp2
      clear hc0 hc1 hc2
      generalize wr.alloc (.cells #[.int .i64 x0, .int .i64 x1, .int .i64 x2] 46) = W at hu0 hu1 hu2 hf0 hf1 hf2 HG hfin hr0 hr1 hr2 ⊢
      go_region_held3 (fun w' => w'.cell? ⟨wr.heap.size, 0, none⟩ = some (.int .i64 x0) ∧ w'.cell? ⟨wr.heap.size, 1, none⟩ = some (.int .i64 x1) ∧ w'.cell? ⟨wr.heap.size, 2, none⟩ = some (.int .i64 x2)) (go_keep) (first | (go_at_call_of 88 (Value.int .i64 x1); refine (HG.out x1 _ hli.out.2.1).mono ?_; rintro e w3 ⟨rfl, hw3⟩; obtain rfl := hw3.symm) | (go_at_call_of 88 (Value.int .i64 x2); refine (HG.out x2 _ hli.out.2.2).mono ?_; rintro e w3 ⟨rfl, hw3⟩; obtain rfl := hw3.symm))
      go_wp2_with (go_at_call 88; refine (HG.out x0 _ hli.out.1).mono ?_; rintro e w3 ⟨rfl, hw3⟩; obtain rfl := hw3.symm)
      go_roundw
      case rel =>
        refine ⟨k + 1, by go_num, by omega, ?_⟩
        rw [HS.out, if_max, if_min]
        exact hfin.out _
      case measure => simp [intOf]; omega
    · obtain rfl : k = on := by omega
      have hfin : Hid (Post (.returned (.slice (some ⟨w.heap.size, 0, none⟩) k k)) wr) := by
        show Post _ wr
        rw [← HP.out]
        refine ⟨_, rfl, ?_, HF.out.below⟩
        have := HF.out.own
        rw [doneK_all _ _ _ HOL.out] at this
        exact this
      go_wp2
      exact hfin.out
end Go.Proofs.Ytppaifckiaaffaa
