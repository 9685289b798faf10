/-
  THE WALKS of strings.Clone and of copied.
-/
import Derived.Test.YtppaifckiaaffaaNormLats
import Derived.Test.YtppaifckiaaffaaAigNames
import Derived.Test.YtppaifckiaaffaaShelfC
namespace Go.Proofs.Ytppaifckiaaffaa
open Go.RowKit

set_option maxHeartbeats 400000 in
theorem clone_anyN (s : ByteArray) (w : World) (hs : s.size ≤ 281474976710656) :
    Calls Try.prog 89 #[.string s] w fun e w' => e = .returned (.string s) ∧ Below w.heap.size w w' := by
  go_enter Try.func89, Try.ntmps89
  go_wp2_with (go_at_call 106; refine (Try.stringslite_Clone _ _ hs).mono ?_; rintro e w' ⟨rfl, hb⟩)
  go_ret
  exact ⟨rfl, hb⟩

set_option maxRecDepth 100000 in
set_option maxHeartbeats 2000000 in
theorem copied_any (la : Option Addr) (m lc : Nat) (xs : List Sym) (w : World) (hr : RowC w la (cellsS xs)) (hx : xs.length = m) (hm : m ≤ 10000) (hin : ∀ t ∈ xs, t.2.2.size ≤ 281474976710656) :
    Calls Try.prog 49 #[.slice la m lc] w fun e w' => ∃ v, e = .returned v ∧ w'.ownsRow w.heap.size 49 3 v m (cellsS xs) ∧ Below w.heap.size w w' := by
  obtain ⟨i0, hi, hz0, hz1, hz2⟩ := info_parts infoT7
  have HR := hide hr
  have HX := hide hx
  have HI := hide hin
  generalize hP : (fun (e : Ending) (w' : World) => ∃ v, e = .returned v ∧ w'.ownsRow w.heap.size 49 3 v m (cellsS xs) ∧ Below w.heap.size w w') = Post
  have HP := hide hP
  clear hr hx hin hP
  go_enter Try.func49, Try.ntmps49
  go_wp2_with (first | (at_make; refine wpList_make_full _ rfl _ _ 25 rfl w.heap.size 49 i0 (.agg #[.int .u8 0, .int .i64 0, .string ⟨#[]⟩]) 3 Try.underlying25 hi hz0 hz1 .i64 .i64 _ _ m rfl rfl (by first | rfl | omega) (by first | rfl | omega) (by rw [hz2]; omega) (by unfold maxLen; omega) (by simp) ?_; intro w2 hown hg2; rw [madeS] at hown; have HM0 : Hid (TMk w 49 w.heap.size m (cellsS (List.replicate m (0, 0, ⟨#[]⟩))) w2) := ⟨hown, (Below.refl _ _).grown hg2 (Nat.le_refl _) (fun k hk => by cases hk)⟩; clear hown hg2))
  go_loopw [4, 5, 11] (fun _ _ i wr => ∃ (k : Nat), i = .int .i64 k ∧ k ≤ m ∧ Hid (TMk w 49 w.heap.size m (cellsS (doneK id (0, 0, ⟨#[]⟩) xs k)) wr)) (fun _ _ i _ => m - (intOf i).toNat)
  case atStart => exact ⟨0, rfl, Nat.zero_le _, by rw [doneK_zero, HX.out]; exact HM0.out⟩
  case round =>
    clear HM0
    obtain ⟨k, rfl, hk, HF⟩ := hrel
    by_cases hlt : k < m
    · obtain ⟨b, off, rfl, hbw, hcell⟩ := HR.out.addr (by rw [cellsS_len, HX.out]; omega)
      have hat := cellsS_at xs k (by rw [HX.out]; exact hlt)
      have hc0 := (HF.out.below.cell (p := ⟨b, off + k * 3, none⟩) hbw).trans (hcell _ _ hat.1)
      have hc1 := (HF.out.below.cell (p := ⟨b, off + k * 3 + 1, none⟩) hbw).trans (hcell _ _ hat.2.1)
      have hc2 := (HF.out.below.cell (p := ⟨b, off + k * 3 + 2, none⟩) hbw).trans (hcell _ _ hat.2.2)
      have hli := hide (HI.out _ (atP_mem xs k (by rw [HX.out]; exact hlt)))
      have HS := hide (doneK_succ id (0, 0, ⟨#[]⟩) xs k (by rw [HX.out]; exact hlt))
      generalize atP xs k = x at hc0 hc1 hc2 hli HS
      obtain ⟨x0, x1, x2⟩ := x
      dsimp only at hc0 hc1 hc2
      have hgl := (HF.out.own.lt w.heap.size rfl).2
      have hne : w.heap.size ≠ wr.heap.size := by omega
      have HT1 : Hid (∀ q W', Below (wr.alloc (.cells #[.int .u8 x0, .int .i64 x1, .string x2] 49)).heap.size ((wr.alloc (.cells #[.int .u8 x0, .int .i64 x1, .string x2] 49)).drewN q) W' → TMk w 49 w.heap.size m (cellsS (doneK id (0, 0, ⟨#[]⟩) xs k)) W') := fun q W' hb => ((HF.out.alloc _).like q).then hb
      have hr0 : (wr.alloc (.cells #[.int .u8 x0, .int .i64 x1, .string x2] 49)).cell? ⟨wr.heap.size, 0, none⟩ = some (.int .u8 x0) := cell_of_row _ _ 0 _ _ (0, 0) (heap_alloc_new wr _)
      have hr1 : (wr.alloc (.cells #[.int .u8 x0, .int .i64 x1, .string x2] 49)).cell? ⟨wr.heap.size, 1, none⟩ = some (.int .i64 x1) := cell_of_row _ _ 1 _ _ (0, 0) (heap_alloc_new wr _)
      have hr2 : (wr.alloc (.cells #[.int .u8 x0, .int .i64 x1, .string x2] 49)).cell? ⟨wr.heap.size, 2, none⟩ = some (.string x2) := cell_of_row _ _ 2 _ _ (0, 0) (heap_alloc_new wr _)
      have hk0 : (0 : Int) ≤ (k : Int) := by omega
      have hk1 : (k : Int) < (m : Int) := by omega
      have hbn : wr.heap.size < (wr.alloc (.cells #[.int .u8 x0, .int .i64 x1, .string x2] 49)).heap.size := by simp
      clear hcell hat
      go_wp2
      clear hc0 hc1 hc2
      generalize wr.alloc (.cells #[.int .u8 x0, .int .i64 x1, .string x2] 49) = W at HT1 hr0 hr1 hr2 hbn ⊢
      go_region_held3 (fun w' => w'.cell? ⟨wr.heap.size, 0, none⟩ = some (.int .u8 x0) ∧ w'.cell? ⟨wr.heap.size, 1, none⟩ = some (.int .i64 x1) ∧ w'.cell? ⟨wr.heap.size, 2, none⟩ = some (.string x2)) (first | (exact ⟨(hb3.cell (p := ⟨wr.heap.size, 0, none⟩) hbn).trans hr0, (hb3.cell (p := ⟨wr.heap.size, 1, none⟩) hbn).trans hr1, (hb3.cell (p := ⟨wr.heap.size, 2, none⟩) hbn).trans hr2⟩) | go_keep) (first | (go_at_call 89; refine (clone_anyN x2 _ hli.out).mono ?_; rintro e w3 ⟨rfl, hb3⟩; have HT3 := hide (HT1.out _ _ hb3); obtain ⟨u0, u1, u2, hu0, hu1, hu2⟩ := HT3.out.at3 k hlt; have hf0 := HT3.out.own.frozenAt (k * 3); have hf1 := HT3.out.own.frozenAt (k * 3 + 1); have hf2 := HT3.out.own.frozenAt (k * 3 + 2)))
      all_goals go_wp2
      all_goals go_roundw
      case rel => exact ⟨k + 1, by go_num, by omega, by rw [HS.out]; exact HT3.out.setS k (x0, x1, x2)⟩
      case measure => simp [intOf]; omega
    · obtain rfl : k = m := by omega
      have hfin : Hid (Post (.returned (.slice (some ⟨w.heap.size, 0, none⟩) k k)) wr) := by
        show Post _ wr
        rw [← HP.out]
        refine ⟨_, rfl, ?_, HF.out.below⟩
        have := HF.out.own
        rw [doneK_all _ _ _ HX.out, List.map_id] at this
        exact this
      go_wp2
      exact hfin.out
end Go.Proofs.Ytppaifckiaaffaa
