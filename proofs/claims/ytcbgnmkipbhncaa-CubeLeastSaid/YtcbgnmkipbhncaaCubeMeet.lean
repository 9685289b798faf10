/-
  THE WALKS of layer 3: Meet, and the reference's.
-/
import Derived.Test.YtcbgnmkipbhncaaCubeSet
import Derived.Test.YtcbgnmkipbhncaaRefCubeOfW
namespace Go.Proofs.Ytcbgnmkipbhncaa
open Go.RowKit

def meetL (xs ys : List Int) : List Int := xs.filter fun n => decide (n ∈ ys)
/-- WHAT Meet TELLS. -/
def MeetPost (w : World) (xs ys : List Int) (e : Ending) (w' : World) : Prop := ∃ v, e = .returned v ∧ NewInts w (cubeA (meetL xs ys)) v w'

set_option maxRecDepth 100000 in
set_option maxHeartbeats 1000000 in
theorem meet_any (a b : Option Addr) (n c m d : Nat) (xs ys : List Int) (w : World) (hr : RowK .i64 w a xs) (hx : xs.length = n) (hs : RowK .i64 w b ys) (hy : ys.length = m) (hn : n ≤ 1048576) (hm : m ≤ 1048576) (hw : WfL xs) (hv : WfL ys) :
    Calls Try.prog 19 #[.slice a n c, .slice b m d] w (MeetPost w xs ys) := by
  obtain ⟨i0, hi, hz0, hz1, hz2⟩ := info_parts infoInt
  have hS := setOf_any b m d ys w hs hy hm hv
  have HR := hide hr
  have HX := hide hx
  have HW := hide hw
  generalize hP : MeetPost w xs ys = Post
  have HP := hide hP
  clear hr hx hs hy hw hv hP
  go_enter Try.func19, Try.ntmps19
  go_wp2_with (go_at_call 35; refine hS.mono ?_; rintro e w1 ⟨rfl, hs1, hb1⟩)
  have H1 := hide (And.intro hs1 hb1)
  have hbs1 := hb1.size
  clear hs1 hb1 hS
  go_loopw [6, 15] (fun u i wr => ∃ (k q : Nat), i = .int .i64 k ∧ k ≤ n ∧ q ≤ k ∧ Hid (wr.ownsRow w1.heap.size 3 1 u q (((xs.take k).filter fun n => decide (n ∈ ys)).map (Value.int .i64)) ∧ Below w1.heap.size w1 wr)) (fun _ i _ => n - (intOf i).toNat)
  case atStart => exact ⟨0, 0, rfl, Nat.zero_le _, Nat.le_refl _, World.ownsRow_nil _ _ _ _, Below.refl _ _⟩
  case round =>
    obtain ⟨k, q, rfl, hk, hq, HM⟩ := hrel
    by_cases hlt : k < n
    · obtain ⟨g, off, rfl, hbw, hcell⟩ := HR.out.addr (by rw [HX.out]; omega)
      have hc : wr.cell? ⟨g, off + k, none⟩ = some (.int .i64 (xs.getD k 0)) := ((H1.out.2.trans (HM.out.2.mono hbs1)).cell (p := ⟨g, off + k, none⟩) hbw).trans (hcell k (by rw [HX.out]; exact hlt))
      rw [atP_getD] at hc
      have hy := HW.out _ (atP_mem xs k (by rw [HX.out]; exact hlt))
      have hft := filter_take (fun n => decide (n ∈ ys)) xs k (by rw [HX.out]; exact hlt)
      obtain ⟨y, HYY⟩ : ∃ y, Hid (y = atP xs k) := ⟨_, rfl⟩
      rw [← HYY.out] at hc hy hft
      clear hcell
      have hcall := setHas_any w.heap.size m ys y wr (H1.out.1.below HM.out.2) hy
      have HFT := hide hft
      have hsz := HM.out.2.size
      clear hft hy
      by_cases he : y ∈ ys
      · rw [decide_eq_true he] at hcall
        have HE := hide he
        clear he
        have hown := HM.out.1
        go_wp2_with (first | (go_at_call 38; refine hcall.mono ?_; rintro e w2 ⟨rfl, hb2⟩; have hown2 := own_below hown hb2; have hsz2 := hb2.size) | (at_builtin; refine wpList_append_own _ rfl (.tmp 22) (.tmp 24) 22 rfl w1.heap.size 3 i0 (.int .i64 0) 1 8 Try.underlying22 hi hz0 hz1 hz2 rfl (by decide) _ _ _ rfl (hown2.alloc _) ⟨w2.heap.size, 0, none⟩ 1 1 [.int .i64 y] rfl rfl (cell_one_new _ _ _) (by intro u hu; simp at hu; subst hu; rfl) (by unfold maxLen; omega) (by omega) (by simp; omega) ?_; intro v6 w6 hown6 hg6 _))
        go_roundw
        case rel =>
          have hlt2 := hown2.lt
          have hb12 : Below w1.heap.size w1 w2 := HM.out.2.trans (hb2.mono hsz)
          refine ⟨k + 1, q + 1, by go_num, by omega, by omega, ?_, below_step hb12 hg6 (by omega) (fun k hk => (hlt2 k hk).1) ⟨rfl, rfl, rfl, rfl⟩⟩
          rw [HFT.out, if_pos (decide_eq_true HE.out), List.map_append]
          exact hown6
        case measure => simp [intOf]; omega
      · rw [decide_eq_false he] at hcall
        have HE := hide he
        clear he
        go_wp2_with (first | (go_at_call 38; refine hcall.mono ?_; rintro e w2 ⟨rfl, hb2⟩))
        go_roundw
        case rel =>
          refine ⟨k + 1, q, by go_num, by omega, by omega, ?_, HM.out.2.trans (hb2.mono hsz)⟩
          rw [HFT.out, if_neg (by rw [decide_eq_false HE.out]; exact Bool.false_ne_true), List.append_nil]
          exact own_below HM.out.1 hb2
        case measure => simp [intOf]; omega
    · obtain rfl : k = n := by omega
      have hown := HM.out.1
      rw [List.take_of_length_le (by rw [HX.out]; exact Nat.le_refl _)] at hown
      obtain ⟨au, cu, rfl, hrow, hncu, hlu, -, -⟩ := row_of_own hown
      have HO := hide (of_any au q cu (meetL xs ys) wr hrow hlu hncu (by omega))
      clear hown hrow hncu hlu
      go_wp2_with fail
      refine HO.out.mono ?_
      rintro e w7 ⟨u, rfl, hof⟩
      have hfin : Hid (Post (.returned u) w7) := by
        show Post (.returned u) w7
        rw [← HP.out]
        exact ⟨u, rfl, hof.up (H1.out.2.trans (HM.out.2.mono hbs1))⟩
      clear hof
      go_wp2
      exact hfin.out

set_option maxRecDepth 100000 in
set_option maxHeartbeats 1000000 in
theorem refMeet_any (a b : Option Addr) (n c m d : Nat) (xs ys : List Int) (w : World) (hr : RowK .i64 w a xs) (hx : xs.length = n) (hs : RowK .i64 w b ys) (hy : ys.length = m) (hn : n ≤ 1048576) (hm : m ≤ 1048576) :
    Calls Try.prog 20 #[.slice a n c, .slice b m d] w (MeetPost w xs ys) := by
  obtain ⟨i0, hi, hz0, hz1, hz2⟩ := info_parts infoInt
  have HR := hide hr
  have HX := hide hx
  have HS := hide (And.intro hs hy)
  generalize hP : MeetPost w xs ys = Post
  have HP := hide hP
  clear hr hx hs hy hP
  go_enter Try.func20, Try.ntmps20
  go_wp2
  go_loopw [5, 6] (fun u i wr => ∃ (k q : Nat), i = .int .i64 k ∧ k ≤ n ∧ q ≤ k ∧ Hid (wr.ownsRow w.heap.size 3 1 u q (((xs.take k).filter fun n => decide (n ∈ ys)).map (Value.int .i64)) ∧ Below w.heap.size w wr)) (fun _ i _ => n - (intOf i).toNat)
  case atStart => exact ⟨0, 0, rfl, Nat.zero_le _, Nat.le_refl _, World.ownsRow_nil _ _ _ _, Below.refl _ _⟩
  case round =>
    obtain ⟨k, q, rfl, hk, hq, HM⟩ := hrel
    by_cases hlt : k < n
    · obtain ⟨g, off, rfl, hbw, hcell⟩ := HR.out.addr (by rw [HX.out]; omega)
      have hc : wr.cell? ⟨g, off + k, none⟩ = some (.int .i64 (xs.getD k 0)) := (HM.out.2.cell (p := ⟨g, off + k, none⟩) hbw).trans (hcell k (by rw [HX.out]; exact hlt))
      rw [atP_getD] at hc
      have hft := filter_take (fun n => decide (n ∈ ys)) xs k (by rw [HX.out]; exact hlt)
      obtain ⟨y, HYY⟩ : ∃ y, Hid (y = atP xs k) := ⟨_, rfl⟩
      rw [← HYY.out] at hc hft
      clear hcell
      have hcall := has_any b m d ys y wr (HS.out.1.below HM.out.2) HS.out.2 (by omega)
      have HFT := hide hft
      have hsz := HM.out.2.size
      clear hft
      by_cases he : y ∈ ys
      · rw [decide_eq_true he] at hcall
        have HE := hide he
        clear he
        have hown := HM.out.1
        go_wp2_with (first | (go_at_call 37; refine hcall.mono ?_; rintro e w2 ⟨rfl, hw2⟩; obtain rfl := hw2.symm) | (at_builtin; refine wpList_append_own _ rfl (.tmp 21) (.tmp 26) 22 rfl w.heap.size 3 i0 (.int .i64 0) 1 8 Try.underlying22 hi hz0 hz1 hz2 rfl (by decide) _ _ _ rfl (hown.alloc _) ⟨wr.heap.size, 0, none⟩ 1 1 [.int .i64 y] rfl rfl (cell_one_new _ _ _) (by intro u hu; simp at hu; subst hu; rfl) (by unfold maxLen; omega) (by omega) (by simp; omega) ?_; intro v6 w6 hown6 hg6 _))
        go_roundw
        case rel =>
          have hlt2 := HM.out.1.lt
          refine ⟨k + 1, q + 1, by go_num, by omega, by omega, ?_, below_step HM.out.2 hg6 (by omega) (fun k hk => (hlt2 k hk).1) ⟨rfl, rfl, rfl, rfl⟩⟩
          rw [HFT.out, if_pos (decide_eq_true HE.out), List.map_append]
          exact hown6
        case measure => simp [intOf]; omega
      · rw [decide_eq_false he] at hcall
        have HE := hide he
        clear he
        go_wp2_with (first | (go_at_call 37; refine hcall.mono ?_; rintro e w2 ⟨rfl, hw2⟩; obtain rfl := hw2.symm))
        go_roundw
        case rel =>
          refine ⟨k + 1, q, by go_num, by omega, by omega, ?_, HM.out.2⟩
          rw [HFT.out, if_neg (by rw [decide_eq_false HE.out]; exact Bool.false_ne_true), List.append_nil]
          exact HM.out.1
        case measure => simp [intOf]; omega
    · obtain rfl : k = n := by omega
      have hown := HM.out.1
      rw [List.take_of_length_le (by rw [HX.out]; exact Nat.le_refl _)] at hown
      obtain ⟨au, cu, rfl, hrow, hncu, hlu, -, -⟩ := row_of_own hown
      have HO := hide (refOf_any au q cu (meetL xs ys) wr hrow hlu (by omega))
      clear hown hrow hncu hlu
      go_wp2_with fail
      refine HO.out.mono ?_
      rintro e w7 ⟨u, rfl, hof⟩
      have hfin : Hid (Post (.returned u) w7) := by
        show Post (.returned u) w7
        rw [← HP.out]
        exact ⟨u, rfl, hof.up HM.out.2⟩
      clear hof
      go_wp2
      exact hfin.out
end Go.Proofs.Ytcbgnmkipbhncaa
