/-
  THE WALKS of slices.Equal at ints, latches, Ands, symbols.
-/
import Derived.Test.YtppaifckiaaffaaAigSameP
namespace Go.Proofs.Ytppaifckiaaffaa
open Go.RowKit

set_option maxRecDepth 100000 in
set_option maxHeartbeats 1000000 in
theorem eqInts_any (a b : Option Addr) (n c m d : Nat) (xs ys : List Int) (w : World) (hr : RowK .i64 w a xs) (hx : xs.length = n) (hs : RowK .i64 w b ys) (hy : ys.length = m) (hn : n ≤ 1000000) (hm : m ≤ 1000000) :
    Calls Try.prog 52 #[.slice a n c, .slice b m d] w fun e w' => e = .returned (.bool (decide (xs = ys))) ∧ Drew w w' := by
  by_cases hne : n = m
  · subst hne
    have HR := hide hr
    have HX := hide hx
    have HS := hide hs
    have HYL := hide hy
    generalize hP : (fun (e : Ending) (w' : World) => e = .returned (.bool (decide (xs = ys))) ∧ Drew w w') = Post
    have HP := hide hP
    clear hr hx hP hs hy
    go_enter Try.func52, Try.ntmps52
    go_wp2
    go_loopw [5, 13] (fun _ i wr => ∃ k : Nat, i = .int .i64 k ∧ k ≤ n ∧ Hid (Drew w wr ∧ ∀ j, j < k → atP xs j = atP ys j)) (fun _ i _ => n - (intOf i).toNat)
    case atStart => exact ⟨0, rfl, Nat.zero_le _, ⟨0, rfl⟩, fun j hj => absurd hj (Nat.not_lt_zero _)⟩
    case round =>
      obtain ⟨k, rfl, hk, HF⟩ := hrel
      by_cases hlt : k < n
      · obtain ⟨g, off, rfl, -, hcell⟩ := HR.out.addr (by rw [HX.out]; omega)
        obtain ⟨g2, off2, rfl, -, hcell2⟩ := HS.out.addr (by rw [HYL.out]; omega)
        have hc := (cell_heap HF.out.1.heap _).trans (hcell k (by rw [HX.out]; omega))
        have hc2 := (cell_heap HF.out.1.heap _).trans (hcell2 k (by rw [HYL.out]; omega))
        rw [atP_getD] at hc hc2
        obtain ⟨x, HXX⟩ : ∃ x, Hid (x = atP xs k) := ⟨_, rfl⟩
        obtain ⟨y, HYY⟩ : ∃ y, Hid (y = atP ys k) := ⟨_, rfl⟩
        rw [← HXX.out] at hc
        rw [← HYY.out] at hc2
        clear hcell hcell2
        by_cases he : x = y
        · subst he
          go_wp2
          go_quiet (fail)
          go_wp2
          go_roundw
          case rel =>
            refine ⟨k + 1, by go_num, by omega, ?_, fun j hj => ?_⟩
            · obtain ⟨q, e⟩ := HF.out.1
              exact ⟨q + _, by rw [e, World.drewN_drewN]⟩
            · by_cases hjk : j < k
              · exact HF.out.2 j hjk
              · obtain rfl : j = k := by omega
                rw [← HXX.out]; exact HYY.out
          case measure => simp [intOf]; omega
        · have hb : (x == y) = false := by rw [beq_eq_false_iff_ne]; exact he
          have hfin : Hid (∀ q, Post (.returned (.bool false)) (wr.drewN q)) := by
            intro q
            rw [← HP.out]
            refine ⟨ret_bool (decide_eq_false (fun h => he (by rw [HXX.out, HYY.out, h]))).symm, ?_⟩
            obtain ⟨q2, e⟩ := HF.out.1
            exact ⟨q2 + q, by rw [e, World.drewN_drewN]⟩
          go_wp2
          go_quiet (fail)
          go_wp2
          exact hfin.out _
      · obtain rfl : k = n := by omega
        have hfin : Hid (Post (.returned (.bool true)) wr) := by
          show Post (.returned (.bool true)) wr
          rw [← HP.out]
          exact ⟨ret_bool (decide_eq_true (ext_atP xs ys (by rw [HX.out, HYL.out]) (fun i hi => HF.out.2 i (by rw [← HX.out]; exact hi)))).symm, HF.out.1⟩
        go_wp2
        exact hfin.out
  · have e : decide (xs = ys) = false := decide_eq_false (fun h => hne (by rw [← hx, ← hy, h]))
    rw [e]
    have hb : ((n : Int) == (m : Int)) = false := by rw [beq_eq_false_iff_ne]; omega
    go_enter Try.func52, Try.ntmps52
    go_wp2
    go_ret
    exact ⟨rfl, 0, rfl⟩

set_option maxRecDepth 100000 in
set_option maxHeartbeats 1000000 in
theorem eqLats_any (a b : Option Addr) (n c m d : Nat) (xs ys : List Tri) (w : World) (hr : RowC w a (cellsT xs)) (hx : xs.length = n) (hs : RowC w b (cellsT ys)) (hy : ys.length = m) (hn : n ≤ 1000000) (hm : m ≤ 1000000) :
    Calls Try.prog 53 #[.slice a n c, .slice b m d] w fun e w' => e = .returned (.bool (decide (xs = ys))) ∧ Drew w w' := by
  by_cases hne : n = m
  · subst hne
    have HR := hide hr
    have HX := hide hx
    have HS := hide hs
    have HYL := hide hy
    generalize hP : (fun (e : Ending) (w' : World) => e = .returned (.bool (decide (xs = ys))) ∧ Drew w w') = Post
    have HP := hide hP
    clear hr hx hP hs hy
    go_enter Try.func53, Try.ntmps53
    go_wp2
    go_loopw [5, 13] (fun _ i wr => ∃ k : Nat, i = .int .i64 k ∧ k ≤ n ∧ Hid (Drew w wr ∧ ∀ j, j < k → atP xs j = atP ys j)) (fun _ i _ => n - (intOf i).toNat)
    case atStart => exact ⟨0, rfl, Nat.zero_le _, ⟨0, rfl⟩, fun j hj => absurd hj (Nat.not_lt_zero _)⟩
    case round =>
      obtain ⟨k, rfl, hk, HF⟩ := hrel
      by_cases hlt : k < n
      · obtain ⟨g, off, rfl, -, hcell⟩ := HR.out.addr (by rw [cellsT_len, HX.out]; omega)
        obtain ⟨g2, off2, rfl, -, hcell2⟩ := HS.out.addr (by rw [cellsT_len, HYL.out]; omega)
        have hat := cellsT_at xs k (by rw [HX.out]; exact hlt)
        have hat2 := cellsT_at ys k (by rw [HYL.out]; exact hlt)
        have hc0 := (cell_heap HF.out.1.heap _).trans (hcell _ _ hat.1)
        have hc1 := (cell_heap HF.out.1.heap _).trans (hcell _ _ hat.2.1)
        have hc2 := (cell_heap HF.out.1.heap _).trans (hcell _ _ hat.2.2)
        have hd0 := (cell_heap HF.out.1.heap _).trans (hcell2 _ _ hat2.1)
        have hd1 := (cell_heap HF.out.1.heap _).trans (hcell2 _ _ hat2.2.1)
        have hd2 := (cell_heap HF.out.1.heap _).trans (hcell2 _ _ hat2.2.2)
        obtain ⟨x, HXX⟩ : ∃ x, Hid (x = atP xs k) := ⟨_, rfl⟩
        obtain ⟨y, HYY⟩ : ∃ y, Hid (y = atP ys k) := ⟨_, rfl⟩
        rw [← HXX.out] at hc0 hc1 hc2
        rw [← HYY.out] at hd0 hd1 hd2
        obtain ⟨x0, x1, x2⟩ := x
        obtain ⟨y0, y1, y2⟩ := y
        dsimp only at hc0 hc1 hc2 hd0 hd1 hd2
        replace hc1 : wr.cell? ⟨g, off + k * 3 + 1, none⟩ = _ := hc1
        replace hc2 : wr.cell? ⟨g, off + k * 3 + 2, none⟩ = _ := hc2
        replace hd1 : wr.cell? ⟨g2, off2 + k * 3 + 1, none⟩ = _ := hd1
        replace hd2 : wr.cell? ⟨g2, off2 + k * 3 + 2, none⟩ = _ := hd2
        clear hcell hcell2 hat hat2
        have hfin : Hid ((x0, x1, x2) ≠ (y0, y1, y2) → ∀ q, Post (.returned (.bool false)) (wr.drewN q)) := by
          intro he q
          rw [← HP.out]
          refine ⟨ret_bool (decide_eq_false (fun h => he (by rw [HXX.out, HYY.out, h]))).symm, ?_⟩
          obtain ⟨q2, e⟩ := HF.out.1
          exact ⟨q2 + q, by rw [e, World.drewN_drewN]⟩
        by_cases h0 : x0 = y0
        · subst h0
          by_cases h1 : x1 = y1
          · subst h1
            by_cases h2 : x2 = y2
            · subst h2
              clear hfin
              go_wp2
              go_quiet (fail)
              go_wp2
              go_roundw
              case rel =>
                refine ⟨k + 1, by go_num, by omega, ?_, fun j hj => ?_⟩
                · obtain ⟨q, e⟩ := HF.out.1
                  exact ⟨q + _, by rw [e, World.drewN_drewN]⟩
                · by_cases hjk : j < k
                  · exact HF.out.2 j hjk
                  · obtain rfl : j = k := by omega
                    rw [← HXX.out]; exact HYY.out
              case measure => simp [intOf]; omega
            · have h2b : (x2 == y2) = false := by rw [beq_eq_false_iff_ne]; exact h2
              have hend := hide (hfin.out (fun e => h2 (by cases e; rfl)))
              clear hfin
              go_wp2
              go_quiet (fail)
              go_wp2
              exact hend.out _
          · have h1b : (x1 == y1) = false := by rw [beq_eq_false_iff_ne]; exact h1
            have hend := hide (hfin.out (fun e => h1 (by cases e; rfl)))
            clear hfin
            go_wp2
            go_quiet (fail)
            go_wp2
            exact hend.out _
        · have h0b : (x0 == y0) = false := by rw [beq_eq_false_iff_ne]; exact h0
          have hend := hide (hfin.out (fun e => h0 (by cases e; rfl)))
          clear hfin
          go_wp2
          go_quiet (fail)
          go_wp2
          exact hend.out _
      · obtain rfl : k = n := by omega
        have hfin : Hid (Post (.returned (.bool true)) wr) := by
          show Post (.returned (.bool true)) wr
          rw [← HP.out]
          exact ⟨ret_bool (decide_eq_true (ext_atP xs ys (by rw [HX.out, HYL.out]) (fun i hi => HF.out.2 i (by rw [← HX.out]; exact hi)))).symm, HF.out.1⟩
        go_wp2
        exact hfin.out
  · have e : decide (xs = ys) = false := decide_eq_false (fun h => hne (by rw [← hx, ← hy, h]))
    rw [e]
    have hb : ((n : Int) == (m : Int)) = false := by rw [beq_eq_false_iff_ne]; omega
    go_enter Try.func53, Try.ntmps53
    go_wp2
    go_ret
    exact ⟨rfl, 0, rfl⟩

set_option maxRecDepth 100000 in
set_option maxHeartbeats 1000000 in
theorem eqAnds_any (a b : Option Addr) (n c m d : Nat) (xs ys : List Tri) (w : World) (hr : RowC w a (cellsT xs)) (hx : xs.length = n) (hs : RowC w b (cellsT ys)) (hy : ys.length = m) (hn : n ≤ 1000000) (hm : m ≤ 1000000) :
    Calls Try.prog 54 #[.slice a n c, .slice b m d] w fun e w' => e = .returned (.bool (decide (xs = ys))) ∧ Drew w w' := by
  by_cases hne : n = m
  · subst hne
    have HR := hide hr
    have HX := hide hx
    have HS := hide hs
    have HYL := hide hy
    generalize hP : (fun (e : Ending) (w' : World) => e = .returned (.bool (decide (xs = ys))) ∧ Drew w w') = Post
    have HP := hide hP
    clear hr hx hP hs hy
    go_enter Try.func54, Try.ntmps54
    go_wp2
    go_loopw [5, 13] (fun _ i wr => ∃ k : Nat, i = .int .i64 k ∧ k ≤ n ∧ Hid (Drew w wr ∧ ∀ j, j < k → atP xs j = atP ys j)) (fun _ i _ => n - (intOf i).toNat)
    case atStart => exact ⟨0, rfl, Nat.zero_le _, ⟨0, rfl⟩, fun j hj => absurd hj (Nat.not_lt_zero _)⟩
    case round =>
      obtain ⟨k, rfl, hk, HF⟩ := hrel
      by_cases hlt : k < n
      · obtain ⟨g, off, rfl, -, hcell⟩ := HR.out.addr (by rw [cellsT_len, HX.out]; omega)
        obtain ⟨g2, off2, rfl, -, hcell2⟩ := HS.out.addr (by rw [cellsT_len, HYL.out]; omega)
        have hat := cellsT_at xs k (by rw [HX.out]; exact hlt)
        have hat2 := cellsT_at ys k (by rw [HYL.out]; exact hlt)
        have hc0 := (cell_heap HF.out.1.heap _).trans (hcell _ _ hat.1)
        have hc1 := (cell_heap HF.out.1.heap _).trans (hcell _ _ hat.2.1)
        have hc2 := (cell_heap HF.out.1.heap _).trans (hcell _ _ hat.2.2)
        have hd0 := (cell_heap HF.out.1.heap _).trans (hcell2 _ _ hat2.1)
        have hd1 := (cell_heap HF.out.1.heap _).trans (hcell2 _ _ hat2.2.1)
        have hd2 := (cell_heap HF.out.1.heap _).trans (hcell2 _ _ hat2.2.2)
        obtain ⟨x, HXX⟩ : ∃ x, Hid (x = atP xs k) := ⟨_, rfl⟩
        obtain ⟨y, HYY⟩ : ∃ y, Hid (y = atP ys k) := ⟨_, rfl⟩
        rw [← HXX.out] at hc0 hc1 hc2
        rw [← HYY.out] at hd0 hd1 hd2
        obtain ⟨x0, x1, x2⟩ := x
        obtain ⟨y0, y1, y2⟩ := y
        dsimp only at hc0 hc1 hc2 hd0 hd1 hd2
        replace hc1 : wr.cell? ⟨g, off + k * 3 + 1, none⟩ = _ := hc1
        replace hc2 : wr.cell? ⟨g, off + k * 3 + 2, none⟩ = _ := hc2
        replace hd1 : wr.cell? ⟨g2, off2 + k * 3 + 1, none⟩ = _ := hd1
        replace hd2 : wr.cell? ⟨g2, off2 + k * 3 + 2, none⟩ = _ := hd2
        clear hcell hcell2 hat hat2
        have hfin : Hid ((x0, x1, x2) ≠ (y0, y1, y2) → ∀ q, Post (.returned (.bool false)) (wr.drewN q)) := by
          intro he q
          rw [← HP.out]
          refine ⟨ret_bool (decide_eq_false (fun h => he (by rw [HXX.out, HYY.out, h]))).symm, ?_⟩
          obtain ⟨q2, e⟩ := HF.out.1
          exact ⟨q2 + q, by rw [e, World.drewN_drewN]⟩
        by_cases h0 : x0 = y0
        · subst h0
          by_cases h1 : x1 = y1
          · subst h1
            by_cases h2 : x2 = y2
            · subst h2
              clear hfin
              go_wp2
              go_quiet (fail)
              go_wp2
              go_roundw
              case rel =>
                refine ⟨k + 1, by go_num, by omega, ?_, fun j hj => ?_⟩
                · obtain ⟨q, e⟩ := HF.out.1
                  exact ⟨q + _, by rw [e, World.drewN_drewN]⟩
                · by_cases hjk : j < k
                  · exact HF.out.2 j hjk
                  · obtain rfl : j = k := by omega
                    rw [← HXX.out]; exact HYY.out
              case measure => simp [intOf]; omega
            · have h2b : (x2 == y2) = false := by rw [beq_eq_false_iff_ne]; exact h2
              have hend := hide (hfin.out (fun e => h2 (by cases e; rfl)))
              clear hfin
              go_wp2
              go_quiet (fail)
              go_wp2
              exact hend.out _
          · have h1b : (x1 == y1) = false := by rw [beq_eq_false_iff_ne]; exact h1
            have hend := hide (hfin.out (fun e => h1 (by cases e; rfl)))
            clear hfin
            go_wp2
            go_quiet (fail)
            go_wp2
            exact hend.out _
        · have h0b : (x0 == y0) = false := by rw [beq_eq_false_iff_ne]; exact h0
          have hend := hide (hfin.out (fun e => h0 (by cases e; rfl)))
          clear hfin
          go_wp2
          go_quiet (fail)
          go_wp2
          exact hend.out _
      · obtain rfl : k = n := by omega
        have hfin : Hid (Post (.returned (.bool true)) wr) := by
          show Post (.returned (.bool true)) wr
          rw [← HP.out]
          exact ⟨ret_bool (decide_eq_true (ext_atP xs ys (by rw [HX.out, HYL.out]) (fun i hi => HF.out.2 i (by rw [← HX.out]; exact hi)))).symm, HF.out.1⟩
        go_wp2
        exact hfin.out
  · have e : decide (xs = ys) = false := decide_eq_false (fun h => hne (by rw [← hx, ← hy, h]))
    rw [e]
    have hb : ((n : Int) == (m : Int)) = false := by rw [beq_eq_false_iff_ne]; omega
    go_enter Try.func54, Try.ntmps54
    go_wp2
    go_ret
    exact ⟨rfl, 0, rfl⟩

set_option maxRecDepth 100000 in
set_option maxHeartbeats 1000000 in
theorem eqSyms_any (a b : Option Addr) (n c m d : Nat) (xs ys : List Sym) (w : World) (hr : RowC w a (cellsS xs)) (hx : xs.length = n) (hs : RowC w b (cellsS ys)) (hy : ys.length = m) (hn : n ≤ 1000000) (hm : m ≤ 1000000) :
    Calls Try.prog 55 #[.slice a n c, .slice b m d] w fun e w' => e = .returned (.bool (decide (xs = ys))) ∧ Drew w w' := by
  by_cases hne : n = m
  · subst hne
    have HR := hide hr
    have HX := hide hx
    have HS := hide hs
    have HYL := hide hy
    generalize hP : (fun (e : Ending) (w' : World) => e = .returned (.bool (decide (xs = ys))) ∧ Drew w w') = Post
    have HP := hide hP
    clear hr hx hP hs hy
    go_enter Try.func55, Try.ntmps55
    go_wp2
    go_loopw [5, 13] (fun _ i wr => ∃ k : Nat, i = .int .i64 k ∧ k ≤ n ∧ Hid (Drew w wr ∧ ∀ j, j < k → atP xs j = atP ys j)) (fun _ i _ => n - (intOf i).toNat)
    case atStart => exact ⟨0, rfl, Nat.zero_le _, ⟨0, rfl⟩, fun j hj => absurd hj (Nat.not_lt_zero _)⟩
    case round =>
      obtain ⟨k, rfl, hk, HF⟩ := hrel
      by_cases hlt : k < n
      · obtain ⟨g, off, rfl, -, hcell⟩ := HR.out.addr (by rw [cellsS_len, HX.out]; omega)
        obtain ⟨g2, off2, rfl, -, hcell2⟩ := HS.out.addr (by rw [cellsS_len, HYL.out]; omega)
        have hat := cellsS_at xs k (by rw [HX.out]; exact hlt)
        have hat2 := cellsS_at ys k (by rw [HYL.out]; exact hlt)
        have hc0 := (cell_heap HF.out.1.heap _).trans (hcell _ _ hat.1)
        have hc1 := (cell_heap HF.out.1.heap _).trans (hcell _ _ hat.2.1)
        have hc2 := (cell_heap HF.out.1.heap _).trans (hcell _ _ hat.2.2)
        have hd0 := (cell_heap HF.out.1.heap _).trans (hcell2 _ _ hat2.1)
        have hd1 := (cell_heap HF.out.1.heap _).trans (hcell2 _ _ hat2.2.1)
        have hd2 := (cell_heap HF.out.1.heap _).trans (hcell2 _ _ hat2.2.2)
        obtain ⟨x, HXX⟩ : ∃ x, Hid (x = atP xs k) := ⟨_, rfl⟩
        obtain ⟨y, HYY⟩ : ∃ y, Hid (y = atP ys k) := ⟨_, rfl⟩
        rw [← HXX.out] at hc0 hc1 hc2
        rw [← HYY.out] at hd0 hd1 hd2
        obtain ⟨x0, x1, x2⟩ := x
        obtain ⟨y0, y1, y2⟩ := y
        dsimp only at hc0 hc1 hc2 hd0 hd1 hd2
        replace hc1 : wr.cell? ⟨g, off + k * 3 + 1, none⟩ = _ := hc1
        replace hc2 : wr.cell? ⟨g, off + k * 3 + 2, none⟩ = _ := hc2
        replace hd1 : wr.cell? ⟨g2, off2 + k * 3 + 1, none⟩ = _ := hd1
        replace hd2 : wr.cell? ⟨g2, off2 + k * 3 + 2, none⟩ = _ := hd2
        clear hcell hcell2 hat hat2
        have hfin : Hid ((x0, x1, x2) ≠ (y0, y1, y2) → ∀ q, Post (.returned (.bool false)) (wr.drewN q)) := by
          intro he q
          rw [← HP.out]
          refine ⟨ret_bool (decide_eq_false (fun h => he (by rw [HXX.out, HYY.out, h]))).symm, ?_⟩
          obtain ⟨q2, e⟩ := HF.out.1
          exact ⟨q2 + q, by rw [e, World.drewN_drewN]⟩
        by_cases h0 : x0 = y0
        · subst h0
          by_cases h1 : x1 = y1
          · subst h1
            by_cases h2 : x2 = y2
            · subst h2
              clear hfin
              go_wp2
              go_quiet (fail)
              go_wp2
              go_roundw
              case rel =>
                refine ⟨k + 1, by go_num, by omega, ?_, fun j hj => ?_⟩
                · obtain ⟨q, e⟩ := HF.out.1
                  exact ⟨q + _, by rw [e, World.drewN_drewN]⟩
                · by_cases hjk : j < k
                  · exact HF.out.2 j hjk
                  · obtain rfl : j = k := by omega
                    rw [← HXX.out]; exact HYY.out
              case measure => simp [intOf]; omega
            · have h2b := bytes_ne h2
              have hend := hide (hfin.out (fun e => h2 (by cases e; rfl)))
              clear hfin
              go_wp2
              go_quiet (fail)
              go_wp2
              exact hend.out _
          · have h1b : (x1 == y1) = false := by rw [beq_eq_false_iff_ne]; exact h1
            have hend := hide (hfin.out (fun e => h1 (by cases e; rfl)))
            clear hfin
            go_wp2
            go_quiet (fail)
            go_wp2
            exact hend.out _
        · have h0b : (x0 == y0) = false := by rw [beq_eq_false_iff_ne]; exact h0
          have hend := hide (hfin.out (fun e => h0 (by cases e; rfl)))
          clear hfin
          go_wp2
          go_quiet (fail)
          go_wp2
          exact hend.out _
      · obtain rfl : k = n := by omega
        have hfin : Hid (Post (.returned (.bool true)) wr) := by
          show Post (.returned (.bool true)) wr
          rw [← HP.out]
          exact ⟨ret_bool (decide_eq_true (ext_atP xs ys (by rw [HX.out, HYL.out]) (fun i hi => HF.out.2 i (by rw [← HX.out]; exact hi)))).symm, HF.out.1⟩
        go_wp2
        exact hfin.out
  · have e : decide (xs = ys) = false := decide_eq_false (fun h => hne (by rw [← hx, ← hy, h]))
    rw [e]
    have hb : ((n : Int) == (m : Int)) = false := by rw [beq_eq_false_iff_ne]; omega
    go_enter Try.func55, Try.ntmps55
    go_wp2
    go_ret
    exact ⟨rfl, 0, rfl⟩
end Go.Proofs.Ytppaifckiaaffaa
