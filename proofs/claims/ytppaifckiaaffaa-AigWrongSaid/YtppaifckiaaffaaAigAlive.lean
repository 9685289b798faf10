/-
  THE WALKS of the laws' own functions: num, alive, Big.
-/
import Derived.Test.YtppaifckiaaffaaAigCheck
import Derived.Test.YtppaifckiaaffaaAigOpen
namespace Go.Proofs.Ytppaifckiaaffaa
open Go.RowKit

set_option maxHeartbeats 400000 in
theorem num_any (n : Int) (w : World) : Calls Try.prog 17 #[.int .i64 n] w fun e w' => e = .returned (.int .i64 n) ∧ w' = w := by
  go_enter Try.func17, Try.ntmps17
  go_wp2
  go_ret
  exact ⟨rfl, rfl⟩

/-- The circuit of nothing. -/
def CV.nil : CV := ⟨0, none, 0, 0, none, 0, 0, none, 0, 0, none, 0, 0, none, 0, 0, none, 0, 0, none, 0, 0⟩
def Circ.nil : Circ := ⟨0, [], [], [], [], [], [], []⟩
theorem holds_nil (w : World) : Holds w CV.nil Circ.nil :=
  ⟨rfl, .inl ⟨rfl, rfl⟩, rfl, fun _ => rfl, .inl ⟨rfl, rfl⟩, rfl, fun _ => rfl, .inl ⟨rfl, rfl⟩, rfl, fun _ => rfl, .inl ⟨rfl, rfl⟩, rfl, fun _ => rfl, .inl ⟨rfl, rfl⟩, rfl, fun _ => rfl, .inl ⟨rfl, rfl⟩, rfl, fun _ => rfl, .inl ⟨rfl, rfl⟩, rfl, fun _ => rfl⟩
theorem check_nil (w : World) : Calls Try.prog 18 #[.agg #[.int .i64 0, .slice none 0 0, .slice none 0 0, .slice none 0 0, .slice none 0 0, .slice none 0 0, .slice none 0 0, .slice none 0 0]] w fun e w' => e = .returned (.int .i64 0) ∧ Below w.heap.size w w' := by
  have h := check_any CV.nil Circ.nil w (holds_nil w) ⟨by decide, by decide, by decide, by decide, by decide, by decide, fun s hs => by cases hs⟩
  have e : Circ.nil.checkI = 0 := by decide
  rw [e] at h
  exact h

theorem rowT_lit {w : World} {a : Addr} (ts : List Tri) (t : TypeId) (hb : a = ⟨w.heap.size, 0, none⟩) : RowC (w.alloc (.cells (cellsT ts).toArray t)) (some a) (cellsT ts) := by
  subst hb
  refine .inr ⟨_, rfl, fun j u hu => ?_⟩
  rw [add_plain, Nat.zero_add, cell_of_row _ _ j _ t (0, 0) (heap_alloc_new w _)]
  simpa using hu

theorem check_loop (w : World) : Calls Try.prog 18 #[.agg #[.int .i64 1, .slice none 0 0, .slice none 0 0, .slice none 0 0, .slice none 0 0, .slice none 0 0, .slice (some ⟨w.heap.size, 0, none⟩) 1 1, .slice none 0 0]] (w.alloc (.cells #[.int .i64 2, .int .i64 2, .int .i64 1] 46)) fun e w' => e = .returned (.int .i64 9) ∧ Below (w.alloc (.cells #[.int .i64 2, .int .i64 2, .int .i64 1] 46)).heap.size (w.alloc (.cells #[.int .i64 2, .int .i64 2, .int .i64 1] 46)) w' := by
  have h := check_any ⟨1, none, 0, 0, none, 0, 0, none, 0, 0, none, 0, 0, none, 0, 0, some ⟨w.heap.size, 0, none⟩, 1, 1, none, 0, 0⟩ ⟨1, [], [], [], [], [], [(2, 2, 1)], []⟩ (w.alloc (.cells #[.int .i64 2, .int .i64 2, .int .i64 1] 46))
    ⟨rfl, .inl ⟨rfl, rfl⟩, rfl, fun _ => rfl, .inl ⟨rfl, rfl⟩, rfl, fun _ => rfl, .inl ⟨rfl, rfl⟩, rfl, fun _ => rfl, .inl ⟨rfl, rfl⟩, rfl, fun _ => rfl, .inl ⟨rfl, rfl⟩, rfl, fun _ => rfl, rowT_lit [(2, 2, 1)] 46 rfl, rfl, (fun e => by cases e), .inl ⟨rfl, rfl⟩, rfl, fun _ => rfl⟩ ⟨Nat.zero_le _, Nat.zero_le _, Nat.zero_le _, Nat.zero_le _, Nat.zero_le _, (by show (-9223372036854775808 : Int) ≤ 1; decide), fun s hs => by cases hs⟩
  have e : (⟨1, [], [], [], [], [], [(2, 2, 1)], []⟩ : Circ).checkI = 9 := by decide
  rw [e] at h
  exact h

set_option maxHeartbeats 400000 in
theorem alive_any (w : World) : Calls Try.prog 14 #[] w fun e w' => e = .returned (.bool true) ∧ Below w.heap.size w w' := by
  have h0 := hide (check_nil w)
  have h1 := hide (fun W => check_loop W)
  go_enter Try.func14, Try.ntmps14
  go_wp2_with fail
  refine h0.out.mono ?_
  rintro e w1 ⟨rfl, hb1⟩
  go_wp2_with (go_at_call 17; refine (num_any _ _).mono ?_; rintro e w' ⟨rfl, hw'⟩; obtain rfl := hw'.symm)
  refine (h1.out _).mono ?_
  rintro e w2 ⟨rfl, hb2⟩
  go_wp2_with (go_at_call 17; refine (num_any _ _).mono ?_; rintro e w' ⟨rfl, hw'⟩; obtain rfl := hw'.symm)
  go_ret
  exact ⟨rfl, belowThen (belowThen hb1 (below_alloc w1 _)) hb2⟩

/-- Is a circuit too great? -/
def Circ.bigB (C : Circ) : Bool := C.names.any (fun s => decide (200 < s.2.2.size)) || ((decide (6000 < C.max) && decide (C.max < 1099511627776)) || (decide (60 < C.ands.length) || (decide (70 < C.ins.length) || (decide (70 < C.lats.length) || (decide (70 < C.outs.length) || (decide (70 < C.bads.length) || (decide (70 < C.cons.length) || decide (100 < C.names.length))))))))

set_option maxRecDepth 100000 in
set_option maxHeartbeats 2000000 in
theorem big_any (c : CV) (C : Circ) (w : World) (h : Came w c C) :
    Calls Try.prog 15 #[c.v] w fun e w' => e = .returned (.bool C.bigB) ∧ Below w.heap.size w w' := by
  have h7 : c.n7 ≤ 9223372036854775807 := h.n7
  have HH := hide h.holds
  have HN := hide h.names
  have HB := hide (box_new w c)
  have eb : C.bigB = (C.names.any (fun s => decide (200 < s.2.2.size)) || ((decide (6000 < c.m) && decide (c.m < 1099511627776)) || (decide (60 < c.n6) || (decide (70 < c.n1) || (decide (70 < c.n2) || (decide (70 < c.n3) || (decide (70 < c.n4) || (decide (70 < c.n5) || decide (100 < c.n7))))))))) := by
    unfold Circ.bigB; rw [h.holds.m, h.holds.l1, h.holds.l2, h.holds.l3, h.holds.l4, h.holds.l5, h.holds.l6, h.holds.l7]
  rw [eb]
  generalize hP : (fun (e : Ending) (w' : World) => e = .returned (.bool (C.names.any (fun s => decide (200 < s.2.2.size)) || ((decide (6000 < c.m) && decide (c.m < 1099511627776)) || (decide (60 < c.n6) || (decide (70 < c.n1) || (decide (70 < c.n2) || (decide (70 < c.n3) || (decide (70 < c.n4) || (decide (70 < c.n5) || decide (100 < c.n7)))))))))) ∧ Below w.heap.size w w') = Post
  have HP := hide hP
  have HBw := hide (fun o => below_alloc w o)
  clear h eb hP
  unfold CV.v
  generalize hA7 : c.a7 = A7 at HB ⊢
  have HA7 := hide hA7
  clear hA7
  go_enter Try.func15, Try.ntmps15
  go_wp2
  go_loop [3] (fun i => ∃ k : Nat, i = .int .i64 k ∧ k ≤ c.n7 ∧ Hid (∀ j, j < k → (atP C.names j).2.2.size ≤ 200)) (fun i => c.n7 - (intOf i).toNat)
  case atStart => exact ⟨0, rfl, Nat.zero_le _, fun j hj => absurd hj (Nat.not_lt_zero _)⟩
  case round =>
    obtain ⟨k, rfl, hk, HF⟩ := hrel
    by_cases hlt : k < c.n7
    · obtain ⟨b, off, ha, hbw, hcell⟩ := HH.out.r7.addr (by rw [cellsS_len, HH.out.l7]; omega)
      rw [HA7.out] at ha
      subst ha
      have hat := cellsS_at C.names k (by rw [HH.out.l7]; exact hlt)
      have hc2 := ((HBw.out (.cells #[.int .i64 c.m, .slice c.a1 c.n1 c.c1, .slice c.a2 c.n2 c.c2, .slice c.a3 c.n3 c.c3, .slice c.a4 c.n4 c.c4, .slice c.a5 c.n5 c.c5, .slice c.a6 c.n6 c.c6, .slice (some ⟨b, off, none⟩) c.n7 c.c7] 27)).cell (p := ⟨b, off + k * 3 + 2, none⟩) hbw).trans (hcell _ _ hat.2.2)
      have hmem := atP_mem C.names k (by rw [HH.out.l7]; exact hlt)
      have hsz : (atP C.names k).2.2.size ≤ 9223372036854775807 := HN.out _ hmem
      obtain ⟨x, HX⟩ : ∃ x, Hid (x = atP C.names k) := ⟨_, rfl⟩
      rw [← HX.out] at hc2 hmem hsz
      obtain ⟨x0, x1, x2⟩ := x
      dsimp only at hc2 hsz
      have HMem := hide hmem
      obtain ⟨sz, HSz⟩ : ∃ sz, Hid (sz = x2.size) := ⟨_, rfl⟩
      have hbl : b ≠ w.heap.size := by omega
      clear hcell hat hmem
      by_cases h2 : (200 : Int) < x2.size
      · have hfin : Hid (∀ W, Below w.heap.size w W → Post (.returned (.bool true)) W) := fun W hW => by
          rw [← HP.out]
          refine ⟨ret_bool ?_, hW⟩
          rw [show (C.names.any fun s => decide (200 < s.2.2.size)) = true from List.any_eq_true.2 ⟨_, HMem.out, decide_eq_true (by show 200 < x2.size; omega)⟩]
          rfl
        go_wp2
        exact hfin.out _ (HBw.out _)
      · go_wp2
        go_round
        case rel =>
          refine ⟨k + 1, by go_num, by omega, fun j hj => ?_⟩
          by_cases hjk : j < k
          · exact HF.out j hjk
          · obtain rfl : j = k := by omega
            rw [← HX.out]; show x2.size ≤ 200; omega
        case measure => simp [intOf]; omega
    · obtain rfl : k = c.n7 := by omega
      have hany : (C.names.any fun s => decide (200 < s.2.2.size)) = false := List.any_eq_false.2 (fun s hs => by
        obtain ⟨j, hj, rfl⟩ := List.getElem_of_mem hs
        have := HF.out j (by rw [HH.out.l7] at hj; exact hj)
        rw [atP_eq C.names j hj] at this
        simp; omega)
      have hfin : Hid (∀ r W, ((decide (6000 < c.m) && decide (c.m < 1099511627776)) || (decide (60 < c.n6) || (decide (70 < c.n1) || (decide (70 < c.n2) || (decide (70 < c.n3) || (decide (70 < c.n4) || (decide (70 < c.n5) || decide (100 < c.n7)))))))) = r → Below w.heap.size w W → Post (.returned (.bool r)) W) := fun r W hr hW => by
        rw [← HP.out]
        exact ⟨ret_bool (by rw [hany, Bool.false_or]; exact hr.symm), hW⟩
      clear hany hlt hk
      by_cases hm : (decide (6000 < c.m) && decide (c.m < 1099511627776)) = true
      · have hm2 := hm
        rw [Bool.and_eq_true, decide_eq_true_eq, decide_eq_true_eq] at hm2
        obtain ⟨m1, m2⟩ := hm2
        have hend := hide (hfin.out true · (by rw [hm]; rfl))
        clear hfin hm
        go_wp2
        exact hend.out _ (HBw.out _)
      · have hm' : (decide (6000 < c.m) && decide (c.m < 1099511627776)) = false := by simpa using hm
        rw [hm', Bool.false_or] at hfin
        have hmm : ¬ 6000 < c.m ∨ (6000 < c.m ∧ ¬ c.m < 1099511627776) := by
          rw [Bool.and_eq_false_iff, decide_eq_false_iff_not, decide_eq_false_iff_not] at hm'
          omega
        clear hm hm'
        by_cases k6 : (60 : Int) < c.n6
        · have hend := hide (hfin.out true · (by rw [decide_eq_true (show 60 < c.n6 by omega)]; rfl))
          clear hfin
          rcases hmm with m1 | ⟨m1, m2⟩
          · go_wp2
            exact hend.out _ (HBw.out _)
          · go_wp2
            exact hend.out _ (HBw.out _)
        · rw [decide_eq_false (show ¬ 60 < c.n6 by omega), Bool.false_or] at hfin
          by_cases k1 : (70 : Int) < c.n1
          · have hend := hide (hfin.out true · (by rw [decide_eq_true (show 70 < c.n1 by omega)]; rfl))
            clear hfin
            rcases hmm with m1 | ⟨m1, m2⟩
            · go_wp2
              exact hend.out _ (HBw.out _)
            · go_wp2
              exact hend.out _ (HBw.out _)
          · rw [decide_eq_false (show ¬ 70 < c.n1 by omega), Bool.false_or] at hfin
            by_cases k2 : (70 : Int) < c.n2
            · have hend := hide (hfin.out true · (by rw [decide_eq_true (show 70 < c.n2 by omega)]; rfl))
              clear hfin
              rcases hmm with m1 | ⟨m1, m2⟩
              · go_wp2
                exact hend.out _ (HBw.out _)
              · go_wp2
                exact hend.out _ (HBw.out _)
            · rw [decide_eq_false (show ¬ 70 < c.n2 by omega), Bool.false_or] at hfin
              by_cases k3 : (70 : Int) < c.n3
              · have hend := hide (hfin.out true · (by rw [decide_eq_true (show 70 < c.n3 by omega)]; rfl))
                clear hfin
                rcases hmm with m1 | ⟨m1, m2⟩
                · go_wp2
                  exact hend.out _ (HBw.out _)
                · go_wp2
                  exact hend.out _ (HBw.out _)
              · rw [decide_eq_false (show ¬ 70 < c.n3 by omega), Bool.false_or] at hfin
                by_cases k4 : (70 : Int) < c.n4
                · have hend := hide (hfin.out true · (by rw [decide_eq_true (show 70 < c.n4 by omega)]; rfl))
                  clear hfin
                  rcases hmm with m1 | ⟨m1, m2⟩
                  · go_wp2
                    exact hend.out _ (HBw.out _)
                  · go_wp2
                    exact hend.out _ (HBw.out _)
                · rw [decide_eq_false (show ¬ 70 < c.n4 by omega), Bool.false_or] at hfin
                  by_cases k5 : (70 : Int) < c.n5
                  · have hend := hide (hfin.out true · (by rw [decide_eq_true (show 70 < c.n5 by omega)]; rfl))
                    clear hfin
                    rcases hmm with m1 | ⟨m1, m2⟩
                    · go_wp2
                      exact hend.out _ (HBw.out _)
                    · go_wp2
                      exact hend.out _ (HBw.out _)
                  · rw [decide_eq_false (show ¬ 70 < c.n5 by omega), Bool.false_or] at hfin
                    by_cases k7 : (100 : Int) < c.n7
                    · have hend := hide (hfin.out true · (by rw [decide_eq_true (show 100 < c.n7 by omega)]))
                      clear hfin
                      rcases hmm with m1 | ⟨m1, m2⟩
                      · go_wp2
                        exact hend.out _ (HBw.out _)
                      · go_wp2
                        exact hend.out _ (HBw.out _)
                    · have hend := hide (hfin.out false · (by rw [decide_eq_false (show ¬ 100 < c.n7 by omega)]))
                      clear hfin
                      rcases hmm with m1 | ⟨m1, m2⟩
                      · go_wp2
                        exact hend.out _ (HBw.out _)
                      · go_wp2
                        exact hend.out _ (HBw.out _)

theorem big_no {C : Circ} (h : C.bigB = false) : (C.names.length ≤ 100 ∧ C.ands.length ≤ 60 ∧ C.ins.length ≤ 70 ∧ C.lats.length ≤ 70 ∧ C.outs.length ≤ 70 ∧ C.bads.length ≤ 70 ∧ C.cons.length ≤ 70) ∧ ∀ s ∈ C.names, s.2.2.size ≤ 200 := by
  unfold Circ.bigB at h
  simp only [Bool.or_eq_false_iff, decide_eq_false_iff_not, List.any_eq_false, decide_eq_true_eq] at h
  obtain ⟨h1, h2, h3, h4, h5, h6, h7, h8, h9⟩ := h
  exact ⟨by omega, fun s hs => by have := h1 s hs; omega⟩
theorem fits_of {w : World} {c : CV} {C : Circ} (h : Came w c C) (hb : C.bigB = false) : Fits c C := by
  obtain ⟨⟨a1, a2, a3, a4, a5, a6, a7⟩, a8⟩ := big_no hb
  have l1 := h.holds.l1
  have l2 := h.holds.l2
  have l3 := h.holds.l3
  have l4 := h.holds.l4
  have l5 := h.holds.l5
  exact ⟨by omega, by omega, by omega, by omega, by omega, h.m.1, fun s hs => by have := a8 s hs; omega⟩
end Go.Proofs.Ytppaifckiaaffaa
