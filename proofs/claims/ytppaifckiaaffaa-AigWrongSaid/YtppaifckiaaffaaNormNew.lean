/-
  THE WALK of layer 4's newRenaming: the closure 'give', and its three loops.
-/
import Derived.Test.YtppaifckiaaffaaAigPlaces
import Derived.Test.YtppaifckiaaffaaNormP
namespace Go.Proofs.Ytppaifckiaaffaa
open Go.RowKit

/-- The renaming while it is made: its row, the two variables that the closure holds, the circuit's box. -/
structure RMid (w0 : World) (c : CV) (g n b5 b6 : Nat) (ps : List Int) (nx : Int) (wr : World) : Prop where
  own : wr.ownsRow (w0.heap.size + 1) 3 1 (.slice (some ⟨g, 0, none⟩) n n) n (ps.map (Value.int .i64))
  below : Below w0.heap.size w0 wr
  box : Box wr w0.heap.size c
  p5 : wr.heap[b5]? = some (.cells #[.slice (some ⟨g, 0, none⟩) n n] 70 (0, 0))
  p6 : wr.heap[b6]? = some (.cells #[.int .i64 nx] 3 (0, 0))
  g5 : g < b5
  l5 : b5 < b6
  l0 : w0.heap.size < g

theorem RMid.alloc {w0 wr : World} {c : CV} {g n b5 b6 : Nat} {ps : List Int} {nx : Int} (h : RMid w0 c g n b5 b6 ps nx wr) (o : Obj) : RMid w0 c g n b5 b6 ps nx (wr.alloc o) :=
  ⟨h.own.alloc o, belowThen h.below (below_alloc wr o), h.box.alloc o, ((below_alloc wr o).block b5 (lt_of_block h.p5)).trans h.p5, ((below_alloc wr o).block b6 (lt_of_block h.p6)).trans h.p6, h.g5, h.l5, h.l0⟩

theorem RMid.give {w0 wr : World} {c : CV} {g n b5 b6 : Nat} {ps : List Int} {nx : Int} (h : RMid w0 c g n b5 b6 ps nx wr) (i : Nat) (ny : Int) : RMid w0 c g n b5 b6 (ps.set i nx) ny ((wr.setCell ⟨g, i, none⟩ (.int .i64 nx)).setCell ⟨b6, 0, none⟩ (.int .i64 ny)) := by
  obtain ⟨h1, h2⟩ := h.own.stored i (.int .i64 nx)
  have hg5 := h.g5
  have hl5 := h.l5
  have hl0 := h.l0
  have hbx := h.box.lt
  have p6' : (wr.setCell ⟨g, i, none⟩ (.int .i64 nx)).heap[b6]? = some (.cells #[.int .i64 nx] 3 (0, 0)) := (heap_setCell_other wr ⟨g, i, none⟩ b6 _ (by show b6 ≠ g; omega)).trans h.p6
  refine ⟨?_, ?_, ?_, ?_, ?_, hg5, hl5, hl0⟩
  · rw [List.map_set]
    exact ownsRow_setCell_other h1 (a := ⟨b6, 0, none⟩) (by show some g ≠ some b6; intro e; cases e; omega) _
  · exact (h.below.grown h2 h.below.size (fun k hk => by cases hk; omega)).setCell (p := ⟨b6, 0, none⟩) (by show w0.heap.size ≤ b6; omega) _
  · exact (heap_setCell_other _ ⟨b6, 0, none⟩ _ _ (by show w0.heap.size ≠ b6; omega)).trans (h.box.grown h2 (by simp; omega))
  · exact (heap_setCell_other _ ⟨b6, 0, none⟩ b5 _ (by show b5 ≠ b6; omega)).trans ((heap_setCell_other wr ⟨g, i, none⟩ b5 _ (by show b5 ≠ g; omega)).trans h.p5)
  · exact heap_setCell_same _ b6 0 _ _ _ p6'

set_option maxRecDepth 100000 in
set_option maxHeartbeats 1000000 in
theorem give_any (w0 : World) (c : CV) (g n b5 b6 : Nat) (ps : List Int) (nx : Nat) (w : World) (l : Int) (h : RMid w0 c g n b5 b6 ps nx w) (hl0 : 0 ≤ l) (hv : varN l < n) (hn : n ≤ 10000) (hx : nx ≤ 10000) :
    Calls Try.prog 87 #[.int .i64 l, .pointer (some ⟨b6, 0, none⟩), .pointer (some ⟨b5, 0, none⟩)] w fun e w' => e = .returned (.tuple #[]) ∧ RMid w0 c g n b5 b6 (ps.set (varN l) nx) ((nx + 1 : Nat) : Int) w' := by
  have c5 := cell_of_one h.p5
  have c6 := cell_of_one h.p6
  have f6 := free_of_one h.p6
  have hq := tdiv_two hl0
  have hfin := hide (h.give (varN l) ((nx + 1 : Nat) : Int))
  obtain ⟨v, HV⟩ : ∃ v, Hid (v = varN l) := ⟨_, rfl⟩
  rw [← HV.out] at hq hv hfin ⊢
  have hcv := row_at h.own v hv
  have hfv := h.own.frozenAt v
  obtain ⟨y, HY⟩ : ∃ y, Hid (y = atP ps v) := ⟨_, rfl⟩
  rw [← HY.out] at hcv
  have hne : g ≠ b6 := by have := h.g5; have := h.l5; omega
  have hne5 : g ≠ b5 := by have := h.g5; omega
  have c6' : (w.setCell ⟨g, v, none⟩ (.int .i64 (nx : Int))).cell? ⟨b6, 0, none⟩ = some (.int .i64 (nx : Int)) := (cell_set_other (fun e => hne (congrArg Addr.block e))).trans c6
  have f6' : (w.setCell ⟨g, v, none⟩ (.int .i64 (nx : Int))).frozen? ⟨b6, 0, none⟩ = false := by
    rw [World.frozen?_of_block (w := w) (a := ⟨b6, 0, none⟩) (heap_setCell_other w ⟨g, v, none⟩ b6 _ (fun e => hne e.symm))]; exact f6
  clear h
  go_enter Try.func87, Try.ntmps87
  go_wp2
  go_end0
  exact ⟨rfl, by simpa using hfin.out⟩


theorem own_lit {C : Circ} (hL : Lits C) {l : Int} (h : l ∈ C.made) : 0 ≤ l ∧ varN l < C.max.toNat + 1 := by
  have := hL.own l h
  unfold varN
  omega
theorem made_in {C : Circ} {k : Nat} (h : k < C.ins.length) : atP C.ins k ∈ C.made := by unfold Circ.made; exact List.mem_append_left _ (List.mem_append_left _ (atP_mem _ _ h))
theorem made_lat {C : Circ} {k : Nat} (h : k < C.lats.length) : (atP C.lats k).1 ∈ C.made := by unfold Circ.made; exact List.mem_append_left _ (List.mem_append_right _ (List.mem_map.2 ⟨_, atP_mem _ _ h, rfl⟩))
theorem made_and {C : Circ} {k : Nat} (h : k < C.ands.length) : (atP C.ands k).1 ∈ C.made := by unfold Circ.made; exact List.mem_append_right _ (List.mem_map.2 ⟨_, atP_mem _ _ h, rfl⟩)

theorem rmid_new {w0 w2 : World} {c : CV} {n : Nat} {ps : List Int} (h : PMid w0 c (w0.heap.size + 1) n ps w2) : RMid w0 c (w0.heap.size + 1) n w2.heap.size (w2.heap.size + 1) ps 1 ((w2.alloc (.cells #[.slice (some ⟨w0.heap.size + 1, 0, none⟩) n n] 70)).alloc (.cells #[.int .i64 1] 3)) := by
  have e : ∀ o, (w2.alloc o).heap.size = w2.heap.size + 1 := fun o => by simp
  have h1 := (h.own.lt _ rfl).2
  refine ⟨(h.own.alloc _).alloc _, belowThen (belowThen h.below (below_alloc _ _)) (below_alloc _ _), (h.box.alloc _).alloc _, ?_, ?_, h1, Nat.lt_succ_self _, Nat.lt_succ_self _⟩
  · exact ((below_alloc _ _).block _ (by rw [e]; exact Nat.lt_succ_self _)).trans (heap_alloc_new w2 _)
  · have := heap_alloc_new (w2.alloc (.cells #[.slice (some ⟨w0.heap.size + 1, 0, none⟩) n n] 70)) (.cells #[.int .i64 1] 3)
    rw [e] at this
    exact this

/-- WHAT newRenaming TELLS. -/
def NewRen (w : World) (C : Circ) (n : Nat) (e : Ending) (w' : World) : Prop :=
  ∃ g, e = .returned (.slice (some ⟨g, 0, none⟩) n n) ∧ Below w.heap.size w w' ∧ w'.ownsRow w.heap.size 3 1 (.slice (some ⟨g, 0, none⟩) n n) n (C.ren.map (Value.int .i64))

set_option maxRecDepth 100000 in
set_option maxHeartbeats 2000000 in
theorem newRenaming_any (c : CV) (C : Circ) (w : World) (oa : Option Addr) (on oc : Nat) (h : Holds w c C) (hS : Small C) (hL : Lits C) (ho : RowK .i64 w oa (C.turn.map (fun k : Nat => (k : Int)))) (hol : C.turn.length = on) :
    Calls Try.prog 45 #[c.v, .slice oa on oc] w (NewRen w C (C.max.toNat + 1)) := by
  obtain ⟨i0, hi, hz0, hz1, hz2⟩ := info_parts infoInt
  have hm0 : 0 ≤ c.m := by rw [h.m]; exact hL.max
  have hm5 : c.m ≤ 5000 := by rw [h.m]; exact hS.max
  have h1 : c.n1 ≤ 64 := by rw [← h.l1]; exact hS.ins
  have h2 : c.n2 ≤ 64 := by rw [← h.l2]; exact hS.lats
  have h6 : c.n6 ≤ 2000 := by rw [← h.l6]; exact hS.ands
  have hn6 : on ≤ 2000 := by rw [← hol]; exact Nat.le_trans (turn_le C) hS.ands
  have HOL := hide hol
  have HO := hide ho
  have HLn : Hid (C.order.length = c.n1 + c.n2 + on) := by show C.order.length = _; rw [order_len, h.l1, h.l2, hol]
  have HL := hide hL
  obtain ⟨n, hn⟩ : ∃ n, n = C.max.toNat + 1 := ⟨_, rfl⟩
  have hnm : c.m + 1 = (n : Int) := by rw [hn, ← h.m]; omega
  have hnb : n ≤ 10000 := by omega
  have HN := hide hn
  rw [← hn]
  have HH := hide h
  have HB := hide (box_new w c)
  generalize hP : NewRen w C n = Post
  have HP := hide hP
  clear h hS hL hP hn ho hol
  have ez : ∀ o, (w.alloc o).heap.size = w.heap.size + 1 := fun o => by simp
  unfold CV.v
  generalize hA1 : c.a1 = A1 at HB ⊢
  have HA1 := hide hA1
  clear hA1
  generalize hA2 : c.a2 = A2 at HB ⊢
  have HA2 := hide hA2
  clear hA2
  generalize hA6 : c.a6 = A6 at HB ⊢
  have HA6 := hide hA6
  clear hA6
  go_enter Try.func45, Try.ntmps45
  go_wp2_with (first | (at_make; refine wpList_make_full _ rfl _ _ 70 rfl (w.heap.size + 1) 3 i0 (.int .i64 0) 1 Try.underlying70 hi hz0 hz1 .i64 .i64 _ _ n rfl rfl (by first | rfl | omega) (by first | rfl | omega) (by rw [hz2]; omega) (by unfold maxLen; omega) (by simp) ?_; intro w2 hown hg2; rw [madeI, ez] at hown; have HM0 : Hid (PMid w c (w.heap.size + 1) n (List.replicate n 0) w2) := ⟨hown, (below_alloc w _).grown hg2 (by simp) (fun k hk => by cases hk), HB.out.grown hg2 (by simp)⟩; clear hown hg2; have HM1 := hide (rmid_new HM0.out); obtain ⟨-, q1, -⟩ := HM1.out.box.cells; rw [HA1.out] at q1; clear HM0))
  rw [show List.replicate n (0 : Int) = C.renK 0 by rw [HN.out]; rfl] at HM1
  clear q1
  go_loopw [9, 22] (fun _ i wr => ∃ (k : Nat), i = .int .i64 k ∧ k ≤ c.n1 ∧ Hid (RMid w c (w.heap.size + 1) n w2.heap.size (w2.heap.size + 1) (C.renK k) ((k + 1 : Nat) : Int) wr)) (fun _ i _ => c.n1 - (intOf i).toNat)
  case atStart => exact ⟨0, rfl, Nat.zero_le _, HM1.out⟩
  case round =>
    clear HM1
    obtain ⟨k, rfl, hk, HF⟩ := hrel
    by_cases hlt : k < c.n1
    · obtain ⟨b, off, ha, hbw, hcell⟩ := HH.out.r1.addr (by rw [HH.out.l1]; omega)
      rw [HA1.out] at ha
      subst ha
      have hc0 := (HF.out.below.cell (p := ⟨b, off + k, none⟩) hbw).trans (hcell k (by rw [HH.out.l1]; exact hlt))
      rw [atP_getD] at hc0
      have hlo := own_lit HL.out (made_in (k := k) (by rw [HH.out.l1]; exact hlt))
      have HS : Hid (C.renK (k + 1) = (C.renK k).set (varN (atP C.ins k)) ((k + 1 : Nat) : Int)) := by
        show C.renK (k + 1) = _
        rw [renK_succ (by rw [HLn.out]; omega), order_in (by rw [HH.out.l1]; exact hlt)]
      rw [← HN.out] at hlo
      generalize atP C.ins k = x at hc0 hlo HS
      obtain ⟨x0, xv⟩ := hlo
      have HG := hide (give_any w c (w.heap.size + 1) n w2.heap.size (w2.heap.size + 1) (C.renK k) (k + 1) wr x HF.out x0 xv hnb (by omega))
      clear hcell xv
      go_wp2_with (go_at_call 87; refine HG.out.mono ?_; rintro e w3 ⟨rfl, hm3⟩; have HM3 := hide hm3; clear hm3)
      go_roundw
      case rel => exact ⟨k + 1, by go_num, by omega, by rw [HS.out]; exact HM3.out⟩
      case measure => simp [intOf]; omega
    · obtain rfl : k = c.n1 := by omega
      obtain ⟨-, -, q2, -⟩ := HF.out.box.cells
      rw [HA2.out] at q2
      have HM1 := hide HF.out
      clear HF hlt hk
      go_wp2
      rename World => wo
      go_loopw [11, 33] (fun _ i wr => ∃ (k : Nat), i = .int .i64 k ∧ k ≤ c.n2 ∧ Hid (RMid w c (w.heap.size + 1) n w2.heap.size (w2.heap.size + 1) (C.renK (c.n1 + k)) ((c.n1 + k + 1 : Nat) : Int) wr)) (fun _ i _ => c.n2 - (intOf i).toNat)
      case atStart => exact ⟨0, rfl, Nat.zero_le _, HM1.out⟩
      case round =>
        clear HM1 q2
        obtain ⟨k, rfl, hk, HF⟩ := hrel
        by_cases hlt : k < c.n2
        · obtain ⟨b, off, ha, hbw, hcell⟩ := HH.out.r2.addr (by rw [cellsT_len, HH.out.l2]; omega)
          rw [HA2.out] at ha
          subst ha
          have hat := cellsT_at C.lats k (by rw [HH.out.l2]; exact hlt)
          have hc0 := (HF.out.below.cell (p := ⟨b, off + k * 3, none⟩) hbw).trans (hcell _ _ hat.1)
          have hc1 := (HF.out.below.cell (p := ⟨b, off + k * 3 + 1, none⟩) hbw).trans (hcell _ _ hat.2.1)
          have hc2 := (HF.out.below.cell (p := ⟨b, off + k * 3 + 2, none⟩) hbw).trans (hcell _ _ hat.2.2)
          have hlo := own_lit HL.out (made_lat (k := k) (by rw [HH.out.l2]; exact hlt))
          have HS : Hid (C.renK (c.n1 + (k + 1)) = (C.renK (c.n1 + k)).set (varN (atP C.lats k).1) ((c.n1 + k + 1 : Nat) : Int)) := by
            show C.renK (c.n1 + (k + 1)) = _
            have e := order_lat (C := C) (k := k) (by rw [HH.out.l2]; exact hlt)
            rw [HH.out.l1] at e
            rw [← Nat.add_assoc, renK_succ (by rw [HLn.out]; omega), e]
          rw [← HN.out] at hlo
          generalize atP C.lats k = x at hc0 hc1 hc2 hlo HS
          obtain ⟨x0, x1, x2⟩ := x
          dsimp only at hc0 hc1 hc2 hlo HS
          obtain ⟨y0, xv⟩ := hlo
          have HG := hide (give_any w c (w.heap.size + 1) n w2.heap.size (w2.heap.size + 1) (C.renK (c.n1 + k)) (c.n1 + k + 1) (wr.alloc (.cells #[.int .i64 x0, .int .i64 x1, .int .i64 x2] 43)) x0 (HF.out.alloc _) y0 xv hnb (by omega))
          clear hcell hat xv
          go_wp2_with (go_at_call 87; refine HG.out.mono ?_; rintro e w3 ⟨rfl, hm3⟩; have HM3 := hide hm3; clear hm3)
          go_roundw
          case rel => exact ⟨k + 1, by go_num, by omega, by rw [HS.out]; exact HM3.out⟩
          case measure => simp [intOf]; omega
        · obtain rfl : k = c.n2 := by omega
          have HM1 := hide HF.out
          clear HF hlt hk
          go_wp2
          rename World => wo2
          go_loopw [13, 44] (fun _ i wr => ∃ (k : Nat), i = .int .i64 k ∧ k ≤ on ∧ Hid (RMid w c (w.heap.size + 1) n w2.heap.size (w2.heap.size + 1) (C.renK (c.n1 + c.n2 + k)) ((c.n1 + c.n2 + k + 1 : Nat) : Int) wr)) (fun _ i _ => on - (intOf i).toNat)
          case atStart => exact ⟨0, rfl, Nat.zero_le _, HM1.out⟩
          case round =>
            clear HM1
            obtain ⟨k, rfl, hk, HF⟩ := hrel
            by_cases hlt : k < on
            · obtain ⟨bo, oo, ha, hbo, hocell⟩ := HO.out.addr (by rw [List.length_map, HOL.out]; omega)
              subst ha
              have ho0 := (HF.out.below.cell (p := ⟨bo, oo + k, none⟩) hbo).trans (hocell k (by rw [List.length_map, HOL.out]; exact hlt))
              rw [atP_getD, atP_map _ _ _ (by rw [HOL.out]; exact hlt)] at ho0
              have hpl := turn_lt _ (atP_mem C.turn k (by rw [HOL.out]; exact hlt))
              have HS : Hid (C.renK (c.n1 + c.n2 + (k + 1)) = (C.renK (c.n1 + c.n2 + k)).set (varN (atP C.ands (atP C.turn k)).1) ((c.n1 + c.n2 + k + 1 : Nat) : Int)) := by
                show C.renK (c.n1 + c.n2 + (k + 1)) = _
                have e := order_and (C := C) (k := k) (by rw [HOL.out]; exact hlt)
                rw [HH.out.l1, HH.out.l2] at e
                rw [← Nat.add_assoc, renK_succ (by rw [HLn.out]; omega), e]
                rfl
              generalize atP C.turn k = p at ho0 hpl HS
              obtain ⟨b, off, ha, hbw, hcell⟩ := HH.out.r6.addr (by rw [cellsT_len]; omega)
              rw [HA6.out] at ha
              subst ha
              have hat := cellsT_at C.ands p hpl
              have hc0 := (HF.out.below.cell (p := ⟨b, off + p * 3, none⟩) hbw).trans (hcell _ _ hat.1)
              have hlo := own_lit HL.out (made_and hpl)
              rw [← HN.out] at hlo
              rw [HH.out.l6] at hpl
              generalize (atP C.ands p).1 = x at hc0 hlo HS
              obtain ⟨y0, xv⟩ := hlo
              obtain ⟨-, -, -, -, -, -, q6, -⟩ := HF.out.box.cells
              rw [HA6.out] at q6
              have HG := hide (give_any w c (w.heap.size + 1) n w2.heap.size (w2.heap.size + 1) (C.renK (c.n1 + c.n2 + k)) (c.n1 + c.n2 + k + 1) wr x HF.out y0 xv hnb (by omega))
              clear hcell hocell hat xv
              go_wp2_with (go_at_call 87; refine HG.out.mono ?_; rintro e w3 ⟨rfl, hm3⟩; have HM3 := hide hm3; clear hm3)
              go_roundw
              case rel => exact ⟨k + 1, by go_num, by omega, by rw [HS.out]; exact HM3.out⟩
              case measure => simp [intOf]; omega
            · obtain rfl : k = on := by omega
              have c5 := cell_of_one HF.out.p5
              have hfin : Hid (Post (.returned (.slice (some ⟨w.heap.size + 1, 0, none⟩) n n)) wr) := by
                show Post _ wr
                rw [← HP.out]
                refine ⟨_, rfl, HF.out.below, ?_⟩
                rw [← renK_all C HLn.out.symm]
                exact own_le HF.out.own (Nat.le_succ _)
              go_wp2
              exact hfin.out
end Go.Proofs.Ytppaifckiaaffaa
