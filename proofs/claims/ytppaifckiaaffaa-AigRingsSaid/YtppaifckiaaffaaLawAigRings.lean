/-
  THE WALK of the law AigRings.
-/
import Derived.Test.YtppaifckiaaffaaRingsP
import Derived.Test.YtppaifckiaaffaaNormGood
import Derived.Test.YtppaifckiaaffaaAigTwo
import Derived.Test.YtppaifckiaaffaaLawAigChecks
namespace Go.Proofs.Ytppaifckiaaffaa
open Go.RowKit

theorem own_fresh {w W : World} {B n size : Nat} {t : TypeId} {cs : List Value} (hW : W = w.alloc (.cells cs.toArray t)) (hl : cs.length = n * size) (hB : B ≤ w.heap.size) (hn : n ≤ 1000000) : W.ownsRow B t size (.slice (some ⟨w.heap.size, 0, none⟩) n n) n cs := by
  subst hW
  exact ⟨hl, .inr ⟨w.heap.size, n, cs.toArray, rfl, hB, heap_alloc_new w _, Nat.le_refl _, by unfold maxLen; omega, by simpa using hl, by simp [← hl]⟩⟩

def ringV (B n : Nat) (A6 : Option Addr) (k K6 : Nat) : CV := ⟨(n : Int) + 1, some ⟨B, 0, none⟩, 1, 1, none, 0, 0, none, 0, 0, none, 0, 0, none, 0, 0, A6, k, K6, none, 0, 0⟩

/-- The circuit while its Ands are made. -/
structure RLoop (w1 : World) (n a : Nat) (r : Bool) (A6 : Option Addr) (k K6 : Nat) (wr : World) : Prop where
  box : Box wr (w1.heap.size + 1) (ringV w1.heap.size n A6 k K6)
  own : wr.ownsRow (w1.heap.size + 2) 46 3 (.slice A6 k K6) k (cellsT (rAnds a r k))
  ins : RowK .i64 wr (some ⟨w1.heap.size, 0, none⟩) [2]
  below : Below w1.heap.size w1 wr
theorem RLoop.step {w1 wr W2 w4 : World} {n a k K6 K4 : Nat} {r : Bool} {A6 A4 : Option Addr} (h : RLoop w1 n a r A6 k K6 wr) (hb : Below wr.heap.size wr W2) (hg : W2.grownBy w4 (some (wr.heap.size + 1)))
    (hown : w4.ownsRow (w1.heap.size + 2) 46 3 (.slice A4 (k + 1) K4) (k + 1) (cellsT (rAnds a r (k + 1)))) : RLoop w1 n a r A4 (k + 1) K4 (w4.setCell ⟨w1.heap.size + 1, 6, none⟩ (.slice A4 (k + 1) K4)) := by
  have hbl := h.box.lt
  have hb4 : Below wr.heap.size wr w4 := hb.grown hg hb.size (fun k hk => by cases hk; omega)
  refine ⟨?_, ownsRow_setCell_below hown (a := ⟨w1.heap.size + 1, 6, none⟩) (Nat.lt_succ_self _) _, ?_, ?_⟩
  · exact box_eight (c' := ringV w1.heap.size n A4 (k + 1) K4) (h.box.below hb4) 6 _ rfl
  · have h1 := h.ins.below hb4
    refine row_kept h1 (fun x hx => ?_)
    cases hx
    exact heap_setCell_other _ ⟨w1.heap.size + 1, 6, none⟩ _ _ (by show w1.heap.size ≠ w1.heap.size + 1; omega)
  · exact (belowThen h.below hb4).setCell (p := ⟨w1.heap.size + 1, 6, none⟩) (Nat.le_succ _) _
theorem rloop_new (w1 : World) (n a : Nat) (r : Bool) : RLoop w1 n a r none 0 0 ((w1.alloc (.cells #[.int .i64 2] 3)).alloc (.cells #[.int .i64 ((n : Int) + 1), .slice (some ⟨w1.heap.size, 0, none⟩) 1 1, .slice none 0 0, .slice none 0 0, .slice none 0 0, .slice none 0 0, .slice none 0 0, .slice none 0 0] 27)) := by
  refine ⟨?_, World.ownsRow_nil _ _ _ _, (row_one w1 2 3).below (below_alloc _ _), belowThen (below_alloc w1 _) (below_alloc _ _)⟩
  have := box_new (w1.alloc (.cells #[.int .i64 2] 3)) (ringV w1.heap.size n none 0 0)
  have e : ∀ o, (w1.alloc o).heap.size = w1.heap.size + 1 := fun o => by simp
  rw [e] at this
  exact this
theorem RLoop.holds {w1 wr : World} {n a K6 : Nat} {r : Bool} {A6 : Option Addr} (h : RLoop w1 n a r A6 n K6 wr) : Holds wr (ringV w1.heap.size n A6 n K6) (ringC n a r) := by
  obtain ⟨hr, hz⟩ := rowC_own' h.own
  exact ⟨rfl, h.ins, rfl, (fun e => by cases e), .inl ⟨rfl, rfl⟩, rfl, fun _ => rfl, .inl ⟨rfl, rfl⟩, rfl, fun _ => rfl, .inl ⟨rfl, rfl⟩, rfl, fun _ => rfl, .inl ⟨rfl, rfl⟩, rfl, fun _ => rfl, hr, rAnds_len a r n, hz, .inl ⟨rfl, rfl⟩, rfl, fun _ => rfl⟩
theorem first_cells {w : World} {a : Option Addr} {b o : Nat} {ts : List Tri} (h : RowC w a (cellsT ts)) (ha : a = some ⟨b, o, none⟩) (hp : 0 < ts.length) : w.cell? ⟨b, o + 1, none⟩ = some (.int .i64 (atP ts 0).2.1) ∧ w.cell? ⟨b, o + 2, none⟩ = some (.int .i64 (atP ts 0).2.2) := by
  have hat := cellsT_at ts 0 hp
  rcases h with ⟨e, _⟩ | ⟨x, e, hx⟩
  · rw [e] at ha; cases ha
  · rw [e] at ha
    cases ha
    have h1 := hx _ _ hat.2.1
    have h2 := hx _ _ hat.2.2
    rw [add_plain] at h1 h2
    simp only [Nat.zero_mul, Nat.zero_add] at h1 h2
    exact ⟨h1, h2⟩
theorem box_holds {w0 W W' : World} {b b7 : Nat} {c d : CV} {C D : Circ} (h : Holds W c C ∧ Box W b c ∧ Holds W d D ∧ Box W b7 d ∧ Below w0.heap.size w0 W) (hb : Below W.heap.size W W') : Holds W' c C ∧ Box W' b c ∧ Holds W' d D ∧ Box W' b7 d ∧ Below w0.heap.size w0 W' := ⟨h.1.below hb, h.2.1.below hb, h.2.2.1.below hb, h.2.2.2.1.below hb, belowThen h.2.2.2.2 hb⟩

set_option maxRecDepth 100000 in
set_option maxHeartbeats 4000000 in
theorem aigRings_in (n a : Nat) (r : Bool) (w : World) (hn1 : 1 ≤ n) (hn : n ≤ 50) (ha : a < n) :
    Calls Try.prog 8 #[.int .i64 (n : Int), .int .i64 (a : Int), .bool r] w fun e w' => e = .returned (.bool true) ∧ Below w.heap.size w w' := by
  obtain ⟨i6, hi6, hx0, hx1, hx2⟩ := info_parts infoT6
  have HAl := hide (fun W => alive_any W)
  have hd1 : decide ((n : Int) < 1) = false := decide_eq_false (by omega)
  have hd2 : decide ((50 : Int) < (n : Int)) = false := decide_eq_false (by omega)
  have hd3 : decide ((a : Int) < 0) = false := decide_eq_false (by omega)
  have hd4 : decide ((n : Int) ≤ (a : Int)) = false := decide_eq_false (by omega)
  have hd5 : decide (n ≤ a) = false := decide_eq_false (by omega)
  go_enter Try.func8, Try.ntmps8
  go_wp2_with fail
  refine (HAl.out _).mono ?_
  rintro e w1 ⟨rfl, hb1⟩
  have HB1 := hide hb1
  have HR0 := hide (rloop_new w1 n a r)
  clear hb1 HAl
  go_wp2
  go_loopw [9, 10] (fun i _ wr => ∃ (k : Nat), i = .int .i64 k ∧ k ≤ n ∧ Hid (∃ (A6 : Option Addr) (K6 : Nat), RLoop w1 n a r A6 k K6 wr)) (fun i _ _ => n - (intOf i).toNat)
  case atStart => exact ⟨0, rfl, Nat.zero_le _, ⟨none, 0, HR0.out⟩⟩
  case round =>
    clear HR0
    obtain ⟨k, rfl, hk, HF0⟩ := hrel
    obtain ⟨A6, K6, HF1⟩ := HF0.out
    have HF := hide HF1
    clear HF0 HF1
    by_cases hlt : k < n
    · by_cases hk0 : (k : Int) = 0
      · have hkz : ((k : Int) == 0) = true := by simpa using hk0
        have hkn : k = 0 := by omega
        cases r with
        | true =>
          have HIF : (if k = 0 ∧ true = true then 2 * ((a : Int) + 2) + 1 else 2 * ((k : Int) + 1)) = 2 * ((a : Int) + 2) + 1 := if_pos ⟨hkn, rfl⟩
          clear hk0 hkn
          have hsz : (wr.alloc (.cells #[.int .i64 (2 * ((k : Int) + 2)), .int .i64 (2 * ((a : Int) + 2) + 1), .int .i64 3] 46)).heap.size = wr.heap.size + 1 := by simp
          have HW2 : Hid (Below wr.heap.size wr ((wr.alloc (.cells #[.int .i64 (2 * ((k : Int) + 2)), .int .i64 (2 * ((a : Int) + 2) + 1), .int .i64 3] 46)).alloc (.cells #[.int .i64 (2 * ((k : Int) + 2)), .int .i64 (2 * ((a : Int) + 2) + 1), .int .i64 3] 46))) := belowThen (below_alloc wr _) (below_alloc _ _)
          have HOw : Hid (((wr.alloc (.cells #[.int .i64 (2 * ((k : Int) + 2)), .int .i64 (2 * ((a : Int) + 2) + 1), .int .i64 3] 46)).alloc (.cells #[.int .i64 (2 * ((k : Int) + 2)), .int .i64 (2 * ((a : Int) + 2) + 1), .int .i64 3] 46)).ownsRow (w1.heap.size + 2) 46 3 (.slice (some ⟨wr.heap.size + 1, 0, none⟩) 1 1) 1 [.int .i64 (2 * ((k : Int) + 2)), .int .i64 (2 * ((a : Int) + 2) + 1), .int .i64 3]) := by
            have := own_fresh (w := (wr.alloc (.cells #[.int .i64 (2 * ((k : Int) + 2)), .int .i64 (2 * ((a : Int) + 2) + 1), .int .i64 3] 46))) (B := w1.heap.size + 2) (n := 1) (size := 3) (t := 46) (cs := [.int .i64 (2 * ((k : Int) + 2)), .int .i64 (2 * ((a : Int) + 2) + 1), .int .i64 3]) rfl rfl (by rw [hsz]; have := HF.out.box.lt; omega) (by decide)
            rw [hsz] at this
            exact this
          have HRow := hide ((rowC_own' HF.out.own).1.below HW2.out)
          have HZ := hide (rowC_own' HF.out.own).2
          have HLen : Hid ((cellsT (rAnds a true k)).length = k * 3) := by show (cellsT (rAnds a true k)).length = k * 3; rw [cellsT_len, rAnds_len]
          have HE : Hid ([.int .i64 (2 * ((k : Int) + 2)), .int .i64 (2 * ((a : Int) + 2) + 1), .int .i64 3] ++ cellsT (rAnds a true k) = cellsT (rAnds a true (k + 1))) := by
            show [.int .i64 (2 * ((k : Int) + 2)), .int .i64 (2 * ((a : Int) + 2) + 1), .int .i64 3] ++ cellsT (rAnds a true k) = cellsT (rAnd a true k :: rAnds a true k)
            rw [cellsT_cons]
            unfold rAnd
            rw [HIF]
            rfl
          have HBx := hide (HF.out.box.below HW2.out)
          obtain ⟨-, -, -, -, -, -, q6, -⟩ := HBx.out.cells
          dsimp only [ringV] at q6
          have q6a := HF.out.box.cells.2.2.2.2.2.2.1
          dsimp only [ringV] at q6a
          have hbl := HF.out.box.lt
          go_wp2_with (at_builtin; refine wpList_append_rowC _ rfl (.tmp 62) (.tmp 64) 24 rfl (w1.heap.size + 2) 46 i6 (.agg #[.int .i64 0, .int .i64 0, .int .i64 0]) 3 24 Try.underlying24 hi6 hx0 hx1 hx2 rfl (by decide) _ 1 [.int .i64 (2 * ((k : Int) + 2)), .int .i64 (2 * ((a : Int) + 2) + 1), .int .i64 3] rfl HOw.out A6 k K6 (cellsT (rAnds a true k)) rfl HLen.out HRow.out HZ.out (cellsT_one _) (by unfold maxLen; omega) (by omega) (by simp; omega) ?_; intro v4 w4 hown4 hg4; rw [HE.out, Nat.add_comm 1 k] at hown4; obtain ⟨A4, K4, rfl⟩ := own_form hown4; have HSt := hide (HF.out.step HW2.out hg4 hown4); have hB4 := HBx.out.grown hg4 (fun e => by have h5 : wr.heap.size + 1 = w1.heap.size + 1 := Option.some.inj e; omega); have q4 := hB4.cells.2.2.2.2.2.2.1; dsimp only [ringV] at q4; have f4 := box_frozen hB4 6; clear hown4 hg4 hB4)
          go_roundw
          case rel => first | exact ⟨k + 1, by go_num, by omega, ⟨A4, K4, HSt.out⟩⟩ | trace_state
          case measure => simp [intOf]; omega
        | false =>
          have HIF : (if k = 0 ∧ false = true then 2 * ((a : Int) + 2) + 1 else 2 * ((k : Int) + 1)) = 2 * ((k : Int) + 1) := if_neg (fun h => by cases h.2)
          clear hk0 hkn
          have hsz : (wr.alloc (.cells #[.int .i64 (2 * ((k : Int) + 2)), .int .i64 (2 * ((k : Int) + 1)), .int .i64 3] 46)).heap.size = wr.heap.size + 1 := by simp
          have HW2 : Hid (Below wr.heap.size wr ((wr.alloc (.cells #[.int .i64 (2 * ((k : Int) + 2)), .int .i64 (2 * ((k : Int) + 1)), .int .i64 3] 46)).alloc (.cells #[.int .i64 (2 * ((k : Int) + 2)), .int .i64 (2 * ((k : Int) + 1)), .int .i64 3] 46))) := belowThen (below_alloc wr _) (below_alloc _ _)
          have HOw : Hid (((wr.alloc (.cells #[.int .i64 (2 * ((k : Int) + 2)), .int .i64 (2 * ((k : Int) + 1)), .int .i64 3] 46)).alloc (.cells #[.int .i64 (2 * ((k : Int) + 2)), .int .i64 (2 * ((k : Int) + 1)), .int .i64 3] 46)).ownsRow (w1.heap.size + 2) 46 3 (.slice (some ⟨wr.heap.size + 1, 0, none⟩) 1 1) 1 [.int .i64 (2 * ((k : Int) + 2)), .int .i64 (2 * ((k : Int) + 1)), .int .i64 3]) := by
            have := own_fresh (w := (wr.alloc (.cells #[.int .i64 (2 * ((k : Int) + 2)), .int .i64 (2 * ((k : Int) + 1)), .int .i64 3] 46))) (B := w1.heap.size + 2) (n := 1) (size := 3) (t := 46) (cs := [.int .i64 (2 * ((k : Int) + 2)), .int .i64 (2 * ((k : Int) + 1)), .int .i64 3]) rfl rfl (by rw [hsz]; have := HF.out.box.lt; omega) (by decide)
            rw [hsz] at this
            exact this
          have HRow := hide ((rowC_own' HF.out.own).1.below HW2.out)
          have HZ := hide (rowC_own' HF.out.own).2
          have HLen : Hid ((cellsT (rAnds a false k)).length = k * 3) := by show (cellsT (rAnds a false k)).length = k * 3; rw [cellsT_len, rAnds_len]
          have HE : Hid ([.int .i64 (2 * ((k : Int) + 2)), .int .i64 (2 * ((k : Int) + 1)), .int .i64 3] ++ cellsT (rAnds a false k) = cellsT (rAnds a false (k + 1))) := by
            show [.int .i64 (2 * ((k : Int) + 2)), .int .i64 (2 * ((k : Int) + 1)), .int .i64 3] ++ cellsT (rAnds a false k) = cellsT (rAnd a false k :: rAnds a false k)
            rw [cellsT_cons]
            unfold rAnd
            rw [HIF]
            rfl
          have HBx := hide (HF.out.box.below HW2.out)
          obtain ⟨-, -, -, -, -, -, q6, -⟩ := HBx.out.cells
          dsimp only [ringV] at q6
          have q6a := HF.out.box.cells.2.2.2.2.2.2.1
          dsimp only [ringV] at q6a
          have hbl := HF.out.box.lt
          go_wp2_with (at_builtin; refine wpList_append_rowC _ rfl (.tmp 62) (.tmp 64) 24 rfl (w1.heap.size + 2) 46 i6 (.agg #[.int .i64 0, .int .i64 0, .int .i64 0]) 3 24 Try.underlying24 hi6 hx0 hx1 hx2 rfl (by decide) _ 1 [.int .i64 (2 * ((k : Int) + 2)), .int .i64 (2 * ((k : Int) + 1)), .int .i64 3] rfl HOw.out A6 k K6 (cellsT (rAnds a false k)) rfl HLen.out HRow.out HZ.out (cellsT_one _) (by unfold maxLen; omega) (by omega) (by simp; omega) ?_; intro v4 w4 hown4 hg4; rw [HE.out, Nat.add_comm 1 k] at hown4; obtain ⟨A4, K4, rfl⟩ := own_form hown4; have HSt := hide (HF.out.step HW2.out hg4 hown4); have hB4 := HBx.out.grown hg4 (fun e => by have h5 : wr.heap.size + 1 = w1.heap.size + 1 := Option.some.inj e; omega); have q4 := hB4.cells.2.2.2.2.2.2.1; dsimp only [ringV] at q4; have f4 := box_frozen hB4 6; clear hown4 hg4 hB4)
          go_roundw
          case rel => first | exact ⟨k + 1, by go_num, by omega, ⟨A4, K4, HSt.out⟩⟩ | trace_state
          case measure => simp [intOf]; omega
      · have hkz : ((k : Int) == 0) = false := by simpa using hk0
        have hkn : ¬ (k = 0) := by omega
        have HIF : (if k = 0 ∧ r = true then 2 * ((a : Int) + 2) + 1 else 2 * ((k : Int) + 1)) = 2 * ((k : Int) + 1) := if_neg (fun h => hkn h.1)
        clear hk0 hkn
        have hsz : (wr.alloc (.cells #[.int .i64 (2 * ((k : Int) + 2)), .int .i64 (2 * ((k : Int) + 1)), .int .i64 3] 46)).heap.size = wr.heap.size + 1 := by simp
        have HW2 : Hid (Below wr.heap.size wr ((wr.alloc (.cells #[.int .i64 (2 * ((k : Int) + 2)), .int .i64 (2 * ((k : Int) + 1)), .int .i64 3] 46)).alloc (.cells #[.int .i64 (2 * ((k : Int) + 2)), .int .i64 (2 * ((k : Int) + 1)), .int .i64 3] 46))) := belowThen (below_alloc wr _) (below_alloc _ _)
        have HOw : Hid (((wr.alloc (.cells #[.int .i64 (2 * ((k : Int) + 2)), .int .i64 (2 * ((k : Int) + 1)), .int .i64 3] 46)).alloc (.cells #[.int .i64 (2 * ((k : Int) + 2)), .int .i64 (2 * ((k : Int) + 1)), .int .i64 3] 46)).ownsRow (w1.heap.size + 2) 46 3 (.slice (some ⟨wr.heap.size + 1, 0, none⟩) 1 1) 1 [.int .i64 (2 * ((k : Int) + 2)), .int .i64 (2 * ((k : Int) + 1)), .int .i64 3]) := by
          have := own_fresh (w := (wr.alloc (.cells #[.int .i64 (2 * ((k : Int) + 2)), .int .i64 (2 * ((k : Int) + 1)), .int .i64 3] 46))) (B := w1.heap.size + 2) (n := 1) (size := 3) (t := 46) (cs := [.int .i64 (2 * ((k : Int) + 2)), .int .i64 (2 * ((k : Int) + 1)), .int .i64 3]) rfl rfl (by rw [hsz]; have := HF.out.box.lt; omega) (by decide)
          rw [hsz] at this
          exact this
        have HRow := hide ((rowC_own' HF.out.own).1.below HW2.out)
        have HZ := hide (rowC_own' HF.out.own).2
        have HLen : Hid ((cellsT (rAnds a r k)).length = k * 3) := by show (cellsT (rAnds a r k)).length = k * 3; rw [cellsT_len, rAnds_len]
        have HE : Hid ([.int .i64 (2 * ((k : Int) + 2)), .int .i64 (2 * ((k : Int) + 1)), .int .i64 3] ++ cellsT (rAnds a r k) = cellsT (rAnds a r (k + 1))) := by
          show [.int .i64 (2 * ((k : Int) + 2)), .int .i64 (2 * ((k : Int) + 1)), .int .i64 3] ++ cellsT (rAnds a r k) = cellsT (rAnd a r k :: rAnds a r k)
          rw [cellsT_cons]
          unfold rAnd
          rw [HIF]
          rfl
        have HBx := hide (HF.out.box.below HW2.out)
        obtain ⟨-, -, -, -, -, -, q6, -⟩ := HBx.out.cells
        dsimp only [ringV] at q6
        have q6a := HF.out.box.cells.2.2.2.2.2.2.1
        dsimp only [ringV] at q6a
        have hbl := HF.out.box.lt
        go_wp2_with (at_builtin; refine wpList_append_rowC _ rfl (.tmp 62) (.tmp 64) 24 rfl (w1.heap.size + 2) 46 i6 (.agg #[.int .i64 0, .int .i64 0, .int .i64 0]) 3 24 Try.underlying24 hi6 hx0 hx1 hx2 rfl (by decide) _ 1 [.int .i64 (2 * ((k : Int) + 2)), .int .i64 (2 * ((k : Int) + 1)), .int .i64 3] rfl HOw.out A6 k K6 (cellsT (rAnds a r k)) rfl HLen.out HRow.out HZ.out (cellsT_one _) (by unfold maxLen; omega) (by omega) (by simp; omega) ?_; intro v4 w4 hown4 hg4; rw [HE.out, Nat.add_comm 1 k] at hown4; obtain ⟨A4, K4, rfl⟩ := own_form hown4; have HSt := hide (HF.out.step HW2.out hg4 hown4); have hB4 := HBx.out.grown hg4 (fun e => by have h5 : wr.heap.size + 1 = w1.heap.size + 1 := Option.some.inj e; omega); have q4 := hB4.cells.2.2.2.2.2.2.1; dsimp only [ringV] at q4; have f4 := box_frozen hB4 6; clear hown4 hg4 hB4)
        go_roundw
        case rel => first | exact ⟨k + 1, by go_num, by omega, ⟨A4, K4, HSt.out⟩⟩ | trace_state
        case measure => simp [intOf]; omega
    · obtain rfl : k = n := by omega
      have HHo := hide HF.out.holds
      have HBo := hide HF.out.box
      have HBe := hide (belowThen HB1.out HF.out.below)
      have HRc : Hid (Read (ringV w1.heap.size k A6 k K6)) := ⟨by show 1 ≤ 1000000; decide, by show 0 ≤ 1000000; decide, by show 0 ≤ 1000000; decide, by show 0 ≤ 1000000; decide, by show 0 ≤ 1000000; decide, by show k ≤ 1000000; omega, by show 0 ≤ 1000000; decide⟩
      have HFt : Hid (Fits (ringV w1.heap.size k A6 k K6) (ringC k a r)) := fits_read HHo.out HRc.out (⟨by show (-9223372036854775808 : Int) ≤ (k : Int) + 1; omega, by show (k : Int) + 1 ≤ 9223372036854775807; omega⟩) (fun s hs => by cases hs)
      have hcv : (ringV w1.heap.size k A6 k K6).v = .agg #[.int .i64 ((k : Int) + 1), .slice (some ⟨w1.heap.size, 0, none⟩) 1 1, .slice none 0 0, .slice none 0 0, .slice none 0 0, .slice none 0 0, .slice A6 k K6, .slice none 0 0] := rfl
      obtain ⟨p0, p1, p2, p3, p4, p5, p6, p7⟩ := HBo.out.cells
      dsimp only [ringV] at p0 p1 p2 p3 p4 p5 p6 p7
      have HNo := hide (normal_any (ringV w1.heap.size k A6 k K6) (ringC k a r) wr HHo.out HFt.out)
      rw [hcv, ring_want hn ha] at HNo
      have HWt := hide (ring_want (r := r) hn ha)
      clear HF hlt hk hcv
      cases r with
      | true =>
        go_wp2_with fail
        refine HNo.out.mono ?_
        rintro e w5 ⟨d, rfl, hd, rd, hdm, hb5⟩
        have hdv : d.v = .agg #[.int .i64 d.m, .slice d.a1 d.n1 d.c1, .slice d.a2 d.n2 d.c2, .slice d.a3 d.n3 d.c3, .slice d.a4 d.n4 d.c4, .slice d.a5 d.n5 d.c5, .slice d.a6 d.n6 d.c6, .slice d.a7 d.n7 d.c7] := rfl
        rw [hdv]
        have HT : Hid (Holds (w5.alloc (.cells #[.int .i64 d.m, .slice d.a1 d.n1 d.c1, .slice d.a2 d.n2 d.c2, .slice d.a3 d.n3 d.c3, .slice d.a4 d.n4 d.c4, .slice d.a5 d.n5 d.c5, .slice d.a6 d.n6 d.c6, .slice d.a7 d.n7 d.c7] 27)) (ringV w1.heap.size k A6 k K6) (ringC k a true) ∧ Box (w5.alloc (.cells #[.int .i64 d.m, .slice d.a1 d.n1 d.c1, .slice d.a2 d.n2 d.c2, .slice d.a3 d.n3 d.c3, .slice d.a4 d.n4 d.c4, .slice d.a5 d.n5 d.c5, .slice d.a6 d.n6 d.c6, .slice d.a7 d.n7 d.c7] 27)) (w1.heap.size + 1) (ringV w1.heap.size k A6 k K6) ∧ Below w.heap.size w (w5.alloc (.cells #[.int .i64 d.m, .slice d.a1 d.n1 d.c1, .slice d.a2 d.n2 d.c2, .slice d.a3 d.n3 d.c3, .slice d.a4 d.n4 d.c4, .slice d.a5 d.n5 d.c5, .slice d.a6 d.n6 d.c6, .slice d.a7 d.n7 d.c7] 27))) := ⟨(HHo.out.below hb5).below (below_alloc _ _), (HBo.out.below hb5).alloc _, belowThen (belowThen HBe.out hb5) (below_alloc _ _)⟩
        have hcv : (ringV w1.heap.size k A6 k K6).v = .agg #[.int .i64 ((k : Int) + 1), .slice (some ⟨w1.heap.size, 0, none⟩) 1 1, .slice none 0 0, .slice none 0 0, .slice none 0 0, .slice none 0 0, .slice A6 k K6, .slice none 0 0] := rfl
        have HCk := hide (check_any (ringV w1.heap.size k A6 k K6) (ringC k a true) _ HT.out.1 HFt.out)
        rw [hcv, HWt.out] at HCk
        clear p0 p1 p2 p3 p4 p5 p6 p7 hd rd hdm hb5 HNo hdv hcv
        obtain ⟨p0, p1, p2, p3, p4, p5, p6, p7⟩ := HT.out.2.1.cells
        dsimp only [ringV] at p0 p1 p2 p3 p4 p5 p6 p7
        go_wp2_with (first | (go_at_call 18; refine HCk.out.mono ?_; rintro e w6 ⟨rfl, hb6⟩; have HB6 := hide (belowThen HT.out.2.2 hb6); clear hb6) | (go_at_call 17; refine (num_any _ _).mono ?_; rintro e w' ⟨rfl, hw'⟩; obtain rfl := hw'.symm))
        go_ret
        exact ⟨rfl, HB6.out⟩
      | false =>
        rw [show (ringC k a false).normE = (ringC k a false).norm from if_pos (ring_want hn ha)] at HNo
        have HCf := hide (chain_first hn ha)
        go_wp2_with fail
        refine HNo.out.mono ?_
        rintro e w5 ⟨d, rfl, hd, rd, hdm, hb5⟩
        have hdv : d.v = .agg #[.int .i64 d.m, .slice d.a1 d.n1 d.c1, .slice d.a2 d.n2 d.c2, .slice d.a3 d.n3 d.c3, .slice d.a4 d.n4 d.c4, .slice d.a5 d.n5 d.c5, .slice d.a6 d.n6 d.c6, .slice d.a7 d.n7 d.c7] := rfl
        rw [hdv]
        have HT : Hid (Holds (w5.alloc (.cells #[.int .i64 d.m, .slice d.a1 d.n1 d.c1, .slice d.a2 d.n2 d.c2, .slice d.a3 d.n3 d.c3, .slice d.a4 d.n4 d.c4, .slice d.a5 d.n5 d.c5, .slice d.a6 d.n6 d.c6, .slice d.a7 d.n7 d.c7] 27)) (ringV w1.heap.size k A6 k K6) (ringC k a false) ∧ Box (w5.alloc (.cells #[.int .i64 d.m, .slice d.a1 d.n1 d.c1, .slice d.a2 d.n2 d.c2, .slice d.a3 d.n3 d.c3, .slice d.a4 d.n4 d.c4, .slice d.a5 d.n5 d.c5, .slice d.a6 d.n6 d.c6, .slice d.a7 d.n7 d.c7] 27)) (w1.heap.size + 1) (ringV w1.heap.size k A6 k K6) ∧ Holds (w5.alloc (.cells #[.int .i64 d.m, .slice d.a1 d.n1 d.c1, .slice d.a2 d.n2 d.c2, .slice d.a3 d.n3 d.c3, .slice d.a4 d.n4 d.c4, .slice d.a5 d.n5 d.c5, .slice d.a6 d.n6 d.c6, .slice d.a7 d.n7 d.c7] 27)) d (ringC k a false).norm ∧ Box (w5.alloc (.cells #[.int .i64 d.m, .slice d.a1 d.n1 d.c1, .slice d.a2 d.n2 d.c2, .slice d.a3 d.n3 d.c3, .slice d.a4 d.n4 d.c4, .slice d.a5 d.n5 d.c5, .slice d.a6 d.n6 d.c6, .slice d.a7 d.n7 d.c7] 27)) w5.heap.size d ∧ Below w.heap.size w (w5.alloc (.cells #[.int .i64 d.m, .slice d.a1 d.n1 d.c1, .slice d.a2 d.n2 d.c2, .slice d.a3 d.n3 d.c3, .slice d.a4 d.n4 d.c4, .slice d.a5 d.n5 d.c5, .slice d.a6 d.n6 d.c6, .slice d.a7 d.n7 d.c7] 27))) := ⟨(HHo.out.below hb5).below (below_alloc _ _), (HBo.out.below hb5).alloc _, hd.below (below_alloc _ _), box_new w5 d, belowThen (belowThen HBe.out hb5) (below_alloc _ _)⟩
        have hcv : (ringV w1.heap.size k A6 k K6).v = .agg #[.int .i64 ((k : Int) + 1), .slice (some ⟨w1.heap.size, 0, none⟩) 1 1, .slice none 0 0, .slice none 0 0, .slice none 0 0, .slice none 0 0, .slice A6 k K6, .slice none 0 0] := rfl
        have HCk := hide (check_any (ringV w1.heap.size k A6 k K6) (ringC k a false) _ HT.out.1 HFt.out)
        rw [hcv, HWt.out] at HCk
        have hd6 : d.n6 = k := by rw [← hd.l6]; exact HCf.out.1
        have HD6 := hide hd6
        clear p0 p1 p2 p3 p4 p5 p6 p7 rd hdm hb5 HNo hdv hcv hd hd6
        obtain ⟨p0, p1, p2, p3, p4, p5, p6, p7⟩ := HT.out.2.1.cells
        dsimp only [ringV] at p0 p1 p2 p3 p4 p5 p6 p7
        obtain ⟨b6, o6, hd6, -, hcell⟩ := HT.out.2.2.1.r6.addr (by rw [cellsT_len, HCf.out.1]; omega)
        have HA6 := hide hd6
        clear hd6 hcell
        go_wp2_with (first | (go_at_call 18; refine HCk.out.mono ?_; rintro e w6 ⟨rfl, hb6⟩; have HT6 := hide (box_holds HT.out hb6); clear hb6; obtain ⟨q0, q1, q2, q3, q4, q5, q6, q7⟩ := HT6.out.2.2.2.1.cells; rw [HA6.out, HD6.out] at q6; have hfc := first_cells HT6.out.2.2.1.r6 HA6.out (by rw [HCf.out.1]; omega); rw [HCf.out.2] at hfc; obtain ⟨hf1, hf2⟩ := hfc) | (go_at_call 17; refine (num_any _ _).mono ?_; rintro e w' ⟨rfl, hw'⟩; obtain rfl := hw'.symm))
        go_ret
        exact ⟨rfl, HT6.out.2.2.2.2⟩

set_option maxHeartbeats 2000000 in
theorem aigRings_out (n a : Int) (r : Bool) (w : World) (_h0 : -9223372036854775808 ≤ n) (_h1 : n ≤ 9223372036854775807) (_h2 : -9223372036854775808 ≤ a) (_h3 : a ≤ 9223372036854775807) (hout : n < 1 ∨ (1 ≤ n ∧ 50 < n) ∨ (1 ≤ n ∧ n ≤ 50 ∧ a < 0) ∨ (1 ≤ n ∧ n ≤ 50 ∧ 0 ≤ a ∧ n ≤ a)) :
    Calls Try.prog 8 #[.int .i64 n, .int .i64 a, .bool r] w fun e w' => e = .returned (.bool true) ∧ Below w.heap.size w w' := by
  have HAl := hide (fun W => alive_any W)
  go_enter Try.func8, Try.ntmps8
  go_wp2_with fail
  refine (HAl.out _).mono ?_
  rintro e w1 ⟨rfl, hb1⟩
  have HB1 := hide hb1
  clear hb1 HAl
  rcases hout with k1 | ⟨k1, k2⟩ | ⟨k1, k2, k3⟩ | ⟨k1, k2, k3, k4⟩
  · go_wp2
    go_ret
    exact ⟨rfl, HB1.out⟩
  · go_wp2
    go_ret
    exact ⟨rfl, HB1.out⟩
  · go_wp2
    go_ret
    exact ⟨rfl, HB1.out⟩
  · go_wp2
    go_ret
    exact ⟨rfl, HB1.out⟩

theorem aigRings_any (n a : Int) (r : Bool) (w : World) (h0 : -9223372036854775808 ≤ n) (h1 : n ≤ 9223372036854775807) (h2 : -9223372036854775808 ≤ a) (h3 : a ≤ 9223372036854775807) :
    Calls Try.prog 8 #[.int .i64 n, .int .i64 a, .bool r] w fun e w' => e = .returned (.bool true) ∧ Below w.heap.size w w' := by
  by_cases hin : 1 ≤ n ∧ n ≤ 50 ∧ 0 ≤ a ∧ a < n
  · obtain ⟨N, rfl⟩ : ∃ N : Nat, n = (N : Int) := ⟨n.toNat, by omega⟩
    obtain ⟨A, rfl⟩ : ∃ A : Nat, a = (A : Int) := ⟨a.toNat, by omega⟩
    exact aigRings_in N A r w (by omega) (by omega) (by omega)
  · exact aigRings_out n a r w h0 h1 h2 h3 (by omega)
end Go.Proofs.Ytppaifckiaaffaa
