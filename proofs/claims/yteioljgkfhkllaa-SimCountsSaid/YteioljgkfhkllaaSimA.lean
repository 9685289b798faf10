/-
  THE WALKS of layer 8's signals: literal, next, and, each.
  THE WALKS of layer 8's and, settled, Values.
  THE WALK of layer 8's settled, and of Values.
-/
import Derived.Test.YteioljgkfhkllaaSimP
import Derived.Test.YteioljgkfhkllaaAigCopy

namespace Go.Proofs.Yteioljgkfhkllaa
open Go.RowKit

/-- A list of bools that can be read. -/
def RowB (w : World) (a : Option Addr) (bs : List Bool) : Prop := RowC w a (bs.map Value.bool)
theorem RowB.below {w w' : World} {a : Option Addr} {bs : List Bool} (h : RowB w a bs) (hb : Below w.heap.size w w') : RowB w' a bs := RowC.below h hb
theorem RowB.addr {w : World} {a : Option Addr} {bs : List Bool} (h : RowB w a bs) (hp : 0 < bs.length) : ∃ b off, a = some ⟨b, off, none⟩ ∧ b < w.heap.size ∧ ∀ i, i < bs.length → w.cell? ⟨b, off + i, none⟩ = some (.bool (atP bs i)) := by
  obtain ⟨b, off, e, hlt, hc⟩ := RowC.addr h (by rw [List.length_map]; exact hp)
  exact ⟨b, off, e, hlt, fun i hi => hc i _ (by rw [List.getElem?_map, List.getElem?_eq_getElem hi, atP_eq _ _ hi]; rfl)⟩

/-- Bools that the call made. -/
def NewBools (w : World) (bs : List Bool) (v : Value) (w' : World) : Prop := w'.ownsRow w.heap.size 4 1 v bs.length (bs.map Value.bool) ∧ Below w.heap.size w w'
theorem rowB_own {w : World} {base n : Nat} {e : TypeId} {v : Value} {bs : List Bool} (h : w.ownsRow base e 1 v n (bs.map Value.bool)) : ∃ a k, v = .slice a n k ∧ RowB w a bs ∧ bs.length = n := by
  obtain ⟨a, k, rfl⟩ := own_form h
  have h2 := rowC_own' h
  refine ⟨a, k, rfl, h2.1, ?_⟩
  have hl := h.1
  simpa using hl

/-- The signals that can be read. -/
structure Sig (w : World) (g n : Nat) (bs : List Bool) : Prop where
  row : ∀ i, i < bs.length → w.cell? ⟨g, i, none⟩ = some (.bool (atP bs i))
  len : bs.length = n
  le : n ≤ 10000
  lt : g < w.heap.size
theorem Sig.below {w w' : World} {g n : Nat} {bs : List Bool} (h : Sig w g n bs) (hb : Below w.heap.size w w') : Sig w' g n bs :=
  ⟨fun i hi => (hb.cell (p := ⟨g, i, none⟩) h.lt).trans (h.row i hi), h.len, h.le, Nat.lt_of_lt_of_le h.lt hb.size⟩

set_option maxRecDepth 100000 in
set_option maxHeartbeats 1000000 in
theorem sLit_any (g n : Nat) (bs : List Bool) (l : Int) (w : World) (h : Sig w g n bs) (hl : LitIn n l) :
    Calls Try.prog 65 #[.slice (some ⟨g, 0, none⟩) n n, .int .i64 l] w fun e w' => e = .returned (.bool (litV bs l)) ∧ w' = w := by
  obtain ⟨h0, h1, hv⟩ := hl
  have hc := h.row (varN l) (by rw [h.len]; exact hv)
  have hq := tdiv_two h0
  have hm := tmod_2 h0
  have hn := h.le
  have HR : Hid (litV bs l = (atP bs (varN l) != decide (l % 2 = 1))) := rfl
  rw [HR.out]
  generalize varN l = v at hq hc hv HR ⊢
  generalize atP bs v = x at hc HR ⊢
  have hy : l % 2 = 0 ∨ l % 2 = 1 := by omega
  generalize l % 2 = y at hm hy HR ⊢
  clear h HR
  rcases hy with rfl | rfl
  · cases x <;>
    · go_enter Try.func65, Try.ntmps65
      go_wp2
      go_ret
      exact ⟨rfl, rfl⟩
  · cases x <;>
    · go_enter Try.func65, Try.ntmps65
      go_wp2
      go_ret
      exact ⟨rfl, rfl⟩

set_option maxRecDepth 100000 in
set_option maxHeartbeats 1000000 in
theorem sNext_any (g n : Nat) (bs : List Bool) (t : Tri) (w : World) (h : Sig w g n bs) (hl : LitIn n t.2.1) :
    Calls Try.prog 63 #[.slice (some ⟨g, 0, none⟩) n n, .agg #[.int .i64 t.1, .int .i64 t.2.1, .int .i64 t.2.2]] w fun e w' => e = .returned (.bool (litV bs t.2.1)) ∧ Below w.heap.size w w' := by
  obtain ⟨x0, x1, x2⟩ := t
  dsimp only at hl ⊢
  have HG := hide (sLit_any g n bs x1 (w.alloc (.cells #[.int .i64 x0, .int .i64 x1, .int .i64 x2] 43)) (h.below (below_alloc w _)) hl)
  have hend : Hid (Below w.heap.size w (w.alloc (.cells #[.int .i64 x0, .int .i64 x1, .int .i64 x2] 43))) := below_alloc w _
  clear h hl
  go_enter Try.func63, Try.ntmps63
  go_wp2_with (go_at_call 65; refine HG.out.mono ?_; rintro e w' ⟨rfl, hw'⟩; obtain rfl := hw'.symm)
  go_ret
  exact ⟨rfl, hend.out⟩

/-- Bools while they are filled. -/
structure BMk (w0 : World) (g m : Nat) (bs : List Bool) (wr : World) : Prop where
  own : wr.ownsRow w0.heap.size 4 1 (.slice (some ⟨g, 0, none⟩) m m) m (bs.map Value.bool)
  below : Below w0.heap.size w0 wr
theorem BMk.set {w0 wr : World} {g m : Nat} {bs : List Bool} (h : BMk w0 g m bs wr) (i : Nat) (x : Bool) : BMk w0 g m (bs.set i x) (wr.setCell ⟨g, i, none⟩ (.bool x)) := by
  obtain ⟨h1, h2⟩ := h.own.stored i (.bool x)
  have hgb := (h.own.lt g rfl).1
  exact ⟨by rw [List.map_set]; exact h1, h.below.grown h2 h.below.size (fun k hk => by cases hk; omega)⟩
theorem BMk.then {w0 wr w' : World} {g m : Nat} {bs : List Bool} (h : BMk w0 g m bs wr) (hb : Below wr.heap.size wr w') : BMk w0 g m bs w' := ⟨own_below h.own hb, belowThen h.below hb⟩

set_option maxRecDepth 100000 in
set_option maxHeartbeats 1000000 in
theorem eachInt_any (g n : Nat) (bs : List Bool) (la : Option Addr) (m lc : Nat) (xs : List Int) (w : World) (h : Sig w g n bs) (hr : RowK .i64 w la xs) (hx : xs.length = m) (hm : m ≤ 10000) (hin : ∀ l ∈ xs, LitIn n l) :
    Calls Try.prog 64 #[.slice la m lc, .func (.func 65) #[.slice (some ⟨g, 0, none⟩) n n] #[]] w fun e w' => ∃ v, e = .returned v ∧ NewBools w (xs.map (litV bs)) v w' := by
  obtain ⟨i0, hi, hz0, hz1, hz2⟩ := info_parts infoBool
  have HH := hide h
  have HR := hide hr
  have HX := hide hx
  have HI := hide hin
  generalize hP : (fun (e : Ending) (w' : World) => ∃ v, e = .returned v ∧ NewBools w (xs.map (litV bs)) v w') = Post
  have HP := hide hP
  clear h hr hx hin hP
  go_enter Try.func64, Try.ntmps64
  go_wp2_with (first | (at_make; refine wpList_make_full _ rfl _ _ 52 rfl w.heap.size 4 i0 (.bool false) 1 Try.underlying52 hi hz0 hz1 .i64 .i64 _ _ m rfl rfl (by first | rfl | omega) (by first | rfl | omega) (by rw [hz2]; omega) (by unfold maxLen; omega) (by simp) ?_; intro w2 hown hg2; rw [madeB] at hown; have HM0 : Hid (BMk w w.heap.size m (List.replicate m false) w2) := ⟨hown, (Below.refl _ _).grown hg2 (Nat.le_refl _) (fun k hk => by cases hk)⟩; clear hown hg2))
  go_loopw [6, 7, 13] (fun _ _ i wr => ∃ (k : Nat), i = .int .i64 k ∧ k ≤ m ∧ Hid (BMk w w.heap.size m (doneK (litV bs) false xs k) wr)) (fun _ _ i _ => m - (intOf i).toNat)
  case atStart => exact ⟨0, rfl, Nat.zero_le _, by rw [doneK_zero, HX.out]; exact HM0.out⟩
  case round =>
    clear HM0
    obtain ⟨k, rfl, hk, HF⟩ := hrel
    by_cases hlt : k < m
    · obtain ⟨b, off, rfl, hbw, hcell⟩ := HR.out.addr (by rw [HX.out]; omega)
      have hc0 := (HF.out.below.cell (p := ⟨b, off + k, none⟩) hbw).trans (hcell k (by rw [HX.out]; exact hlt))
      rw [atP_getD] at hc0
      have hli := hide (HI.out _ (atP_mem xs k (by rw [HX.out]; exact hlt)))
      have HS := hide (doneK_succ (litV bs) false xs k (by rw [HX.out]; exact hlt))
      have hcm := row_at HF.out.own k hlt
      have hfm := HF.out.own.frozenAt k
      generalize atP (doneK (litV bs) false xs k) k = y0 at hcm
      generalize atP xs k = x at hc0 hli HS
      have HG := hide (sLit_any g n bs x wr (HH.out.below HF.out.below) hli.out)
      clear hcell
      go_wp2_with (go_at_call 65; refine HG.out.mono ?_; rintro e w3 ⟨rfl, hw3⟩; obtain rfl := hw3.symm)
      go_roundw
      case rel => exact ⟨k + 1, by go_num, by omega, by rw [HS.out]; exact HF.out.set k _⟩
      case measure => simp [intOf]; omega
    · obtain rfl : k = m := by omega
      have hfin : Hid (Post (.returned (.slice (some ⟨w.heap.size, 0, none⟩) k k)) wr) := by
        show Post _ wr
        rw [← HP.out]
        refine ⟨_, rfl, ?_, HF.out.below⟩
        have := HF.out.own
        rw [doneK_all _ _ _ HX.out] at this
        rw [List.length_map, HX.out]
        exact this
      go_wp2
      exact hfin.out

set_option maxRecDepth 100000 in
set_option maxHeartbeats 1000000 in
theorem eachLatch_any (g n : Nat) (bs : List Bool) (la : Option Addr) (m lc : Nat) (xs : List Tri) (w : World) (h : Sig w g n bs) (hr : RowC w la (cellsT xs)) (hx : xs.length = m) (hm : m ≤ 10000) (hin : ∀ t ∈ xs, LitIn n t.2.1) :
    Calls Try.prog 62 #[.slice la m lc, .func (.func 63) #[.slice (some ⟨g, 0, none⟩) n n] #[]] w fun e w' => ∃ v, e = .returned v ∧ NewBools w (xs.map (fun t => litV bs t.2.1)) v w' := by
  obtain ⟨i0, hi, hz0, hz1, hz2⟩ := info_parts infoBool
  have HH := hide h
  have HR := hide hr
  have HX := hide hx
  have HI := hide hin
  generalize hP : (fun (e : Ending) (w' : World) => ∃ v, e = .returned v ∧ NewBools w (xs.map (fun t => litV bs t.2.1)) v w') = Post
  have HP := hide hP
  clear h hr hx hin hP
  go_enter Try.func62, Try.ntmps62
  go_wp2_with (first | (at_make; refine wpList_make_full _ rfl _ _ 52 rfl w.heap.size 4 i0 (.bool false) 1 Try.underlying52 hi hz0 hz1 .i64 .i64 _ _ m rfl rfl (by first | rfl | omega) (by first | rfl | omega) (by rw [hz2]; omega) (by unfold maxLen; omega) (by simp) ?_; intro w2 hown hg2; rw [madeB] at hown; have HM0 : Hid (BMk w w.heap.size m (List.replicate m false) w2) := ⟨hown, (Below.refl _ _).grown hg2 (Nat.le_refl _) (fun k hk => by cases hk)⟩; clear hown hg2))
  go_loopw [6, 7, 13] (fun _ _ i wr => ∃ (k : Nat), i = .int .i64 k ∧ k ≤ m ∧ Hid (BMk w w.heap.size m (doneK (fun t : Tri => litV bs t.2.1) false xs k) wr)) (fun _ _ i _ => m - (intOf i).toNat)
  case atStart => exact ⟨0, rfl, Nat.zero_le _, by rw [doneK_zero, HX.out]; exact HM0.out⟩
  case round =>
    clear HM0
    obtain ⟨k, rfl, hk, HF⟩ := hrel
    by_cases hlt : k < m
    · obtain ⟨b, off, rfl, hbw, hcell⟩ := HR.out.addr (by rw [cellsT_len, HX.out]; omega)
      have hat := cellsT_at xs k (by rw [HX.out]; exact hlt)
      have hc0 := (HF.out.below.cell (p := ⟨b, off + k * 3, none⟩) hbw).trans (hcell _ _ hat.1)
      have hc1 := (HF.out.below.cell (p := ⟨b, off + k * 3 + 1, none⟩) hbw).trans (hcell _ _ hat.2.1)
      have hc2 := (HF.out.below.cell (p := ⟨b, off + k * 3 + 2, none⟩) hbw).trans (hcell _ _ hat.2.2)
      have hli := hide (HI.out _ (atP_mem xs k (by rw [HX.out]; exact hlt)))
      have HS := hide (doneK_succ (fun t : Tri => litV bs t.2.1) false xs k (by rw [HX.out]; exact hlt))
      generalize atP xs k = x at hc0 hc1 hc2 hli HS
      obtain ⟨x0, x1, x2⟩ := x
      dsimp only at hc0 hc1 hc2
      have HF1 : Hid (BMk w w.heap.size m (doneK (fun t : Tri => litV bs t.2.1) false xs k) (wr.alloc (.cells #[.int .i64 x0, .int .i64 x1, .int .i64 x2] 43))) := HF.out.then (below_alloc wr _)
      have hr0 : (wr.alloc (.cells #[.int .i64 x0, .int .i64 x1, .int .i64 x2] 43)).cell? ⟨wr.heap.size, 0, none⟩ = some (.int .i64 x0) := cell_of_row _ _ 0 _ _ (0, 0) (heap_alloc_new wr _)
      have hr1 : (wr.alloc (.cells #[.int .i64 x0, .int .i64 x1, .int .i64 x2] 43)).cell? ⟨wr.heap.size, 1, none⟩ = some (.int .i64 x1) := cell_of_row _ _ 1 _ _ (0, 0) (heap_alloc_new wr _)
      have hr2 : (wr.alloc (.cells #[.int .i64 x0, .int .i64 x1, .int .i64 x2] 43)).cell? ⟨wr.heap.size, 2, none⟩ = some (.int .i64 x2) := cell_of_row _ _ 2 _ _ (0, 0) (heap_alloc_new wr _)
      have HG := hide (sNext_any g n bs (x0, x1, x2) (wr.alloc (.cells #[.int .i64 x0, .int .i64 x1, .int .i64 x2] 43)) ((HH.out.below HF.out.below).below (below_alloc wr _)) hli.out)
      clear hcell hat
      go_wp2_with (go_at_call 63; refine HG.out.mono ?_; rintro e w3 ⟨rfl, hb3⟩; have HF3 := hide (HF1.out.then hb3); have hcm := row_at HF3.out.own k hlt; have hfm := HF3.out.own.frozenAt k; clear hb3)
      go_roundw
      case rel => exact ⟨k + 1, by go_num, by omega, by rw [HS.out]; exact HF3.out.set k _⟩
      case measure => simp [intOf]; omega
    · obtain rfl : k = m := by omega
      have hfin : Hid (Post (.returned (.slice (some ⟨w.heap.size, 0, none⟩) k k)) wr) := by
        show Post _ wr
        rw [← HP.out]
        refine ⟨_, rfl, ?_, HF.out.below⟩
        have := HF.out.own
        rw [doneK_all _ _ _ HX.out] at this
        rw [List.length_map, HX.out]
        exact this
      go_wp2
      exact hfin.out
end Go.Proofs.Yteioljgkfhkllaa

namespace Go.Proofs.Yteioljgkfhkllaa
open Go.RowKit

/-- The signals while they are settled, and the circuit. -/
structure GMid (w1 : World) (b : Nat) (c : CV) (g n : Nat) (bs : List Bool) (wr : World) : Prop where
  own : wr.ownsRow w1.heap.size 4 1 (.slice (some ⟨g, 0, none⟩) n n) n (bs.map Value.bool)
  box : Box wr b c
  blt : b < w1.heap.size
  below : Below w1.heap.size w1 wr
theorem GMid.gLt {w1 wr : World} {b : Nat} {c : CV} {g n : Nat} {bs : List Bool} (h : GMid w1 b c g n bs wr) : w1.heap.size ≤ g ∧ g < wr.heap.size := h.own.lt g rfl
theorem GMid.len {w1 wr : World} {b : Nat} {c : CV} {g n : Nat} {bs : List Bool} (h : GMid w1 b c g n bs wr) : bs.length = n := by
  have hl := h.own.1
  simpa using hl
theorem GMid.then {w1 wr w' : World} {b : Nat} {c : CV} {g n : Nat} {bs : List Bool} (h : GMid w1 b c g n bs wr) (hb : Below wr.heap.size wr w') : GMid w1 b c g n bs w' :=
  ⟨own_below h.own hb, h.box.below hb, h.blt, belowThen h.below hb⟩
theorem GMid.set {w1 wr : World} {b : Nat} {c : CV} {g n : Nat} {bs : List Bool} (h : GMid w1 b c g n bs wr) (i : Nat) (x : Bool) : GMid w1 b c g n (bs.set i x) (wr.setCell ⟨g, i, none⟩ (.bool x)) := by
  obtain ⟨h1, h2⟩ := h.own.stored i (.bool x)
  have hg := h.gLt
  have hb := h.blt
  exact ⟨by rw [List.map_set]; exact h1, (heap_setCell_other wr ⟨g, i, none⟩ b _ (by show b ≠ g; omega)).trans h.box, h.blt, h.below.grown h2 h.below.size (fun k hk => by cases hk; omega)⟩
theorem GMid.sig {w1 wr : World} {b : Nat} {c : CV} {g n : Nat} {bs : List Bool} (h : GMid w1 b c g n bs wr) (hn : n ≤ 10000) : Sig wr g n bs :=
  ⟨fun i hi => row_at h.own i (by rw [← h.len]; exact hi), h.len, hn, h.gLt.2⟩
theorem GMid.at {w1 wr : World} {b : Nat} {c : CV} {g n : Nat} {bs : List Bool} (h : GMid w1 b c g n bs wr) {i : Nat} (hi : i < n) : wr.cell? ⟨g, i, none⟩ = some (.bool (atP bs i)) ∧ wr.frozen? ⟨g, i, none⟩ = false := ⟨row_at h.own i hi, h.own.frozenAt i⟩

set_option maxRecDepth 100000 in
set_option maxHeartbeats 2000000 in
theorem sAnd_any (w0 : World) (b0 : Nat) (c : CV) (g n : Nat) (bs : List Bool) (t : Tri) (w : World) (h : GMid w0 b0 c g n bs w) (hn : n ≤ 10000) (ht : TriIn n t) :
    Calls Try.prog 83 #[.slice (some ⟨g, 0, none⟩) n n, .agg #[.int .i64 t.1, .int .i64 t.2.1, .int .i64 t.2.2]] w fun e w' => e = .returned (.tuple #[]) ∧ GMid w0 b0 c g n (andV bs t) w' := by
  have HE : Hid (andV bs t = bs.set (varN t.1) (litV bs t.2.1 && litV bs t.2.2)) := rfl
  rw [HE.out]
  obtain ⟨x0, x1, x2⟩ := t
  obtain ⟨l0, l1, l2⟩ := ht
  dsimp only at l0 l1 l2 ⊢
  have S1 : GMid w0 b0 c g n bs (w.alloc (.cells #[.int .i64 x0, .int .i64 x1, .int .i64 x2] 46)) := h.then (below_alloc w _)
  have hr0 : (w.alloc (.cells #[.int .i64 x0, .int .i64 x1, .int .i64 x2] 46)).cell? ⟨w.heap.size, 0, none⟩ = some (.int .i64 x0) := cell_of_row _ _ 0 _ _ (0, 0) (heap_alloc_new w _)
  have hr1 : (w.alloc (.cells #[.int .i64 x0, .int .i64 x1, .int .i64 x2] 46)).cell? ⟨w.heap.size, 1, none⟩ = some (.int .i64 x1) := cell_of_row _ _ 1 _ _ (0, 0) (heap_alloc_new w _)
  have hr2 : (w.alloc (.cells #[.int .i64 x0, .int .i64 x1, .int .i64 x2] 46)).cell? ⟨w.heap.size, 2, none⟩ = some (.int .i64 x2) := cell_of_row _ _ 2 _ _ (0, 0) (heap_alloc_new w _)
  have hv := l0.2.2
  have hq := tdiv_two l0.1
  have HA : Hid (∀ q, Calls Try.prog 65 #[.slice (some ⟨g, 0, none⟩) n n, .int .i64 x1] ((w.alloc (.cells #[.int .i64 x0, .int .i64 x1, .int .i64 x2] 46)).drewN q) fun e w' => e = .returned (.bool (litV bs x1)) ∧ w' = (w.alloc (.cells #[.int .i64 x0, .int .i64 x1, .int .i64 x2] 46)).drewN q) := fun q => sLit_any g n bs x1 _ (((S1.then (Drew.below ⟨q, rfl⟩)).sig hn)) l1
  have HB : Hid (∀ q, Calls Try.prog 65 #[.slice (some ⟨g, 0, none⟩) n n, .int .i64 x2] ((w.alloc (.cells #[.int .i64 x0, .int .i64 x1, .int .i64 x2] 46)).drewN q) fun e w' => e = .returned (.bool (litV bs x2)) ∧ w' = (w.alloc (.cells #[.int .i64 x0, .int .i64 x1, .int .i64 x2] 46)).drewN q) := fun q => sLit_any g n bs x2 _ (((S1.then (Drew.below ⟨q, rfl⟩)).sig hn)) l2
  have hfin : Hid (∀ q x, GMid w0 b0 c g n (bs.set (varN x0) x) (((w.alloc (.cells #[.int .i64 x0, .int .i64 x1, .int .i64 x2] 46)).drewN q).setCell ⟨g, varN x0, none⟩ (.bool x))) := fun q x => (S1.then (Drew.below ⟨q, rfl⟩)).set (varN x0) x
  generalize litV bs x1 = A at HA ⊢
  generalize litV bs x2 = B at HB ⊢
  generalize varN x0 = v at hv hq hfin ⊢
  obtain ⟨hcv, hfv⟩ := S1.at hv
  generalize atP bs v = y at hcv
  have hn2 : n ≤ 10000 := hn
  have hne : g ≠ w.heap.size := by have := h.gLt; omega
  have hv0 : (0 : Int) ≤ (v : Int) := by omega
  have hv1 : (v : Int) < (n : Int) := by omega
  have hqw : IntKind.i64.wrap (x0.tdiv 2) = (v : Int) := by rw [hq, IntKind.wrap_i64]; omega
  have hwv : IntKind.i64.wrap (v : Int) = (v : Int) := by rw [IntKind.wrap_i64]; omega
  clear h l0 l1 l2 HE S1 hn
  cases A with
  | true =>
    go_enter Try.func83, Try.ntmps83
    go_wp2
    generalize w.alloc (.cells #[.int .i64 x0, .int .i64 x1, .int .i64 x2] 46) = W at hr0 hr1 hr2 HA HB hfin hcv hfv ⊢
    go_region_held3 (fun w' => w'.cell? ⟨w.heap.size, 0, none⟩ = some (.int .i64 x0) ∧ w'.cell? ⟨w.heap.size, 1, none⟩ = some (.int .i64 x1) ∧ w'.cell? ⟨w.heap.size, 2, none⟩ = some (.int .i64 x2)) (go_keep) (first | (go_at_call_of 65 (Value.int .i64 x1); refine (HA.out _).mono ?_; rintro e w3 ⟨rfl, hw3⟩; obtain rfl := hw3.symm) | (go_at_call_of 65 (Value.int .i64 x2); refine (HB.out _).mono ?_; rintro e w3 ⟨rfl, hw3⟩; obtain rfl := hw3.symm))
    all_goals go_wp2
    all_goals go_end0
    all_goals exact ⟨rfl, by simpa using hfin.out _ _⟩
  | false =>
    go_enter Try.func83, Try.ntmps83
    go_wp2
    generalize w.alloc (.cells #[.int .i64 x0, .int .i64 x1, .int .i64 x2] 46) = W at hr0 hr1 hr2 HA HB hfin hcv hfv ⊢
    first | (go_region_with (go_at_call_of 65 (Value.int .i64 x1); refine (HA.out _).mono ?_; rintro e w3 ⟨rfl, hw3⟩; obtain rfl := hw3.symm)) | skip
    all_goals go_wp2
    all_goals go_end0
    all_goals exact ⟨rfl, by simpa using hfin.out _ _⟩
end Go.Proofs.Yteioljgkfhkllaa

namespace Go.Proofs.Yteioljgkfhkllaa
open Go.RowKit

/-- What settled tells, and Values. -/
def SettlePost (w : World) (C : Circ) (st is : List Bool) (e : Ending) (w' : World) : Prop :=
  Below w.heap.size w w' ∧ ((C.stepI st is ≠ 0 ∧ e = .returned (.tuple #[.slice none 0 0, .int .i64 (C.stepI st is)])) ∨
    (C.stepI st is = 0 ∧ ∃ g, e = .returned (.tuple #[.slice (some ⟨g, 0, none⟩) (C.max.toNat + 1) (C.max.toNat + 1), .int .i64 0]) ∧ w'.ownsRow w.heap.size 4 1 (.slice (some ⟨g, 0, none⟩) (C.max.toNat + 1) (C.max.toNat + 1)) (C.max.toNat + 1) ((C.vals st is).map Value.bool)))

theorem startK_in (C : Circ) (st is : List Bool) (k : Nat) : C.startK st is (k + 1) 0 = (C.startK st is k 0).set (varN (atP C.ins k)) (atP is k) := rfl
theorem startK_lat (C : Circ) (st is : List Bool) {j : Nat} (hj : j < C.lats.length) : C.startK st is C.ins.length (j + 1) = (C.startK st is C.ins.length j).set (varN (atP C.lats j).1) (atP st j) := by
  show (C.startK st is C.ins.length j).set (varN (atP (C.lats.map (·.1)) j)) (atP st j) = _
  rw [atP_map _ _ _ hj]
theorem settle_succ (C : Circ) (v : List Bool) (k : Nat) : C.settleN v (k + 1) = andV (C.settleN v k) (atP C.ands (atP C.turn k)) := rfl

set_option maxRecDepth 100000 in
set_option maxHeartbeats 4000000 in
theorem settled_any (c : CV) (C : Circ) (w : World) (sa ia : Option Addr) (sn sc inn ic : Nat) (st is : List Bool) (h : Holds w c C) (hf : Fits c C) (hs : RowB w sa st) (hsl : st.length = sn) (hi : RowB w ia is) (hil : is.length = inn) :
    Calls Try.prog 61 #[c.v, .slice sa sn sc, .slice ia inn ic] w (SettlePost w C st is) := by
  obtain ⟨i0, hi0, hz0, hz1, hz2⟩ := info_parts infoBool
  have HO := hide (fun W (hb : Below w.heap.size w W) => order_any c C W (h.below hb) hf)
  have HB := hide (box_new w c)
  have HH := hide h
  have HS := hide hs
  have HI := hide hi
  have HSl := hide hsl
  have HIl := hide hil
  generalize hP : SettlePost w C st is = Post
  have HP := hide hP
  have hbad : Hid (∀ r W, C.stepI st is = r → r ≠ 0 → Below w.heap.size w W → Post (.returned (.tuple #[.slice none 0 0, .int .i64 r])) W) := fun r W hr hr0 hW => by rw [← HP.out]; exact ⟨hW, .inl ⟨by rw [hr]; exact hr0, by rw [hr]⟩⟩
  have hgood : Hid (∀ W w1 b g n, C.stepI st is = 0 → n = C.max.toNat + 1 → Below w.heap.size w w1 → GMid w1 b c g n (C.vals st is) W → Post (.returned (.tuple #[.slice (some ⟨g, 0, none⟩) n n, .int .i64 0])) W) := fun W w1 b g n hr hn hb hm => by
    subst hn; rw [← HP.out]; exact ⟨belowThen hb hm.below, .inr ⟨hr, g, rfl, own_le hm.own hb.size⟩⟩
  clear h hf hs hsl hi hil hP
  unfold CV.v at HO ⊢
  unfold Box at HB
  generalize hA1 : c.a1 = A1 at HO HB ⊢
  generalize hA2 : c.a2 = A2 at HO HB ⊢
  generalize hA6 : c.a6 = A6 at HO HB ⊢
  have HA1 := hide hA1
  have HA2 := hide hA2
  have HA6 := hide hA6
  clear hA1 hA2 hA6
  go_enter Try.func61, Try.ntmps61
  go_wp2_with fail
  refine (HO.out _ (below_alloc w _)).mono ?_
  intro e w1 he
  have hb1 := he.1
  have HB1 : Hid (Box w1 w.heap.size c) := by
    have := hb1.block w.heap.size (by simp)
    rw [HB.out] at this
    show w1.heap[w.heap.size]? = _
    rw [this, HA1.out, HA2.out, HA6.out]
  have HW1 := hide (belowThen (below_alloc w _) hb1)
  clear HO HB hb1
  rcases he.2 with ⟨hc, rfl⟩ | ⟨hc, oa, ok, rfl, hn⟩
  · have hend := hide (hbad.out _ w1 (by unfold Circ.stepI; rw [if_pos hc]) hc HW1.out)
    clear he hbad hgood
    generalize C.checkI = ck at hc hend ⊢
    have hck : (ck != 0) = true := by simpa using hc
    clear hc
    go_wp2
    exact hend.out
  · have HC := hide hc
    have HRt := hide (right_of hc)
    have HOr : Hid (RowK .i64 w1 oa (C.turn.map (fun k : Nat => (k : Int)))) := by
      have e0 : C.turn.length = (C.turn.map (fun k : Nat => (k : Int))).length := (List.length_map _).symm
      rw [e0] at hn
      obtain ⟨a', cp, e1, hr, -⟩ := row_of_own hn.1
      cases e1
      exact hr
    have HTl : Hid (C.turn.length = c.n6) := HRt.out.turn.trans HH.out.l6
    rw [HTl.out]
    replace HH := hide (HH.out.below HW1.out)
    replace HS := hide (HS.out.below HW1.out)
    replace HI := hide (HI.out.below HW1.out)
    clear he hc hn
    obtain ⟨q0, q1, q2, q3, q4, q5, q6, q7⟩ := HB1.out.cells
    rw [HA1.out] at q1
    rw [HA2.out] at q2
    by_cases hsn : sn = c.n2
    · have Hsn := hide hsn
      have hsb : ((sn : Int) != (c.n2 : Int)) = false := by rw [hsn]; simp
      by_cases hin : inn = c.n1
      · have Hin := hide hin
        have hib : ((inn : Int) != (c.n1 : Int)) = false := by rw [hin]; simp
        have HS0 : Hid (C.stepI st is = 0) := by
          show C.stepI st is = 0
          unfold Circ.stepI
          rw [if_neg (fun h => h HC.out), if_pos ⟨HSl.out.trans (Hsn.out.trans HH.out.l2.symm), HIl.out.trans (Hin.out.trans HH.out.l1.symm)⟩]
        replace hgood := hide (fun W b g n => hgood.out W w1 b g n HS0.out)
        have hm0 : 0 ≤ c.m := by rw [HH.out.m]; exact HRt.out.lits.max
        have hm5 : c.m ≤ 5000 := by rw [HH.out.m]; exact HRt.out.small.max
        obtain ⟨n, hn⟩ : ∃ n, n = C.max.toNat + 1 := ⟨_, rfl⟩
        have hnm : c.m + 1 = (n : Int) := by rw [hn, ← HH.out.m]; omega
        have HNn := hide hn
        have hn1 : c.n1 ≤ 64 := by rw [← HH.out.l1]; exact HRt.out.small.ins
        have hn2 : c.n2 ≤ 64 := by rw [← HH.out.l2]; exact HRt.out.small.lats
        have hn6 : c.n6 ≤ 2000 := by rw [← HH.out.l6]; exact HRt.out.small.ands
        clear hbad hn
        subst hsn
        subst hin
        go_wp2_with (first | (at_make; refine wpList_make_full _ rfl _ _ 90 rfl w1.heap.size 4 i0 (.bool false) 1 Try.underlying90 hi0 hz0 hz1 .i64 .i64 _ _ n rfl rfl (by first | rfl | omega) (by first | rfl | omega) (by rw [hz2]; omega) (by unfold maxLen; omega) (Nat.le_refl _) ?_; intro w2 hown hg2; rw [madeB] at hown; have HM0 : Hid (GMid w1 w.heap.size c w1.heap.size n (List.replicate n false) w2) := ⟨hown, HB1.out.grown hg2 (by simp), HB1.out.lt, (Below.refl _ _).grown hg2 (Nat.le_refl _) (fun k hk => by cases hk)⟩; obtain ⟨p0, p1, p2, p3, p4, p5, p6, p7⟩ := HM0.out.box.cells; rw [HA1.out] at p1; rw [HA2.out] at p2; clear hown hg2) | fail)
        go_loopw [11, 12, 47] (fun _ _ i wr => ∃ (k : Nat), i = .int .i64 k ∧ k ≤ c.n1 ∧ Hid (GMid w1 w.heap.size c w1.heap.size n (C.startK st is k 0) wr)) (fun _ _ i _ => c.n1 - (intOf i).toNat)
        case atStart => exact ⟨0, rfl, Nat.zero_le _, by rw [HNn.out] at HM0 ⊢; exact HM0.out⟩
        case round =>
          clear HM0 p0 p1 p2 p3 p4 p5 p6 p7
          obtain ⟨k, rfl, hk, HM⟩ := hrel
          by_cases hlt : k < c.n1
          · obtain ⟨b, off, ha, hbw, hcell⟩ := HH.out.r1.addr (by rw [HH.out.l1]; omega)
            rw [HA1.out] at ha
            subst ha
            have hc0 := (HM.out.below.cell (p := ⟨b, off + k, none⟩) hbw).trans (hcell k (by rw [HH.out.l1]; exact hlt))
            rw [atP_getD] at hc0
            obtain ⟨b', off', rfl, hbw', hcell'⟩ := HI.out.addr (by rw [HIl.out]; omega)
            have hc1 := (HM.out.below.cell (p := ⟨b', off' + k, none⟩) hbw').trans (hcell' k (by rw [HIl.out]; exact hlt))
            have hli := in_ins HRt.out _ (atP_mem C.ins k (by rw [HH.out.l1]; exact hlt))
            rw [← HNn.out] at hli
            have HST := hide (startK_in C st is k)
            generalize atP C.ins k = x at hc0 hli HST
            generalize atP is k = y at hc1 HST
            have hq := tdiv_two hli.1
            have hv := hli.2.2
            generalize varN x = v at hq hv HST
            obtain ⟨hcm, hfm⟩ := HM.out.at hv
            have HM3 := hide (HM.out.set v y)
            generalize atP (C.startK st is k 0) v = y0 at hcm
            clear hcell hcell' hli
            go_wp2
            go_roundw
            case rel => exact ⟨k + 1, by go_num, by omega, by rw [HST.out]; exact HM3.out⟩
            case measure => simp [intOf]; omega
          · obtain rfl : k = c.n1 := by omega
            have HM1 : Hid (GMid w1 w.heap.size c w1.heap.size n (C.startK st is C.ins.length 0) wr) := by rw [HH.out.l1]; exact HM.out
            clear HM hlt hk
            obtain ⟨p0, p1, p2, p3, p4, p5, p6, p7⟩ := HM1.out.box.cells
            rw [HA2.out] at p2
            go_wp2
            go_loopw [13, 14, 64] (fun _ _ i wr => ∃ (k : Nat), i = .int .i64 k ∧ k ≤ c.n2 ∧ Hid (GMid w1 w.heap.size c w1.heap.size n (C.startK st is C.ins.length k) wr)) (fun _ _ i _ => c.n2 - (intOf i).toNat)
            case atStart => exact ⟨0, rfl, Nat.zero_le _, HM1.out⟩
            case round =>
              clear HM1 p0 p1 p2 p3 p4 p5 p6 p7
              obtain ⟨k, rfl, hk, HM⟩ := hrel
              by_cases hlt : k < c.n2
              · obtain ⟨b, off, ha, hbw, hcell⟩ := HH.out.r2.addr (by rw [cellsT_len, HH.out.l2]; omega)
                rw [HA2.out] at ha
                subst ha
                have hat := cellsT_at C.lats k (by rw [HH.out.l2]; exact hlt)
                have hc0 := (HM.out.below.cell (p := ⟨b, off + k * 3, none⟩) hbw).trans (hcell _ _ hat.1)
                have hc1 := (HM.out.below.cell (p := ⟨b, off + k * 3 + 1, none⟩) hbw).trans (hcell _ _ hat.2.1)
                have hc2 := (HM.out.below.cell (p := ⟨b, off + k * 3 + 2, none⟩) hbw).trans (hcell _ _ hat.2.2)
                obtain ⟨b', off', rfl, hbw', hcell'⟩ := HS.out.addr (by rw [HSl.out]; omega)
                have hli := (in_lats HRt.out _ (atP_mem C.lats k (by rw [HH.out.l2]; exact hlt))).1
                rw [← HNn.out] at hli
                have HST := hide (startK_lat C st is (j := k) (by rw [HH.out.l2]; exact hlt))
                generalize atP C.lats k = x at hc0 hc1 hc2 hli HST
                obtain ⟨x0, x1, x2⟩ := x
                dsimp only at hc0 hc1 hc2 hli HST
                have hd := (belowThen HM.out.below (below_alloc wr (.cells #[.int .i64 x0, .int .i64 x1, .int .i64 x2] 43))).cell (p := ⟨b', off' + k, none⟩) hbw'
                have hc3 := hd.trans (hcell' k (by rw [HSl.out]; exact hlt))
                generalize atP st k = y at hc3 HST
                have hq := tdiv_two hli.1
                have hv := hli.2.2
                generalize varN x0 = v at hq hv HST
                have M1 := HM.out.then (below_alloc wr (.cells #[.int .i64 x0, .int .i64 x1, .int .i64 x2] 43))
                obtain ⟨hcm, hfm⟩ := M1.at hv
                have HM3 : Hid (∀ q, GMid w1 w.heap.size c w1.heap.size n ((C.startK st is C.ins.length k).set v y) (((wr.alloc (.cells #[.int .i64 x0, .int .i64 x1, .int .i64 x2] 43)).drewN q).setCell ⟨w1.heap.size, v, none⟩ (.bool y))) := fun q => (M1.then (Drew.below ⟨q, rfl⟩)).set v y
                generalize atP (C.startK st is C.ins.length k) v = y0 at hcm
                have hr0 : (wr.alloc (.cells #[.int .i64 x0, .int .i64 x1, .int .i64 x2] 43)).cell? ⟨wr.heap.size, 0, none⟩ = some (.int .i64 x0) := cell_of_row _ _ 0 _ _ (0, 0) (heap_alloc_new wr _)
                have hk0 : (0 : Int) ≤ (k : Int) := by omega
                have hk1 : (k : Int) < (c.n2 : Int) := by omega
                have hv1 : (v : Int) < (n : Int) := by omega
                clear hcell hcell' hli hat hd M1
                go_wp2
                clear hc0 hc1 hc2
                generalize wr.alloc (.cells #[.int .i64 x0, .int .i64 x1, .int .i64 x2] 43) = W at hc3 hcm hfm HM3 hr0 ⊢
                go_region
                all_goals go_wp2
                all_goals go_roundw
                case rel => exact ⟨k + 1, by go_num, by omega, by rw [HST.out]; exact HM3.out _⟩
                case measure => simp [intOf]; omega
              · obtain rfl : k = c.n2 := by omega
                have HM1 : Hid (GMid w1 w.heap.size c w1.heap.size n (C.settleN (C.start st is) 0) wr) := by
                  have := HM.out
                  rw [← HH.out.l2] at this
                  exact this
                clear HM hlt hk
                go_wp2
                go_loopw [17, 83] (fun _ i wr => ∃ (k : Nat), i = .int .i64 k ∧ k ≤ c.n6 ∧ Hid (GMid w1 w.heap.size c w1.heap.size n (C.settleN (C.start st is) k) wr)) (fun _ i _ => c.n6 - (intOf i).toNat)
                case atStart => exact ⟨0, rfl, Nat.zero_le _, HM1.out⟩
                case round =>
                  clear HM1
                  obtain ⟨k, rfl, hk, HM⟩ := hrel
                  by_cases hlt : k < c.n6
                  · obtain ⟨b', off', rfl, hbw', hcell'⟩ := HOr.out.addr (by rw [List.length_map, HTl.out]; omega)
                    have hcp := (HM.out.below.cell (p := ⟨b', off' + k, none⟩) hbw').trans (hcell' k (by rw [List.length_map, HTl.out]; exact hlt))
                    rw [atP_getD, atP_map _ _ _ (by rw [HTl.out]; exact hlt)] at hcp
                    have hp := turn_lt _ (atP_mem C.turn k (by rw [HTl.out]; exact hlt))
                    have HST := hide (settle_succ C (C.start st is) k)
                    generalize atP C.turn k = p at hcp hp HST
                    have hp6 : p < c.n6 := by rw [← HH.out.l6]; exact hp
                    obtain ⟨b, off, ha, hbw, hcell⟩ := HH.out.r6.addr (by rw [cellsT_len, HH.out.l6]; omega)
                    rw [HA6.out] at ha
                    subst ha
                    have hat := cellsT_at C.ands p hp
                    have hc0 := (HM.out.below.cell (p := ⟨b, off + p * 3, none⟩) hbw).trans (hcell _ _ hat.1)
                    have hc1 := (HM.out.below.cell (p := ⟨b, off + p * 3 + 1, none⟩) hbw).trans (hcell _ _ hat.2.1)
                    have hc2 := (HM.out.below.cell (p := ⟨b, off + p * 3 + 2, none⟩) hbw).trans (hcell _ _ hat.2.2)
                    have hti := in_ands HRt.out _ (atP_mem C.ands p hp)
                    rw [← HNn.out] at hti
                    have HG := hide (fun W hm => sAnd_any w1 w.heap.size c w1.heap.size n (C.settleN (C.start st is) k) (atP C.ands p) W hm (by omega) hti)
                    generalize atP C.ands p = x at hc0 hc1 hc2 HG HST
                    obtain ⟨x0, x1, x2⟩ := x
                    dsimp only at hc0 hc1 hc2
                    obtain ⟨p0, p1, p2, p3, p4, p5, p6, p7⟩ := HM.out.box.cells
                    rw [HA6.out] at p6
                    clear hcell hcell' hat hti hp
                    go_wp2_with (go_at_call 83; refine (HG.out _ HM.out).mono ?_; rintro e w3 ⟨rfl, hm3⟩; have HM3 := hide hm3; clear hm3)
                    go_roundw
                    case rel => exact ⟨k + 1, by go_num, by omega, by rw [HST.out]; exact HM3.out⟩
                    case measure => simp [intOf]; omega
                  · obtain rfl : k = c.n6 := by omega
                    have hend := hide (hgood.out wr w.heap.size w1.heap.size n HNn.out HW1.out (by have := HM.out; rw [← HTl.out] at this; exact this))
                    go_wp2
                    exact hend.out
      · have hib : ((inn : Int) != (c.n1 : Int)) = true := by simpa using fun h : (inn : Int) = (c.n1 : Int) => hin (by omega)
        have hend := hide (hbad.out 1 w1 (by unfold Circ.stepI; rw [if_neg (fun h => h HC.out), if_neg (fun h => hin (HIl.out.symm.trans (h.2.trans HH.out.l1)))]) (by decide) HW1.out)
        clear hbad hgood hin
        subst hsn
        go_wp2
        exact hend.out
    · have hsb : ((sn : Int) != (c.n2 : Int)) = true := by simpa using fun h : (sn : Int) = (c.n2 : Int) => hsn (by omega)
      have hend := hide (hbad.out 1 w1 (by unfold Circ.stepI; rw [if_neg (fun h => h HC.out), if_neg (fun h => hsn (HSl.out.symm.trans (h.1.trans HH.out.l2)))]) (by decide) HW1.out)
      clear hbad hgood hsn
      go_wp2
      exact hend.out

set_option maxRecDepth 100000 in
set_option maxHeartbeats 1000000 in
theorem sValues_any (c : CV) (C : Circ) (w : World) (sa ia : Option Addr) (sn sc inn ic : Nat) (st is : List Bool) (h : Holds w c C) (hf : Fits c C) (hs : RowB w sa st) (hsl : st.length = sn) (hi : RowB w ia is) (hil : is.length = inn) :
    Calls Try.prog 32 #[c.v, .slice sa sn sc, .slice ia inn ic] w (SettlePost w C st is) := by
  have HO := hide (settled_any c C (w.alloc (.cells #[.int .i64 c.m, .slice c.a1 c.n1 c.c1, .slice c.a2 c.n2 c.c2, .slice c.a3 c.n3 c.c3, .slice c.a4 c.n4 c.c4, .slice c.a5 c.n5 c.c5, .slice c.a6 c.n6 c.c6, .slice c.a7 c.n7 c.c7] 27)) sa ia sn sc inn ic st is (h.below (below_alloc w _)) hf (hs.below (below_alloc w _)) hsl (hi.below (below_alloc w _)) hil)
  clear h hf hs hsl hi hil
  generalize hP : SettlePost w C st is = Post
  have HP := hide hP
  clear hP
  unfold CV.v at HO ⊢
  go_enter Try.func32, Try.ntmps32
  go_wp2_with fail
  refine HO.out.mono ?_
  intro e w1 he
  have hb := belowThen (below_alloc w _) he.1
  rcases he.2 with ⟨hc, rfl⟩ | ⟨hc, g, rfl, hown⟩
  · have hend : Hid (Post (.returned (.tuple #[.slice none 0 0, .int .i64 (C.stepI st is)])) w1) := by
      show Post _ w1
      rw [← HP.out]; exact ⟨hb, .inl ⟨hc, rfl⟩⟩
    clear HO hb hc he
    go_wp2
    exact hend.out
  · have hend : Hid (Post (.returned (.tuple #[.slice (some ⟨g, 0, none⟩) (C.max.toNat + 1) (C.max.toNat + 1), .int .i64 0])) w1) := by
      show Post _ w1
      rw [← HP.out]; exact ⟨hb, .inr ⟨hc, g, rfl, own_le hown (below_alloc w _).size⟩⟩
    clear HO hb hc he hown
    generalize C.max.toNat + 1 = n at hend ⊢
    go_wp2
    exact hend.out
end Go.Proofs.Yteioljgkfhkllaa
