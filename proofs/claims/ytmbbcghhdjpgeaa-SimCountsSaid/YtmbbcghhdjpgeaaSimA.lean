/-
  THE WALKS of package signals at one kind of values: Literal, Next, and, Each, Settle.
-/
import Derived.Test.YtmbbcghhdjpgeaaSimP
import Derived.Test.YtmbbcghhdjpgeaaAigCopy
import Derived.Laws.EntriesVeiled

namespace Go.Proofs.Ytmbbcghhdjpgeaa
open Go.RowKit

/-- A list of values that can be read. -/
def RowB (w : World) (a : Option Addr) (bs : List Bool) : Prop := RowC w a (bs.map Value.bool)
theorem RowB.below {w w' : World} {a : Option Addr} {bs : List Bool} (h : RowB w a bs) (hb : Below w.heap.size w w') : RowB w' a bs := RowC.below h hb
theorem RowB.addr {w : World} {a : Option Addr} {bs : List Bool} (h : RowB w a bs) (hp : 0 < bs.length) : ∃ b off, a = some ⟨b, off, none⟩ ∧ b < w.heap.size ∧ ∀ i, i < bs.length → w.cell? ⟨b, off + i, none⟩ = some (.bool (atP bs i)) := by
  obtain ⟨b, off, e, hlt, hc⟩ := RowC.addr h (by rw [List.length_map]; exact hp)
  exact ⟨b, off, e, hlt, fun i hi => hc i _ (by rw [List.getElem?_map, List.getElem?_eq_getElem hi, atP_eq _ _ hi]; rfl)⟩

/-- Values that the call made. -/
def NewBools (w : World) (bs : List Bool) (v : Value) (w' : World) : Prop := w'.ownsRow w.heap.size 4 1 v bs.length (bs.map Value.bool) ∧ Below w.heap.size w w'
theorem rowB_own {w : World} {base n : Nat} {e : TypeId} {v : Value} {bs : List Bool} (h : w.ownsRow base e 1 v n (bs.map Value.bool)) : ∃ a k, v = .slice a n k ∧ RowB w a bs ∧ bs.length = n := by
  obtain ⟨a, k, rfl⟩ := own_form h
  have h2 := rowC_own' h
  refine ⟨a, k, rfl, h2.1, ?_⟩
  have hl := h.1
  simpa using hl

/-- The signals that can be read. -/
structure Sig (w : World) (g n : Nat) (bs : List Bool) : Prop where
  row : ∀ i, i < bs.length → w.cell? ⟨g, i, none⟩ = some (.bool (atP bs i))
  len : bs.length = n
  le : n ≤ 10000
  lt : g < w.heap.size
theorem Sig.below {w w' : World} {g n : Nat} {bs : List Bool} (h : Sig w g n bs) (hb : Below w.heap.size w w') : Sig w' g n bs :=
  ⟨fun i hi => (hb.cell (p := ⟨g, i, none⟩) h.lt).trans (h.row i hi), h.len, h.le, Nat.lt_of_lt_of_le h.lt hb.size⟩

/-- The box of the signals: how values are reckoned with, and where they lie. -/
def SBox (w : World) (b : Nat) (a : Option Addr) (n k : Nat) : Prop := w.heap[b]? = some (.cells #[.func (.func 76) #[] #[], .func (.func 77) #[] #[], .slice a n k] 86 (0, 0))
theorem SBox.lt {w : World} {b : Nat} {a : Option Addr} {n k : Nat} (h : SBox w b a n k) : b < w.heap.size := (Array.getElem?_eq_some_iff.1 h).1
theorem SBox.below {w w' : World} {b : Nat} {a : Option Addr} {n k : Nat} (h : SBox w b a n k) (hb : Below w.heap.size w w') : SBox w' b a n k := (hb.block b h.lt).trans h
theorem SBox.cells {w : World} {b : Nat} {a : Option Addr} {n k : Nat} (h : SBox w b a n k) : w.cell? ⟨b, 0, none⟩ = some (.func (.func 76) #[] #[]) ∧ w.cell? ⟨b, 1, none⟩ = some (.func (.func 77) #[] #[]) ∧ w.cell? ⟨b, 2, none⟩ = some (.slice a n k) :=
  ⟨cell_of_row _ _ 0 _ _ (0, 0) h, cell_of_row _ _ 1 _ _ (0, 0) h, cell_of_row _ _ 2 _ _ (0, 0) h⟩
theorem rowB_sig {w : World} {g n : Nat} {bs : List Bool} (h : Sig w g n bs) : RowB w (some ⟨g, 0, none⟩) bs := by
  refine .inr ⟨_, rfl, fun j u hu => ?_⟩
  rw [List.getElem?_map] at hu
  have hi : j < bs.length := by
    rcases Nat.lt_or_ge j bs.length with h | h
    · exact h
    · rw [List.getElem?_eq_none h] at hu; cases hu
  rw [List.getElem?_eq_getElem hi] at hu
  have := h.row j hi
  rw [atP_eq _ _ hi] at this
  cases hu
  rw [add_plain, Nat.zero_add]
  exact this
structure SigP (w : World) (b : Nat) (a : Option Addr) (n k : Nat) (bs : List Bool) : Prop where
  box : SBox w b a n k
  row : RowB w a bs
  len : bs.length = n
  le : n ≤ 10000
theorem SigP.below {w w' : World} {b : Nat} {a : Option Addr} {n k : Nat} {bs : List Bool} (h : SigP w b a n k bs) (hb : Below w.heap.size w w') : SigP w' b a n k bs := ⟨h.box.below hb, h.row.below hb, h.len, h.le⟩

set_option maxHeartbeats 400000 in
theorem sNot_any (x : Bool) (w : World) : Calls Try.prog 76 #[.bool x] w fun e w' => e = .returned (.bool (!x)) ∧ w' = w := by
  go_enter Try.func76, Try.ntmps76
  go_wp2
  go_ret
  exact ⟨rfl, rfl⟩
set_option maxHeartbeats 400000 in
theorem sBoth_any (x y : Bool) (w : World) : Calls Try.prog 77 #[.bool x, .bool y] w fun e w' => e = .returned (.bool (x && y)) ∧ w' = w := by
  cases x <;>
  · go_enter Try.func77, Try.ntmps77
    go_wp2
    go_ret
    exact ⟨by simp, rfl⟩
theorem lit_odd (v : List Bool) {l : Int} (h : l % 2 = 1) : litV v l = !(atP v (varN l)) := by unfold litV; rw [decide_eq_true h]; cases atP v (varN l) <;> rfl
theorem lit_even (v : List Bool) {l : Int} (h : l % 2 = 0) : litV v l = atP v (varN l) := by unfold litV; rw [decide_eq_false (by omega)]; cases atP v (varN l) <;> rfl

set_option maxRecDepth 100000 in
set_option maxHeartbeats 1000000 in
theorem sLit_any (sb : Nat) (sa : Option Addr) (n sk : Nat) (bs : List Bool) (l : Int) (w : World) (h : SigP w sb sa n sk bs) (hl : 0 ≤ l ∧ varN l < n) :
    Calls Try.prog 45 #[.pointer (some ⟨sb, 0, none⟩), .int .i64 l] w fun e w' => e = .returned (.bool (litV bs l)) ∧ w' = w := by
  obtain ⟨h0, hv⟩ := hl
  obtain ⟨gb, off, rfl, -, hcell⟩ := h.row.addr (by rw [h.len]; omega)
  have hc := hcell (varN l) (by rw [h.len]; exact hv)
  have hq := tdiv_two h0
  have hm := tmod_2 h0
  have hn := h.le
  have HO := hide (fun h => lit_odd bs (l := l) h)
  have HE := hide (fun h => lit_even bs (l := l) h)
  obtain ⟨c0, c1, c2⟩ := h.box.cells
  generalize litV bs l = r at HO HE ⊢
  generalize varN l = v at hq hc hv HO HE ⊢
  generalize atP bs v = x at hc HO HE ⊢
  have hy : l % 2 = 0 ∨ l % 2 = 1 := by omega
  generalize l % 2 = y at hm hy HO HE ⊢
  clear h hcell
  rcases hy with rfl | rfl
  · obtain rfl := HE.out rfl
    clear HO HE
    go_enter Try.func45, Try.ntmps45
    go_wp2
    go_ret
    exact ⟨rfl, rfl⟩
  · obtain rfl := HO.out rfl
    clear HO HE
    have HN := hide (fun W => sNot_any x W)
    go_enter Try.func45, Try.ntmps45
    go_wp2_with (go_at_call 76; refine (HN.out _).mono ?_; rintro e w' ⟨rfl, hw'⟩; obtain rfl := hw'.symm)
    go_ret
    exact ⟨rfl, rfl⟩

set_option maxRecDepth 100000 in
set_option maxHeartbeats 1000000 in
theorem sNext_any (sb : Nat) (sa : Option Addr) (n sk : Nat) (bs : List Bool) (t : Tri) (w : World) (h : SigP w sb sa n sk bs) (hl : LitIn n t.2.1) :
    Calls Try.prog 43 #[.pointer (some ⟨sb, 0, none⟩), .agg #[.int .i64 t.1, .int .i64 t.2.1, .int .i64 t.2.2]] w fun e w' => e = .returned (.bool (litV bs t.2.1)) ∧ Below w.heap.size w w' := by
  obtain ⟨x0, x1, x2⟩ := t
  dsimp only at hl ⊢
  have HG := hide (sLit_any sb sa n sk bs x1 (w.alloc (.cells #[.int .i64 x0, .int .i64 x1, .int .i64 x2] 88)) (h.below (below_alloc w _)) ⟨hl.1, hl.2.2⟩)
  have hend : Hid (Below w.heap.size w (w.alloc (.cells #[.int .i64 x0, .int .i64 x1, .int .i64 x2] 88))) := below_alloc w _
  clear h hl
  go_enter Try.func43, Try.ntmps43
  go_wp2_with (go_at_call 45; refine HG.out.mono ?_; rintro e w' ⟨rfl, hw'⟩; obtain rfl := hw'.symm)
  go_ret
  exact ⟨rfl, hend.out⟩

/-- Values while they are filled. -/
structure BMk (w0 : World) (g m : Nat) (bs : List Bool) (wr : World) : Prop where
  own : wr.ownsRow w0.heap.size 4 1 (.slice (some ⟨g, 0, none⟩) m m) m (bs.map Value.bool)
  below : Below w0.heap.size w0 wr
theorem BMk.set {w0 wr : World} {g m : Nat} {bs : List Bool} (h : BMk w0 g m bs wr) (i : Nat) (x : Bool) : BMk w0 g m (bs.set i x) (wr.setCell ⟨g, i, none⟩ (.bool x)) := by
  obtain ⟨h1, h2⟩ := h.own.stored i (.bool x)
  have hgb := (h.own.lt g rfl).1
  exact ⟨by rw [List.map_set]; exact h1, h.below.grown h2 h.below.size (fun k hk => by cases hk; omega)⟩
theorem BMk.then {w0 wr w' : World} {g m : Nat} {bs : List Bool} (h : BMk w0 g m bs wr) (hb : Below wr.heap.size wr w') : BMk w0 g m bs w' := ⟨own_below h.own hb, belowThen h.below hb⟩

set_option maxRecDepth 100000 in
set_option maxHeartbeats 1000000 in
theorem eachInt_any (sb : Nat) (sa : Option Addr) (n sk : Nat) (bs : List Bool) (la : Option Addr) (m lc : Nat) (xs : List Int) (w : World) (h : SigP w sb sa n sk bs) (hr : RowK .i64 w la xs) (hx : xs.length = m) (hm : m ≤ 10000) (hin : ∀ l ∈ xs, LitIn n l) :
    Calls Try.prog 44 #[.slice la m lc, .func (.func 45) #[.pointer (some ⟨sb, 0, none⟩)] #[]] w fun e w' => ∃ v, e = .returned v ∧ NewBools w (xs.map (litV bs)) v w' := by
  obtain ⟨i0, hi, hz0, hz1, hz2⟩ := info_parts infoBool
  have HH := hide h
  have HR := hide hr
  have HX := hide hx
  have HI := hide hin
  generalize hP : (fun (e : Ending) (w' : World) => ∃ v, e = .returned v ∧ NewBools w (xs.map (litV bs)) v w') = Post
  have HP := hide hP
  clear h hr hx hin hP
  go_enter Try.func44, Try.ntmps44
  go_wp2_with (first | (at_make; refine wpList_make_full _ rfl _ _ 28 rfl w.heap.size 4 i0 (.bool false) 1 Try.underlying28 hi hz0 hz1 .i64 .i64 _ _ m rfl rfl (by first | rfl | omega) (by first | rfl | omega) (by rw [hz2]; omega) (by unfold maxLen; omega) (by simp) ?_; intro w2 hown hg2; rw [madeB] at hown; have HM0 : Hid (BMk w w.heap.size m (List.replicate m false) w2) := ⟨hown, (Below.refl _ _).grown hg2 (Nat.le_refl _) (fun k hk => by cases hk)⟩; clear hown hg2))
  go_loopw [6, 7, 13] (fun _ _ i wr => ∃ (k : Nat), i = .int .i64 k ∧ k ≤ m ∧ Hid (BMk w w.heap.size m (doneK (litV bs) false xs k) wr)) (fun _ _ i _ => m - (intOf i).toNat)
  case atStart => exact ⟨0, rfl, Nat.zero_le _, by rw [doneK_zero, HX.out]; exact HM0.out⟩
  case round =>
    clear HM0
    obtain ⟨k, rfl, hk, HF⟩ := hrel
    by_cases hlt : k < m
    · obtain ⟨b, off, rfl, hbw, hcell⟩ := HR.out.addr (by rw [HX.out]; omega)
      have hc0 := (HF.out.below.cell (p := ⟨b, off + k, none⟩) hbw).trans (hcell k (by rw [HX.out]; exact hlt))
      rw [atP_getD] at hc0
      have hli := hide (HI.out _ (atP_mem xs k (by rw [HX.out]; exact hlt)))
      have HS := hide (doneK_succ (litV bs) false xs k (by rw [HX.out]; exact hlt))
      have hcm := row_at HF.out.own k hlt
      have hfm := HF.out.own.frozenAt k
      generalize atP (doneK (litV bs) false xs k) k = y0 at hcm
      generalize atP xs k = x at hc0 hli HS
      have HG := hide (sLit_any sb sa n sk bs x wr (HH.out.below HF.out.below) ⟨hli.out.1, hli.out.2.2⟩)
      clear hcell
      go_wp2_with (go_at_call 45; refine HG.out.mono ?_; rintro e w3 ⟨rfl, hw3⟩; obtain rfl := hw3.symm)
      go_roundw
      case rel => exact ⟨k + 1, by go_num, by omega, by rw [HS.out]; exact HF.out.set k _⟩
      case measure => simp [intOf]; omega
    · obtain rfl : k = m := by omega
      have hfin : Hid (Post (.returned (.slice (some ⟨w.heap.size, 0, none⟩) k k)) wr) := by
        show Post _ wr
        rw [← HP.out]
        refine ⟨_, rfl, ?_, HF.out.below⟩
        have := HF.out.own
        rw [doneK_all _ _ _ HX.out] at this
        rw [List.length_map, HX.out]
        exact this
      go_wp2
      exact hfin.out

set_option maxRecDepth 100000 in
set_option maxHeartbeats 1000000 in
theorem eachLatch_any (sb : Nat) (sa : Option Addr) (n sk : Nat) (bs : List Bool) (la : Option Addr) (m lc : Nat) (xs : List Tri) (w : World) (h : SigP w sb sa n sk bs) (hr : RowC w la (cellsT xs)) (hx : xs.length = m) (hm : m ≤ 10000) (hin : ∀ t ∈ xs, LitIn n t.2.1) :
    Calls Try.prog 42 #[.slice la m lc, .func (.func 43) #[.pointer (some ⟨sb, 0, none⟩)] #[]] w fun e w' => ∃ v, e = .returned v ∧ NewBools w (xs.map (fun t => litV bs t.2.1)) v w' := by
  obtain ⟨i0, hi, hz0, hz1, hz2⟩ := info_parts infoBool
  have HH := hide h
  have HR := hide hr
  have HX := hide hx
  have HI := hide hin
  generalize hP : (fun (e : Ending) (w' : World) => ∃ v, e = .returned v ∧ NewBools w (xs.map (fun t => litV bs t.2.1)) v w') = Post
  have HP := hide hP
  clear h hr hx hin hP
  go_enter Try.func42, Try.ntmps42
  go_wp2_with (first | (at_make; refine wpList_make_full _ rfl _ _ 28 rfl w.heap.size 4 i0 (.bool false) 1 Try.underlying28 hi hz0 hz1 .i64 .i64 _ _ m rfl rfl (by first | rfl | omega) (by first | rfl | omega) (by rw [hz2]; omega) (by unfold maxLen; omega) (by simp) ?_; intro w2 hown hg2; rw [madeB] at hown; have HM0 : Hid (BMk w w.heap.size m (List.replicate m false) w2) := ⟨hown, (Below.refl _ _).grown hg2 (Nat.le_refl _) (fun k hk => by cases hk)⟩; clear hown hg2))
  go_loopw [6, 7, 13] (fun _ _ i wr => ∃ (k : Nat), i = .int .i64 k ∧ k ≤ m ∧ Hid (BMk w w.heap.size m (doneK (fun t : Tri => litV bs t.2.1) false xs k) wr)) (fun _ _ i _ => m - (intOf i).toNat)
  case atStart => exact ⟨0, rfl, Nat.zero_le _, by rw [doneK_zero, HX.out]; exact HM0.out⟩
  case round =>
    clear HM0
    obtain ⟨k, rfl, hk, HF⟩ := hrel
    by_cases hlt : k < m
    · obtain ⟨b, off, rfl, hbw, hcell⟩ := HR.out.addr (by rw [cellsT_len, HX.out]; omega)
      have hat := cellsT_at xs k (by rw [HX.out]; exact hlt)
      have hc0 := (HF.out.below.cell (p := ⟨b, off + k * 3, none⟩) hbw).trans (hcell _ _ hat.1)
      have hc1 := (HF.out.below.cell (p := ⟨b, off + k * 3 + 1, none⟩) hbw).trans (hcell _ _ hat.2.1)
      have hc2 := (HF.out.below.cell (p := ⟨b, off + k * 3 + 2, none⟩) hbw).trans (hcell _ _ hat.2.2)
      have hli := hide (HI.out _ (atP_mem xs k (by rw [HX.out]; exact hlt)))
      have HS := hide (doneK_succ (fun t : Tri => litV bs t.2.1) false xs k (by rw [HX.out]; exact hlt))
      generalize atP xs k = x at hc0 hc1 hc2 hli HS
      obtain ⟨x0, x1, x2⟩ := x
      dsimp only at hc0 hc1 hc2
      have HF1 : Hid (BMk w w.heap.size m (doneK (fun t : Tri => litV bs t.2.1) false xs k) (wr.alloc (.cells #[.int .i64 x0, .int .i64 x1, .int .i64 x2] 88))) := HF.out.then (below_alloc wr _)
      have hr0 : (wr.alloc (.cells #[.int .i64 x0, .int .i64 x1, .int .i64 x2] 88)).cell? ⟨wr.heap.size, 0, none⟩ = some (.int .i64 x0) := cell_of_row _ _ 0 _ _ (0, 0) (heap_alloc_new wr _)
      have hr1 : (wr.alloc (.cells #[.int .i64 x0, .int .i64 x1, .int .i64 x2] 88)).cell? ⟨wr.heap.size, 1, none⟩ = some (.int .i64 x1) := cell_of_row _ _ 1 _ _ (0, 0) (heap_alloc_new wr _)
      have hr2 : (wr.alloc (.cells #[.int .i64 x0, .int .i64 x1, .int .i64 x2] 88)).cell? ⟨wr.heap.size, 2, none⟩ = some (.int .i64 x2) := cell_of_row _ _ 2 _ _ (0, 0) (heap_alloc_new wr _)
      have HG := hide (sNext_any sb sa n sk bs (x0, x1, x2) (wr.alloc (.cells #[.int .i64 x0, .int .i64 x1, .int .i64 x2] 88)) ((HH.out.below HF.out.below).below (below_alloc wr _)) hli.out)
      clear hcell hat
      go_wp2_with (go_at_call 43; refine HG.out.mono ?_; rintro e w3 ⟨rfl, hb3⟩; have HF3 := hide (HF1.out.then hb3); have hcm := row_at HF3.out.own k hlt; have hfm := HF3.out.own.frozenAt k; clear hb3)
      go_roundw
      case rel => exact ⟨k + 1, by go_num, by omega, by rw [HS.out]; exact HF3.out.set k _⟩
      case measure => simp [intOf]; omega
    · obtain rfl : k = m := by omega
      have hfin : Hid (Post (.returned (.slice (some ⟨w.heap.size, 0, none⟩) k k)) wr) := by
        show Post _ wr
        rw [← HP.out]
        refine ⟨_, rfl, ?_, HF.out.below⟩
        have := HF.out.own
        rw [doneK_all _ _ _ HX.out] at this
        rw [List.length_map, HX.out]
        exact this
      go_wp2
      exact hfin.out
end Go.Proofs.Ytmbbcghhdjpgeaa

namespace Go.Proofs.Ytmbbcghhdjpgeaa
open Go.RowKit

/-- The signals while they are settled, and the circuit. -/
structure GMid (w1 : World) (b : Nat) (c : CV) (g n : Nat) (bs : List Bool) (wr : World) : Prop where
  own : wr.ownsRow w1.heap.size 4 1 (.slice (some ⟨g, 0, none⟩) n n) n (bs.map Value.bool)
  box : Box wr b c
  blt : b < w1.heap.size
  below : Below w1.heap.size w1 wr
theorem GMid.gLt {w1 wr : World} {b : Nat} {c : CV} {g n : Nat} {bs : List Bool} (h : GMid w1 b c g n bs wr) : w1.heap.size ≤ g ∧ g < wr.heap.size := h.own.lt g rfl
theorem GMid.len {w1 wr : World} {b : Nat} {c : CV} {g n : Nat} {bs : List Bool} (h : GMid w1 b c g n bs wr) : bs.length = n := by
  have hl := h.own.1
  simpa using hl
theorem GMid.then {w1 wr w' : World} {b : Nat} {c : CV} {g n : Nat} {bs : List Bool} (h : GMid w1 b c g n bs wr) (hb : Below wr.heap.size wr w') : GMid w1 b c g n bs w' :=
  ⟨own_below h.own hb, h.box.below hb, h.blt, belowThen h.below hb⟩
theorem GMid.set {w1 wr : World} {b : Nat} {c : CV} {g n : Nat} {bs : List Bool} (h : GMid w1 b c g n bs wr) (i : Nat) (x : Bool) : GMid w1 b c g n (bs.set i x) (wr.setCell ⟨g, i, none⟩ (.bool x)) := by
  obtain ⟨h1, h2⟩ := h.own.stored i (.bool x)
  have hg := h.gLt
  have hb := h.blt
  exact ⟨by rw [List.map_set]; exact h1, (heap_setCell_other wr ⟨g, i, none⟩ b _ (by show b ≠ g; omega)).trans h.box, h.blt, h.below.grown h2 h.below.size (fun k hk => by cases hk; omega)⟩
theorem GMid.sig {w1 wr : World} {b : Nat} {c : CV} {g n : Nat} {bs : List Bool} (h : GMid w1 b c g n bs wr) (hn : n ≤ 10000) : Sig wr g n bs :=
  ⟨fun i hi => row_at h.own i (by rw [← h.len]; exact hi), h.len, hn, h.gLt.2⟩
theorem GMid.at {w1 wr : World} {b : Nat} {c : CV} {g n : Nat} {bs : List Bool} (h : GMid w1 b c g n bs wr) {i : Nat} (hi : i < n) : wr.cell? ⟨g, i, none⟩ = some (.bool (atP bs i)) ∧ wr.frozen? ⟨g, i, none⟩ = false := ⟨row_at h.own i hi, h.own.frozenAt i⟩

/-- The same, and the signals' box. -/
structure PMidS (w1 : World) (b : Nat) (c : CV) (sb g n : Nat) (bs : List Bool) (wr : World) : Prop where
  mid : GMid w1 b c g n bs wr
  box : SBox wr sb (some ⟨g, 0, none⟩) n n
  ne : sb ≠ g
theorem PMidS.then {w1 wr w' : World} {b : Nat} {c : CV} {sb g n : Nat} {bs : List Bool} (h : PMidS w1 b c sb g n bs wr) (hb : Below wr.heap.size wr w') : PMidS w1 b c sb g n bs w' := ⟨h.mid.then hb, h.box.below hb, h.ne⟩
theorem PMidS.set {w1 wr : World} {b : Nat} {c : CV} {sb g n : Nat} {bs : List Bool} (h : PMidS w1 b c sb g n bs wr) (i : Nat) (x : Bool) : PMidS w1 b c sb g n (bs.set i x) (wr.setCell ⟨g, i, none⟩ (.bool x)) :=
  ⟨h.mid.set i x, (heap_setCell_other wr ⟨g, i, none⟩ sb _ h.ne).trans h.box, h.ne⟩
theorem PMidS.sig {w1 wr : World} {b : Nat} {c : CV} {sb g n : Nat} {bs : List Bool} (h : PMidS w1 b c sb g n bs wr) (hn : n ≤ 10000) : SigP wr sb (some ⟨g, 0, none⟩) n n bs := ⟨h.box, rowB_sig (h.mid.sig hn), h.mid.len, hn⟩

set_option maxRecDepth 100000 in
set_option maxHeartbeats 2000000 in
theorem sAnd_any (w0 : World) (b0 : Nat) (c : CV) (sb g n : Nat) (bs : List Bool) (t : Tri) (w : World) (h : PMidS w0 b0 c sb g n bs w) (hn : n ≤ 10000) (ht : TriIn n t) :
    Calls Try.prog 78 #[.pointer (some ⟨sb, 0, none⟩), .agg #[.int .i64 t.1, .int .i64 t.2.1, .int .i64 t.2.2]] w fun e w' => e = .returned (.tuple #[]) ∧ PMidS w0 b0 c sb g n (andV bs t) w' := by
  have HE : Hid (andV bs t = bs.set (varN t.1) (andB bs t)) := rfl
  have HAB : Hid (∀ A B, litV bs t.2.1 = A → litV bs t.2.2 = B → andB bs t = (A && B)) := fun A B h1 h2 => by rw [← h1, ← h2]; rfl
  rw [HE.out]
  obtain ⟨x0, x1, x2⟩ := t
  obtain ⟨l0, l1, l2⟩ := ht
  dsimp only at l0 l1 l2 HAB ⊢
  have S1 : PMidS w0 b0 c sb g n bs (w.alloc (.cells #[.int .i64 x0, .int .i64 x1, .int .i64 x2] 58)) := h.then (below_alloc w _)
  have hr0 : (w.alloc (.cells #[.int .i64 x0, .int .i64 x1, .int .i64 x2] 58)).cell? ⟨w.heap.size, 0, none⟩ = some (.int .i64 x0) := cell_of_row _ _ 0 _ _ (0, 0) (heap_alloc_new w _)
  have hr1 : (w.alloc (.cells #[.int .i64 x0, .int .i64 x1, .int .i64 x2] 58)).cell? ⟨w.heap.size, 1, none⟩ = some (.int .i64 x1) := cell_of_row _ _ 1 _ _ (0, 0) (heap_alloc_new w _)
  have hr2 : (w.alloc (.cells #[.int .i64 x0, .int .i64 x1, .int .i64 x2] 58)).cell? ⟨w.heap.size, 2, none⟩ = some (.int .i64 x2) := cell_of_row _ _ 2 _ _ (0, 0) (heap_alloc_new w _)
  have hv := l0.2.2
  have hq := tdiv_two l0.1
  have HA : Hid (∀ q, Calls Try.prog 45 #[.pointer (some ⟨sb, 0, none⟩), .int .i64 x1] ((w.alloc (.cells #[.int .i64 x0, .int .i64 x1, .int .i64 x2] 58)).drewN q) fun e w' => e = .returned (.bool (litV bs x1)) ∧ w' = (w.alloc (.cells #[.int .i64 x0, .int .i64 x1, .int .i64 x2] 58)).drewN q) := fun q => sLit_any sb _ n n bs x1 _ (((S1.then (Drew.below ⟨q, rfl⟩)).sig hn)) ⟨l1.1, l1.2.2⟩
  have HB : Hid (∀ q, Calls Try.prog 45 #[.pointer (some ⟨sb, 0, none⟩), .int .i64 x2] ((w.alloc (.cells #[.int .i64 x0, .int .i64 x1, .int .i64 x2] 58)).drewN q) fun e w' => e = .returned (.bool (litV bs x2)) ∧ w' = (w.alloc (.cells #[.int .i64 x0, .int .i64 x1, .int .i64 x2] 58)).drewN q) := fun q => sLit_any sb _ n n bs x2 _ (((S1.then (Drew.below ⟨q, rfl⟩)).sig hn)) ⟨l2.1, l2.2.2⟩
  have hfin : Hid (∀ q x, PMidS w0 b0 c sb g n (bs.set (varN x0) x) (((w.alloc (.cells #[.int .i64 x0, .int .i64 x1, .int .i64 x2] 58)).drewN q).setCell ⟨g, varN x0, none⟩ (.bool x))) := fun q x => (S1.then (Drew.below ⟨q, rfl⟩)).set (varN x0) x
  obtain ⟨A, hA⟩ : ∃ A, litV bs x1 = A := ⟨_, rfl⟩
  obtain ⟨B, hB⟩ : ∃ B, litV bs x2 = B := ⟨_, rfl⟩
  rw [HAB.out A B hA hB]
  rw [hA] at HA
  rw [hB] at HB
  clear HAB hA hB HE
  generalize varN x0 = v at hv hq hfin ⊢
  obtain ⟨hcv, hfv⟩ := S1.mid.at hv
  obtain ⟨c0, c1, c2⟩ := S1.box.cells
  generalize atP bs v = y at hcv
  have hn2 : n ≤ 10000 := hn
  have hne : g ≠ w.heap.size := by have := h.mid.gLt; omega
  have hne2 : g ≠ sb := fun e => h.ne e.symm
  have hv0 : (0 : Int) ≤ (v : Int) := by omega
  have hv1 : (v : Int) < (n : Int) := by omega
  have hqw : IntKind.i64.wrap (x0.tdiv 2) = (v : Int) := by rw [hq, IntKind.wrap_i64]; omega
  have hwv : IntKind.i64.wrap (v : Int) = (v : Int) := by rw [IntKind.wrap_i64]; omega
  have HC : Hid (∀ W, Calls Try.prog 77 #[.bool A, .bool B] W fun e w' => e = .returned (.bool (A && B)) ∧ w' = W) := fun W => sBoth_any A B W
  generalize (A && B) = r at HC ⊢
  clear h l0 l1 l2 S1 hn
  go_enter Try.func78, Try.ntmps78
  go_wp2
  generalize w.alloc (.cells #[.int .i64 x0, .int .i64 x1, .int .i64 x2] 58) = W at hr0 hr1 hr2 HA HB hfin hcv hfv c0 c1 c2 ⊢
  refine wp_region_held_drew (S := (fun w' => w'.cell? ⟨w.heap.size, 0, none⟩ = some (.int .i64 x0) ∧ w'.cell? ⟨w.heap.size, 1, none⟩ = some (.int .i64 x1) ∧ w'.cell? ⟨w.heap.size, 2, none⟩ = some (.int .i64 x2) ∧ w'.cell? ⟨sb, 0, none⟩ = some (.func (.func 76) #[] #[]) ∧ w'.cell? ⟨sb, 1, none⟩ = some (.func (.func 77) #[] #[]) ∧ w'.cell? ⟨sb, 2, none⟩ = some (.slice (some ⟨g, 0, none⟩) n n))) (by kernel_rfl) ⟨hr0, hr1, hr2, c0, c1, c2⟩ (fun hHeld => ?_)
  refine wpAnyH_take (i := 0) (oi := { dst := some 4, op := Op.move (Operand.tmp 0), type := 77, pos := "signals.go:60", after := #[], guard := none }) (v := ?_) rfl (by kernel_rfl) (by kernel_rfl) (by kernel_rfl) (fun _ _ _ h => h) (Or.inl ⟨by rfl, ?_⟩) (by assumption) ?_
  rotate_left
  · (intro w0 hSw; (try dsimp only at hSw); go_simp; try with_reducible rfl)
  try simp only [Act.put, List.setIfInBounds_toArray, List.set_cons_zero, List.set_cons_succ]
  refine wpAnyH_take (i := 1) (oi := { dst := some 5, op := Op.nilCheck (Operand.tmp 4), type := 0, pos := "signals.go:60", after := #[{ on := 0, ground := Ground.data }], guard := none }) (v := ?_) rfl (by kernel_rfl) (by kernel_rfl) (by kernel_rfl) (fun _ _ _ h => h) (Or.inl ⟨by rfl, ?_⟩) (by assumption) ?_
  rotate_left
  · (intro w0 hSw; (try dsimp only at hSw); go_simp; try with_reducible rfl)
  try simp only [Act.put, List.setIfInBounds_toArray, List.set_cons_zero, List.set_cons_succ]
  refine wpAnyH_take (i := 2) (oi := { dst := some 6, op := Op.fieldAddr 86 (Operand.tmp 5) 1, type := 0, pos := "signals.go:60", after := #[{ on := 1, ground := Ground.data }], guard := none }) (v := ?_) rfl (by kernel_rfl) (by kernel_rfl) (by kernel_rfl) (fun _ _ _ h => h) (Or.inl ⟨by rfl, ?_⟩) (by assumption) ?_
  rotate_left
  · (intro w0 hSw; (try dsimp only at hSw); go_simp; try with_reducible rfl)
  try simp only [Act.put, List.setIfInBounds_toArray, List.set_cons_zero, List.set_cons_succ]
  refine wpAnyH_take (i := 3) (oi := { dst := some 7, op := Op.load 28 (Operand.tmp 6), type := 28, pos := "signals.go:60", after := #[{ on := 2, ground := Ground.data }], guard := none }) (v := ?_) rfl (by kernel_rfl) (by kernel_rfl) (by kernel_rfl) (fun _ _ _ h => h) (Or.inl ⟨by rfl, ?_⟩) (by assumption) ?_
  rotate_left
  · (intro w0 hSw; (try dsimp only at hSw); go_simp; try with_reducible rfl)
  try simp only [Act.put, List.setIfInBounds_toArray, List.set_cons_zero, List.set_cons_succ]
  refine wpAnyH_take (i := 4) (oi := { dst := some 8, op := Op.fieldAddr 58 (Operand.tmp 3) 0, type := 0, pos := "signals.go:60", after := #[], guard := none }) (v := ?_) rfl (by kernel_rfl) (by kernel_rfl) (by kernel_rfl) (fun _ _ _ h => h) (Or.inl ⟨by rfl, ?_⟩) (by assumption) ?_
  rotate_left
  · (intro w0 hSw; (try dsimp only at hSw); go_simp; try with_reducible rfl)
  try simp only [Act.put, List.setIfInBounds_toArray, List.set_cons_zero, List.set_cons_succ]
  refine wpAnyH_take (i := 5) (oi := { dst := some 9, op := Op.load 3 (Operand.tmp 8), type := 3, pos := "signals.go:60", after := #[{ on := 4, ground := Ground.data }], guard := none }) (v := ?_) rfl (by kernel_rfl) (by kernel_rfl) (by kernel_rfl) (fun _ _ _ h => h) (Or.inl ⟨by rfl, ?_⟩) (by assumption) ?_
  rotate_left
  · (intro w0 hSw; (try dsimp only at hSw); go_simp; try with_reducible rfl)
  try simp only [Act.put, List.setIfInBounds_toArray, List.set_cons_zero, List.set_cons_succ]
  refine wpAnyH_take (i := 6) (oi := { dst := some 10, op := Op.binOp BinOp.quo 3 (Operand.tmp 9) (Operand.const (Value.int IntKind.i64 2)) 3, type := 3, pos := "signals.go:60", after := #[{ on := 5, ground := Ground.data }], guard := none }) (v := ?_) rfl (by kernel_rfl) (by kernel_rfl) (by kernel_rfl) (fun _ _ _ h => h) (Or.inl ⟨by rfl, ?_⟩) (by assumption) ?_
  rotate_left
  · (intro w0 hSw; (try dsimp only at hSw); go_simp; try with_reducible rfl)
  try simp only [Act.put, List.setIfInBounds_toArray, List.set_cons_zero, List.set_cons_succ]
  refine wpAnyH_take (i := 7) (oi := { dst := some 11, op := Op.move (Operand.tmp 0), type := 77, pos := "signals.go:60", after := #[], guard := none }) (v := ?_) rfl (by kernel_rfl) (by kernel_rfl) (by kernel_rfl) (fun _ _ _ h => h) (Or.inl ⟨by rfl, ?_⟩) (by assumption) ?_
  rotate_left
  · (intro w0 hSw; (try dsimp only at hSw); go_simp; try with_reducible rfl)
  try simp only [Act.put, List.setIfInBounds_toArray, List.set_cons_zero, List.set_cons_succ]
  refine wpAnyH_take (i := 8) (oi := { dst := some 12, op := Op.nilCheck (Operand.tmp 11), type := 0, pos := "signals.go:60", after := #[{ on := 7, ground := Ground.data }], guard := none }) (v := ?_) rfl (by kernel_rfl) (by kernel_rfl) (by kernel_rfl) (fun _ _ _ h => h) (Or.inl ⟨by rfl, ?_⟩) (by assumption) ?_
  rotate_left
  · (intro w0 hSw; (try dsimp only at hSw); go_simp; try with_reducible rfl)
  try simp only [Act.put, List.setIfInBounds_toArray, List.set_cons_zero, List.set_cons_succ]
  refine wpAnyH_take (i := 9) (oi := { dst := some 13, op := Op.fieldAddr 86 (Operand.tmp 12) 0, type := 0, pos := "signals.go:60", after := #[{ on := 8, ground := Ground.data }], guard := none }) (v := ?_) rfl (by kernel_rfl) (by kernel_rfl) (by kernel_rfl) (fun _ _ _ h => h) (Or.inl ⟨by rfl, ?_⟩) (by assumption) ?_
  rotate_left
  · (intro w0 hSw; (try dsimp only at hSw); go_simp; try with_reducible rfl)
  try simp only [Act.put, List.setIfInBounds_toArray, List.set_cons_zero, List.set_cons_succ]
  refine wpAnyH_take (i := 10) (oi := { dst := some 14, op := Op.fieldAddr 82 (Operand.tmp 13) 1, type := 0, pos := "signals.go:60", after := #[{ on := 9, ground := Ground.data }], guard := none }) (v := ?_) rfl (by kernel_rfl) (by kernel_rfl) (by kernel_rfl) (fun _ _ _ h => h) (Or.inl ⟨by rfl, ?_⟩) (by assumption) ?_
  rotate_left
  · (intro w0 hSw; (try dsimp only at hSw); go_simp; try with_reducible rfl)
  try simp only [Act.put, List.setIfInBounds_toArray, List.set_cons_zero, List.set_cons_succ]
  refine wpAnyH_take (i := 11) (oi := { dst := some 15, op := Op.load 80 (Operand.tmp 14), type := 80, pos := "signals.go:60", after := #[{ on := 10, ground := Ground.data }], guard := none }) (v := ?_) rfl (by kernel_rfl) (by kernel_rfl) (by kernel_rfl) (fun _ _ _ h => h) (Or.inl ⟨by rfl, ?_⟩) (by assumption) ?_
  rotate_left
  · (intro w0 hSw; (try dsimp only at hSw); go_simp; try with_reducible rfl)
  try simp only [Act.put, List.setIfInBounds_toArray, List.set_cons_zero, List.set_cons_succ]
  refine wpAnyH_take (i := 12) (oi := { dst := some 16, op := Op.move (Operand.tmp 0), type := 77, pos := "signals.go:60", after := #[], guard := none }) (v := ?_) rfl (by kernel_rfl) (by kernel_rfl) (by kernel_rfl) (fun _ _ _ h => h) (Or.inl ⟨by rfl, ?_⟩) (by assumption) ?_
  rotate_left
  · (intro w0 hSw; (try dsimp only at hSw); go_simp; try with_reducible rfl)
  try simp only [Act.put, List.setIfInBounds_toArray, List.set_cons_zero, List.set_cons_succ]
  refine wpAnyH_take (i := 13) (oi := { dst := some 17, op := Op.fieldAddr 58 (Operand.tmp 3) 1, type := 0, pos := "signals.go:60", after := #[], guard := none }) (v := ?_) rfl (by kernel_rfl) (by kernel_rfl) (by kernel_rfl) (fun _ _ _ h => h) (Or.inl ⟨by rfl, ?_⟩) (by assumption) ?_
  rotate_left
  · (intro w0 hSw; (try dsimp only at hSw); go_simp; try with_reducible rfl)
  try simp only [Act.put, List.setIfInBounds_toArray, List.set_cons_zero, List.set_cons_succ]
  refine wpAnyH_take (i := 14) (oi := { dst := some 18, op := Op.load 3 (Operand.tmp 17), type := 3, pos := "signals.go:60", after := #[{ on := 13, ground := Ground.data }], guard := none }) (v := ?_) rfl (by kernel_rfl) (by kernel_rfl) (by kernel_rfl) (fun _ _ _ h => h) (Or.inl ⟨by rfl, ?_⟩) (by assumption) ?_
  rotate_left
  · (intro w0 hSw; (try dsimp only at hSw); go_simp; try with_reducible rfl)
  try simp only [Act.put, List.setIfInBounds_toArray, List.set_cons_zero, List.set_cons_succ]
  refine wpAnyH_take (i := 16) (oi := { dst := some 20, op := Op.move (Operand.tmp 0), type := 77, pos := "signals.go:60", after := #[], guard := none }) (v := ?_) rfl (by kernel_rfl) (by kernel_rfl) (by kernel_rfl) (fun _ _ _ h => h) (Or.inl ⟨by rfl, ?_⟩) (by assumption) ?_
  rotate_left
  · (intro w0 hSw; (try dsimp only at hSw); go_simp; try with_reducible rfl)
  try simp only [Act.put, List.setIfInBounds_toArray, List.set_cons_zero, List.set_cons_succ]
  refine wpAnyH_take (i := 17) (oi := { dst := some 21, op := Op.fieldAddr 58 (Operand.tmp 3) 2, type := 0, pos := "signals.go:60", after := #[], guard := none }) (v := ?_) rfl (by kernel_rfl) (by kernel_rfl) (by kernel_rfl) (fun _ _ _ h => h) (Or.inl ⟨by rfl, ?_⟩) (by assumption) ?_
  rotate_left
  · (intro w0 hSw; (try dsimp only at hSw); go_simp; try with_reducible rfl)
  try simp only [Act.put, List.setIfInBounds_toArray, List.set_cons_zero, List.set_cons_succ]
  refine wpAnyH_take (i := 18) (oi := { dst := some 22, op := Op.load 3 (Operand.tmp 21), type := 3, pos := "signals.go:60", after := #[{ on := 17, ground := Ground.data }], guard := none }) (v := ?_) rfl (by kernel_rfl) (by kernel_rfl) (by kernel_rfl) (fun _ _ _ h => h) (Or.inl ⟨by rfl, ?_⟩) (by assumption) ?_
  rotate_left
  · (intro w0 hSw; (try dsimp only at hSw); go_simp; try with_reducible rfl)
  try simp only [Act.put, List.setIfInBounds_toArray, List.set_cons_zero, List.set_cons_succ]
  refine wpAnyH_ready (rs := [15]) (by kernel_rfl) (by simp) ?_
  refine AllReadyH.cons (o := { dst := some 19, op := Op.call { callee := Callee.value (Operand.func 45), args := #[Operand.tmp 16, Operand.tmp 18], argTypes := #[77, 3] }, type := 4, pos := "signals.go:60", after := #[{ on := 12, ground := Ground.data }, { on := 14, ground := Ground.data }], guard := none }) rfl (fun KZ hKZ => ?_) ?_
  · skip
    go_simp
    go_at_call 45
    refine (HA.out _).mono ?_
    rintro e w3 ⟨rfl, hw3⟩
    obtain rfl := hw3.symm
    go_wp2_with fail
    refine hKZ.out _ _ ?_ (fun hHeld => ?_)
    · exact ⟨hr0, hr1, hr2, c0, c1, c2⟩
    clear hKZ KZ
    try simp only [Act.put, List.setIfInBounds_toArray, List.set_cons_zero, List.set_cons_succ]
    refine wpAnyH_ready (rs := [19]) (by kernel_rfl) (by simp) ?_
    refine AllReadyH.cons (o := { dst := some 23, op := Op.call { callee := Callee.value (Operand.func 45), args := #[Operand.tmp 20, Operand.tmp 22], argTypes := #[77, 3] }, type := 4, pos := "signals.go:60", after := #[{ on := 16, ground := Ground.data }, { on := 18, ground := Ground.data }, { on := 15, ground := Ground.chain }], guard := none }) rfl (fun KZ hKZ => ?_) ?_
    · skip
      go_simp
      go_at_call 45
      refine (HB.out _).mono ?_
      rintro e w3 ⟨rfl, hw3⟩
      obtain rfl := hw3.symm
      go_wp2_with fail
      refine hKZ.out _ _ ?_ (fun hHeld => ?_)
      · exact ⟨hr0, hr1, hr2, c0, c1, c2⟩
      clear hKZ KZ
      try simp only [Act.put, List.setIfInBounds_toArray, List.set_cons_zero, List.set_cons_succ]
      refine wpAnyH_ready (rs := [20]) (by kernel_rfl) (by simp) ?_
      refine AllReadyH.cons (o := { dst := some 24, op := Op.call { callee := Callee.value (Operand.tmp 15), args := #[Operand.tmp 19, Operand.tmp 23], argTypes := #[4, 4] }, type := 4, pos := "signals.go:60", after := #[{ on := 11, ground := Ground.data }, { on := 15, ground := Ground.data }, { on := 19, ground := Ground.data }, { on := 19, ground := Ground.chain }], guard := none }) rfl (fun KZ hKZ => ?_) ?_
      · skip
        go_simp
        go_at_call 77
        refine (HC.out _).mono ?_
        rintro e w3 ⟨rfl, hw3⟩
        obtain rfl := hw3.symm
        go_wp2_with fail
        refine hKZ.out _ _ ?_ (fun hHeld => ?_)
        · exact ⟨hr0, hr1, hr2, c0, c1, c2⟩
        clear hKZ KZ
        try simp only [Act.put, List.setIfInBounds_toArray, List.set_cons_zero, List.set_cons_succ]
        refine wpAnyH_take (i := 21) (oi := { dst := some 25, op := Op.indexAddr 28 (Operand.tmp 7) (Operand.tmp 10), type := 0, pos := "signals.go:60", after := #[{ on := 3, ground := Ground.data }, { on := 6, ground := Ground.data }, { on := 0, ground := Ground.phase }, { on := 1, ground := Ground.phase }, { on := 2, ground := Ground.phase }, { on := 3, ground := Ground.phase }, { on := 4, ground := Ground.phase }, { on := 5, ground := Ground.phase }, { on := 6, ground := Ground.phase }, { on := 7, ground := Ground.phase }, { on := 8, ground := Ground.phase }, { on := 9, ground := Ground.phase }, { on := 10, ground := Ground.phase }, { on := 11, ground := Ground.phase }, { on := 12, ground := Ground.phase }, { on := 13, ground := Ground.phase }, { on := 14, ground := Ground.phase }, { on := 15, ground := Ground.phase }, { on := 16, ground := Ground.phase }, { on := 17, ground := Ground.phase }, { on := 18, ground := Ground.phase }, { on := 19, ground := Ground.phase }, { on := 20, ground := Ground.phase }], guard := none }) (v := ?_) rfl (by kernel_rfl) (by kernel_rfl) (by kernel_rfl) (fun _ _ _ h => h) (Or.inl ⟨by rfl, ?_⟩) (by assumption) ?_
        rotate_left
        · (intro w0 hSw; (try dsimp only at hSw); go_simp; try with_reducible rfl)
        try simp only [Act.put, List.setIfInBounds_toArray, List.set_cons_zero, List.set_cons_succ]
        refine wpAnyH_ready (rs := [22]) (by kernel_rfl) (by simp) ?_
        refine AllReadyH.cons (o := { dst := none, op := Op.store 4 (Operand.tmp 25) (Operand.tmp 24), type := 0, pos := "signals.go:60", after := #[{ on := 21, ground := Ground.data }, { on := 20, ground := Ground.data }, { on := 20, ground := Ground.chain }, { on := 0, ground := Ground.phase }, { on := 1, ground := Ground.phase }, { on := 2, ground := Ground.phase }, { on := 3, ground := Ground.phase }, { on := 4, ground := Ground.phase }, { on := 5, ground := Ground.phase }, { on := 6, ground := Ground.phase }, { on := 7, ground := Ground.phase }, { on := 8, ground := Ground.phase }, { on := 9, ground := Ground.phase }, { on := 10, ground := Ground.phase }, { on := 11, ground := Ground.phase }, { on := 12, ground := Ground.phase }, { on := 13, ground := Ground.phase }, { on := 14, ground := Ground.phase }, { on := 15, ground := Ground.phase }, { on := 16, ground := Ground.phase }, { on := 17, ground := Ground.phase }, { on := 18, ground := Ground.phase }, { on := 19, ground := Ground.phase }, { on := 20, ground := Ground.phase }], guard := none }) rfl (fun KZ hKZ => ?_) ?_
        · skip
          go_simp
          refine hKZ.out _ _ ?_ (fun hHeld => ?_)
          · exact (by go_keep)
          clear hKZ KZ
          try simp only [Act.put, List.setIfInBounds_toArray, List.set_cons_zero, List.set_cons_succ]
          refine wpAnyH_done (by kernel_rfl) ?_ _
          go_wp2
          go_end0
          exact ⟨rfl, by simpa using hfin.out _ _⟩
        exact AllReadyH.nil
      exact AllReadyH.nil
    exact AllReadyH.nil
  exact AllReadyH.nil
end Go.Proofs.Ytmbbcghhdjpgeaa

namespace Go.Proofs.Ytmbbcghhdjpgeaa
open Go.RowKit

/-- How values are reckoned with. -/
def LG : Value := .agg #[.func (.func 76) #[] #[], .func (.func 77) #[] #[]]
/-- A box of two. -/
def LBox (w : World) (b : Nat) (x y : Value) : Prop := w.heap[b]? = some (.cells #[x, y] 82 (0, 0))
theorem LBox.cells {w : World} {b : Nat} {x y : Value} (h : LBox w b x y) : w.cell? ⟨b, 0, none⟩ = some x ∧ w.cell? ⟨b, 1, none⟩ = some y := ⟨cell_of_row _ _ 0 _ _ (0, 0) h, cell_of_row _ _ 1 _ _ (0, 0) h⟩
theorem LBox.put {w : World} {b : Nat} {x y : Value} (h : LBox w b x y) (u v : Value) : LBox ((w.setCell ⟨b, 0, none⟩ u).setCell ⟨b, 1, none⟩ v) b u v := by
  have h0 : LBox (w.setCell ⟨b, 0, none⟩ u) b u y := heap_setCell_same w b 0 _ _ u h
  exact heap_setCell_same _ b 1 _ _ v h0

set_option maxRecDepth 100000 in
set_option maxHeartbeats 1000000 in
theorem sLogic_any (w : World) : Calls Try.prog 40 #[] w fun e w' => e = .returned LG ∧ Below w.heap.size w w' := by
  unfold LG
  obtain ⟨W0, hW0⟩ : ∃ W0, W0 = w.alloc (.cells #[.nilFunc, .nilFunc] 82) := ⟨_, rfl⟩
  have B0 : LBox W0 w.heap.size .nilFunc .nilFunc := by rw [hW0]; exact heap_alloc_new w _
  obtain ⟨q0, q1⟩ := B0.cells
  have f0 := frozen_of_row _ w.heap.size 0 _ _ B0
  have f1 := frozen_of_row _ w.heap.size 1 _ _ B0
  have B1 := hide (B0.put (.func (.func 76) #[] #[]) (.func (.func 77) #[] #[]))
  have hbel : Hid (Below w.heap.size w ((W0.setCell ⟨w.heap.size, 0, none⟩ (.func (.func 76) #[] #[])).setCell ⟨w.heap.size, 1, none⟩ (.func (.func 77) #[] #[]))) := (((Two.refl w.heap.size w.heap.size _).setL 0 _).setL 1 _).below (by rw [hW0]; exact below_alloc w _) (Nat.le_refl _) (Nat.le_refl _) (Nat.le_refl _)
  clear B0
  go_enter Try.func40, Try.ntmps40
  go_upto_region 1 with fail
  rw [← hW0]
  clear hW0
  go_wp2
  clear q0 q1 f0 f1
  show bodyPost _ _ _ _ _ ((W0.setCell ⟨w.heap.size, 0, none⟩ (.func (.func 76) #[] #[])).setCell ⟨w.heap.size, 1, none⟩ (.func (.func 77) #[] #[]))
  generalize ((W0.setCell ⟨w.heap.size, 0, none⟩ (.func (.func 76) #[] #[])).setCell ⟨w.heap.size, 1, none⟩ (.func (.func 77) #[] #[])) = W at *
  obtain ⟨r0, r1⟩ := B1.out.cells
  refine bodyPost_ret (v := .agg #[.func (.func 76) #[] #[], .func (.func 77) #[] #[]]) (by simp [results, Try.results40, go_sem, *]) rfl ?_
  exact ⟨rfl, hbel.out⟩

/-- What Settle tells. -/
def SetPost (w : World) (C : Circ) (st is : List Bool) (e : Ending) (w' : World) : Prop :=
  Below w.heap.size w w' ∧ ((C.stepN st.length is.length ≠ 0 ∧ e = .returned (.tuple #[.pointer none, .int .i64 (C.stepN st.length is.length)])) ∨
    (C.stepN st.length is.length = 0 ∧ ∃ sb g, e = .returned (.tuple #[.pointer (some ⟨sb, 0, none⟩), .int .i64 0]) ∧ SBox w' sb (some ⟨g, 0, none⟩) (C.max.toNat + 1) (C.max.toNat + 1) ∧ w'.ownsRow w.heap.size 4 1 (.slice (some ⟨g, 0, none⟩) (C.max.toNat + 1) (C.max.toNat + 1)) (C.max.toNat + 1) ((C.vals st is).map Value.bool)))
/-- What Values tells. -/
def SettlePost (w : World) (C : Circ) (st is : List Bool) (e : Ending) (w' : World) : Prop :=
  Below w.heap.size w w' ∧ ((C.stepI st is ≠ 0 ∧ e = .returned (.tuple #[.slice none 0 0, .int .i64 (C.stepI st is)])) ∨
    (C.stepI st is = 0 ∧ ∃ g, e = .returned (.tuple #[.slice (some ⟨g, 0, none⟩) (C.max.toNat + 1) (C.max.toNat + 1), .int .i64 0]) ∧ w'.ownsRow w.heap.size 4 1 (.slice (some ⟨g, 0, none⟩) (C.max.toNat + 1) (C.max.toNat + 1)) (C.max.toNat + 1) ((C.vals st is).map Value.bool)))
theorem badsOr_len {C : Circ} (hS : Small C) : C.badsOr.length ≤ 64 := by
  unfold Circ.badsOr
  have := hS.outs
  have := hS.bads
  split <;> omega
theorem in_badsOr {C : Circ} (hR : Right C) : ∀ l ∈ C.badsOr, LitIn (C.max.toNat + 1) l := fun l hl => by
  unfold Circ.badsOr at hl
  split at hl
  · exact in_outs hR l hl
  · exact in_bads hR l hl
theorem startK_in (C : Circ) (st is : List Bool) (k : Nat) : C.startK st is (k + 1) 0 = (C.startK st is k 0).set (varN (atP C.ins k)) (atP is k) := rfl
theorem startK_lat (C : Circ) (st is : List Bool) {j : Nat} (hj : j < C.lats.length) : C.startK st is C.ins.length (j + 1) = (C.startK st is C.ins.length j).set (varN (atP C.lats j).1) (atP st j) := by
  show (C.startK st is C.ins.length j).set (varN (atP (C.lats.map (·.1)) j)) (atP st j) = _
  rw [atP_map _ _ _ hj]
theorem settle_succ (C : Circ) (v : List Bool) (k : Nat) : C.settleN v (k + 1) = andV (C.settleN v k) (atP C.ands (atP C.turn k)) := rfl

theorem settle_begin {w1 : World} {b : Nat} {c : CV} (hb : Box w1 b c) (n q : Nat) (hn : n ≤ 10000) : PMidS w1 b c (w1.heap.size + 1) w1.heap.size n (List.replicate n false) (((w1.alloc (.cells (madeCells #[.bool false] n) 4)).alloc (.cells #[.func (.func 76) #[] #[], .func (.func 77) #[] #[], .slice (some ⟨w1.heap.size, 0, none⟩) n n] 86)).drewN q) := by
  have hm : n ≤ maxLen := by unfold maxLen; omega
  have e1 : ∀ o, (w1.alloc o).heap.size = w1.heap.size + 1 := fun o => by simp
  have h0 := below_alloc w1 (.cells (madeCells #[.bool false] n) 4)
  have hA : (w1.alloc (.cells (madeCells #[.bool false] n) 4)).heap[w1.heap.size]? = some (.cells (madeCells #[.bool false] n) 4 (0, 0)) := heap_alloc_new w1 _
  have hB := below_alloc (w1.alloc (.cells (madeCells #[.bool false] n) 4)) (.cells #[.func (.func 76) #[] #[], .func (.func 77) #[] #[], .slice (some ⟨w1.heap.size, 0, none⟩) n n] 86)
  have hC : SBox ((w1.alloc (.cells (madeCells #[.bool false] n) 4)).alloc (.cells #[.func (.func 76) #[] #[], .func (.func 77) #[] #[], .slice (some ⟨w1.heap.size, 0, none⟩) n n] 86)) (w1.heap.size + 1) (some ⟨w1.heap.size, 0, none⟩) n n := by
    have := heap_alloc_new (w1.alloc (.cells (madeCells #[.bool false] n) 4)) (.cells #[.func (.func 76) #[] #[], .func (.func 77) #[] #[], .slice (some ⟨w1.heap.size, 0, none⟩) n n] 86)
    rw [e1] at this
    exact this
  have hown : (w1.alloc (.cells (madeCells #[.bool false] n) 4)).ownsRow w1.heap.size 4 1 (.slice (some ⟨w1.heap.size, 0, none⟩) n n) n ((List.replicate n false).map Value.bool) := by
    refine ⟨by simp, .inr ⟨w1.heap.size, n, _, rfl, Nat.le_refl _, hA, Nat.le_refl _, hm, by rw [size_madeCells, Nat.mul_one], ?_⟩⟩
    rw [toList_madeCells_one, Nat.mul_one, List.take_of_length_le (by simp), List.map_replicate]
  have hd : ∀ W : World, Below W.heap.size W (W.drewN q) := fun W => Drew.below ⟨q, rfl⟩
  exact ⟨⟨own_below (own_below hown hB) (hd _), ((hb.below h0).below hB).below (hd _), hb.lt, belowThen (belowThen h0 hB) (hd _)⟩, hC.below (hd _), by omega⟩

set_option maxRecDepth 100000 in
set_option maxHeartbeats 4000000 in
theorem settled_any (c : CV) (C : Circ) (w : World) (sa ia : Option Addr) (sn sc inn ic : Nat) (st is : List Bool) (h : Holds w c C) (hf : Fits c C) (hs : RowB w sa st) (hsl : st.length = sn) (hi : RowB w ia is) (hil : is.length = inn) :
    Calls Try.prog 41 #[LG, c.v, .slice sa sn sc, .slice ia inn ic] w (SetPost w C st is) := by
  obtain ⟨i0, hi0, hz0, hz1, hz2⟩ := info_parts infoBool
  have HO := hide (fun W (hb : Below w.heap.size w W) => order_any c C W (h.below hb) hf)
  obtain ⟨wl, hwl⟩ : ∃ wl, wl = w.alloc (.cells #[.func (.func 76) #[] #[], .func (.func 77) #[] #[]] 82) := ⟨_, rfl⟩
  have hls : wl.heap.size = w.heap.size + 1 := by rw [hwl]; simp
  have HLb : Hid (Below w.heap.size w wl) := by rw [hwl]; exact below_alloc w _
  have l0 : wl.cell? ⟨w.heap.size, 0, none⟩ = some (.func (.func 76) #[] #[]) := by rw [hwl]; exact cell_of_row _ _ 0 _ _ (0, 0) (heap_alloc_new w _)
  have l1 : wl.cell? ⟨w.heap.size, 1, none⟩ = some (.func (.func 77) #[] #[]) := by rw [hwl]; exact cell_of_row _ _ 1 _ _ (0, 0) (heap_alloc_new w _)
  have HL0 : Hid (∀ W, Below wl.heap.size wl W → W.cell? ⟨w.heap.size, 0, none⟩ = some (.func (.func 76) #[] #[]) ∧ W.cell? ⟨w.heap.size, 1, none⟩ = some (.func (.func 77) #[] #[])) := fun W hb => ⟨(hb.cell (p := ⟨w.heap.size, 0, none⟩) (by rw [hls]; exact Nat.lt_succ_self _)).trans l0, (hb.cell (p := ⟨w.heap.size, 1, none⟩) (by rw [hls]; exact Nat.lt_succ_self _)).trans l1⟩
  have HB := hide (box_new wl c)
  have HH := hide h
  have HS := hide hs
  have HI := hide hi
  have HSl := hide hsl
  have HIl := hide hil
  generalize hP : SetPost w C st is = Post
  have HP := hide hP
  have hbad : Hid (∀ r W, C.stepN st.length is.length = r → r ≠ 0 → Below w.heap.size w W → Post (.returned (.tuple #[.pointer none, .int .i64 r])) W) := fun r W hr hr0 hW => by rw [← HP.out]; exact ⟨hW, .inl ⟨by rw [hr]; exact hr0, by rw [hr]⟩⟩
  have hgood : Hid (∀ W w1 b sb g n, C.stepN st.length is.length = 0 → n = C.max.toNat + 1 → Below w.heap.size w w1 → PMidS w1 b c sb g n (C.vals st is) W → Post (.returned (.tuple #[.pointer (some ⟨sb, 0, none⟩), .int .i64 0])) W) := fun W w1 b sb g n hr hn hb hm => by
    subst hn; rw [← HP.out]; exact ⟨belowThen hb hm.mid.below, .inr ⟨hr, sb, g, rfl, hm.box, own_le hm.mid.own hb.size⟩⟩
  clear h hf hs hsl hi hil hP l0 l1
  unfold CV.v at HO ⊢
  unfold Box at HB
  unfold LG
  generalize hA1 : c.a1 = A1 at HO HB ⊢
  generalize hA2 : c.a2 = A2 at HO HB ⊢
  generalize hA6 : c.a6 = A6 at HO HB ⊢
  have HA1 := hide hA1
  have HA2 := hide hA2
  have HA6 := hide hA6
  clear hA1 hA2 hA6
  go_enter Try.func41, Try.ntmps41
  go_wp2_with fail
  rw [← hwl]
  rw [hls] at HB
  refine (HO.out _ (belowThen HLb.out (below_alloc wl _))).mono ?_
  intro e w1 he
  have hb1 := he.1
  have HB1 : Hid (Box w1 (w.heap.size + 1) c) := by
    have := hb1.block (w.heap.size + 1) (by simp [hls])
    rw [HB.out] at this
    show w1.heap[w.heap.size + 1]? = _
    rw [this, HA1.out, HA2.out, HA6.out]
  have HW1 := hide (belowThen (belowThen HLb.out (below_alloc wl _)) hb1)
  have HLc := hide (HL0.out w1 (belowThen (below_alloc wl _) hb1))
  clear HO HB hb1 HL0 HLb
  rcases he.2 with ⟨hc, rfl⟩ | ⟨hc, oa, ok, rfl, hn⟩
  · have hend := hide (hbad.out _ w1 (by unfold Circ.stepN; rw [if_pos hc]) hc HW1.out)
    clear he hbad hgood hwl hls
    generalize C.checkI = ck at hc hend ⊢
    have hck : (ck != 0) = true := by simpa using hc
    clear hc
    go_wp2
    exact hend.out
  · have HC := hide hc
    have HRt := hide (right_of hc)
    have HOr : Hid (RowK .i64 w1 oa (C.turn.map (fun k : Nat => (k : Int)))) := by
      have e0 : C.turn.length = (C.turn.map (fun k : Nat => (k : Int))).length := (List.length_map _).symm
      rw [e0] at hn
      obtain ⟨a', cp, e1, hr, -⟩ := row_of_own hn.1
      cases e1
      exact hr
    have HTl : Hid (C.turn.length = c.n6) := HRt.out.turn.trans HH.out.l6
    rw [HTl.out]
    replace HH := hide (HH.out.below HW1.out)
    replace HS := hide (HS.out.below HW1.out)
    replace HI := hide (HI.out.below HW1.out)
    clear he hc hn hwl hls
    obtain ⟨q0, q1, q2, q3, q4, q5, q6, q7⟩ := HB1.out.cells
    rw [HA1.out] at q1
    rw [HA2.out] at q2
    by_cases hsn : sn = c.n2
    case neg =>
      have hsb : ((sn : Int) != (c.n2 : Int)) = true := by simpa using fun h : (sn : Int) = (c.n2 : Int) => hsn (by omega)
      have hend := hide (hbad.out 1 w1 (by unfold Circ.stepN; rw [if_neg (fun h => h HC.out), if_neg (fun h => hsn (HSl.out.symm.trans (h.1.trans HH.out.l2)))]) (by decide) HW1.out)
      clear hbad hgood hsn
      go_wp2
      exact hend.out
    case pos =>
      have Hsn := hide hsn
      have hsb : ((sn : Int) != (c.n2 : Int)) = false := by rw [hsn]; simp
      by_cases hin : inn = c.n1
      case neg =>
        have hib : ((inn : Int) != (c.n1 : Int)) = true := by simpa using fun h : (inn : Int) = (c.n1 : Int) => hin (by omega)
        have hend := hide (hbad.out 1 w1 (by unfold Circ.stepN; rw [if_neg (fun h => h HC.out), if_neg (fun h => hin (HIl.out.symm.trans (h.2.trans HH.out.l1)))]) (by decide) HW1.out)
        clear hbad hgood hin
        subst hsn
        go_wp2
        exact hend.out
      case pos =>
        have Hin := hide hin
        have hib : ((inn : Int) != (c.n1 : Int)) = false := by rw [hin]; simp
        have HS0 : Hid (C.stepN st.length is.length = 0) := by
          show C.stepN st.length is.length = 0
          unfold Circ.stepN
          rw [if_neg (fun h => h HC.out), if_pos ⟨HSl.out.trans (Hsn.out.trans HH.out.l2.symm), HIl.out.trans (Hin.out.trans HH.out.l1.symm)⟩]
        replace hgood := hide (fun W b sb g n => hgood.out W w1 b sb g n HS0.out)
        have hm0 : 0 ≤ c.m := by rw [HH.out.m]; exact HRt.out.lits.max
        have hm5 : c.m ≤ 5000 := by rw [HH.out.m]; exact HRt.out.small.max
        obtain ⟨n, hn⟩ : ∃ n, n = C.max.toNat + 1 := ⟨_, rfl⟩
        have hnm : c.m + 1 = (n : Int) := by rw [hn, ← HH.out.m]; omega
        have HNn := hide hn
        have hn1 : c.n1 ≤ 64 := by rw [← HH.out.l1]; exact HRt.out.small.ins
        have hn2 : c.n2 ≤ 64 := by rw [← HH.out.l2]; exact HRt.out.small.lats
        have hn6 : c.n6 ≤ 2000 := by rw [← HH.out.l6]; exact HRt.out.small.ands
        have hnn : n ≤ 10000 := by omega
        obtain ⟨l0, l1⟩ := HLc.out
        clear hbad hn
        subst hsn
        subst hin
        go_wp2
        have hmk := run_make_row' (P := Try.prog) 28 4 (.bool false) 1 Try.underlying28 infoBool rfl .i64 .i64 n (by omega) (by omega)
        have hlt1 : w.heap.size + 1 < w1.heap.size := HB1.out.lt
        have hlt0 : w.heap.size < w1.heap.size := by omega
        have hne0 : w.heap.size ≠ w1.heap.size := by omega
        have hne1 : w.heap.size + 1 ≠ w1.heap.size := by omega
        clear HLc
        go_cut [12] from 42 to 48 (fun s wx => s = .pointer (some ⟨w1.heap.size + 1, 0, none⟩) ∧ Hid (PMidS w1 (w.heap.size + 1) c (w1.heap.size + 1) w1.heap.size n (List.replicate n false) wx))
        case first =>
          go_region
          all_goals go_wp2_with fail
          all_goals go_meet
          all_goals exact ⟨rfl, settle_begin HB1.out n _ hnn⟩
        case rest =>
        rename World => W6
        obtain ⟨rfl, HM0⟩ := hcut
        clear hmk hlt1 hlt0 hne0 hne1 l0 l1 q0 q1 q2 q3 q4 q5 q6 q7
        obtain ⟨sb, hsbx⟩ : ∃ sb, sb = w1.heap.size + 1 := ⟨_, rfl⟩
        obtain ⟨g, hgx⟩ : ∃ g, g = w1.heap.size := ⟨_, rfl⟩
        rw [← hsbx, ← hgx] at HM0
        rw [← hsbx]
        clear hgx hsbx
        obtain ⟨p0, p1, p2, p3, p4, p5, p6, p7⟩ := HM0.out.mid.box.cells
        rw [HA1.out] at p1
        go_wp2
        clear p0 p1 p2 p3 p4 p5 p6 p7
        go_loopw [13, 14, 52] (fun _ _ i wr => ∃ (k : Nat), i = .int .i64 k ∧ k ≤ c.n1 ∧ Hid (PMidS w1 (w.heap.size + 1) c sb g n (C.startK st is k 0) wr)) (fun _ _ i _ => c.n1 - (intOf i).toNat)
        case atStart => exact ⟨0, rfl, Nat.zero_le _, by rw [HNn.out] at HM0 ⊢; exact HM0.out⟩
        case round =>
          clear HM0
          obtain ⟨k, rfl, hk, HM⟩ := hrel
          obtain ⟨p0, p1, p2, p3, p4, p5, p6, p7⟩ := HM.out.mid.box.cells
          by_cases hlt : k < c.n1
          · obtain ⟨b, off, ha, hbw, hcell⟩ := HH.out.r1.addr (by rw [HH.out.l1]; omega)
            rw [HA1.out] at ha
            subst ha
            have hc0 := (HM.out.mid.below.cell (p := ⟨b, off + k, none⟩) hbw).trans (hcell k (by rw [HH.out.l1]; exact hlt))
            rw [atP_getD] at hc0
            obtain ⟨b', off', rfl, hbw', hcell'⟩ := HI.out.addr (by rw [HIl.out]; omega)
            have hc1 := (HM.out.mid.below.cell (p := ⟨b', off' + k, none⟩) hbw').trans (hcell' k (by rw [HIl.out]; exact hlt))
            have hli := in_ins HRt.out _ (atP_mem C.ins k (by rw [HH.out.l1]; exact hlt))
            rw [← HNn.out] at hli
            have HST := hide (startK_in C st is k)
            generalize atP C.ins k = x at hc0 hli HST
            generalize atP is k = y at hc1 HST
            have hq := tdiv_two hli.1
            have hv := hli.2.2
            generalize varN x = v at hq hv HST
            obtain ⟨hcm, hfm⟩ := HM.out.mid.at hv
            obtain ⟨c0, c1, c2⟩ := HM.out.box.cells
            have HM3 : Hid (∀ q, PMidS w1 (w.heap.size + 1) c sb g n ((C.startK st is k 0).set v y) ((wr.drewN q).setCell ⟨g, v, none⟩ (.bool y))) := fun q => (HM.out.then (Drew.below ⟨q, rfl⟩)).set v y
            generalize atP (C.startK st is k 0) v = y0 at hcm
            have hk0 : (0 : Int) ≤ (k : Int) := by omega
            have hk1 : (k : Int) < (c.n1 : Int) := by omega
            have hv1 : (v : Int) < (n : Int) := by omega
            clear hcell hcell' hli p0 p1 p2 p3 p4 p5 p6 p7
            go_wp2
            clear hc0 c0 c1
            go_region
            all_goals go_wp2
            all_goals go_roundw
            case rel => exact ⟨k + 1, by go_num, by omega, by rw [HST.out]; exact HM3.out _⟩
            case measure => simp [intOf]; omega
          · obtain rfl : k = c.n1 := by omega
            have HM1 : Hid (PMidS w1 (w.heap.size + 1) c sb g n (C.startK st is C.ins.length 0) wr) := by rw [HH.out.l1]; exact HM.out
            rw [HA2.out] at p2
            clear HM hlt hk
            go_wp2
            clear p0 p1 p2 p3 p4 p5 p6 p7
            go_loopw [15, 16, 72] (fun _ _ i wr => ∃ (k : Nat), i = .int .i64 k ∧ k ≤ c.n2 ∧ Hid (PMidS w1 (w.heap.size + 1) c sb g n (C.startK st is C.ins.length k) wr)) (fun _ _ i _ => c.n2 - (intOf i).toNat)
            case atStart => exact ⟨0, rfl, Nat.zero_le _, HM1.out⟩
            case round =>
              clear HM1
              obtain ⟨k, rfl, hk, HM⟩ := hrel
              by_cases hlt : k < c.n2
              · obtain ⟨b, off, ha, hbw, hcell⟩ := HH.out.r2.addr (by rw [cellsT_len, HH.out.l2]; omega)
                rw [HA2.out] at ha
                subst ha
                have hat := cellsT_at C.lats k (by rw [HH.out.l2]; exact hlt)
                have hc0 := (HM.out.mid.below.cell (p := ⟨b, off + k * 3, none⟩) hbw).trans (hcell _ _ hat.1)
                have hc1 := (HM.out.mid.below.cell (p := ⟨b, off + k * 3 + 1, none⟩) hbw).trans (hcell _ _ hat.2.1)
                have hc2 := (HM.out.mid.below.cell (p := ⟨b, off + k * 3 + 2, none⟩) hbw).trans (hcell _ _ hat.2.2)
                obtain ⟨b', off', rfl, hbw', hcell'⟩ := HS.out.addr (by rw [HSl.out]; omega)
                have hli := (in_lats HRt.out _ (atP_mem C.lats k (by rw [HH.out.l2]; exact hlt))).1
                rw [← HNn.out] at hli
                have HST := hide (startK_lat C st is (j := k) (by rw [HH.out.l2]; exact hlt))
                generalize atP C.lats k = x at hc0 hc1 hc2 hli HST
                obtain ⟨x0, x1, x2⟩ := x
                dsimp only at hc0 hc1 hc2 hli HST
                have hd := (belowThen HM.out.mid.below (below_alloc wr (.cells #[.int .i64 x0, .int .i64 x1, .int .i64 x2] 88))).cell (p := ⟨b', off' + k, none⟩) hbw'
                have hc3 := hd.trans (hcell' k (by rw [HSl.out]; exact hlt))
                generalize atP st k = y at hc3 HST
                have hq := tdiv_two hli.1
                have hv := hli.2.2
                generalize varN x0 = v at hq hv HST
                have M1 := HM.out.then (below_alloc wr (.cells #[.int .i64 x0, .int .i64 x1, .int .i64 x2] 88))
                obtain ⟨hcm, hfm⟩ := M1.mid.at hv
                obtain ⟨d0, d1, d2⟩ := M1.box.cells
                have HM3 : Hid (∀ q, PMidS w1 (w.heap.size + 1) c sb g n ((C.startK st is C.ins.length k).set v y) (((wr.alloc (.cells #[.int .i64 x0, .int .i64 x1, .int .i64 x2] 88)).drewN q).setCell ⟨g, v, none⟩ (.bool y))) := fun q => (M1.then (Drew.below ⟨q, rfl⟩)).set v y
                generalize atP (C.startK st is C.ins.length k) v = y0 at hcm
                have hr0 : (wr.alloc (.cells #[.int .i64 x0, .int .i64 x1, .int .i64 x2] 88)).cell? ⟨wr.heap.size, 0, none⟩ = some (.int .i64 x0) := cell_of_row _ _ 0 _ _ (0, 0) (heap_alloc_new wr _)
                have hk0 : (0 : Int) ≤ (k : Int) := by omega
                have hk1 : (k : Int) < (c.n2 : Int) := by omega
                have hv1 : (v : Int) < (n : Int) := by omega
                clear hcell hcell' hli hat hd M1 d0 d1
                go_wp2
                clear hc0 hc1 hc2
                generalize wr.alloc (.cells #[.int .i64 x0, .int .i64 x1, .int .i64 x2] 88) = W at hc3 hcm hfm HM3 hr0 d2 ⊢
                go_region
                all_goals go_wp2
                all_goals go_roundw
                case rel => exact ⟨k + 1, by go_num, by omega, by rw [HST.out]; exact HM3.out _⟩
                case measure => simp [intOf]; omega
              · obtain rfl : k = c.n2 := by omega
                have HM1 : Hid (PMidS w1 (w.heap.size + 1) c sb g n (C.settleN (C.start st is) 0) wr) := by
                  have := HM.out
                  rw [← HH.out.l2] at this
                  exact this
                clear HM hlt hk
                go_wp2
                go_loopw [19, 94] (fun _ i wr => ∃ (k : Nat), i = .int .i64 k ∧ k ≤ c.n6 ∧ Hid (PMidS w1 (w.heap.size + 1) c sb g n (C.settleN (C.start st is) k) wr)) (fun _ i _ => c.n6 - (intOf i).toNat)
                case atStart => exact ⟨0, rfl, Nat.zero_le _, HM1.out⟩
                case round =>
                  clear HM1
                  obtain ⟨k, rfl, hk, HM⟩ := hrel
                  by_cases hlt : k < c.n6
                  · obtain ⟨b', off', rfl, hbw', hcell'⟩ := HOr.out.addr (by rw [List.length_map, HTl.out]; omega)
                    have hcp := (HM.out.mid.below.cell (p := ⟨b', off' + k, none⟩) hbw').trans (hcell' k (by rw [List.length_map, HTl.out]; exact hlt))
                    rw [atP_getD, atP_map _ _ _ (by rw [HTl.out]; exact hlt)] at hcp
                    have hp := turn_lt _ (atP_mem C.turn k (by rw [HTl.out]; exact hlt))
                    have HST := hide (settle_succ C (C.start st is) k)
                    generalize atP C.turn k = p at hcp hp HST
                    have hp6 : p < c.n6 := by rw [← HH.out.l6]; exact hp
                    obtain ⟨b, off, ha, hbw, hcell⟩ := HH.out.r6.addr (by rw [cellsT_len, HH.out.l6]; omega)
                    rw [HA6.out] at ha
                    subst ha
                    have hat := cellsT_at C.ands p hp
                    have hc0 := (HM.out.mid.below.cell (p := ⟨b, off + p * 3, none⟩) hbw).trans (hcell _ _ hat.1)
                    have hc1 := (HM.out.mid.below.cell (p := ⟨b, off + p * 3 + 1, none⟩) hbw).trans (hcell _ _ hat.2.1)
                    have hc2 := (HM.out.mid.below.cell (p := ⟨b, off + p * 3 + 2, none⟩) hbw).trans (hcell _ _ hat.2.2)
                    have hti := in_ands HRt.out _ (atP_mem C.ands p hp)
                    rw [← HNn.out] at hti
                    have HG := hide (fun W hm => sAnd_any w1 (w.heap.size + 1) c sb g n (C.settleN (C.start st is) k) (atP C.ands p) W hm (by omega) hti)
                    generalize atP C.ands p = x at hc0 hc1 hc2 HG HST
                    obtain ⟨x0, x1, x2⟩ := x
                    dsimp only at hc0 hc1 hc2
                    obtain ⟨p0, p1, p2, p3, p4, p5, p6, p7⟩ := HM.out.mid.box.cells
                    rw [HA6.out] at p6
                    clear hcell hcell' hat hti hp
                    go_wp2_with (go_at_call 78; refine (HG.out _ HM.out).mono ?_; rintro e w3 ⟨rfl, hm3⟩; have HM3 := hide hm3; clear hm3)
                    go_roundw
                    case rel => exact ⟨k + 1, by go_num, by omega, by rw [HST.out]; exact HM3.out⟩
                    case measure => simp [intOf]; omega
                  · obtain rfl : k = c.n6 := by omega
                    have hend := hide (hgood.out wr (w.heap.size + 1) sb g n HNn.out HW1.out (by have := HM.out; rw [← HTl.out] at this; exact this))
                    go_wp2
                    exact hend.out
end Go.Proofs.Ytmbbcghhdjpgeaa
