/-
  THE WALKS of First, the program's and the reference's.
  THE WALKS of layer 8's laws' own functions: num, alive, sameRow; lists of bools that come in.
-/
import Derived.Test.YtmbbcghhdjpgeaaSimS
import Derived.Deep.Grids

namespace Go.Proofs.Ytmbbcghhdjpgeaa
open Go.RowKit

/-- What First tells. -/
def FirstPost (w : World) (C : Circ) (fr : List Bool) (e : Ending) (w' : World) : Prop :=
  Below w.heap.size w w' ∧ ∃ a n k, e = .returned (.tuple #[.slice a n k, .int .i64 C.checkI]) ∧ RowB w' a (C.firstE fr) ∧ (C.firstE fr).length = n

/-- The first k are told, the others are false. -/
def firstK (ts : List Tri) (fr : List Bool) (m k : Nat) : List Bool := firstN ts fr k ++ List.replicate (m - k) false
theorem firstK_zero (ts : List Tri) (fr : List Bool) (m : Nat) : firstK ts fr m 0 = List.replicate m false := by simp [firstK, firstN]
theorem firstK_end (ts : List Tri) (fr : List Bool) (m : Nat) : firstK ts fr m m = firstN ts fr m := by simp [firstK]
theorem firstK_succ (ts : List Tri) (fr : List Bool) {m k : Nat} (h : k < m) : firstK ts fr m (k + 1) = (firstK ts fr m k).set k (firstB ts fr k) := by
  unfold firstK
  have hl : (firstN ts fr k).length = k := firstN_len ts fr k
  have e : m - k = (m - (k + 1)) + 1 := by omega
  rw [firstN_succ, List.set_append_right _ _ (by omega), hl, Nat.sub_self, e, List.replicate_succ]
  simp
theorem firstK_same (ts : List Tri) (fr : List Bool) {m k : Nat} (h : k < m) (hb : firstB ts fr k = false) : firstK ts fr m (k + 1) = firstK ts fr m k := by
  unfold firstK
  have e : m - k = (m - (k + 1)) + 1 := by omega
  rw [firstN_succ, hb, e, List.replicate_succ]
  simp
theorem freeN_own {ts : List Tri} {k : Nat} (h : 1 < (atP ts k).2.2) : freeN ts (k + 1) = freeN ts k + 1 := by show freeN ts k + (if 1 < (atP ts k).2.2 then 1 else 0) = _; rw [if_pos h]
theorem freeN_set {ts : List Tri} {k : Nat} (h : ¬ 1 < (atP ts k).2.2) : freeN ts (k + 1) = freeN ts k := by show freeN ts k + (if 1 < (atP ts k).2.2 then 1 else 0) = _; rw [if_neg h]; rfl
theorem firstB_own {ts : List Tri} {fr : List Bool} {k : Nat} (h : 1 < (atP ts k).2.2) : firstB ts fr k = atP fr (freeN ts k) := if_pos h
theorem firstB_set {ts : List Tri} {fr : List Bool} {k : Nat} (h : ¬ 1 < (atP ts k).2.2) : firstB ts fr k = decide ((atP ts k).2.2 = 1) := if_neg h
theorem lat_two {C : Circ} (hR : Right C) {k : Nat} (hk : k < C.lats.length) : 2 ≤ (atP C.lats k).1 := by
  have h2 := hR.lits.own _ (made_lat hk)
  omega
theorem drop_at {fr : List Bool} {j : Nat} (i : Nat) : atP (fr.drop j) i = atP fr (j + i) := by simp [atP, List.getD_eq_getElem?_getD]
theorem atP_out {l : List Bool} {i : Nat} (h : l.length ≤ i) : atP l i = false := by simp [atP, List.getD_eq_getElem?_getD, List.getElem?_eq_none h]
theorem freeN_le (ts : List Tri) : ∀ k, freeN ts k ≤ k
  | 0 => Nat.le_refl _
  | k + 1 => by
    have := freeN_le ts k
    show freeN ts k + (if 1 < (atP ts k).2.2 then 1 else 0) ≤ k + 1
    split <;> omega

set_option maxRecDepth 100000 in
set_option maxHeartbeats 4000000 in
theorem rFirst_any (c : CV) (C : Circ) (w : World) (fa : Option Addr) (fn fc : Nat) (fr : List Bool) (h : Holds w c C) (hck : ∀ W, Below w.heap.size w W → Calls Try.prog 24 #[c.v] W fun e w' => e = .returned (.int .i64 C.checkI) ∧ Below W.heap.size W w') (hs : RowB w fa fr) (hsl : fr.length = fn) (hfn : fn ≤ 1000000) :
    Calls Try.prog 23 #[c.v, .slice fa fn fc] w (FirstPost w C fr) := by
  obtain ⟨i0, hi, hz0, hz1, hz2⟩ := info_parts infoBool
  have HO := hide hck
  have HB := hide (box_new w c)
  have HH := hide h
  have HS := hide hs
  have HSl := hide hsl
  generalize hP : FirstPost w C fr = Post
  have HP := hide hP
  clear h hck hs hsl hP
  unfold CV.v at HO ⊢
  unfold Box at HB
  generalize hA2 : c.a2 = A2 at HO HB ⊢
  have HA2 := hide hA2
  clear hA2
  go_enter Try.func23, Try.ntmps23
  go_wp2_with fail
  refine (HO.out _ (below_alloc w _)).mono ?_
  rintro e w1 ⟨rfl, hb1⟩
  have HB1 : Hid (Box w1 w.heap.size c) := by
    have := hb1.block w.heap.size (by simp)
    rw [HB.out] at this
    show w1.heap[w.heap.size]? = _
    rw [this, HA2.out]
  have HW1 := hide (belowThen (below_alloc w _) hb1)
  clear HO HB hb1
  by_cases hc : C.checkI = 0
  case neg =>
    have hend : Hid (Post (.returned (.tuple #[.slice none 0 0, .int .i64 C.checkI])) w1) := by
      show Post _ w1
      rw [← HP.out]
      have e : C.firstE fr = [] := if_neg hc
      refine ⟨HW1.out, none, 0, 0, rfl, ?_, ?_⟩
      · rw [e]; exact .inl ⟨rfl, rfl⟩
      · rw [e]; rfl
    generalize C.checkI = ck at hc hend ⊢
    have hck : (ck != 0) = true := by simpa using hc
    clear hc
    go_wp2
    exact hend.out
  case pos =>
    rw [hc]
    have HC := hide hc
    have HRt := hide (right_of hc)
    replace HH := hide (HH.out.below HW1.out)
    replace HS := hide (HS.out.below HW1.out)
    have hn2 : c.n2 ≤ 64 := by rw [← HH.out.l2]; exact HRt.out.small.lats
    have HM0 : Hid (BAp w1 (.slice none 0 0) 0 [] w1) := bap_nil w1
    clear hc
    go_wp2
    go_loopw [7, 8, 9, 10, 11] (fun v j i _ _ wr => ∃ k : Nat, j = .int .i64 (freeN C.lats k : Nat) ∧ i = .int .i64 k ∧ k ≤ c.n2 ∧ Hid (BAp w1 v k (firstN C.lats fr k) wr)) (fun _ _ i _ _ _ => c.n2 - (intOf i).toNat)
    case atStart => exact ⟨0, rfl, rfl, Nat.zero_le _, HM0.out⟩
    case round =>
      clear HM0
      obtain ⟨k, rfl, rfl, hk, HM⟩ := hrel
      obtain ⟨-, -, q2, -, -, -, -, -⟩ := (HB1.out.below HM.out.below).cells
      rw [HA2.out] at q2
      by_cases hlt : k < c.n2
      · obtain ⟨b, off, ha, hbw, hcell⟩ := HH.out.r2.addr (by rw [cellsT_len, HH.out.l2]; omega)
        rw [HA2.out] at ha
        subst ha
        have hat := cellsT_at C.lats k (by rw [HH.out.l2]; exact hlt)
        have hc2 := (HM.out.below.cell (p := ⟨b, off + k * 3 + 2, none⟩) hbw).trans (hcell _ _ hat.2.2)
        have hrs := reset_of HRt.out (k := k) (by rw [HH.out.l2]; exact hlt)
        have HST := hide (firstN_succ C.lats fr k)
        have HF1 := hide (fun h => firstB_own (ts := C.lats) (fr := fr) (k := k) h)
        have HF2 := hide (fun h => firstB_set (ts := C.lats) (fr := fr) (k := k) h)
        have HN1 := hide (fun h => freeN_own (ts := C.lats) (k := k) h)
        have HN2 := hide (fun h => freeN_set (ts := C.lats) (k := k) h)
        have hfl := freeN_le C.lats k
        generalize atP C.lats k = x at hc2 hrs HF1 HF2 HN1 HN2
        obtain ⟨x0, x1, x2⟩ := x
        dsimp only at hc2 hrs HF1 HF2 HN1 HN2
        obtain ⟨j, hj⟩ : ∃ j, j = freeN C.lats k := ⟨_, rfl⟩
        rw [← hj] at HF1 HN1 HN2 hfl ⊢
        clear hcell hat hj
        rcases hrs with rfl | rfl | ⟨hx, hx2⟩
        · have HF := hide (HF2.out (by decide))
          have HN := hide (HN2.out (by decide))
          clear HF1 HF2 HN1 HN2
          go_wp2_with (at_builtin; refine wpList_append_own _ rfl (.tmp 46) (.tmp 48) 28 rfl w1.heap.size 4 i0 (.bool false) 1 1 Try.underlying28 hi hz0 hz1 hz2 rfl (by decide) _ _ _ rfl (HM.out.own.alloc _) ⟨wr.heap.size, 0, none⟩ 1 1 [.bool false] rfl rfl (cell_one_at rfl _ _) (by intro u hu; simp at hu; subst hu; rfl) (by unfold maxLen; omega) (by omega) (by have := HM.out.below.size; simp; omega) ?_; intro v6 w6 hown6 hg6 _)
          go_roundw
          case rel =>
            refine ⟨k + 1, by rw [HN.out], by go_num, by omega, HM.out.step (below_alloc wr _) hg6 ?_⟩
            rw [HST.out, HF.out, List.map_append]; exact hown6
          case measure => simp [intOf]; omega
        · have HF := hide (HF2.out (by decide))
          have HN := hide (HN2.out (by decide))
          clear HF1 HF2 HN1 HN2
          go_wp2_with (at_builtin; refine wpList_append_own _ rfl (.tmp 46) (.tmp 48) 28 rfl w1.heap.size 4 i0 (.bool false) 1 1 Try.underlying28 hi hz0 hz1 hz2 rfl (by decide) _ _ _ rfl (HM.out.own.alloc _) ⟨wr.heap.size, 0, none⟩ 1 1 [.bool true] rfl rfl (cell_one_at rfl _ _) (by intro u hu; simp at hu; subst hu; rfl) (by unfold maxLen; omega) (by omega) (by have := HM.out.below.size; simp; omega) ?_; intro v6 w6 hown6 hg6 _)
          go_roundw
          case rel =>
            refine ⟨k + 1, by rw [HN.out], by go_num, by omega, HM.out.step (below_alloc wr _) hg6 ?_⟩
            rw [HST.out, HF.out, List.map_append]; exact hown6
          case measure => simp [intOf]; omega
        · have hx1 : ¬ x2 = 1 := by omega
          have hx3 : 1 < x2 := by omega
          have hx1b : (x2 == 1) = false := by simpa using hx1
          have HF := hide (HF1.out hx3)
          have HN := hide (HN1.out hx3)
          clear HF1 HF2 HN1 HN2 hx hx2
          by_cases hjf : j < fn
          · obtain ⟨b', off', rfl, hbw', hcell'⟩ := HS.out.addr (by rw [HSl.out]; omega)
            have hc3 := (HM.out.below.cell (p := ⟨b', off' + j, none⟩) hbw').trans (hcell' j (by rw [HSl.out]; exact hjf))
            generalize atP fr j = y at hc3 HF
            have hj0 : (0 : Int) ≤ (j : Int) := by omega
            have hj1 : (j : Int) < (fn : Int) := by omega
            clear hcell'
            cases y with
            | true =>
              go_wp2_with (at_builtin; refine wpList_append_own _ rfl (.tmp 46) (.tmp 48) 28 rfl w1.heap.size 4 i0 (.bool false) 1 1 Try.underlying28 hi hz0 hz1 hz2 rfl (by decide) _ _ _ rfl (HM.out.own.alloc _) ⟨wr.heap.size, 0, none⟩ 1 1 [.bool true] rfl rfl (cell_one_at rfl _ _) (by intro u hu; simp at hu; subst hu; rfl) (by unfold maxLen; omega) (by omega) (by have := HM.out.below.size; simp; omega) ?_; intro v6 w6 hown6 hg6 _)
              go_roundw
              case rel =>
                refine ⟨k + 1, by rw [HN.out]; go_num, by go_num, by omega, HM.out.step (below_alloc wr _) hg6 ?_⟩
                rw [HST.out, HF.out, List.map_append]; exact hown6
              case measure => simp [intOf]; omega
            | false =>
              go_wp2_with (at_builtin; refine wpList_append_own _ rfl (.tmp 46) (.tmp 48) 28 rfl w1.heap.size 4 i0 (.bool false) 1 1 Try.underlying28 hi hz0 hz1 hz2 rfl (by decide) _ _ _ rfl (HM.out.own.alloc _) ⟨wr.heap.size, 0, none⟩ 1 1 [.bool false] rfl rfl (cell_one_at rfl _ _) (by intro u hu; simp at hu; subst hu; rfl) (by unfold maxLen; omega) (by omega) (by have := HM.out.below.size; simp; omega) ?_; intro v6 w6 hown6 hg6 _)
              go_roundw
              case rel =>
                refine ⟨k + 1, by rw [HN.out]; go_num, by go_num, by omega, HM.out.step (below_alloc wr _) hg6 ?_⟩
                rw [HST.out, HF.out, List.map_append]; exact hown6
              case measure => simp [intOf]; omega
          · have e : atP fr j = false := atP_out (by rw [HSl.out]; omega)
            rw [e] at HF
            have hj1 : ¬ (j : Int) < (fn : Int) := by omega
            clear e
            go_wp2_with (at_builtin; refine wpList_append_own _ rfl (.tmp 46) (.tmp 48) 28 rfl w1.heap.size 4 i0 (.bool false) 1 1 Try.underlying28 hi hz0 hz1 hz2 rfl (by decide) _ _ _ rfl (HM.out.own.alloc _) ⟨wr.heap.size, 0, none⟩ 1 1 [.bool false] rfl rfl (cell_one_at rfl _ _) (by intro u hu; simp at hu; subst hu; rfl) (by unfold maxLen; omega) (by omega) (by have := HM.out.below.size; simp; omega) ?_; intro v6 w6 hown6 hg6 _)
            go_roundw
            case rel =>
              refine ⟨k + 1, by rw [HN.out]; go_num, by go_num, by omega, HM.out.step (below_alloc wr _) hg6 ?_⟩
              rw [HST.out, HF.out, List.map_append]; exact hown6
            case measure => simp [intOf]; omega
      · obtain rfl : k = c.n2 := by omega
        have hfin : Hid (Post (.returned (.tuple #[u7, .int .i64 0])) wr) := by
          show Post _ wr
          rw [← HP.out]
          have e : C.firstE fr = firstN C.lats fr c.n2 := by rw [← HH.out.l2]; exact if_pos HC.out
          obtain ⟨a, kk, rfl, hr, hl⟩ := rowB_own HM.out.own
          refine ⟨belowThen HW1.out HM.out.below, a, c.n2, kk, by rw [HC.out], ?_, ?_⟩
          · rw [e]; exact hr
          · rw [e]; exact hl
        go_wp2
        exact hfin.out

set_option maxRecDepth 100000 in
set_option maxHeartbeats 4000000 in
theorem sFirst_any (c : CV) (C : Circ) (w : World) (fa : Option Addr) (fn fc : Nat) (fr : List Bool) (h : Holds w c C) (hf : Fits c C) (hs : RowB w fa fr) (hsl : fr.length = fn) (hfn : fn ≤ 1000000) (hfc : fn ≤ fc) (hfc2 : fc ≤ 9223372036854775807) :
    Calls Try.prog 22 #[c.v, .slice fa fn fc] w (FirstPost w C fr) := by
  obtain ⟨i0, hi0, hz0, hz1, hz2⟩ := info_parts infoBool
  have HO := hide (fun W (hb : Below w.heap.size w W) => check_any c C W (h.below hb) hf)
  have HB := hide (box_new w c)
  have HH := hide h
  have HS := hide hs
  have HSl := hide hsl
  generalize hP : FirstPost w C fr = Post
  have HP := hide hP
  clear h hf hs hsl hP
  unfold CV.v at HO ⊢
  unfold Box at HB
  generalize hA2 : c.a2 = A2 at HO HB ⊢
  have HA2 := hide hA2
  clear hA2
  go_enter Try.func22, Try.ntmps22
  go_wp2_with fail
  refine (HO.out _ (below_alloc w _)).mono ?_
  rintro e w1 ⟨rfl, hb1⟩
  have HB1 : Hid (Box w1 w.heap.size c) := by
    have := hb1.block w.heap.size (by simp)
    rw [HB.out] at this
    show w1.heap[w.heap.size]? = _
    rw [this, HA2.out]
  have HW1 := hide (belowThen (below_alloc w _) hb1)
  clear HO HB hb1
  by_cases hc : C.checkI = 0
  case neg =>
    have hend : Hid (Post (.returned (.tuple #[.slice none 0 0, .int .i64 C.checkI])) w1) := by
      show Post _ w1
      rw [← HP.out]
      have e : C.firstE fr = [] := if_neg hc
      refine ⟨HW1.out, none, 0, 0, rfl, ?_, ?_⟩
      · rw [e]; exact .inl ⟨rfl, rfl⟩
      · rw [e]; rfl
    generalize C.checkI = ck at hc hend ⊢
    have hck : (ck != 0) = true := by simpa using hc
    clear hc
    go_wp2
    exact hend.out
  case pos =>
    rw [hc]
    have HC := hide hc
    have HRt := hide (right_of hc)
    replace HH := hide (HH.out.below HW1.out)
    replace HS := hide (HS.out.below HW1.out)
    have hn2 : c.n2 ≤ 64 := by rw [← HH.out.l2]; exact HRt.out.small.lats
    clear hc
    obtain ⟨q0, q1, q2, q3, q4, q5, q6, q7⟩ := HB1.out.cells
    rw [HA2.out] at q2
    go_wp2_with (first | (at_make; refine wpList_make_full _ rfl _ _ 28 rfl w1.heap.size 4 i0 (.bool false) 1 Try.underlying28 hi0 hz0 hz1 .i64 .i64 _ _ c.n2 rfl rfl (by first | rfl | omega) (by first | rfl | omega) (by rw [hz2]; omega) (by unfold maxLen; omega) (Nat.le_refl _) ?_; intro w2 hown hg2; rw [madeB] at hown; have HM0 : Hid (GMid w1 w.heap.size c w1.heap.size c.n2 (List.replicate c.n2 false) w2) := ⟨hown, HB1.out.grown hg2 (by simp), HB1.out.lt, (Below.refl _ _).grown hg2 (Nat.le_refl _) (fun k hk => by cases hk)⟩; obtain ⟨p0, p1, p2, p3, p4, p5, p6, p7⟩ := HM0.out.box.cells; rw [HA2.out] at p2; clear hown hg2) | fail)
    clear q0 q1 q2 q3 q4 q5 q6 q7
    have HF0 : Hid (fn ≤ fc ∧ fc ≤ 9223372036854775807) := ⟨hfc, hfc2⟩
    clear hfc hfc2
    go_loopw [1, 8, 9, 22] (fun f _ _ i wr => ∃ (k j m cp : Nat) (a : Option Addr), f = .slice a m cp ∧ i = .int .i64 k ∧ k ≤ c.n2 ∧ Hid (j = min (freeN C.lats k) fn ∧ m = fn - j ∧ m ≤ cp ∧ cp ≤ 9223372036854775807 ∧ RowB w1 a (fr.drop j)) ∧ Hid (GMid w1 w.heap.size c w1.heap.size c.n2 (firstK C.lats fr c.n2 k) wr)) (fun _ _ _ i _ => c.n2 - (intOf i).toNat)
    case atStart => exact ⟨0, 0, fn, fc, fa, rfl, rfl, Nat.zero_le _, ⟨(by show 0 = min 0 fn; omega), by omega, HF0.out.1, HF0.out.2, by rw [List.drop_zero]; exact HS.out⟩, by rw [firstK_zero]; exact HM0.out⟩
    case round =>
      clear HM0 p0 p1 p2 p3 p4 p5 p6 p7 HS
      obtain ⟨k, j, m, cp, a, rfl, rfl, hk, HJ, HM⟩ := hrel
      by_cases hlt : k < c.n2
      · obtain ⟨b, off, ha, hbw, hcell⟩ := HH.out.r2.addr (by rw [cellsT_len, HH.out.l2]; omega)
        rw [HA2.out] at ha
        subst ha
        have hat := cellsT_at C.lats k (by rw [HH.out.l2]; exact hlt)
        have hc0 := (HM.out.below.cell (p := ⟨b, off + k * 3, none⟩) hbw).trans (hcell _ _ hat.1)
        have hc1 := (HM.out.below.cell (p := ⟨b, off + k * 3 + 1, none⟩) hbw).trans (hcell _ _ hat.2.1)
        have hc2 := (HM.out.below.cell (p := ⟨b, off + k * 3 + 2, none⟩) hbw).trans (hcell _ _ hat.2.2)
        have hrs := reset_of HRt.out (k := k) (by rw [HH.out.l2]; exact hlt)
        have h20 := lat_two HRt.out (k := k) (by rw [HH.out.l2]; exact hlt)
        have HST := hide (firstK_succ C.lats fr hlt)
        have HSS := hide (firstK_same C.lats fr hlt)
        have HF1 := hide (fun h => firstB_own (ts := C.lats) (fr := fr) (k := k) h)
        have HF2 := hide (fun h => firstB_set (ts := C.lats) (fr := fr) (k := k) h)
        have HN1 := hide (fun h => freeN_own (ts := C.lats) (k := k) h)
        have HN2 := hide (fun h => freeN_set (ts := C.lats) (k := k) h)
        generalize atP C.lats k = x at hc0 hc1 hc2 hrs h20 HF1 HF2 HN1 HN2
        obtain ⟨x0, x1, x2⟩ := x
        dsimp only at hc0 hc1 hc2 hrs h20 HF1 HF2 HN1 HN2
        have M1 := HM.out.then (below_alloc wr (.cells #[.int .i64 x0, .int .i64 x1, .int .i64 x2] 88))
        obtain ⟨hcm, hfm⟩ := M1.at hlt
        have HM3 : Hid (∀ q y, GMid w1 w.heap.size c w1.heap.size c.n2 ((firstK C.lats fr c.n2 k).set k y) (((wr.alloc (.cells #[.int .i64 x0, .int .i64 x1, .int .i64 x2] 88)).drewN q).setCell ⟨w1.heap.size, k, none⟩ (.bool y))) := fun q y => (M1.then (Drew.below ⟨q, rfl⟩)).set k y
        have HM4 : Hid (∀ y, GMid w1 w.heap.size c w1.heap.size c.n2 ((firstK C.lats fr c.n2 k).set k y) ((wr.alloc (.cells #[.int .i64 x0, .int .i64 x1, .int .i64 x2] 88)).setCell ⟨w1.heap.size, k, none⟩ (.bool y))) := fun y => M1.set k y
        have HM5 := hide M1
        generalize atP (firstK C.lats fr c.n2 k) k = y0 at hcm
        have hr0 : (wr.alloc (.cells #[.int .i64 x0, .int .i64 x1, .int .i64 x2] 88)).cell? ⟨wr.heap.size, 0, none⟩ = some (.int .i64 x0) := cell_of_row _ _ 0 _ _ (0, 0) (heap_alloc_new wr _)
        have hr2 : (wr.alloc (.cells #[.int .i64 x0, .int .i64 x1, .int .i64 x2] 88)).cell? ⟨wr.heap.size, 2, none⟩ = some (.int .i64 x2) := cell_of_row _ _ 2 _ _ (0, 0) (heap_alloc_new wr _)
        have hk0 : (0 : Int) ≤ (k : Int) := by omega
        have hk1 : (k : Int) < (c.n2 : Int) := by omega
        clear hcell hat M1
        rcases hrs with hx | hx | ⟨hx, hx2⟩
        · subst hx
          have HF := hide (HF2.out (by decide))
          have HN := hide (HN2.out (by decide))
          have hne : ((0 : Int) != x0) = true := by simp; omega
          have hne2 : ¬ ((0 : Int) = x0) := by omega
          clear HF1 HF2 HN1 HN2 HSS HM3 HM5
          go_wp2
          go_roundw
          case rel => exact ⟨k + 1, j, m, cp, a, rfl, by go_num, by omega, by rw [HN.out]; exact HJ.out, by rw [HST.out, HF.out]; exact HM4.out _⟩
          case measure => simp [intOf]; omega
        · subst hx
          have HF := hide (HF2.out (by decide))
          have HN := hide (HN2.out (by decide))
          have hne : ((1 : Int) != x0) = true := by simp; omega
          have hne2 : ¬ ((1 : Int) = x0) := by omega
          clear HF1 HF2 HN1 HN2 HSS HM3 HM5
          go_wp2
          go_roundw
          case rel => exact ⟨k + 1, j, m, cp, a, rfl, by go_num, by omega, by rw [HN.out]; exact HJ.out, by rw [HST.out, HF.out]; exact HM4.out _⟩
          case measure => simp [intOf]; omega
        · subst hx
          have hx3 : 1 < x2 := by omega
          have HF := hide (HF1.out hx3)
          have HN := hide (HN1.out hx3)
          have heq : (x2 != x2) = false := by simp
          clear HF1 HF2 HN1 HN2 hx2 h20
          obtain ⟨J1, J2, J3, J4, J5⟩ := HJ.out
          have HJ5 := hide J5
          clear HJ J5
          by_cases hm : m = 0
          · subst hm
            have HE : Hid (firstB C.lats fr k = false) := by
              show firstB C.lats fr k = false
              rw [HF.out]; exact atP_out (by rw [HSl.out]; omega)
            have HNew : Hid (j = min (freeN C.lats (k + 1)) fn ∧ 0 = fn - j ∧ 0 ≤ cp ∧ cp ≤ 9223372036854775807 ∧ RowB w1 a (fr.drop j)) := ⟨by rw [HN.out]; omega, by omega, by omega, J4, HJ5.out⟩
            clear J1 J2 J3 J4 HST HM3 HM4
            go_wp2
            go_roundw
            case rel => exact ⟨k + 1, j, 0, cp, a, rfl, by go_num, by omega, HNew.out, by rw [HSS.out HE.out]; exact HM5.out⟩
            case measure => simp [intOf]; omega
          · obtain ⟨m, rfl⟩ : ∃ m', m = m' + 1 := ⟨m - 1, by omega⟩
            obtain ⟨cp, rfl⟩ : ∃ cp', cp = cp' + 1 := ⟨cp - 1, by omega⟩
            have hdl : (fr.drop j).length = m + 1 := by rw [List.length_drop, HSl.out]; omega
            obtain ⟨b', off', rfl, hbw', hcell'⟩ := HJ5.out.addr (by omega)
            have hc3 := ((belowThen HM.out.below (below_alloc wr (.cells #[.int .i64 x2, .int .i64 x1, .int .i64 x2] 88))).cell (p := ⟨b', off' + 0, none⟩) hbw').trans (hcell' 0 (by omega))
            rw [drop_at, Nat.add_zero, Nat.add_zero] at hc3
            have HFj : Hid (firstB C.lats fr k = atP fr j) := by
              show firstB C.lats fr k = _
              rw [HF.out]; congr 1; omega
            generalize atP fr j = y at hc3 HFj
            have HNew : Hid (j + 1 = min (freeN C.lats (k + 1)) fn ∧ m = fn - (j + 1) ∧ m ≤ cp ∧ cp ≤ 9223372036854775807 ∧ RowB w1 (some ⟨b', off' + 1, none⟩) (fr.drop (j + 1))) := by
              refine ⟨by rw [HN.out]; omega, by omega, by omega, by omega, .inr ⟨_, rfl, fun i u hu => ?_⟩⟩
              rw [List.getElem?_map] at hu
              have hi : i < (fr.drop (j + 1)).length := by
                rcases Nat.lt_or_ge i (fr.drop (j + 1)).length with h | h
                · exact h
                · rw [List.getElem?_eq_none h] at hu; cases hu
              rw [List.getElem?_eq_getElem hi] at hu
              have e : (fr.drop (j + 1))[i] = atP (fr.drop j) (i + 1) := by rw [← atP_eq _ _ hi, drop_at, drop_at]; congr 1; omega
              rw [e] at hu
              cases hu
              rw [add_plain, show off' + 1 + i = off' + (i + 1) by omega]
              exact hcell' (i + 1) (by rw [List.length_drop] at hi hdl ⊢; omega)
            clear J1 J2 HSS HM4 HM5 hdl HF HJ5
            by_cases hcp : cp = 0
            · subst hcp
              obtain rfl : m = 0 := by omega
              have HNew0 : Hid (j + 1 = min (freeN C.lats (k + 1)) fn ∧ 0 = fn - (j + 1) ∧ 0 ≤ 0 ∧ 0 ≤ 9223372036854775807 ∧ RowB w1 (some ⟨b', off', none⟩) (fr.drop (j + 1))) := by
                have hl0 : fr.drop (j + 1) = [] := List.drop_eq_nil_of_le (by rw [HSl.out]; have := HNew.out.2.1; omega)
                refine ⟨HNew.out.1, HNew.out.2.1, Nat.le_refl _, by omega, .inr ⟨_, rfl, fun i u hu => ?_⟩⟩
                rw [hl0] at hu
                cases hu
              clear hcell' HN J3
              go_wp2
              clear hc0 hc1 hc2 hr0 hr2
              generalize wr.alloc (.cells #[.int .i64 x2, .int .i64 x1, .int .i64 x2] 88) = W at hc3 hcm hfm HM3 ⊢
              go_region
              all_goals go_wp2
              all_goals go_roundw
              case rel => exact ⟨k + 1, j + 1, 0, 0, some ⟨b', off', none⟩, by simp, by go_num, by omega, HNew0.out, by rw [HST.out, HFj.out]; exact HM3.out _ _⟩
              case measure => simp [intOf]; omega
            · clear hcell' HN
              have hm1 : (0 : Int) < ((m + 1 : Nat) : Int) := by omega
              have hm2 : (1 : Int) ≤ ((m + 1 : Nat) : Int) := by omega
              have hm3 : (1 : Int) ≤ ((cp + 1 : Nat) : Int) := by omega
              have hm4 : ((m + 1 : Nat) : Int) ≤ ((cp + 1 : Nat) : Int) := by omega
              clear J3
              go_wp2
              clear hc0 hc1 hc2 hr0 hr2
              generalize wr.alloc (.cells #[.int .i64 x2, .int .i64 x1, .int .i64 x2] 88) = W at hc3 hcm hfm HM3 ⊢
              go_region
              all_goals go_wp2
              all_goals go_roundw
              case rel => exact ⟨k + 1, j + 1, m, cp, some ⟨b', off' + 1, none⟩, by simp, by go_num, by omega, HNew.out, by rw [HST.out, HFj.out]; exact HM3.out _ _⟩
              case measure => simp [intOf]; omega
      · obtain rfl : k = c.n2 := by omega
        have hfin : Hid (Post (.returned (.tuple #[.slice (some ⟨w1.heap.size, 0, none⟩) c.n2 c.n2, .int .i64 0])) wr) := by
          show Post _ wr
          rw [← HP.out]
          have e : C.firstE fr = firstK C.lats fr c.n2 c.n2 := by rw [firstK_end, ← HH.out.l2]; exact if_pos HC.out
          obtain ⟨a', kk, e2, hr, hl⟩ := rowB_own HM.out.own
          cases e2
          refine ⟨belowThen HW1.out HM.out.below, _, c.n2, _, by rw [HC.out], ?_, ?_⟩
          · rw [e]; exact hr
          · rw [e]; exact hl
        clear HM HJ
        go_wp2
        exact hfin.out
end Go.Proofs.Ytmbbcghhdjpgeaa

namespace Go.Proofs.Ytmbbcghhdjpgeaa
open Go.RowKit

/-- A []bool that came in. -/
structure CameB (w : World) (a : Option Addr) (len cap : Nat) (bs : List Bool) : Prop where
  row : RowB w a bs
  l : bs.length = len
  c1 : len ≤ cap
  c2 : cap ≤ 9223372036854775807
section
variable {H : Type} {enc : TypeId × Value → H}
theorem open_boolsC {w : World} {a : Option Addr} {len cap : Nat} {d : DataW H} {p : List MemPlace} (h : DataW.Trod enc Try.prog w 0 (fun _ => true) true 28 (.slice a len cap) d p) : ∃ bs, CameB w a len cap bs := by
  obtain ⟨fuel, hf⟩ := h
  rcases Go.Deep.open_bools Try.underlying28 Try.underlying4 (by kernel_rfl) hf with ⟨hcs, -⟩ | ⟨x, l, c, B, hcs, -, hl, hm, -, hcell⟩
  · simp [Value.cells] at hcs
    obtain ⟨rfl, rfl, rfl⟩ := hcs
    exact ⟨[], .inl ⟨rfl, rfl⟩, rfl, Nat.le_refl _, by decide⟩
  · simp [Value.cells] at hcs
    obtain ⟨rfl, rfl, rfl⟩ := hcs
    refine ⟨(List.range len).map B, .inr ⟨_, rfl, fun j u hu => ?_⟩, by simp, hl, hm⟩
    rw [List.getElem?_map] at hu
    by_cases hj : j < len
    · rw [List.getElem?_map, List.getElem?_range hj] at hu
      cases hu
      exact hcell j (by omega)
    · rw [List.getElem?_eq_none (by simp; omega)] at hu
      cases hu
end

set_option maxHeartbeats 400000 in
theorem num8_any (n : Int) (w : World) : Calls Try.prog 20 #[.int .i64 n] w fun e w' => e = .returned (.int .i64 n) ∧ w' = w := by
  go_enter Try.func20, Try.ntmps20
  go_wp2
  go_ret
  exact ⟨rfl, rfl⟩

/-- The reference's Check of any circuit that came in. -/
theorem refCheck_came {w : World} {c : CV} {C : Circ} (h : Came w c C) : ∀ W, Below w.heap.size w W → Calls Try.prog 24 #[c.v] W fun e w' => e = .returned (.int .i64 C.checkI) ∧ Below W.heap.size W w' :=
  fun W hb => refCheck_wide c C W (h.holds.below hb) h.m h.n1 h.n2 h.n3 h.n4 h.n5 h.n6 h.n7 h.names

def aliveC : Circ := ⟨2, [2], [], [], [], [], [(4, 2, 1)], []⟩
def aliveW (W : World) : World := ((W.alloc (.cells #[.int .i64 2] 3)).alloc (.cells #[.int .i64 4, .int .i64 2, .int .i64 1] 58)).alloc (.cells #[.bool true] 4)
def aliveV (b : Nat) : CV := ⟨2, some ⟨b, 0, none⟩, 1, 1, none, 0, 0, none, 0, 0, none, 0, 0, none, 0, 0, some ⟨b + 1, 0, none⟩, 1, 1, none, 0, 0⟩
theorem aliveW_size (W : World) : (aliveW W).heap.size = W.heap.size + 3 := by unfold aliveW; simp
theorem aliveW_below (W : World) : Below W.heap.size W (aliveW W) := belowThen (belowThen (below_alloc W _) (below_alloc _ _)) (below_alloc _ _)
theorem alive_holds (W : World) : Holds (aliveW W) (aliveV W.heap.size) aliveC ∧ RowB (aliveW W) (some ⟨W.heap.size + 2, 0, none⟩) [true] := by
  have e1 : (W.alloc (.cells #[.int .i64 2] 3)).heap.size = W.heap.size + 1 := by simp
  have e2 : ((W.alloc (.cells #[.int .i64 2] 3)).alloc (.cells #[.int .i64 4, .int .i64 2, .int .i64 1] 58)).heap.size = W.heap.size + 2 := by simp
  have r1 : RowC (aliveW W) (some ⟨W.heap.size, 0, none⟩) [.int .i64 2] := RowC.below (RowC.below (.inr ⟨_, rfl, cell_one_at rfl _ _⟩) (below_alloc _ _)) (below_alloc _ _)
  have r2 : RowC (aliveW W) (some ⟨W.heap.size + 1, 0, none⟩) (cellsT [(4, 2, 1)]) := RowC.below (rowT_lit [(4, 2, 1)] 58 (by rw [e1])) (below_alloc _ _)
  refine ⟨⟨rfl, rowK_of_C (xs := [2]) r1, rfl, (fun e => by cases e), .inl ⟨rfl, rfl⟩, rfl, fun _ => rfl, .inl ⟨rfl, rfl⟩, rfl, fun _ => rfl, .inl ⟨rfl, rfl⟩, rfl, fun _ => rfl, .inl ⟨rfl, rfl⟩, rfl, fun _ => rfl, r2, rfl, (fun e => by cases e), .inl ⟨rfl, rfl⟩, rfl, fun _ => rfl⟩, ?_⟩
  exact .inr ⟨_, rfl, cell_one_at (by rw [e2]) _ _⟩

theorem fits_nil : Fits CV.nil Circ.nil := ⟨by decide, by decide, by decide, by decide, by decide, by decide, fun s hs => by cases hs⟩

set_option maxRecDepth 100000 in
set_option maxHeartbeats 2000000 in
theorem alive8_any (w : World) : Calls Try.prog 13 #[] w fun e w' => e = .returned (.bool true) ∧ Below w.heap.size w w' := by
  have h0 : Hid (Calls Try.prog 17 #[.agg #[.int .i64 0, .slice none 0 0, .slice none 0 0, .slice none 0 0, .slice none 0 0, .slice none 0 0, .slice none 0 0, .slice none 0 0], .slice none 0 0, .slice none 0 0] w fun e w' => ∃ a1 n1 c1 a2 n2 c2 a3 n3 c3, e = .returned (.tuple #[.agg #[.slice a1 n1 c1, .slice a2 n2 c2, .slice a3 n3 c3, .bool true], .int .i64 0]) ∧ Below w.heap.size w w') := by
    have := step_any CV.nil Circ.nil w none none 0 0 0 0 [] [] (holds_nil w) fits_nil (.inl ⟨rfl, rfl⟩) rfl (.inl ⟨rfl, rfl⟩) rfl
    refine this.mono (fun e w' hh => ?_)
    obtain ⟨r, rfl, hr, hb⟩ := hh
    have e1 : Circ.nil.stepI [] [] = 0 := by decide
    have e2 : (Circ.nil.stepE [] []).holds = true := by decide
    refine ⟨r.a1, r.n1, r.c1, r.a2, r.n2, r.c2, r.a3, r.n3, r.c3, ?_, hb⟩
    rw [e1]
    unfold RV.v
    rw [← hr.h, e2]
  have h1 : Hid (∀ W, Calls Try.prog 15 #[.agg #[.int .i64 2, .slice (some ⟨W.heap.size, 0, none⟩) 1 1, .slice none 0 0, .slice none 0 0, .slice none 0 0, .slice none 0 0, .slice (some ⟨W.heap.size + 1, 0, none⟩) 1 1, .slice none 0 0], .slice none 0 0, .slice (some ⟨W.heap.size + 2, 0, none⟩) 1 1] (aliveW W) fun e w' => ∃ g, e = .returned (.tuple #[.slice (some ⟨g, 0, none⟩) 3 3, .int .i64 0]) ∧ w'.cell? ⟨g, 2, none⟩ = some (.bool true) ∧ Below (aliveW W).heap.size (aliveW W) w') := fun W => by
    have := sValues_any (aliveV W.heap.size) aliveC (aliveW W) none (some ⟨W.heap.size + 2, 0, none⟩) 0 0 1 1 [] [true] (alive_holds W).1 ⟨(by show (1 : Nat) ≤ _; decide), Nat.zero_le _, Nat.zero_le _, Nat.zero_le _, Nat.zero_le _, (by show (-9223372036854775808 : Int) ≤ 2; decide), fun s hs => by cases hs⟩ (.inl ⟨rfl, rfl⟩) rfl (alive_holds W).2 rfl
    refine this.mono (fun e w' hh => ?_)
    have e1 : aliveC.stepI [] [true] = 0 := by decide
    rcases hh.2 with ⟨h0, -⟩ | ⟨-, g, rfl, hown⟩
    · exact absurd e1 h0
    · have e2 : aliveC.vals [] [true] = [false, true, true] := by decide
      rw [e2] at hown
      exact ⟨g, rfl, row_at hown 2 (by decide), hh.1⟩
  go_enter Try.func13, Try.ntmps13
  go_wp2_with fail
  refine h0.out.mono ?_
  rintro e w1 ⟨a1, n1, c1, a2, n2, c2, a3, n3, c3, rfl, hb1⟩
  have HB1 := hide hb1
  clear hb1 h0
  go_wp2_with fail
  have hq := cell_of_row _ _ 3 _ _ (0, 0) (heap_alloc_new w1 (.cells #[.slice a1 n1 c1, .slice a2 n2 c2, .slice a3 n3 c3, .bool true] 37))
  have HB2 : Hid (Below w.heap.size w (aliveW (w1.alloc (.cells #[.slice a1 n1 c1, .slice a2 n2 c2, .slice a3 n3 c3, .bool true] 37)))) := belowThen (belowThen HB1.out (below_alloc w1 _)) (aliveW_below _)
  have H1 := hide (h1.out (w1.alloc (.cells #[.slice a1 n1 c1, .slice a2 n2 c2, .slice a3 n3 c3, .bool true] 37)))
  have HC : Hid (∀ W', Below (aliveW (w1.alloc (.cells #[.slice a1 n1 c1, .slice a2 n2 c2, .slice a3 n3 c3, .bool true] 37))).heap.size (aliveW (w1.alloc (.cells #[.slice a1 n1 c1, .slice a2 n2 c2, .slice a3 n3 c3, .bool true] 37))) W' → W'.cell? ⟨w1.heap.size, 3, none⟩ = some (.bool true)) := fun W' hb => ((belowThen (aliveW_below _) hb).cell (p := ⟨w1.heap.size, 3, none⟩) (by simp)).trans hq
  clear hq h1
  have es : (w1.alloc (.cells #[.slice a1 n1 c1, .slice a2 n2 c2, .slice a3 n3 c3, .bool true] 37)).heap.size = w1.heap.size + 1 := by simp
  have HX : Hid (Calls Try.prog 15 #[.agg #[.int .i64 2, .slice (some ⟨w1.heap.size + 1, 0, none⟩) 1 1, .slice none 0 0, .slice none 0 0, .slice none 0 0, .slice none 0 0, .slice (some ⟨w1.heap.size + 1 + 1, 0, none⟩) 1 1, .slice none 0 0], .slice none 0 0, .slice (some ⟨w1.heap.size + 1 + 1 + 1, 0, none⟩) 1 1] ((((w1.alloc (.cells #[.slice a1 n1 c1, .slice a2 n2 c2, .slice a3 n3 c3, .bool true] 37)).alloc (.cells #[.int .i64 2] 3)).alloc (.cells #[.int .i64 4, .int .i64 2, .int .i64 1] 58)).alloc (.cells #[.bool true] 4)) fun e w' => ∃ g, e = .returned (.tuple #[.slice (some ⟨g, 0, none⟩) 3 3, .int .i64 0]) ∧ w'.cell? ⟨g, 2, none⟩ = some (.bool true) ∧ w'.cell? ⟨w1.heap.size, 3, none⟩ = some (.bool true) ∧ Below w.heap.size w w') := by
    have h2 := H1.out
    rw [es] at h2
    exact h2.mono (fun e w' hh => by
      obtain ⟨g, rfl, hc, hb⟩ := hh
      exact ⟨g, rfl, hc, HC.out _ hb, belowThen HB2.out hb⟩)
  clear H1 HC HB1 HB2 es
  refine HX.out.mono ?_
  rintro e w5 ⟨g, rfl, hc2, hc3, hb5⟩
  have HB5 := hide hb5
  clear HX hb5
  go_wp2_with (go_at_call 20; refine (num8_any _ _).mono ?_; rintro e w' ⟨rfl, hw'⟩; obtain rfl := hw'.symm)
  go_ret
  exact ⟨rfl, HB5.out⟩

/-- Two rows that are one. -/
structure TwoR (w0 : World) (b1 b2 : Nat) (r s : RV) (R : RowV) (w : World) : Prop where
  h : RHolds w r R
  k : RHolds w s R
  br : RBox w b1 r
  bs : RBox w b2 s
  below : Below w0.heap.size w0 w
theorem TwoR.then {w0 w w' : World} {b1 b2 : Nat} {r s : RV} {R : RowV} (h : TwoR w0 b1 b2 r s R w) (hb : Below w.heap.size w w') : TwoR w0 b1 b2 r s R w' :=
  ⟨h.h.below hb, h.k.below hb, h.br.below hb, h.bs.below hb, belowThen h.below hb⟩

set_option maxRecDepth 100000 in
set_option maxHeartbeats 2000000 in
theorem sameRow_any (r s : RV) (R : RowV) (w : World) (h : RHolds w r R) (k : RHolds w s R) (l1 : R.next.length ≤ 1000000) (l2 : R.outs.length ≤ 1000000) (l3 : R.bads.length ≤ 1000000) :
    Calls Try.prog 21 #[r.v, s.v] w fun e w' => e = .returned (.bool true) ∧ Below w.heap.size w w' := by
  have T0 : TwoR w w.heap.size (w.heap.size + 1) r s R ((w.alloc (.cells #[.slice r.a1 r.n1 r.c1, .slice r.a2 r.n2 r.c2, .slice r.a3 r.n3 r.c3, .bool r.h] 37)).alloc (.cells #[.slice s.a1 s.n1 s.c1, .slice s.a2 s.n2 s.c2, .slice s.a3 s.n3 s.c3, .bool s.h] 37)) := by
    have hb := belowThen (below_alloc w (.cells #[.slice r.a1 r.n1 r.c1, .slice r.a2 r.n2 r.c2, .slice r.a3 r.n3 r.c3, .bool r.h] 37)) (below_alloc _ (.cells #[.slice s.a1 s.n1 s.c1, .slice s.a2 s.n2 s.c2, .slice s.a3 s.n3 s.c3, .bool s.h] 37))
    refine ⟨h.below hb, k.below hb, (rbox_new w r).below (below_alloc _ _), ?_, hb⟩
    have := rbox_new (w.alloc (.cells #[.slice r.a1 r.n1 r.c1, .slice r.a2 r.n2 r.c2, .slice r.a3 r.n3 r.c3, .bool r.h] 37)) s
    have e : ∀ o, (w.alloc o).heap.size = w.heap.size + 1 := fun o => by simp
    rw [e] at this
    exact this
  have H1 := hide (fun W (t : TwoR w w.heap.size (w.heap.size + 1) r s R W) => (sameBools_any r.a1 s.a1 r.n1 s.n1 r.c1 s.c1 R.next R.next W t.h.r1 t.k.r1 t.h.l1 t.k.l1 (by have := t.h.l1; omega) (by have := t.k.l1; omega)))
  have H2 := hide (fun W (t : TwoR w w.heap.size (w.heap.size + 1) r s R W) => (sameBools_any r.a2 s.a2 r.n2 s.n2 r.c2 s.c2 R.outs R.outs W t.h.r2 t.k.r2 t.h.l2 t.k.l2 (by have := t.h.l2; omega) (by have := t.k.l2; omega)))
  have H3 := hide (fun W (t : TwoR w w.heap.size (w.heap.size + 1) r s R W) => (sameBools_any r.a3 s.a3 r.n3 s.n3 r.c3 s.c3 R.bads R.bads W t.h.r3 t.k.r3 t.h.l3 t.k.l3 (by have := t.h.l3; omega) (by have := t.k.l3; omega)))
  have d1 : ∀ l : List Bool, decide (l = l) = true := fun l => decide_eq_true rfl
  rw [d1] at H1 H2 H3
  have hh : r.h = s.h := h.h.symm.trans k.h
  clear d1 h k l1 l2 l3
  unfold RV.v
  rw [← hh] at T0 ⊢
  obtain ⟨hv, HHV⟩ : ∃ hv, Hid (hv = r.h) := ⟨_, rfl⟩
  rw [← HHV.out] at T0 ⊢
  have hvv : (hv == hv) = true := by simp
  have hs' : Hid (s.h = hv) := hh.symm.trans HHV.out.symm
  clear hh
  have T0 := hide T0
  go_enter Try.func21, Try.ntmps21
  go_wp2_with fail
  obtain ⟨p0, p1, p2, p3⟩ := T0.out.br.cells
  obtain ⟨q0, q1, q2, q3⟩ := T0.out.bs.cells
  refine (H1.out _ T0.out).mono ?_
  rintro e w1 ⟨rfl, hb1⟩
  have T1 := hide (T0.out.then hb1)
  clear T0 H1 hb1 p0 p1 p2 p3 q0 q1 q2 q3
  obtain ⟨p0, p1, p2, p3⟩ := T1.out.br.cells
  obtain ⟨q0, q1, q2, q3⟩ := T1.out.bs.cells
  go_wp2_with fail
  refine (H2.out _ T1.out).mono ?_
  rintro e w2 ⟨rfl, hb2⟩
  have T2 := hide (T1.out.then hb2)
  clear T1 H2 hb2 p0 p1 p2 p3 q0 q1 q2 q3
  obtain ⟨p0, p1, p2, p3⟩ := T2.out.br.cells
  obtain ⟨q0, q1, q2, q3⟩ := T2.out.bs.cells
  go_wp2_with fail
  refine (H3.out _ T2.out).mono ?_
  rintro e w3 ⟨rfl, hb3⟩
  have T3 := hide (T2.out.then hb3)
  clear T2 H3 hb3 p0 p1 p2 p3 q0 q1 q2 q3
  obtain ⟨p0, p1, p2, p3⟩ := T3.out.br.cells
  obtain ⟨q0, q1, q2, q3⟩ := T3.out.bs.cells
  rw [← HHV.out] at p3
  rw [hs'.out] at q3
  go_wp2_with fail
  go_ret
  exact ⟨by simp, T3.out.below⟩
end Go.Proofs.Ytmbbcghhdjpgeaa
