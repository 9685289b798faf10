/-
  THE WALKS over lists of lists: Big, SameLists, CopyLists.
-/
import Derived.Test.YtcbgnmkipbhncaaLeast
namespace Go.Proofs.Ytcbgnmkipbhncaa
open Go.RowKit
set_option linter.unusedSectionVars false
variable [Inhabited El]

theorem rowL_of_own {w : World} {B n : Nat} {v : Value} {es : List El} (h : w.ownsRow B 22 1 v n (es.map El.v)) : ∃ a c, v = .slice a n c ∧ RowL w a es ∧ (a = none → c = 0) ∧ es.length = n := by
  have hl : es.length = n := by have := h.1; simpa using this
  rcases h.2 with ⟨rfl, rfl⟩ | ⟨g, cap, cur, rfl, hb, hg, _⟩
  · exact ⟨none, 0, rfl, .inl ⟨rfl, List.eq_nil_of_length_eq_zero hl⟩, fun _ => rfl, hl⟩
  · refine ⟨_, cap, rfl, .inr ⟨_, rfl, fun i hi => ?_⟩, (fun e => by cases e), hl⟩
    exact h.cells rfl i _ (by rw [List.getElem?_map, atP_some es i hi]; rfl)

def bigB (ls : List (List Int)) : Bool := ls.any (fun l => decide (60 < l.length)) || decide (40 < ls.length)
theorem bigB_no {es : List El} (h : bigB (xsOf es) = false) : es.length ≤ 40 ∧ ∀ e ∈ es, e.xs.length ≤ 60 := by
  unfold bigB at h
  rw [Bool.or_eq_false_iff, decide_eq_false_iff_not, List.any_eq_false] at h
  refine ⟨by have := h.2; simp [xsOf] at this; omega, fun e he => ?_⟩
  have := h.1 e.xs (List.mem_map.2 ⟨e, he, rfl⟩)
  simp at this; omega

set_option maxRecDepth 100000 in
set_option maxHeartbeats 400000 in
theorem big_any (a : Option Addr) (n c : Nat) (es : List El) (w : World) (hr : RowL w a es) (hx : es.length = n) (hn : n ≤ 9223372036854775807) (hl : ∀ e ∈ es, e.xs.length ≤ 9223372036854775807) :
    Calls Try.prog 24 #[.slice a n c] w fun e w' => e = .returned (.bool (bigB (xsOf es))) ∧ w' = w := by
  have HR := hide hr
  have HX := hide hx
  have HL := hide hl
  generalize hP : (fun (e : Ending) (w' : World) => e = .returned (.bool (bigB (xsOf es))) ∧ w' = w) = Post
  have HP := hide hP
  clear hr hx hP hl
  go_enter Try.func24, Try.ntmps24
  go_wp2
  go_loop [3] (fun i => ∃ k : Nat, i = .int .i64 k ∧ k ≤ n ∧ Hid (∀ j, j < k → (atP es j).xs.length ≤ 60)) (fun i => n - (intOf i).toNat)
  case atStart => exact ⟨0, rfl, Nat.zero_le _, fun j hj => absurd hj (Nat.not_lt_zero _)⟩
  case round =>
    obtain ⟨k, rfl, hk, HF⟩ := hrel
    by_cases hlt : k < n
    · obtain ⟨b, off, rfl, -, hcell⟩ := HR.out.addr (by rw [HX.out]; omega)
      have hc := hcell k (by rw [HX.out]; exact hlt)
      have hm := atP_mem es k (by rw [HX.out]; exact hlt)
      have hl63 := HL.out _ hm
      obtain ⟨x, HXX⟩ : ∃ x, Hid (x = atP es k) := ⟨_, rfl⟩
      rw [← HXX.out] at hc hm hl63
      obtain ⟨pl, xa, xc, xs⟩ := x
      replace hc : w.cell? ⟨b, off + k, none⟩ = some (.slice xa xs.length xc) := hc
      dsimp only at hl63
      have HMem := hide hm
      obtain ⟨ln, HLN⟩ : ∃ ln, Hid (ln = xs.length) := ⟨_, rfl⟩
      rw [← HLN.out] at hc hl63
      clear hcell hm
      by_cases h60 : (60 : Int) < ln
      · have hfin : Hid (Post (.returned (.bool true)) w) := by
          show Post (.returned (.bool true)) w
          rw [← HP.out]
          refine ⟨ret_bool ?_, rfl⟩
          unfold bigB
          rw [show ((xsOf es).any fun l => decide (60 < l.length)) = true from List.any_eq_true.2 ⟨xs, List.mem_map.2 ⟨_, HMem.out, rfl⟩, decide_eq_true (by rw [← HLN.out]; omega)⟩]
          rfl
        go_wp2
        exact hfin.out
      · go_wp2
        go_round
        case rel =>
          refine ⟨k + 1, by go_num, by omega, fun j hj => ?_⟩
          by_cases hjk : j < k
          · exact HF.out j hjk
          · obtain rfl : j = k := by omega
            rw [← HXX.out]; show xs.length ≤ 60; rw [← HLN.out]; omega
        case measure => simp [intOf]; omega
    · obtain rfl : k = n := by omega
      have hfin : Hid (Post (.returned (.bool (decide ((40 : Int) < k)))) w) := by
        show Post (.returned (.bool (decide ((40 : Int) < k)))) w
        rw [← HP.out]
        refine ⟨ret_bool ?_, rfl⟩
        unfold bigB
        rw [show ((xsOf es).any fun l => decide (60 < l.length)) = false from List.any_eq_false.2 (fun l hl => by
          obtain ⟨e, he, rfl⟩ := List.mem_map.1 hl
          obtain ⟨j, hj, rfl⟩ := List.getElem_of_mem he
          have := HF.out j (by rw [← HX.out]; exact hj)
          rw [atP_eq es j hj] at this
          simp; omega), Bool.false_or]
        have e : (xsOf es).length = k := by simp [xsOf, HX.out]
        rw [e]
        by_cases h : 40 < k
        · rw [decide_eq_true h, decide_eq_true (by omega)]
        · rw [decide_eq_false h, decide_eq_false (by omega)]
      go_wp2
      exact hfin.out

theorem xsOf_at (es : List El) (i : Nat) (h : i < es.length) : (xsOf es)[i]? = some (atP es i).xs := by simp [xsOf, atP_some es i h]

set_option maxRecDepth 100000 in
set_option maxHeartbeats 1000000 in
theorem sameLists_any (a b : Option Addr) (n c m d : Nat) (es fs : List El) (w : World) (hr : RowL w a es) (hx : es.length = n) (hs : RowL w b fs) (hy : fs.length = m) (hn : n ≤ 1000000) (hm : m ≤ 1000000) (hoe : ∀ e ∈ es, ElOk w e ∧ e.xs.length ≤ 1000000) (hof : ∀ e ∈ fs, ElOk w e ∧ e.xs.length ≤ 1000000) :
    Calls Try.prog 27 #[.slice a n c, .slice b m d] w fun e w' => e = .returned (.bool (decide (xsOf es = xsOf fs))) ∧ Drew w w' := by
  by_cases hne : n = m
  · subst hne
    have HR := hide (And.intro hr hx)
    have HS := hide (And.intro hs hy)
    have HO := hide (And.intro hoe hof)
    generalize hP : (fun (e : Ending) (w' : World) => e = .returned (.bool (decide (xsOf es = xsOf fs))) ∧ Drew w w') = Post
    have HP := hide hP
    clear hr hx hP hs hy hoe hof
    go_enter Try.func27, Try.ntmps27
    go_wp2
    go_loopw [5] (fun i wr => ∃ k : Nat, i = .int .i64 k ∧ k ≤ n ∧ Hid (Drew w wr ∧ ∀ j, j < k → (atP es j).xs = (atP fs j).xs)) (fun i _ => n - (intOf i).toNat)
    case atStart => exact ⟨0, rfl, Nat.zero_le _, ⟨0, rfl⟩, fun j hj => absurd hj (Nat.not_lt_zero _)⟩
    case round =>
      obtain ⟨k, rfl, hk, HF⟩ := hrel
      by_cases hlt : k < n
      · obtain ⟨g, off, rfl, -, hcell⟩ := HR.out.1.addr (by rw [HR.out.2]; omega)
        obtain ⟨g2, off2, rfl, -, hcell2⟩ := HS.out.1.addr (by rw [HS.out.2]; omega)
        have hc := (cell_heap HF.out.1.heap _).trans (hcell k (by rw [HR.out.2]; omega))
        have hc2 := (cell_heap HF.out.1.heap _).trans (hcell2 k (by rw [HS.out.2]; omega))
        have ho1 := HO.out.1 _ (atP_mem es k (by rw [HR.out.2]; exact hlt))
        have ho2 := HO.out.2 _ (atP_mem fs k (by rw [HS.out.2]; exact hlt))
        obtain ⟨x, HXX⟩ : ∃ x, Hid (x = atP es k) := ⟨_, rfl⟩
        obtain ⟨y, HYY⟩ : ∃ y, Hid (y = atP fs k) := ⟨_, rfl⟩
        rw [← HXX.out] at hc ho1
        rw [← HYY.out] at hc2 ho2
        obtain ⟨pl, xa, xc, xs⟩ := x
        obtain ⟨ql, ya, yc, ys⟩ := y
        replace hc : wr.cell? ⟨g, off + k, none⟩ = some (.slice xa xs.length xc) := hc
        replace hc2 : wr.cell? ⟨g2, off2 + k, none⟩ = some (.slice ya ys.length yc) := hc2
        dsimp only at ho1 ho2
        have hsame : ∀ q, Calls Try.prog 12 #[.slice xa xs.length xc, .slice ya ys.length yc] (wr.drewN q) fun e w' => e = .returned (.bool (decide (xs = ys))) ∧ ∃ m, w' = (wr.drewN q).drewN m := fun q =>
          same_any xa ya xs.length xc ys.length yc xs ys (wr.drewN q) (row_like ho1.1.1 HF.out.1.heap) rfl (row_like ho2.1.1 HF.out.1.heap) rfl (by omega) (by omega)
        obtain ⟨l1, HL1⟩ : ∃ l1, Hid (l1 = xs.length) := ⟨_, rfl⟩
        obtain ⟨l2, HL2⟩ : ∃ l2, Hid (l2 = ys.length) := ⟨_, rfl⟩
        rw [← HL1.out] at hc hsame
        rw [← HL2.out] at hc2 hsame
        clear hcell hcell2 ho1 ho2
        by_cases he : xs = ys
        · rw [decide_eq_true he] at hsame
          have HE := hide he
          have HSm := hide hsame
          clear he hsame
          go_wp2
          go_quiet (first | (go_at_call 12; refine Calls.quiet_of (HSm.out _)))
          go_wp2
          go_roundw
          case rel =>
            refine ⟨k + 1, by go_num, by omega, HF.out.1.trans ⟨_, rfl⟩, fun j hj => ?_⟩
            by_cases hjk : j < k
            · exact HF.out.2 j hjk
            · obtain rfl : j = k := by omega
              rw [← HXX.out, ← HYY.out]; exact HE.out
          case measure => simp [intOf]; omega
        · rw [decide_eq_false he] at hsame
          have HSm := hide hsame
          have hfin : Hid (∀ q, Post (.returned (.bool false)) (wr.drewN q)) := fun q => by
            rw [← HP.out]
            refine ⟨ret_bool (decide_eq_false (fun h => he ?_)).symm, HF.out.1.trans ⟨_, rfl⟩⟩
            have h1 := xsOf_at es k (by rw [HR.out.2]; exact hlt)
            have h2 := xsOf_at fs k (by rw [HS.out.2]; exact hlt)
            rw [h, h2, ← HXX.out, ← HYY.out] at h1
            exact (Option.some.inj h1).symm
          clear he hsame
          go_wp2
          go_quiet (first | (go_at_call 12; refine Calls.quiet_of (HSm.out _)))
          go_wp2
          exact hfin.out _
      · obtain rfl : k = n := by omega
        have hfin : Hid (Post (.returned (.bool true)) wr) := by
          show Post (.returned (.bool true)) wr
          rw [← HP.out]
          refine ⟨ret_bool (decide_eq_true ?_).symm, HF.out.1⟩
          refine List.ext_getElem? fun i => ?_
          by_cases hi : i < k
          · rw [xsOf_at es i (by rw [HR.out.2]; exact hi), xsOf_at fs i (by rw [HS.out.2]; exact hi), HF.out.2 i hi]
          · rw [List.getElem?_eq_none (by simp [xsOf, HR.out.2]; omega), List.getElem?_eq_none (by simp [xsOf, HS.out.2]; omega)]
        go_wp2
        exact hfin.out
  · have e : decide (xsOf es = xsOf fs) = false := decide_eq_false (fun h => hne (by
      have := congrArg List.length h
      simp [xsOf, hx, hy] at this
      exact this))
    rw [e]
    have hb : ((n : Int) == (m : Int)) = false := by rw [beq_eq_false_iff_ne]; omega
    go_enter Try.func27, Try.ntmps27
    go_wp2
    go_ret
    exact ⟨rfl, 0, rfl⟩

/-- A slice of slices that is being made. -/
structure Making (w0 : World) (v : Value) (q : Nat) (rs : List El) (wr : World) : Prop where
  own : wr.ownsRow w0.heap.size 22 1 v q (rs.map El.v)
  below : Below w0.heap.size w0 wr
  oks : ∀ r ∈ rs, ElOk wr r
  apart : ∀ r ∈ rs, ∀ x, r.a = some x → v.ownBlock ≠ some x.block
  len : rs.length = q

theorem Making.under {w0 wr w2 : World} {v : Value} {q : Nat} {rs : List El} (h : Making w0 v q rs wr) (hb : Below wr.heap.size wr w2) : Making w0 v q rs w2 :=
  ⟨own_below h.own hb, h.below.trans (hb.mono h.below.size), fun r hr => (h.oks r hr).below hb, h.apart, h.len⟩

theorem Making.step {w0 w2 w6 : World} {v v6 : Value} {q : Nat} {rs : List El} {x : El} {o : Obj} (h : Making w0 v q rs w2) (hx : ElOk w2 x) (hxa : ∀ y, x.a = some y → v.ownBlock ≠ some y.block)
    (hown : w6.ownsRow w0.heap.size 22 1 v6 (q + 1) (rs.map El.v ++ [x.v])) (hg : (w2.alloc o).grownBy w6 v.ownBlock) (hat : v6.ownBlock = v.ownBlock ∨ v6.ownBlock = some (w2.alloc o).heap.size) : Making w0 v6 (q + 1) (rs ++ [x]) w6 := by
  have hsz : (w2.alloc o).heap.size = w2.heap.size + 1 := by simp
  have hks : ∀ j, j < w2.heap.size → v.ownBlock ≠ some j → w6.heap[j]? = w2.heap[j]? := fun j hj hne =>
    (hg.block j (by omega) (fun e => hne e.symm)).trans ((World.grownBy_alloc w2 o none).block j hj (by simp))
  have hs6 : w2.heap.size ≤ w6.heap.size := by have := hg.size; omega
  have hfresh : ∀ y : Addr, y.block < w2.heap.size → v.ownBlock ≠ some y.block → v6.ownBlock ≠ some y.block := fun y hy hne e => by
    rcases hat with h | h
    · exact hne (h ▸ e)
    · rw [h] at e; have e2 := Option.some.inj e; omega
  refine ⟨by rw [List.map_append]; exact hown, below_step h.below hg h.below.size (fun j hj => (h.own.lt j hj).1) ⟨rfl, rfl, rfl, rfl⟩, fun r hr => ?_, fun r hr y hy => ?_, by simp [h.len]⟩
  · rcases List.mem_append.1 hr with hr | hr
    · exact (h.oks r hr).kept (fun y hy => hks _ ((h.oks r hr).2.2 y hy) (h.apart r hr y hy)) hs6
    · rw [List.mem_singleton] at hr; subst hr
      exact hx.kept (fun y hy => hks _ (hx.2.2 y hy) (hxa y hy)) hs6
  · rcases List.mem_append.1 hr with hr | hr
    · exact hfresh y ((h.oks r hr).2.2 y hy) (h.apart r hr y hy)
    · rw [List.mem_singleton] at hr; subst hr
      exact hfresh y (hx.2.2 y hy) (hxa y hy)

/-- A new slice of slices of ints. -/
def NewLists (w : World) (ls : List (List Int)) (e : Ending) (w' : World) : Prop := ∃ v rs, e = .returned v ∧ w'.ownsRow w.heap.size 22 1 v rs.length (rs.map El.v) ∧ Below w.heap.size w w' ∧ (∀ r ∈ rs, ElOk w' r) ∧ xsOf rs = ls

set_option maxRecDepth 100000 in
set_option maxHeartbeats 1000000 in
theorem copyLists_any (a : Option Addr) (n c : Nat) (es : List El) (w : World) (hr : RowL w a es) (hx : es.length = n) (hn : n ≤ 1000) (hok : ∀ e ∈ es, ElArg w e ∧ e.xs.length ≤ 1000) :
    Calls Try.prog 26 #[.slice a n c] w (NewLists w (xsOf es)) := by
  obtain ⟨i0, hi, hz0, hz1, hz2⟩ := info_parts infoInt
  obtain ⟨i1, hi1, hy0, hy1, hy2⟩ := info_parts infoS
  have HR := hide hr
  have HX := hide hx
  have HK := hide hok
  generalize hP : NewLists w (xsOf es) = Post
  have HP := hide hP
  clear hr hx hok hP
  go_enter Try.func26, Try.ntmps26
  go_wp2
  go_loopw [3, 4] (fun v i wr => ∃ (k : Nat) (rs : List El), i = .int .i64 k ∧ k ≤ n ∧ Hid (Making w v k rs wr ∧ xsOf rs = xsOf (es.take k))) (fun _ i _ => n - (intOf i).toNat)
  case atStart => exact ⟨0, [], rfl, Nat.zero_le _, ⟨World.ownsRow_nil _ _ _ _, Below.refl _ _, (fun r hr => by cases hr), (fun r hr => by cases hr), rfl⟩, rfl⟩
  case round =>
    obtain ⟨k, rs, rfl, hk, HM⟩ := hrel
    by_cases hlt : k < n
    · obtain ⟨b, off, rfl, hbw, hcell⟩ := HR.out.addr (by rw [HX.out]; omega)
      have hc := (HM.out.1.below.cell (p := ⟨b, off + k, none⟩) hbw).trans (hcell k (by rw [HX.out]; exact hlt))
      have hek := HK.out _ (atP_mem es k (by rw [HX.out]; exact hlt))
      have hst := xsOf_take es k (by rw [HX.out]; exact hlt)
      obtain ⟨x, HXX⟩ : ∃ x, Hid (x = atP es k) := ⟨_, rfl⟩
      rw [← HXX.out] at hc hek hst
      obtain ⟨pl, xa, xc, xs⟩ := x
      replace hc : wr.cell? ⟨b, off + k, none⟩ = some (.slice xa xs.length xc) := hc
      dsimp only at hek hst
      have HST := hide hst
      have HE := hide ((hek.1.below HM.out.1.below))
      have hlen := hek.2
      have hszr := HM.out.1.below.size
      obtain ⟨ln, HLN⟩ : ∃ ln, Hid (ln = xs.length) := ⟨_, rfl⟩
      rw [← HLN.out] at hc hlen
      clear hcell hst hek
      go_wp2_with (first | (at_builtin; refine wpList_append_row _ rfl (.const (.slice none 0 0)) (.tmp 15) 22 rfl .i64 wr.heap.size 3 i0 (.int .i64 0) 8 Try.underlying22 hi hz0 hz1 hz2 rfl (.slice none 0 0) 0 [] rfl (World.ownsRow_nil _ _ _ _) xa ln xc xs rfl HLN.out.symm HE.out.1 HE.out.2 (by unfold maxLen; omega) (by omega) (Nat.le_refl _) ?_; intro v2 w2 hown2 hg2; rw [Nat.zero_add, List.nil_append] at hown2; have hlt2 := hown2.lt; obtain ⟨a2, c2, rfl, hrow2, hnc2, hl2, hc2a, hc2b⟩ := row_of_own hown2; have hb2 : Below wr.heap.size wr w2 := (Below.refl _ _).grown hg2 (Nat.le_refl _) (fun k hk => by cases hk); have hown3 := own_below HM.out.1.own hb2; have hsz2 := hb2.size; have hblk : ∀ y, a2 = some y → wr.heap.size ≤ y.block ∧ y.block < w2.heap.size := (fun y hy => by subst hy; exact hlt2 _ rfl); have H2 := hide (And.intro hrow2 (And.intro hnc2 (And.intro hblk hb2))); clear hown2 hg2 hlt2 hrow2 hnc2 hl2 hc2a hc2b hb2 hblk) | (at_builtin; refine wpList_append_own_at _ rfl (.tmp 11) (.tmp 17) 33 rfl w.heap.size 22 i1 (.slice none 0 0) 1 24 Try.underlying33 hi1 hy0 hy1 hy2 rfl (by decide) _ _ _ rfl (hown3.alloc _) ⟨w2.heap.size, 0, none⟩ 1 1 [.slice a2 ln c2] rfl rfl (cell_one_new _ _ _) (by intro u hu; simp at hu; subst hu; rfl) (by unfold maxLen; omega) (by omega) (by simp; omega) ?_; intro v6 w6 hown6 hg6 _ hat6))
      go_roundw
      case rel =>
        have hm := HM.out.1.under H2.out.2.2.2
        have ev : (.slice a2 ln c2 : Value) = (⟨0, a2, c2, xs⟩ : El).v := by unfold El.v; rw [HLN.out]
        rw [ev] at hown6
        refine ⟨k + 1, rs ++ [⟨0, a2, c2, xs⟩], by go_num, by omega, hm.step ⟨H2.out.1, H2.out.2.1, fun y hy => (H2.out.2.2.1 y hy).2⟩ (fun y hy e => ?_) hown6 hg6 hat6, ?_⟩
        · have h1 := (HM.out.1.own.lt _ e).2
          have h2 := (H2.out.2.2.1 y hy).1
          omega
        · rw [HST.out, ← HM.out.2]; simp [xsOf]
      case measure => simp [intOf]; omega
    · obtain rfl : k = n := by omega
      have hfin : Hid (Post (.returned u3) wr) := by
        show Post (.returned u3) wr
        rw [← HP.out]
        have hm := HM.out.1
        have hx2 := HM.out.2
        rw [List.take_of_length_le (by rw [HX.out]; exact Nat.le_refl _)] at hx2
        exact ⟨u3, rs, rfl, by rw [hm.len]; exact hm.own, hm.below, hm.oks, hx2⟩
      go_wp2
      exact hfin.out
end Go.Proofs.Ytcbgnmkipbhncaa
