/-
  THE WALK of the law CubeNots.
-/
import Derived.Test.YtcbgnmkipbhncaaLawCubeSets
namespace Go.Proofs.Ytcbgnmkipbhncaa
open Go.RowKit

theorem notL_notL (xs : List Int) : notL (notL xs) = xs := by
  unfold notL
  rw [List.map_map]
  have e : ((fun n : Int => -n) ∘ fun n => -n) = id := by funext n; simp
  rw [e, List.map_id]
theorem notL_fits {xs : List Int} (h : ∀ x ∈ xs, Fits x) : ∀ x ∈ notL xs, Fits x := fun x hx => by
  obtain ⟨y, hy, rfl⟩ := List.mem_map.1 hx
  obtain ⟨h1, h2, h3⟩ := h y hy
  exact ⟨by omega, by omega, by omega⟩
theorem notL_up {xs : List Int} (h : Up xs) : Up (notL xs) := by
  unfold Up notL
  rw [List.pairwise_map]
  exact h.imp fun {a b} hab => by rw [mag_neg, mag_neg]; exact hab
theorem notL_right {xs : List Int} (h : Rt xs) : rightB (notL xs) = true := (rightB_iff _).2 ⟨notL_fits h.1, notL_up h.2⟩
theorem fits_wf {xs : List Int} (h : ∀ x ∈ xs, Fits x) : WfL xs := fun x hx => WalkArith.wf_i64 (n := x) (by have := (h x hx).2.1; have := (h x hx).2.2; omega)
theorem rt_good {xs : List Int} (h : Rt xs) : Good xs := ⟨h.1, fun n hn hn2 => by
  obtain ⟨i, hi, e1⟩ := List.getElem_of_mem hn
  obtain ⟨j, hj, e2⟩ := List.getElem_of_mem hn2
  have h0 := (h.1 n hn).1
  rcases Nat.lt_trichotomy i j with hij | hij | hij
  · have := List.pairwise_iff_getElem.1 h.2 i j hi hj hij
    rw [e1, e2, mag_neg] at this; omega
  · subst hij; rw [e1] at e2; omega
  · have := List.pairwise_iff_getElem.1 h.2 j i hj hi hij
    rw [e1, e2, mag_neg] at this; omega⟩
theorem meet_self {xs : List Int} (h : Rt xs) : cubeA (meetL xs xs) = xs := by
  have e : meetL xs xs = xs := by unfold meetL; rw [List.filter_eq_self]; intro x hx; exact decide_eq_true hx
  rw [e]
  exact cubeA_eq (rt_good h) h.2 (fun x => Iff.rfl)
theorem meet_not {xs : List Int} (h : Rt xs) : cubeA (meetL xs (notL xs)) = [] := by
  have e : meetL xs (notL xs) = [] := by
    unfold meetL
    rw [List.filter_eq_nil_iff]
    intro x hx hd
    obtain ⟨y, hy, e⟩ := List.mem_map.1 (of_decide_eq_true hd)
    exact (rt_good h).2 y hy (by rw [e]; exact hx)
  rw [e]; rfl
theorem within_self (xs : List Int) : withinB xs xs = true := (withinB_iff _ _).2 fun _ h => h
theorem within_not {xs : List Int} (h : Rt xs) (h0 : 0 < xs.length) : withinB xs (notL xs) = false := by
  cases hw : withinB xs (notL xs) with
  | false => rfl
  | true =>
    have hx : atP xs 0 ∈ xs := atP_mem xs 0 h0
    obtain ⟨y, hy, e⟩ := List.mem_map.1 ((withinB_iff _ _).1 hw _ hx)
    exact absurd hx (by rw [← e]; exact (rt_good h).2 y hy)

set_option maxRecDepth 100000 in
set_option maxHeartbeats 2000000 in
theorem cubeNots_mid (a : Option Addr) (n c : Nat) (xs : List Int) (w : World) (hr : RowK .i64 w a xs) (hx : xs.length = n) (hn : n ≤ 60) (hg : Good xs) :
    Calls Try.prog 8 #[.slice a n c] w fun e w' => e = .returned (.bool true) ∧ Below w.heap.size w w' := by
  have HR := hide (And.intro hr hx)
  have hgb : goodB xs = true := (goodB_iff xs).2 hg
  have hrt : Rt (cubeA xs) := ⟨cubeA_fits xs, cubeA_up xs⟩
  obtain ⟨cs, hcs⟩ : ∃ cs, cs = cubeA xs := ⟨_, rfl⟩
  have hql : (cubeA xs).length ≤ n := by
    have := cubeA_len xs
    omega
  rw [← hcs] at hrt hql
  obtain ⟨q, HQ⟩ : ∃ q, Hid (q = cs.length) := ⟨_, rfl⟩
  rw [← HQ.out] at hql
  have HG := hide (And.intro hgb hrt)
  have HC := hide hcs
  have HNl : Hid ((notL cs).length = q) := by show (notL cs).length = q; rw [notL_len, HQ.out]
  have HWf : Hid (WfL cs) := fits_wf hrt.1
  have HWn : Hid (WfL (notL cs)) := fits_wf (notL_fits hrt.1)
  have HM1 : Hid (Mild cs) := fits_mild hrt.1
  have HM2 : Hid (Mild (notL cs)) := fits_mild (notL_fits hrt.1)
  clear hr hx hg hgb hrt hcs
  go_enter Try.func8, Try.ntmps8
  go_wp2_with (go_at_call 9; refine (alive_any _).mono ?_; rintro e w1 ⟨rfl, hb1⟩)
  have B1 := hide hb1
  clear hb1
  refine (refOf_any a n c xs w1 (HR.out.1.below B1.out) HR.out.2 (by omega)).mono ?_
  rintro e w2 ⟨v2, rfl, hown2, hb2⟩
  obtain ⟨a2, c2, rfl, hrow2, -, -, -, -⟩ := row_of_own hown2
  have B2 : Hid (Below w.heap.size w w2) := B1.out.trans (hb2.mono B1.out.size)
  rw [← HC.out] at hrow2 ⊢
  rw [HG.out.1, ← HQ.out]
  have R2 := hide hrow2
  clear hown2 hb2 hrow2
  go_wp2_with fail
  -- Not(c)
  refine (not_any a2 q c2 cs w2 R2.out HQ.out.symm (by omega) HM1.out).mono ?_
  rintro e w3 ⟨v3, rfl, hown3, hb3⟩
  obtain ⟨a3, c3, rfl, hrow3, -, -, -, -⟩ := row_of_own hown3
  have B3 : Hid (Below w.heap.size w w3) := B2.out.trans (hb3.mono B2.out.size)
  have R3 := hide hrow3
  have R23 := hide (R2.out.below hb3)
  rw [HNl.out]
  clear hown3 hb3 hrow3
  go_wp2_with fail
  -- Right(n)
  refine (right_any a3 q c3 (notL cs) w3 R3.out HNl.out (by omega)).mono ?_
  rintro e w4 ⟨he4, hw4⟩
  obtain rfl := hw4.symm
  rw [notL_right HG.out.2] at he4
  subst he4
  go_wp2_with fail
  -- Not(n)
  refine (not_any a3 q c3 (notL cs) w3 R3.out HNl.out (by omega) HM2.out).mono ?_
  rintro e w5 ⟨v5, rfl, hown5, hb5⟩
  rw [notL_notL] at hown5
  obtain ⟨a5, c5, rfl, hrow5, -, -, -, -⟩ := row_of_own hown5
  have B5 : Hid (Below w.heap.size w w5) := B3.out.trans (hb5.mono B3.out.size)
  have R5 := hide hrow5
  have R25 := hide (R23.out.below hb5)
  have R35 := hide (R3.out.below hb5)
  rw [← HQ.out]
  clear hown5 hb5 hrow5
  go_wp2_with fail
  refine (same_any a5 a2 q c5 q c2 cs cs w5 R5.out HQ.out.symm R25.out HQ.out.symm (by omega) (by omega)).mono ?_
  rintro e w6 ⟨he6, hd6⟩
  rw [decide_eq_true rfl] at he6
  subst he6
  have B6 : Hid (Below w.heap.size w w6) := B5.out.trans (hd6.below.mono B5.out.size)
  have R26 := hide (R25.out.below hd6.below)
  have R36 := hide (R35.out.below hd6.below)
  clear hd6
  go_wp2_with fail
  -- Meet(c, n)
  refine (meet_any a2 a3 q c2 q c3 cs (notL cs) w6 R26.out HQ.out.symm R36.out HNl.out (by omega) (by omega) HWf.out HWn.out).mono ?_
  rintro e w7 ⟨v7, rfl, hown7, hb7⟩
  rw [meet_not HG.out.2] at hown7
  obtain ⟨a7, c7, rfl, -, -, -, -, -⟩ := row_of_own hown7
  have B7 : Hid (Below w.heap.size w w7) := B6.out.trans (hb7.mono B6.out.size)
  have R27 := hide (R26.out.below hb7)
  have R37 := hide (R36.out.below hb7)
  clear hown7 hb7
  go_wp2_with fail
  -- Meet(c, c)
  refine (meet_any a2 a2 q c2 q c2 cs cs w7 R27.out HQ.out.symm R27.out HQ.out.symm (by omega) (by omega) HWf.out HWf.out).mono ?_
  rintro e w8 ⟨v8, rfl, hown8, hb8⟩
  rw [meet_self HG.out.2] at hown8
  obtain ⟨a8, c8, rfl, hrow8, -, -, -, -⟩ := row_of_own hown8
  have B8 : Hid (Below w.heap.size w w8) := B7.out.trans (hb8.mono B7.out.size)
  have R8 := hide hrow8
  have R28 := hide (R27.out.below hb8)
  have R38 := hide (R37.out.below hb8)
  clear hown8 hb8 hrow8
  rw [← HQ.out]
  go_wp2_with fail
  refine (same_any a8 a2 q c8 q c2 cs cs w8 R8.out HQ.out.symm R28.out HQ.out.symm (by omega) (by omega)).mono ?_
  rintro e w9 ⟨he9, hd9⟩
  rw [decide_eq_true rfl] at he9
  subst he9
  have B9 : Hid (Below w.heap.size w w9) := B8.out.trans (hd9.below.mono B8.out.size)
  have R29 := hide (R28.out.below hd9.below)
  have R39 := hide (R38.out.below hd9.below)
  clear hd9
  go_wp2_with fail
  -- Within(c, c)
  refine (within_any a2 a2 q c2 q c2 cs cs w9 R29.out HQ.out.symm R29.out HQ.out.symm (by omega) (by omega) HWf.out HWf.out).mono ?_
  rintro e w10 ⟨he10, hb10⟩
  rw [within_self] at he10
  subst he10
  have B10 : Hid (Below w.heap.size w w10) := B9.out.trans (hb10.mono B9.out.size)
  have R210 := hide (R29.out.below hb10)
  have R310 := hide (R39.out.below hb10)
  clear hb10
  by_cases h0 : q = 0
  · subst h0
    go_wp2_with fail
    go_ret
    exact ⟨rfl, B10.out⟩
  · have hb0 : ((q : Int) == 0) = false := by rw [beq_eq_false_iff_ne]; omega
    go_wp2_with fail
    refine (within_any a2 a3 q c2 q c3 cs (notL cs) w10 R210.out HQ.out.symm R310.out HNl.out (by omega) (by omega) HWf.out HWn.out).mono ?_
    rintro e w11 ⟨he11, hb11⟩
    rw [within_not HG.out.2 (by rw [← HQ.out]; omega)] at he11
    subst he11
    have B11 : Hid (Below w.heap.size w w11) := B10.out.trans (hb11.mono B10.out.size)
    clear hb11
    go_wp2_with fail
    go_ret
    exact ⟨rfl, B11.out⟩

set_option maxRecDepth 100000 in
set_option maxHeartbeats 1000000 in
theorem cubeNots_any (a : Option Addr) (len cap : Nat) (zs : List Int) (w : World) (hr : IsRow .i64 w a len cap zs) :
    Calls Try.prog 8 #[.slice a len cap] w fun e w' => e = .returned (.bool true) ∧ Below w.heap.size w w' := by
  obtain ⟨r1, r2, r3, r4, r5, r6⟩ := hr.row
  by_cases hg : Good (zs.take len) ∧ len ≤ 60
  · exact cubeNots_mid a len cap (zs.take len) w r1 r4 hg.2 hg.1
  · have HR := hide (And.intro r1 r4)
    clear r1 r2 r3 r4
    have hlen : len ≤ 9223372036854775807 := by omega
    by_cases hgd : Good (zs.take len)
    · have hbig : (60 : Int) < len := by have : ¬ len ≤ 60 := fun h => hg ⟨hgd, h⟩; omega
      have HG := hide ((goodB_iff _).2 hgd)
      clear hg hgd
      go_enter Try.func8, Try.ntmps8
      go_wp2_with (go_at_call 9; refine (alive_any _).mono ?_; rintro e w1 ⟨rfl, hb1⟩)
      refine (refOf_any a len cap _ w1 (HR.out.1.below hb1) HR.out.2 hlen).mono ?_
      rintro e w2 ⟨v2, rfl, hown2, hb2⟩
      rw [HG.out]
      have B2 : Hid (Below w.heap.size w w2) := hb1.trans (hb2.mono hb1.size)
      clear hown2 hb2 hb1
      go_wp2_with fail
      go_ret
      exact ⟨rfl, B2.out⟩
    · have HG := hide (goodB_no hgd)
      clear hg hgd
      go_enter Try.func8, Try.ntmps8
      go_wp2_with (go_at_call 9; refine (alive_any _).mono ?_; rintro e w1 ⟨rfl, hb1⟩)
      refine (refOf_any a len cap _ w1 (HR.out.1.below hb1) HR.out.2 hlen).mono ?_
      rintro e w2 ⟨v2, rfl, hown2, hb2⟩
      rw [HG.out]
      have B2 : Hid (Below w.heap.size w w2) := hb1.trans (hb2.mono hb1.size)
      clear hown2 hb2 hb1
      go_wp2_with fail
      go_ret
      exact ⟨rfl, B2.out⟩
end Go.Proofs.Ytcbgnmkipbhncaa
