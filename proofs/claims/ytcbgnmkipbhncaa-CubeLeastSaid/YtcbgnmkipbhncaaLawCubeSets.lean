/-
  THE WALK of the law CubeSets.
-/
import Derived.Test.YtcbgnmkipbhncaaCubeMeet
import Derived.Test.YtcbgnmkipbhncaaLawCubeOfs
namespace Go.Proofs.Ytcbgnmkipbhncaa
open Go.RowKit

theorem meet_in_left (xs ys : List Int) : withinB (cubeA (meetL xs ys)) xs = true := (withinB_iff _ _).2 fun x hx => (List.mem_filter.1 (cubeA_sub _ x hx)).1
theorem meet_in_right (xs ys : List Int) : withinB (cubeA (meetL xs ys)) ys = true := (withinB_iff _ _).2 fun x hx => of_decide_eq_true (List.mem_filter.1 (cubeA_sub _ x hx)).2
theorem cubeA_wf (xs : List Int) : WfL (cubeA xs) := fun x hx => by
  have h := cubeA_fits xs x hx
  exact WalkArith.wf_i64 (n := x) (by have := h.2.1; have := h.2.2; omega)
theorem insL_len (n : Int) (acc : List Int) : (insL n acc).length ≤ acc.length + 1 := by
  induction acc with
  | nil => simp [insL]
  | cons m r ih =>
    rw [insL]
    split
    · simp; omega
    · split <;> simp
theorem foldIns_len (ys : List Int) : ∀ acc, (ys.foldl (fun acc n => insL n acc) acc).length ≤ acc.length + ys.length := by
  induction ys with
  | nil => intro acc; simp
  | cons n r ih =>
    intro acc
    have h1 := ih (insL n acc)
    have h2 := insL_len n acc
    simp only [List.foldl_cons, List.length_cons]
    omega
theorem cubeA_len (xs : List Int) : (cubeA xs).length ≤ xs.length := by
  unfold cubeA cubeL
  split
  · have := foldIns_len xs []; simpa using this
  · simp
theorem meet_short {xs ys : List Int} {n : Nat} (h : xs.length = n) (hn : n ≤ 80) : (cubeA (meetL xs ys)).length ≤ 80 := by
  have h1 : (meetL xs ys).length ≤ n := by rw [← h]; exact List.length_filter_le _ _
  have := cubeA_len (meetL xs ys)
  omega

set_option maxRecDepth 100000 in
set_option maxHeartbeats 2000000 in
theorem cubeSets_mid (a b : Option Addr) (n c m d : Nat) (xs ys : List Int) (w : World) (hr : RowK .i64 w a xs) (hx : xs.length = n) (hn : n ≤ 80) (hw : WfL xs) (hs : RowK .i64 w b ys) (hy : ys.length = m) (hm : m ≤ 80) (hv : WfL ys) :
    Calls Try.prog 4 #[.slice a n c, .slice b m d] w fun e w' => e = .returned (.bool true) ∧ Below w.heap.size w w' := by
  have HR := hide (And.intro hr (And.intro hx hw))
  have HS := hide (And.intro hs (And.intro hy hv))
  obtain ⟨q, HQ⟩ : ∃ q, Hid (q = (cubeA (meetL xs ys)).length) := ⟨_, rfl⟩
  have hq : q ≤ 80 := by rw [HQ.out]; exact meet_short hx hn
  clear hr hx hw hs hy hv
  go_enter Try.func4, Try.ntmps4
  go_wp2_with (go_at_call 9; refine (alive_any _).mono ?_; rintro e w1 ⟨rfl, hb1⟩)
  have B1 := hide hb1
  clear hb1
  -- Within(a, b)
  refine (within_any a b n c m d xs ys w1 (HR.out.1.below B1.out) HR.out.2.1 (HS.out.1.below B1.out) HS.out.2.1 (by omega) (by omega) HR.out.2.2 HS.out.2.2).mono ?_
  rintro e w2 ⟨rfl, hb2⟩
  have B2 : Hid (Below w.heap.size w w2) := B1.out.trans (hb2.mono B1.out.size)
  clear hb2
  obtain ⟨r, HRr⟩ : ∃ r, Hid (r = withinB xs ys) := ⟨_, rfl⟩
  rw [← HRr.out]
  go_wp2_with fail
  refine (refWithin_any a b n c m d xs ys w2 (HR.out.1.below B2.out) HR.out.2.1 (HS.out.1.below B2.out) HS.out.2.1 (by omega) (by omega)).mono ?_
  rintro e w3 ⟨rfl, hw3⟩
  obtain rfl := hw3.symm
  rw [← HRr.out]
  go_wp2_with fail
  -- Meet(a, b)
  refine (meet_any a b n c m d xs ys w2 (HR.out.1.below B2.out) HR.out.2.1 (HS.out.1.below B2.out) HS.out.2.1 (by omega) (by omega) HR.out.2.2 HS.out.2.2).mono ?_
  rintro e w4 ⟨v4, rfl, hown4, hb4⟩
  obtain ⟨a4, c4, rfl, hrow4, -, -, -, -⟩ := row_of_own hown4
  have B4 : Hid (Below w.heap.size w w4) := B2.out.trans (hb4.mono B2.out.size)
  have R4 := hide hrow4
  clear hown4 hb4 hrow4
  rw [← HQ.out]
  go_wp2_with fail
  refine (refMeet_any a b n c m d xs ys w4 (HR.out.1.below B4.out) HR.out.2.1 (HS.out.1.below B4.out) HS.out.2.1 (by omega) (by omega)).mono ?_
  rintro e w5 ⟨v5, rfl, hown5, hb5⟩
  obtain ⟨a5, c5, rfl, hrow5, -, -, -, -⟩ := row_of_own hown5
  have B5 : Hid (Below w.heap.size w w5) := B4.out.trans (hb5.mono B4.out.size)
  have R5 := hide hrow5
  have R45 := hide (R4.out.below hb5)
  clear hown5 hb5 hrow5
  rw [← HQ.out]
  go_wp2_with fail
  refine (same_any a4 a5 q c4 q c5 (cubeA (meetL xs ys)) (cubeA (meetL xs ys)) w5 R45.out HQ.out.symm R5.out HQ.out.symm (by omega) (by omega)).mono ?_
  rintro e w6 ⟨he6, hd6⟩
  rw [decide_eq_true rfl] at he6
  subst he6
  have B6 : Hid (Below w.heap.size w w6) := B5.out.trans (hd6.below.mono B5.out.size)
  clear hd6
  go_wp2_with fail
  -- Within(Meet(a, b), a)
  refine (meet_any a b n c m d xs ys w6 (HR.out.1.below B6.out) HR.out.2.1 (HS.out.1.below B6.out) HS.out.2.1 (by omega) (by omega) HR.out.2.2 HS.out.2.2).mono ?_
  rintro e w7 ⟨v7, rfl, hown7, hb7⟩
  obtain ⟨a7, c7, rfl, hrow7, -, -, -, -⟩ := row_of_own hown7
  have B7 : Hid (Below w.heap.size w w7) := B6.out.trans (hb7.mono B6.out.size)
  have R7 := hide hrow7
  clear hown7 hb7 hrow7
  rw [← HQ.out]
  go_wp2_with fail
  refine (within_any a7 a q c7 n c (cubeA (meetL xs ys)) xs w7 R7.out HQ.out.symm (HR.out.1.below B7.out) HR.out.2.1 (by omega) (by omega) (cubeA_wf _) HR.out.2.2).mono ?_
  rintro e w8 ⟨he8, hb8⟩
  rw [meet_in_left] at he8
  subst he8
  have B8 : Hid (Below w.heap.size w w8) := B7.out.trans (hb8.mono B7.out.size)
  clear hb8
  go_wp2_with fail
  refine (meet_any a b n c m d xs ys w8 (HR.out.1.below B8.out) HR.out.2.1 (HS.out.1.below B8.out) HS.out.2.1 (by omega) (by omega) HR.out.2.2 HS.out.2.2).mono ?_
  rintro e w9 ⟨v9, rfl, hown9, hb9⟩
  obtain ⟨a9, c9, rfl, hrow9, -, -, -, -⟩ := row_of_own hown9
  have B9 : Hid (Below w.heap.size w w9) := B8.out.trans (hb9.mono B8.out.size)
  have R9 := hide hrow9
  clear hown9 hb9 hrow9
  rw [← HQ.out]
  go_wp2_with fail
  refine (within_any a9 b q c9 m d (cubeA (meetL xs ys)) ys w9 R9.out HQ.out.symm (HS.out.1.below B9.out) HS.out.2.1 (by omega) (by omega) (cubeA_wf _) HS.out.2.2).mono ?_
  rintro e w10 ⟨he10, hb10⟩
  rw [meet_in_right] at he10
  subst he10
  have B10 : Hid (Below w.heap.size w w10) := B9.out.trans (hb10.mono B9.out.size)
  clear hb10
  go_wp2_with fail
  go_ret
  exact ⟨rfl, B10.out⟩

set_option maxHeartbeats 400000 in
theorem cubeSets_any (a : Option Addr) (len cap : Nat) (zs : List Int) (b : Option Addr) (len2 cap2 : Nat) (zs2 : List Int) (w : World) (hr : IsRow .i64 w a len cap zs) (hs : IsRow .i64 w b len2 cap2 zs2) :
    Calls Try.prog 4 #[.slice a len cap, .slice b len2 cap2] w fun e w' => e = .returned (.bool true) ∧ Below w.heap.size w w' := by
  obtain ⟨r1, r2, r3, r4, r5, r6⟩ := hr.row
  obtain ⟨s1, s2, s3, s4, s5, s6⟩ := hs.row
  by_cases hbig : (80 : Int) < len
  · go_enter Try.func4, Try.ntmps4
    go_wp2_with (go_at_call 9; refine (alive_any _).mono ?_; rintro e w1 ⟨rfl, hb1⟩)
    go_ret
    exact ⟨rfl, hb1⟩
  · by_cases hbig2 : (80 : Int) < len2
    · go_enter Try.func4, Try.ntmps4
      go_wp2_with (go_at_call 9; refine (alive_any _).mono ?_; rintro e w1 ⟨rfl, hb1⟩)
      go_ret
      exact ⟨rfl, hb1⟩
    · exact cubeSets_mid a b len cap len2 cap2 (zs.take len) (zs2.take len2) w r1 r4 (by omega) r2 s1 s4 (by omega) s2
end Go.Proofs.Ytcbgnmkipbhncaa
