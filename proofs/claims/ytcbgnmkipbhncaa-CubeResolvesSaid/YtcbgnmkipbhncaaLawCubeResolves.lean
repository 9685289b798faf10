/-
  THE WALK of the law CubeResolves.
-/
import Derived.Test.YtcbgnmkipbhncaaCubeMet
import Derived.Test.YtcbgnmkipbhncaaCubeAlive
namespace Go.Proofs.Ytcbgnmkipbhncaa
open Go.RowKit

theorem resL_fits (xs ys : List Int) (v : Int) : ∀ x ∈ resL xs ys v, Fits x := fun x hx => by
  unfold resL at hx
  split at hx
  · by_cases h : Good (restL xs ys v)
    · exact h.1 x ((cubeA_mem h x).1 hx)
    · rw [cubeA_no h] at hx; cases hx
  · cases hx
theorem resL_up (xs ys : List Int) (v : Int) : Up (resL xs ys v) := by
  unfold resL
  split
  · exact cubeA_up _
  · exact List.Pairwise.nil
theorem insL_len2 (n : Int) (acc : List Int) : (insL n acc).length ≤ acc.length + 1 := by
  induction acc with
  | nil => simp [insL]
  | cons m r ih =>
    rw [insL]
    split
    · simp; omega
    · split <;> simp
theorem foldIns_len2 (ys : List Int) : ∀ acc, (ys.foldl (fun acc n => insL n acc) acc).length ≤ acc.length + ys.length := by
  induction ys with
  | nil => intro acc; simp
  | cons n r ih =>
    intro acc
    have h1 := ih (insL n acc)
    have h2 := insL_len2 n acc
    simp only [List.foldl_cons, List.length_cons]
    omega
theorem resL_len (xs ys : List Int) (v : Int) : (resL xs ys v).length ≤ xs.length + ys.length := by
  unfold resL
  split
  · have h1 : (restL xs ys v).length ≤ xs.length + ys.length := by rw [← List.length_append]; exact List.length_filter_le _ _
    unfold cubeA cubeL
    split
    · have := foldIns_len2 (restL xs ys v) []; simp at this; omega
    · simp
  · simp

set_option maxRecDepth 100000 in
set_option maxHeartbeats 2000000 in
theorem cubeResolves_mid (a b : Option Addr) (n c m d : Nat) (xs ys : List Int) (v bs : Int) (w : World) (hr : RowK .i64 w a xs) (hx : xs.length = n) (hnc : a = none → c = 0) (hn : n ≤ 60) (hs : RowK .i64 w b ys) (hy : ys.length = m) (hmd : b = none → d = 0) (hm : m ≤ 60) (hv1 : -4611686018427387904 ≤ v) (hv2 : v ≤ 9223372036854775807) :
    Calls Try.prog 5 #[.slice a n c, .slice b m d, .int .i64 v, .int .i64 bs] w fun e w' => e = .returned (.bool true) ∧ Below w.heap.size w w' := by
  have HR := hide (And.intro hr (And.intro hx hnc))
  have HS := hide (And.intro hs (And.intro hy hmd))
  obtain ⟨q, HQ⟩ : ∃ q, Hid (q = (resL xs ys v).length) := ⟨_, rfl⟩
  have hq : q ≤ 120 := by rw [HQ.out]; have := resL_len xs ys v; omega
  obtain ⟨p, HPr⟩ : ∃ p, Hid (p = resB xs ys v) := ⟨_, rfl⟩
  clear hr hx hnc hs hy hmd
  go_enter Try.func5, Try.ntmps5
  go_wp2_with (go_at_call 9; refine (alive_any _).mono ?_; rintro e w1 ⟨rfl, hb1⟩)
  have B1 := hide hb1
  clear hb1
  refine (resolve_any a b n c m d xs ys v w1 (HR.out.1.below B1.out) HR.out.2.1 HR.out.2.2 (HS.out.1.below B1.out) HS.out.2.1 HS.out.2.2 (by omega) (by omega) hv2).mono ?_
  rintro e w2 ⟨v2, rfl, hown2, hb2⟩
  obtain ⟨a2, c2, rfl, hrow2, -, -, -, -⟩ := row_of_own hown2
  have B2 : Hid (Below w.heap.size w w2) := B1.out.trans (hb2.mono B1.out.size)
  have R2 := hide hrow2
  rw [← HPr.out, ← HQ.out]
  clear hown2 hb2 hrow2
  go_wp2_with fail
  refine (refResolve_any a b n c m d xs ys v w2 (HR.out.1.below B2.out) HR.out.2.1 (HS.out.1.below B2.out) HS.out.2.1 (by omega) (by omega) hv2).mono ?_
  rintro e w3 ⟨v3, rfl, hown3, hb3⟩
  obtain ⟨a3, c3, rfl, hrow3, -, -, -, -⟩ := row_of_own hown3
  have B3 : Hid (Below w.heap.size w w3) := B2.out.trans (hb3.mono B2.out.size)
  have R3 := hide hrow3
  have R23 := hide (R2.out.below hb3)
  rw [← HPr.out, ← HQ.out]
  clear hown3 hb3 hrow3
  go_wp2_with fail
  refine (same_any a2 a3 q c2 q c3 (resL xs ys v) (resL xs ys v) w3 R23.out HQ.out.symm R3.out HQ.out.symm (by omega) (by omega)).mono ?_
  rintro e w4 ⟨he4, hd4⟩
  rw [decide_eq_true rfl] at he4
  subst he4
  have B4 : Hid (Below w.heap.size w w4) := B3.out.trans (hd4.below.mono B3.out.size)
  have R24 := hide (R23.out.below hd4.below)
  clear hd4
  cases p with
  | false =>
    go_wp2_with fail
    go_ret
    exact ⟨rfl, B4.out⟩
  | true =>
    have hres : resOk xs ys v = true ∧ goodB (restL xs ys v) = true := by
      have := HPr.out.symm
      unfold resB at this
      simpa using this
    have hrt : Rt xs ∧ Rt ys := by
      have hk := hres.1
      unfold resOk at hk
      simp only [Bool.and_eq_true] at hk
      exact ⟨(rightB_iff xs).1 hk.2.1, (rightB_iff ys).1 hk.2.2.1⟩
    have HT := hide (And.intro hrt hres)
    have HMET : Hid (metB bs xs = true → metB bs ys = true → metB bs (resL xs ys v) = true) := fun h1 h2 => met_rest hres.1 hres.2 h1 h2
    have hA := met_any a n c xs bs w4 (HR.out.1.below B4.out) HR.out.2.1 (by omega) HT.out.1.1.1
    have hB := met_any b m d ys bs w4 (HS.out.1.below B4.out) HS.out.2.1 (by omega) HT.out.1.2.1
    have hC := met_any a2 q c2 (resL xs ys v) bs w4 R24.out HQ.out.symm (by omega) (resL_fits xs ys v)
    generalize metB bs xs = p1 at hA HMET
    generalize metB bs ys = p2 at hB HMET
    generalize metB bs (resL xs ys v) = p3 at hC HMET
    have HA := hide hA
    have HB := hide hB
    have HC := hide hC
    clear hA hB hC hres hrt
    cases p1 with
    | false =>
      go_wp2_with fail
      refine HA.out.mono ?_
      rintro e w5 ⟨rfl, hw5⟩
      obtain rfl := hw5.symm
      go_wp2_with fail
      go_ret
      exact ⟨rfl, B4.out⟩
    | true =>
      cases p2 with
      | false =>
        go_wp2_with fail
        refine HA.out.mono ?_
        rintro e w5 ⟨rfl, hw5⟩
        obtain rfl := hw5.symm
        go_wp2_with fail
        refine HB.out.mono ?_
        rintro e w6 ⟨rfl, hw6⟩
        obtain rfl := hw6.symm
        go_wp2_with fail
        go_ret
        exact ⟨rfl, B4.out⟩
      | true =>
        obtain rfl := HMET.out rfl rfl
        go_wp2_with fail
        refine HA.out.mono ?_
        rintro e w5 ⟨rfl, hw5⟩
        obtain rfl := hw5.symm
        go_wp2_with fail
        refine HB.out.mono ?_
        rintro e w6 ⟨rfl, hw6⟩
        obtain rfl := hw6.symm
        go_wp2_with fail
        refine HC.out.mono ?_
        rintro e w7 ⟨rfl, hw7⟩
        obtain rfl := hw7.symm
        go_wp2_with fail
        go_ret
        exact ⟨rfl, B4.out⟩

set_option maxHeartbeats 400000 in
theorem cubeResolves_any (a : Option Addr) (len cap : Nat) (zs : List Int) (b : Option Addr) (len2 cap2 : Nat) (zs2 : List Int) (v bs : Int) (w : World) (hr : IsRow .i64 w a len cap zs) (hs : IsRow .i64 w b len2 cap2 zs2) (_v1 : -9223372036854775808 ≤ v) (v2 : v ≤ 9223372036854775807) (_b1 : -9223372036854775808 ≤ bs) (_b2 : bs ≤ 9223372036854775807) :
    Calls Try.prog 5 #[.slice a len cap, .slice b len2 cap2, .int .i64 v, .int .i64 bs] w fun e w' => e = .returned (.bool true) ∧ Below w.heap.size w w' := by
  obtain ⟨r1, r2, r3, r4, r5, r6⟩ := hr.row
  obtain ⟨s1, s2, s3, s4, s5, s6⟩ := hs.row
  by_cases hbig : (60 : Int) < len ∨ (60 : Int) < len2 ∨ v < -4611686018427387904
  · rcases hbig with h | h | h
    · go_enter Try.func5, Try.ntmps5
      go_wp2_with (go_at_call 9; refine (alive_any _).mono ?_; rintro e w1 ⟨rfl, hb1⟩)
      go_ret
      exact ⟨rfl, hb1⟩
    · by_cases h2 : (60 : Int) < len
      · go_enter Try.func5, Try.ntmps5
        go_wp2_with (go_at_call 9; refine (alive_any _).mono ?_; rintro e w1 ⟨rfl, hb1⟩)
        go_ret
        exact ⟨rfl, hb1⟩
      · go_enter Try.func5, Try.ntmps5
        go_wp2_with (go_at_call 9; refine (alive_any _).mono ?_; rintro e w1 ⟨rfl, hb1⟩)
        go_ret
        exact ⟨rfl, hb1⟩
    · by_cases h2 : (60 : Int) < len
      · go_enter Try.func5, Try.ntmps5
        go_wp2_with (go_at_call 9; refine (alive_any _).mono ?_; rintro e w1 ⟨rfl, hb1⟩)
        go_ret
        exact ⟨rfl, hb1⟩
      · by_cases h3 : (60 : Int) < len2
        · go_enter Try.func5, Try.ntmps5
          go_wp2_with (go_at_call 9; refine (alive_any _).mono ?_; rintro e w1 ⟨rfl, hb1⟩)
          go_ret
          exact ⟨rfl, hb1⟩
        · go_enter Try.func5, Try.ntmps5
          go_wp2_with (go_at_call 9; refine (alive_any _).mono ?_; rintro e w1 ⟨rfl, hb1⟩)
          go_ret
          exact ⟨rfl, hb1⟩
  · exact cubeResolves_mid a b len cap len2 cap2 (zs.take len) (zs2.take len2) v bs w r1 r4 r3 (by omega) s1 s4 s3 (by omega) (by omega) v2
end Go.Proofs.Ytcbgnmkipbhncaa
