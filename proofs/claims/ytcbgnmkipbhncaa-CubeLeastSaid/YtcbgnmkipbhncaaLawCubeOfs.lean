/-
  THE WALK of the law CubeOfs.
-/
import Derived.Test.YtcbgnmkipbhncaaCubeAlive
import Derived.Test.YtcbgnmkipbhncaaRefCubeOfW
namespace Go.Proofs.Ytcbgnmkipbhncaa
open Go.RowKit

theorem fits_mild {xs : List Int} (h : ∀ x ∈ xs, Fits x) : Mild xs := fun x hx => by have h1 := (h x hx).2.1; have h2 := (h x hx).2.2; omega
theorem cubeA_right {xs : List Int} (h : Good xs) : rightB (cubeA xs) = true := (rightB_iff _).2 ⟨fun x hx => h.1 x ((cubeA_mem h x).1 hx), cubeA_up xs⟩
theorem cubeA_fits (xs : List Int) : ∀ x ∈ cubeA xs, Fits x := fun x hx => by
  by_cases h : Good xs
  · exact h.1 x ((cubeA_mem h x).1 hx)
  · rw [cubeA_no h] at hx; cases hx
theorem cubeA_short (xs : List Int) : (cubeA xs).length ≤ 2147483648 := up_short (cubeA_up xs) (cubeA_fits xs)

set_option maxRecDepth 100000 in
set_option maxHeartbeats 2000000 in
theorem cubeOfs_mid (a : Option Addr) (n c : Nat) (xs : List Int) (w : World) (hr : RowK .i64 w a xs) (hx : xs.length = n) (hnc : a = none → c = 0) (hn : n ≤ 100) (hb63 : ∀ x ∈ xs, x ≤ 9223372036854775807) :
    Calls Try.prog 3 #[.slice a n c] w fun e w' => e = .returned (.bool true) ∧ Below w.heap.size w w' := by
  obtain ⟨i0, hi, hz0, hz1, hz2⟩ := info_parts infoInt
  have HR := hide hr
  have HX := hide hx
  have HN := hide hnc
  have H63 := hide hb63
  clear hr hx hnc hb63
  go_enter Try.func3, Try.ntmps3
  go_wp2_with (go_at_call 9; refine (alive_any _).mono ?_; rintro e w1 ⟨rfl, hb1⟩)
  have HB1 := hide hb1
  have hbs1 := hb1.size
  clear hb1
  go_loop [4] (fun i => ∃ k : Nat, i = .int .i64 k ∧ k ≤ n ∧ Hid (∀ j, j < k → -4611686018427387904 ≤ atP xs j)) (fun i => n - (intOf i).toNat)
  case atStart => exact ⟨0, rfl, Nat.zero_le _, fun j hj => absurd hj (Nat.not_lt_zero _)⟩
  case round =>
    obtain ⟨k, rfl, hk, HF⟩ := hrel
    by_cases hlt : k < n
    · obtain ⟨b, off, rfl, hbw, hcell⟩ := HR.out.addr (by rw [HX.out]; omega)
      have hc := (HB1.out.cell (p := ⟨b, off + k, none⟩) hbw).trans (hcell k (by rw [HX.out]; omega))
      rw [atP_getD] at hc
      obtain ⟨y, HY⟩ : ∃ y, Hid (y = atP xs k) := ⟨_, rfl⟩
      rw [← HY.out] at hc
      clear hcell
      by_cases hy : y < -4611686018427387904
      · go_wp2
        go_ret
        exact ⟨rfl, HB1.out⟩
      · go_wp2
        go_round
        case rel =>
          refine ⟨k + 1, by go_num, by omega, fun j hj => ?_⟩
          by_cases hjk : j < k
          · exact HF.out j hjk
          · obtain rfl : j = k := by omega
            rw [← HY.out]; omega
        case measure => simp [intOf]; omega
    · obtain rfl : k = n := by omega
      have HMD : Hid (Mild xs) := fun x hx => ⟨all_of (p := fun y => -4611686018427387904 ≤ y) (fun j hj => HF.out j (by rw [← HX.out]; exact hj)) x hx, H63.out x hx⟩
      clear HF hlt
      have HR1 := hide (HR.out.below HB1.out)
      go_wp2_with (at_builtin; refine wpList_append_row _ rfl (.const (.slice none 0 0)) (.tmp 30) 22 rfl .i64 w1.heap.size 3 i0 (.int .i64 0) 8 Try.underlying22 hi hz0 hz1 hz2 rfl (.slice none 0 0) 0 [] rfl (World.ownsRow_nil _ _ _ _) a k c xs rfl HX.out HR1.out HN.out (by unfold maxLen; omega) (by omega) (Nat.le_refl _) ?_; intro v2 w2 hown2 hg2; rw [Nat.zero_add, List.nil_append] at hown2; obtain ⟨a2, c2, rfl, hrow2, hnc2, hl2, hc2a, hc2b⟩ := row_of_own hown2; have hb2 : Below w1.heap.size w1 w2 := (Below.refl _ _).grown hg2 (Nat.le_refl _) (fun k hk => by cases hk))
      -- Of(own)
      refine (of_any a2 k c2 xs w2 hrow2 hl2 hnc2 (by omega)).mono ?_
      rintro e w3 ⟨v3, rfl, hown3, hb3⟩
      obtain ⟨a3, c3, rfl, hrow3, hnc3, -, -, -⟩ := row_of_own hown3
      have hb13 : Below w1.heap.size w1 w3 := hb2.trans (hb3.mono hb2.size)
      have H2 := hide (And.intro (hrow2.below hb3) (And.intro hnc2 hl2))
      have H3 := hide (And.intro hrow3 hnc3)
      have HB3 := hide hb13
      clear hown2 hg2 hrow2 hnc2 hl2 hc2a hc2b hb2 hown3 hb3 hrow3 hnc3 hb13
      obtain ⟨p, HPg⟩ : ∃ p, Hid (p = goodB xs) := ⟨_, rfl⟩
      rw [← HPg.out]
      obtain ⟨m, HML⟩ : ∃ m, Hid (m = (cubeA xs).length) := ⟨_, rfl⟩
      rw [← HML.out]
      go_wp2_with fail
      -- CubeOf(l)
      refine (refOf_any a k c xs w3 (HR1.out.below HB3.out) HX.out (by omega)).mono ?_
      rintro e w4 ⟨v4, rfl, hown4, hb4⟩
      obtain ⟨a4, c4, rfl, hrow4, hnc4, -, -, -⟩ := row_of_own hown4
      have H4 := hide (And.intro hrow4 hnc4)
      have HB4 := hide hb4
      clear hown4 hrow4 hnc4 hb4
      rw [← HPg.out, ← HML.out]
      have HS2 := hide (H2.out.1.below HB4.out)
      have HS3 := hide (H3.out.1.below HB4.out)
      have hmlen : m ≤ 9223372036854775807 := by rw [HML.out]; have := cubeA_short xs; omega
      have hB14 : Hid (Below w1.heap.size w1 w4) := HB3.out.trans (HB4.out.mono HB3.out.size)
      have HR4 := hide (HR1.out.below hB14.out)
      go_wp2_with fail
      -- SameInts(a, b)
      refine (same_any a3 a4 m c3 m c4 (cubeA xs) (cubeA xs) w4 HS3.out HML.out.symm H4.out.1 HML.out.symm hmlen hmlen).mono ?_
      rintro e w5 ⟨he5, hd5⟩
      rw [decide_eq_true rfl] at he5
      subst he5
      have HD5 := hide hd5.heap
      have hB15 : Hid (Below w1.heap.size w1 w5) := hB14.out.trans (hd5.below.mono hB14.out.size)
      clear hd5
      go_wp2_with fail
      -- Right(own)
      refine (right_any a2 k c2 xs w5 (row_like HS2.out HD5.out) H2.out.2.2 (by omega)).mono ?_
      rintro e w6 ⟨rfl, hw6⟩
      obtain rfl := hw6.symm
      obtain ⟨rt, HRT⟩ : ∃ rt, Hid (rt = rightB xs) := ⟨_, rfl⟩
      rw [← HRT.out]
      go_wp2_with fail
      -- RightCube(l)
      refine (refRight_any a k c xs w5 (row_like HR4.out HD5.out) HX.out (by omega)).mono ?_
      rintro e w7 ⟨rfl, hd7⟩
      rw [← HRT.out]
      have HD7 : Hid (w7.heap = w4.heap) := hd7.heap.trans HD5.out
      have hB17 : Hid (Below w1.heap.size w1 w7) := hB15.out.trans (hd7.below.mono hB15.out.size)
      clear hd7
      go_wp2_with fail
      -- Not(own)
      refine (not_any a2 k c2 xs w7 (row_like HS2.out HD7.out) H2.out.2.2 (by omega) HMD.out).mono ?_
      rintro e w8 ⟨v8, rfl, hown8, hb8⟩
      obtain ⟨a8, c8, rfl, hrow8, hnc8, -, -, -⟩ := row_of_own hown8
      have H8 := hide hrow8
      have hB18 : Hid (Below w1.heap.size w1 w8) := hB17.out.trans (hb8.mono hB17.out.size)
      have HB8 := hide hb8
      clear hown8 hrow8 hnc8 hb8
      rw [notL_len, HX.out]
      go_wp2_with fail
      -- NotCube(l)
      refine (refNot_any a k c xs w8 (HR1.out.below hB18.out) HX.out (by omega) HMD.out).mono ?_
      rintro e w9 ⟨v9, rfl, hown9, hb9⟩
      obtain ⟨a9, c9, rfl, hrow9, hnc9, -, -, -⟩ := row_of_own hown9
      have H9 := hide hrow9
      have hB19 : Hid (Below w1.heap.size w1 w9) := hB18.out.trans (hb9.mono hB18.out.size)
      have HS8 := hide (H8.out.below hb9)
      have HS29 : Hid (RowK .i64 w9 a2 xs) := ((row_like HS2.out HD7.out).below HB8.out).below hb9
      have HS39 : Hid (RowK .i64 w9 a3 (cubeA xs)) := ((row_like HS3.out HD7.out).below HB8.out).below hb9
      clear hown9 hrow9 hnc9 hb9
      rw [notL_len, HX.out]
      go_wp2_with fail
      refine (same_any a8 a9 k c8 k c9 (notL xs) (notL xs) w9 HS8.out (by rw [notL_len, HX.out]) H9.out (by rw [notL_len, HX.out]) (by omega) (by omega)).mono ?_
      rintro e w10 ⟨he10, hd10⟩
      rw [decide_eq_true rfl] at he10
      subst he10
      have HD10 := hide hd10.heap
      have hB110 : Hid (Below w1.heap.size w1 w10) := hB19.out.trans (hd10.below.mono hB19.out.size)
      clear hd10
      go_wp2_with fail
      refine (same_any a2 a k c2 k c xs xs w10 (row_like HS29.out HD10.out) H2.out.2.2 (HR1.out.below hB110.out) HX.out (by omega) (by omega)).mono ?_
      rintro e w11 ⟨he11, hd11⟩
      rw [decide_eq_true rfl] at he11
      subst he11
      have HD11 : Hid (w11.heap = w9.heap) := hd11.heap.trans HD10.out
      have hB111 : Hid (Below w1.heap.size w1 w11) := hB110.out.trans (hd11.below.mono hB110.out.size)
      clear hd11
      have hfin : Hid (Below w.heap.size w w11) := HB1.out.trans (hB111.out.mono hbs1)
      cases p with
      | false =>
        go_wp2_with fail
        go_ret
        exact ⟨rfl, hfin.out⟩
      | true =>
        go_wp2_with fail
        refine (right_any a3 m c3 (cubeA xs) w11 (row_like HS39.out HD11.out) HML.out.symm hmlen).mono ?_
        rintro e w12 ⟨he12, hw12⟩
        obtain rfl := hw12.symm
        rw [cubeA_right ((goodB_iff xs).1 HPg.out.symm)] at he12
        subst he12
        go_wp2_with fail
        go_ret
        exact ⟨rfl, hfin.out⟩

set_option maxHeartbeats 400000 in
theorem cubeOfs_any (a : Option Addr) (len cap : Nat) (zs : List Int) (w : World) (hr : IsRow .i64 w a len cap zs) :
    Calls Try.prog 3 #[.slice a len cap] w fun e w' => e = .returned (.bool true) ∧ Below w.heap.size w w' := by
  obtain ⟨r1, r2, r3, r4, r5, r6⟩ := hr.row
  by_cases hbig : (100 : Int) < len
  · go_enter Try.func3, Try.ntmps3
    go_wp2_with (go_at_call 9; refine (alive_any _).mono ?_; rintro e w1 ⟨rfl, hb1⟩)
    go_ret
    exact ⟨rfl, hb1⟩
  · exact cubeOfs_mid a len cap (zs.take len) w r1 r4 r3 (by omega) (fun x hx => (bounds_i64 (r2 x hx)).2)
end Go.Proofs.Ytcbgnmkipbhncaa
