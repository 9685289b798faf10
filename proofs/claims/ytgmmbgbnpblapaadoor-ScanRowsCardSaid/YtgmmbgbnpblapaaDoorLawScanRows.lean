/-
  THE WALK of the law ScanRows.
-/
import Derived.Test.YtgmmbgbnpblapaaDoorRefNumbers
namespace Go.Proofs.YtgmmbgbnpblapaaDoor
open Go.RowKit

theorem nsL_len (s : ByteArray) (least most top : Int) : (nsL s least most top).length ≤ s.size + 1 := by
  unfold nsL
  split
  · rw [vals_length]; exact spl_le s
  · simp

/-- Both Words tell the same. -/
theorem words_both (s : ByteArray) (w : World) (hs : s.size ≤ 100000) (hM : EnvM w) : ∃ l : List ByteArray, l.length ≤ s.size + 1 ∧
    (Calls Tryd.prog 14 #[.string s] w fun e w' => ∃ v, e = .returned (.tuple #[v, .bool (okW s)]) ∧ Strs w' v l ∧ Below w.heap.size w w') ∧
    (∀ w1, Calls Tryd.prog 15 #[.string s] w1 fun e w' => ∃ v, e = .returned (.tuple #[v, .bool (okW s)]) ∧ Strs w' v l ∧ Below w1.heap.size w1 w') := by
  cases hok : okW s with
  | true =>
    refine ⟨spl s, spl_le s, (words_yes s w hs hM hok).mono ?_, fun w1 => (refWords_any s w1 hs).mono ?_⟩
    · rintro e w' ⟨rfl, hh, hb⟩
      exact ⟨_, rfl, Strs.of_heap hh, hb⟩
    · rintro e w' ⟨⟨_, v, rfl, hown⟩ | ⟨h, _⟩, hb⟩
      · exact ⟨v, rfl, Strs.of_own hown, hb⟩
      · rw [hok] at h; cases h
  | false =>
    refine ⟨[], by simp, (words_no s w hs hM hok).mono ?_, fun w1 => (refWords_any s w1 hs).mono ?_⟩
    · rintro e w' ⟨rfl, hb⟩
      exact ⟨_, rfl, Strs.nil _, hb⟩
    · rintro e w' ⟨⟨h, _⟩ | ⟨_, rfl⟩, hb⟩
      · rw [hok] at h; cases h
      · exact ⟨_, rfl, Strs.nil _, hb⟩

set_option maxRecDepth 100000 in
set_option maxHeartbeats 1000000 in
theorem scanRows_any (s : ByteArray) (least most top : Int) (w : World) (hs : s.size ≤ 281474976710656) (_ : -9223372036854775808 ≤ least) (_ : least ≤ 9223372036854775807) (_ : -9223372036854775808 ≤ most) (_ : most ≤ 9223372036854775807) (_ : -9223372036854775808 ≤ top) (ht : top ≤ 9223372036854775807) (hE : Env w) (hM : EnvM w) :
    Calls Tryd.prog 5 #[.string s, .int .i64 least, .int .i64 most, .int .i64 top] w fun e w' => e = .returned (.bool true) ∧ Below w.heap.size w w' := by
  by_cases hbig : (300 : Int) < s.size
  · go_enter Tryd.func5, Tryd.ntmps5
    go_wp2_with (go_at_call 8; refine (alive_any _ hE).mono ?_; rintro e w1 ⟨rfl, hb1⟩)
    go_ret
    exact ⟨rfl, hb1⟩
  by_cases ht0 : top < 0
  · go_enter Tryd.func5, Tryd.ntmps5
    go_wp2_with (go_at_call 8; refine (alive_any _ hE).mono ?_; rintro e w1 ⟨rfl, hb1⟩)
    go_ret
    exact ⟨rfl, hb1⟩
  have hs2 : s.size ≤ 100000 := by omega
  have HNl := hide (nsL_len s least most top)
  go_enter Tryd.func5, Tryd.ntmps5
  go_wp2_with (go_at_call 8; refine (alive_any _ hE).mono ?_; rintro e w1 ⟨rfl, hb1⟩)
  obtain ⟨l, hl, c1, c2⟩ := words_both s w1 hs2 (hM.below hb1)
  have C2 := hide c2
  clear c2
  refine c1.mono ?_
  rintro e w2 ⟨va, rfl, ha, hb2⟩
  have HB2 := hide (hb1.trans (hb2.mono hb1.size))
  have HA := hide ha
  clear c1 ha hb1 hb2
  go_wp2_with fail
  refine (C2.out _).mono ?_
  rintro e w3 ⟨vb, rfl, hb, hb3⟩
  have HA3 := hide (HA.out.below hb3)
  have HS3 := hide hb
  have HB3 := hide (HB2.out.trans (hb3.mono HB2.out.size))
  clear hb hb3 C2 HA
  go_wp2_with fail
  refine (numbers_any s least most top _ hs2 (hM.below HB3.out) (hE.below HB3.out) ht).mono ?_
  rintro e w4 ⟨vl, rfl, hl4, hb4⟩
  have HL4 := hide hl4
  have HA4 := hide (HA3.out.below hb4)
  have HS4 := hide (HS3.out.below hb4)
  have HB4 := hide (HB3.out.trans (hb4.mono HB3.out.size))
  clear hl4 hb4
  go_wp2_with fail
  refine (refNumbers_any s least most top _ hs2 ht (by omega)).mono ?_
  rintro e w5 ⟨vm, rfl, hm5, hb5⟩
  have HSame := hide (fun w' (h : Below w5.heap.size w5 w') => sameInts_any vl vm _ w' (by have := HNl.out; omega) ((HL4.out.below hb5).below h) (hm5.below h))
  have HA5 := HA4.out.below hb5
  have HS5 := HS4.out.below hb5
  have HB5 := hide (HB4.out.trans (hb5.mono HB4.out.size))
  clear hm5 hb5 HL4 HA4 HS4 HB4 HA3 HS3 HB3 HB2 HNl hE hM
  generalize nsE s least most top = E at *
  generalize okW s = ok at *
  obtain ⟨a, ca, rfl, ha⟩ := HA5
  obtain ⟨b, cb, rfl, hb⟩ := HS5
  by_cases hempty : l = []
  · subst hempty
    clear ha hb
    cases ok
    all_goals
      go_wp2
      go_loop [18] (fun i => i = .int .i64 0) (fun _ => 0)
      case atStart => rfl
      case round =>
        subst hrel
        go_wp2_with (first | (go_at_call 18; refine (HSame.out _ (Below.refl _ _)).mono ?_; rintro e w6 ⟨rfl, hb6⟩) | (go_at_call 11; refine (num_any _ _).mono ?_; rintro e w' ⟨rfl, rfl⟩))
        go_ret
        exact ⟨rfl, HB5.out.trans (hb6.mono HB5.out.size)⟩
  · obtain ⟨a1, o1, rfl, hca⟩ := ha.resolve_left hempty
    obtain ⟨a2, o2, rfl, hcb⟩ := hb.resolve_left hempty
    have HA := hide hca
    have HB := hide hcb
    clear ha hb hca hcb hempty
    obtain ⟨n, hn⟩ : ∃ n, n = l.length := ⟨_, rfl⟩
    rw [← hn] at hl HA HB ⊢
    cases ok
    all_goals
      go_wp2
      go_loopw [18] (fun i wr => ∃ k : Nat, k ≤ n ∧ i = .int .i64 k ∧ ∃ q, wr = w5.drewN q) (fun i _ => n - (intOf i).toNat)
      case atStart => exact ⟨0, Nat.zero_le _, rfl, 0, rfl⟩
      case round =>
        obtain ⟨k, hk, rfl, q, rfl⟩ := hrel
        by_cases hlt : k < n
        · have c1 := HA.out k hlt
          have c2 := HB.out k hlt
          generalize l.getD k ByteArray.empty = x at c1 c2
          go_wp2
          go_quiet (fail)
          go_wp2
          go_roundw
          case rel => exact ⟨k + 1, by omega, by go_num, _, rfl⟩
          case measure => simp [intOf]; omega
        · have hd : Below w5.heap.size w5 (w5.drewN q) := ⟨rfl, rfl, rfl, Nat.le_refl _, fun _ _ => rfl⟩
          go_wp2_with (first | (go_at_call 18; refine (HSame.out _ hd).mono ?_; rintro e w6 ⟨rfl, hb6⟩) | (go_at_call 11; refine (num_any _ _).mono ?_; rintro e w' ⟨rfl, rfl⟩))
          go_ret
          exact ⟨rfl, HB5.out.trans ((hd.trans hb6).mono HB5.out.size)⟩
end Go.Proofs.YtgmmbgbnpblapaaDoor
