/-
  THE WALK of the reference's Header.
-/
import Derived.Test.YtikjbbebfjleaaaGreatDoorRd2
import Derived.Test.YtikjbbebfjleaaaGreatDoorJ32
import Derived.Deep.LoopGhost
namespace Go.Proofs.YtikjbbebfjleaaaGreatDoor
open Go.RowKit

theorem zeros_snoc (L : List Int) (l k : Nat) (hk : l ≤ k) : (L ++ List.replicate (k + 1 - l) 0).map (Value.int .i64) = (L ++ List.replicate (k - l) 0).map (Value.int .i64) ++ [.int .i64 0] := by
  rw [show k + 1 - l = (k - l) + 1 by omega, List.replicate_succ', ← List.append_assoc, List.map_append]
  rfl
theorem long_cases (y0 y1 y2 y3 y4 y5 y6 : Int) : (decide (64 < y1) || (decide (64 < y2) || (decide (64 < y3) || (decide (64 < y5) || (decide (64 < y6) || (decide (5000 < y0) || decide (2000 < y4))))))) = true ↔ (5000 < y0 ∨ 64 < y1 ∨ 64 < y2 ∨ 64 < y3 ∨ 64 < y5 ∨ 64 < y6 ∨ 2000 < y4) := by
  simp only [Bool.or_eq_true, decide_eq_true_eq]
  omega

set_option maxRecDepth 100000 in
set_option maxHeartbeats 2000000 in
theorem refHeader_any (s : ByteArray) (w : World) (hs : s.size ≤ 100000) :
    Calls Tryz.prog 17 #[.string s] w fun e w' => ∃ v, e = .returned (.tuple #[v, .int .i64 (hdrE s)]) ∧ OwnI w.heap.size w' v (hdrL s) ∧ Below w.heap.size w w' := by
  obtain ⟨i0, hi, hz0, hz1, hz2⟩ := info_parts infoInt
  have HN := hide (refNumbers_any s 5 9 2147483647 w hs (by omega) (by omega))
  unfold NumsPost at HN
  have hl9 := hdr9_len s
  have hle : (nsL s 5 9 2147483647).length ≤ 9 := nsL_le s 5 9 2147483647
  have HB : Hid (∀ w', Below w.heap.size w w' → ¬ hdrE s = 0 → OwnI w.heap.size w' (.slice none 0 0) (hdrL s) ∧ Below w.heap.size w w') := fun w' hb hne => ⟨by rw [hdrL, if_neg hne]; exact OwnI.nil _ _, hb⟩
  by_cases hE0 : nsE s 5 9 2147483647 = 0
  · have e1 : hdrE s = if (hdr9 s).getD 7 0 ≠ 0 ∨ (hdr9 s).getD 8 0 ≠ 0 then 2 else if hdrLong (hdr9 s) = true then 3 else 0 := by rw [hdrE, if_pos hE0]
    have e2 : hdr9 s = nsL s 5 9 2147483647 ++ List.replicate (9 - (nsL s 5 9 2147483647).length) 0 := rfl
    have HG : Hid (∀ v w', hdrE s = 0 → OwnI w.heap.size w' v (hdr9 s) → Below w.heap.size w w' → OwnI w.heap.size w' v (hdrL s) ∧ Below w.heap.size w w') := fun v w' h0 ho hb => ⟨by rw [hdrL, if_pos h0]; exact ho, hb⟩
    rw [hE0] at HN
    rw [e1] at HB HG ⊢
    have HE2 := hide e2
    have hlc := long_cases ((hdr9 s).getD 0 0) ((hdr9 s).getD 1 0) ((hdr9 s).getD 2 0) ((hdr9 s).getD 3 0) ((hdr9 s).getD 4 0) ((hdr9 s).getD 5 0) ((hdr9 s).getD 6 0)
    rw [show (decide (64 < (hdr9 s).getD 1 0) || (decide (64 < (hdr9 s).getD 2 0) || (decide (64 < (hdr9 s).getD 3 0) || (decide (64 < (hdr9 s).getD 5 0) || (decide (64 < (hdr9 s).getD 6 0) || (decide (5000 < (hdr9 s).getD 0 0) || decide (2000 < (hdr9 s).getD 4 0))))))) = hdrLong (hdr9 s) from rfl] at hlc
    generalize hdrL s = HLs at *
    generalize nsL s 5 9 2147483647 = L at *
    generalize hdr9 s = H at *
    obtain ⟨l, hl⟩ : ∃ l, l = L.length := ⟨_, rfl⟩
    have HLen := hide hl
    rw [← hl] at hle
    have HL9 := hide hl9
    obtain ⟨y0, h0⟩ : ∃ x, x = H.getD 0 0 := ⟨_, rfl⟩
    obtain ⟨y1, h1⟩ : ∃ x, x = H.getD 1 0 := ⟨_, rfl⟩
    obtain ⟨y2, h2⟩ : ∃ x, x = H.getD 2 0 := ⟨_, rfl⟩
    obtain ⟨y3, h3⟩ : ∃ x, x = H.getD 3 0 := ⟨_, rfl⟩
    obtain ⟨y4, h4⟩ : ∃ x, x = H.getD 4 0 := ⟨_, rfl⟩
    obtain ⟨y5, h5⟩ : ∃ x, x = H.getD 5 0 := ⟨_, rfl⟩
    obtain ⟨y6, h6⟩ : ∃ x, x = H.getD 6 0 := ⟨_, rfl⟩
    obtain ⟨y7, h7⟩ : ∃ x, x = H.getD 7 0 := ⟨_, rfl⟩
    obtain ⟨y8, h8⟩ : ∃ x, x = H.getD 8 0 := ⟨_, rfl⟩
    rw [← h7, ← h8] at HB HG ⊢
    rw [← h0, ← h1, ← h2, ← h3, ← h4, ← h5, ← h6] at hlc
    have HX := hide (And.intro h0 (And.intro h1 (And.intro h2 (And.intro h3 (And.intro h4 (And.intro h5 (And.intro h6 (And.intro h7 h8))))))))
    generalize hdrLong H = lg at *
    clear hE0 e1 e2 hl hl9 h0 h1 h2 h3 h4 h5 h6 h7 h8
    generalize hP : (fun (e : Ending) (w' : World) => ∃ v, e = .returned (.tuple #[v, .int .i64 (if y7 ≠ 0 ∨ y8 ≠ 0 then 2 else if lg = true then 3 else 0)]) ∧ OwnI w.heap.size w' v HLs ∧ Below w.heap.size w w') = Post
    have F2 : Hid (y7 ≠ 0 ∨ y8 ≠ 0 → ∀ w', Below w.heap.size w w' → Post (.returned (.tuple #[.slice none 0 0, .int .i64 2])) w') := fun hy w' hb => by
      rw [← hP]; exact ⟨_, by rw [if_pos hy], HB.out w' hb (by rw [if_pos hy]; decide)⟩
    have F3 : Hid (¬ (y7 ≠ 0 ∨ y8 ≠ 0) → lg = true → ∀ w', Below w.heap.size w w' → Post (.returned (.tuple #[.slice none 0 0, .int .i64 3])) w') := fun hy hlg w' hb => by
      rw [← hP]; exact ⟨_, by rw [if_neg hy, if_pos hlg], HB.out w' hb (by rw [if_neg hy, if_pos hlg]; decide)⟩
    have F0 : Hid (¬ (y7 ≠ 0 ∨ y8 ≠ 0) → ¬ lg = true → ∀ v w', OwnI w.heap.size w' v H → Below w.heap.size w w' → Post (.returned (.tuple #[v, .int .i64 0])) w') := fun hy hlg v w' ho hb => by
      rw [← hP]; exact ⟨_, by rw [if_neg hy, if_neg hlg], HG.out v w' (by rw [if_neg hy, if_neg hlg]) ho hb⟩
    clear hP HB HG
    go_enter Tryz.func17, Tryz.ntmps17
    go_wp2_with (first | (go_at_call 46; refine HN.out.mono ?_; rintro e w1 ⟨v, rfl, ho, hb⟩; have HB1 := hide hb; have ho' : w1.ownsRow w.heap.size 3 1 v l (L.map (Value.int .i64)) := (by rw [HLen.out]; exact ho); obtain ⟨va, vc, rfl⟩ := own_is ho'; have O1 := hide ho'; clear ho ho' hb))
    go_loopg [4] (9 - l) (fun kx o wr => ∃ k : Nat, kx = 9 - k ∧ l ≤ k ∧ k ≤ 9 ∧ Hid (wr.ownsRow w.heap.size 3 1 o k ((L ++ List.replicate (k - l) 0).map (Value.int .i64))) ∧ Hid (Below w.heap.size w wr))
    case atStart => exact ⟨l, rfl, Nat.le_refl _, hle, by rw [Nat.sub_self, List.replicate_zero, List.append_nil]; exact O1, HB1⟩
    case round =>
      obtain ⟨k, rfl, hlk, hk9, HO, HBr⟩ := hrel
      obtain ⟨ka, kc, hvf⟩ := own_is HO.out
      subst hvf
      clear O1 HB1
      by_cases hk : k < 9
      · have hs9 := HBr.out.size
        have HZ := hide (zeros_snoc L l k hlk)
        go_wp2_with (first | (at_builtin; refine wpList_append_rowC _ rfl (.tmp 17) (.tmp 18) 24 rfl w.heap.size 3 i0 (.int .i64 0) 1 8 Tryz.underlying24 hi hz0 hz1 hz2 rfl (by decide) (.slice ka k kc) k ((L ++ List.replicate (k - l) 0).map (Value.int .i64)) rfl (HO.out.alloc _) (some ⟨wr.heap.size, 0, none⟩) 1 1 [.int .i64 0] rfl rfl (cells_one_at _ _) (fun e => by cases e) (fun u hu => by simp at hu; subst hu; rfl) (by unfold maxLen; omega) (by omega) (by simp; omega) ?_; intro v4 w4 hown4 hg4; rw [← HZ.out] at hown4; have HO4 := hide hown4; have HB4 := hide ((belowThen HBr.out (below_alloc wr (.cells #[.int .i64 0] 3))).grown hg4 (by simp; omega) (fun q hq => (HO.out.lt q hq).1)); clear hown4 hg4))
        go_roundg (9 - (k + 1))
        case measure => omega
        case rel => exact ⟨k + 1, rfl, by omega, by omega, HO4, HB4⟩
      · obtain rfl : k = 9 := by omega
        have hO : OwnI w.heap.size wr (.slice ka 9 kc) H := by
          unfold OwnI
          rw [HL9.out, HE2.out, ← HLen.out]
          exact HO.out
        obtain ⟨hg, cap, ee, hc, -⟩ := ownI_at hO HL9.out (by omega)
        cases ee
        have c0 := hc 0 (by omega)
        have c1 := hc 1 (by omega)
        have c2 := hc 2 (by omega)
        have c3 := hc 3 (by omega)
        have c4 := hc 4 (by omega)
        have c5 := hc 5 (by omega)
        have c6 := hc 6 (by omega)
        have c7 := hc 7 (by omega)
        have c8 := hc 8 (by omega)
        rw [← HX.out.1] at c0
        rw [← HX.out.2.1] at c1
        rw [← HX.out.2.2.1] at c2
        rw [← HX.out.2.2.2.1] at c3
        rw [← HX.out.2.2.2.2.1] at c4
        rw [← HX.out.2.2.2.2.2.1] at c5
        rw [← HX.out.2.2.2.2.2.2.1] at c6
        rw [← HX.out.2.2.2.2.2.2.2.1] at c7
        rw [← HX.out.2.2.2.2.2.2.2.2] at c8
        have HOI := hide hO
        have HLC := hide hlc
        clear hc hO hlc HO HX
        by_cases h7 : y7 = 0
        · by_cases h8 : y8 = 0
          · have hno : ¬ (y7 ≠ 0 ∨ y8 ≠ 0) := by omega
            have HNo := hide hno
            subst h7
            subst h8
            clear hno
            by_cases g0 : 5000 < y0
            · go_wp2
              exact F3.out HNo.out (HLC.out.2 (by omega)) _ HBr.out
            by_cases g1 : 64 < y1
            · go_wp2
              exact F3.out HNo.out (HLC.out.2 (by omega)) _ HBr.out
            by_cases g2 : 64 < y2
            · go_wp2
              exact F3.out HNo.out (HLC.out.2 (by omega)) _ HBr.out
            by_cases g3 : 64 < y3
            · go_wp2
              exact F3.out HNo.out (HLC.out.2 (by omega)) _ HBr.out
            by_cases g5 : 64 < y5
            · go_wp2
              exact F3.out HNo.out (HLC.out.2 (by omega)) _ HBr.out
            by_cases g6 : 64 < y6
            · go_wp2
              exact F3.out HNo.out (HLC.out.2 (by omega)) _ HBr.out
            by_cases g4 : 2000 < y4
            · go_wp2
              exact F3.out HNo.out (HLC.out.2 (by omega)) _ HBr.out
            · have HNl : Hid (¬ lg = true) := fun e => by have := HLC.out.1 e; omega
              go_wp2
              exact F0.out HNo.out HNl.out _ _ HOI.out HBr.out
          · subst h7
            have hE1 : (y8 == 0) = false := by rw [beq_eq_false_iff_ne]; exact h8
            have hE2 : (y8 != 0) = true := by rw [bne, hE1]; rfl
            have HN8 := hide h8
            clear h8
            go_wp2
            exact F2.out (.inr HN8.out) _ HBr.out
        · have hE1 : (y7 == 0) = false := by rw [beq_eq_false_iff_ne]; exact h7
          have hE2 : (y7 != 0) = true := by rw [bne, hE1]; rfl
          have HN7 := hide h7
          clear h7
          go_wp2
          exact F2.out (.inl HN7.out) _ HBr.out
  · have e1 : hdrE s = nsE s 5 9 2147483647 := by rw [hdrE, if_neg hE0]
    rw [e1] at HB ⊢
    generalize hdrL s = HLs at *
    generalize nsE s 5 9 2147483647 = E at *
    generalize nsL s 5 9 2147483647 = L at *
    have hE1 : (E == 0) = false := by rw [beq_eq_false_iff_ne]; exact hE0
    have hE2 : (E != 0) = true := by rw [bne, hE1]; rfl
    clear hl9 e1 hle
    go_enter Tryz.func17, Tryz.ntmps17
    go_wp2_with (first | (go_at_call 46; refine HN.out.mono ?_; rintro e w1 ⟨v, rfl, ho, hb⟩))
    go_ret2
    exact ⟨_, rfl, HB.out _ hb hE0⟩
end Go.Proofs.YtikjbbebfjleaaaGreatDoor
