/-
  THE WALK of the reference's Number.
-/
import Derived.Test.YtimpddokepbabaaGreatDoorNumber
namespace Go.Proofs.YtimpddokepbabaaGreatDoor
open Go.RowKit

theorem dig_at (s : ByteArray) (k : Nat) (h : k < s.size) (hall : s.data.toList.all dig = true) : 48 ≤ (s[k].toNat : Int) ∧ (s[k].toNat : Int) ≤ 57 := by
  rw [List.all_eq_true] at hall
  exact (dig_iff _).1 (hall s[k] (by have := List.getElem_mem (l := s.data.toList) (n := k) (by simpa using h); exact this))

theorem val_at (s : ByteArray) (k : Nat) (h : k < s.size) (hd : 48 ≤ (s[k].toNat : Int)) : (val 0 (s.data.toList.take (k + 1)) : Int) = val 0 (s.data.toList.take k) * 10 + (s[k].toNat - 48) := by
  rw [val_snoc s k h]
  omega

theorem take_all (s : ByteArray) (k : Nat) (h : ¬ k < s.size) : s.data.toList.take k = s.data.toList :=
  List.take_of_length_le (by rw [Array.length_toList]; exact Nat.not_lt.1 h)

set_option maxHeartbeats 400000 in
/-- Ahead of the loops: what is no decimal number at its first look. -/
theorem refNumber_no (s : ByteArray) (most : Int) (w : World) (hs : s.size ≤ 9223372036854775807) (h : s.size = 0 ∨ (1 < s.size ∧ ∃ h0 : 0 < s.size, ((s[0].toNat : Int) == 48) = true)) :
    Calls Tryz.prog 83 #[.string s, .int .i64 most] w fun e w' => e = .returned (.tuple #[.int .i64 0, .int .i64 2]) ∧ w' = w := by
  have he := emp_iff s
  rcases h with hz | ⟨h1, h0, hc⟩
  · have he : s.toList.isEmpty = true := by rw [he]; simp [hz]
    go_enter Tryz.func83, Tryz.ntmps83
    go_wp2
    go_ret2
    exact ⟨rfl, rfl⟩
  · have he : s.toList.isEmpty = false := by rw [he]; exact decide_eq_false (by omega)
    go_enter Tryz.func83, Tryz.ntmps83
    go_wp2
    all_goals
      go_ret2
      exact ⟨rfl, rfl⟩

theorem ret_two {a a' b b' : Int} (h : a = a') (k : b = b') : Ending.returned (.tuple #[.int .i64 a, .int .i64 b]) = .returned (.tuple #[.int .i64 a', .int .i64 b']) := by rw [h, k]

set_option maxHeartbeats 1000000 in
theorem refNumber_yes (s : ByteArray) (most : Int) (w : World) (hs : s.size ≤ 9223372036854775806) (hm : most ≤ 9223372036854775807) (hm0 : 0 ≤ most) (hp : 0 < s.size) (h0 : s.size ≤ 1 ∨ ((s[0].toNat : Int) == 48) = false) :
    Calls Tryz.prog 83 #[.string s, .int .i64 most] w fun e w' => e = .returned (.tuple #[.int .i64 (numV s.data.toList most), .int .i64 (numE s.data.toList most)]) ∧ w' = w := by
  have he : s.toList.isEmpty = false := by rw [emp_iff]; exact decide_eq_false (by omega)
  have hr := isDec_rest s hp h0
  have HR := hide hr
  have HNo := hide (fun h => (⟨numV_no h, numE_no h⟩ : numV s.data.toList most = 0 ∧ numE s.data.toList most = 2))
  have HBig := hide (fun h k => (⟨numV_big k, numE_big h k⟩ : numV s.data.toList most = 0 ∧ numE s.data.toList most = 3))
  have HOk := hide (fun h k => (⟨numV_ok h k, numE_ok h k⟩ : numV s.data.toList most = val 0 s.data.toList ∧ numE s.data.toList most = 0))
  generalize numV s.data.toList most = V at HNo HBig HOk ⊢
  generalize numE s.data.toList most = E at HNo HBig HOk ⊢
  clear hr
  rcases h0 with h1 | h1
  all_goals
    go_enter Tryz.func83, Tryz.ntmps83
    go_wp2
    all_goals
      go_loop [6] (fun i => ∃ k : Nat, k ≤ s.size ∧ i = .int .i64 k ∧ Hid ((s.data.toList.take k).all dig = true)) (fun i => s.size - (intOf i).toNat)
      case atStart => exact ⟨0, Nat.zero_le _, rfl, rfl⟩
      case round =>
        obtain ⟨k, hk, rfl, HD⟩ := hrel
        by_cases hlt : k < s.size
        · have HS := hide (all_snoc s k hlt)
          have HF := hide (all_false s k hlt)
          have HI := hide (dig_iff s[k])
          go_wp2
          · go_ret2
            have hd : dig s[k] = false := Bool.eq_false_iff.2 (fun e => by have := HI.out.1 e; omega)
            have hn := HNo.out (HR.out.trans (HF.out hd))
            exact ⟨ret_two hn.1.symm hn.2.symm, rfl⟩
          · go_round
            case rel => exact ⟨k + 1, by omega, by go_num, HS.out.trans (by rw [HD.out, HI.out.2 (by assumption)]; rfl)⟩
            case measure => simp [intOf]; omega
          · go_ret2
            have hd : dig s[k] = false := Bool.eq_false_iff.2 (fun e => by have := HI.out.1 e; omega)
            have hn := HNo.out (HR.out.trans (HF.out hd))
            exact ⟨ret_two hn.1.symm hn.2.symm, rfl⟩
        · have HA : Hid (s.data.toList.all dig = true) := by
            have h2 := HD.out
            rw [take_all s k hlt] at h2
            exact h2
          clear HD
          go_wp2
          go_loop [7, 8] (fun n i => ∃ j v : Nat, j ≤ s.size ∧ i = .int .i64 j ∧ n = .int .i64 v ∧ (v : Int) ≤ most ∧ Hid (v = val 0 (s.data.toList.take j))) (fun _ i => s.size - (intOf i).toNat)
          case atStart => exact ⟨0, 0, Nat.zero_le _, rfl, rfl, by omega, rfl⟩
          case round =>
            obtain ⟨j, v, hj, rfl, rfl, hv, HV⟩ := hrel
            by_cases hlj : j < s.size
            · obtain ⟨c1, c2⟩ := dig_at s j hlj HA.out
              have HN := hide (val_at s j hlj c1)
              have HT := hide (val_take s.data.toList (j + 1))
              by_cases hmd : most < (s[j].toNat : Int) - 48
              · go_wp2
                all_goals
                  go_ret2
                  have hn := HBig.out (HR.out.trans HA.out) (by have e1 := HN.out; have e2 := HT.out; have e3 := HV.out; omega)
                  exact ⟨ret_two hn.1.symm hn.2.symm, rfl⟩
              · go_wp2
                · go_round
                  case rel => exact ⟨j + 1, v * 10 + (s[j].toNat - 48), by omega, by go_num, congrArg (Value.int .i64) (by omega), by omega, by have e1 := HN.out; have e3 := HV.out; show v * 10 + (s[j].toNat - 48) = _; omega⟩
                  case measure => simp [intOf]; omega
                · go_ret2
                  have hn := HBig.out (HR.out.trans HA.out) (by have e1 := HN.out; have e2 := HT.out; have e3 := HV.out; omega)
                  exact ⟨ret_two hn.1.symm hn.2.symm, rfl⟩
            · have HV2 : Hid (v = val 0 s.data.toList) := by
                have h2 := HV.out
                rw [take_all s j hlj] at h2
                exact h2
              clear HV
              go_wp2
              go_ret2
              have hn := HOk.out (HR.out.trans HA.out) (by have e3 := HV2.out; omega)
              exact ⟨ret_two (by rw [hn.1]; have e3 := HV2.out; omega) hn.2.symm, rfl⟩

theorem refNumber_any (s : ByteArray) (most : Int) (w : World) (hs : s.size ≤ 9223372036854775806) (hm : most ≤ 9223372036854775807) (hm0 : 0 ≤ most) :
    Calls Tryz.prog 83 #[.string s, .int .i64 most] w fun e w' => e = .returned (.tuple #[.int .i64 (numV s.data.toList most), .int .i64 (numE s.data.toList most)]) ∧ w' = w := by
  by_cases hz : s.size = 0
  · have hd := isDec_nil s hz
    rw [numV_no hd, numE_no hd]
    exact refNumber_no s most w (by omega) (.inl hz)
  · have hp : 0 < s.size := by omega
    by_cases h0 : s.size ≤ 1 ∨ ((s[0].toNat : Int) == 48) = false
    · exact refNumber_yes s most w hs hm hm0 hp h0
    · have h1 : 1 < s.size := by omega
      have h2 : ((s[0].toNat : Int) == 48) = true := by
        cases hc : ((s[0].toNat : Int) == 48)
        · exact absurd (.inr hc) h0
        · rfl
      have hd := isDec_zero s h1 h2
      rw [numV_no hd, numE_no hd]
      exact refNumber_no s most w (by omega) (.inr ⟨h1, hp, h2⟩)
end Go.Proofs.YtimpddokepbabaaGreatDoor
