/-
  THE WALKS of layer 1: num, isDecimal.
-/
import Derived.Test.YtimpddokepbabaaGreatDoorBase
import Derived.Test.YtimpddokepbabaaGreatDoorPlain
import Derived.WalkKit
import Derived.WalkSpells
import Derived.WalkLawsBesides
namespace Go.Proofs.YtimpddokepbabaaGreatDoor
open Go.RowKit


theorem emp_iff (s : ByteArray) : s.toList.isEmpty = decide (s.size = 0) := by
  rw [ByteArray.toList_eq, Bool.eq_iff_iff]
  simp [← ByteArray.size_data]

theorem isDec_nil (s : ByteArray) (h : s.size = 0) : isDec s.data.toList = false := by
  have : s.data.toList = [] := by
    apply List.eq_nil_of_length_eq_zero
    simpa using h
  rw [this]; rfl

theorem getD_zero (s : ByteArray) (h : 0 < s.size) : s.data.toList.getD 0 0 = s[0] := by
  have h' : 0 < s.data.toList.length := by simpa using h
  rw [List.getD_eq_getElem?_getD, List.getElem?_eq_getElem h', Option.getD_some]; rfl

theorem isDec_zero (s : ByteArray) (h : 1 < s.size) (h0 : ((s[0].toNat : Int) == 48) = true) : isDec s.data.toList = false := by
  unfold isDec
  rw [getD_zero s (by omega)]
  have e : s[0] = 48 := by
    apply UInt8.toNat_inj.1
    have := eq_of_beq h0
    have e48 : (48 : UInt8).toNat = 48 := rfl
    omega
  rw [e]
  simp [h]

theorem isDec_rest (s : ByteArray) (h : 0 < s.size) (h0 : s.size ≤ 1 ∨ ((s[0].toNat : Int) == 48) = false) : isDec s.data.toList = s.data.toList.all dig := by
  unfold isDec
  rw [getD_zero s h]
  have hne : s.data.toList.isEmpty = false := by
    rw [← ByteArray.toList_eq, emp_iff]
    exact decide_eq_false (by omega)
  rw [hne]
  rcases h0 with h0 | h0
  · have : decide (1 < s.data.toList.length) = false := decide_eq_false (by rw [Array.length_toList]; exact Nat.not_lt.2 h0)
    rw [this]
    simp
  · have : (s[0] == 48) = false := by
      rw [beq_eq_false_iff_ne] at h0 ⊢
      intro e; apply h0; rw [e]; rfl
    simp [this]

theorem dig_iff (c : UInt8) : dig c = true ↔ (48 ≤ (c.toNat : Int) ∧ (c.toNat : Int) ≤ 57) := by
  simp only [dig, Bool.and_eq_true, decide_eq_true_eq]; omega

theorem all_false (s : ByteArray) (k : Nat) (h : k < s.size) (hd : dig s[k] = false) : s.data.toList.all dig = false := by
  rw [List.all_eq_false]
  exact ⟨s[k], by have := List.getElem_mem (l := s.data.toList) (n := k) (by simpa using h); exact this, by simp [hd]⟩

set_option maxHeartbeats 400000 in
theorem isDecimal_any (s : ByteArray) (w : World) (hs : s.size ≤ maxLen) :
    Calls Tryz.prog 117 #[.string s] w fun e w' => e = .returned (.bool (isDec s.data.toList)) ∧ w' = w := by
  unfold maxLen at hs
  have he := emp_iff s
  by_cases hz : s.size = 0
  · rw [isDec_nil s hz]
    have he : s.toList.isEmpty = true := by rw [he]; simp [hz]
    go_enter Tryz.func117, Tryz.ntmps117
    go_wp2
    go_ret
    exact ⟨rfl, rfl⟩
  have hp : 0 < s.size := by omega
  have he : s.toList.isEmpty = false := by rw [he]; simp [hz]
  by_cases h0 : 1 < s.size ∧ ((s[0].toNat : Int) == 48) = true
  · obtain ⟨h1, h0⟩ := h0
    rw [isDec_zero s h1 h0]
    go_enter Tryz.func117, Tryz.ntmps117
    go_wp2
    go_ret
    exact ⟨rfl, rfl⟩
  have h0' : s.size ≤ 1 ∨ ((s[0].toNat : Int) == 48) = false := by
    by_cases h1 : 1 < s.size
    · right
      cases hc : ((s[0].toNat : Int) == 48)
      · rfl
      · exact absurd ⟨h1, hc⟩ h0
    · left; omega
  have hr := isDec_rest s hp h0'
  generalize isDec s.data.toList = r at hr ⊢
  have HR := hide hr
  clear h0 hr
  rcases h0' with h1 | h1
  all_goals
    go_enter Tryz.func117, Tryz.ntmps117
    go_wp2
    all_goals
      go_loop [18] (fun i => ∃ k : Nat, k ≤ s.size ∧ i = .int .i64 k ∧ Hid ((s.data.toList.take k).all dig = true)) (fun i => s.size - (intOf i).toNat)
      case atStart => exact ⟨0, Nat.zero_le _, rfl, rfl⟩
      case round =>
        obtain ⟨k, hk, rfl, HD⟩ := hrel
        by_cases hlt : k < s.size
        · have HS := hide (all_snoc s k hlt)
          have HF := hide (all_false s k hlt)
          have HI := hide (dig_iff s[k])
          go_wp2
          · go_ret
            have hd : dig s[k] = false := Bool.eq_false_iff.2 (fun e => by have := HI.out.1 e; omega)
            exact ⟨ret_bool (HR.out.trans (HF.out hd)).symm, rfl⟩
          · go_round
            case rel => exact ⟨k + 1, by omega, by go_num, HS.out.trans (by rw [HD.out, HI.out.2 (by assumption)]; rfl)⟩
            case measure => simp [intOf]; omega
          · go_ret
            have hd : dig s[k] = false := Bool.eq_false_iff.2 (fun e => by have := HI.out.1 e; omega)
            exact ⟨ret_bool (HR.out.trans (HF.out hd)).symm, rfl⟩
        · go_wp2
          go_ret
          have hall : s.data.toList.all dig = true := by
            have h2 := HD.out
            rw [List.take_of_length_le (by rw [Array.length_toList]; exact Nat.not_lt.1 hlt)] at h2
            exact h2
          exact ⟨ret_bool (HR.out.trans hall).symm, rfl⟩
end Go.Proofs.YtimpddokepbabaaGreatDoor
