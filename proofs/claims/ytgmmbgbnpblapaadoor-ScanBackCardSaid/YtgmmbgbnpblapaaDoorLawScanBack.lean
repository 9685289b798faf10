/-
  THE WALKS of the reference's Dec and of the law ScanBack.
-/
import Derived.Test.YtgmmbgbnpblapaaDoorNumber
import Derived.Test.YtgmmbgbnpblapaaDoorDecPlain
namespace Go.Proofs.YtgmmbgbnpblapaaDoor
open Go.RowKit

/-- The text of a number. -/
def decS (n : Nat) : ByteArray := ⟨(decF 18 n).toArray⟩

theorem cut_at (k : Nat) (h : k < 10) : (⟨#[48, 49, 50, 51, 52, 53, 54, 55, 56, 57]⟩ : ByteArray).extract k (k + 1) = ⟨#[dg k]⟩ := by
  have : k = 0 ∨ k = 1 ∨ k = 2 ∨ k = 3 ∨ k = 4 ∨ k = 5 ∨ k = 6 ∨ k = 7 ∨ k = 8 ∨ k = 9 := by omega
  rcases this with rfl | rfl | rfl | rfl | rfl | rfl | rfl | rfl | rfl | rfl <;> decide

theorem cut_dg (n : Int) (h : 0 ≤ n) : (⟨#[48, 49, 50, 51, 52, 53, 54, 55, 56, 57]⟩ : ByteArray).extract (n % 10).toNat (n % 10 + 1).toNat = ⟨#[dg (n.toNat % 10)]⟩ := by
  have e1 : (n % 10).toNat = n.toNat % 10 := by omega
  have e2 : (n % 10 + 1).toNat = n.toNat % 10 + 1 := by omega
  rw [e1, e2]
  exact cut_at _ (by omega)

theorem app_dg (l : List UInt8) (c : UInt8) : (⟨l.toArray⟩ : ByteArray) ++ (⟨#[c]⟩ : ByteArray) = ⟨(l ++ [c]).toArray⟩ := by
  apply ByteArray.ext
  simp

theorem ret_str {a b : ByteArray} (h : a = b) : Ending.returned (.string a) = .returned (.string b) := by rw [h]

set_option maxHeartbeats 400000 in
theorem dec_any (f : Nat) (hf : f ≤ 18) : ∀ (n : Int) (w : World), 0 ≤ n → n ≤ 9223372036854775807 → n.toNat < 10 ^ (f + 1) →
    Calls Tryd.prog 19 #[.int .i64 n] w fun e w' => e = .returned (.string ⟨(decF f n.toNat).toArray⟩) ∧ w' = w := by
  induction f with
  | zero =>
    intro n w h0 h1 h2
    have h9 : n ≤ 9 := by simp at h2; omega
    go_enter Tryd.func19, Tryd.ntmps19
    go_wp2_with fail
    go_ret
    exact ⟨ret_str ((cut_dg n h0).trans (by rw [decF])), rfl⟩
  | succ f ih =>
    intro n w h0 h1 h2
    by_cases h9 : n ≤ 9
    · go_enter Tryd.func19, Tryd.ntmps19
      go_wp2_with fail
      go_ret
      exact ⟨ret_str ((cut_dg n h0).trans (by rw [decF, if_pos (by omega)])), rfl⟩
    · have h3 : (n / 10).toNat < 10 ^ (f + 1) := by
        rw [Nat.pow_succ] at h2
        omega
      have hl : (decF f (n / 10).toNat).length ≤ 19 := by have := (decF_len f (n / 10).toNat).2; omega
      have IH := hide (ih (by omega) (n / 10) w (by omega) (by omega) h3)
      clear ih
      go_enter Tryd.func19, Tryd.ntmps19
      go_wp2_with (go_at_call 19; refine IH.out.mono ?_; rintro e w' ⟨rfl, rfl⟩)
      go_ret
      exact ⟨ret_str (by rw [cut_dg n h0, app_dg, decF, if_neg (by omega), show (n / 10).toNat = n.toNat / 10 from by omega]), rfl⟩

theorem pow19 : (10 : Nat) ^ (18 + 1) = 10000000000000000000 := by decide

theorem decS_any (n : Int) (w : World) (h0 : 0 ≤ n) (h1 : n ≤ 9223372036854775807) :
    Calls Tryd.prog 19 #[.int .i64 n] w fun e w' => e = .returned (.string (decS n.toNat)) ∧ w' = w :=
  dec_any 18 (by decide) n w h0 h1 (by rw [pow19]; omega)

theorem decS_size (n : Nat) : (decS n).size ≤ 19 := by
  have := (decF_len 18 n).2
  show (decF 18 n).toArray.size ≤ 19
  simpa using this

theorem decS_list (n : Nat) : (decS n).data.toList = decF 18 n := rfl

theorem back_ok (n : Int) (w : World) (h0 : 0 ≤ n) (h1 : n ≤ 9223372036854775807) (hE : Env w) :
    Calls Tryd.prog 12 #[.string (decS n.toNat), .int .i64 n] w fun e w' => e = .returned (.tuple #[.int .i64 n, .int .i64 0]) ∧ Below w.heap.size w w' := by
  have h := number_any (decS n.toNat) n w (by have := decS_size n.toNat; omega) h1 hE
  have hp : n.toNat < 10 ^ (18 + 1) := by rw [pow19]; omega
  have hv := decF_val 18 n.toNat hp
  rw [decS_list, numV_ok (decF_isDec 18 _ hp) (by rw [hv]; omega), numE_ok (decF_isDec 18 _ hp) (by rw [hv]; omega), hv, Int.toNat_of_nonneg h0] at h
  exact h

theorem back_big (n : Int) (w : World) (h0 : 0 ≤ n) (h1 : n ≤ 9223372036854775807) (hE : Env w) :
    Calls Tryd.prog 12 #[.string (decS n.toNat), .int .i64 (n - 1)] w fun e w' => e = .returned (.tuple #[.int .i64 0, .int .i64 3]) ∧ Below w.heap.size w w' := by
  have h := number_any (decS n.toNat) (n - 1) w (by have := decS_size n.toNat; omega) (by omega) hE
  have hp : n.toNat < 10 ^ (18 + 1) := by rw [pow19]; omega
  have hv := decF_val 18 n.toNat hp
  rw [decS_list, numV_big (by rw [hv]; omega), numE_big (decF_isDec 18 _ hp) (by rw [hv]; omega)] at h
  exact h

theorem back_zero (n : Int) (w : World) (h1 : n ≤ 9223372036854775807) (hE : Env w) :
    Calls Tryd.prog 12 #[.string (⟨#[48]⟩ ++ decS n.toNat), .int .i64 n] w fun e w' => e = .returned (.tuple #[.int .i64 0, .int .i64 2]) ∧ Below w.heap.size w w' := by
  have e1 : ((⟨#[48]⟩ : ByteArray) ++ decS n.toNat).data.toList = 48 :: decF 18 n.toNat := by
    rw [ByteArray.data_append, Array.toList_append, decS_list]; rfl
  have hsz : ((⟨#[48]⟩ : ByteArray) ++ decS n.toNat).size ≤ 20 := by
    have := decS_size n.toNat
    rw [ByteArray.size_append]
    have e : (⟨#[48]⟩ : ByteArray).size = 1 := rfl
    omega
  have h := number_any (⟨#[48]⟩ ++ decS n.toNat) n w (by omega) h1 hE
  rw [e1, numV_no (zero_isDec 18 _), numE_no (zero_isDec 18 _)] at h
  exact h

set_option maxHeartbeats 400000 in
theorem scanBack_any (n : Int) (w : World) (_h0 : -9223372036854775808 ≤ n) (h1 : n ≤ 9223372036854775807) (hE : Env w) :
    Calls Tryd.prog 6 #[.int .i64 n] w fun e w' => e = .returned (.bool true) ∧ Below w.heap.size w w' := by
  by_cases h0 : n < 0
  · go_enter Tryd.func6, Tryd.ntmps6
    go_wp2_with (go_at_call 8; refine (alive_any _ hE).mono ?_; rintro e w1 ⟨rfl, hb1⟩)
    go_ret
    exact ⟨rfl, hb1⟩
  have hs := decS_size n.toNat
  have HD := hide (fun w => decS_any n w (by omega) h1)
  have H1 := hide (fun w h => back_ok n w (by omega) h1 h)
  have H2 := hide (fun w h => back_zero n w h1 h)
  have H3 := hide (fun w h => back_big n w (by omega) h1 h)
  generalize decS n.toNat = D at hs HD H1 H2 H3
  cases hz : (n == 0)
  all_goals
    go_enter Tryd.func6, Tryd.ntmps6
    go_wp2_with (go_at_call 8; refine (alive_any _ hE).mono ?_; rintro e w1 ⟨rfl, hb1⟩)
    refine (HD.out _).mono ?_
    rintro e w2 ⟨rfl, rfl⟩
    go_wp2_with fail
    refine (H1.out _ (hE.below hb1)).mono ?_
    rintro e w3 ⟨rfl, hb3⟩
    have hb4 := hb1.trans (hb3.mono hb1.size)
    clear hb1 hb3
    go_wp2_with (go_at_call 11; refine (num_any _ _).mono ?_; rintro e w' ⟨rfl, rfl⟩)
    refine (H2.out _ (hE.below hb4)).mono ?_
    rintro e w5 ⟨rfl, hb5⟩
    have hb6 := hb4.trans (hb5.mono hb4.size)
    clear hb4 hb5
    go_wp2_with (go_at_call 11; refine (num_any _ _).mono ?_; rintro e w' ⟨rfl, rfl⟩)
  · refine (H3.out _ (hE.below hb6)).mono ?_
    rintro e w7 ⟨rfl, hb7⟩
    go_wp2_with (go_at_call 11; refine (num_any _ _).mono ?_; rintro e w' ⟨rfl, rfl⟩)
    go_ret
    exact ⟨rfl, hb6.trans (hb7.mono hb6.size)⟩
  · go_ret
    exact ⟨rfl, hb6⟩
end Go.Proofs.YtgmmbgbnpblapaaDoor
