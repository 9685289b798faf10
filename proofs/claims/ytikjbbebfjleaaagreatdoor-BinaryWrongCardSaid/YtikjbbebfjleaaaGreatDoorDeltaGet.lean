/-
  THE WALKS of layer 2: Get (delta's and the reference's).
-/
import Derived.Test.YtikjbbebfjleaaaGreatDoorJ28
namespace Go.Proofs.YtikjbbebfjleaaaGreatDoor
open Go.RowKit

set_option maxHeartbeats 400000 in
theorem get_arg (a : Option Addr) (len cap : Nat) (at_ : Int) (w : World) (h : at_ < 0 ∨ (len : Int) < at_) :
    Calls Tryz.prog 120 #[.slice a len cap, .int .i64 at_] w fun e w' => e = .returned (.tuple #[.int .i64 0, .int .i64 0, .int .i64 1]) ∧ w' = w := by
  rcases h with h | h
  all_goals
    go_enter Tryz.func120, Tryz.ntmps120
    go_wp2
    go_ret3
    exact ⟨rfl, rfl⟩

set_option maxHeartbeats 400000 in
theorem refGet_arg (a : Option Addr) (len cap : Nat) (at_ : Int) (w : World) (h : at_ < 0 ∨ (len : Int) < at_) :
    Calls Tryz.prog 55 #[.slice a len cap, .int .i64 at_] w fun e w' => e = .returned (.tuple #[.int .i64 0, .int .i64 0, .int .i64 1]) ∧ w' = w := by
  rcases h with h | h
  all_goals
    go_enter Tryz.func55, Tryz.ntmps55
    go_wp2
    go_ret3
    exact ⟨rfl, rfl⟩

set_option maxRecDepth 100000 in
set_option maxHeartbeats 400000 in
theorem get_long (a : Option Addr) (len cap k : Nat) (xs : List Int) (w : World) (hr : Row8 w a xs) (hb8 : Bytes8 xs) (hx : xs.length = len) (hl : len ≤ 1073741824) (hh : Long xs k) :
    Calls Tryz.prog 120 #[.slice a len cap, .int .i64 k] w fun e w' => e = .returned (.tuple #[.int .i64 0, .int .i64 0, .int .i64 3]) ∧ w' = w := by
  have hk : k + 5 ≤ len := by have := hh.1; omega
  obtain ⟨b, off, rfl, -, hcell⟩ := hr.addr (by omega)
  have HM := hide hh.2
  have HC := hide hcell
  have HX := hide hx
  have HB := hide hb8
  clear hr hx hcell hb8
  clear hh
  go_enter Tryz.func120, Tryz.ntmps120
  go_wp2
  go_loop [18, 7] (fun i n => ∃ j : Nat, j ≤ 5 ∧ i = .int .i64 j ∧ n = .int .u64 (acc xs k j)) (fun i _ => 5 - (intOf i).toNat)
  case atStart => exact ⟨0, by omega, rfl, rfl⟩
  case round =>
    obtain ⟨j, hj, rfl, rfl⟩ := hrel
    by_cases hlt : j < 5
    · have hc := HC.out (k + j) (by rw [HX.out]; omega)
      have hm := HM.out j hlt
      have h255 := (HB.out _ (getD_mem xs (k + j) (by rw [HX.out]; omega))).2
      have hst := step_u64 (acc xs k j) (xs.getD (k + j) 0) j (by omega) (acc_bd xs k j).1 (acc_bd xs k j).2 (by omega) h255
      obtain ⟨Y, HXX⟩ : ∃ Y, Hid (Y = acc xs k (j + 1)) := ⟨_, rfl⟩
      rw [show acc xs k j + xs.getD (k + j) 0 % 128 * 128 ^ j = Y from HXX.out.symm] at hst
      generalize xs.getD (k + j) 0 = y at hc hm h255 hst
      generalize acc xs k j = x at hst
      have hjl : ((j : Int) == (len : Int) - (k : Int)) = false := by rw [beq_eq_false_iff_ne]; omega
      have hj5 : ((j : Int) == 5) = false := by rw [beq_eq_false_iff_ne]; omega
      go_wp2
      go_round
      case rel => exact ⟨j + 1, by omega, by go_num, by rw [HXX.out]⟩
      case measure => simp [intOf]; omega

    · obtain rfl : j = 5 := by omega
      go_wp2
      all_goals
        go_ret3
        exact ⟨rfl, rfl⟩

set_option maxRecDepth 100000 in
set_option maxHeartbeats 400000 in
theorem refGet_long (a : Option Addr) (len cap k : Nat) (xs : List Int) (w : World) (hr : Row8 w a xs) (hb8 : Bytes8 xs) (hx : xs.length = len) (hl : len ≤ 1073741824) (hh : Long xs k) :
    Calls Tryz.prog 55 #[.slice a len cap, .int .i64 k] w fun e w' => e = .returned (.tuple #[.int .i64 0, .int .i64 0, .int .i64 3]) ∧ w' = w := by
  have hk : k + 5 ≤ len := by have := hh.1; omega
  obtain ⟨b, off, rfl, -, hcell⟩ := hr.addr (by omega)
  have HM := hide hh.2
  have HC := hide hcell
  have HX := hide hx
  have HB := hide hb8
  clear hr hx hcell hb8
  clear hh
  go_enter Tryz.func55, Tryz.ntmps55
  go_wp2
  go_loop [7, 8] (fun n i => ∃ j : Nat, j ≤ 5 ∧ i = .int .i64 j ∧ n = .int .i64 (acc xs k j)) (fun _ i => 5 - (intOf i).toNat)
  case atStart => exact ⟨0, by omega, rfl, rfl⟩
  case round =>
    obtain ⟨j, hj, rfl, rfl⟩ := hrel
    by_cases hlt : j < 5
    · have hc := HC.out (k + j) (by rw [HX.out]; omega)
      have hm := HM.out j hlt
      have h255 := (HB.out _ (getD_mem xs (k + j) (by rw [HX.out]; omega))).2
      have hst := step_i64 (acc xs k j) (xs.getD (k + j) 0) j (by omega) (acc_bd xs k j).1 (acc_bd xs k j).2 (by omega) h255
      obtain ⟨Y, HXX⟩ : ∃ Y, Hid (Y = acc xs k (j + 1)) := ⟨_, rfl⟩
      rw [show acc xs k j + xs.getD (k + j) 0 % 128 * 128 ^ j = Y from HXX.out.symm] at hst
      generalize xs.getD (k + j) 0 = y at hc hm h255 hst
      generalize acc xs k j = x at hst
      have hjl : ((j : Int) == (len : Int) - (k : Int)) = false := by rw [beq_eq_false_iff_ne]; omega
      have hj5 : ((j : Int) == 5) = false := by rw [beq_eq_false_iff_ne]; omega
      go_wp2
      go_round
      case rel => exact ⟨j + 1, by omega, by go_num, by rw [HXX.out]⟩
      case measure => simp [intOf]; omega

    · obtain rfl : j = 5 := by omega
      go_wp2
      all_goals
        go_ret3
        exact ⟨rfl, rfl⟩

set_option maxRecDepth 100000 in
set_option maxHeartbeats 400000 in
theorem get_short (a : Option Addr) (len cap k d : Nat) (xs : List Int) (w : World) (hr : Row8 w a xs) (hb8 : Bytes8 xs) (hx : xs.length = len) (hl : len ≤ 1073741824) (h0 : 0 < len) (hh : Short xs k d) :
    Calls Tryz.prog 120 #[.slice a len cap, .int .i64 k] w fun e w' => e = .returned (.tuple #[.int .i64 0, .int .i64 0, .int .i64 4]) ∧ w' = w := by
  have hk : k + d = len := by have := hh.2.1; omega
  have hd5 : d < 5 := hh.1
  obtain ⟨b, off, rfl, -, hcell⟩ := hr.addr (by omega)
  have HM := hide hh.2.2
  have HC := hide hcell
  have HX := hide hx
  have HB := hide hb8
  clear hr hx hcell hb8
  clear hh
  go_enter Tryz.func120, Tryz.ntmps120
  go_wp2
  go_loop [18, 7] (fun i n => ∃ j : Nat, j ≤ d ∧ i = .int .i64 j ∧ n = .int .u64 (acc xs k j)) (fun i _ => 5 - (intOf i).toNat)
  case atStart => exact ⟨0, by omega, rfl, rfl⟩
  case round =>
    obtain ⟨j, hj, rfl, rfl⟩ := hrel
    by_cases hlt : j < d
    · have hc := HC.out (k + j) (by rw [HX.out]; omega)
      have hm := HM.out j hlt
      have h255 := (HB.out _ (getD_mem xs (k + j) (by rw [HX.out]; omega))).2
      have hst := step_u64 (acc xs k j) (xs.getD (k + j) 0) j (by omega) (acc_bd xs k j).1 (acc_bd xs k j).2 (by omega) h255
      obtain ⟨Y, HXX⟩ : ∃ Y, Hid (Y = acc xs k (j + 1)) := ⟨_, rfl⟩
      rw [show acc xs k j + xs.getD (k + j) 0 % 128 * 128 ^ j = Y from HXX.out.symm] at hst
      generalize xs.getD (k + j) 0 = y at hc hm h255 hst
      generalize acc xs k j = x at hst
      have hjl : ((j : Int) == (len : Int) - (k : Int)) = false := by rw [beq_eq_false_iff_ne]; omega
      have hj5 : ((j : Int) == 5) = false := by rw [beq_eq_false_iff_ne]; omega
      go_wp2
      go_round
      case rel => exact ⟨j + 1, by omega, by go_num, by rw [HXX.out]⟩
      case measure => simp [intOf]; omega

    · obtain rfl : j = d := by omega
      have hjl : ((j : Int) == (len : Int) - (k : Int)) = true := by rw [beq_iff_eq]; omega
      go_wp2
      go_ret3
      exact ⟨rfl, rfl⟩

set_option maxRecDepth 100000 in
set_option maxHeartbeats 400000 in
theorem refGet_short (a : Option Addr) (len cap k d : Nat) (xs : List Int) (w : World) (hr : Row8 w a xs) (hb8 : Bytes8 xs) (hx : xs.length = len) (hl : len ≤ 1073741824) (h0 : 0 < len) (hh : Short xs k d) :
    Calls Tryz.prog 55 #[.slice a len cap, .int .i64 k] w fun e w' => e = .returned (.tuple #[.int .i64 0, .int .i64 0, .int .i64 4]) ∧ w' = w := by
  have hk : k + d = len := by have := hh.2.1; omega
  have hd5 : d < 5 := hh.1
  obtain ⟨b, off, rfl, -, hcell⟩ := hr.addr (by omega)
  have HM := hide hh.2.2
  have HC := hide hcell
  have HX := hide hx
  have HB := hide hb8
  clear hr hx hcell hb8
  clear hh
  go_enter Tryz.func55, Tryz.ntmps55
  go_wp2
  go_loop [7, 8] (fun n i => ∃ j : Nat, j ≤ d ∧ i = .int .i64 j ∧ n = .int .i64 (acc xs k j)) (fun _ i => 5 - (intOf i).toNat)
  case atStart => exact ⟨0, by omega, rfl, rfl⟩
  case round =>
    obtain ⟨j, hj, rfl, rfl⟩ := hrel
    by_cases hlt : j < d
    · have hc := HC.out (k + j) (by rw [HX.out]; omega)
      have hm := HM.out j hlt
      have h255 := (HB.out _ (getD_mem xs (k + j) (by rw [HX.out]; omega))).2
      have hst := step_i64 (acc xs k j) (xs.getD (k + j) 0) j (by omega) (acc_bd xs k j).1 (acc_bd xs k j).2 (by omega) h255
      obtain ⟨Y, HXX⟩ : ∃ Y, Hid (Y = acc xs k (j + 1)) := ⟨_, rfl⟩
      rw [show acc xs k j + xs.getD (k + j) 0 % 128 * 128 ^ j = Y from HXX.out.symm] at hst
      generalize xs.getD (k + j) 0 = y at hc hm h255 hst
      generalize acc xs k j = x at hst
      have hjl : ((j : Int) == (len : Int) - (k : Int)) = false := by rw [beq_eq_false_iff_ne]; omega
      have hj5 : ((j : Int) == 5) = false := by rw [beq_eq_false_iff_ne]; omega
      go_wp2
      go_round
      case rel => exact ⟨j + 1, by omega, by go_num, by rw [HXX.out]⟩
      case measure => simp [intOf]; omega

    · obtain rfl : j = d := by omega
      have hjl : ((j : Int) == (len : Int) - (k : Int)) = true := by rw [beq_iff_eq]; omega
      go_wp2
      go_ret3
      exact ⟨rfl, rfl⟩

set_option maxRecDepth 100000 in
set_option maxHeartbeats 400000 in
theorem get_ends (a : Option Addr) (len cap k d : Nat) (xs : List Int) (w : World) (hr : Row8 w a xs) (hb8 : Bytes8 xs) (hx : xs.length = len) (hl : len ≤ 1073741824) (hh : Ends xs k d) :
    Calls Tryz.prog 120 #[.slice a len cap, .int .i64 k] w fun e w' => e = .returned (.tuple #[.int .i64 (numN (acc xs k (d + 1))), .int .i64 (atN (acc xs k (d + 1)) ((k : Int) + d + 1)), .int .i64 (errN (acc xs k (d + 1)))]) ∧ w' = w := by
  have hk : k + d < len := by have := hh.2.1; omega
  have hd5 : d < 5 := hh.1
  obtain ⟨b, off, rfl, -, hcell⟩ := hr.addr (by omega)
  have HM := hide hh.2.2.1
  have HE := hide hh.2.2.2
  have HC := hide hcell
  have HX := hide hx
  have HB := hide hb8
  clear hr hx hcell hb8
  clear hh
  by_cases hbig : 2147483647 < acc xs k (d + 1)
  · rw [show numN (acc xs k (d + 1)) = 0 from if_pos hbig, show atN (acc xs k (d + 1)) ((k : Int) + d + 1) = 0 from if_pos hbig, show errN (acc xs k (d + 1)) = 3 from if_pos hbig]
    have hbd := acc_lt xs k d hd5
    obtain ⟨X, HN⟩ : ∃ X, Hid (X = acc xs k (d + 1)) := ⟨_, rfl⟩
    rw [show acc xs k (d + 1) = X from HN.out.symm] at hbig hbd
    go_enter Tryz.func120, Tryz.ntmps120
    go_wp2
    go_loop [18, 7] (fun i n => ∃ j : Nat, j ≤ d ∧ i = .int .i64 j ∧ n = .int .u64 (acc xs k j)) (fun i _ => 5 - (intOf i).toNat)
    case atStart => exact ⟨0, by omega, rfl, rfl⟩
    case round =>
      obtain ⟨j, hj, rfl, rfl⟩ := hrel
      by_cases hlt : j < d
      · have hc := HC.out (k + j) (by rw [HX.out]; omega)
        have hm := HM.out j hlt
        have h255 := (HB.out _ (getD_mem xs (k + j) (by rw [HX.out]; omega))).2
        have hst := step_u64 (acc xs k j) (xs.getD (k + j) 0) j (by omega) (acc_bd xs k j).1 (acc_bd xs k j).2 (by omega) h255
        obtain ⟨Y, HXX⟩ : ∃ Y, Hid (Y = acc xs k (j + 1)) := ⟨_, rfl⟩
        rw [show acc xs k j + xs.getD (k + j) 0 % 128 * 128 ^ j = Y from HXX.out.symm] at hst
        generalize xs.getD (k + j) 0 = y at hc hm h255 hst
        generalize acc xs k j = x at hst
        have hjl : ((j : Int) == (len : Int) - (k : Int)) = false := by rw [beq_eq_false_iff_ne]; omega
        have hj5 : ((j : Int) == 5) = false := by rw [beq_eq_false_iff_ne]; omega
        go_wp2
        go_round
        case rel => exact ⟨j + 1, by omega, by go_num, by rw [HXX.out]⟩
        case measure => simp [intOf]; omega

      · obtain rfl : j = d := by omega
        have hc := HC.out (k + j) (by rw [HX.out]; omega)
        have hm := HE.out
        have h0 := (HB.out _ (getD_mem xs (k + j) (by rw [HX.out]; omega))).1
        have hst := step_u64 (acc xs k j) (xs.getD (k + j) 0) j (by omega) (acc_bd xs k j).1 (acc_bd xs k j).2 h0 (by omega)
        rw [show acc xs k j + xs.getD (k + j) 0 % 128 * 128 ^ j = X from HN.out.symm] at hst
        generalize xs.getD (k + j) 0 = y at hc hm h0 hst
        generalize acc xs k j = x at hst
        have hjl : ((j : Int) == (len : Int) - (k : Int)) = false := by rw [beq_eq_false_iff_ne]; omega
        have hj5 : ((j : Int) == 5) = false := by rw [beq_eq_false_iff_ne]; omega
        go_wp2
        go_ret3
        exact ⟨rfl, rfl⟩
  · rw [show numN (acc xs k (d + 1)) = acc xs k (d + 1) from if_neg hbig, show atN (acc xs k (d + 1)) ((k : Int) + d + 1) = (k : Int) + d + 1 from if_neg hbig, show errN (acc xs k (d + 1)) = 0 from if_neg hbig]
    have hbd := acc_lt xs k d hd5
    obtain ⟨X, HN⟩ : ∃ X, Hid (X = acc xs k (d + 1)) := ⟨_, rfl⟩
    rw [show acc xs k (d + 1) = X from HN.out.symm] at hbig hbd ⊢
    go_enter Tryz.func120, Tryz.ntmps120
    go_wp2
    go_loop [18, 7] (fun i n => ∃ j : Nat, j ≤ d ∧ i = .int .i64 j ∧ n = .int .u64 (acc xs k j)) (fun i _ => 5 - (intOf i).toNat)
    case atStart => exact ⟨0, by omega, rfl, rfl⟩
    case round =>
      obtain ⟨j, hj, rfl, rfl⟩ := hrel
      by_cases hlt : j < d
      · have hc := HC.out (k + j) (by rw [HX.out]; omega)
        have hm := HM.out j hlt
        have h255 := (HB.out _ (getD_mem xs (k + j) (by rw [HX.out]; omega))).2
        have hst := step_u64 (acc xs k j) (xs.getD (k + j) 0) j (by omega) (acc_bd xs k j).1 (acc_bd xs k j).2 (by omega) h255
        obtain ⟨Y, HXX⟩ : ∃ Y, Hid (Y = acc xs k (j + 1)) := ⟨_, rfl⟩
        rw [show acc xs k j + xs.getD (k + j) 0 % 128 * 128 ^ j = Y from HXX.out.symm] at hst
        generalize xs.getD (k + j) 0 = y at hc hm h255 hst
        generalize acc xs k j = x at hst
        have hjl : ((j : Int) == (len : Int) - (k : Int)) = false := by rw [beq_eq_false_iff_ne]; omega
        have hj5 : ((j : Int) == 5) = false := by rw [beq_eq_false_iff_ne]; omega
        go_wp2
        go_round
        case rel => exact ⟨j + 1, by omega, by go_num, by rw [HXX.out]⟩
        case measure => simp [intOf]; omega

      · obtain rfl : j = d := by omega
        have hc := HC.out (k + j) (by rw [HX.out]; omega)
        have hm := HE.out
        have h0 := (HB.out _ (getD_mem xs (k + j) (by rw [HX.out]; omega))).1
        have hst := step_u64 (acc xs k j) (xs.getD (k + j) 0) j (by omega) (acc_bd xs k j).1 (acc_bd xs k j).2 h0 (by omega)
        rw [show acc xs k j + xs.getD (k + j) 0 % 128 * 128 ^ j = X from HN.out.symm] at hst
        generalize xs.getD (k + j) 0 = y at hc hm h0 hst
        generalize acc xs k j = x at hst
        have hjl : ((j : Int) == (len : Int) - (k : Int)) = false := by rw [beq_eq_false_iff_ne]; omega
        have hj5 : ((j : Int) == 5) = false := by rw [beq_eq_false_iff_ne]; omega
        go_wp2
        go_ret3
        exact ⟨rfl, rfl⟩

set_option maxRecDepth 100000 in
set_option maxHeartbeats 400000 in
theorem refGet_ends (a : Option Addr) (len cap k d : Nat) (xs : List Int) (w : World) (hr : Row8 w a xs) (hb8 : Bytes8 xs) (hx : xs.length = len) (hl : len ≤ 1073741824) (hh : Ends xs k d) :
    Calls Tryz.prog 55 #[.slice a len cap, .int .i64 k] w fun e w' => e = .returned (.tuple #[.int .i64 (numN (acc xs k (d + 1))), .int .i64 (atN (acc xs k (d + 1)) ((k : Int) + d + 1)), .int .i64 (errN (acc xs k (d + 1)))]) ∧ w' = w := by
  have hk : k + d < len := by have := hh.2.1; omega
  have hd5 : d < 5 := hh.1
  obtain ⟨b, off, rfl, -, hcell⟩ := hr.addr (by omega)
  have HM := hide hh.2.2.1
  have HE := hide hh.2.2.2
  have HC := hide hcell
  have HX := hide hx
  have HB := hide hb8
  clear hr hx hcell hb8
  clear hh
  by_cases hbig : 2147483647 < acc xs k (d + 1)
  · rw [show numN (acc xs k (d + 1)) = 0 from if_pos hbig, show atN (acc xs k (d + 1)) ((k : Int) + d + 1) = 0 from if_pos hbig, show errN (acc xs k (d + 1)) = 3 from if_pos hbig]
    have hbd := acc_lt xs k d hd5
    obtain ⟨X, HN⟩ : ∃ X, Hid (X = acc xs k (d + 1)) := ⟨_, rfl⟩
    rw [show acc xs k (d + 1) = X from HN.out.symm] at hbig hbd
    go_enter Tryz.func55, Tryz.ntmps55
    go_wp2
    go_loop [7, 8] (fun n i => ∃ j : Nat, j ≤ d ∧ i = .int .i64 j ∧ n = .int .i64 (acc xs k j)) (fun _ i => 5 - (intOf i).toNat)
    case atStart => exact ⟨0, by omega, rfl, rfl⟩
    case round =>
      obtain ⟨j, hj, rfl, rfl⟩ := hrel
      by_cases hlt : j < d
      · have hc := HC.out (k + j) (by rw [HX.out]; omega)
        have hm := HM.out j hlt
        have h255 := (HB.out _ (getD_mem xs (k + j) (by rw [HX.out]; omega))).2
        have hst := step_i64 (acc xs k j) (xs.getD (k + j) 0) j (by omega) (acc_bd xs k j).1 (acc_bd xs k j).2 (by omega) h255
        obtain ⟨Y, HXX⟩ : ∃ Y, Hid (Y = acc xs k (j + 1)) := ⟨_, rfl⟩
        rw [show acc xs k j + xs.getD (k + j) 0 % 128 * 128 ^ j = Y from HXX.out.symm] at hst
        generalize xs.getD (k + j) 0 = y at hc hm h255 hst
        generalize acc xs k j = x at hst
        have hjl : ((j : Int) == (len : Int) - (k : Int)) = false := by rw [beq_eq_false_iff_ne]; omega
        have hj5 : ((j : Int) == 5) = false := by rw [beq_eq_false_iff_ne]; omega
        go_wp2
        go_round
        case rel => exact ⟨j + 1, by omega, by go_num, by rw [HXX.out]⟩
        case measure => simp [intOf]; omega

      · obtain rfl : j = d := by omega
        have hc := HC.out (k + j) (by rw [HX.out]; omega)
        have hm := HE.out
        have h0 := (HB.out _ (getD_mem xs (k + j) (by rw [HX.out]; omega))).1
        have hst := step_i64 (acc xs k j) (xs.getD (k + j) 0) j (by omega) (acc_bd xs k j).1 (acc_bd xs k j).2 h0 (by omega)
        rw [show acc xs k j + xs.getD (k + j) 0 % 128 * 128 ^ j = X from HN.out.symm] at hst
        generalize xs.getD (k + j) 0 = y at hc hm h0 hst
        generalize acc xs k j = x at hst
        have hjl : ((j : Int) == (len : Int) - (k : Int)) = false := by rw [beq_eq_false_iff_ne]; omega
        have hj5 : ((j : Int) == 5) = false := by rw [beq_eq_false_iff_ne]; omega
        go_wp2
        go_ret3
        exact ⟨rfl, rfl⟩
  · rw [show numN (acc xs k (d + 1)) = acc xs k (d + 1) from if_neg hbig, show atN (acc xs k (d + 1)) ((k : Int) + d + 1) = (k : Int) + d + 1 from if_neg hbig, show errN (acc xs k (d + 1)) = 0 from if_neg hbig]
    have hbd := acc_lt xs k d hd5
    obtain ⟨X, HN⟩ : ∃ X, Hid (X = acc xs k (d + 1)) := ⟨_, rfl⟩
    rw [show acc xs k (d + 1) = X from HN.out.symm] at hbig hbd ⊢
    go_enter Tryz.func55, Tryz.ntmps55
    go_wp2
    go_loop [7, 8] (fun n i => ∃ j : Nat, j ≤ d ∧ i = .int .i64 j ∧ n = .int .i64 (acc xs k j)) (fun _ i => 5 - (intOf i).toNat)
    case atStart => exact ⟨0, by omega, rfl, rfl⟩
    case round =>
      obtain ⟨j, hj, rfl, rfl⟩ := hrel
      by_cases hlt : j < d
      · have hc := HC.out (k + j) (by rw [HX.out]; omega)
        have hm := HM.out j hlt
        have h255 := (HB.out _ (getD_mem xs (k + j) (by rw [HX.out]; omega))).2
        have hst := step_i64 (acc xs k j) (xs.getD (k + j) 0) j (by omega) (acc_bd xs k j).1 (acc_bd xs k j).2 (by omega) h255
        obtain ⟨Y, HXX⟩ : ∃ Y, Hid (Y = acc xs k (j + 1)) := ⟨_, rfl⟩
        rw [show acc xs k j + xs.getD (k + j) 0 % 128 * 128 ^ j = Y from HXX.out.symm] at hst
        generalize xs.getD (k + j) 0 = y at hc hm h255 hst
        generalize acc xs k j = x at hst
        have hjl : ((j : Int) == (len : Int) - (k : Int)) = false := by rw [beq_eq_false_iff_ne]; omega
        have hj5 : ((j : Int) == 5) = false := by rw [beq_eq_false_iff_ne]; omega
        go_wp2
        go_round
        case rel => exact ⟨j + 1, by omega, by go_num, by rw [HXX.out]⟩
        case measure => simp [intOf]; omega

      · obtain rfl : j = d := by omega
        have hc := HC.out (k + j) (by rw [HX.out]; omega)
        have hm := HE.out
        have h0 := (HB.out _ (getD_mem xs (k + j) (by rw [HX.out]; omega))).1
        have hst := step_i64 (acc xs k j) (xs.getD (k + j) 0) j (by omega) (acc_bd xs k j).1 (acc_bd xs k j).2 h0 (by omega)
        rw [show acc xs k j + xs.getD (k + j) 0 % 128 * 128 ^ j = X from HN.out.symm] at hst
        generalize xs.getD (k + j) 0 = y at hc hm h0 hst
        generalize acc xs k j = x at hst
        have hjl : ((j : Int) == (len : Int) - (k : Int)) = false := by rw [beq_eq_false_iff_ne]; omega
        have hj5 : ((j : Int) == 5) = false := by rw [beq_eq_false_iff_ne]; omega
        go_wp2
        go_ret3
        exact ⟨rfl, rfl⟩

end Go.Proofs.YtikjbbebfjleaaaGreatDoor
