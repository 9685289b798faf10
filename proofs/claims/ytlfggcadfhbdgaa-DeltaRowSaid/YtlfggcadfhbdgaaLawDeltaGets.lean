/-
  THE WALK of the law DeltaGets.
-/
import Derived.Test.YtlfggcadfhbdgaaDeltaPut
namespace Go.Proofs.Ytlfggcadfhbdgaa
open Go.RowKit

set_option maxHeartbeats 400000 in
theorem get_none (a : Option Addr) (cap : Nat) (w : World) :
    Calls Try.prog 7 #[.slice a 0 cap, .int .i64 0] w fun e w' => e = .returned (.tuple #[.int .i64 0, .int .i64 0, .int .i64 4]) ∧ w' = w := by
  go_enter Try.func7, Try.ntmps7
  go_wp2
  go_loop [18, 7] (fun i n => i = .int .i64 0 ∧ n = .int .u64 0) (fun _ _ => 0)
  case atStart => exact ⟨rfl, rfl⟩
  case round =>
    obtain ⟨rfl, rfl⟩ := hrel
    go_wp2
    go_ret3
    exact ⟨rfl, rfl⟩

set_option maxHeartbeats 400000 in
theorem refGet_none (a : Option Addr) (cap : Nat) (w : World) :
    Calls Try.prog 8 #[.slice a 0 cap, .int .i64 0] w fun e w' => e = .returned (.tuple #[.int .i64 0, .int .i64 0, .int .i64 4]) ∧ w' = w := by
  go_enter Try.func8, Try.ntmps8
  go_wp2
  go_loop [7, 8] (fun n i => i = .int .i64 0 ∧ n = .int .i64 0) (fun _ _ => 0)
  case atStart => exact ⟨rfl, rfl⟩
  case round =>
    obtain ⟨rfl, rfl⟩ := hrel
    go_wp2
    go_ret3
    exact ⟨rfl, rfl⟩

/-- Both tell the same, whatever the bytes and the place are. -/
theorem get_same (a : Option Addr) (len cap : Nat) (xs : List Int) (at_ : Int) (w : World) (hr : Row8 w a xs) (hb8 : Bytes8 xs) (hx : xs.length = len) (hl : len ≤ 100000) :
    ∃ n k e : Int, (∀ w1, Below w.heap.size w w1 → Calls Try.prog 7 #[.slice a len cap, .int .i64 at_] w1 fun r w' => r = .returned (.tuple #[.int .i64 n, .int .i64 k, .int .i64 e]) ∧ w' = w1) ∧
      (∀ w1, Below w.heap.size w w1 → Calls Try.prog 8 #[.slice a len cap, .int .i64 at_] w1 fun r w' => r = .returned (.tuple #[.int .i64 n, .int .i64 k, .int .i64 e]) ∧ w' = w1) := by
  by_cases hout : at_ < 0 ∨ (len : Int) < at_
  · exact ⟨_, _, _, fun w1 _ => get_arg a len cap at_ w1 hout, fun w1 _ => refGet_arg a len cap at_ w1 hout⟩
  · obtain ⟨k, rfl⟩ := Int.eq_ofNat_of_zero_le (show 0 ≤ at_ by omega)
    by_cases h0 : len = 0
    · subst h0
      obtain rfl : k = 0 := by omega
      exact ⟨_, _, _, fun w1 _ => get_none a cap w1, fun w1 _ => refGet_none a cap w1⟩
    · rcases three xs k (by omega) with ⟨d, hd⟩ | ⟨d, hd⟩ | hd
      · exact ⟨_, _, _, fun w1 h => get_ends a len cap k d xs w1 (hr.below h) hb8 hx (by omega) hd, fun w1 h => refGet_ends a len cap k d xs w1 (hr.below h) hb8 hx (by omega) hd⟩
      · exact ⟨_, _, _, fun w1 h => get_short a len cap k d xs w1 (hr.below h) hb8 hx (by omega) (by omega) hd, fun w1 h => refGet_short a len cap k d xs w1 (hr.below h) hb8 hx (by omega) (by omega) hd⟩
      · exact ⟨_, _, _, fun w1 h => get_long a len cap k xs w1 (hr.below h) hb8 hx (by omega) hd, fun w1 h => refGet_long a len cap k xs w1 (hr.below h) hb8 hx (by omega) hd⟩

set_option maxHeartbeats 400000 in
theorem deltaGets_any (a : Option Addr) (len cap : Nat) (zs : List Int) (at_ : Int) (w : World) (hr : IsRow .u8 w a len cap zs) (_h0 : -9223372036854775808 ≤ at_) (_h1 : at_ ≤ 9223372036854775807) :
    Calls Try.prog 3 #[.slice a len cap, .int .i64 at_] w fun e w' => e = .returned (.bool true) ∧ Below w.heap.size w w' := by
  obtain ⟨hrow, hwf, -, hx, hc, hm⟩ := hr.row
  have hb := bytes8_of hwf
  clear hr hwf
  generalize zs.take len = xs at hrow hb hx
  by_cases hbig : (200 : Int) < len
  · clear hx hb hrow
    go_enter Try.func3, Try.ntmps3
    go_wp2_with (go_at_call 6; refine (alive_any _).mono ?_; rintro e w1 ⟨rfl, hb1⟩)
    go_ret
    exact ⟨rfl, hb1⟩
  obtain ⟨n, k, er, c1, c2⟩ := get_same a len cap xs at_ w hrow hb hx (by omega)
  have H1 := hide c1
  have H2 := hide c2
  clear c1 c2 hx hb hrow
  go_enter Try.func3, Try.ntmps3
  go_wp2_with (go_at_call 6; refine (alive_any _).mono ?_; rintro e w1 ⟨rfl, hb1⟩)
  refine (H1.out _ hb1).mono ?_
  rintro e w2 ⟨rfl, rfl⟩
  go_wp2_with fail
  refine (H2.out _ hb1).mono ?_
  rintro e w3 ⟨rfl, rfl⟩
  go_wp2_with (go_at_call 9; refine (num_any _ _).mono ?_; rintro e w' ⟨rfl, rfl⟩)
  go_ret
  exact ⟨rfl, hb1⟩
end Go.Proofs.Ytlfggcadfhbdgaa
