/-
  WHAT IS WRITTEN IS READ: Get where the bytes of a number stand.
-/
import Derived.Test.YtlfggcadfhbdgaaLawDeltaGets
namespace Go.Proofs.Ytlfggcadfhbdgaa
open Go.RowKit

theorem wid_lt (f g m : Nat) (h : m < 128 ^ g) : wid f m ≤ g := by
  induction f generalizing g m with
  | zero => simp [wid]
  | succ f ih =>
    rw [wid]
    split
    · omega
    · rename_i h0
      obtain ⟨k, rfl⟩ : ∃ k, g = k + 1 := ⟨g - 1, by
        rcases g with _ | g
        · simp at h; omega
        · omega⟩
      have := ih k (m / 128) (by rw [Nat.pow_succ] at h; omega)
      omega

theorem enc_len5 (n : Nat) (h : n ≤ 2147483647) : (enc 8 n).length ≤ 5 := by
  rw [enc_len 8 n (by rw [p9]; omega)]
  have := wid_lt 8 4 (n / 128) (by omega)
  omega

theorem get_back (a : Option Addr) (N cap n : Nat) (pre post : List Int) (w : World) (hr : Row8 w a (pre ++ enc 8 n ++ post)) (hb8 : Bytes8 (pre ++ enc 8 n ++ post)) (hN : (pre ++ enc 8 n ++ post).length = N) (hl : N ≤ 100000) (hn : n ≤ 2147483647) :
    Calls Try.prog 7 #[.slice a N cap, .int .i64 pre.length] w fun e w' => e = .returned (.tuple #[.int .i64 n, .int .i64 ((pre.length + (enc 8 n).length : Nat) : Int), .int .i64 0]) ∧ w' = w := by
  obtain ⟨h1, h2, h3⟩ := acc_enc 8 n pre post (by have := p9; omega)
  have h4 := enc_pos 8 n
  have h5 := enc_len5 n hn
  have h6 : pre.length + ((enc 8 n).length - 1) < (pre ++ enc 8 n ++ post).length := by rw [List.length_append, List.length_append]; omega
  have h := get_ends a N cap pre.length ((enc 8 n).length - 1) (pre ++ enc 8 n ++ post) w hr hb8 hN (by omega) ⟨by omega, h6, h1, h2⟩
  rw [show (enc 8 n).length - 1 + 1 = (enc 8 n).length by omega, h3] at h
  rw [show numN (n : Int) = n from if_neg (by omega), show errN (n : Int) = 0 from if_neg (by omega), show atN (n : Int) ((pre.length : Int) + (((enc 8 n).length - 1 : Nat) : Int) + 1) = ((pre.length + (enc 8 n).length : Nat) : Int) from (if_neg (by omega)).trans (by omega)] at h
  exact h

theorem bytes8_append {a b : List Int} (h1 : Bytes8 a) (h2 : Bytes8 b) : Bytes8 (a ++ b) := fun n hn => by
  rcases List.mem_append.1 hn with h | h
  · exact h1 n h
  · exact h2 n h
end Go.Proofs.Ytlfggcadfhbdgaa
