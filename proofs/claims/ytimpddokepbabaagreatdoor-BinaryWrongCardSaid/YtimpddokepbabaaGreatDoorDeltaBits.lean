/-
  THE PLAIN MATHEMATICS of layer 2, the model's own words for '&', '|' and '<<' as sums and remainders. No function of the program in this text.
-/
import Derived.Test.YtimpddokepbabaaGreatDoorDeltaPlain
namespace Go.Proofs.YtimpddokepbabaaGreatDoor
open Go.RowKit

theorem wraps40_u64 (n : Int) (h0 : 0 ≤ n) (h1 : n < 2 ^ 40) : IntKind.u64.wrap n = n := by rw [IntKind.wrap_u64]; omega
theorem wraps40_i64 (n : Int) (h0 : 0 ≤ n) (h1 : n < 2 ^ 40) : IntKind.i64.wrap n = n := by rw [IntKind.wrap_i64]; omega

theorem and127_u8 (y : Int) (h0 : 0 ≤ y) (h1 : y ≤ 255) : bits .and .u8 y 127 = y % 128 := bits_mask .u8 8 (by decide) wraps_u8 7 (by decide) y h0 (by omega)
theorem and127_i64 (y : Int) (h0 : 0 ≤ y) (h1 : y ≤ 9223372036854775807) : bits .and .i64 y 127 = y % 128 :=
  bits_mask .i64 63 (by decide) (fun n a b => by rw [IntKind.wrap_i64]; omega) 7 (by decide) y h0 (by omega)

theorem pow7 (j : Nat) : (2 : Int) ^ (7 * j) = 128 ^ j := by rw [Int.pow_mul]; rfl
theorem pow7n (j : Nat) : (2 : Nat) ^ (7 * j) = 128 ^ j := by rw [Nat.pow_mul]

theorem pow_le4 (j : Nat) (hj : j < 5) : (128 : Int) ^ j ≤ 268435456 := by
  have : j = 0 ∨ j = 1 ∨ j = 2 ∨ j = 3 ∨ j = 4 := by omega
  rcases this with rfl | rfl | rfl | rfl | rfl <;> decide

theorem or_step (k : IntKind) (hk : ∀ n : Int, 0 ≤ n → n < 2 ^ 40 → k.wrap n = n) (hb : 40 ≤ k.bits) (x y : Int) (j : Nat) (hj : j < 5) (hx0 : 0 ≤ x) (hx : x < 128 ^ j) (hy0 : 0 ≤ y) (hy : y ≤ 127) :
    bits .or k x (y * 2 ^ (7 * j)) = x + y * 128 ^ j := by
  have hp := pow_le4 j hj
  have hp0 : (0 : Int) < 128 ^ j := Int.pow_pos (by decide)
  obtain ⟨a, rfl⟩ := Int.eq_ofNat_of_zero_le hx0
  obtain ⟨c, rfl⟩ := Int.eq_ofNat_of_zero_le hy0
  have hm : (c : Int) * 128 ^ j ≤ 127 * 268435456 := Int.le_trans (Int.mul_le_mul_of_nonneg_right hy (by omega)) (by omega)
  have e1 : (c : Int) * 2 ^ (7 * j) = ((c * 128 ^ j : Nat) : Int) := by rw [pow7, Int.natCast_mul, Int.natCast_pow]; rfl
  have e2 : (c : Int) * 128 ^ j = ((c * 128 ^ j : Nat) : Int) := by rw [Int.natCast_mul, Int.natCast_pow]; rfl
  rw [e1]
  rw [e2] at hm ⊢
  have ha : a < 2 ^ (7 * j) := by
    rw [pow7n]
    have : ((128 : Int) ^ j) = ((128 ^ j : Nat) : Int) := by rw [Int.natCast_pow]; rfl
    rw [this] at hx
    omega
  rw [(bits_nat k 40 hb hk a (c * 128 ^ j) (by omega) (by omega)).2, Nat.or_comm]
  have := Nat.two_pow_add_eq_or_of_lt ha c
  rw [pow7n, Nat.mul_comm] at this
  rw [← this]
  omega

theorem mul_bd (y : Int) (j : Nat) (hj : j < 5) (h0 : 0 ≤ y) (h1 : y ≤ 127) : 0 ≤ y * 2 ^ (7 * j) ∧ y * 2 ^ (7 * j) < 2 ^ 40 := by
  have hp := pow_le4 j hj
  have hp0 : (0 : Int) < 128 ^ j := Int.pow_pos (by decide)
  rw [pow7]
  have hm : y * 128 ^ j ≤ 127 * 268435456 := Int.le_trans (Int.mul_le_mul_of_nonneg_right h1 (by omega)) (by omega)
  exact ⟨Int.mul_nonneg h0 (by omega), by omega⟩

/-- One byte more, as Get reckons it. -/
theorem step_u64 (x y : Int) (j : Nat) (hj : j < 5) (hx0 : 0 ≤ x) (hx : x < 128 ^ j) (hy0 : 0 ≤ y) (hy : y ≤ 255) :
    bits .or .u64 x (IntKind.u64.wrap (IntKind.u64.wrap (bits .and .u8 y 127) * 2 ^ (7 * j))) = x + y % 128 * 128 ^ j := by
  rw [and127_u8 y hy0 hy, wraps40_u64 (y % 128) (by omega) (by omega)]
  have := mul_bd (y % 128) j hj (by omega) (by omega)
  rw [wraps40_u64 _ this.1 this.2]
  exact or_step .u64 wraps40_u64 (by decide) x (y % 128) j hj hx0 hx (by omega) (by omega)

/-- One byte more, as the reference reckons it. -/
theorem step_i64 (x y : Int) (j : Nat) (hj : j < 5) (hx0 : 0 ≤ x) (hx : x < 128 ^ j) (hy0 : 0 ≤ y) (hy : y ≤ 255) :
    bits .or .i64 x (wrap64 (bits .and .i64 y 127 * 2 ^ (7 * j))) = x + y % 128 * 128 ^ j := by
  rw [and127_i64 y hy0 (by omega)]
  have := mul_bd (y % 128) j hj (by omega) (by omega)
  rw [show wrap64 (y % 128 * 2 ^ (7 * j)) = y % 128 * 2 ^ (7 * j) by unfold wrap64; omega]
  exact or_step .i64 wraps40_i64 (by decide) x (y % 128) j hj hx0 hx (by omega) (by omega)

theorem acc_lt (xs : List Int) (k j : Nat) (hj : j < 5) : 0 ≤ acc xs k (j + 1) ∧ acc xs k (j + 1) ≤ 34359738367 := by
  have h := acc_bd xs k (j + 1)
  have hp := pow_le4 j hj
  rw [Int.pow_succ] at h
  omega
end Go.Proofs.YtimpddokepbabaaGreatDoor
