/-
  THE PLAIN MATHEMATICS of layer 2: a number by 7 bits a byte. No function of the program in this text.
  THE PLAIN MATHEMATICS of layer 2, the model's own words for '&', '|' and '<<' as sums and remainders. No function of the program in this text.
-/
import Derived.Test.YtikjbbebfjleaaaGreatDoorJ0
namespace Go.Proofs.YtikjbbebfjleaaaGreatDoor
open Go.RowKit

/-- The bytes of a number; how many there are behind the first one. -/
def enc : Nat → Nat → List Int
  | 0, n => [(n : Int)]
  | f + 1, n => if n ≤ 127 then [(n : Int)] else (((n % 128 : Nat) : Int) + 128) :: enc f (n / 128)
def wid : Nat → Nat → Nat
  | 0, _ => 0
  | f + 1, m => if m = 0 then 0 else wid f (m / 128) + 1

theorem wid_succ (f m : Nat) (h : 0 < m) : wid (f + 1) m = wid f (m / 128) + 1 := by rw [wid, if_neg (by omega)]
theorem wid_zero (f : Nat) : wid f 0 = 0 := by cases f <;> simp [wid]
theorem wid_le (f m : Nat) : wid f m ≤ f := by
  induction f generalizing m with
  | zero => simp [wid]
  | succ f ih =>
    rw [wid]
    have := ih (m / 128)
    split <;> omega

theorem enc_len (f n : Nat) (h : n < 128 ^ (f + 1)) : (enc f n).length = wid f (n / 128) + 1 := by
  induction f generalizing n with
  | zero => simp [enc, wid]
  | succ f ih =>
    rw [enc]
    by_cases h1 : n ≤ 127
    · rw [if_pos h1, show n / 128 = 0 by omega, wid_zero]; rfl
    · rw [if_neg h1, List.length_cons, ih (n / 128) (by rw [Nat.pow_succ] at h; omega), wid_succ f (n / 128) (by omega)]

theorem enc_len_le (f n : Nat) (h : n < 128 ^ (f + 1)) : (enc f n).length ≤ f + 1 := by
  rw [enc_len f n h]
  have := wid_le f (n / 128)
  omega

theorem enc_big (f n : Nat) (h : 127 < n) : enc (f + 1) n = (((n % 128 : Nat) : Int) + 128) :: enc f (n / 128) := by rw [enc, if_neg (by omega)]
theorem enc_small (f n : Nat) (h : n ≤ 127) : enc f n = [(n : Int)] := by
  cases f with
  | zero => rfl
  | succ f => rw [enc, if_pos h]

theorem enc_bytes (f n : Nat) (h : n < 128 ^ (f + 1)) : Bytes8 (enc f n) := by
  induction f generalizing n with
  | zero =>
    intro x hx
    simp [enc] at hx
    simp at h
    omega
  | succ f ih =>
    by_cases h1 : n ≤ 127
    · rw [enc_small _ _ h1]
      intro x hx
      simp at hx
      omega
    · rw [enc_big f n (by omega)]
      intro x hx
      rcases List.mem_cons.1 hx with rfl | hx
      · omega
      · exact ih (n / 128) (by rw [Nat.pow_succ] at h; omega) x hx

/-! ### Reading -/

/-- What i bytes from place k on are. -/
def acc (xs : List Int) (k : Nat) : Nat → Int
  | 0 => 0
  | i + 1 => acc xs k i + xs.getD (k + i) 0 % 128 * 128 ^ i

theorem acc_bd (xs : List Int) (k i : Nat) : 0 ≤ acc xs k i ∧ acc xs k i < 128 ^ i := by
  induction i with
  | zero => simp [acc]
  | succ i ih =>
    have h1 : 0 ≤ xs.getD (k + i) 0 % 128 := Int.emod_nonneg _ (by decide)
    have h2 : xs.getD (k + i) 0 % 128 ≤ 127 := by omega
    have hp : (0 : Int) < 128 ^ i := Int.pow_pos (by decide)
    have h3 : xs.getD (k + i) 0 % 128 * 128 ^ i ≤ 127 * 128 ^ i := Int.mul_le_mul_of_nonneg_right h2 (by omega)
    have h4 : 0 ≤ xs.getD (k + i) 0 % 128 * 128 ^ i := Int.mul_nonneg h1 (by omega)
    rw [acc, Int.pow_succ]
    omega

/-- The byte at place k + i says that more come. -/
def More (xs : List Int) (k d : Nat) : Prop := ∀ i, i < d → 128 ≤ xs.getD (k + i) 0
/-- The number ends at its d-th byte; b ends on the way; five bytes say that more come. -/
def Ends (xs : List Int) (k d : Nat) : Prop := d < 5 ∧ k + d < xs.length ∧ More xs k d ∧ xs.getD (k + d) 0 < 128
def Short (xs : List Int) (k d : Nat) : Prop := d < 5 ∧ k + d = xs.length ∧ More xs k d
def Long (xs : List Int) (k : Nat) : Prop := k + 5 ≤ xs.length ∧ More xs k 5

theorem three (xs : List Int) (k : Nat) (hk : k ≤ xs.length) : (∃ d, Ends xs k d) ∨ (∃ d, Short xs k d) ∨ Long xs k := by
  have go : ∀ d, d ≤ 5 → (∃ d, Ends xs k d) ∨ (∃ d, Short xs k d) ∨ (k + d ≤ xs.length ∧ More xs k d) := by
    intro d
    induction d with
    | zero => exact fun _ => .inr (.inr ⟨by omega, fun i hi => by omega⟩)
    | succ d ih =>
      intro hd
      rcases ih (by omega) with h | h | ⟨h1, h2⟩
      · exact .inl h
      · exact .inr (.inl h)
      · by_cases e : k + d = xs.length
        · exact .inr (.inl ⟨d, by omega, e, h2⟩)
        · by_cases hb : xs.getD (k + d) 0 < 128
          · exact .inl ⟨d, by omega, by omega, h2, hb⟩
          · refine .inr (.inr ⟨by omega, fun i hi => ?_⟩)
            by_cases hi' : i < d
            · exact h2 i hi'
            · obtain rfl : i = d := by omega
              omega
  rcases go 5 (Nat.le_refl _) with h | h | h
  · exact .inl h
  · exact .inr (.inl h)
  · exact .inr (.inr h)

/-- What is told where the number ends. -/
def numN (n : Int) : Int := if 2147483647 < n then 0 else n
def atN (n at_ : Int) : Int := if 2147483647 < n then 0 else at_
def errN (n : Int) : Int := if 2147483647 < n then 3 else 0

/-- Bytes of a number that stand at place k are read as it. -/
theorem acc_enc (f n : Nat) (pre post : List Int) (h : n < 128 ^ (f + 1)) :
    More (pre ++ enc f n ++ post) pre.length ((enc f n).length - 1) ∧ (pre ++ enc f n ++ post).getD (pre.length + ((enc f n).length - 1)) 0 < 128 ∧ acc (pre ++ enc f n ++ post) pre.length (enc f n).length = n := by
  have key : ∀ (f n : Nat) (h : n < 128 ^ (f + 1)) (pre : List Int) (j : Nat) (hj : j ≤ pre.length),
      (∀ i, i < (enc f n).length - 1 → 128 ≤ (pre ++ enc f n ++ post).getD (pre.length + i) 0) ∧ (pre ++ enc f n ++ post).getD (pre.length + ((enc f n).length - 1)) 0 < 128 ∧
      acc (pre ++ enc f n ++ post) (pre.length - j) (j + (enc f n).length) = acc (pre ++ enc f n ++ post) (pre.length - j) j + (n : Int) * 128 ^ j := by
    intro f
    induction f with
    | zero =>
      intro n h pre j hj
      have hn : n < 128 := by simpa using h
      have e0 : (pre ++ enc 0 n ++ post).getD (pre.length + 0) 0 = n := by rw [List.append_assoc, getD_right]; rfl
      refine ⟨fun i hi => by simp [enc] at hi, ?_, ?_⟩
      · show (pre ++ enc 0 n ++ post).getD (pre.length + 0) 0 < 128
        rw [e0]; omega
      · show acc _ _ (j + 1) = _
        rw [acc, show pre.length - j + j = pre.length + 0 by omega, e0, show (n : Int) % 128 = n by omega]
    | succ f ih =>
      intro n h pre j hj
      by_cases h1 : n ≤ 127
      · rw [enc_small _ _ h1]
        have e0 : (pre ++ [(n : Int)] ++ post).getD (pre.length + 0) 0 = n := by rw [List.append_assoc, getD_right]; rfl
        refine ⟨fun i hi => by simp at hi, ?_, ?_⟩
        · show (pre ++ [(n : Int)] ++ post).getD (pre.length + 0) 0 < 128
          rw [e0]; omega
        · show acc _ _ (j + 1) = _
          rw [acc, show pre.length - j + j = pre.length + 0 by omega, e0, show (n : Int) % 128 = n by omega]
      · have hs : n / 128 < 128 ^ (f + 1) := by rw [Nat.pow_succ] at h; omega
        obtain ⟨i1, i2, i3⟩ := ih (n / 128) hs (pre ++ [((n % 128 : Nat) : Int) + 128]) (j + 1) (by simp; omega)
        have hl := enc_len f (n / 128) hs
        rw [enc_big f n (by omega)]
        have el : pre ++ [((n % 128 : Nat) : Int) + 128] ++ enc f (n / 128) ++ post = pre ++ ((((n % 128 : Nat) : Int) + 128) :: enc f (n / 128)) ++ post := by simp
        rw [el] at i1 i2 i3
        rw [List.length_append, List.length_singleton] at i1 i2 i3
        have e0 : (pre ++ ((((n % 128 : Nat) : Int) + 128) :: enc f (n / 128)) ++ post).getD (pre.length + 0) 0 = ((n % 128 : Nat) : Int) + 128 := by rw [List.append_assoc, getD_right]; rfl
        generalize pre ++ ((((n % 128 : Nat) : Int) + 128) :: enc f (n / 128)) ++ post = L at *
        rw [List.length_cons, Nat.add_sub_cancel]
        refine ⟨fun i hi => ?_, ?_, ?_⟩
        · by_cases hi0 : i = 0
          · subst hi0; rw [e0]; omega
          · have := i1 (i - 1) (by omega)
            rw [show pre.length + 1 + (i - 1) = pre.length + i by omega] at this
            exact this
        · rw [show pre.length + 1 + ((enc f (n / 128)).length - 1) = pre.length + (enc f (n / 128)).length by omega] at i2
          exact i2
        · rw [show j + 1 + (enc f (n / 128)).length = j + ((enc f (n / 128)).length + 1) by omega, show pre.length + 1 - (j + 1) = pre.length - j by omega] at i3
          rw [i3, acc, show pre.length - j + j = pre.length + 0 by omega, e0, Int.pow_succ]
          have hd : (n : Int) = (n % 128 : Nat) + 128 * ((n / 128 : Nat) : Int) := by omega
          have hm : (((n % 128 : Nat) : Int) + 128) % 128 = ((n % 128 : Nat) : Int) := by omega
          rw [hm, hd]
          generalize ((n % 128 : Nat) : Int) = A
          generalize ((n / 128 : Nat) : Int) = B
          generalize (128 : Int) ^ j = C
          rw [Int.add_mul, Int.add_assoc]
          congr 2
          rw [Int.mul_comm 128 B, Int.mul_assoc, Int.mul_comm 128 C]
  obtain ⟨k1, k2, k3⟩ := key f n h pre 0 (Nat.zero_le _)
  refine ⟨k1, k2, ?_⟩
  simpa [acc] using k3
end Go.Proofs.YtikjbbebfjleaaaGreatDoor

namespace Go.Proofs.YtikjbbebfjleaaaGreatDoor
open Go.RowKit

theorem wraps40_u64 (n : Int) (h0 : 0 ≤ n) (h1 : n < 2 ^ 40) : IntKind.u64.wrap n = n := by rw [IntKind.wrap_u64]; omega
theorem wraps40_i64 (n : Int) (h0 : 0 ≤ n) (h1 : n < 2 ^ 40) : IntKind.i64.wrap n = n := by rw [IntKind.wrap_i64]; omega

theorem and127_u8 (y : Int) (h0 : 0 ≤ y) (h1 : y ≤ 255) : bits .and .u8 y 127 = y % 128 := bits_mask .u8 8 (by decide) wraps_u8 7 (by decide) y h0 (by omega)
theorem and127_i64 (y : Int) (h0 : 0 ≤ y) (h1 : y ≤ 9223372036854775807) : bits .and .i64 y 127 = y % 128 :=
  bits_mask .i64 63 (by decide) (fun n a b => by rw [IntKind.wrap_i64]; omega) 7 (by decide) y h0 (by omega)

theorem pow7 (j : Nat) : (2 : Int) ^ (7 * j) = 128 ^ j := by rw [Int.pow_mul]; rfl
theorem pow7n (j : Nat) : (2 : Nat) ^ (7 * j) = 128 ^ j := by rw [Nat.pow_mul]

theorem pow_le4 (j : Nat) (hj : j < 5) : (128 : Int) ^ j ≤ 268435456 := by
  have : j = 0 ∨ j = 1 ∨ j = 2 ∨ j = 3 ∨ j = 4 := by omega
  rcases this with rfl | rfl | rfl | rfl | rfl <;> decide

theorem or_step (k : IntKind) (hk : ∀ n : Int, 0 ≤ n → n < 2 ^ 40 → k.wrap n = n) (hb : 40 ≤ k.bits) (x y : Int) (j : Nat) (hj : j < 5) (hx0 : 0 ≤ x) (hx : x < 128 ^ j) (hy0 : 0 ≤ y) (hy : y ≤ 127) :
    bits .or k x (y * 2 ^ (7 * j)) = x + y * 128 ^ j := by
  have hp := pow_le4 j hj
  have hp0 : (0 : Int) < 128 ^ j := Int.pow_pos (by decide)
  obtain ⟨a, rfl⟩ := Int.eq_ofNat_of_zero_le hx0
  obtain ⟨c, rfl⟩ := Int.eq_ofNat_of_zero_le hy0
  have hm : (c : Int) * 128 ^ j ≤ 127 * 268435456 := Int.le_trans (Int.mul_le_mul_of_nonneg_right hy (by omega)) (by omega)
  have e1 : (c : Int) * 2 ^ (7 * j) = ((c * 128 ^ j : Nat) : Int) := by rw [pow7, Int.natCast_mul, Int.natCast_pow]; rfl
  have e2 : (c : Int) * 128 ^ j = ((c * 128 ^ j : Nat) : Int) := by rw [Int.natCast_mul, Int.natCast_pow]; rfl
  rw [e1]
  rw [e2] at hm ⊢
  have ha : a < 2 ^ (7 * j) := by
    rw [pow7n]
    have : ((128 : Int) ^ j) = ((128 ^ j : Nat) : Int) := by rw [Int.natCast_pow]; rfl
    rw [this] at hx
    omega
  rw [(bits_nat k 40 hb hk a (c * 128 ^ j) (by omega) (by omega)).2, Nat.or_comm]
  have := Nat.two_pow_add_eq_or_of_lt ha c
  rw [pow7n, Nat.mul_comm] at this
  rw [← this]
  omega

theorem mul_bd (y : Int) (j : Nat) (hj : j < 5) (h0 : 0 ≤ y) (h1 : y ≤ 127) : 0 ≤ y * 2 ^ (7 * j) ∧ y * 2 ^ (7 * j) < 2 ^ 40 := by
  have hp := pow_le4 j hj
  have hp0 : (0 : Int) < 128 ^ j := Int.pow_pos (by decide)
  rw [pow7]
  have hm : y * 128 ^ j ≤ 127 * 268435456 := Int.le_trans (Int.mul_le_mul_of_nonneg_right h1 (by omega)) (by omega)
  exact ⟨Int.mul_nonneg h0 (by omega), by omega⟩

/-- One byte more, as Get reckons it. -/
theorem step_u64 (x y : Int) (j : Nat) (hj : j < 5) (hx0 : 0 ≤ x) (hx : x < 128 ^ j) (hy0 : 0 ≤ y) (hy : y ≤ 255) :
    bits .or .u64 x (IntKind.u64.wrap (IntKind.u64.wrap (bits .and .u8 y 127) * 2 ^ (7 * j))) = x + y % 128 * 128 ^ j := by
  rw [and127_u8 y hy0 hy, wraps40_u64 (y % 128) (by omega) (by omega)]
  have := mul_bd (y % 128) j hj (by omega) (by omega)
  rw [wraps40_u64 _ this.1 this.2]
  exact or_step .u64 wraps40_u64 (by decide) x (y % 128) j hj hx0 hx (by omega) (by omega)

/-- One byte more, as the reference reckons it. -/
theorem step_i64 (x y : Int) (j : Nat) (hj : j < 5) (hx0 : 0 ≤ x) (hx : x < 128 ^ j) (hy0 : 0 ≤ y) (hy : y ≤ 255) :
    bits .or .i64 x (wrap64 (bits .and .i64 y 127 * 2 ^ (7 * j))) = x + y % 128 * 128 ^ j := by
  rw [and127_i64 y hy0 (by omega)]
  have := mul_bd (y % 128) j hj (by omega) (by omega)
  rw [show wrap64 (y % 128 * 2 ^ (7 * j)) = y % 128 * 2 ^ (7 * j) by unfold wrap64; omega]
  exact or_step .i64 wraps40_i64 (by decide) x (y % 128) j hj hx0 hx (by omega) (by omega)

theorem acc_lt (xs : List Int) (k j : Nat) (hj : j < 5) : 0 ≤ acc xs k (j + 1) ∧ acc xs k (j + 1) ≤ 34359738367 := by
  have h := acc_bd xs k (j + 1)
  have hp := pow_le4 j hj
  rw [Int.pow_succ] at h
  omega
end Go.Proofs.YtikjbbebfjleaaaGreatDoor
