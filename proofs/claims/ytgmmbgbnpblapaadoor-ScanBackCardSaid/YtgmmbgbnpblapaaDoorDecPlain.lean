/-
  THE PLAIN MATHEMATICS of the reference's Dec: a number's digits, and that they are its number. No program in this text.
-/
import Derived.Test.YtgmmbgbnpblapaaDoorPlain
namespace Go.Proofs.YtgmmbgbnpblapaaDoor
open Go

/-- A digit's byte. -/
def dg (k : Nat) : UInt8 := UInt8.ofNat (48 + k)
/-- The digits of a number of at most f + 1 of them. -/
def decF : Nat → Nat → List UInt8
  | 0, n => [dg (n % 10)]
  | f + 1, n => if n ≤ 9 then [dg (n % 10)] else decF f (n / 10) ++ [dg (n % 10)]

theorem dg_toNat (k : Nat) (h : k < 10) : (dg k).toNat = 48 + k := by
  unfold dg
  rw [UInt8.toNat_ofNat']
  omega

theorem dg_dig (k : Nat) (h : k < 10) : dig (dg k) = true := by
  simp only [dig, Bool.and_eq_true, decide_eq_true_eq, dg_toNat k h]
  omega

theorem decF_small (f n : Nat) (h : n ≤ 9) : decF f n = [dg n] := by
  have e : n % 10 = n := Nat.mod_eq_of_lt (by omega)
  cases f with
  | zero => rw [decF, e]
  | succ f => rw [decF, if_pos h, e]

theorem decF_len (f : Nat) : ∀ n, 1 ≤ (decF f n).length ∧ (decF f n).length ≤ f + 1 := by
  induction f with
  | zero => intro n; simp [decF]
  | succ f ih =>
    intro n
    rw [decF]
    have := ih (n / 10)
    split
    · simp
    · simp; omega

theorem decF_all (f : Nat) : ∀ n, (decF f n).all dig = true := by
  induction f with
  | zero => intro n; simp [decF, dg_dig _ (Nat.mod_lt n (by decide : 10 > 0))]
  | succ f ih =>
    intro n
    rw [decF]
    split
    · simp [dg_dig _ (Nat.mod_lt n (by decide : 10 > 0))]
    · rw [List.all_append, ih (n / 10)]
      simp [dg_dig _ (Nat.mod_lt n (by decide : 10 > 0))]

theorem decF_val (f : Nat) : ∀ n, n < 10 ^ (f + 1) → val 0 (decF f n) = n := by
  induction f with
  | zero =>
    intro n h
    have e : n % 10 = n := Nat.mod_eq_of_lt (by simpa using h)
    rw [decF, e, val_cons, val_nil, dg_toNat n (by simpa using h)]
    omega
  | succ f ih =>
    intro n h
    by_cases h9 : n ≤ 9
    · rw [decF_small _ _ h9, val_cons, val_nil, dg_toNat n (by omega)]
      omega
    · rw [decF, if_neg h9, val_append, ih (n / 10) (by rw [Nat.pow_succ] at h; exact Nat.div_lt_of_lt_mul (by omega)), val_cons, val_nil, dg_toNat _ (Nat.mod_lt n (by decide))]
      omega

theorem decF_head (f : Nat) : ∀ n, 1 ≤ n → n < 10 ^ (f + 1) → ((decF f n).getD 0 0 == 48) = false := by
  induction f with
  | zero =>
    intro n h1 h
    have e : n % 10 = n := Nat.mod_eq_of_lt (by simpa using h)
    rw [decF, e, beq_eq_false_iff_ne]
    intro e2
    have e3 : (dg n).toNat = (48 : UInt8).toNat := congrArg UInt8.toNat e2
    have e4 : (48 : UInt8).toNat = 48 := rfl
    rw [dg_toNat n (by simpa using h)] at e3
    omega
  | succ f ih =>
    intro n h1 h
    by_cases h9 : n ≤ 9
    · rw [decF_small _ _ h9, beq_eq_false_iff_ne]
      intro e2
      have e3 : (dg n).toNat = (48 : UInt8).toNat := congrArg UInt8.toNat e2
      have e4 : (48 : UInt8).toNat = 48 := rfl
      rw [dg_toNat n (by omega)] at e3
      omega
    · have hi := ih (n / 10) (by omega) (by rw [Nat.pow_succ] at h; exact Nat.div_lt_of_lt_mul (by omega))
      have hl := (decF_len f (n / 10)).1
      rw [decF, if_neg h9]
      rw [List.getD_eq_getElem?_getD, List.getElem?_append_left (by omega), ← List.getD_eq_getElem?_getD]
      exact hi

theorem decF_isDec (f n : Nat) (h : n < 10 ^ (f + 1)) : isDec (decF f n) = true := by
  unfold isDec
  have hl := decF_len f n
  have hne : (decF f n).isEmpty = false := by
    cases hc : decF f n with
    | nil => rw [hc] at hl; simp at hl
    | cons a r => rfl
  rw [decF_all, hne]
  by_cases h0 : 1 ≤ n
  · rw [decF_head f n h0 h]; simp
  · have : n = 0 := by omega
    subst this
    rw [decF_small _ _ (by omega)]
    simp

theorem zero_isDec (f n : Nat) : isDec (48 :: decF f n) = false := by
  unfold isDec
  have hl := (decF_len f n).1
  have : decide (1 < (48 :: decF f n).length) = true := decide_eq_true (by rw [List.length_cons]; omega)
  rw [this]
  simp
end Go.Proofs.YtgmmbgbnpblapaaDoor
