/-
  THE PLAIN MATHEMATICS of layer 1 (scan): which bytes are a decimal number, and which number they are. No program in this text.
-/
import Derived.Lib.AtoiAll
namespace Go.Proofs.YtimpddokepbabaaGreatDoor
open Go

/-- A digit. -/
def dig (c : UInt8) : Bool := decide (48 ≤ c.toNat) && decide (c.toNat ≤ 57)
/-- One digit or more, without a 0 ahead of others. -/
def isDec (l : List UInt8) : Bool := !l.isEmpty && !(decide (1 < l.length) && (l.getD 0 0 == 48)) && l.all dig
/-- What digits spell, behind what 'acc' is. -/
def stp (a : Nat) (c : UInt8) : Nat := a * 10 + (c.toNat - 48)
def val (acc : Nat) (l : List UInt8) : Nat := l.foldl stp acc
/-- The number and the error that Number tells. -/
def numV (l : List UInt8) (most : Int) : Int := if isDec l = true ∧ (val 0 l : Int) ≤ most then (val 0 l : Int) else 0
def numE (l : List UInt8) (most : Int) : Int := if isDec l = true then (if (val 0 l : Int) ≤ most then 0 else 3) else 2

theorem val_nil (acc : Nat) : val acc [] = acc := by unfold val; rw [List.foldl_nil]
theorem val_cons (acc : Nat) (c : UInt8) (r : List UInt8) : val acc (c :: r) = val (acc * 10 + (c.toNat - 48)) r := by unfold val; rw [List.foldl_cons, stp]

theorem val_le (l : List UInt8) : ∀ acc : Nat, acc ≤ val acc l := by
  induction l with
  | nil => intro acc; rw [val_nil]; exact Nat.le_refl _
  | cons c r ih =>
    intro acc
    have h := ih (acc * 10 + (c.toNat - 48))
    rw [val_cons]
    omega

theorem val_append (l m : List UInt8) : ∀ acc : Nat, val acc (l ++ m) = val (val acc l) m := by
  induction l with
  | nil => intro acc; rw [List.nil_append, val_nil]
  | cons c r ih => intro acc; rw [List.cons_append, val_cons, val_cons]; exact ih _

theorem val_take (l : List UInt8) (k : Nat) : val 0 (l.take k) ≤ val 0 l := by
  have h : val 0 l = val (val 0 (l.take k)) (l.drop k) := by rw [← val_append, List.take_append_drop]
  rw [h]
  exact val_le _ _

theorem parse_dig (l : List UInt8) : ∀ acc : Nat, acc < 18446744073709551616 → l.all dig = true →
    Lib.parseUint10 acc l = if val acc l < 18446744073709551616 then .ok (val acc l) else .range := by
  induction l with
  | nil =>
    intro acc ha _
    rw [val_nil, if_pos ha, Lib.parseUint10]
  | cons c r ih =>
    intro acc ha hd
    simp only [List.all_cons, Bool.and_eq_true] at hd
    obtain ⟨hc, hr⟩ := hd
    simp only [dig, Bool.and_eq_true, decide_eq_true_eq] at hc
    have hv := val_le r (acc * 10 + (c.toNat - 48))
    have hi := ih (acc * 10 + (c.toNat - 48))
    rw [val_cons, Lib.parseUint10, if_pos hc]
    generalize val (acc * 10 + (c.toNat - 48)) r = v at hv hi ⊢
    by_cases h1 : 1844674407370955162 ≤ acc
    · rw [if_pos h1, if_neg (by omega)]
    · rw [if_neg h1]
      by_cases h2 : 18446744073709551616 ≤ acc * 10 + (c.toNat - 48)
      · rw [if_pos h2, if_neg (by omega)]
      · rw [if_neg h2]
        exact hi (by omega) hr

/-- Of a decimal number strconv.Atoi tells the number, or that it is out of range. -/
theorem atoi_dec (l : List UInt8) (h : isDec l = true) :
    Lib.atoiAll l = if val 0 l < 9223372036854775808 then .ok (val 0 l : Int) else .range := by
  cases l with
  | nil => simp [isDec] at h
  | cons c r =>
    simp only [isDec, Bool.and_eq_true] at h
    obtain ⟨_, h2⟩ := h
    have h3 := h2
    simp only [List.all_cons, Bool.and_eq_true] at h3
    obtain ⟨hc, _⟩ := h3
    simp only [dig, Bool.and_eq_true, decide_eq_true_eq] at hc
    have hp := parse_dig (c :: r) 0 (by decide) h2
    have e1 : ¬ (c.toNat = 43 ∨ c.toNat = 45) := by omega
    have e2 : ¬ c.toNat = 45 := by omega
    have hm : Lib.parseMag (c :: r) = if val 0 (c :: r) < 18446744073709551616 then .ok (val 0 (c :: r)) else .range := by
      unfold Lib.parseMag
      rw [if_neg (by simp)]
      exact hp
    generalize val 0 (c :: r) = v at hm ⊢
    unfold Lib.atoiAll
    simp only []
    rw [if_neg e1, hm]
    by_cases b1 : v < 18446744073709551616
    · rw [if_pos b1]
      simp only []
      by_cases b2 : v < 9223372036854775808
      · rw [if_neg (by omega), if_neg (by omega), if_neg e2, if_pos b2]
      · rw [if_pos (by omega), if_neg b2]
    · rw [if_neg b1, if_neg (by omega)]

/-- The digits up to place k, and one more. -/
theorem take_snoc (s : ByteArray) (k : Nat) (h : k < s.size) : s.data.toList.take (k + 1) = s.data.toList.take k ++ [s[k]] := by
  rw [List.take_succ_eq_append_getElem (by simpa using h)]; rfl

theorem val_snoc (s : ByteArray) (k : Nat) (h : k < s.size) : val 0 (s.data.toList.take (k + 1)) = val 0 (s.data.toList.take k) * 10 + (s[k].toNat - 48) := by
  rw [take_snoc s k h, val_append, val_cons, val_nil]

theorem all_snoc (s : ByteArray) (k : Nat) (h : k < s.size) : (s.data.toList.take (k + 1)).all dig = ((s.data.toList.take k).all dig && dig s[k]) := by
  rw [take_snoc s k h, List.all_append]; simp

end Go.Proofs.YtimpddokepbabaaGreatDoor
