/-
  CIRCUITS IN BYTES, pure: the numbers by 7 bits a byte, the grammar.
-/
import Derived.Test.YtimpddokepbabaaGreatDoorRd3
import Derived.Test.YtimpddokepbabaaGreatDoorDeltaGet
namespace Go.Proofs.YtimpddokepbabaaGreatDoor
open Go.RowKit

set_option maxHeartbeats 400000 in
theorem get_none (a : Option Addr) (cap : Nat) (w : World) :
    Calls Tryz.prog 120 #[.slice a 0 cap, .int .i64 0] w fun e w' => e = .returned (.tuple #[.int .i64 0, .int .i64 0, .int .i64 4]) ∧ w' = w := by
  go_enter Tryz.func120, Tryz.ntmps120
  go_wp2
  go_loop [18, 7] (fun i n => i = .int .i64 0 ∧ n = .int .u64 0) (fun _ _ => 0)
  case atStart => exact ⟨rfl, rfl⟩
  case round =>
    obtain ⟨rfl, rfl⟩ := hrel
    go_wp2
    go_ret3
    exact ⟨rfl, rfl⟩


/-- Where a number's last byte is. -/
def dFind (xs : List Int) (k : Nat) : Option Nat := [0, 1, 2, 3, 4].find? (fun d => decide (k + d < xs.length) && decide (xs.getD (k + d) 0 < 128))
def deltaS (xs : List Int) : Option Nat → Int × Option Nat
  | none => (0, none)
  | some k => match dFind xs k with
    | none => (0, none)
    | some d => if 2147483647 < acc xs k (d + 1) then (0, none) else (acc xs k (d + 1), some (k + d + 1))

theorem dFind_ends {xs : List Int} {k d : Nat} (h : Ends xs k d) : dFind xs k = some d := by
  obtain ⟨h5, hl, hm, hb⟩ := h
  have no : ∀ i, i < d → (decide (k + i < xs.length) && decide (xs.getD (k + i) 0 < 128)) = false := fun i hi => by
    rw [decide_eq_false (p := xs.getD (k + i) 0 < 128) (by have := hm i hi; omega)]; simp
  have yes : (decide (k + d < xs.length) && decide (xs.getD (k + d) 0 < 128)) = true := by
    rw [decide_eq_true hl, decide_eq_true hb]; rfl
  unfold dFind
  rcases (by omega : d = 0 ∨ d = 1 ∨ d = 2 ∨ d = 3 ∨ d = 4) with rfl | rfl | rfl | rfl | rfl
  · simp only [List.find?_cons, yes]
  · simp only [List.find?_cons, no 0 (by omega), yes]
  · simp only [List.find?_cons, no 0 (by omega), no 1 (by omega), yes]
  · simp only [List.find?_cons, no 0 (by omega), no 1 (by omega), no 2 (by omega), yes]
  · simp only [List.find?_cons, no 0 (by omega), no 1 (by omega), no 2 (by omega), no 3 (by omega), yes]
theorem dFind_no {xs : List Int} {k : Nat} (h : ∀ i, i < 5 → xs.length ≤ k + i ∨ 128 ≤ xs.getD (k + i) 0) : dFind xs k = none := by
  unfold dFind
  rw [List.find?_eq_none]
  intro d hd
  have h5 : d < 5 := by simp at hd; omega
  rcases h d h5 with h | h
  · rw [decide_eq_false (p := k + d < xs.length) (by omega)]; simp
  · rw [decide_eq_false (p := xs.getD (k + d) 0 < 128) (by omega)]; simp
theorem dFind_short {xs : List Int} {k d : Nat} (h : Short xs k d) : dFind xs k = none :=
  dFind_no (fun i _ => by
    by_cases hi : i < d
    · exact .inr (h.2.2 i hi)
    · exact .inl (by have := h.2.1; omega))
theorem dFind_long {xs : List Int} {k : Nat} (h : Long xs k) : dFind xs k = none := dFind_no (fun i hi => .inr (h.2 i hi))
theorem dFind_lt {xs : List Int} {k d : Nat} (h : dFind xs k = some d) : k + d < xs.length := by
  have := List.find?_some h
  simp at this
  exact this.1
theorem deltaS_at (xs : List Int) (k : Nat) : deltaS xs (some k) = match dFind xs k with
    | none => (0, none)
    | some d => if 2147483647 < acc xs k (d + 1) then (0, none) else (acc xs k (d + 1), some (k + d + 1)) := rfl
theorem deltaS_bd (xs : List Int) (st : Option Nat) : 0 ≤ (deltaS xs st).1 ∧ (deltaS xs st).1 ≤ 2147483647 := by
  have z : (0 : Int) ≤ 0 ∧ (0 : Int) ≤ 2147483647 := ⟨by decide, by decide⟩
  cases st with
  | none => exact z
  | some k =>
    rw [deltaS_at]
    cases dFind xs k with
    | none => exact z
    | some d =>
      by_cases hb : 2147483647 < acc xs k (d + 1)
      · simp only [if_pos hb]; exact z
      · simp only [if_neg hb]; exact ⟨(acc_bd xs k (d + 1)).1, by omega⟩

/-- The header of a circuit in bytes: all variables are Inputs, Latches or Ands. -/
def hdrEB (s : ByteArray) : Int := if hdrE s = 0 then (if (hdr9 s).getD 0 0 = (hdr9 s).getD 1 0 + (hdr9 s).getD 2 0 + (hdr9 s).getD 4 0 then 0 else 2) else hdrE s
def hdrLB (s : ByteArray) : List Int := if hdrEB s = 0 then hdr9 s else []
def inpB (_xs : List Int) (_top lit : Int) (st : Option Nat) : Int × Option Nat := (lit, st)
def latB (xs : List Int) (top lit : Int) (st : Option Nat) : Tri × Option Nat := ((lit, (rowS xs top 1 2 st).1.getD 0 0, (rowS xs top 1 2 st).1.getD 1 0), (rowS xs top 1 2 st).2)
def andB1 (xs : List Int) (lit : Int) (st : Option Nat) : Option Nat := if (decide (0 < (deltaS xs st).1) && decide ((deltaS xs st).1 ≤ lit)) = true then (deltaS xs st).2 else none
def andB (xs : List Int) (_top lit : Int) (st : Option Nat) : Tri × Option Nat :=
  ((lit, lit - (deltaS xs st).1, lit - (deltaS xs st).1 - (deltaS xs (andB1 xs lit st)).1), if decide ((deltaS xs (andB1 xs lit st)).1 ≤ lit - (deltaS xs st).1) = true then (deltaS xs (andB1 xs lit st)).2 else none)
def gramB : Gram := ⟨[97, 105, 103], hdrEB, hdrLB, inpB, latB, andB⟩

theorem hdrB_fit {s : ByteArray} (h : hdrEB s = 0) : HFit (hdrLB s) := by
  have h0 : hdrE s = 0 := by
    unfold hdrEB at h
    split at h
    · assumption
    · exact h
  have e : hdrLB s = hdrL s := by rw [hdrLB, if_pos h, hdrL, if_pos h0]
  rw [e]
  exact hdr_fit h0

/-- The document's example. -/
def exB : List Int := [97, 105, 103, 32, 49, 32, 49, 32, 48, 32, 48, 32, 48, 10]
theorem exB_read : gramB.readE exB = 0 ∧ (gramB.read exB).ins = [2] := by
  constructor <;> decide +kernel
end Go.Proofs.YtimpddokepbabaaGreatDoor
