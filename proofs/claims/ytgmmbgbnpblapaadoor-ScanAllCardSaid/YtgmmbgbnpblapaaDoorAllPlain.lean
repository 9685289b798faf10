/-
  THE PLAIN MATHEMATICS of the law ScanAll: lines one behind the other, each with a byte 10 at its end. No program in this text, but the worlds' words for bytes.
-/
import Derived.Test.YtgmmbgbnpblapaaDoorLine
import Derived.Lib.AppendStr
namespace Go.Proofs.YtgmmbgbnpblapaaDoor
open Go.RowKit

/-- All lines, each with its end. -/
def flat (l : List ByteArray) : List UInt8 := l.flatMap fun s => s.data.toList ++ [10]
/-- Bytes as numbers. -/
def nums (l : List UInt8) : List Int := l.map fun b => (b.toNat : Int)
/-- A line that the law takes. -/
def Good (s : ByteArray) : Prop := s.size ≤ 100 ∧ ∀ b ∈ s.data.toList, b ≠ 10

theorem nums_append (a b : List UInt8) : nums (a ++ b) = nums a ++ nums b := List.map_append
theorem nums_length (a : List UInt8) : (nums a).length = a.length := List.length_map _
theorem nums_bytes (a : List UInt8) : Bytes8 (nums a) := by
  intro n hn
  obtain ⟨b, _, rfl⟩ := List.mem_map.1 hn
  have := b.toNat_lt
  omega

theorem str_nums (s : ByteArray) : strOfNums (nums s.data.toList) = s := by
  apply ByteArray.ext
  apply Array.toList_inj.1
  rw [strOfNums_data, nums, List.map_map]
  conv => rhs; rw [← List.map_id s.data.toList]
  apply List.map_congr_left
  intro x _
  simp

theorem flat_append (a b : List ByteArray) : flat (a ++ b) = flat a ++ flat b := List.flatMap_append
theorem flat_one (s : ByteArray) : flat [s] = s.data.toList ++ [10] := by simp [flat]

theorem flat_succ (ss : List ByteArray) (k : Nat) (h : k < ss.length) : flat (ss.take (k + 1)) = flat (ss.take k) ++ (ss.getD k ByteArray.empty).data.toList ++ [10] := by
  rw [List.take_succ_eq_append_getElem h, flat_append, flat_one, List.getD_eq_getElem?_getD, List.getElem?_eq_getElem h, Option.getD_some, List.append_assoc]

theorem flat_split (ss : List ByteArray) (k : Nat) (h : k < ss.length) : flat ss = flat (ss.take k) ++ ((ss.getD k ByteArray.empty).data.toList ++ (10 :: flat (ss.drop (k + 1)))) := by
  have e : flat ss = flat (ss.take (k + 1)) ++ flat (ss.drop (k + 1)) := by rw [← flat_append, List.take_append_drop]
  rw [e, flat_succ ss k h]
  simp

theorem flat_len (ss : List ByteArray) (k : Nat) (hk : k ≤ ss.length) (hg : ∀ i, i < k → Good (ss.getD i ByteArray.empty)) : (flat (ss.take k)).length ≤ 101 * k := by
  induction k with
  | zero => simp [flat]
  | succ k ih =>
    have h1 := ih (by omega) (fun i hi => hg i (by omega))
    have h2 := (hg k (by omega)).1
    rw [flat_succ ss k (by omega)]
    have e : (ss.getD k ByteArray.empty).data.toList.length = (ss.getD k ByteArray.empty).size := Array.length_toList
    rw [List.length_append, List.length_append, e]
    simp only [List.length_cons, List.length_nil]
    omega

theorem flat_len_succ (ss : List ByteArray) (k : Nat) (h : k < ss.length) : (flat (ss.take (k + 1))).length = (flat (ss.take k)).length + (ss.getD k ByteArray.empty).size + 1 := by
  rw [flat_succ ss k h, List.length_append, List.length_append]
  have e : (ss.getD k ByteArray.empty).data.toList.length = (ss.getD k ByteArray.empty).size := Array.length_toList
  rw [e]
  rfl

/-- At each line's beginning the line is what stands up to the next byte 10. -/
theorem flat_hit (ss : List ByteArray) (k : Nat) (h : k < ss.length) (hg : Good (ss.getD k ByteArray.empty)) :
    Hit (nums (flat ss)) (flat (ss.take k)).length (ss.getD k ByteArray.empty).size ∧ strOfNums (((nums (flat ss)).drop (flat (ss.take k)).length).take (ss.getD k ByteArray.empty).size) = ss.getD k ByteArray.empty := by
  generalize hs : ss.getD k ByteArray.empty = s at *
  have e := flat_split ss k h
  rw [hs] at e
  have es : s.data.toList.length = s.size := Array.length_toList
  have e2 : nums (flat ss) = nums (flat (ss.take k)) ++ (nums s.data.toList ++ (10 :: nums (flat (ss.drop (k + 1))))) := by
    rw [e, nums_append, nums_append]; rfl
  have hl : (flat (ss.take k)).length = (nums (flat (ss.take k))).length := (nums_length _).symm
  rw [e2, hl]
  generalize nums (flat (ss.take k)) = A
  generalize nums (flat (ss.drop (k + 1))) = C
  refine ⟨⟨?_, ?_, ?_⟩, ?_⟩
  · rw [List.length_append, List.length_append, nums_length, es, List.length_cons]; omega
  · rw [List.getD_eq_getElem?_getD, List.getElem?_append_right (by omega), Nat.add_sub_cancel_left, List.getElem?_append_right (by rw [nums_length, es]; exact Nat.le_refl _), nums_length, es, Nat.sub_self]
    rfl
  · intro i hi
    have hi' : i < (nums s.data.toList).length := by rw [nums_length, es]; exact hi
    rw [List.getD_eq_getElem?_getD, List.getElem?_append_right (by omega), Nat.add_sub_cancel_left, List.getElem?_append_left hi', List.getElem?_eq_getElem hi', Option.getD_some]
    intro he
    have hm := List.getElem_mem hi'
    rw [he] at hm
    obtain ⟨b, hb, hb2⟩ := List.mem_map.1 hm
    apply hg.2 b hb
    apply UInt8.toNat_inj.1
    have e10 : (10 : UInt8).toNat = 10 := rfl
    omega
  · rw [List.drop_left, List.take_left' (by rw [nums_length, es])]
    exact str_nums s

theorem flat_miss (xs : List Int) : Miss xs xs.length := fun i hi => by omega

/-- The cells of bytes are the cells of their numbers. -/
theorem strCells_nums (s : ByteArray) : Lib.strCells s = (nums s.data.toList).map (Value.int .u8) := by
  rw [Lib.strCells, nums, List.map_map]; rfl

/-- A slice that the call has made, told as the walks of Line ask. -/
theorem row_of_own {w : World} {base : Nat} {v : Value} {n : Nat} {xs : List Int} (h : w.ownsRow base 5 1 v n (xs.map (Value.int .u8))) :
    ∃ a cap, v = .slice a n cap ∧ Row8 w a xs ∧ (a = none → cap = 0) ∧ xs.length = n ∧ n ≤ cap ∧ cap ≤ 9223372036854775807 := by
  have hl := h.1
  have hlen : xs.length = n := by simpa using hl
  rcases h.2 with ⟨rfl, rfl⟩ | ⟨g, cap, cur, rfl, hb, hg, hc, hm, hcs, ht⟩
  · exact ⟨none, 0, rfl, .inl ⟨rfl, List.eq_nil_of_length_eq_zero hlen⟩, fun _ => rfl, hlen, Nat.le_refl _, by decide⟩
  · refine ⟨some ⟨g, 0, none⟩, cap, rfl, .inr ⟨_, rfl, fun i hi => ?_⟩, (fun e => by cases e), hlen, hc, hm⟩
    exact h.cells rfl i _ (by rw [List.getElem?_map, List.getElem?_eq_getElem hi, List.getD_eq_getElem?_getD, List.getElem?_eq_getElem hi]; rfl)

end Go.Proofs.YtgmmbgbnpblapaaDoor
