/-
  A TEXT AS BYTES IN MEMORY; a list's cells where it is laid anew.
-/
import Derived.Test.YtimpddokepbabaaGreatDoorRd3
import Derived.Lib.ConvBytes
namespace Go.Proofs.YtimpddokepbabaaGreatDoor
open Go.RowKit

def numsOf (s : ByteArray) : List Int := s.data.toList.map (fun b => (b.toNat : Int))
theorem numsOf_len (s : ByteArray) : (numsOf s).length = s.size := by
  rw [numsOf, List.length_map]; exact Array.length_toList
theorem numsOf_bytes (s : ByteArray) : Bytes8 (numsOf s) := fun n hn => by
  obtain ⟨b, -, rfl⟩ := List.mem_map.1 hn
  have := b.toNat_lt
  omega
theorem numsOf_get (s : ByteArray) (i : Nat) (hi : i < s.size) : (numsOf s).getD i 0 = ((s.data.toList.getD i 0).toNat : Int) := by
  have hl : i < s.data.toList.length := by rw [Array.length_toList]; exact hi
  rw [numsOf, List.getD_eq_getElem?_getD, List.getElem?_map, List.getElem?_eq_getElem hl, List.getD_eq_getElem?_getD, List.getElem?_eq_getElem hl]
  rfl
/-- A text as bytes. -/
theorem txt_str {w : World} (hE : Env w) (hM : EnvM w) (s : ByteArray) (hs : s.size ≤ 100000) : Txt (Lib.bytesWorld w 5 s) (some ⟨w.heap.size, 0, none⟩) s.size (grownCap w s.size 0 5) (numsOf s) ∧ Below w.heap.size w (Lib.bytesWorld w 5 s) := by
  have hb : Below w.heap.size w (Lib.bytesWorld w 5 s) := ⟨rfl, rfl, rfl, by rw [Lib.bytesWorld_size]; omega, fun k hk => Lib.bytesWorld_at_old w _ s k hk⟩
  refine ⟨⟨.inr ⟨_, rfl, fun i hi => ?_⟩, numsOf_len s, fun e => (by cases e), grownCap_ge w s.size 0 _, grownCap_le_maxLen w s.size 0 _ (by unfold maxLen; omega), numsOf_bytes s, hs, hE.below hb, hM.below hb⟩, hb⟩
  rw [numsOf_len] at hi
  rw [add_plain, Nat.zero_add, Lib.bytesWorld_cell w _ s i hi, numsOf_get s i hi]
theorem cells_at (w : World) (l : List Value) (t : TypeId) (k : Nat) (v : Value) (h : l[k]? = some v) : (w.alloc (.cells l.toArray t)).cell? ⟨w.heap.size, k, none⟩ = some v := by
  rw [cell_of_row _ _ k _ t (0, 0) (heap_alloc_new w _)]
  simpa using h
end Go.Proofs.YtimpddokepbabaaGreatDoor
