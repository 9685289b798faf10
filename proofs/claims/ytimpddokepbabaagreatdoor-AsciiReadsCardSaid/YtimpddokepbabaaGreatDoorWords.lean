/-
  THE WALKS of layer 1: strings.Clone, split, Words (scan's and the reference's).
-/
import Derived.Test.YtimpddokepbabaaGreatDoorNumber
import Derived.Test.YtimpddokepbabaaGreatDoorShelfB
import Derived.Test.YtimpddokepbabaaGreatDoorWordsPlain
namespace Go.Proofs.YtimpddokepbabaaGreatDoor
open Go.RowKit

/-- internal/bytealg.MaxLen holds some number. -/
def EnvM (w : World) : Prop := ∃ m, w.cell? ⟨0, 0, none⟩ = some (.int .i64 m)

theorem EnvM.below {w w' : World} (h : EnvM w) (hb : Below w.heap.size w w') : EnvM w' := by
  obtain ⟨m, hv⟩ := h
  exact ⟨m, (hb.cell (show (⟨0, 0, none⟩ : Addr).block < w.heap.size from Lib.lt_of_cell hv)).trans hv⟩

set_option maxHeartbeats 400000 in
theorem clone_any (s : ByteArray) (w : World) (hs : s.size ≤ 281474976710656) :
    Calls Tryz.prog 130 #[.string s] w fun e w' => e = .returned (.string s) ∧ Below w.heap.size w w' := by
  go_enter Tryz.func130, Tryz.ntmps130
  go_wp2_with (go_at_call 147; refine (Tryz.stringslite_Clone _ _ hs).mono ?_; rintro e w' ⟨rfl, hb⟩)
  go_ret
  exact ⟨rfl, hb⟩

/-- The cells of texts. -/
def strC (l : List ByteArray) : Array Value := (l.map Value.string).toArray

theorem strC_size (l : List ByteArray) : (strC l).size = l.length := by simp [strC]
theorem strC_get (l : List ByteArray) (j : Nat) (h : j < l.length) : (strC l)[j]? = some (.string (l.getD j ByteArray.empty)) := by
  simp [strC, List.getD, List.getElem?_eq_getElem h]

theorem cell_new (w : World) (l : List ByteArray) (t : TypeId) (j : Nat) (h : j < l.length) : (w.alloc (.cells (strC l) t)).cell? ⟨w.heap.size, 0 + j, none⟩ = some (.string (l.getD j ByteArray.empty)) := by
  rw [World.cell?_alloc_at]
  · rw [Nat.zero_add]
    exact strC_get l j h
  · rfl

theorem piece_le (s : ByteArray) : ∀ k (t : ByteArray), t.size ≤ s.size → ∀ p ∈ Lib.splitB blank 0 k t, p.size ≤ s.size := by
  intro k
  induction k with
  | zero => intro t ht p hp; rw [Lib.splitB_zero] at hp; simp at hp; subst hp; exact ht
  | succ k ih =>
    intro t ht p hp
    rcases Lib.indexB_cases t blank with h | ⟨i, h, hi⟩
    · rw [Lib.splitB_miss _ _ _ _ h] at hp; simp at hp; subst hp; exact ht
    · rw [Lib.splitB_hit _ _ _ _ i h] at hp
      rcases List.mem_cons.1 hp with rfl | hp
      · rw [ByteArray.size_extract]; omega
      · exact ih _ (by rw [ByteArray.size_extract]; omega) p hp

theorem piece_size (s : ByteArray) (j : Nat) (h : j < (spl s).length) : ((spl s).getD j ByteArray.empty).size ≤ s.size := by
  apply piece_le s _ s (Nat.le_refl _)
  rw [List.getD_eq_getElem?_getD, List.getElem?_eq_getElem h]
  exact List.getElem_mem h

set_option maxHeartbeats 400000 in
theorem split_yes (s : ByteArray) (w : World) (hs : s.size ≤ 100000) (hE : EnvM w) (hok : okW s = true) :
    Calls Tryz.prog 84 #[.string s] w fun e w' => e = .returned (.tuple #[.slice (some ⟨w.heap.size, 0, none⟩) (spl s).length (spl s).length, .bool true]) ∧ w' = w.alloc (.cells (strC (spl s)) 9) := by
  obtain ⟨m, hm⟩ := hE
  have h1 := Tryz.strings_Split s blank m w (by omega) hm (by decide)
  rw [← spl_length s] at h1
  have h2 := Tryz.slices_Contains_string w.heap.size 0 (spl s).length (spl s).length (spl s) ⟨#[]⟩ (w.alloc (.cells (strC (spl s)) 9)) (Nat.le_refl _) (by have := spl_le s; omega) (fun j hj => cell_new w (spl s) 9 j hj)
  rw [List.take_length, contains_ok, hok] at h2
  have H1 := hide h1
  have H2 := hide h2
  clear h1 h2 hm hok
  go_enter Tryz.func84, Tryz.ntmps84
  go_wp2_with fail
  refine H1.out.mono ?_
  rintro e w1 ⟨rfl, rfl⟩
  go_wp2_with fail
  refine H2.out.mono ?_
  rintro e w1 ⟨rfl, rfl⟩
  go_wp2
  go_ret2
  exact ⟨rfl, rfl⟩

set_option maxHeartbeats 400000 in
theorem split_no (s : ByteArray) (w : World) (hs : s.size ≤ 100000) (hE : EnvM w) (hok : okW s = false) :
    Calls Tryz.prog 84 #[.string s] w fun e w' => e = .returned (.tuple #[.slice none 0 0, .bool false]) ∧ Below w.heap.size w w' := by
  obtain ⟨m, hm⟩ := hE
  have h1 := Tryz.strings_Split s blank m w (by omega) hm (by decide)
  rw [← spl_length s] at h1
  have h2 := Tryz.slices_Contains_string w.heap.size 0 (spl s).length (spl s).length (spl s) ⟨#[]⟩ (w.alloc (.cells (strC (spl s)) 9)) (Nat.le_refl _) (by have := spl_le s; omega) (fun j hj => cell_new w (spl s) 9 j hj)
  rw [List.take_length, contains_ok, hok] at h2
  have H1 := hide h1
  have H2 := hide h2
  clear h1 h2 hm hok
  go_enter Tryz.func84, Tryz.ntmps84
  go_wp2_with fail
  refine H1.out.mono ?_
  rintro e w1 ⟨rfl, rfl⟩
  go_wp2_with fail
  refine H2.out.mono ?_
  rintro e w1 ⟨rfl, rfl⟩
  go_wp2
  go_ret2
  exact ⟨rfl, (Below.refl _ _).alloc (Nat.le_refl _) _⟩
theorem cells_heap {w : World} {B k : Nat} {cs : Array Value} {t : TypeId} {v : Value} (h : w.heap[B]? = some (.cells cs t (0, 0))) (hv : cs[k]? = some v) : w.cell? ⟨B, k, none⟩ = some v ∧ w.frozen? ⟨B, k, none⟩ = false := by
  simp [World.cell?, World.frozen?, h, hv]

theorem set_same (cs : Array Value) (k : Nat) (v : Value) (hv : cs[k]? = some v) : cs.setIfInBounds k v = cs := by
  apply Array.ext_getElem?
  intro i
  rw [Array.getElem?_setIfInBounds]
  by_cases h : k = i
  · subst h
    rw [if_pos rfl, hv, if_pos (Array.getElem?_eq_some_iff.1 hv).1]
  · rw [if_neg h]

theorem set_heap {w : World} {B k : Nat} {cs : Array Value} {t : TypeId} {v : Value} (h : w.heap[B]? = some (.cells cs t (0, 0))) (hv : cs[k]? = some v) : (w.setCell ⟨B, k, none⟩ v).heap[B]? = some (.cells cs t (0, 0)) := by
  rw [heap_setCell_same w B k cs t v h, set_same cs k v hv]

theorem heap_new (w : World) (o : Obj) : (w.alloc o).heap[w.heap.size]? = some o := by
  show (w.heap.push o)[w.heap.size]? = _
  simp

end Go.Proofs.YtimpddokepbabaaGreatDoor
