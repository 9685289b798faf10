/-
  THE WALKS of layer 1: strings.Clone, split, Words (scan's and the reference's).
-/
import Derived.Test.YtgmmbgbnpblapaaDoorNumber
import Derived.Test.YtgmmbgbnpblapaaDoorShelfB
import Derived.Test.YtgmmbgbnpblapaaDoorWordsPlain
namespace Go.Proofs.YtgmmbgbnpblapaaDoor
open Go.RowKit

/-- internal/bytealg.MaxLen holds some number. -/
def EnvM (w : World) : Prop := ∃ m, w.cell? ⟨0, 0, none⟩ = some (.int .i64 m)

theorem EnvM.below {w w' : World} (h : EnvM w) (hb : Below w.heap.size w w') : EnvM w' := by
  obtain ⟨m, hv⟩ := h
  exact ⟨m, (hb.cell (show (⟨0, 0, none⟩ : Addr).block < w.heap.size from Lib.lt_of_cell hv)).trans hv⟩

set_option maxHeartbeats 400000 in
theorem clone_any (s : ByteArray) (w : World) (hs : s.size ≤ 281474976710656) :
    Calls Tryd.prog 24 #[.string s] w fun e w' => e = .returned (.string s) ∧ Below w.heap.size w w' := by
  go_enter Tryd.func24, Tryd.ntmps24
  go_wp2_with (go_at_call 30; refine (Tryd.stringslite_Clone _ _ hs).mono ?_; rintro e w' ⟨rfl, hb⟩)
  go_ret
  exact ⟨rfl, hb⟩

/-- The cells of texts. -/
def strC (l : List ByteArray) : Array Value := (l.map Value.string).toArray

theorem strC_size (l : List ByteArray) : (strC l).size = l.length := by simp [strC]
theorem strC_get (l : List ByteArray) (j : Nat) (h : j < l.length) : (strC l)[j]? = some (.string (l.getD j ByteArray.empty)) := by
  simp [strC, List.getD, List.getElem?_eq_getElem h]

theorem cell_new (w : World) (l : List ByteArray) (t : TypeId) (j : Nat) (h : j < l.length) : (w.alloc (.cells (strC l) t)).cell? ⟨w.heap.size, 0 + j, none⟩ = some (.string (l.getD j ByteArray.empty)) := by
  rw [World.cell?_alloc_at]
  · rw [Nat.zero_add]
    exact strC_get l j h
  · rfl

theorem piece_le (s : ByteArray) : ∀ k (t : ByteArray), t.size ≤ s.size → ∀ p ∈ Lib.splitB blank 0 k t, p.size ≤ s.size := by
  intro k
  induction k with
  | zero => intro t ht p hp; rw [Lib.splitB_zero] at hp; simp at hp; subst hp; exact ht
  | succ k ih =>
    intro t ht p hp
    rcases Lib.indexB_cases t blank with h | ⟨i, h, hi⟩
    · rw [Lib.splitB_miss _ _ _ _ h] at hp; simp at hp; subst hp; exact ht
    · rw [Lib.splitB_hit _ _ _ _ i h] at hp
      rcases List.mem_cons.1 hp with rfl | hp
      · rw [ByteArray.size_extract]; omega
      · exact ih _ (by rw [ByteArray.size_extract]; omega) p hp

theorem piece_size (s : ByteArray) (j : Nat) (h : j < (spl s).length) : ((spl s).getD j ByteArray.empty).size ≤ s.size := by
  apply piece_le s _ s (Nat.le_refl _)
  rw [List.getD_eq_getElem?_getD, List.getElem?_eq_getElem h]
  exact List.getElem_mem h

set_option maxHeartbeats 400000 in
theorem split_yes (s : ByteArray) (w : World) (hs : s.size ≤ 100000) (hE : EnvM w) (hok : okW s = true) :
    Calls Tryd.prog 23 #[.string s] w fun e w' => e = .returned (.tuple #[.slice (some ⟨w.heap.size, 0, none⟩) (spl s).length (spl s).length, .bool true]) ∧ w' = w.alloc (.cells (strC (spl s)) 9) := by
  obtain ⟨m, hm⟩ := hE
  have h1 := Tryd.strings_Split s blank m w (by omega) hm (by decide)
  rw [← spl_length s] at h1
  have h2 := Tryd.slices_Contains_string w.heap.size 0 (spl s).length (spl s).length (spl s) ⟨#[]⟩ (w.alloc (.cells (strC (spl s)) 9)) (Nat.le_refl _) (by have := spl_le s; omega) (fun j hj => cell_new w (spl s) 9 j hj)
  rw [List.take_length, contains_ok, hok] at h2
  have H1 := hide h1
  have H2 := hide h2
  clear h1 h2 hm hok
  go_enter Tryd.func23, Tryd.ntmps23
  go_wp2_with fail
  refine H1.out.mono ?_
  rintro e w1 ⟨rfl, rfl⟩
  go_wp2_with fail
  refine H2.out.mono ?_
  rintro e w1 ⟨rfl, rfl⟩
  go_wp2
  go_ret2
  exact ⟨rfl, rfl⟩

set_option maxHeartbeats 400000 in
theorem split_no (s : ByteArray) (w : World) (hs : s.size ≤ 100000) (hE : EnvM w) (hok : okW s = false) :
    Calls Tryd.prog 23 #[.string s] w fun e w' => e = .returned (.tuple #[.slice none 0 0, .bool false]) ∧ Below w.heap.size w w' := by
  obtain ⟨m, hm⟩ := hE
  have h1 := Tryd.strings_Split s blank m w (by omega) hm (by decide)
  rw [← spl_length s] at h1
  have h2 := Tryd.slices_Contains_string w.heap.size 0 (spl s).length (spl s).length (spl s) ⟨#[]⟩ (w.alloc (.cells (strC (spl s)) 9)) (Nat.le_refl _) (by have := spl_le s; omega) (fun j hj => cell_new w (spl s) 9 j hj)
  rw [List.take_length, contains_ok, hok] at h2
  have H1 := hide h1
  have H2 := hide h2
  clear h1 h2 hm hok
  go_enter Tryd.func23, Tryd.ntmps23
  go_wp2_with fail
  refine H1.out.mono ?_
  rintro e w1 ⟨rfl, rfl⟩
  go_wp2_with fail
  refine H2.out.mono ?_
  rintro e w1 ⟨rfl, rfl⟩
  go_wp2
  go_ret2
  exact ⟨rfl, (Below.refl _ _).alloc (Nat.le_refl _) _⟩
theorem cell_heap {w : World} {B k : Nat} {cs : Array Value} {t : TypeId} {v : Value} (h : w.heap[B]? = some (.cells cs t (0, 0))) (hv : cs[k]? = some v) : w.cell? ⟨B, k, none⟩ = some v ∧ w.frozen? ⟨B, k, none⟩ = false := by
  simp [World.cell?, World.frozen?, h, hv]

theorem set_same (cs : Array Value) (k : Nat) (v : Value) (hv : cs[k]? = some v) : cs.setIfInBounds k v = cs := by
  apply Array.ext_getElem?
  intro i
  rw [Array.getElem?_setIfInBounds]
  by_cases h : k = i
  · subst h
    rw [if_pos rfl, hv, if_pos (Array.getElem?_eq_some_iff.1 hv).1]
  · rw [if_neg h]

theorem set_heap {w : World} {B k : Nat} {cs : Array Value} {t : TypeId} {v : Value} (h : w.heap[B]? = some (.cells cs t (0, 0))) (hv : cs[k]? = some v) : (w.setCell ⟨B, k, none⟩ v).heap[B]? = some (.cells cs t (0, 0)) := by
  rw [heap_setCell_same w B k cs t v h, set_same cs k v hv]

theorem heap_new (w : World) (o : Obj) : (w.alloc o).heap[w.heap.size]? = some o := by
  show (w.heap.push o)[w.heap.size]? = _
  simp

set_option maxRecDepth 100000 in
set_option maxHeartbeats 400000 in
theorem words_yes (s : ByteArray) (w : World) (hs : s.size ≤ 100000) (hE : EnvM w) (hok : okW s = true) :
    Calls Tryd.prog 14 #[.string s] w fun e w' => e = .returned (.tuple #[.slice (some ⟨w.heap.size, 0, none⟩) (spl s).length (spl s).length, .bool true]) ∧ w'.heap[w.heap.size]? = some (.cells (strC (spl s)) 9 (0, 0)) ∧ Below w.heap.size w w' := by
  have H1 := hide (split_yes s w hs hE hok)
  have hle := spl_le s
  have HZ := hide (fun j hj => piece_size s j hj)
  clear hE hok
  generalize spl s = l at *
  obtain ⟨n, hn⟩ : ∃ n, n = l.length := ⟨_, rfl⟩
  rw [← hn] at H1 hle ⊢
  have HN := hide hn
  clear hn
  go_enter Tryd.func14, Tryd.ntmps14
  go_wp2_with fail
  refine H1.out.mono ?_
  rintro e w1 ⟨rfl, rfl⟩
  go_wp2
  go_loopw [15] (fun i wr => ∃ k : Nat, k ≤ n ∧ i = .int .i64 k ∧ wr.heap[w.heap.size]? = some (.cells (strC l) 9 (0, 0)) ∧ Below w.heap.size w wr) (fun i _ => n - (intOf i).toNat)
  case atStart => exact ⟨0, Nat.zero_le _, rfl, heap_new _ _, (Below.refl _ _).alloc (Nat.le_refl _) _⟩
  case round =>
    obtain ⟨k, hk, rfl, hh, hb⟩ := hrel
    by_cases hlt : k < n
    · have hg := strC_get l k (by rw [← HN.out]; exact hlt)
      have hz := HZ.out k (by rw [← HN.out]; exact hlt)
      obtain ⟨p, hp⟩ : ∃ p, p = l.getD k ByteArray.empty := ⟨_, rfl⟩
      rw [← hp] at hg hz
      clear hp
      have hB : w.heap.size < wr.heap.size := (Array.getElem?_eq_some_iff.1 hh).1
      obtain ⟨hc, _⟩ := cell_heap hh hg
      have HH := hide hh
      have HG := hide hg
      clear hh hg
      go_wp2_with fail
      refine (clone_any p _ (by omega)).mono ?_
      rintro e w2 ⟨rfl, hb2⟩
      have hh2 : w2.heap[w.heap.size]? = some (.cells (strC l) 9 (0, 0)) := (hb2.block _ hB).trans HH.out
      obtain ⟨hc2, hf2⟩ := cell_heap hh2 HG.out
      have HS := hide (set_heap hh2 HG.out)
      have HB := hide ((hb.trans (hb2.mono hb.size)).setCell (p := ⟨w.heap.size, k, none⟩) (Nat.le_refl _) (.string p))
      clear hh2 hc hb hb2
      go_wp2
      go_roundw
      case rel => exact ⟨k + 1, by omega, by go_num, HS.out, HB.out⟩
      case measure => simp [intOf]; omega
    · go_wp2
      go_ret2
      exact ⟨rfl, hh, hb⟩

set_option maxHeartbeats 400000 in
theorem words_no (s : ByteArray) (w : World) (hs : s.size ≤ 100000) (hE : EnvM w) (hok : okW s = false) :
    Calls Tryd.prog 14 #[.string s] w fun e w' => e = .returned (.tuple #[.slice none 0 0, .bool false]) ∧ Below w.heap.size w w' := by
  have H1 := hide (split_no s w hs hE hok)
  clear hE hok
  go_enter Tryd.func14, Tryd.ntmps14
  go_wp2_with fail
  refine H1.out.mono ?_
  rintro e w1 ⟨rfl, hb⟩
  go_wp2
  go_loop [15] (fun i => i = .int .i64 0) (fun _ => 0)
  case atStart => rfl
  case round =>
    subst hrel
    go_wp2
    go_ret2
    exact ⟨rfl, hb⟩
end Go.Proofs.YtgmmbgbnpblapaaDoor
