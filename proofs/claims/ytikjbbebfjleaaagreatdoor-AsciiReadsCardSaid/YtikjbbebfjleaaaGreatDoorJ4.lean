/-
  THE PLAIN MATHEMATICS of Words: the parts of a text between single blanks. No program in this text.
  THE WALKS of layer 1: strings.Clone, split, Words (scan's and the reference's).
-/
import Derived.Lib.SplitLaws
import Derived.Lib.SlicesS
import Derived.Lib.IndexLaws
import Derived.Test.YtikjbbebfjleaaaGreatDoorNumber
import Derived.Test.YtikjbbebfjleaaaGreatDoorShelfB
namespace Go.Proofs.YtikjbbebfjleaaaGreatDoor
open Go

/-- A blank. -/
def blank : ByteArray := ⟨#[32]⟩
/-- The parts between blanks. -/
def spl (s : ByteArray) : List ByteArray := Lib.splitB blank 0 (Lib.countB s blank) s
/-- None of them is empty. -/
def okW (s : ByteArray) : Bool := (spl s).all fun p => p.size != 0

theorem blank_size : blank.size = 1 := rfl

theorem indexB_blank (s : ByteArray) : Lib.indexB s blank = Lib.indexByte s.data.toList 32 := by
  have h := Lib.one s blank blank_size
  rw [h]
  rfl

theorem idx_eq (l : List UInt8) (c : UInt8) (o : Nat) (h1 : l[o]? = some c) (h2 : ∀ k : Nat, k < o → l[k]? ≠ some c) : Lib.indexByte l c = o := by
  have hge := Lib.indexByte_ge l c
  by_cases hn : Lib.indexByte l c = -1
  · exact absurd h1 (Lib.indexByte_none hn o)
  · obtain ⟨o', ho⟩ : ∃ o' : Nat, Lib.indexByte l c = o' := ⟨(Lib.indexByte l c).toNat, by omega⟩
    obtain ⟨h3, h4⟩ := Lib.indexByte_some ho
    rw [ho]
    by_cases hlt : o < o'
    · exact absurd h1 (h4 o hlt)
    · by_cases hgt : o' < o
      · exact absurd h3 (h2 o' hgt)
      · omega

theorem idx_no (l : List UInt8) (c : UInt8) (h : ∀ k : Nat, l[k]? ≠ some c) : Lib.indexByte l c = -1 := by
  have hge := Lib.indexByte_ge l c
  by_cases hn : Lib.indexByte l c = -1
  · exact hn
  · obtain ⟨o', ho⟩ : ∃ o' : Nat, Lib.indexByte l c = o' := ⟨(Lib.indexByte l c).toNat, by omega⟩
    exact absurd (Lib.indexByte_some ho).1 (h o')

theorem spl_miss (s : ByteArray) (h : ∀ k : Nat, s.data.toList[k]? ≠ some 32) : spl s = [s] :=
  Lib.splitB_miss _ _ _ _ (by rw [indexB_blank]; exact idx_no _ _ h)

theorem spl_hit (s : ByteArray) (i : Nat) (h1 : s.data.toList[i]? = some 32) (h2 : ∀ k : Nat, k < i → s.data.toList[k]? ≠ some 32) : spl s = s.extract 0 i :: spl (s.extract (i + 1) s.size) := by
  have hi : Lib.indexB s blank = i := by rw [indexB_blank]; exact idx_eq _ _ _ h1 h2
  have hc := Lib.countB_hit s blank i (by decide) hi
  unfold spl
  rw [hc, Nat.add_comm, Lib.splitB_hit _ _ _ _ i hi, blank_size]
  rfl

theorem spl_length (s : ByteArray) : (spl s).length = Lib.countB s blank + 1 := Lib.splitB_all blank (by decide) 0 _ s rfl
theorem spl_pos (s : ByteArray) : 0 < (spl s).length := by rw [spl_length]; omega
theorem spl_le (s : ByteArray) : (spl s).length ≤ s.size + 1 := by
  rw [spl_length]
  have := Lib.countB_le blank (by decide) s.size s (Nat.le_refl _)
  omega

/-- The text from a place on. -/
def from_ (s : ByteArray) (k : Nat) : ByteArray := s.extract k s.size

theorem from_list (s : ByteArray) (k : Nat) : (from_ s k).data.toList = s.data.toList.drop k := Lib.extract_to_end s k
theorem from_get (s : ByteArray) (k i : Nat) : (from_ s k).data.toList[i]? = s.data.toList[k + i]? := by rw [from_list, List.getElem?_drop]
theorem from_size (s : ByteArray) (k : Nat) (h : k ≤ s.size) : (from_ s k).size = s.size - k := by
  unfold from_
  rw [ByteArray.size_extract]; omega
theorem from_zero (s : ByteArray) : from_ s 0 = s := by
  apply ByteArray.ext; apply Array.toList_inj.1
  rw [from_list, List.drop_zero]
theorem from_from (s : ByteArray) (k i : Nat) : (from_ s k).extract i (from_ s k).size = from_ s (k + i) := by
  apply ByteArray.ext; apply Array.toList_inj.1
  show (from_ (from_ s k) i).data.toList = _
  rw [from_list, from_list, from_list, List.drop_drop]
theorem from_cut (s : ByteArray) (k i : Nat) (_h : k + i ≤ s.size) : (from_ s k).extract 0 i = s.extract k (k + i) := by
  apply ByteArray.ext; apply Array.toList_inj.1
  rw [Lib.extract_data, from_list, Lib.extract_data]
  simp

/-- No blank between two places. -/
def NoBl (s : ByteArray) (f i : Nat) : Prop := ∀ j, f ≤ j → j < i → s.data.toList[j]? ≠ some 32

theorem spl_step (s : ByteArray) (f i : Nat) (hf : f ≤ i) (hi : i < s.size) (hn : NoBl s f i) (hb : s.data.toList[i]? = some 32) : spl (from_ s f) = s.extract f i :: spl (from_ s (i + 1)) := by
  have h := spl_hit (from_ s f) (i - f) (by rw [from_get, show f + (i - f) = i by omega]; exact hb) (fun k hk => by rw [from_get]; exact hn (f + k) (by omega) (by omega))
  rw [from_from, from_cut s f (i - f) (by omega), show f + (i - f) = i by omega, show f + (i - f + 1) = i + 1 by omega] at h
  exact h

theorem spl_last (s : ByteArray) (f : Nat) (_hf : f ≤ s.size) (hn : NoBl s f s.size) : spl (from_ s f) = [s.extract f s.size] :=
  spl_miss _ (fun k => by
    rw [from_get]
    by_cases h : f + k < s.size
    · exact hn (f + k) (by omega) h
    · rw [List.getElem?_eq_none (by rw [Array.length_toList]; exact Nat.not_lt.1 h)]
      intro e; cases e)

theorem at_blank (s : ByteArray) (i : Nat) (h : i < s.size) : s.data.toList[i]? = some 32 ↔ (s[i].toNat : Int) = 32 := by
  rw [List.getElem?_eq_getElem (by simpa using h)]
  constructor
  · intro e
    have e2 : s[i] = 32 := Option.some.inj e
    rw [e2]; rfl
  · intro e
    have e2 : s[i] = 32 := by
      apply UInt8.toNat_inj.1
      have : (32 : UInt8).toNat = 32 := rfl
      omega
    exact congrArg some e2

theorem mem_extract_size (s : ByteArray) (f i : Nat) (hf : f ≤ i) (hi : i ≤ s.size) : (s.extract f i).size = i - f := by
  rw [ByteArray.size_extract]; omega

theorem okW_of (s : ByteArray) (p : ByteArray) (h : p ∈ spl s) (h0 : p.size = 0) : okW s = false := by
  unfold okW
  rw [List.all_eq_false]
  exact ⟨p, h, by simp [h0]⟩

theorem contains_ok (s : ByteArray) : Lib.containsS (spl s) ⟨#[]⟩ = !okW s := by
  rw [Bool.eq_iff_iff, Lib.containsS_iff]
  simp only [okW, Bool.not_eq_true', List.all_eq_false]
  constructor
  · intro h
    exact ⟨_, h, by decide⟩
  · rintro ⟨p, hp, h0⟩
    have h0 : p.size = 0 := by simpa using h0
    have : p = ⟨#[]⟩ := by
      apply ByteArray.ext
      exact Array.size_eq_zero_iff.1 h0
    rw [← this]; exact hp
end Go.Proofs.YtikjbbebfjleaaaGreatDoor

namespace Go.Proofs.YtikjbbebfjleaaaGreatDoor
open Go.RowKit

/-- internal/bytealg.MaxLen holds some number. -/
def EnvM (w : World) : Prop := ∃ m, w.cell? ⟨0, 0, none⟩ = some (.int .i64 m)

theorem EnvM.below {w w' : World} (h : EnvM w) (hb : Below w.heap.size w w') : EnvM w' := by
  obtain ⟨m, hv⟩ := h
  exact ⟨m, (hb.cell (show (⟨0, 0, none⟩ : Addr).block < w.heap.size from Lib.lt_of_cell hv)).trans hv⟩

set_option maxHeartbeats 400000 in
theorem clone_any (s : ByteArray) (w : World) (hs : s.size ≤ 281474976710656) :
    Calls Tryz.prog 130 #[.string s] w fun e w' => e = .returned (.string s) ∧ Below w.heap.size w w' := by
  go_enter Tryz.func130, Tryz.ntmps130
  go_wp2_with (go_at_call 147; refine (Tryz.stringslite_Clone _ _ hs).mono ?_; rintro e w' ⟨rfl, hb⟩)
  go_ret
  exact ⟨rfl, hb⟩

/-- The cells of texts. -/
def strC (l : List ByteArray) : Array Value := (l.map Value.string).toArray

theorem strC_size (l : List ByteArray) : (strC l).size = l.length := by simp [strC]
theorem strC_get (l : List ByteArray) (j : Nat) (h : j < l.length) : (strC l)[j]? = some (.string (l.getD j ByteArray.empty)) := by
  simp [strC, List.getD, List.getElem?_eq_getElem h]

theorem cell_new (w : World) (l : List ByteArray) (t : TypeId) (j : Nat) (h : j < l.length) : (w.alloc (.cells (strC l) t)).cell? ⟨w.heap.size, 0 + j, none⟩ = some (.string (l.getD j ByteArray.empty)) := by
  rw [World.cell?_alloc_at]
  · rw [Nat.zero_add]
    exact strC_get l j h
  · rfl

theorem piece_le (s : ByteArray) : ∀ k (t : ByteArray), t.size ≤ s.size → ∀ p ∈ Lib.splitB blank 0 k t, p.size ≤ s.size := by
  intro k
  induction k with
  | zero => intro t ht p hp; rw [Lib.splitB_zero] at hp; simp at hp; subst hp; exact ht
  | succ k ih =>
    intro t ht p hp
    rcases Lib.indexB_cases t blank with h | ⟨i, h, hi⟩
    · rw [Lib.splitB_miss _ _ _ _ h] at hp; simp at hp; subst hp; exact ht
    · rw [Lib.splitB_hit _ _ _ _ i h] at hp
      rcases List.mem_cons.1 hp with rfl | hp
      · rw [ByteArray.size_extract]; omega
      · exact ih _ (by rw [ByteArray.size_extract]; omega) p hp

theorem piece_size (s : ByteArray) (j : Nat) (h : j < (spl s).length) : ((spl s).getD j ByteArray.empty).size ≤ s.size := by
  apply piece_le s _ s (Nat.le_refl _)
  rw [List.getD_eq_getElem?_getD, List.getElem?_eq_getElem h]
  exact List.getElem_mem h

set_option maxHeartbeats 400000 in
theorem split_yes (s : ByteArray) (w : World) (hs : s.size ≤ 100000) (hE : EnvM w) (hok : okW s = true) :
    Calls Tryz.prog 84 #[.string s] w fun e w' => e = .returned (.tuple #[.slice (some ⟨w.heap.size, 0, none⟩) (spl s).length (spl s).length, .bool true]) ∧ w' = w.alloc (.cells (strC (spl s)) 9) := by
  obtain ⟨m, hm⟩ := hE
  have h1 := Tryz.strings_Split s blank m w (by omega) hm (by decide)
  rw [← spl_length s] at h1
  have h2 := Tryz.slices_Contains_string w.heap.size 0 (spl s).length (spl s).length (spl s) ⟨#[]⟩ (w.alloc (.cells (strC (spl s)) 9)) (Nat.le_refl _) (by have := spl_le s; omega) (fun j hj => cell_new w (spl s) 9 j hj)
  rw [List.take_length, contains_ok, hok] at h2
  have H1 := hide h1
  have H2 := hide h2
  clear h1 h2 hm hok
  go_enter Tryz.func84, Tryz.ntmps84
  go_wp2_with fail
  refine H1.out.mono ?_
  rintro e w1 ⟨rfl, rfl⟩
  go_wp2_with fail
  refine H2.out.mono ?_
  rintro e w1 ⟨rfl, rfl⟩
  go_wp2
  go_ret2
  exact ⟨rfl, rfl⟩

set_option maxHeartbeats 400000 in
theorem split_no (s : ByteArray) (w : World) (hs : s.size ≤ 100000) (hE : EnvM w) (hok : okW s = false) :
    Calls Tryz.prog 84 #[.string s] w fun e w' => e = .returned (.tuple #[.slice none 0 0, .bool false]) ∧ Below w.heap.size w w' := by
  obtain ⟨m, hm⟩ := hE
  have h1 := Tryz.strings_Split s blank m w (by omega) hm (by decide)
  rw [← spl_length s] at h1
  have h2 := Tryz.slices_Contains_string w.heap.size 0 (spl s).length (spl s).length (spl s) ⟨#[]⟩ (w.alloc (.cells (strC (spl s)) 9)) (Nat.le_refl _) (by have := spl_le s; omega) (fun j hj => cell_new w (spl s) 9 j hj)
  rw [List.take_length, contains_ok, hok] at h2
  have H1 := hide h1
  have H2 := hide h2
  clear h1 h2 hm hok
  go_enter Tryz.func84, Tryz.ntmps84
  go_wp2_with fail
  refine H1.out.mono ?_
  rintro e w1 ⟨rfl, rfl⟩
  go_wp2_with fail
  refine H2.out.mono ?_
  rintro e w1 ⟨rfl, rfl⟩
  go_wp2
  go_ret2
  exact ⟨rfl, (Below.refl _ _).alloc (Nat.le_refl _) _⟩
theorem cells_heap {w : World} {B k : Nat} {cs : Array Value} {t : TypeId} {v : Value} (h : w.heap[B]? = some (.cells cs t (0, 0))) (hv : cs[k]? = some v) : w.cell? ⟨B, k, none⟩ = some v ∧ w.frozen? ⟨B, k, none⟩ = false := by
  simp [World.cell?, World.frozen?, h, hv]

theorem set_same (cs : Array Value) (k : Nat) (v : Value) (hv : cs[k]? = some v) : cs.setIfInBounds k v = cs := by
  apply Array.ext_getElem?
  intro i
  rw [Array.getElem?_setIfInBounds]
  by_cases h : k = i
  · subst h
    rw [if_pos rfl, hv, if_pos (Array.getElem?_eq_some_iff.1 hv).1]
  · rw [if_neg h]

theorem set_heap {w : World} {B k : Nat} {cs : Array Value} {t : TypeId} {v : Value} (h : w.heap[B]? = some (.cells cs t (0, 0))) (hv : cs[k]? = some v) : (w.setCell ⟨B, k, none⟩ v).heap[B]? = some (.cells cs t (0, 0)) := by
  rw [heap_setCell_same w B k cs t v h, set_same cs k v hv]

theorem heap_new (w : World) (o : Obj) : (w.alloc o).heap[w.heap.size]? = some o := by
  show (w.heap.push o)[w.heap.size]? = _
  simp

end Go.Proofs.YtikjbbebfjleaaaGreatDoor
