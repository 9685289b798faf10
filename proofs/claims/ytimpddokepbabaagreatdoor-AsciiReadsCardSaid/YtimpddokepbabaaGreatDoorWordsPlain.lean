/-
  THE PLAIN MATHEMATICS of Words: the parts of a text between single blanks. No program in this text.
-/
import Derived.Lib.SplitLaws
import Derived.Lib.SlicesS
import Derived.Lib.IndexLaws
namespace Go.Proofs.YtimpddokepbabaaGreatDoor
open Go

/-- A blank. -/
def blank : ByteArray := ⟨#[32]⟩
/-- The parts between blanks. -/
def spl (s : ByteArray) : List ByteArray := Lib.splitB blank 0 (Lib.countB s blank) s
/-- None of them is empty. -/
def okW (s : ByteArray) : Bool := (spl s).all fun p => p.size != 0

theorem blank_size : blank.size = 1 := rfl

theorem indexB_blank (s : ByteArray) : Lib.indexB s blank = Lib.indexByte s.data.toList 32 := by
  have h := Lib.one s blank blank_size
  rw [h]
  rfl

theorem idx_eq (l : List UInt8) (c : UInt8) (o : Nat) (h1 : l[o]? = some c) (h2 : ∀ k : Nat, k < o → l[k]? ≠ some c) : Lib.indexByte l c = o := by
  have hge := Lib.indexByte_ge l c
  by_cases hn : Lib.indexByte l c = -1
  · exact absurd h1 (Lib.indexByte_none hn o)
  · obtain ⟨o', ho⟩ : ∃ o' : Nat, Lib.indexByte l c = o' := ⟨(Lib.indexByte l c).toNat, by omega⟩
    obtain ⟨h3, h4⟩ := Lib.indexByte_some ho
    rw [ho]
    by_cases hlt : o < o'
    · exact absurd h1 (h4 o hlt)
    · by_cases hgt : o' < o
      · exact absurd h3 (h2 o' hgt)
      · omega

theorem idx_no (l : List UInt8) (c : UInt8) (h : ∀ k : Nat, l[k]? ≠ some c) : Lib.indexByte l c = -1 := by
  have hge := Lib.indexByte_ge l c
  by_cases hn : Lib.indexByte l c = -1
  · exact hn
  · obtain ⟨o', ho⟩ : ∃ o' : Nat, Lib.indexByte l c = o' := ⟨(Lib.indexByte l c).toNat, by omega⟩
    exact absurd (Lib.indexByte_some ho).1 (h o')

theorem spl_miss (s : ByteArray) (h : ∀ k : Nat, s.data.toList[k]? ≠ some 32) : spl s = [s] :=
  Lib.splitB_miss _ _ _ _ (by rw [indexB_blank]; exact idx_no _ _ h)

theorem spl_hit (s : ByteArray) (i : Nat) (h1 : s.data.toList[i]? = some 32) (h2 : ∀ k : Nat, k < i → s.data.toList[k]? ≠ some 32) : spl s = s.extract 0 i :: spl (s.extract (i + 1) s.size) := by
  have hi : Lib.indexB s blank = i := by rw [indexB_blank]; exact idx_eq _ _ _ h1 h2
  have hc := Lib.countB_hit s blank i (by decide) hi
  unfold spl
  rw [hc, Nat.add_comm, Lib.splitB_hit _ _ _ _ i hi, blank_size]
  rfl

theorem spl_length (s : ByteArray) : (spl s).length = Lib.countB s blank + 1 := Lib.splitB_all blank (by decide) 0 _ s rfl
theorem spl_pos (s : ByteArray) : 0 < (spl s).length := by rw [spl_length]; omega
theorem spl_le (s : ByteArray) : (spl s).length ≤ s.size + 1 := by
  rw [spl_length]
  have := Lib.countB_le blank (by decide) s.size s (Nat.le_refl _)
  omega

/-- The text from a place on. -/
def from_ (s : ByteArray) (k : Nat) : ByteArray := s.extract k s.size

theorem from_list (s : ByteArray) (k : Nat) : (from_ s k).data.toList = s.data.toList.drop k := Lib.extract_to_end s k
theorem from_get (s : ByteArray) (k i : Nat) : (from_ s k).data.toList[i]? = s.data.toList[k + i]? := by rw [from_list, List.getElem?_drop]
theorem from_size (s : ByteArray) (k : Nat) (h : k ≤ s.size) : (from_ s k).size = s.size - k := by
  unfold from_
  rw [ByteArray.size_extract]; omega
theorem from_zero (s : ByteArray) : from_ s 0 = s := by
  apply ByteArray.ext; apply Array.toList_inj.1
  rw [from_list, List.drop_zero]
theorem from_from (s : ByteArray) (k i : Nat) : (from_ s k).extract i (from_ s k).size = from_ s (k + i) := by
  apply ByteArray.ext; apply Array.toList_inj.1
  show (from_ (from_ s k) i).data.toList = _
  rw [from_list, from_list, from_list, List.drop_drop]
theorem from_cut (s : ByteArray) (k i : Nat) (_h : k + i ≤ s.size) : (from_ s k).extract 0 i = s.extract k (k + i) := by
  apply ByteArray.ext; apply Array.toList_inj.1
  rw [Lib.extract_data, from_list, Lib.extract_data]
  simp

/-- No blank between two places. -/
def NoBl (s : ByteArray) (f i : Nat) : Prop := ∀ j, f ≤ j → j < i → s.data.toList[j]? ≠ some 32

theorem spl_step (s : ByteArray) (f i : Nat) (hf : f ≤ i) (hi : i < s.size) (hn : NoBl s f i) (hb : s.data.toList[i]? = some 32) : spl (from_ s f) = s.extract f i :: spl (from_ s (i + 1)) := by
  have h := spl_hit (from_ s f) (i - f) (by rw [from_get, show f + (i - f) = i by omega]; exact hb) (fun k hk => by rw [from_get]; exact hn (f + k) (by omega) (by omega))
  rw [from_from, from_cut s f (i - f) (by omega), show f + (i - f) = i by omega, show f + (i - f + 1) = i + 1 by omega] at h
  exact h

theorem spl_last (s : ByteArray) (f : Nat) (_hf : f ≤ s.size) (hn : NoBl s f s.size) : spl (from_ s f) = [s.extract f s.size] :=
  spl_miss _ (fun k => by
    rw [from_get]
    by_cases h : f + k < s.size
    · exact hn (f + k) (by omega) h
    · rw [List.getElem?_eq_none (by rw [Array.length_toList]; exact Nat.not_lt.1 h)]
      intro e; cases e)

theorem at_blank (s : ByteArray) (i : Nat) (h : i < s.size) : s.data.toList[i]? = some 32 ↔ (s[i].toNat : Int) = 32 := by
  rw [List.getElem?_eq_getElem (by simpa using h)]
  constructor
  · intro e
    have e2 : s[i] = 32 := Option.some.inj e
    rw [e2]; rfl
  · intro e
    have e2 : s[i] = 32 := by
      apply UInt8.toNat_inj.1
      have : (32 : UInt8).toNat = 32 := rfl
      omega
    exact congrArg some e2

theorem mem_extract_size (s : ByteArray) (f i : Nat) (hf : f ≤ i) (hi : i ≤ s.size) : (s.extract f i).size = i - f := by
  rw [ByteArray.size_extract]; omega

theorem okW_of (s : ByteArray) (p : ByteArray) (h : p ∈ spl s) (h0 : p.size = 0) : okW s = false := by
  unfold okW
  rw [List.all_eq_false]
  exact ⟨p, h, by simp [h0]⟩

theorem contains_ok (s : ByteArray) : Lib.containsS (spl s) ⟨#[]⟩ = !okW s := by
  rw [Bool.eq_iff_iff, Lib.containsS_iff]
  simp only [okW, Bool.not_eq_true', List.all_eq_false]
  constructor
  · intro h
    exact ⟨_, h, by decide⟩
  · rintro ⟨p, hp, h0⟩
    have h0 : p.size = 0 := by simpa using h0
    have : p = ⟨#[]⟩ := by
      apply ByteArray.ext
      exact Array.size_eq_zero_iff.1 h0
    rw [← this]; exact hp
end Go.Proofs.YtimpddokepbabaaGreatDoor
