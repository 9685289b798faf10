/-
  THE WALK of the reference's Words.
-/
import Derived.Test.YtimpddokepbabaaGreatDoorWords
namespace Go.Proofs.YtimpddokepbabaaGreatDoor
open Go.RowKit

theorem infoStr : (Tryz.prog.info? 9).map (fun i => (i.zero, i.size, i.bytes)) = some (some (.string ⟨#[]⟩), 1, 16) := by kernel_rfl

/-- The loop's state: f: where the part begins; i: the place; L: the parts so far. -/
def WSt (s : ByteArray) (f i : Nat) (L : List ByteArray) : Prop :=
  ((f ≤ i ∧ i ≤ s.size ∧ NoBl s f i ∧ spl s = L ++ spl (from_ s f)) ∨ (i = s.size + 1 ∧ spl s = L)) ∧ (L.all fun p => p.size != 0) = true

theorem WSt.start (s : ByteArray) : WSt s 0 0 [] := ⟨.inl ⟨Nat.le_refl _, Nat.zero_le _, fun j _ h => absurd h (Nat.not_lt_zero _), by rw [from_zero]; rfl⟩, rfl⟩

theorem WSt.len {s : ByteArray} {f i : Nat} {L : List ByteArray} (h : WSt s f i L) : L.length ≤ s.size + 1 := by
  have hl := spl_le s
  rcases h.1 with ⟨_, _, _, e⟩ | ⟨_, e⟩
  · rw [e, List.length_append] at hl; omega
  · rw [e] at hl; exact hl

theorem WSt.on {s : ByteArray} {f i : Nat} {L : List ByteArray} (h : WSt s f i L) (hi : i < s.size) (hb : ((s[i].toNat : Int) == 32) = false) : WSt s f (i + 1) L := by
  rcases h with ⟨⟨h1, h2, h3, h4⟩ | ⟨h1, _⟩, h5⟩
  · refine ⟨.inl ⟨by omega, by omega, fun j hj hj2 => ?_, h4⟩, h5⟩
    by_cases e : j < i
    · exact h3 j hj e
    · obtain rfl : j = i := by omega
      intro he
      have := (at_blank s j hi).1 he
      rw [beq_eq_false_iff_ne] at hb
      exact hb this
  · omega

theorem WSt.part {s : ByteArray} {f i : Nat} {L : List ByteArray} (h : WSt s f i L) (hi : i ≤ s.size) (hb : ∀ h : i < s.size, ((s[i].toNat : Int) == 32) = true) :
    s.extract f i ∈ spl s ∧ f ≤ i ∧ (¬ i = f → WSt s (i + 1) (i + 1) (L ++ [s.extract f i])) := by
  rcases h with ⟨⟨h1, h2, h3, h4⟩ | ⟨h1, _⟩, h5⟩
  · have hsz := mem_extract_size s f i h1 h2
    have hall : ¬ i = f → (((L ++ [s.extract f i]).all fun p => p.size != 0) = true) := fun hne => by
      rw [List.all_append, h5]
      have h6 : ((s.extract f i).size != 0) = true := by rw [hsz, bne_iff_ne]; omega
      rw [List.all_cons, h6]
      rfl
    by_cases hlt : i < s.size
    · have e := spl_step s f i h1 hlt h3 ((at_blank s i hlt).2 (eq_of_beq (hb hlt)))
      rw [e] at h4
      refine ⟨by rw [h4]; simp, h1, fun hne => ⟨.inl ⟨Nat.le_refl _, hlt, fun j hj hj2 => by omega, by rw [h4]; simp⟩, hall hne⟩⟩
    · obtain rfl : i = s.size := by omega
      have e := spl_last s f h1 h3
      rw [e] at h4
      exact ⟨by rw [h4]; simp, h1, fun hne => ⟨.inr ⟨rfl, h4⟩, hall hne⟩⟩
  · omega

theorem WSt.done {s : ByteArray} {f i : Nat} {L : List ByteArray} (h : WSt s f i L) (hi : ¬ i ≤ s.size) : spl s = L ∧ okW s = true := by
  rcases h with ⟨⟨_, h2, _, _⟩ | ⟨_, e⟩, h5⟩
  · omega
  · exact ⟨e, by unfold okW; rw [e]; exact h5⟩

theorem WSt.fi {s : ByteArray} {f i : Nat} {L : List ByteArray} (h : WSt s f i L) (hi : i ≤ s.size) : f ≤ i := by
  rcases h.1 with ⟨h1, _⟩ | ⟨h1, _⟩ <;> omega

/-- What Words answers, in memory that the call has made. -/
def WordsPost (s : ByteArray) (w : World) (e : Ending) (w' : World) : Prop :=
  ((okW s = true ∧ ∃ v, e = .returned (.tuple #[v, .bool true]) ∧ w'.ownsRow w.heap.size 9 1 v (spl s).length ((spl s).map Value.string)) ∨ (okW s = false ∧ e = .returned (.tuple #[.slice none 0 0, .bool false]))) ∧ Below w.heap.size w w'

theorem words_done {s : ByteArray} {w w' : World} {f i : Nat} {L : List ByteArray} {v : Value} (h : WSt s f i L) (hi : ¬ i ≤ s.size) (hown : w'.ownsRow w.heap.size 9 1 v L.length (L.map Value.string)) (hb : Below w.heap.size w w') :
    WordsPost s w (.returned (.tuple #[v, .bool true])) w' := by
  obtain ⟨e, ho⟩ := h.done hi
  exact ⟨.inl ⟨ho, v, rfl, by rw [e]; exact hown⟩, hb⟩

theorem own_snoc {w : World} {B : Nat} {e : TypeId} {v : Value} {L : List ByteArray} {p : ByteArray} (h : w.ownsRow B e 1 v (L.length + 1) (L.map Value.string ++ [.string p])) : w.ownsRow B e 1 v (L ++ [p]).length ((L ++ [p]).map Value.string) := by
  rw [List.length_append, List.map_append]; exact h

theorem below_one {B : Nat} {w1 wr w3 : World} {e : TypeId} {v : Value} {n : Nat} {xs : List Value} (hnx : Below B w1 wr) (hB : B ≤ wr.heap.size) (hown : wr.ownsRow B e 1 v n xs) (o : Obj) (hg : (wr.alloc o).grownBy w3 v.ownBlock) : Below B w1 w3 :=
  (hnx.alloc hB o).grown hg (by simp; omega) (fun k hk => (hown.lt k hk).1)

set_option maxRecDepth 100000 in
set_option maxHeartbeats 1000000 in
theorem refWords_any (s : ByteArray) (w : World) (hs : s.size ≤ 100000) :
    Calls Tryz.prog 86 #[.string s] w (WordsPost s w) := by
  obtain ⟨i0, hi, hz0, hz1, hz2⟩ := info_parts infoStr
  go_enter Tryz.func86, Tryz.ntmps86
  go_wp2
  go_loopw [4, 5, 6] (fun v f i wr => ∃ (fn j : Nat) (L : List ByteArray), j ≤ s.size + 1 ∧ fn ≤ s.size + 1 ∧ f = .int .i64 fn ∧ i = .int .i64 j ∧ Hid (WSt s fn j L) ∧ wr.ownsRow w.heap.size 9 1 v L.length (L.map Value.string) ∧ Below w.heap.size w wr) (fun _ _ i _ => s.size + 1 - (intOf i).toNat)
  case atStart => exact ⟨0, 0, [], Nat.zero_le _, Nat.zero_le _, rfl, rfl, WSt.start s, World.ownsRow_nil _ _ _ _, Below.refl _ _⟩
  case round =>
    obtain ⟨fn, j, L, hj, hfn, rfl, rfl, HW, hown, hb⟩ := hrel
    by_cases hle : j ≤ s.size
    · have hfj := HW.out.fi hle
      have hL := HW.out.len
      have hsz := hb.size
      by_cases hcont : ∃ h : j < s.size, ((s[j].toNat : Int) == 32) = false
      · obtain ⟨hlt, hbl⟩ := hcont
        have HN := hide (HW.out.on hlt hbl)
        have HO := hide hown
        clear hown
        go_wp2
        go_roundw
        case rel => exact ⟨fn, j + 1, L, by omega, hfn, rfl, by go_num, HN, HO.out, hb⟩
        case measure => simp [intOf]; omega
      · have hbl : ∀ h : j < s.size, ((s[j].toNat : Int) == 32) = true := fun h => by
          cases e : ((s[j].toNat : Int) == 32)
          · exact absurd ⟨h, e⟩ hcont
          · rfl
        clear hcont
        obtain ⟨hm, _, hst⟩ := HW.out.part hle hbl
        have HM := hide hm
        have HST := hide hst
        clear hm hst
        have two : (∃ h : j < s.size, ((s[j].toNat : Int) == 32) = true) ∨ j = s.size := by
          by_cases h : j < s.size
          · exact .inl ⟨h, hbl h⟩
          · exact .inr (by omega)
        clear hbl
        by_cases hjf : j = fn
        · have hz : Hid (okW s = false) := okW_of s _ HM.out (by rw [mem_extract_size s fn j hfj hle]; omega)
          clear HW HST HM hown hL
          subst hjf
          rcases two with ⟨hlt, hbl⟩ | rfl
          all_goals
            go_wp2
            go_ret2
            exact ⟨.inr ⟨hz.out, rfl⟩, hb⟩
        · have HN := hide (HST.out hjf)
          have hjf2 : ((j : Int) == (fn : Int)) = false := by rw [beq_eq_false_iff_ne]; omega
          clear HW HST HM
          rcases two with ⟨hlt, hbl⟩ | rfl
          all_goals
            go_wp2_with (at_builtin; refine wpList_append_own _ rfl (.tmp 26) (.tmp 31) 47 rfl w.heap.size 9 i0 (.string ⟨#[]⟩) 1 16 Tryz.underlying47 hi hz0 hz1 hz2 rfl (by decide) _ _ _ rfl (hown.alloc _) ⟨wr.heap.size, 0, none⟩ 1 1 [.string (s.extract fn _)] rfl rfl (cell_one_new _ _ _) (by intro u hu; simp at hu; subst hu; rfl) (by unfold maxLen; omega) (by omega) (by simp; omega) ?_; intro v3 w3 hown3 hg3 _)
            go_roundw
            case rel =>
              refine ⟨_, _, _, ?_, ?_, ?_, ?_, HN, own_snoc hown3, below_one hb hsz hown _ hg3⟩
              all_goals first | omega | go_num
            case measure => first | (simp [intOf]; omega) | simp [intOf]
    · have HO := hide hown
      clear hown
      go_wp2
      go_ret2
      exact words_done HW.out hle HO.out hb
end Go.Proofs.YtimpddokepbabaaGreatDoor
