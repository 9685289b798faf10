/-
  THE WALK of the reference's Words.
  THE WALK of the reference's Number.
-/
import Derived.Test.YtikjbbebfjleaaaGreatDoorJ4
import Derived.Test.YtikjbbebfjleaaaGreatDoorNumber
namespace Go.Proofs.YtikjbbebfjleaaaGreatDoor
open Go.RowKit

theorem infoStr : (Tryz.prog.info? 9).map (fun i => (i.zero, i.size, i.bytes)) = some (some (.string ⟨#[]⟩), 1, 16) := by kernel_rfl

/-- The loop's state: f: where the part begins; i: the place; L: the parts so far. -/
def WSt (s : ByteArray) (f i : Nat) (L : List ByteArray) : Prop :=
  ((f ≤ i ∧ i ≤ s.size ∧ NoBl s f i ∧ spl s = L ++ spl (from_ s f)) ∨ (i = s.size + 1 ∧ spl s = L)) ∧ (L.all fun p => p.size != 0) = true

theorem WSt.start (s : ByteArray) : WSt s 0 0 [] := ⟨.inl ⟨Nat.le_refl _, Nat.zero_le _, fun j _ h => absurd h (Nat.not_lt_zero _), by rw [from_zero]; rfl⟩, rfl⟩

theorem WSt.len {s : ByteArray} {f i : Nat} {L : List ByteArray} (h : WSt s f i L) : L.length ≤ s.size + 1 := by
  have hl := spl_le s
  rcases h.1 with ⟨_, _, _, e⟩ | ⟨_, e⟩
  · rw [e, List.length_append] at hl; omega
  · rw [e] at hl; exact hl

theorem WSt.on {s : ByteArray} {f i : Nat} {L : List ByteArray} (h : WSt s f i L) (hi : i < s.size) (hb : ((s[i].toNat : Int) == 32) = false) : WSt s f (i + 1) L := by
  rcases h with ⟨⟨h1, h2, h3, h4⟩ | ⟨h1, _⟩, h5⟩
  · refine ⟨.inl ⟨by omega, by omega, fun j hj hj2 => ?_, h4⟩, h5⟩
    by_cases e : j < i
    · exact h3 j hj e
    · obtain rfl : j = i := by omega
      intro he
      have := (at_blank s j hi).1 he
      rw [beq_eq_false_iff_ne] at hb
      exact hb this
  · omega

theorem WSt.part {s : ByteArray} {f i : Nat} {L : List ByteArray} (h : WSt s f i L) (hi : i ≤ s.size) (hb : ∀ h : i < s.size, ((s[i].toNat : Int) == 32) = true) :
    s.extract f i ∈ spl s ∧ f ≤ i ∧ (¬ i = f → WSt s (i + 1) (i + 1) (L ++ [s.extract f i])) := by
  rcases h with ⟨⟨h1, h2, h3, h4⟩ | ⟨h1, _⟩, h5⟩
  · have hsz := mem_extract_size s f i h1 h2
    have hall : ¬ i = f → (((L ++ [s.extract f i]).all fun p => p.size != 0) = true) := fun hne => by
      rw [List.all_append, h5]
      have h6 : ((s.extract f i).size != 0) = true := by rw [hsz, bne_iff_ne]; omega
      rw [List.all_cons, h6]
      rfl
    by_cases hlt : i < s.size
    · have e := spl_step s f i h1 hlt h3 ((at_blank s i hlt).2 (eq_of_beq (hb hlt)))
      rw [e] at h4
      refine ⟨by rw [h4]; simp, h1, fun hne => ⟨.inl ⟨Nat.le_refl _, hlt, fun j hj hj2 => by omega, by rw [h4]; simp⟩, hall hne⟩⟩
    · obtain rfl : i = s.size := by omega
      have e := spl_last s f h1 h3
      rw [e] at h4
      exact ⟨by rw [h4]; simp, h1, fun hne => ⟨.inr ⟨rfl, h4⟩, hall hne⟩⟩
  · omega

theorem WSt.done {s : ByteArray} {f i : Nat} {L : List ByteArray} (h : WSt s f i L) (hi : ¬ i ≤ s.size) : spl s = L ∧ okW s = true := by
  rcases h with ⟨⟨_, h2, _, _⟩ | ⟨_, e⟩, h5⟩
  · omega
  · exact ⟨e, by unfold okW; rw [e]; exact h5⟩

theorem WSt.fi {s : ByteArray} {f i : Nat} {L : List ByteArray} (h : WSt s f i L) (hi : i ≤ s.size) : f ≤ i := by
  rcases h.1 with ⟨h1, _⟩ | ⟨h1, _⟩ <;> omega

/-- What Words answers, in memory that the call has made. -/
def WordsPost (s : ByteArray) (w : World) (e : Ending) (w' : World) : Prop :=
  ((okW s = true ∧ ∃ v, e = .returned (.tuple #[v, .bool true]) ∧ w'.ownsRow w.heap.size 9 1 v (spl s).length ((spl s).map Value.string)) ∨ (okW s = false ∧ e = .returned (.tuple #[.slice none 0 0, .bool false]))) ∧ Below w.heap.size w w'

theorem words_done {s : ByteArray} {w w' : World} {f i : Nat} {L : List ByteArray} {v : Value} (h : WSt s f i L) (hi : ¬ i ≤ s.size) (hown : w'.ownsRow w.heap.size 9 1 v L.length (L.map Value.string)) (hb : Below w.heap.size w w') :
    WordsPost s w (.returned (.tuple #[v, .bool true])) w' := by
  obtain ⟨e, ho⟩ := h.done hi
  exact ⟨.inl ⟨ho, v, rfl, by rw [e]; exact hown⟩, hb⟩

theorem own_snoc {w : World} {B : Nat} {e : TypeId} {v : Value} {L : List ByteArray} {p : ByteArray} (h : w.ownsRow B e 1 v (L.length + 1) (L.map Value.string ++ [.string p])) : w.ownsRow B e 1 v (L ++ [p]).length ((L ++ [p]).map Value.string) := by
  rw [List.length_append, List.map_append]; exact h

theorem below_one {B : Nat} {w1 wr w3 : World} {e : TypeId} {v : Value} {n : Nat} {xs : List Value} (hnx : Below B w1 wr) (hB : B ≤ wr.heap.size) (hown : wr.ownsRow B e 1 v n xs) (o : Obj) (hg : (wr.alloc o).grownBy w3 v.ownBlock) : Below B w1 w3 :=
  (hnx.alloc hB o).grown hg (by simp; omega) (fun k hk => (hown.lt k hk).1)

set_option maxRecDepth 100000 in
set_option maxHeartbeats 1000000 in
theorem refWords_any (s : ByteArray) (w : World) (hs : s.size ≤ 100000) :
    Calls Tryz.prog 86 #[.string s] w (WordsPost s w) := by
  obtain ⟨i0, hi, hz0, hz1, hz2⟩ := info_parts infoStr
  go_enter Tryz.func86, Tryz.ntmps86
  go_wp2
  go_loopw [4, 5, 6] (fun v f i wr => ∃ (fn j : Nat) (L : List ByteArray), j ≤ s.size + 1 ∧ fn ≤ s.size + 1 ∧ f = .int .i64 fn ∧ i = .int .i64 j ∧ Hid (WSt s fn j L) ∧ wr.ownsRow w.heap.size 9 1 v L.length (L.map Value.string) ∧ Below w.heap.size w wr) (fun _ _ i _ => s.size + 1 - (intOf i).toNat)
  case atStart => exact ⟨0, 0, [], Nat.zero_le _, Nat.zero_le _, rfl, rfl, WSt.start s, World.ownsRow_nil _ _ _ _, Below.refl _ _⟩
  case round =>
    obtain ⟨fn, j, L, hj, hfn, rfl, rfl, HW, hown, hb⟩ := hrel
    by_cases hle : j ≤ s.size
    · have hfj := HW.out.fi hle
      have hL := HW.out.len
      have hsz := hb.size
      by_cases hcont : ∃ h : j < s.size, ((s[j].toNat : Int) == 32) = false
      · obtain ⟨hlt, hbl⟩ := hcont
        have HN := hide (HW.out.on hlt hbl)
        have HO := hide hown
        clear hown
        go_wp2
        go_roundw
        case rel => exact ⟨fn, j + 1, L, by omega, hfn, rfl, by go_num, HN, HO.out, hb⟩
        case measure => simp [intOf]; omega
      · have hbl : ∀ h : j < s.size, ((s[j].toNat : Int) == 32) = true := fun h => by
          cases e : ((s[j].toNat : Int) == 32)
          · exact absurd ⟨h, e⟩ hcont
          · rfl
        clear hcont
        obtain ⟨hm, _, hst⟩ := HW.out.part hle hbl
        have HM := hide hm
        have HST := hide hst
        clear hm hst
        have two : (∃ h : j < s.size, ((s[j].toNat : Int) == 32) = true) ∨ j = s.size := by
          by_cases h : j < s.size
          · exact .inl ⟨h, hbl h⟩
          · exact .inr (by omega)
        clear hbl
        by_cases hjf : j = fn
        · have hz : Hid (okW s = false) := okW_of s _ HM.out (by rw [mem_extract_size s fn j hfj hle]; omega)
          clear HW HST HM hown hL
          subst hjf
          rcases two with ⟨hlt, hbl⟩ | rfl
          all_goals
            go_wp2
            go_ret2
            exact ⟨.inr ⟨hz.out, rfl⟩, hb⟩
        · have HN := hide (HST.out hjf)
          have hjf2 : ((j : Int) == (fn : Int)) = false := by rw [beq_eq_false_iff_ne]; omega
          clear HW HST HM
          rcases two with ⟨hlt, hbl⟩ | rfl
          all_goals
            go_wp2_with (at_builtin; refine wpList_append_own _ rfl (.tmp 26) (.tmp 31) 47 rfl w.heap.size 9 i0 (.string ⟨#[]⟩) 1 16 Tryz.underlying47 hi hz0 hz1 hz2 rfl (by decide) _ _ _ rfl (hown.alloc _) ⟨wr.heap.size, 0, none⟩ 1 1 [.string (s.extract fn _)] rfl rfl (cell_one_new _ _ _) (by intro u hu; simp at hu; subst hu; rfl) (by unfold maxLen; omega) (by omega) (by simp; omega) ?_; intro v3 w3 hown3 hg3 _)
            go_roundw
            case rel =>
              refine ⟨_, _, _, ?_, ?_, ?_, ?_, HN, own_snoc hown3, below_one hb hsz hown _ hg3⟩
              all_goals first | omega | go_num
            case measure => first | (simp [intOf]; omega) | simp [intOf]
    · have HO := hide hown
      clear hown
      go_wp2
      go_ret2
      exact words_done HW.out hle HO.out hb
end Go.Proofs.YtikjbbebfjleaaaGreatDoor

namespace Go.Proofs.YtikjbbebfjleaaaGreatDoor
open Go.RowKit

theorem dig_at (s : ByteArray) (k : Nat) (h : k < s.size) (hall : s.data.toList.all dig = true) : 48 ≤ (s[k].toNat : Int) ∧ (s[k].toNat : Int) ≤ 57 := by
  rw [List.all_eq_true] at hall
  exact (dig_iff _).1 (hall s[k] (by have := List.getElem_mem (l := s.data.toList) (n := k) (by simpa using h); exact this))

theorem val_at (s : ByteArray) (k : Nat) (h : k < s.size) (hd : 48 ≤ (s[k].toNat : Int)) : (val 0 (s.data.toList.take (k + 1)) : Int) = val 0 (s.data.toList.take k) * 10 + (s[k].toNat - 48) := by
  rw [val_snoc s k h]
  omega

theorem take_all (s : ByteArray) (k : Nat) (h : ¬ k < s.size) : s.data.toList.take k = s.data.toList :=
  List.take_of_length_le (by rw [Array.length_toList]; exact Nat.not_lt.1 h)

set_option maxHeartbeats 400000 in
/-- Ahead of the loops: what is no decimal number at its first look. -/
theorem refNumber_no (s : ByteArray) (most : Int) (w : World) (hs : s.size ≤ 9223372036854775807) (h : s.size = 0 ∨ (1 < s.size ∧ ∃ h0 : 0 < s.size, ((s[0].toNat : Int) == 48) = true)) :
    Calls Tryz.prog 83 #[.string s, .int .i64 most] w fun e w' => e = .returned (.tuple #[.int .i64 0, .int .i64 2]) ∧ w' = w := by
  have he := emp_iff s
  rcases h with hz | ⟨h1, h0, hc⟩
  · have he : s.toList.isEmpty = true := by rw [he]; simp [hz]
    go_enter Tryz.func83, Tryz.ntmps83
    go_wp2
    go_ret2
    exact ⟨rfl, rfl⟩
  · have he : s.toList.isEmpty = false := by rw [he]; exact decide_eq_false (by omega)
    go_enter Tryz.func83, Tryz.ntmps83
    go_wp2
    all_goals
      go_ret2
      exact ⟨rfl, rfl⟩

theorem ret_two {a a' b b' : Int} (h : a = a') (k : b = b') : Ending.returned (.tuple #[.int .i64 a, .int .i64 b]) = .returned (.tuple #[.int .i64 a', .int .i64 b']) := by rw [h, k]

set_option maxHeartbeats 1000000 in
theorem refNumber_yes (s : ByteArray) (most : Int) (w : World) (hs : s.size ≤ 9223372036854775806) (hm : most ≤ 9223372036854775807) (hm0 : 0 ≤ most) (hp : 0 < s.size) (h0 : s.size ≤ 1 ∨ ((s[0].toNat : Int) == 48) = false) :
    Calls Tryz.prog 83 #[.string s, .int .i64 most] w fun e w' => e = .returned (.tuple #[.int .i64 (numV s.data.toList most), .int .i64 (numE s.data.toList most)]) ∧ w' = w := by
  have he : s.toList.isEmpty = false := by rw [emp_iff]; exact decide_eq_false (by omega)
  have hr := isDec_rest s hp h0
  have HR := hide hr
  have HNo := hide (fun h => (⟨numV_no h, numE_no h⟩ : numV s.data.toList most = 0 ∧ numE s.data.toList most = 2))
  have HBig := hide (fun h k => (⟨numV_big k, numE_big h k⟩ : numV s.data.toList most = 0 ∧ numE s.data.toList most = 3))
  have HOk := hide (fun h k => (⟨numV_ok h k, numE_ok h k⟩ : numV s.data.toList most = val 0 s.data.toList ∧ numE s.data.toList most = 0))
  generalize numV s.data.toList most = V at HNo HBig HOk ⊢
  generalize numE s.data.toList most = E at HNo HBig HOk ⊢
  clear hr
  rcases h0 with h1 | h1
  all_goals
    go_enter Tryz.func83, Tryz.ntmps83
    go_wp2
    all_goals
      go_loop [6] (fun i => ∃ k : Nat, k ≤ s.size ∧ i = .int .i64 k ∧ Hid ((s.data.toList.take k).all dig = true)) (fun i => s.size - (intOf i).toNat)
      case atStart => exact ⟨0, Nat.zero_le _, rfl, rfl⟩
      case round =>
        obtain ⟨k, hk, rfl, HD⟩ := hrel
        by_cases hlt : k < s.size
        · have HS := hide (all_snoc s k hlt)
          have HF := hide (all_false s k hlt)
          have HI := hide (dig_iff s[k])
          go_wp2
          · go_ret2
            have hd : dig s[k] = false := Bool.eq_false_iff.2 (fun e => by have := HI.out.1 e; omega)
            have hn := HNo.out (HR.out.trans (HF.out hd))
            exact ⟨ret_two hn.1.symm hn.2.symm, rfl⟩
          · go_round
            case rel => exact ⟨k + 1, by omega, by go_num, HS.out.trans (by rw [HD.out, HI.out.2 (by assumption)]; rfl)⟩
            case measure => simp [intOf]; omega
          · go_ret2
            have hd : dig s[k] = false := Bool.eq_false_iff.2 (fun e => by have := HI.out.1 e; omega)
            have hn := HNo.out (HR.out.trans (HF.out hd))
            exact ⟨ret_two hn.1.symm hn.2.symm, rfl⟩
        · have HA : Hid (s.data.toList.all dig = true) := by
            have h2 := HD.out
            rw [take_all s k hlt] at h2
            exact h2
          clear HD
          go_wp2
          go_loop [7, 8] (fun n i => ∃ j v : Nat, j ≤ s.size ∧ i = .int .i64 j ∧ n = .int .i64 v ∧ (v : Int) ≤ most ∧ Hid (v = val 0 (s.data.toList.take j))) (fun _ i => s.size - (intOf i).toNat)
          case atStart => exact ⟨0, 0, Nat.zero_le _, rfl, rfl, by omega, rfl⟩
          case round =>
            obtain ⟨j, v, hj, rfl, rfl, hv, HV⟩ := hrel
            by_cases hlj : j < s.size
            · obtain ⟨c1, c2⟩ := dig_at s j hlj HA.out
              have HN := hide (val_at s j hlj c1)
              have HT := hide (val_take s.data.toList (j + 1))
              by_cases hmd : most < (s[j].toNat : Int) - 48
              · go_wp2
                all_goals
                  go_ret2
                  have hn := HBig.out (HR.out.trans HA.out) (by have e1 := HN.out; have e2 := HT.out; have e3 := HV.out; omega)
                  exact ⟨ret_two hn.1.symm hn.2.symm, rfl⟩
              · go_wp2
                · go_round
                  case rel => exact ⟨j + 1, v * 10 + (s[j].toNat - 48), by omega, by go_num, congrArg (Value.int .i64) (by omega), by omega, by have e1 := HN.out; have e3 := HV.out; show v * 10 + (s[j].toNat - 48) = _; omega⟩
                  case measure => simp [intOf]; omega
                · go_ret2
                  have hn := HBig.out (HR.out.trans HA.out) (by have e1 := HN.out; have e2 := HT.out; have e3 := HV.out; omega)
                  exact ⟨ret_two hn.1.symm hn.2.symm, rfl⟩
            · have HV2 : Hid (v = val 0 s.data.toList) := by
                have h2 := HV.out
                rw [take_all s j hlj] at h2
                exact h2
              clear HV
              go_wp2
              go_ret2
              have hn := HOk.out (HR.out.trans HA.out) (by have e3 := HV2.out; omega)
              exact ⟨ret_two (by rw [hn.1]; have e3 := HV2.out; omega) hn.2.symm, rfl⟩

theorem refNumber_any (s : ByteArray) (most : Int) (w : World) (hs : s.size ≤ 9223372036854775806) (hm : most ≤ 9223372036854775807) (hm0 : 0 ≤ most) :
    Calls Tryz.prog 83 #[.string s, .int .i64 most] w fun e w' => e = .returned (.tuple #[.int .i64 (numV s.data.toList most), .int .i64 (numE s.data.toList most)]) ∧ w' = w := by
  by_cases hz : s.size = 0
  · have hd := isDec_nil s hz
    rw [numV_no hd, numE_no hd]
    exact refNumber_no s most w (by omega) (.inl hz)
  · have hp : 0 < s.size := by omega
    by_cases h0 : s.size ≤ 1 ∨ ((s[0].toNat : Int) == 48) = false
    · exact refNumber_yes s most w hs hm hm0 hp h0
    · have h1 : 1 < s.size := by omega
      have h2 : ((s[0].toNat : Int) == 48) = true := by
        cases hc : ((s[0].toNat : Int) == 48)
        · exact absurd (.inr hc) h0
        · rfl
      have hd := isDec_zero s h1 h2
      rw [numV_no hd, numE_no hd]
      exact refNumber_no s most w (by omega) (.inr ⟨h1, hp, h2⟩)
end Go.Proofs.YtikjbbebfjleaaaGreatDoor
