/-
  THE WALKS of layer 1: Line (scan's and the reference's).
-/
import Derived.Test.YtikjbbebfjleaaaGreatDoorNumber
import Derived.Laws.BytesArg
import Derived.Lib.Bytes
import Derived.Lib.IndexLaws
namespace Go.Proofs.YtikjbbebfjleaaaGreatDoor
open Go.RowKit



theorem getD_win (xs : List Int) (l n i : Nat) (h : i < n) : ((xs.drop l).take n).getD i 0 = xs.getD (l + i) 0 := by
  rw [List.getD_eq_getElem?_getD, List.getElem?_take_of_lt h, List.getElem?_drop, ← List.getD_eq_getElem?_getD]

theorem Row8.win {w : World} {a : Option Addr} {xs : List Int} (h : Row8 w a xs) (l n cap : Nat) (hn : l + n ≤ xs.length) (hc : xs.length ≤ cap) :
    Row8 w (if cap = l then a else a.map (·.add l)) ((xs.drop l).take n) := by
  rcases h with ⟨rfl, rfl⟩ | ⟨x, rfl, hx⟩
  · left; simp
  · right
    by_cases e : cap = l
    · refine ⟨x, by rw [if_pos e], fun i hi => ?_⟩
      simp at hi
      omega
    · refine ⟨x.add l, by rw [if_neg e]; rfl, fun i hi => ?_⟩
      have hi' : i < n := by simp at hi; omega
      rw [add_add, hx (l + i) (by omega), getD_win _ _ _ _ hi']

theorem Row8.below {w w' : World} {a : Option Addr} {xs : List Int} (h : Row8 w a xs) (hb : Below w.heap.size w w') : Row8 w' a xs := by
  rcases h with h | ⟨x, rfl, hx⟩
  · exact .inl h
  · refine .inr ⟨x, rfl, fun i hi => ?_⟩
    have h1 := hx i hi
    exact (hb.cell (block_lt_of_cell h1)).trans h1


set_option maxHeartbeats 400000 in
theorem line_arg (a : Option Addr) (len cap : Nat) (at_ : Int) (w : World) (h : at_ < 0 ∨ (len : Int) < at_) :
    Calls Tryz.prog 110 #[.slice a len cap, .int .i64 at_] w fun e w' => e = .returned (.tuple #[.string ⟨#[]⟩, .int .i64 0, .int .i64 1]) ∧ w' = w := by
  rcases h with h | h
  all_goals
    go_enter Tryz.func110, Tryz.ntmps110
    go_wp2
    go_ret3
    exact ⟨rfl, rfl⟩

/-- The first byte 10 from place k on stands d places behind it; there is none. -/
def Hit (xs : List Int) (k d : Nat) : Prop := k + d < xs.length ∧ xs.getD (k + d) 0 = 10 ∧ ∀ i, i < d → xs.getD (k + i) 0 ≠ 10
def Miss (xs : List Int) (k : Nat) : Prop := ∀ i, k + i < xs.length → xs.getD (k + i) 0 ≠ 10

theorem hit_or_miss (xs : List Int) (k : Nat) : (∃ d, Hit xs k d) ∨ Miss xs k := by
  by_cases h : ∃ d, k + d < xs.length ∧ xs.getD (k + d) 0 = 10
  · left
    have hf : ∀ n, ∀ d, d ≤ n → k + d < xs.length → xs.getD (k + d) 0 = 10 → ∃ d, Hit xs k d := by
      intro n
      induction n with
      | zero =>
        intro d hd h1 h2
        exact ⟨d, h1, h2, fun i hi => by omega⟩
      | succ n ih =>
        intro d hd h1 h2
        by_cases hs : ∃ i, i < d ∧ xs.getD (k + i) 0 = 10
        · obtain ⟨i, hi, he⟩ := hs
          exact ih i (by omega) (by omega) he
        · exact ⟨d, h1, h2, fun i hi he => hs ⟨i, hi, he⟩⟩
    obtain ⟨d, h1, h2⟩ := h
    exact hf d d (Nat.le_refl _) h1 h2
  · right
    exact fun i hi he => h ⟨i, hi, he⟩

theorem byte_ten (n : Int) (h0 : 0 ≤ n) (h1 : n ≤ 255) : (UInt8.ofNat n.toNat = 10) ↔ n = 10 := by
  constructor
  · intro e
    have e2 := congrArg UInt8.toNat e
    rw [UInt8.toNat_ofNat'] at e2
    have e3 : (10 : UInt8).toNat = 10 := rfl
    omega
  · rintro rfl; rfl

theorem index_eq (l : List UInt8) (c : UInt8) (o : Nat) (h1 : l[o]? = some c) (h2 : ∀ k : Nat, k < o → l[k]? ≠ some c) : Lib.indexByte l c = o := by
  have hge := Lib.indexByte_ge l c
  by_cases hn : Lib.indexByte l c = -1
  · exact absurd h1 (Lib.indexByte_none hn o)
  · obtain ⟨o', ho⟩ : ∃ o' : Nat, Lib.indexByte l c = o' := ⟨(Lib.indexByte l c).toNat, by omega⟩
    obtain ⟨h3, h4⟩ := Lib.indexByte_some ho
    rw [ho]
    by_cases hlt : o < o'
    · exact absurd h1 (h4 o hlt)
    · by_cases hgt : o' < o
      · exact absurd h3 (h2 o' hgt)
      · omega

theorem index_no (l : List UInt8) (c : UInt8) (h : ∀ k : Nat, l[k]? ≠ some c) : Lib.indexByte l c = -1 := by
  have hge := Lib.indexByte_ge l c
  by_cases hn : Lib.indexByte l c = -1
  · exact hn
  · obtain ⟨o', ho⟩ : ∃ o' : Nat, Lib.indexByte l c = o' := ⟨(Lib.indexByte l c).toNat, by omega⟩
    exact absurd (Lib.indexByte_some ho).1 (h o')

theorem bytes_at (xs : List Int) (k i : Nat) (h : k + i < xs.length) : (Lib.bytesOf (xs.drop k))[i]? = some (UInt8.ofNat (xs.getD (k + i) 0).toNat) := by
  unfold Lib.bytesOf
  rw [List.getElem?_map, List.getElem?_drop, List.getElem?_eq_getElem h, List.getD_eq_getElem?_getD, List.getElem?_eq_getElem h]
  rfl


theorem index_hit {xs : List Int} {k d : Nat} (hb : Bytes8 xs) (h : Hit xs k d) : Lib.indexByte (Lib.bytesOf (xs.drop k)) ((10 : Int).toNat.toUInt8) = (d : Int) := by
  obtain ⟨h1, h2, h3⟩ := h
  apply index_eq
  · rw [bytes_at xs k d h1, h2]
  · intro i hi
    rw [bytes_at xs k i (by omega)]
    have hm := hb _ (getD_mem xs (k + i) (by omega))
    intro e
    exact h3 i hi ((byte_ten _ hm.1 hm.2).1 (Option.some.inj e))

theorem index_miss {xs : List Int} {k : Nat} (hb : Bytes8 xs) (h : Miss xs k) : Lib.indexByte (Lib.bytesOf (xs.drop k)) ((10 : Int).toNat.toUInt8) = -1 := by
  apply index_no
  intro i e
  by_cases hi : k + i < xs.length
  · rw [bytes_at xs k i hi] at e
    have hm := hb _ (getD_mem xs (k + i) hi)
    exact h i hi ((byte_ten _ hm.1 hm.2).1 (Option.some.inj e))
  · unfold Lib.bytesOf at e
    rw [List.getElem?_map, List.getElem?_drop, List.getElem?_eq_none (by omega)] at e
    cases e

/-- bytes.IndexByte at the rest of a slice. -/
theorem indexByte_any (a : Option Addr) (ys : List Int) (n c : Nat) (w : World) (hr : Row8 w a ys) (hn : ys.length = n) (hc : a = none → c = 0) (r : Int) (he : Lib.indexByte (Lib.bytesOf ys) ((10 : Int).toNat.toUInt8) = r) :
    Calls Tryz.prog 134 #[.slice a n c, .int .u8 10] w fun e w' => e = .returned (.int .i64 r) ∧ w' = w := by
  rcases hr with ⟨rfl, rfl⟩ | ⟨x, rfl, hx⟩
  · have h0 : n = 0 := by simpa using hn.symm
    rw [hc rfl, h0, ← he]
    exact Tryz.bytes_IndexByte_nil 10 w
  · rw [← he]
    exact Tryz.bytes_IndexByte_at x n c ys 10 w hn (fun i hi => hx i (by omega))

set_option maxHeartbeats 400000 in
theorem line_end (a : Option Addr) (k : Nat) (xs : List Int) (w : World) (hr : Row8 w a xs) (ha : a = none → k = 0) (hx : xs.length = k) (_hm : k ≤ 9223372036854775807) :
    Calls Tryz.prog 110 #[.slice a k k, .int .i64 k] w fun e w' => e = .returned (.tuple #[.string ⟨#[]⟩, .int .i64 0, .int .i64 4]) ∧ w' = w := by
  have hr1 : Row8 w a [] := by
    rcases hr with ⟨rfl, rfl⟩ | ⟨x, rfl, h⟩
    · exact .inl ⟨rfl, rfl⟩
    · exact .inr ⟨x, rfl, fun i hi => by simp at hi⟩
  have HI := hide (indexByte_any a [] 0 0 w hr1 rfl (fun _ => rfl) (-1) rfl)
  clear hr hr1
  go_enter Tryz.func110, Tryz.ntmps110
  go_wp2_with (go_at_call 134; refine HI.out.mono ?_; rintro e w' ⟨rfl, rfl⟩)
  go_ret3
  exact ⟨rfl, rfl⟩

set_option maxHeartbeats 400000 in
theorem line_miss (a : Option Addr) (len cap k : Nat) (xs : List Int) (w : World) (hr : Row8 w a xs) (hb : Bytes8 xs) (ha : a = none → cap = 0) (hx : xs.length = len) (hc : len ≤ cap) (hm : cap ≤ 9223372036854775807) (hk : k ≤ len) (hh : Miss xs k) :
    Calls Tryz.prog 110 #[.slice a len cap, .int .i64 k] w fun e w' => e = .returned (.tuple #[.string ⟨#[]⟩, .int .i64 0, .int .i64 4]) ∧ w' = w := by
  by_cases hne : cap = k
  · subst hne
    have : len = cap := by omega
    subst this
    exact line_end a len xs w hr ha hx hm
  have hr1 := hr.win k (len - k) cap (by omega) (by omega)
  rw [if_neg hne] at hr1
  have e1 : (xs.drop k).take (len - k) = xs.drop k := List.take_of_length_le (by rw [List.length_drop]; omega)
  rw [e1] at hr1
  have hz : a.map (·.add k) = none → cap - k = 0 := fun h => by
    have h2 := ha (by simpa using h)
    omega
  have HI := hide (indexByte_any (a.map (·.add k)) (xs.drop k) (len - k) (cap - k) w hr1 (by rw [List.length_drop]; omega) hz (-1) (index_miss hb hh))
  clear hr hr1 ha hh hb e1 hz
  go_enter Tryz.func110, Tryz.ntmps110
  go_wp2_with (go_at_call 134; refine HI.out.mono ?_; rintro e w' ⟨rfl, rfl⟩)
  go_ret3
  exact ⟨rfl, rfl⟩

set_option maxRecDepth 100000 in
set_option maxHeartbeats 400000 in
theorem line_hit (a : Option Addr) (len cap k d : Nat) (xs : List Int) (w : World) (hr : Row8 w a xs) (hb : Bytes8 xs) (ha : a = none → cap = 0) (hx : xs.length = len) (hc : len ≤ cap) (hl : len ≤ 1073741824) (hh : Hit xs k d) :
    Calls Tryz.prog 110 #[.slice a len cap, .int .i64 k] w fun e w' => e = .returned (.tuple #[.string (strOfNums ((xs.drop k).take d)), .int .i64 ((k : Int) + d + 1), .int .i64 0]) ∧ w' = w := by
  have hk : k + d < len := by have := hh.1; omega
  have hne : ¬ cap = k := by omega
  have hr1 := hr.win k (len - k) cap (by omega) (by omega)
  rw [if_neg hne] at hr1
  have e1 : (xs.drop k).take (len - k) = xs.drop k := List.take_of_length_le (by rw [List.length_drop]; omega)
  rw [e1] at hr1
  have hr2 := hr.win k d cap (by omega) (by omega)
  rw [if_neg hne] at hr2
  have HC := run_str (P := Tryz.prog) w 22 5 9 Tryz.underlying22 Tryz.underlying5 Tryz.underlying9 _ _ hr2 d (cap - k) (by rw [List.length_take, List.length_drop]; omega)
  have hz : a.map (·.add k) = none → cap - k = 0 := fun h => by
    have h2 := ha (by simpa using h)
    omega
  have HI := hide (indexByte_any (a.map (·.add k)) (xs.drop k) (len - k) (cap - k) w hr1 (by rw [List.length_drop]; omega) hz (d : Int) (index_hit hb hh))
  clear hr hr1 hr2 ha hh hb e1 hz
  generalize strOfNums ((xs.drop k).take d) = S at HC ⊢
  clear hx
  go_enter Tryz.func110, Tryz.ntmps110
  go_wp2_with (go_at_call 134; refine HI.out.mono ?_; rintro e w' ⟨rfl, rfl⟩)
  go_ret3
  exact ⟨rfl, rfl⟩

/-! ### The reference's -/
set_option maxHeartbeats 400000 in
theorem refLine_arg (a : Option Addr) (len cap : Nat) (at_ : Int) (w : World) (h : at_ < 0 ∨ (len : Int) < at_) :
    Calls Tryz.prog 81 #[.slice a len cap, .int .i64 at_] w fun e w' => e = .returned (.tuple #[.string ⟨#[]⟩, .int .i64 0, .int .i64 1]) ∧ w' = w := by
  rcases h with h | h
  all_goals
    go_enter Tryz.func81, Tryz.ntmps81
    go_wp2
    go_ret3
    exact ⟨rfl, rfl⟩

theorem Row8.addr {w : World} {a : Option Addr} {xs : List Int} (h : Row8 w a xs) (hp : 0 < xs.length) : ∃ b off, a = some ⟨b, off, none⟩ ∧ ∀ i, i < xs.length → w.cell? ⟨b, off + i, none⟩ = some (.int .u8 (xs.getD i 0)) := by
  rcases h with ⟨_, rfl⟩ | ⟨⟨b, off, spot⟩, rfl, hx⟩
  · simp at hp
  · have hc := hx 0 hp
    have hspot : spot = none := by simpa [Addr.add] using World.cell?_spot hc
    subst hspot
    refine ⟨b, off, rfl, fun i hi => ?_⟩
    have h1 := hx i hi
    have hplain : (⟨b, off, none⟩ : Addr).add i = ⟨b, off + i, none⟩ := by unfold Addr.add; split <;> simp_all
    rw [← hplain]
    exact h1

theorem Row8.of {w : World} {b off : Nat} {xs : List Int} (h : ∀ i, i < xs.length → w.cell? ⟨b, off + i, none⟩ = some (.int .u8 (xs.getD i 0))) : Row8 w (some ⟨b, off, none⟩) xs := by
  refine .inr ⟨_, rfl, fun i hi => ?_⟩
  have hplain : (⟨b, off, none⟩ : Addr).add i = ⟨b, off + i, none⟩ := by unfold Addr.add; split <;> simp_all
  rw [hplain]
  exact h i hi

set_option maxHeartbeats 400000 in
theorem refLine_none (a : Option Addr) (cap : Nat) (w : World) :
    Calls Tryz.prog 81 #[.slice a 0 cap, .int .i64 0] w fun e w' => e = .returned (.tuple #[.string ⟨#[]⟩, .int .i64 0, .int .i64 4]) ∧ w' = w := by
  go_enter Tryz.func81, Tryz.ntmps81
  go_wp2
  go_loop [7] (fun i => i = .int .i64 0) (fun _ => 0)
  case atStart => rfl
  case round =>
    subst hrel
    go_wp2
    go_ret3
    exact ⟨rfl, rfl⟩

set_option maxRecDepth 100000 in
set_option maxHeartbeats 400000 in
theorem refLine_miss (a : Option Addr) (len cap k : Nat) (xs : List Int) (w : World) (hr : Row8 w a xs) (hx : xs.length = len) (hl : len ≤ 1073741824) (hk : k ≤ len) (hh : Miss xs k) :
    Calls Tryz.prog 81 #[.slice a len cap, .int .i64 k] w fun e w' => e = .returned (.tuple #[.string ⟨#[]⟩, .int .i64 0, .int .i64 4]) ∧ w' = w := by
  by_cases h0 : len = 0
  · subst h0
    obtain rfl : k = 0 := by omega
    exact refLine_none a cap w
  obtain ⟨b, off, rfl, hcell⟩ := hr.addr (by omega)
  have HC := hide hcell
  have HH := hide hh
  have HX := hide hx
  clear hr hh hx hcell
  go_enter Tryz.func81, Tryz.ntmps81
  go_wp2
  all_goals
    go_loop [7] (fun i => ∃ j : Nat, k ≤ j ∧ j ≤ len ∧ i = .int .i64 j) (fun i => len - (intOf i).toNat)
    case atStart => exact ⟨k, Nat.le_refl _, hk, rfl⟩
    case round =>
      obtain ⟨j, hj, hj2, rfl⟩ := hrel
      by_cases hlt : j < len
      · have hc := HC.out j (by rw [HX.out]; exact hlt)
        have hn : ¬ xs.getD j 0 = 10 := by
          have h1 := HH.out (j - k) (by rw [HX.out]; omega)
          rw [show k + (j - k) = j by omega] at h1
          exact h1
        have hn2 : (xs.getD j 0 == 10) = false := by simpa using hn
        generalize xs.getD j 0 = y at hc hn hn2
        clear hn
        go_wp2
        go_round
        case rel => exact ⟨j + 1, by omega, by omega, by go_num⟩
        case measure => simp [intOf]; omega
      · go_wp2
        go_ret3
        exact ⟨rfl, rfl⟩

set_option maxRecDepth 100000 in
set_option maxHeartbeats 400000 in
theorem refLine_hit (a : Option Addr) (len cap k d : Nat) (xs : List Int) (w : World) (hr : Row8 w a xs) (hx : xs.length = len) (hcp : len ≤ cap) (hl : len ≤ 1073741824) (hh : Hit xs k d) :
    Calls Tryz.prog 81 #[.slice a len cap, .int .i64 k] w fun e w' => e = .returned (.tuple #[.string (strOfNums ((xs.drop k).take d)), .int .i64 ((k : Int) + d + 1), .int .i64 0]) ∧ w' = w := by
  have hk : k + d < len := by have := hh.1; omega
  have hne : ¬ cap = k := by omega
  have hr2 := hr.win k d cap (by omega) (by omega)
  rw [if_neg hne] at hr2
  obtain ⟨b, off, rfl, hcell⟩ := hr.addr (by omega)
  have hplain : (⟨b, off, none⟩ : Addr).add k = ⟨b, off + k, none⟩ := by unfold Addr.add; split <;> simp_all
  rw [Option.map_some, hplain] at hr2
  have HS := hide (run_str (P := Tryz.prog) w 22 5 9 Tryz.underlying22 Tryz.underlying5 Tryz.underlying9 _ _ hr2 d (cap - k) (by rw [List.length_take, List.length_drop]; omega))
  generalize strOfNums ((xs.drop k).take d) = S at HS ⊢
  have HC := hide hcell
  have HH := hide hh
  have HX := hide hx
  clear hr hh hx hcell hr2 hplain
  go_enter Tryz.func81, Tryz.ntmps81
  go_wp2
  all_goals
    go_loop [7] (fun i => ∃ j : Nat, k ≤ j ∧ j ≤ k + d ∧ i = .int .i64 j) (fun i => len - (intOf i).toNat)
    case atStart => exact ⟨k, Nat.le_refl _, by omega, rfl⟩
    case round =>
      obtain ⟨j, hj, hj2, rfl⟩ := hrel
      have hlt : j < len := by omega
      have hc := HC.out j (by rw [HX.out]; exact hlt)
      by_cases hjd : j = k + d
      · subst hjd
        have hy : (xs.getD (k + d) 0 == 10) = true := by simpa using HH.out.2.1
        generalize xs.getD (k + d) 0 = y at hc hy
        have hst := HS.out
        go_wp2
        go_ret3
        exact ⟨rfl, rfl⟩
      · have hn2 : (xs.getD j 0 == 10) = false := by
          have h1 := HH.out.2.2 (j - k) (by omega)
          rw [show k + (j - k) = j by omega] at h1
          simpa using h1
        generalize xs.getD j 0 = y at hc hn2
        go_wp2
        go_round
        case rel => exact ⟨j + 1, by omega, by omega, by go_num⟩
        case measure => simp [intOf]; omega
end Go.Proofs.YtikjbbebfjleaaaGreatDoor
