/-
  THE REFERENCE's READER, pure: a row, as far as it goes; a name's line by where its first blank stands; once it has failed a reader stays so.
  THE WALKS of the reference's Numbers and SameInts.
-/
import Derived.Test.YtikjbbebfjleaaaGreatDoorRd2
import Derived.Test.YtikjbbebfjleaaaGreatDoorJ7
import Derived.BigQuiet
namespace Go.Proofs.YtikjbbebfjleaaaGreatDoor
open Go.RowKit

/-- The error that a reader bears. -/
def errR (st : Option Nat) : Int := if st.isNone = true then 2 else 0
/-- A row's numbers: none where the reader has failed. -/
def rowL (xs : List Int) (top : Int) (least most : Nat) (st : Option Nat) : List Int := if (rowS xs top least most st).2.isSome = true then nsL (lineS xs st).1 least most top else []

theorem rowS_none (xs : List Int) (top : Int) (least most : Nat) : (rowS xs top least most none).2 = none := by
  unfold rowS
  split <;> rfl
theorem rowS_ok {xs : List Int} {top : Int} {least most : Nat} {st : Option Nat} (h : (rowS xs top least most st).2.isSome = true) :
    nsE (lineS xs st).1 least most top = 0 ∧ (rowS xs top least most st).1 = rowL xs top least most st ++ List.replicate (most - (rowL xs top least most st).length) 0 ∧ least ≤ (rowL xs top least most st).length ∧ (rowL xs top least most st).length ≤ most := by
  by_cases h0 : nsE (lineS xs st).1 least most top = 0
  · have e : rowL xs top least most st = nsL (lineS xs st).1 least most top := by rw [rowL, if_pos h]
    have hl := nsL_len h0
    rw [e]
    refine ⟨h0, ?_, by omega, by omega⟩
    rw [rowS, if_pos h0]
  · rw [rowS, if_neg h0] at h
    cases h
theorem rowL_le (xs : List Int) (top : Int) (least most : Nat) (st : Option Nat) : (rowL xs top least most st).length ≤ most := by
  by_cases h : (rowS xs top least most st).2.isSome = true
  · exact (rowS_ok h).2.2.2
  · rw [rowL, if_neg h]; exact Nat.zero_le _

theorem itemsS_stuck {α : Type} {f : Nat → Option Nat → α × Option Nat} (hf : ∀ n, (f n none).2 = none) {st : Option Nat} {k : Nat} (h : (itemsS f st k).2 = none) : ∀ m, k ≤ m → (itemsS f st m).2 = none := by
  intro m hm
  induction m with
  | zero => obtain rfl : k = 0 := by omega
            exact h
  | succ m ih =>
    by_cases e : k = m + 1
    · rw [← e]; exact h
    · rw [itemsS, ih (by omega)]
      exact hf m
theorem litS_none (xs : List Int) (top lit : Int) : (litS xs top lit none).2 = none := rowS_none xs top 1 1
theorem latS_none (xs : List Int) (top lit : Int) : (latS xs top lit none).2 = none := rowS_none xs top 2 3
theorem andS_none (xs : List Int) (top lit : Int) : (andS xs top lit none).2 = none := rowS_none xs top 3 3

/-- The rows while they are right. -/
def OkL {α : Type} (st : Option Nat) (L L' : List α) : Prop := st.isSome = true → L = L'

/-- Where a line's first blank stands (its end, if none). -/
def Bl (s : ByteArray) (k : Nat) : Prop := k ≤ s.size ∧ NoBl s 0 k ∧ (k < s.size → s.data.toList[k]? = some 32)

theorem index_one (l : List UInt8) (i : Nat) (h1 : l[i]? = some 32) (h2 : ∀ k : Nat, k < i → l[k]? ≠ some 32) : Lib.index l [32] = i := by
  have e := Lib.index_one l 32
  rw [e]
  exact idx_eq l 32 i h1 h2
theorem index_miss1 (l : List UInt8) (h : ∀ k : Nat, l[k]? ≠ some 32) : Lib.index l [32] = -1 := by
  have e := Lib.index_one l 32
  rw [e]
  exact idx_no l 32 h
theorem tail1_get (s : ByteArray) (i : Nat) : (tail1 s)[i]? = s.data.toList[i + 1]? := by
  rw [tail1, List.getElem?_drop, Nat.add_comm]
theorem size_list (s : ByteArray) : s.data.toList.length = s.size := Array.length_toList

theorem cut_hit {s : ByteArray} {k : Nat} (h : Bl s k) (h1 : 1 ≤ k) (h2 : k < s.size) :
    (Lib.cut (tail1 s) [32]).1 = (s.extract 1 k).data.toList ∧ (⟨(Lib.cut (tail1 s) [32]).2.1.toArray⟩ : ByteArray) = s.extract (k + 1) s.size ∧ (Lib.cut (tail1 s) [32]).2.2 = true := by
  have hi : Lib.index (tail1 s) [32] = ((k - 1 : Nat) : Int) := index_one _ _ (by rw [tail1_get, show k - 1 + 1 = k by omega]; exact h.2.2 h2) (fun j hj => by rw [tail1_get]; exact h.2.1 (j + 1) (by omega) (by omega))
  unfold Lib.cut
  rw [hi, if_pos (by omega)]
  refine ⟨?_, ?_, rfl⟩
  · dsimp only
    rw [Lib.extract_data, tail1]
    simp
  · apply ByteArray.ext
    apply Array.toList_inj.1
    rw [Lib.extract_to_end]
    show List.drop _ (tail1 s) = _
    rw [tail1, List.drop_drop]
    congr 1
    simp
    omega
theorem cut_miss {s : ByteArray} (h : Bl s s.size) : (Lib.cut (tail1 s) [32]).2.2 = false := by
  have hi : Lib.index (tail1 s) [32] = -1 := index_miss1 _ (fun j => by
    rw [tail1_get]
    by_cases hj : j + 1 < s.size
    · exact h.2.1 (j + 1) (by omega) hj
    · rw [List.getElem?_eq_none (by rw [size_list]; omega)]
      intro e; cases e)
  unfold Lib.cut
  rw [hi, if_neg (by decide)]

theorem symO_short {s : ByteArray} {k : Nat} (h : Bl s k) (hk : k < 2) : symO s = none := by
  by_cases hz : s.size = 0
  · exact symO_nil s hz
  · have hp : 0 < s.size := by omega
    rw [symO_at s hp]
    rw [if_neg]
    rintro ⟨q1, q2, q3⟩
    rcases (by omega : k = 0 ∨ k = 1) with rfl | rfl
    · have e := (at_blank s 0 hp).1 (h.2.2 hp)
      have e2 : s[0] = 32 := by apply UInt8.toNat_inj.1; have : (32 : UInt8).toNat = 32 := rfl; omega
      rw [e2] at q1
      revert q1
      decide
    · by_cases h1 : 1 < s.size
      · obtain ⟨c1, -, -⟩ := cut_hit h (Nat.le_refl _) h1
        rw [c1, show (s.extract 1 1).data.toList = [] by rw [Lib.extract_data]; simp] at q3
        revert q3
        decide
      · obtain e : s.size = 1 := by omega
        rw [← e] at h
        rw [cut_miss h] at q2
        cases q2
theorem symO_full {s : ByteArray} (h : Bl s s.size) : symO s = none := by
  by_cases hz : s.size = 0
  · exact symO_nil s hz
  · rw [symO_at s (by omega), cut_miss h, if_neg]
    rintro ⟨-, q, -⟩
    cases q
theorem symO_line {s : ByteArray} {k : Nat} (h : Bl s k) (h2 : 2 ≤ k) (h3 : k < s.size) (hp : 0 < s.size) :
    symO s = if isKind s[0] = true ∧ numE (s.extract 1 k).data.toList 2147483647 = 0 then some ((s[0].toNat : Int), numV (s.extract 1 k).data.toList 2147483647, s.extract (k + 1) s.size) else none := by
  obtain ⟨c1, c2, c3⟩ := cut_hit h (by omega) h3
  rw [symO_at s hp, c1, c2, c3]
  simp
theorem bl_start (s : ByteArray) : NoBl s 0 0 := fun _j _ hj => absurd hj (Nat.not_lt_zero _)
theorem bl_next {s : ByteArray} {k : Nat} (h : NoBl s 0 k) (hk : k < s.size) (hb : ¬ (s[k].toNat : Int) = 32) : NoBl s 0 (k + 1) := fun j h0 hj => by
  by_cases e : j < k
  · exact h j h0 e
  · obtain rfl : j = k := by omega
    intro e
    exact hb ((at_blank s j hk).1 e)
theorem bl_hit {s : ByteArray} {k : Nat} (h : NoBl s 0 k) (hk : k < s.size) (hb : (s[k].toNat : Int) = 32) : Bl s k := ⟨by omega, h, fun _ => (at_blank s k hk).2 hb⟩
theorem bl_end {s : ByteArray} (h : NoBl s 0 s.size) : Bl s s.size := ⟨Nat.le_refl _, h, fun e => absurd e (Nat.lt_irrefl _)⟩
end Go.Proofs.YtikjbbebfjleaaaGreatDoor

namespace Go.Proofs.YtikjbbebfjleaaaGreatDoor
open Go.RowKit

theorem vals_succ (top : Int) (l : List ByteArray) (k : Nat) (h : k < l.length) : valsOf top (l.take (k + 1)) = valsOf top (l.take k) ++ [numV (l.getD k ByteArray.empty).data.toList top] := by
  unfold valsOf
  rw [List.take_succ_eq_append_getElem h, List.map_append, List.getD_eq_getElem?_getD, List.getElem?_eq_getElem h]
  rfl

theorem own_vals {w : World} {B : Nat} {e : TypeId} {v : Value} (top : Int) (l : List ByteArray) (k : Nat) (h : k < l.length) (ho : w.ownsRow B e 1 v (k + 1) ((valsOf top (l.take k)).map (Value.int .i64) ++ [.int .i64 (numV (l.getD k ByteArray.empty).data.toList top)])) :
    w.ownsRow B e 1 v (k + 1) ((valsOf top (l.take (k + 1))).map (Value.int .i64)) := by
  rw [vals_succ top l k h, List.map_append]; exact ho

theorem own_some {w : World} {base : Nat} {e : TypeId} {v : Value} {n : Nat} {xs : List Value} (h : w.ownsRow base e 1 v n xs) (hn : 0 < n) : ∃ g cap, v = .slice (some ⟨g, 0, none⟩) n cap ∧ g < w.heap.size := by
  have hlt := h.lt
  rcases h.2 with ⟨_, h0⟩ | ⟨g, cap, cur, rfl, _⟩
  · omega
  · exact ⟨g, cap, rfl, (hlt g rfl).2⟩

theorem own_str {w : World} {base g n cap : Nat} {e : TypeId} {l : List ByteArray} (h : w.ownsRow base e 1 (.slice (some ⟨g, 0, none⟩) n cap) n (l.map Value.string)) : ∀ k, k < l.length → w.cell? ⟨g, k, none⟩ = some (.string (l.getD k ByteArray.empty)) := by
  intro k hk
  have h1 := h.cells (g := g) rfl k (.string (l.getD k ByteArray.empty)) (by rw [List.getElem?_map, List.getElem?_eq_getElem hk, List.getD_eq_getElem?_getD, List.getElem?_eq_getElem hk]; rfl)
  have hplain : (⟨g, 0, none⟩ : Addr).add k = ⟨g, k, none⟩ := by unfold Addr.add; split <;> simp_all
  rw [hplain] at h1
  exact h1

theorem ints_vals {w : World} {B B' : Nat} {v : Value} {n : Nat} (top : Int) (l : List ByteArray) (hn : n = l.length) (hB : B' ≤ B) (ho : w.ownsRow B 3 1 v n ((valsOf top (l.take n)).map (Value.int .i64))) : OwnI B' w v (valsOf top l) := by
  subst hn
  rw [List.take_length] at ho
  refine OwnI.of ho hB (vals_length top l).symm (fun i hi => ?_)
  rw [List.getElem?_map, List.getElem?_eq_getElem hi, List.getD_eq_getElem?_getD, List.getElem?_eq_getElem hi]
  rfl

set_option maxRecDepth 100000 in
set_option maxHeartbeats 1000000 in
theorem refNumbers_any (s : ByteArray) (least most top : Int) (w : World) (hs : s.size ≤ 100000) (ht : top ≤ 9223372036854775807) (ht0 : 0 ≤ top) :
    Calls Tryz.prog 46 #[.string s, .int .i64 least, .int .i64 most, .int .i64 top] w (NumsPost s least most top w) := by
  obtain ⟨i0, hi, hz0, hz1, hz2⟩ := info_parts infoInt
  have HBad := hide (fun (h : okW s = false ∨ ((spl s).length : Int) < least ∨ most < (spl s).length) w' => nums_bad (top := top) (w := w) (w' := w') (fit_no h))
  have HErr := hide (fun (h1 : okW s = true) (h2 : least ≤ (spl s).length) (h3 : ((spl s).length : Int) ≤ most) w' k => nums_err (top := top) (w := w) (w' := w') (fit_yes h1 h2 h3) k)
  have HOk := hide (fun (h1 : okW s = true) (h2 : least ≤ (spl s).length) (h3 : ((spl s).length : Int) ≤ most) w' v => nums_ok (top := top) (w := w) (w' := w') (v := v) (fit_yes h1 h2 h3))
  have H1 := hide (refWords_any s w hs)
  unfold WordsPost at H1
  have hle := spl_le s
  have hpos := spl_pos s
  have HZ := hide (fun j hj => piece_size s j hj)
  generalize hP : NumsPost s least most top = Post at *
  clear hP
  generalize spl s = l at *
  generalize okW s = ok at *
  obtain ⟨n, hn⟩ : ∃ n, n = l.length := ⟨_, rfl⟩
  rw [← hn] at H1 hle hpos HErr HOk HZ HBad
  have HN := hide hn
  clear hn
  go_enter Tryz.func46, Tryz.ntmps46
  go_wp2_with fail
  refine H1.out.mono ?_
  rintro e w1 ⟨⟨rfl, v, rfl, hown⟩ | ⟨rfl, rfl⟩, hb⟩
  · obtain ⟨g, cp, rfl, hg⟩ := own_some hown hpos
    have HS := hide (own_str hown)
    clear hown
    by_cases h2 : (n : Int) < least
    · go_wp2
      all_goals exact HBad.out (.inr (.inl h2)) _ hb
    by_cases h3 : most < (n : Int)
    · go_wp2
      all_goals exact HBad.out (.inr (.inr h3)) _ hb
    go_wp2
    all_goals
      go_loopw [12, 13] (fun v i wr => ∃ k : Nat, k ≤ n ∧ i = .int .i64 k ∧ wr.ownsRow w1.heap.size 3 1 v k ((valsOf top (l.take k)).map (Value.int .i64)) ∧ Hid (∀ j, j < k → numE (l.getD j ByteArray.empty).data.toList top = 0) ∧ Hid (Below w1.heap.size w1 wr)) (fun _ i _ => n - (intOf i).toNat)
      case atStart => exact ⟨0, Nat.zero_le _, rfl, World.ownsRow_nil _ _ _ _, fun j hj => absurd hj (Nat.not_lt_zero _), Below.refl _ _⟩
      case round =>
        obtain ⟨k, hk, rfl, hown, HX, HB⟩ := hrel
        by_cases hlt : k < n
        · have hc := (HB.out.cell (p := ⟨g, k, none⟩) hg).trans (HS.out k (by rw [← HN.out]; exact hlt))
          have hz := HZ.out k hlt
          have HErrk := hide (fun w' => HErr.out (by simp) (by omega) (by omega) w' k hlt (fun j hj => HX.out j hj))
          have HC := hide (fun w' => refNumber_any (l.getD k ByteArray.empty) top w' (by omega) ht ht0)
          have HV := hide (fun w' v' => own_vals (w := w') (B := w1.heap.size) (e := 3) (v := v') top l k (by rw [← HN.out]; exact hlt))
          have HXk := hide (fun (h3 : numE (l.getD k ByteArray.empty).data.toList top = 0) (j : Nat) (hj : j < k + 1) => (by
            by_cases e : j < k
            · exact HX.out j e
            · obtain rfl : j = k := by omega
              exact h3 : numE (l.getD j ByteArray.empty).data.toList top = 0))
          generalize l.getD k ByteArray.empty = p at *
          generalize numV p.data.toList top = V at *
          generalize numE p.data.toList top = E at *
          have hszw := HB.out.size
          clear hz
          by_cases hE0 : E = 0
          · subst hE0
            go_wp2_with (first | (go_at_call 83; refine (HC.out _).mono ?_; rintro e w3 ⟨rfl, rfl⟩) | (at_builtin; refine wpList_append_own _ rfl (.tmp 53) (.tmp 55) 24 rfl w1.heap.size 3 i0 (.int .i64 0) 1 8 Tryz.underlying24 hi hz0 hz1 hz2 rfl (by decide) _ _ _ rfl (hown.alloc _) ⟨World.heap _ |>.size, 0, none⟩ 1 1 [.int .i64 V] rfl rfl (cell_one_new _ _ _) (by intro u hu; simp at hu; subst hu; rfl) (by unfold maxLen; omega) (by omega) (by simp; omega) ?_; intro v3 w3 hown3 hg3 _))
            go_roundw
            case rel => exact ⟨k + 1, by omega, by go_num, HV.out _ _ hown3, HXk.out (by simp), below_one HB.out hszw hown _ hg3⟩
            case measure => simp [intOf]; omega
          · have hE1 : (E == 0) = false := by rw [beq_eq_false_iff_ne]; exact hE0
            clear hown
            go_wp2_with (go_at_call 83; refine (HC.out _).mono ?_; rintro e w3 ⟨rfl, rfl⟩)
            exact HErrk.out _ hE0 (hb.trans (HB.out.mono hb.size))
        · obtain rfl : k = n := by omega
          have HO := hide hown
          clear hown
          go_wp2
          exact HOk.out (by simp) (by omega) (by omega) _ _ (fun j hj => HX.out j hj) (ints_vals top l HN.out hb.size HO.out) (hb.trans (HB.out.mono hb.size))
  · go_wp2
    exact HBad.out (.inl (by simp)) _ hb
set_option maxHeartbeats 400000 in
theorem sameInts_none (a b : Option Addr) (c d : Nat) (w : World) :
    Calls Tryz.prog 18 #[.slice a 0 c, .slice b 0 d] w fun e w' => e = .returned (.bool true) ∧ Below w.heap.size w w' := by
  go_enter Tryz.func18, Tryz.ntmps18
  go_wp2
  go_loop [5] (fun i => i = .int .i64 0) (fun _ => 0)
  case atStart => rfl
  case round =>
    subst hrel
    go_wp2
    go_ret
    exact ⟨rfl, Below.refl _ _⟩

set_option maxRecDepth 100000 in
set_option maxHeartbeats 400000 in
theorem sameInts_some (a1 o1 a2 o2 n c d : Nat) (xs : List Int) (w : World) (hn : xs.length = n) (hm : n ≤ 1073741824) (h1 : ∀ i, i < xs.length → w.cell? ⟨a1, o1 + i, none⟩ = some (.int .i64 (xs.getD i 0))) (h2 : ∀ i, i < xs.length → w.cell? ⟨a2, o2 + i, none⟩ = some (.int .i64 (xs.getD i 0))) :
    Calls Tryz.prog 18 #[.slice (some ⟨a1, o1, none⟩) n c, .slice (some ⟨a2, o2, none⟩) n d] w fun e w' => e = .returned (.bool true) ∧ Below w.heap.size w w' := by
  have H1 := hide h1
  have H2 := hide h2
  have HN := hide hn
  clear h1 h2 hn
  go_enter Tryz.func18, Tryz.ntmps18
  go_wp2
  go_loopw [5] (fun i wr => ∃ k : Nat, k ≤ n ∧ i = .int .i64 k ∧ ∃ q, wr = w.drewN q) (fun i _ => n - (intOf i).toNat)
  case atStart => exact ⟨0, Nat.zero_le _, rfl, 0, rfl⟩
  case round =>
    obtain ⟨k, hk, rfl, q, rfl⟩ := hrel
    by_cases hlt : k < n
    · have c1 := H1.out k (by rw [HN.out]; exact hlt)
      have c2 := H2.out k (by rw [HN.out]; exact hlt)
      generalize xs.getD k 0 = x at c1 c2
      go_wp2
      go_quiet (fail)
      go_wp2
      go_roundw
      case rel => exact ⟨k + 1, by omega, by go_num, _, rfl⟩
      case measure => simp [intOf]; omega
    · go_wp2
      go_ret
      exact ⟨rfl, rfl, rfl, rfl, Nat.le_refl _, fun _ _ => rfl⟩

theorem sameInts_any (u v : Value) (xs : List Int) (w : World) (hm : xs.length ≤ 1073741824) (h1 : Ints w u xs) (h2 : Ints w v xs) :
    Calls Tryz.prog 18 #[u, v] w fun e w' => e = .returned (.bool true) ∧ Below w.heap.size w w' := by
  obtain ⟨a, c, rfl, h1⟩ := h1
  obtain ⟨b, d, rfl, h2⟩ := h2
  rcases h1 with rfl | ⟨a1, o1, rfl, h1⟩
  · exact sameInts_none a b c d w
  · rcases h2 with rfl | ⟨a2, o2, rfl, h2⟩
    · exact sameInts_none _ b c d w
    · exact sameInts_some a1 o1 a2 o2 _ c d xs w rfl hm h1 h2
end Go.Proofs.YtikjbbebfjleaaaGreatDoor
