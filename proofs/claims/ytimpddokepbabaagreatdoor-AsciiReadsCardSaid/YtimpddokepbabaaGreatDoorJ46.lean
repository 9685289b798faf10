/-
  THE REFERENCE's READER, pure: a row, as far as it goes; a name's line by where its first blank stands; once it has failed a reader stays so.
  THE WALKS of the reference's Numbers and SameInts.
  ROWS THAT ARE THE CALL's OWN, beside boxes and other rows; an append as a step of a region that draws its order.
  THE REFERENCE's READER IN MEMORY: its block, its bytes, its place, its error.
  THE WALKS of its Begins, row, ones.
-/
import Derived.Test.YtimpddokepbabaaGreatDoorRd2
import Derived.Test.YtimpddokepbabaaGreatDoorNumbersW
import Derived.BigQuiet
import Derived.Test.YtimpddokepbabaaGreatDoorAigBox
import Derived.Deep.RegionHeld3
import Derived.Deep.LoopGhost
namespace Go.Proofs.YtimpddokepbabaaGreatDoor
open Go.RowKit

/-- The error that a reader bears. -/
def errR (st : Option Nat) : Int := if st.isNone = true then 2 else 0
/-- A row's numbers: none where the reader has failed. -/
def rowL (xs : List Int) (top : Int) (least most : Nat) (st : Option Nat) : List Int := if (rowS xs top least most st).2.isSome = true then nsL (lineS xs st).1 least most top else []

theorem rowS_none (xs : List Int) (top : Int) (least most : Nat) : (rowS xs top least most none).2 = none := by
  unfold rowS
  split <;> rfl
theorem rowS_ok {xs : List Int} {top : Int} {least most : Nat} {st : Option Nat} (h : (rowS xs top least most st).2.isSome = true) :
    nsE (lineS xs st).1 least most top = 0 ∧ (rowS xs top least most st).1 = rowL xs top least most st ++ List.replicate (most - (rowL xs top least most st).length) 0 ∧ least ≤ (rowL xs top least most st).length ∧ (rowL xs top least most st).length ≤ most := by
  by_cases h0 : nsE (lineS xs st).1 least most top = 0
  · have e : rowL xs top least most st = nsL (lineS xs st).1 least most top := by rw [rowL, if_pos h]
    have hl := nsL_len h0
    rw [e]
    refine ⟨h0, ?_, by omega, by omega⟩
    rw [rowS, if_pos h0]
  · rw [rowS, if_neg h0] at h
    cases h
theorem rowL_le (xs : List Int) (top : Int) (least most : Nat) (st : Option Nat) : (rowL xs top least most st).length ≤ most := by
  by_cases h : (rowS xs top least most st).2.isSome = true
  · exact (rowS_ok h).2.2.2
  · rw [rowL, if_neg h]; exact Nat.zero_le _

theorem itemsS_stuck {α : Type} {f : Nat → Option Nat → α × Option Nat} (hf : ∀ n, (f n none).2 = none) {st : Option Nat} {k : Nat} (h : (itemsS f st k).2 = none) : ∀ m, k ≤ m → (itemsS f st m).2 = none := by
  intro m hm
  induction m with
  | zero => obtain rfl : k = 0 := by omega
            exact h
  | succ m ih =>
    by_cases e : k = m + 1
    · rw [← e]; exact h
    · rw [itemsS, ih (by omega)]
      exact hf m
theorem litS_none (xs : List Int) (top lit : Int) : (litS xs top lit none).2 = none := rowS_none xs top 1 1
theorem latS_none (xs : List Int) (top lit : Int) : (latS xs top lit none).2 = none := rowS_none xs top 2 3
theorem andS_none (xs : List Int) (top lit : Int) : (andS xs top lit none).2 = none := rowS_none xs top 3 3

/-- The rows while they are right. -/
def OkL {α : Type} (st : Option Nat) (L L' : List α) : Prop := st.isSome = true → L = L'

/-- Where a line's first blank stands (its end, if none). -/
def Bl (s : ByteArray) (k : Nat) : Prop := k ≤ s.size ∧ NoBl s 0 k ∧ (k < s.size → s.data.toList[k]? = some 32)

theorem index_one (l : List UInt8) (i : Nat) (h1 : l[i]? = some 32) (h2 : ∀ k : Nat, k < i → l[k]? ≠ some 32) : Lib.index l [32] = i := by
  have e := Lib.index_one l 32
  rw [e]
  exact idx_eq l 32 i h1 h2
theorem index_miss1 (l : List UInt8) (h : ∀ k : Nat, l[k]? ≠ some 32) : Lib.index l [32] = -1 := by
  have e := Lib.index_one l 32
  rw [e]
  exact idx_no l 32 h
theorem tail1_get (s : ByteArray) (i : Nat) : (tail1 s)[i]? = s.data.toList[i + 1]? := by
  rw [tail1, List.getElem?_drop, Nat.add_comm]
theorem size_list (s : ByteArray) : s.data.toList.length = s.size := Array.length_toList

theorem cut_hit {s : ByteArray} {k : Nat} (h : Bl s k) (h1 : 1 ≤ k) (h2 : k < s.size) :
    (Lib.cut (tail1 s) [32]).1 = (s.extract 1 k).data.toList ∧ (⟨(Lib.cut (tail1 s) [32]).2.1.toArray⟩ : ByteArray) = s.extract (k + 1) s.size ∧ (Lib.cut (tail1 s) [32]).2.2 = true := by
  have hi : Lib.index (tail1 s) [32] = ((k - 1 : Nat) : Int) := index_one _ _ (by rw [tail1_get, show k - 1 + 1 = k by omega]; exact h.2.2 h2) (fun j hj => by rw [tail1_get]; exact h.2.1 (j + 1) (by omega) (by omega))
  unfold Lib.cut
  rw [hi, if_pos (by omega)]
  refine ⟨?_, ?_, rfl⟩
  · dsimp only
    rw [Lib.extract_data, tail1]
    simp
  · apply ByteArray.ext
    apply Array.toList_inj.1
    rw [Lib.extract_to_end]
    show List.drop _ (tail1 s) = _
    rw [tail1, List.drop_drop]
    congr 1
    simp
    omega
theorem cut_miss {s : ByteArray} (h : Bl s s.size) : (Lib.cut (tail1 s) [32]).2.2 = false := by
  have hi : Lib.index (tail1 s) [32] = -1 := index_miss1 _ (fun j => by
    rw [tail1_get]
    by_cases hj : j + 1 < s.size
    · exact h.2.1 (j + 1) (by omega) hj
    · rw [List.getElem?_eq_none (by rw [size_list]; omega)]
      intro e; cases e)
  unfold Lib.cut
  rw [hi, if_neg (by decide)]

theorem symO_short {s : ByteArray} {k : Nat} (h : Bl s k) (hk : k < 2) : symO s = none := by
  by_cases hz : s.size = 0
  · exact symO_nil s hz
  · have hp : 0 < s.size := by omega
    rw [symO_at s hp]
    rw [if_neg]
    rintro ⟨q1, q2, q3⟩
    rcases (by omega : k = 0 ∨ k = 1) with rfl | rfl
    · have e := (at_blank s 0 hp).1 (h.2.2 hp)
      have e2 : s[0] = 32 := by apply UInt8.toNat_inj.1; have : (32 : UInt8).toNat = 32 := rfl; omega
      rw [e2] at q1
      revert q1
      decide
    · by_cases h1 : 1 < s.size
      · obtain ⟨c1, -, -⟩ := cut_hit h (Nat.le_refl _) h1
        rw [c1, show (s.extract 1 1).data.toList = [] by rw [Lib.extract_data]; simp] at q3
        revert q3
        decide
      · obtain e : s.size = 1 := by omega
        rw [← e] at h
        rw [cut_miss h] at q2
        cases q2
theorem symO_full {s : ByteArray} (h : Bl s s.size) : symO s = none := by
  by_cases hz : s.size = 0
  · exact symO_nil s hz
  · rw [symO_at s (by omega), cut_miss h, if_neg]
    rintro ⟨-, q, -⟩
    cases q
theorem symO_line {s : ByteArray} {k : Nat} (h : Bl s k) (h2 : 2 ≤ k) (h3 : k < s.size) (hp : 0 < s.size) :
    symO s = if isKind s[0] = true ∧ numE (s.extract 1 k).data.toList 2147483647 = 0 then some ((s[0].toNat : Int), numV (s.extract 1 k).data.toList 2147483647, s.extract (k + 1) s.size) else none := by
  obtain ⟨c1, c2, c3⟩ := cut_hit h (by omega) h3
  rw [symO_at s hp, c1, c2, c3]
  simp
theorem bl_start (s : ByteArray) : NoBl s 0 0 := fun _j _ hj => absurd hj (Nat.not_lt_zero _)
theorem bl_next {s : ByteArray} {k : Nat} (h : NoBl s 0 k) (hk : k < s.size) (hb : ¬ (s[k].toNat : Int) = 32) : NoBl s 0 (k + 1) := fun j h0 hj => by
  by_cases e : j < k
  · exact h j h0 e
  · obtain rfl : j = k := by omega
    intro e
    exact hb ((at_blank s j hk).1 e)
theorem bl_hit {s : ByteArray} {k : Nat} (h : NoBl s 0 k) (hk : k < s.size) (hb : (s[k].toNat : Int) = 32) : Bl s k := ⟨by omega, h, fun _ => (at_blank s k hk).2 hb⟩
theorem bl_end {s : ByteArray} (h : NoBl s 0 s.size) : Bl s s.size := ⟨Nat.le_refl _, h, fun e => absurd e (Nat.lt_irrefl _)⟩
end Go.Proofs.YtimpddokepbabaaGreatDoor

namespace Go.Proofs.YtimpddokepbabaaGreatDoor
open Go.RowKit

theorem vals_succ (top : Int) (l : List ByteArray) (k : Nat) (h : k < l.length) : valsOf top (l.take (k + 1)) = valsOf top (l.take k) ++ [numV (l.getD k ByteArray.empty).data.toList top] := by
  unfold valsOf
  rw [List.take_succ_eq_append_getElem h, List.map_append, List.getD_eq_getElem?_getD, List.getElem?_eq_getElem h]
  rfl

theorem own_vals {w : World} {B : Nat} {e : TypeId} {v : Value} (top : Int) (l : List ByteArray) (k : Nat) (h : k < l.length) (ho : w.ownsRow B e 1 v (k + 1) ((valsOf top (l.take k)).map (Value.int .i64) ++ [.int .i64 (numV (l.getD k ByteArray.empty).data.toList top)])) :
    w.ownsRow B e 1 v (k + 1) ((valsOf top (l.take (k + 1))).map (Value.int .i64)) := by
  rw [vals_succ top l k h, List.map_append]; exact ho

theorem own_some {w : World} {base : Nat} {e : TypeId} {v : Value} {n : Nat} {xs : List Value} (h : w.ownsRow base e 1 v n xs) (hn : 0 < n) : ∃ g cap, v = .slice (some ⟨g, 0, none⟩) n cap ∧ g < w.heap.size := by
  have hlt := h.lt
  rcases h.2 with ⟨_, h0⟩ | ⟨g, cap, cur, rfl, _⟩
  · omega
  · exact ⟨g, cap, rfl, (hlt g rfl).2⟩

theorem own_str {w : World} {base g n cap : Nat} {e : TypeId} {l : List ByteArray} (h : w.ownsRow base e 1 (.slice (some ⟨g, 0, none⟩) n cap) n (l.map Value.string)) : ∀ k, k < l.length → w.cell? ⟨g, k, none⟩ = some (.string (l.getD k ByteArray.empty)) := by
  intro k hk
  have h1 := h.cells (g := g) rfl k (.string (l.getD k ByteArray.empty)) (by rw [List.getElem?_map, List.getElem?_eq_getElem hk, List.getD_eq_getElem?_getD, List.getElem?_eq_getElem hk]; rfl)
  have hplain : (⟨g, 0, none⟩ : Addr).add k = ⟨g, k, none⟩ := by unfold Addr.add; split <;> simp_all
  rw [hplain] at h1
  exact h1

theorem ints_vals {w : World} {B B' : Nat} {v : Value} {n : Nat} (top : Int) (l : List ByteArray) (hn : n = l.length) (hB : B' ≤ B) (ho : w.ownsRow B 3 1 v n ((valsOf top (l.take n)).map (Value.int .i64))) : OwnI B' w v (valsOf top l) := by
  subst hn
  rw [List.take_length] at ho
  refine OwnI.of ho hB (vals_length top l).symm (fun i hi => ?_)
  rw [List.getElem?_map, List.getElem?_eq_getElem hi, List.getD_eq_getElem?_getD, List.getElem?_eq_getElem hi]
  rfl

set_option maxRecDepth 100000 in
set_option maxHeartbeats 1000000 in
theorem refNumbers_any (s : ByteArray) (least most top : Int) (w : World) (hs : s.size ≤ 100000) (ht : top ≤ 9223372036854775807) (ht0 : 0 ≤ top) :
    Calls Tryz.prog 46 #[.string s, .int .i64 least, .int .i64 most, .int .i64 top] w (NumsPost s least most top w) := by
  obtain ⟨i0, hi, hz0, hz1, hz2⟩ := info_parts infoInt
  have HBad := hide (fun (h : okW s = false ∨ ((spl s).length : Int) < least ∨ most < (spl s).length) w' => nums_bad (top := top) (w := w) (w' := w') (fit_no h))
  have HErr := hide (fun (h1 : okW s = true) (h2 : least ≤ (spl s).length) (h3 : ((spl s).length : Int) ≤ most) w' k => nums_err (top := top) (w := w) (w' := w') (fit_yes h1 h2 h3) k)
  have HOk := hide (fun (h1 : okW s = true) (h2 : least ≤ (spl s).length) (h3 : ((spl s).length : Int) ≤ most) w' v => nums_ok (top := top) (w := w) (w' := w') (v := v) (fit_yes h1 h2 h3))
  have H1 := hide (refWords_any s w hs)
  unfold WordsPost at H1
  have hle := spl_le s
  have hpos := spl_pos s
  have HZ := hide (fun j hj => piece_size s j hj)
  generalize hP : NumsPost s least most top = Post at *
  clear hP
  generalize spl s = l at *
  generalize okW s = ok at *
  obtain ⟨n, hn⟩ : ∃ n, n = l.length := ⟨_, rfl⟩
  rw [← hn] at H1 hle hpos HErr HOk HZ HBad
  have HN := hide hn
  clear hn
  go_enter Tryz.func46, Tryz.ntmps46
  go_wp2_with fail
  refine H1.out.mono ?_
  rintro e w1 ⟨⟨rfl, v, rfl, hown⟩ | ⟨rfl, rfl⟩, hb⟩
  · obtain ⟨g, cp, rfl, hg⟩ := own_some hown hpos
    have HS := hide (own_str hown)
    clear hown
    by_cases h2 : (n : Int) < least
    · go_wp2
      all_goals exact HBad.out (.inr (.inl h2)) _ hb
    by_cases h3 : most < (n : Int)
    · go_wp2
      all_goals exact HBad.out (.inr (.inr h3)) _ hb
    go_wp2
    all_goals
      go_loopw [12, 13] (fun v i wr => ∃ k : Nat, k ≤ n ∧ i = .int .i64 k ∧ wr.ownsRow w1.heap.size 3 1 v k ((valsOf top (l.take k)).map (Value.int .i64)) ∧ Hid (∀ j, j < k → numE (l.getD j ByteArray.empty).data.toList top = 0) ∧ Hid (Below w1.heap.size w1 wr)) (fun _ i _ => n - (intOf i).toNat)
      case atStart => exact ⟨0, Nat.zero_le _, rfl, World.ownsRow_nil _ _ _ _, fun j hj => absurd hj (Nat.not_lt_zero _), Below.refl _ _⟩
      case round =>
        obtain ⟨k, hk, rfl, hown, HX, HB⟩ := hrel
        by_cases hlt : k < n
        · have hc := (HB.out.cell (p := ⟨g, k, none⟩) hg).trans (HS.out k (by rw [← HN.out]; exact hlt))
          have hz := HZ.out k hlt
          have HErrk := hide (fun w' => HErr.out (by simp) (by omega) (by omega) w' k hlt (fun j hj => HX.out j hj))
          have HC := hide (fun w' => refNumber_any (l.getD k ByteArray.empty) top w' (by omega) ht ht0)
          have HV := hide (fun w' v' => own_vals (w := w') (B := w1.heap.size) (e := 3) (v := v') top l k (by rw [← HN.out]; exact hlt))
          have HXk := hide (fun (h3 : numE (l.getD k ByteArray.empty).data.toList top = 0) (j : Nat) (hj : j < k + 1) => (by
            by_cases e : j < k
            · exact HX.out j e
            · obtain rfl : j = k := by omega
              exact h3 : numE (l.getD j ByteArray.empty).data.toList top = 0))
          generalize l.getD k ByteArray.empty = p at *
          generalize numV p.data.toList top = V at *
          generalize numE p.data.toList top = E at *
          have hszw := HB.out.size
          clear hz
          by_cases hE0 : E = 0
          · subst hE0
            go_wp2_with (first | (go_at_call 83; refine (HC.out _).mono ?_; rintro e w3 ⟨rfl, rfl⟩) | (at_builtin; refine wpList_append_own _ rfl (.tmp 53) (.tmp 55) 24 rfl w1.heap.size 3 i0 (.int .i64 0) 1 8 Tryz.underlying24 hi hz0 hz1 hz2 rfl (by decide) _ _ _ rfl (hown.alloc _) ⟨World.heap _ |>.size, 0, none⟩ 1 1 [.int .i64 V] rfl rfl (cell_one_new _ _ _) (by intro u hu; simp at hu; subst hu; rfl) (by unfold maxLen; omega) (by omega) (by simp; omega) ?_; intro v3 w3 hown3 hg3 _))
            go_roundw
            case rel => exact ⟨k + 1, by omega, by go_num, HV.out _ _ hown3, HXk.out (by simp), below_one HB.out hszw hown _ hg3⟩
            case measure => simp [intOf]; omega
          · have hE1 : (E == 0) = false := by rw [beq_eq_false_iff_ne]; exact hE0
            clear hown
            go_wp2_with (go_at_call 83; refine (HC.out _).mono ?_; rintro e w3 ⟨rfl, rfl⟩)
            exact HErrk.out _ hE0 (hb.trans (HB.out.mono hb.size))
        · obtain rfl : k = n := by omega
          have HO := hide hown
          clear hown
          go_wp2
          exact HOk.out (by simp) (by omega) (by omega) _ _ (fun j hj => HX.out j hj) (ints_vals top l HN.out hb.size HO.out) (hb.trans (HB.out.mono hb.size))
  · go_wp2
    exact HBad.out (.inl (by simp)) _ hb
set_option maxHeartbeats 400000 in
theorem sameInts_none (a b : Option Addr) (c d : Nat) (w : World) :
    Calls Tryz.prog 18 #[.slice a 0 c, .slice b 0 d] w fun e w' => e = .returned (.bool true) ∧ Below w.heap.size w w' := by
  go_enter Tryz.func18, Tryz.ntmps18
  go_wp2
  go_loop [5] (fun i => i = .int .i64 0) (fun _ => 0)
  case atStart => rfl
  case round =>
    subst hrel
    go_wp2
    go_ret
    exact ⟨rfl, Below.refl _ _⟩

set_option maxRecDepth 100000 in
set_option maxHeartbeats 400000 in
theorem sameInts_some (a1 o1 a2 o2 n c d : Nat) (xs : List Int) (w : World) (hn : xs.length = n) (hm : n ≤ 1073741824) (h1 : ∀ i, i < xs.length → w.cell? ⟨a1, o1 + i, none⟩ = some (.int .i64 (xs.getD i 0))) (h2 : ∀ i, i < xs.length → w.cell? ⟨a2, o2 + i, none⟩ = some (.int .i64 (xs.getD i 0))) :
    Calls Tryz.prog 18 #[.slice (some ⟨a1, o1, none⟩) n c, .slice (some ⟨a2, o2, none⟩) n d] w fun e w' => e = .returned (.bool true) ∧ Below w.heap.size w w' := by
  have H1 := hide h1
  have H2 := hide h2
  have HN := hide hn
  clear h1 h2 hn
  go_enter Tryz.func18, Tryz.ntmps18
  go_wp2
  go_loopw [5] (fun i wr => ∃ k : Nat, k ≤ n ∧ i = .int .i64 k ∧ ∃ q, wr = w.drewN q) (fun i _ => n - (intOf i).toNat)
  case atStart => exact ⟨0, Nat.zero_le _, rfl, 0, rfl⟩
  case round =>
    obtain ⟨k, hk, rfl, q, rfl⟩ := hrel
    by_cases hlt : k < n
    · have c1 := H1.out k (by rw [HN.out]; exact hlt)
      have c2 := H2.out k (by rw [HN.out]; exact hlt)
      generalize xs.getD k 0 = x at c1 c2
      go_wp2
      go_quiet (fail)
      go_wp2
      go_roundw
      case rel => exact ⟨k + 1, by omega, by go_num, _, rfl⟩
      case measure => simp [intOf]; omega
    · go_wp2
      go_ret
      exact ⟨rfl, rfl, rfl, rfl, Nat.le_refl _, fun _ _ => rfl⟩

theorem sameInts_any (u v : Value) (xs : List Int) (w : World) (hm : xs.length ≤ 1073741824) (h1 : Ints w u xs) (h2 : Ints w v xs) :
    Calls Tryz.prog 18 #[u, v] w fun e w' => e = .returned (.bool true) ∧ Below w.heap.size w w' := by
  obtain ⟨a, c, rfl, h1⟩ := h1
  obtain ⟨b, d, rfl, h2⟩ := h2
  rcases h1 with rfl | ⟨a1, o1, rfl, h1⟩
  · exact sameInts_none a b c d w
  · rcases h2 with rfl | ⟨a2, o2, rfl, h2⟩
    · exact sameInts_none _ b c d w
    · exact sameInts_some a1 o1 a2 o2 _ c d xs w rfl hm h1 h2
end Go.Proofs.YtimpddokepbabaaGreatDoor

namespace Go.Proofs.YtimpddokepbabaaGreatDoor
open Go.RowKit

/-- 'append(s, x...)' as a step of a region that draws: s the call's own, x whatever slice whose cells are known. -/
theorem step_append_rowC {P : Program} (w : World) {ops : Array Oper} {o : Oper} {a : Act} {K : Act → World → Prop} {Q : Exit → Act → World → Prop} {E : Prop} (hgd : o.guard = none) (s x : Operand) (t : TypeId)
    (ho : o.op = .call { callee := .builtin .append, args := #[s, x], argTypes := #[t, t] })
    (base : Nat) (e : TypeId) (i : TypeInfo) (z : Value) (size bytes : Nat) (ht : P.underlying t = some (.slice e)) (hi : P.info? e = some i) (hz : i.zero = some z)
    (hsize : i.size = size) (hby : i.bytes = bytes) (hzs : z.cells.size = size) (hsz : 0 < size)
    (v : Value) (n : Nat) (xs : List Value) (hs : a.eval s = v) (hown : w.ownsRow base e size v n xs)
    (ao : Option Addr) (m c : Nat) (news : List Value) (hx : a.eval x = .slice ao m c) (hl : news.length = m * size) (hr : RowC w ao news) (hnc : ao = none → c = 0) (h1 : ∀ u ∈ news, u.oneCell' = true)
    (h63 : n + m ≤ maxLen) (hbytes : (n + m) * bytes ≤ 140737488355328) (hbase : base ≤ w.heap.size)
    (h : ∀ v' w', w'.ownsRow base e size v' (n + m) (xs ++ news) → w.grownBy w' v.ownBlock → K (a.put o.dst v') w') :
    if Region.wanted o (yielded ops a.tmps) = true then Oper.wp P o a w K Q else E := by
  have hw : Region.wanted o (yielded ops a.tmps) = true := by simp [Region.wanted, hgd]
  rw [if_pos hw]
  rcases hr with ⟨rfl, rfl⟩ | ⟨ad, rfl, hcell⟩
  · have hm : m = 0 := by
      rcases Nat.mul_eq_zero.1 (show m * size = 0 from by simpa using hl.symm) with h | h
      · exact h
      · omega
    subst hm
    obtain rfl := hnc rfl
    have hrun := run_append_owned_none (P := P) (w := w) base t o.type e i size ht hi v n xs hown
    unfold Oper.wp
    simp [execOp, ho, resolve, invoke, builtin, hs, hx, hrun, Result.andThen]
    exact h v w (by simpa using hown) (World.grownBy.refl _ _)
  · exact wp_append_own w s x t ho base e i z size bytes ht hi hz hsize hby hzs hsz v n xs hs hown ad m c news hx hl hcell h1 h63 hbytes hbase (fun v' w' h1 h2 _ => h v' w' h1 h2)

/-- The same, the operation written out: so that it is not tried at another one. -/
theorem step_append_wr {P : Program} {w : World} {ops : Array Oper} {d : Option Tmp} {ty : TypeId} {pos : String} {af : Array Edge} {a : Act} {K : Act → World → Prop} {Q : Exit → Act → World → Prop} {E : Prop} (s x : Operand) (t : TypeId)
    (base : Nat) (e : TypeId) (i : TypeInfo) (z : Value) (size bytes : Nat) (ht : P.underlying t = some (.slice e)) (hi : P.info? e = some i) (hz : i.zero = some z)
    (hsize : i.size = size) (hby : i.bytes = bytes) (hzs : z.cells.size = size) (hsz : 0 < size)
    (v : Value) (n : Nat) (xs : List Value) (ao : Option Addr) (m c : Nat) (news : List Value) (hl : news.length = m * size) (hnc : ao = none → c = 0) (h1 : ∀ u ∈ news, u.oneCell' = true)
    (h63 : n + m ≤ maxLen) (hbytes : (n + m) * bytes ≤ 140737488355328)
    (hs : a.eval s = v) (hx : a.eval x = .slice ao m c) (hown : w.ownsRow base e size v n xs) (hr : RowC w ao news) (hbase : base ≤ w.heap.size)
    (h : ∀ v' w', w'.ownsRow base e size v' (n + m) (xs ++ news) → w.grownBy w' v.ownBlock → K (a.put d v') w') :
    if Region.wanted { dst := d, op := .call { callee := .builtin .append, args := #[s, x], argTypes := #[t, t] }, type := ty, pos := pos, after := af, guard := none } (yielded ops a.tmps) = true then Oper.wp P { dst := d, op := .call { callee := .builtin .append, args := #[s, x], argTypes := #[t, t] }, type := ty, pos := pos, after := af, guard := none } a w K Q else E :=
  step_append_rowC w rfl s x t rfl base e i z size bytes ht hi hz hsize hby hzs hsz v n xs hs hown ao m c news hx hl hr hnc h1 h63 hbytes hbase h

/-- A row of other elements does not lie in a circuit's box, nor where a row of yet others lies. -/
theorem own_ne_box {w : World} {B b size n : Nat} {e : TypeId} {v : Value} {xs : List Value} {d : CV} (h : w.ownsRow B e size v n xs) (hb : Box w b d) (he : e ≠ 29) : v.ownBlock ≠ some b := by
  rcases h.2 with ⟨rfl, _⟩ | ⟨g, cap, cur, rfl, -, hg, -⟩
  · simp [Value.ownBlock]
  · intro e2
    have e3 : g = b := Option.some.inj e2
    subst e3
    unfold Box at hb
    rw [hg] at hb
    have e4 := Option.some.inj hb
    injection e4 with _ e5
    exact he e5
theorem own_ne_own {w : World} {B B' size size' n n' : Nat} {e e' : TypeId} {v v' : Value} {xs xs' : List Value} (h : w.ownsRow B e size v n xs) (h' : w.ownsRow B' e' size' v' n' xs') (he : e ≠ e') : v.ownBlock = none ∨ v.ownBlock ≠ v'.ownBlock := by
  rcases h.2 with ⟨rfl, _⟩ | ⟨g, cap, cur, rfl, -, hg, -⟩
  · left; rfl
  · right
    rcases h'.2 with ⟨rfl, _⟩ | ⟨g', cap', cur', rfl, -, hg', -⟩
    · simp [Value.ownBlock]
    · intro e2
      have e3 : g = g' := Option.some.inj e2
      subst e3
      rw [hg'] at hg
      have e4 := Option.some.inj hg
      injection e4 with _ e5
      exact he e5.symm
theorem own_block {w w' : World} {B size n : Nat} {e : TypeId} {v : Value} {xs : List Value} (h : w.ownsRow B e size v n xs) (hb : ∀ g, v.ownBlock = some g → w'.heap[g]? = w.heap[g]?) : w'.ownsRow B e size v n xs := by
  obtain ⟨h1, h2⟩ := h
  refine ⟨h1, ?_⟩
  rcases h2 with h2 | ⟨g, cap, cur, rfl, hg, hh, r⟩
  · exact .inl h2
  · exact .inr ⟨g, cap, cur, rfl, hg, (hb g rfl).trans hh, r⟩
theorem own_grown {w w' : World} {B B' size size' n n' : Nat} {e e' : TypeId} {v v' : Value} {xs xs' : List Value} (h : w.ownsRow B e size v n xs) (h' : w.ownsRow B' e' size' v' n' xs') (he : e ≠ e') (hg : w.grownBy w' v'.ownBlock) : w'.ownsRow B e size v n xs := by
  refine own_block h (fun g hv => hg.block g (h.lt g hv).2 (fun e2 => ?_))
  rcases own_ne_own h h' he with h0 | h0
  · rw [h0] at hv; cases hv
  · exact h0 (hv.trans e2)
theorem own_put {w : World} {B b size n : Nat} {e : TypeId} {v : Value} {xs : List Value} {d d' : CV} (h : w.ownsRow B e size v n xs) (hb : Box w b d) (he : e ≠ 29) : (putBox w b d').ownsRow B e size v n xs := by
  have hne := own_ne_box h hb he
  exact own_block h (fun g hv => (two_put w b d').block g (h.lt g hv).2 (fun e2 => hne (e2 ▸ hv)) (fun e2 => hne (e2 ▸ hv)))
theorem own_cellQ {w : World} {B b j size n : Nat} {e : TypeId} {v u : Value} {xs : List Value} {d : CV} (h : w.ownsRow B e size v n xs) (hb : Box w b d) (he : e ≠ 29) : (w.setCell ⟨b, j, none⟩ u).ownsRow B e size v n xs := by
  have hne := own_ne_box h hb he
  exact own_block h (fun g hv => heap_setCell_other w ⟨b, j, none⟩ g u (fun e2 => hne (by rw [hv]; exact congrArg some e2)))

theorem rowC_three {w W : World} {u0 u1 u2 : Value} {t : TypeId} {b : Nat} (hW : W = w.alloc (.cells #[u0, u1, u2] t)) (hb : b = w.heap.size) : RowC W (some ⟨b, 0, none⟩) [u0, u1, u2] := by
  subst hW
  subst hb
  refine .inr ⟨_, rfl, fun j u hu => ?_⟩
  rw [add_plain, Nat.zero_add, cell_of_row _ _ j #[u0, u1, u2] t (0, 0) (heap_alloc_new w _)]
  simpa using hu
/-- Three cells of a block, carried on. -/
theorem three_belowQ {w W : World} {q : Nat} {u0 u1 u2 : Value} (h : w.cell? ⟨q, 0, none⟩ = some u0 ∧ w.cell? ⟨q, 1, none⟩ = some u1 ∧ w.cell? ⟨q, 2, none⟩ = some u2) (hb : Below w.heap.size w W) : W.cell? ⟨q, 0, none⟩ = some u0 ∧ W.cell? ⟨q, 1, none⟩ = some u1 ∧ W.cell? ⟨q, 2, none⟩ = some u2 :=
  ⟨(hb.cell (block_lt_of_cell h.1)).trans h.1, (hb.cell (block_lt_of_cell h.2.1)).trans h.2.1, (hb.cell (block_lt_of_cell h.2.2)).trans h.2.2⟩
theorem three_grown {w W : World} {q : Nat} {u0 u1 u2 : Value} {row : Option Nat} (h : w.cell? ⟨q, 0, none⟩ = some u0 ∧ w.cell? ⟨q, 1, none⟩ = some u1 ∧ w.cell? ⟨q, 2, none⟩ = some u2) (hg : w.grownBy W row) (hne : some q ≠ row) : W.cell? ⟨q, 0, none⟩ = some u0 ∧ W.cell? ⟨q, 1, none⟩ = some u1 ∧ W.cell? ⟨q, 2, none⟩ = some u2 :=
  ⟨hg.cell h.1 hne, hg.cell h.2.1 hne, hg.cell h.2.2 hne⟩
theorem three_set {w : World} {q b j : Nat} {u0 u1 u2 v : Value} (h : w.cell? ⟨q, 0, none⟩ = some u0 ∧ w.cell? ⟨q, 1, none⟩ = some u1 ∧ w.cell? ⟨q, 2, none⟩ = some u2) (hne : b ≠ q) : (w.setCell ⟨b, j, none⟩ v).cell? ⟨q, 0, none⟩ = some u0 ∧ (w.setCell ⟨b, j, none⟩ v).cell? ⟨q, 1, none⟩ = some u1 ∧ (w.setCell ⟨b, j, none⟩ v).cell? ⟨q, 2, none⟩ = some u2 := by
  have e : ∀ i, (w.setCell ⟨b, j, none⟩ v).cell? ⟨q, i, none⟩ = w.cell? ⟨q, i, none⟩ := fun i => cell_set_other (fun e => by have := congrArg Addr.block e; simp at this; omega)
  rw [e, e, e]; exact h
theorem three_new (w : World) (u0 u1 u2 : Value) (t : TypeId) : (w.alloc (.cells #[u0, u1, u2] t)).drew.cell? ⟨w.heap.size, 0, none⟩ = some u0 ∧ (w.alloc (.cells #[u0, u1, u2] t)).drew.cell? ⟨w.heap.size, 1, none⟩ = some u1 ∧ (w.alloc (.cells #[u0, u1, u2] t)).drew.cell? ⟨w.heap.size, 2, none⟩ = some u2 :=
  ⟨cell_of_row _ _ 0 _ _ (0, 0) (heap_alloc_new w _), cell_of_row _ _ 1 _ _ (0, 0) (heap_alloc_new w _), cell_of_row _ _ 2 _ _ (0, 0) (heap_alloc_new w _)⟩
end Go.Proofs.YtimpddokepbabaaGreatDoor

namespace Go.Proofs.YtimpddokepbabaaGreatDoor
open Go.RowKit

/-- The reference's reader: block p holds its bytes, its place st (none: it has failed), the greatest literal, its error. -/
structure RdR (p : Nat) (a : Option Addr) (n c : Nat) (xs : List Int) (top : Int) (st : Option Nat) (w : World) : Prop where
  blk : ∃ k : Int, w.heap[p]? = some (.cells #[.slice a n c, .int .i64 k, .int .i64 top, .int .i64 (errR st)] 68 (0, 0)) ∧ ∀ j, st = some j → k = (j : Int)
  inb : InB xs st
  text : Row8 w a xs
  len : xs.length = n
  cap : n ≤ c
  apart : ∀ x, a = some x → 0 < xs.length → x.block ≠ p
  bytes : Bytes8 xs
  small : n ≤ 100000

section
variable {p : Nat} {a : Option Addr} {n c : Nat} {xs : List Int} {top top0 top1 : Int} {st st0 st1 : Option Nat} {w w' w1 w2 w3 w4 : World}
theorem RdR.to {top' : Int} {st' : Option Nat} (h : RdR p a n c xs top st w) (t : Two p p w w') (hb : ∃ k : Int, w'.heap[p]? = some (.cells #[.slice a n c, .int .i64 k, .int .i64 top', .int .i64 (errR st')] 68 (0, 0)) ∧ ∀ j, st' = some j → k = (j : Int)) (hi : InB xs st') : RdR p a n c xs top' st' w' :=
  ⟨hb, hi, row8_two h.text t h.apart, h.len, h.cap, h.apart, h.bytes, h.small⟩
theorem RdR.lt (h : RdR p a n c xs top st w) : p < w.heap.size := by
  obtain ⟨k, h1, _⟩ := h.blk
  exact (Array.getElem?_eq_some_iff.1 h1).1
theorem RdR.below (h : RdR p a n c xs top st w) (hb : Below w.heap.size w w') : RdR p a n c xs top st w' := by
  obtain ⟨k, h1, h2⟩ := h.blk
  exact h.to (Two.of_below hb) ⟨k, (hb.block p h.lt).trans h1, h2⟩ h.inb
theorem RdR.cells (h : RdR p a n c xs top st w) : ∃ k : Int, (∀ j, st = some j → k = (j : Int)) ∧ w.cell? ⟨p, 0, none⟩ = some (.slice a n c) ∧ w.cell? ⟨p, 1, none⟩ = some (.int .i64 k) ∧ w.cell? ⟨p, 2, none⟩ = some (.int .i64 top) ∧ w.cell? ⟨p, 3, none⟩ = some (.int .i64 (errR st)) := by
  obtain ⟨k, h1, h2⟩ := h.blk
  have e : ∀ j, w.cell? ⟨p, j, none⟩ = (#[.slice a n c, .int .i64 k, .int .i64 top, .int .i64 (errR st)] : Array Value)[j]? := fun j => cell_of_row w p j _ _ (0, 0) h1
  exact ⟨k, h2, by rw [e]; rfl, by rw [e]; rfl, by rw [e]; rfl, by rw [e]; rfl⟩
theorem RdR.free (h : RdR p a n c xs top st w) (j : Nat) : w.frozen? ⟨p, j, none⟩ = false := by
  obtain ⟨k, h1, _⟩ := h.blk
  exact frozen_of_row w p j _ _ h1
theorem RdR.move {i : Nat} (h : RdR p a n c xs top (some i) w) (j : Nat) (hj : j ≤ n) : RdR p a n c xs top (some j) (w.setCell ⟨p, 1, none⟩ (.int .i64 (j : Int))) ∧ Two p p w (w.setCell ⟨p, 1, none⟩ (.int .i64 (j : Int))) := by
  have t := (Two.refl p p w).setL 1 (.int .i64 (j : Int))
  refine ⟨?_, t⟩
  obtain ⟨k, h1, h2⟩ := h.blk
  exact h.to t ⟨j, heap_setCell_same w p 1 _ _ _ h1, fun i hi => by cases hi; rfl⟩ (fun i hi => by cases hi; rw [h.len]; exact hj)
theorem RdR.fail (h : RdR p a n c xs top st w) : RdR p a n c xs top none (w.setCell ⟨p, 3, none⟩ (.int .i64 2)) ∧ Two p p w (w.setCell ⟨p, 3, none⟩ (.int .i64 2)) := by
  have t := (Two.refl p p w).setL 3 (.int .i64 2)
  refine ⟨?_, t⟩
  obtain ⟨k, h1, h2⟩ := h.blk
  exact h.to t ⟨k, heap_setCell_same w p 3 _ _ _ h1, fun i hi => by cases hi⟩ (fun i hi => by cases hi)
theorem RdR.topped (h : RdR p a n c xs top st w) (T : Int) : RdR p a n c xs T st (w.setCell ⟨p, 2, none⟩ (.int .i64 T)) ∧ Two p p w (w.setCell ⟨p, 2, none⟩ (.int .i64 T)) := by
  have t := (Two.refl p p w).setL 2 (.int .i64 T)
  refine ⟨?_, t⟩
  obtain ⟨k, h1, h2⟩ := h.blk
  exact h.to t ⟨k, heap_setCell_same w p 2 _ _ _ h1, h2⟩ h.inb

/-- What a call leaves of the reader: its next place, all else as it was. -/
def WentR (p : Nat) (a : Option Addr) (n c : Nat) (xs : List Int) (top : Int) (w : World) (st : Option Nat) (w' : World) : Prop := RdR p a n c xs top st w' ∧ Two p p w w'
theorem WentR.far (h : RdR p a n c xs top0 st0 w) (g : WentR p a n c xs top w st w3) (hb : Below w.heap.size w3 w4) : WentR p a n c xs top w st w4 := by
  have t : Two p p w w4 := ⟨hb.os.trans g.2.os, hb.tape.trans g.2.tape, hb.output.trans g.2.output, Nat.le_trans g.2.size hb.size, fun k hk h1 h2 => (hb.block k hk).trans (g.2.block k hk h1 h2)⟩
  obtain ⟨k, h1, h2⟩ := g.1.blk
  exact ⟨h.to t ⟨k, (hb.block p h.lt).trans h1, h2⟩ g.1.inb, t⟩
theorem WentR.then (g : WentR p a n c xs top w st w1) (k : WentR p a n c xs top1 w1 st1 w2) : WentR p a n c xs top1 w st1 w2 := ⟨k.1, g.2.trans k.2⟩
theorem WentR.refl (h : RdR p a n c xs top st w) : WentR p a n c xs top w st w := ⟨h, Two.refl _ _ _⟩
theorem WentR.below (g : WentR p a n c xs top w st w1) (hb : Below w1.heap.size w1 w2) : WentR p a n c xs top w st w2 := ⟨g.1.below hb, g.2.trans (Two.of_below hb)⟩
theorem WentR.drewN (h : RdR p a n c xs top st w) (q : Nat) : WentR p a n c xs top w st (w.drewN q) := ⟨h.below (Drew.below ⟨q, rfl⟩), Two.drewN _ _ _ _⟩
end

set_option maxHeartbeats 400000 in
theorem refBegins_any (s x : ByteArray) (w : World) :
    Calls Tryz.prog 57 #[.string s, .string x] w fun e w' => e = .returned (.bool (Lib.hasPrefix s.data.toList x.data.toList)) ∧ w' = w := by
  by_cases hl : x.size ≤ s.size
  · by_cases he : s.extract 0 x.size = x
    · have hp : Lib.hasPrefix s.data.toList x.data.toList = true := by
        unfold Lib.hasPrefix
        rw [List.isPrefixOf_iff_prefix]
        have := congrArg (fun b : ByteArray => b.data.toList) he
        (try dsimp only at this)
        rw [Lib.extract_data, List.drop_zero, Nat.sub_zero] at this
        rw [← this]
        exact List.take_prefix _ _
      rw [hp]
      have h1 : ((s.extract 0 x.size).toList == x.toList) = true := by rw [he]; simp
      have hx : (x.size : Int) ≤ (s.size : Int) := by omega
      clear he hp
      go_enter Tryz.func57, Tryz.ntmps57
      go_wp2
      go_ret
      exact ⟨rfl, rfl⟩
    · have hp : Lib.hasPrefix s.data.toList x.data.toList = false := by
        rw [Bool.eq_false_iff]
        intro hc
        unfold Lib.hasPrefix at hc
        rw [List.isPrefixOf_iff_prefix] at hc
        obtain ⟨t, ht⟩ := hc
        apply he
        apply ByteArray.ext
        apply Array.toList_inj.1
        rw [Lib.extract_data, List.drop_zero, Nat.sub_zero, ← ht, Lib.size_eq, List.take_left]
      rw [hp]
      have h1 : ((s.extract 0 x.size).toList == x.toList) = false := bytes_ne he
      have hx : (x.size : Int) ≤ (s.size : Int) := by omega
      clear he hp
      go_enter Tryz.func57, Tryz.ntmps57
      go_wp2
      go_ret
      exact ⟨rfl, rfl⟩
  · have hp : Lib.hasPrefix s.data.toList x.data.toList = false := by
      rw [Bool.eq_false_iff]
      intro hc
      unfold Lib.hasPrefix at hc
      rw [List.isPrefixOf_iff_prefix] at hc
      have h1 := hc.length_le
      have h2 : s.data.toList.length = s.size := Array.length_toList
      have h3 : x.data.toList.length = x.size := Array.length_toList
      omega
    rw [hp]
    have hx : (s.size : Int) < (x.size : Int) := by omega
    go_enter Tryz.func57, Tryz.ntmps57
    go_wp2
    go_ret
    exact ⟨rfl, rfl⟩

set_option maxRecDepth 100000 in
set_option maxHeartbeats 1000000 in
theorem refRow_any (p : Nat) (a : Option Addr) (n c : Nat) (xs : List Int) (top : Int) (st : Option Nat) (least most : Nat) (w : World) (h : RdR p a n c xs top st w) (_hm9 : most ≤ 9) (_hl9 : least ≤ 9) (ht0 : 0 ≤ top) (ht : top ≤ 9223372036854775807) :
    Calls Tryz.prog 41 #[.pointer (some ⟨p, 0, none⟩), .int .i64 (least : Int), .int .i64 (most : Int)] w fun e w' => ∃ v, e = .returned v ∧ OwnI w.heap.size w' v (rowL xs top least most st) ∧ WentR p a n c xs top w (rowS xs top least most st).2 w' := by
  have H0 := hide h
  obtain ⟨k, hk, c0, c1, c2, c3⟩ := h.cells
  have hln := h.len
  have hsm := h.small
  cases st with
  | none =>
    have e : rowL xs top least most none = [] := by rw [rowL, if_neg (by rw [rowS_none]; decide)]
    rw [rowS_none, e]
    rw [show errR none = 2 from rfl] at c3
    clear h hk c0 c1 c2
    go_enter Tryz.func41, Tryz.ntmps41
    go_wp2
    go_ret
    exact ⟨_, rfl, OwnI.nil _ _, WentR.refl H0.out⟩
  | some j =>
    obtain rfl := hk j rfl
    rw [show errR (some j) = 0 from rfl] at c3
    have hj : j ≤ n := by rw [← hln]; exact h.inb j rfl
    have f1 := h.free 1
    have f3 := h.free 3
    rcases hit_or_miss xs j with ⟨d, hd⟩ | hm
    · have hjd : j + d + 1 ≤ n := by have := hd.1; omega
      have HC := hide (fun W (hW : RdR p a n c xs top (some j) W) => refLine_hit a n c j d xs W hW.text hW.len hW.cap (by omega) hd)
      have hlS : lineS xs (some j) = (strOfNums ((xs.drop j).take d), some (j + d + 1)) := lineS_yes (lineO_hit hd)
      have e1 : ((j + d + 1 : Nat) : Int) = (j : Int) + d + 1 := by omega
      have hfin : Hid (∀ q, WentR p a n c xs top w (some (j + d + 1)) ((w.drewN q).setCell ⟨p, 1, none⟩ (.int .i64 ((j : Int) + d + 1)))) := fun q => by
        have m := ((WentR.drewN H0.out q).1).move (j + d + 1) hjd
        rw [e1] at m
        exact ⟨m.1, (Two.drewN _ _ _ _).trans m.2⟩
      have hszS : (strOfNums ((xs.drop j).take d)).size ≤ 100000 := by rw [strOfNums_size, List.length_take, List.length_drop]; omega
      have hdr := hide (fun q => (WentR.drewN H0.out q).1)
      have hrl : rowL xs top least most (some j) = if (rowS xs top least most (some j)).2.isSome = true then nsL (strOfNums ((xs.drop j).take d)) least most top else [] := by rw [rowL, hlS]
      have hrs : (rowS xs top least most (some j)).2 = if nsE (strOfNums ((xs.drop j).take d)) least most top = 0 then some (j + d + 1) else none := by
        unfold rowS
        rw [hlS]
        split <;> rfl
      have HNum := hide (fun W => refNumbers_any (strOfNums ((xs.drop j).take d)) least most top W hszS ht ht0)
      unfold NumsPost at HNum
      rw [hrl, hrs]
      clear hrl hrs hlS
      generalize strOfNums ((xs.drop j).take d) = S at *
      by_cases hE : nsE S least most top = 0
      · rw [if_pos hE, if_pos (show (some (j + d + 1)).isSome = true from rfl)]
        rw [hE] at HNum
        generalize nsL S least most top = L at *
        clear h hk hd e1 hE c2
        go_enter Tryz.func41, Tryz.ntmps41
        go_wp2
        go_quiet ((go_at_call 81; refine (HC.out _ (hdr.out _)).mono ?_; rintro e w1 ⟨rfl, rfl⟩; exact ⟨rfl, _, rfl⟩))
        go_upto_region 8 with fail
        generalize hW : (w.drewN _).setCell ⟨p, 1, none⟩ (.int .i64 ((j : Int) + d + 1)) = W1
        have M1 : Hid (WentR p a n c xs top w (some (j + d + 1)) W1) := by rw [← hW]; exact hfin.out _
        clear hW hfin HC hdr c0 c1 c3 f1 f3
        obtain ⟨k1, hk1, q0, q1, q2, q3⟩ := M1.out.1.cells
        clear hk1 q0 q1 q3
        go_wp2_with (go_at_call 46; refine (HNum.out W1).mono ?_; rintro e w2 ⟨v, rfl, ho, hb⟩; have M2 := hide (M1.out.below hb); have HO := hide (own_le ho M1.out.2.size); clear ho hb)
        go_ret
        exact ⟨_, rfl, HO.out, M2.out⟩
      · rw [if_neg hE, if_neg (show ¬ (none : Option Nat).isSome = true by decide)]
        generalize nsE S least most top = E at *
        generalize nsL S least most top = L at *
        have hE1 : (E == 0) = false := by rw [beq_eq_false_iff_ne]; exact hE
        have hE2 : (E != 0) = true := by rw [bne, hE1]; rfl
        clear h hk hd e1 hE c2
        go_enter Tryz.func41, Tryz.ntmps41
        go_wp2
        go_quiet ((go_at_call 81; refine (HC.out _ (hdr.out _)).mono ?_; rintro e w1 ⟨rfl, rfl⟩; exact ⟨rfl, _, rfl⟩))
        go_upto_region 8 with fail
        generalize hW : (w.drewN _).setCell ⟨p, 1, none⟩ (.int .i64 ((j : Int) + d + 1)) = W1
        have M1 : Hid (WentR p a n c xs top w (some (j + d + 1)) W1) := by rw [← hW]; exact hfin.out _
        clear hW hfin HC hdr c0 c1 c3 f1 f3
        obtain ⟨k1, hk1, q0, q1, q2, q3⟩ := M1.out.1.cells
        clear hk1 q0 q1 q3
        go_wp2_with (go_at_call 46; refine (HNum.out W1).mono ?_; rintro e w2 ⟨v, rfl, ho, hb⟩; have M2 := hide (M1.out.below hb); obtain ⟨k2, hk2, r0, r1, r2, r3⟩ := M2.out.1.cells; have g3 := M2.out.1.free 3; clear ho hb hk2 r0 r1 r2)
        go_ret
        exact ⟨_, rfl, OwnI.nil _ _, M2.out.1.fail.1, M2.out.2.trans M2.out.1.fail.2⟩
    · have HC := hide (fun W (hW : RdR p a n c xs top (some j) W) => refLine_miss a n c j xs W hW.text hW.len (by omega) hj hm)
      have hlS : lineS xs (some j) = (⟨#[]⟩, none) := lineS_no (lineO_miss hm)
      have hrs : (rowS xs top least most (some j)).2 = none := by
        unfold rowS
        rw [hlS]
        split <;> rfl
      have hrl : rowL xs top least most (some j) = [] := by rw [rowL, hrs]; rfl
      rw [hrl, hrs]
      have hdr := hide (fun q => (WentR.drewN H0.out q).1)
      have hfin : Hid (∀ q, WentR p a n c xs top w none ((w.drewN q).setCell ⟨p, 3, none⟩ (.int .i64 2))) := fun q => by
        have m := ((WentR.drewN H0.out q).1).fail
        exact ⟨m.1, (Two.drewN _ _ _ _).trans m.2⟩
      clear h hk hm hrs hrl hlS c2
      go_enter Tryz.func41, Tryz.ntmps41
      go_wp2
      go_quiet ((go_at_call 81; refine (HC.out _ (hdr.out _)).mono ?_; rintro e w1 ⟨rfl, rfl⟩; exact ⟨rfl, _, rfl⟩))
      go_wp2
      go_ret
      exact ⟨_, rfl, OwnI.nil _ _, hfin.out _⟩

/-- WHAT ones TELLS. -/
def OnesR (p : Nat) (a : Option Addr) (n c : Nat) (xs : List Int) (top : Int) (st : Option Nat) (count : Nat) (w : World) (e : Ending) (w' : World) : Prop :=
  ∃ (v : Value) (L : List Int), e = .returned v ∧ OwnI w.heap.size w' v L ∧ L.length ≤ count ∧ OkL (itemsS (fun i => litS xs top (2 * (0 + (i : Int)))) st count).2 L (itemsS (fun i => litS xs top (2 * (0 + (i : Int)))) st count).1 ∧ WentR p a n c xs top w (itemsS (fun i => litS xs top (2 * (0 + (i : Int)))) st count).2 w'
/-- One literal more, or the end of it. -/
theorem lit_round (xs : List Int) (top lit : Int) (j : Nat) : (litS xs top lit (some j)).2 = (rowS xs top 1 1 (some j)).2 ∧ ((rowS xs top 1 1 (some j)).2.isSome = true → (rowL xs top 1 1 (some j)).length = 1 ∧ (rowL xs top 1 1 (some j)).getD 0 0 = (litS xs top lit (some j)).1) := by
  refine ⟨rfl, fun h => ?_⟩
  obtain ⟨-, h1, h2, h3⟩ := rowS_ok h
  have hl : (rowL xs top 1 1 (some j)).length = 1 := by omega
  refine ⟨hl, ?_⟩
  unfold litS
  rw [h1, hl, Nat.sub_self, List.replicate_zero, List.append_nil]

set_option maxRecDepth 100000 in
set_option maxHeartbeats 1000000 in
theorem refOnes_any (p : Nat) (a : Option Addr) (n c : Nat) (xs : List Int) (top : Int) (st : Option Nat) (w : World) (h : RdR p a n c xs top st w) (ht0 : 0 ≤ top) (ht : top ≤ 9223372036854775807) (count : Nat) (h2 : count ≤ 10000) :
    Calls Tryz.prog 40 #[.pointer (some ⟨p, 0, none⟩), .int .i64 (count : Int)] w (OnesR p a n c xs top st count w) := by
  obtain ⟨i0, hi, hz0, hz1, hz2⟩ := info_parts infoInt
  have H0 := hide h
  have hstk : Hid (∀ k, (itemsS (fun i => litS xs top (2 * (0 + (i : Int)))) st k).2 = none → ∀ m, k ≤ m → (itemsS (fun i => litS xs top (2 * (0 + (i : Int)))) st m).2 = none) := fun k hk m hm => itemsS_stuck (fun n => litS_none xs top _) hk m hm
  have hrd : Hid (∀ k j, (itemsS (fun i => litS xs top (2 * (0 + (i : Int)))) st k).2 = some j → (itemsS (fun i => litS xs top (2 * (0 + (i : Int)))) st (k + 1)).2 = (rowS xs top 1 1 (some j)).2 ∧ ((rowS xs top 1 1 (some j)).2.isSome = true → (rowL xs top 1 1 (some j)).length = 1 ∧ (itemsS (fun i => litS xs top (2 * (0 + (i : Int)))) st (k + 1)).1 = (itemsS (fun i => litS xs top (2 * (0 + (i : Int)))) st k).1 ++ [(rowL xs top 1 1 (some j)).getD 0 0])) := fun k j hk => by
    obtain ⟨q1, q2⟩ := lit_round xs top (2 * (0 + (k : Int))) j
    refine ⟨by rw [itemsS, hk]; exact q1, fun hs => ⟨(q2 hs).1, by rw [itemsS, hk, (q2 hs).2]⟩⟩
  have h00 : Hid (itemsS (fun i => litS xs top (2 * (0 + (i : Int)))) st 0 = ([], st)) := rfl
  unfold OnesR
  generalize itemsS (fun i => litS xs top (2 * (0 + (i : Int)))) st = IS at *
  generalize hP : (fun (e : Ending) (w' : World) => ∃ (v : Value) (L : List Int), e = .returned v ∧ OwnI w.heap.size w' v L ∧ L.length ≤ count ∧ OkL (IS count).2 L (IS count).1 ∧ WentR p a n c xs top w (IS count).2 w') = Post
  have HP := hide hP
  have HRow := hide (fun j W (hW : RdR p a n c xs top (some j) W) => refRow_any p a n c xs top (some j) 1 1 W hW (by omega) (by omega) ht0 ht)
  clear h hP
  go_enter Tryz.func40, Tryz.ntmps40
  go_wp2
  go_loopw [5, 6, 7] (fun o i _ wr => ∃ (k : Nat) (L : List Int), i = .int .i64 k ∧ k ≤ count ∧ L.length ≤ k ∧ Hid (wr.ownsRow w.heap.size 3 1 o L.length (L.map (Value.int .i64))) ∧ Hid (WentR p a n c xs top w (IS k).2 wr) ∧ Hid (OkL (IS k).2 L (IS k).1)) (fun _ i _ _ => count - (intOf i).toNat)
  case atStart => exact ⟨0, [], rfl, Nat.zero_le _, Nat.le_refl _, World.ownsRow_nil _ _ _ _, by show WentR p a n c xs top w (IS 0).2 w; rw [h00.out]; exact WentR.refl H0.out, fun _ => by rw [h00.out]⟩
  case round =>
    obtain ⟨k, L, rfl, hk, hLk, HO, HG, HK⟩ := hrel
    obtain ⟨va, vc, hvf⟩ := own_is HO.out
    subst hvf
    obtain ⟨ka, hka, c0, c1, c2, c3⟩ := HG.out.1.cells
    clear hka c0 c1 c2
    by_cases hlt : k < count
    · cases hS : (IS k).2 with
      | none =>
        rw [hS] at c3
        rw [show errR none = 2 from rfl] at c3
        have hfin : Hid (Post (.returned (.slice va L.length vc)) wr) := by
          show Post _ _
          have e := hstk.out k hS count hk
          rw [← HP.out]
          refine ⟨_, L, rfl, HO.out, by omega, ?_, ?_⟩
          · rw [e]; intro x; cases x
          · rw [e, ← hS]; exact HG.out
        clear HO HG HK hstk hrd HRow hS
        go_wp2
        exact hfin.out
      | some j =>
        rw [hS] at c3
        rw [show errR (some j) = 0 from rfl] at c3
        obtain ⟨q1, q2⟩ := hrd.out k j hS
        have HQ1 := hide q1
        have HG' : Hid (WentR p a n c xs top w (some j) wr) := by rw [← hS]; exact HG.out
        have HK' : Hid (L = (IS k).1) := HK.out (by rw [hS]; rfl)
        have HR := hide (HRow.out j wr HG'.out.1)
        clear HG HK hS q1
        cases hT : (rowS xs top 1 1 (some j)).2 with
        | none =>
          rw [hT] at HR HQ1
          clear q2
          have hfin : Hid (∀ w1, WentR p a n c xs top wr none w1 → w1.ownsRow w.heap.size 3 1 (.slice va L.length vc) L.length (L.map (Value.int .i64)) ∧ WentR p a n c xs top w (IS (k + 1)).2 w1 ∧ OkL (IS (k + 1)).2 L (IS (k + 1)).1) := fun w1 g => ⟨own_two HO.out g.2 H0.out.lt H0.out.lt, by rw [HQ1.out]; exact HG'.out.then g, by rw [HQ1.out]; intro x; cases x⟩
          go_wp2_with (go_at_call 41; refine HR.out.mono ?_; rintro e w1 ⟨v, rfl, ho, hw⟩; obtain ⟨f1, f2, f3⟩ := hfin.out w1 hw; have F1 := hide f1; have F2 := hide f2; have F3 := hide f3; obtain ⟨kb, hkb, d0, d1, d2, d3⟩ := hw.1.cells; rw [show errR none = 2 from rfl] at d3; clear hkb d0 d1 d2 ho hw f1 f2 f3)
          go_roundw
          case rel => exact ⟨k + 1, L, by go_num, by omega, by omega, F1, F2, F3⟩
          case measure => simp [intOf]; omega
        | some j2 =>
          rw [hT] at HR HQ1 q2
          obtain ⟨q3, q4⟩ := q2 rfl
          have HL1 := hide q3
          obtain ⟨y, hy⟩ : ∃ y, y = (rowL xs top 1 1 (some j)).getD 0 0 := ⟨_, rfl⟩
          have HY := hide hy
          rw [← hy] at q4
          have HQ4 := hide q4
          generalize rowL xs top 1 1 (some j) = RL at *
          clear q2 q3 q4 hy hT
          obtain ⟨l, hl⟩ : ∃ l, l = L.length := ⟨_, rfl⟩
          have HLl := hide hl
          rw [← hl] at HO hLk ⊢
          clear hl
          have HS2 := hide (HG'.out.2.size)
          go_wp2_with (first | (go_at_call 41; refine HR.out.mono ?_; rintro e w1 ⟨v, rfl, ho, hw⟩; obtain ⟨g, cap, rfl, hc, hgb⟩ := ownI_at ho HL1.out (by omega); have e0 := hc 0 (by omega); rw [← HY.out] at e0; have F1 := hide (own_two HO.out hw.2 H0.out.lt H0.out.lt); have F2 := hide (HG'.out.then hw); have hsz := F2.out.2.size; obtain ⟨kb, hkb, d0, d1, d2, d3⟩ := hw.1.cells; rw [show errR (some j2) = 0 from rfl] at d3; clear hkb d0 d1 d2 ho hw hc hgb) | (at_builtin; refine wpList_append_rowC _ rfl (.tmp 27) (.tmp 31) 24 rfl w.heap.size 3 i0 (.int .i64 0) 1 8 Tryz.underlying24 hi hz0 hz1 hz2 rfl (by decide) (.slice va l vc) l (L.map (Value.int .i64)) rfl (F1.out.alloc _) (some ⟨w1.heap.size, 0, none⟩) 1 1 [.int .i64 y] rfl rfl (cells_one_at _ _) (fun e => by cases e) (fun u hu => by simp at hu; subst hu; rfl) (by unfold maxLen; omega) (by omega) (by simp; omega) ?_; intro v4 w4 hown4 hg4; have F4 := hide (F2.out.far H0.out (((Below.refl _ w1).grown (World.grownBy_alloc w1 _ none) hsz (fun k hk => by cases hk)).grown hg4 (by simp; omega) (fun k hk => (F1.out.lt k hk).1))); have F5 := hide hown4; clear hown4 hg4))
          go_roundw
          case rel =>
            refine ⟨k + 1, L ++ [y], by go_num, by omega, by rw [List.length_append, ← HLl.out]; simp; omega, ?_, by show WentR p a n c xs top w (IS (k + 1)).2 w4; rw [HQ1.out]; exact F4.out, fun _ => by rw [HQ4.out, ← HK'.out]⟩
            show w4.ownsRow _ _ _ _ _ _
            rw [List.length_append, ← HLl.out, List.map_append]
            exact F5.out
          case measure => simp [intOf]; omega
    · obtain rfl : k = count := by omega
      have hfin : Hid (Post (.returned (.slice va L.length vc)) wr) := by
        show Post _ _
        rw [← HP.out]
        exact ⟨_, L, rfl, HO.out, hLk, HK.out, HG.out⟩
      clear HO HG HK hstk hrd HRow c3
      go_wp2
      exact hfin.out
end Go.Proofs.YtimpddokepbabaaGreatDoor
