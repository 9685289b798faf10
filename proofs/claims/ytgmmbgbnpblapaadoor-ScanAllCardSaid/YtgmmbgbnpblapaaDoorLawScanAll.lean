/-
  THE WALK of the law ScanAll.
-/
import Derived.Test.YtgmmbgbnpblapaaDoorAllPlain
namespace Go.Proofs.YtgmmbgbnpblapaaDoor
open Go.RowKit

/-- WHAT A WALK IS TOLD OF A SLICE OF TEXTS THAT CAME IN: it is nil; or it leads to a row of 'cap' cells, the texts 'ss' (the first 'len' are its elements). -/
def IsStrs (w : World) (a : Option Addr) (len cap : Nat) (ss : List ByteArray) : Prop :=
  (a = none ∧ len = 0 ∧ cap = 0 ∧ ss = []) ∨
  ∃ x, a = some x ∧ len ≤ cap ∧ cap ≤ maxLen ∧ ss.length = cap ∧ (∀ i, i < ss.length → w.cell? (x.add i) = some (.string (ss.getD i ByteArray.empty))) ∧ ∀ s ∈ ss, s.size ≤ maxLen

theorem infoU8 : (Tryd.prog.info? 5).map (fun i => (i.zero, i.size, i.bytes)) = some (some (.int .u8 0), 1, 1) := by kernel_rfl

/-- The cells of a slice of texts with an element, at its own address. -/
theorem IsStrs.addr {w : World} {a : Option Addr} {len cap : Nat} {ss : List ByteArray} (h : IsStrs w a len cap ss) (hp : 0 < len) :
    ∃ b off, a = some ⟨b, off, none⟩ ∧ b < w.heap.size ∧ (ss.take len).length = len ∧ ∀ i, i < len → w.cell? ⟨b, off + i, none⟩ = some (.string ((ss.take len).getD i ByteArray.empty)) := by
  rcases h with ⟨_, rfl, _, _⟩ | ⟨⟨b, off, spot⟩, rfl, h1, h2, h3, h4, _⟩
  · omega
  · have hc := h4 0 (by omega)
    have hspot : spot = none := by simpa [Addr.add] using World.cell?_spot hc
    subst hspot
    have hplain : ∀ i, (⟨b, off, none⟩ : Addr).add i = ⟨b, off + i, none⟩ := fun i => by unfold Addr.add; split <;> simp_all
    refine ⟨b, off, rfl, ?_, by rw [List.length_take]; omega, fun i hi => ?_⟩
    · have := block_lt_of_cell hc
      rw [hplain] at this
      exact this
    · have h := h4 i (by omega)
      rw [hplain] at h
      rw [h, List.getD_eq_getElem?_getD, List.getD_eq_getElem?_getD, List.getElem?_take_of_lt hi]

theorem own_succ {w3 : World} {base : Nat} {v3 : Value} (ss : List ByteArray) (k : Nat) (h : k < ss.length) (s : ByteArray) (hs : s = ss.getD k ByteArray.empty)
    (hown : w3.ownsRow base 5 1 v3 ((flat (ss.take k)).length + s.size + 1) ((nums (flat (ss.take k))).map (Value.int .u8) ++ Lib.strCells s ++ [.int .u8 10])) :
    w3.ownsRow base 5 1 v3 (flat (ss.take (k + 1))).length ((nums (flat (ss.take (k + 1)))).map (Value.int .u8)) := by
  subst hs
  rw [flat_len_succ ss k h, flat_succ ss k h, nums_append, nums_append, List.map_append, List.map_append, ← strCells_nums]
  exact hown

theorem below_two {B : Nat} {w1 wr w2 w3 : World} {e : TypeId} {v v2 : Value} {n n2 : Nat} {xs xs2 : List Value} (hnx : Below B w1 wr) (hB : B ≤ wr.heap.size) (hown : wr.ownsRow B e 1 v n xs) (hg2 : wr.grownBy w2 v.ownBlock)
    (hown2 : w2.ownsRow B e 1 v2 n2 xs2) (o : Obj) (hg3 : (w2.alloc o).grownBy w3 v2.ownBlock) : Below B w1 w3 := by
  have h2 := hnx.grown hg2 hB (fun k hk => (hown.lt k hk).1)
  have hs2 := hg2.size
  have h3 := h2.alloc (by omega) o
  exact h3.grown hg3 (by simp; omega) (fun k hk => (hown2.lt k hk).1)

theorem good_of (s : ByteArray) (m : Nat) (h1 : ¬ (100 : Int) < s.size) (h2 : ¬ m < s.size) (h3 : ∀ b ∈ s.data.toList.take m, b ≠ 10) : Good s := by
  have e : s.data.toList.take m = s.data.toList := List.take_of_length_le (by rw [Array.length_toList]; exact Nat.not_lt.1 h2)
  rw [e] at h3
  exact ⟨by omega, h3⟩

/-- Each line is told at its place. -/
theorem line_hit_all (a : Option Addr) (cap : Nat) (ss : List ByteArray) (w : World) (hr : Row8 w a (nums (flat ss))) (ha : a = none → cap = 0) (hc : (flat ss).length ≤ cap) (hl : (flat ss).length ≤ 1073741824) (hg : ∀ j, j < ss.length → Good (ss.getD j ByteArray.empty)) :
    ∀ j, j < ss.length → Calls Tryd.prog 9 #[.slice a (flat ss).length cap, .int .i64 (flat (ss.take j)).length] w fun e w' =>
      e = .returned (.tuple #[.string (ss.getD j ByteArray.empty), .int .i64 (flat (ss.take (j + 1))).length, .int .i64 0]) ∧ w' = w := by
  intro j hj
  obtain ⟨h1, h2⟩ := flat_hit ss j hj (hg j hj)
  have h := line_hit a (flat ss).length cap (flat (ss.take j)).length (ss.getD j ByteArray.empty).size (nums (flat ss)) w hr (nums_bytes _) ha (nums_length _) hc hl h1
  rw [h2] at h
  have e : ((flat (ss.take (j + 1))).length : Int) = ((flat (ss.take j)).length : Int) + (ss.getD j ByteArray.empty).size + 1 := by
    rw [flat_len_succ ss j hj]; push_cast; rfl
  rw [e]
  exact h

set_option maxRecDepth 100000 in
set_option maxHeartbeats 1000000 in
/-- With a line or more. -/
theorem scanAll_some (b off len cap : Nat) (ss : List ByteArray) (w : World) (hb : b < w.heap.size) (hl : 0 < len) (hl2 : len ≤ 40) (hss : ss.length = len) (hcell : ∀ i, i < len → w.cell? ⟨b, off + i, none⟩ = some (.string (ss.getD i ByteArray.empty))) (hE : Env w) :
    Calls Tryd.prog 7 #[.slice (some ⟨b, off, none⟩) len cap] w fun e w' => e = .returned (.bool true) ∧ Below w.heap.size w w' := by
  obtain ⟨i0, hi, hz0, hz1, hz2⟩ := info_parts infoU8
  have HC := hide hcell
  have HSS := hide hss
  clear hcell hss
  go_enter Tryd.func7, Tryd.ntmps7
  go_wp2_with (go_at_call 8; refine (alive_any _ hE).mono ?_; rintro e w1 ⟨rfl, hb1⟩)
  have hsz := hb1.size
  go_loopw [4, 5] (fun v i wr => ∃ k : Nat, k ≤ len ∧ i = .int .i64 k ∧ wr.ownsRow w1.heap.size 5 1 v (flat (ss.take k)).length ((nums (flat (ss.take k))).map (Value.int .u8)) ∧ Below w1.heap.size w1 wr ∧ Hid (∀ j, j < k → Good (ss.getD j ByteArray.empty)))
    (fun _ i _ => len - (intOf i).toNat)
  case atStart => exact ⟨0, Nat.zero_le _, rfl, World.ownsRow_nil _ _ _ _, Below.refl _ _, fun j hj => absurd hj (Nat.not_lt_zero _)⟩
  case round =>
    obtain ⟨k, hk, rfl, hown, hnx, HG⟩ := hrel
    have hbel : Below w.heap.size w wr := hb1.trans (hnx.mono hsz)
    by_cases hlt : k < len
    · have hcx : wr.cell? ⟨b, off + k, none⟩ = some (.string (ss.getD k ByteArray.empty)) := (hbel.cell (p := ⟨b, off + k, none⟩) hb).trans (HC.out k hlt)
      have HL := hide (flat_len ss k (by have := HSS.out; omega) HG.out)
      obtain ⟨s, hs⟩ : ∃ s, s = ss.getD k ByteArray.empty := ⟨_, rfl⟩
      rw [← hs] at hcx
      have HS := hide hs
      clear hs
      by_cases hbig : (100 : Int) < s.size
      · go_wp2
        go_ret
        exact ⟨rfl, hbel⟩
      · have HO := hide hown
        clear hown
        go_wp2
        go_loop [6] (fun i => ∃ m : Nat, m ≤ s.size ∧ i = .int .i64 m ∧ Hid (∀ b ∈ s.data.toList.take m, b ≠ 10)) (fun i => s.size - (intOf i).toNat)
        case atStart => exact ⟨0, Nat.zero_le _, rfl, fun b hb => by simp at hb⟩
        case round =>
          obtain ⟨m, hm, rfl, HN⟩ := hrel
          by_cases hms : m < s.size
          · have HT := hide (take_snoc s m hms)
            cases h10 : ((s[m].toNat : Int) == 10)
            · have HB := hide h10
              go_wp2
              go_round
              case rel =>
                refine ⟨m + 1, by omega, by go_num, fun b hb => ?_⟩
                rw [HT.out, List.mem_append] at hb
                rcases hb with hb | hb
                · exact HN.out b hb
                · have e : b = s[m] := by simpa using hb
                  rw [e]
                  intro e2
                  have h := HB.out
                  rw [e2] at h
                  exact absurd h (by decide)
              case measure => simp [intOf]; omega
            · go_wp2
              go_ret
              exact ⟨rfl, hbel⟩
          · have hown := HO.out
            have hl1 := HL.out
            have hsz2 := hnx.size
            clear HO HL
            go_wp2_with (first | (at_builtin; refine Lib.wpList_append_own_string _ rfl (.tmp 52) (.tmp 56) 22 9 rfl w1.heap.size 5 i0 Tryd.underlying22 Tryd.underlying9 hi hz0 hz1 hz2 _ _ _ rfl hown s rfl (by unfold maxLen; omega) (by omega) hsz2 ?_; intro v2 w2 hown2 hg2 _) | (at_builtin; refine wpList_append_own _ rfl (.tmp 57) (.tmp 58) 22 rfl w1.heap.size 5 i0 (.int .u8 0) 1 1 Tryd.underlying22 hi hz0 hz1 hz2 rfl (by decide) _ _ _ rfl (hown2.alloc _) ⟨w2.heap.size, 0, none⟩ 1 1 [.int .u8 10] rfl rfl (cell_one_new _ _ _) (by intro u hu; simp at hu; subst hu; rfl) (by unfold maxLen; omega) (by omega) (by have := hg2.size; simp; omega) ?_; intro v3 w3 hown3 hg3 _))
            go_roundw
            case rel =>
              refine ⟨k + 1, by omega, by go_num, own_succ ss k (by have := HSS.out; omega) s HS.out hown3, below_two hnx hsz2 hown hg2 hown2 _ hg3, fun j hj => ?_⟩
              by_cases hjk : j < k
              · exact HG.out j hjk
              · obtain rfl : j = k := by omega
                rw [← HS.out]
                exact good_of s m (by omega) hms HN.out
            case measure => simp [intOf]; omega
    · obtain rfl : k = len := by omega
      obtain ⟨a, cp, hv, hrow, hnone, hxl, hcp, hcm⟩ := row_of_own hown
      have hall : ss.take k = ss := List.take_of_length_le (by have := HSS.out; omega)
      have hlen := flat_len ss k (by have := HSS.out; omega) HG.out
      rw [hall] at hv hrow hxl hcp hlen
      have HP := hide (line_hit_all a cp ss wr hrow hnone hcp (by omega) (fun j hj => HG.out j (by have := HSS.out; omega)))
      have HM := hide (line_miss a (flat ss).length cp (flat ss).length (nums (flat ss)) wr hrow (nums_bytes _) hnone hxl hcp hcm (Nat.le_refl _) (by rw [← hxl]; exact flat_miss _))
      have HPS := hide (fun j hj => flat_len_succ ss j hj)
      have HP0 : Hid ((flat (ss.take 0)).length = 0) := by show (flat (ss.take 0)).length = 0; simp [flat]
      have HPN : Hid ((flat (ss.take k)).length = (flat ss).length) := by show (flat (ss.take k)).length = (flat ss).length; rw [hall]
      clear hown hnx hrow hnone hxl hcp hcm hall HG
      generalize (flat ss).length = N at *
      subst hv
      go_wp2
      go_loopw [7, 8] (fun at_ i wx => ∃ j p : Nat, j ≤ k ∧ i = .int .i64 j ∧ at_ = .int .i64 p ∧ wx = wr ∧ Hid (p = (flat (ss.take j)).length))
        (fun _ i _ => k - (intOf i).toNat)
      case atStart => exact ⟨0, 0, Nat.zero_le _, rfl, rfl, rfl, HP0.out.symm⟩
      case round =>
        obtain ⟨j, p, hj, rfl, rfl, hwx, HJ⟩ := hrel
        subst hwx
        by_cases hjk : j < k
        · have hcx := (hbel.cell (p := ⟨b, off + j, none⟩) hb).trans (HC.out j hjk)
          have hcall := HP.out j (by have := HSS.out; omega)
          rw [← HJ.out] at hcall
          obtain ⟨q, hq⟩ : ∃ q, q = (flat (ss.take (j + 1))).length := ⟨_, rfl⟩
          rw [← hq] at hcall
          generalize ss.getD j ByteArray.empty = s at hcx hcall
          have HQ := hide hq
          have HCall := hide hcall
          clear hq hcall
          go_wp2_with (first | (go_at_call 9; refine HCall.out.mono ?_; rintro e w' ⟨rfl, rfl⟩) | (go_at_call 11; refine (num_any _ _).mono ?_; rintro e w' ⟨rfl, rfl⟩))
          go_roundw
          case rel => exact ⟨j + 1, q, by omega, by go_num, rfl, trivial, HQ.out⟩
          case measure => simp [intOf]; omega
        · obtain rfl : j = k := by omega
          obtain rfl : p = N := HJ.out.trans HPN.out
          go_wp2_with (first | (go_at_call 9; refine HM.out.mono ?_; rintro e w' ⟨rfl, rfl⟩) | (go_at_call 11; refine (num_any _ _).mono ?_; rintro e w' ⟨rfl, rfl⟩))
          go_ret
          exact ⟨rfl, hbel⟩

set_option maxHeartbeats 400000 in
/-- With none. -/
theorem scanAll_none (a : Option Addr) (cap : Nat) (w : World) (hE : Env w) :
    Calls Tryd.prog 7 #[.slice a 0 cap] w fun e w' => e = .returned (.bool true) ∧ Below w.heap.size w w' := by
  have HM := hide (fun wx => line_end none 0 [] wx (.inl ⟨rfl, rfl⟩) (fun _ => rfl) rfl (by decide))
  go_enter Tryd.func7, Tryd.ntmps7
  go_wp2_with (go_at_call 8; refine (alive_any _ hE).mono ?_; rintro e w1 ⟨rfl, hb1⟩)
  go_loopw [4, 5] (fun v i wr => v = .slice none 0 0 ∧ i = .int .i64 0 ∧ wr = w1) (fun _ _ _ => 0)
  case atStart => exact ⟨rfl, rfl, rfl⟩
  case round =>
    obtain ⟨rfl, rfl, hwr⟩ := hrel
    subst hwr
    go_wp2
    go_loopw [7, 8] (fun at_ i wx => at_ = .int .i64 0 ∧ i = .int .i64 0 ∧ wx = wr) (fun _ _ _ => 0)
    case atStart => exact ⟨rfl, rfl, rfl⟩
    case round =>
      obtain ⟨rfl, rfl, hwx⟩ := hrel
      subst hwx
      go_wp2_with (first | (go_at_call 9; refine (HM.out _).mono ?_; rintro e w' ⟨rfl, rfl⟩) | (go_at_call 11; refine (num_any _ _).mono ?_; rintro e w' ⟨rfl, rfl⟩))
      go_ret
      exact ⟨rfl, hb1⟩

set_option maxHeartbeats 400000 in
theorem scanAll_any (a : Option Addr) (len cap : Nat) (ss : List ByteArray) (w : World) (hr : IsStrs w a len cap ss) (hE : Env w) :
    Calls Tryd.prog 7 #[.slice a len cap] w fun e w' => e = .returned (.bool true) ∧ Below w.heap.size w w' := by
  by_cases hbig : (40 : Int) < len
  · go_enter Tryd.func7, Tryd.ntmps7
    go_wp2_with (go_at_call 8; refine (alive_any _ hE).mono ?_; rintro e w1 ⟨rfl, hb1⟩)
    go_ret
    exact ⟨rfl, hb1⟩
  · by_cases h0 : len = 0
    · subst h0
      exact scanAll_none a cap w hE
    · obtain ⟨b, off, rfl, hb, hss, hcell⟩ := hr.addr (by omega)
      exact scanAll_some b off len cap (ss.take len) w hb (by omega) (by omega) hss hcell hE
end Go.Proofs.YtgmmbgbnpblapaaDoor
