/-
  THE WALK of the law DeltaRow.
-/
import Derived.Test.YtlfggcadfhbdgaaDeltaBack
namespace Go.Proofs.Ytlfggcadfhbdgaa
open Go.RowKit

/-- The bytes of numbers one behind the other. -/
def encs (l : List Int) : List Int := l.flatMap encI
/-- A number that the law takes. -/
def Fit (n : Int) : Prop := 0 ≤ n ∧ n ≤ 2147483647

theorem encs_append (a b : List Int) : encs (a ++ b) = encs a ++ encs b := List.flatMap_append
theorem encs_one (n : Int) : encs [n] = encI n := by simp [encs]
theorem encs_succ (l : List Int) (k : Nat) (h : k < l.length) : encs (l.take (k + 1)) = encs (l.take k) ++ encI (l.getD k 0) := by
  rw [List.take_succ_eq_append_getElem h, encs_append, encs_one, List.getD_eq_getElem?_getD, List.getElem?_eq_getElem h, Option.getD_some]
theorem encs_split (l : List Int) (k : Nat) (h : k < l.length) : encs l = encs (l.take k) ++ encI (l.getD k 0) ++ encs (l.drop (k + 1)) := by
  rw [← encs_succ l k h, ← encs_append, List.take_append_drop]
theorem encI_fit (n : Int) (h : Fit n) : encI n = enc 8 n.toNat := if_neg (by have := h.1; omega)
theorem encs_bytes (l : List Int) (h : ∀ j, j < l.length → Fit (l.getD j 0)) : Bytes8 (encs l) := by
  intro x hx
  obtain ⟨n, hn, hx⟩ := List.mem_flatMap.1 hx
  obtain ⟨j, hj, rfl⟩ := List.getElem_of_mem hn
  have := h j hj
  rw [List.getD_eq_getElem?_getD, List.getElem?_eq_getElem hj, Option.getD_some] at this
  exact encI_bytes _ (by have := this.2; omega) x hx

set_option maxRecDepth 100000 in
set_option maxHeartbeats 1000000 in
theorem deltaRow_some (b off len cap : Nat) (ls : List Int) (w : World) (hb : b < w.heap.size) (hl : 0 < len) (hl2 : len ≤ 60) (hls : ls.length = len) (hcell : ∀ i, i < len → w.cell? ⟨b, off + i, none⟩ = some (.int .i64 (ls.getD i 0))) :
    Calls Try.prog 5 #[.slice (some ⟨b, off, none⟩) len cap] w fun e w' => e = .returned (.bool true) ∧ Below w.heap.size w w' := by
  have HC := hide hcell
  have HLS := hide hls
  clear hcell hls
  go_enter Try.func5, Try.ntmps5
  go_wp2_with (go_at_call 6; refine (alive_any _).mono ?_; rintro e w1 ⟨rfl, hb1⟩)
  have hsz := hb1.size
  go_loopw [4, 5] (fun v i wr => ∃ (k N cp : Nat) (a : Option Addr), k ≤ len ∧ N ≤ 9 * k ∧ i = .int .i64 k ∧ v = .slice a N cp ∧ Hid (Row8 wr a (encs (ls.take k)) ∧ (encs (ls.take k)).length = N ∧ ∀ j, j < k → Fit (ls.getD j 0)) ∧ Hid (Below w1.heap.size w1 wr)) (fun _ i _ => len - (intOf i).toNat)
  case atStart => exact ⟨0, 0, 0, none, Nat.zero_le _, Nat.zero_le _, rfl, rfl, ⟨.inl ⟨rfl, rfl⟩, rfl, fun j hj => absurd hj (Nat.not_lt_zero _)⟩, Below.refl _ _⟩
  case round =>
    obtain ⟨k, N, cp, a, hk, hN, rfl, rfl, HI, HB⟩ := hrel
    have hbel : Below w.heap.size w wr := hb1.trans (HB.out.mono hsz)
    by_cases hlt : k < len
    · have hcx : wr.cell? ⟨b, off + k, none⟩ = some (.int .i64 (ls.getD k 0)) := (hbel.cell (p := ⟨b, off + k, none⟩) hb).trans (HC.out k hlt)
      obtain ⟨x, hx⟩ : ∃ x, x = ls.getD k 0 := ⟨_, rfl⟩
      rw [← hx] at hcx
      have HX := hide hx
      clear hx
      by_cases h0 : x < 0
      · go_wp2
        go_ret
        exact ⟨rfl, hbel⟩
      by_cases h1 : 2147483647 < x
      · go_wp2
        go_ret
        exact ⟨rfl, hbel⟩
      have HP := hide (put_any a N cp x _ wr HI.out.1 HI.out.2.1 (by omega) (by omega))
      go_wp2_with fail
      refine HP.out.mono ?_
      rintro e w3 ⟨v3, rfl, hown3, hb3⟩
      obtain ⟨a3, cap3, rfl, hrow3, -, hl3, -, -⟩ := row_of_own hown3
      have HR := hide hrow3
      have HL3 := hide hl3
      have HB3 := hide hb3
      clear hown3 hrow3 hl3 hb3 HP
      go_wp2
      go_roundw
      case rel =>
        have e1 := encs_succ ls k (by have := HLS.out; omega)
        rw [← HX.out] at e1
        have e2 := encI_len x (by omega)
        have e3 := HI.out.2.1
        refine ⟨k + 1, _, cap3, a3, by omega, ?_, by go_num, rfl, ⟨by rw [e1]; exact HR.out, by rw [e1]; exact HL3.out, fun j hj => ?_⟩, HB.out.trans (HB3.out.mono HB.out.size)⟩
        · rw [e3]; omega
        · by_cases hjk : j < k
          · exact HI.out.2.2 j hjk
          · obtain rfl : j = k := by omega
            rw [← HX.out]
            exact ⟨by omega, by omega⟩
      case measure => simp [intOf]; omega
    · obtain rfl : k = len := by omega
      have hall : ls.take k = ls := List.take_of_length_le (by have := HLS.out; omega)
      obtain ⟨i1, i2, i3⟩ := HI.out
      rw [hall] at i1 i2
      have HP : Hid (∀ j, j < k → Calls Try.prog 7 #[.slice a N cp, .int .i64 (encs (ls.take j)).length] wr fun e w' => e = .returned (.tuple #[.int .i64 (ls.getD j 0), .int .i64 (encs (ls.take (j + 1))).length, .int .i64 0]) ∧ w' = wr) := by
        intro j hj
        have hj' : j < ls.length := by have := HLS.out; omega
        have hf := i3 j hj
        have e1 := encs_split ls j hj'
        have e2 := encs_succ ls j hj'
        rw [encI_fit _ hf] at e1 e2
        have hby := encs_bytes ls (fun j hj => i3 j (by have := HLS.out; omega))
        rw [e1] at i1 i2 hby
        have h := get_back a N cp (ls.getD j 0).toNat (encs (ls.take j)) (encs (ls.drop (j + 1))) wr i1 hby i2 (by omega) (by have := hf.2; omega)
        rw [show (((ls.getD j 0).toNat : Nat) : Int) = ls.getD j 0 by have := hf.1; omega] at h
        rw [e2, List.length_append]
        exact h
      have HPS : Hid (∀ j, j < k → (encs (ls.take j)).length < (encs (ls.take (j + 1))).length ∧ (encs (ls.take (j + 1))).length ≤ N) := by
        intro j hj
        have hj' : j < ls.length := by have := HLS.out; omega
        have e2 := encs_succ ls j hj'
        have e1 := encs_split ls j hj'
        rw [← e2] at e1
        have hf := i3 j hj
        have hp := enc_pos 8 (ls.getD j 0).toNat
        rw [encI_fit _ hf] at e2
        constructor
        · rw [e2, List.length_append]; omega
        · rw [← i2, e1, List.length_append]; omega
      have HPN : Hid ((encs (ls.take k)).length = N) := by show (encs (ls.take k)).length = N; rw [hall]; exact i2
      clear i1 i2 i3 HI hall
      go_wp2
      go_loopw [6, 7] (fun at_ i wx => ∃ j p : Nat, j ≤ k ∧ p ≤ N ∧ i = .int .i64 j ∧ at_ = .int .i64 p ∧ wx = wr ∧ Hid (p = (encs (ls.take j)).length)) (fun _ i _ => k - (intOf i).toNat)
      case atStart => exact ⟨0, 0, Nat.zero_le _, Nat.zero_le _, rfl, rfl, rfl, rfl⟩
      case round =>
        obtain ⟨j, p, hj, hp, rfl, rfl, hwx, HJ⟩ := hrel
        subst hwx
        by_cases hjk : j < k
        · have hcx := (hbel.cell (p := ⟨b, off + j, none⟩) hb).trans (HC.out j hjk)
          have hcall := HP.out j hjk
          have hps := HPS.out j hjk
          rw [← HJ.out] at hcall hps
          obtain ⟨q, hq⟩ : ∃ q, q = (encs (ls.take (j + 1))).length := ⟨_, rfl⟩
          rw [← hq] at hcall hps
          obtain ⟨hp1, hp2⟩ := hps
          generalize ls.getD j 0 = x at hcx hcall
          have HQ := hide hq
          have HCall := hide hcall
          clear hq hcall
          go_wp2_with (first | (go_at_call 7; refine HCall.out.mono ?_; rintro e w' ⟨rfl, rfl⟩) | (go_at_call 9; refine (num_any _ _).mono ?_; rintro e w' ⟨rfl, rfl⟩))
          go_roundw
          case rel => exact ⟨j + 1, q, by omega, hp2, by go_num, rfl, trivial, HQ.out⟩
          case measure => simp [intOf]; omega
        · obtain rfl : j = k := by omega
          obtain rfl : p = N := HJ.out.trans HPN.out
          go_wp2
          go_ret
          exact ⟨rfl, hbel⟩

set_option maxHeartbeats 400000 in
theorem deltaRow_none (a : Option Addr) (cap : Nat) (w : World) :
    Calls Try.prog 5 #[.slice a 0 cap] w fun e w' => e = .returned (.bool true) ∧ Below w.heap.size w w' := by
  go_enter Try.func5, Try.ntmps5
  go_wp2_with (go_at_call 6; refine (alive_any _).mono ?_; rintro e w1 ⟨rfl, hb1⟩)
  go_loopw [4, 5] (fun v i wr => v = .slice none 0 0 ∧ i = .int .i64 0 ∧ wr = w1) (fun _ _ _ => 0)
  case atStart => exact ⟨rfl, rfl, rfl⟩
  case round =>
    obtain ⟨rfl, rfl, hwr⟩ := hrel
    subst hwr
    go_wp2
    go_loopw [6, 7] (fun at_ i wx => at_ = .int .i64 0 ∧ i = .int .i64 0 ∧ wx = wr) (fun _ _ _ => 0)
    case atStart => exact ⟨rfl, rfl, rfl⟩
    case round =>
      obtain ⟨rfl, rfl, hwx⟩ := hrel
      subst hwx
      go_wp2
      go_ret
      exact ⟨rfl, hb1⟩

set_option maxHeartbeats 400000 in
theorem deltaRow_any (a : Option Addr) (len cap : Nat) (zs : List Int) (w : World) (hr : IsRow .i64 w a len cap zs) :
    Calls Try.prog 5 #[.slice a len cap] w fun e w' => e = .returned (.bool true) ∧ Below w.heap.size w w' := by
  by_cases hbig : (60 : Int) < len
  · go_enter Try.func5, Try.ntmps5
    go_wp2_with (go_at_call 6; refine (alive_any _).mono ?_; rintro e w1 ⟨rfl, hb1⟩)
    go_ret
    exact ⟨rfl, hb1⟩
  · by_cases h0 : len = 0
    · subst h0
      exact deltaRow_none a cap w
    · obtain ⟨r1, r2, r3, r4, r5, r6⟩ := hr.row
      obtain ⟨b, off, rfl, hb, hcell⟩ := r1.addr (by omega)
      exact deltaRow_some b off len cap (zs.take len) w hb (by omega) (by omega) r4 (fun i hi => hcell i (by omega))
end Go.Proofs.Ytlfggcadfhbdgaa
