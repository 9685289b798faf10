/-
  THE WALK of the law ScanLines.
-/
import Derived.Test.YtgmmbgbnpblapaaDoorLine
import Derived.OpenShut
namespace Go.Proofs.YtgmmbgbnpblapaaDoor
open Go.RowKit

/-- WHAT A WALK IS TOLD OF A SLICE OF INTEGERS THAT CAME IN: it is nil; or it leads to a row of 'cap' cells, the numbers 'zs' (the first 'len' are its elements, the rest its spare room), each fitting its kind. -/
def IsRow (k : IntKind) (w : World) (a : Option Addr) (len cap : Nat) (zs : List Int) : Prop :=
  (a = none ∧ len = 0 ∧ cap = 0 ∧ zs = []) ∨
  ∃ x, a = some x ∧ len ≤ cap ∧ cap ≤ maxLen ∧ zs.length = cap ∧ (∀ i, i < zs.length → w.cell? (x.add i) = some (.int k (zs.getD i 0))) ∧ ∀ n ∈ zs, (Lit.int k n).wf = true

theorem IsRow.row8 {w : World} {a : Option Addr} {len cap : Nat} {zs : List Int} (h : IsRow .u8 w a len cap zs) :
    Row8 w a (zs.take len) ∧ Bytes8 (zs.take len) ∧ (a = none → cap = 0) ∧ (zs.take len).length = len ∧ len ≤ cap ∧ cap ≤ 9223372036854775807 := by
  rcases h with ⟨rfl, rfl, rfl, rfl⟩ | ⟨x, rfl, h1, h2, h3, h4, h5⟩
  · exact ⟨.inl ⟨rfl, rfl⟩, fun n hn => by simp at hn, fun _ => rfl, rfl, Nat.le_refl _, by decide⟩
  · have hlen : (zs.take len).length = len := by rw [List.length_take]; omega
    refine ⟨.inr ⟨x, rfl, fun i hi => ?_⟩, fun n hn => ?_, (fun e => by cases e), hlen, h1, h2⟩
    · have hi' : i < len := by omega
      rw [h4 i (by omega), List.getD_eq_getElem?_getD, List.getD_eq_getElem?_getD, List.getElem?_take_of_lt hi']
    · have hm := List.mem_of_mem_take hn
      have := h5 n hm
      exact bounds_u8 this

set_option maxHeartbeats 400000 in
theorem scanLines_any (a : Option Addr) (len cap : Nat) (zs : List Int) (at_ : Int) (w : World) (hr : IsRow .u8 w a len cap zs) (h0 : -9223372036854775808 ≤ at_) (h1 : at_ ≤ 9223372036854775807) (hE : Env w) :
    Calls Tryd.prog 3 #[.slice a len cap, .int .i64 at_] w fun e w' => e = .returned (.bool true) ∧ Below w.heap.size w w' := by
  obtain ⟨hrow, hb, ha, hx, hc, hm⟩ := hr.row8
  clear hr
  generalize zs.take len = xs at hrow hb hx
  by_cases hbig : (1000 : Int) < len
  · clear hx ha hb hrow
    go_enter Tryd.func3, Tryd.ntmps3
    go_wp2_with (go_at_call 8; refine (alive_any _ hE).mono ?_; rintro e w1 ⟨rfl, hb1⟩)
    go_ret
    exact ⟨rfl, hb1⟩
  have core : ∃ (S : ByteArray) (n e : Int), (∀ w1, Below w.heap.size w w1 → Calls Tryd.prog 9 #[.slice a len cap, .int .i64 at_] w1 fun r w' => r = .returned (.tuple #[.string S, .int .i64 n, .int .i64 e]) ∧ w' = w1) ∧
      (∀ w1, Below w.heap.size w w1 → Calls Tryd.prog 10 #[.slice a len cap, .int .i64 at_] w1 fun r w' => r = .returned (.tuple #[.string S, .int .i64 n, .int .i64 e]) ∧ w' = w1) := by
    by_cases hout : at_ < 0 ∨ (len : Int) < at_
    · exact ⟨_, _, _, fun w1 _ => line_arg a len cap at_ w1 hout, fun w1 _ => refLine_arg a len cap at_ w1 hout⟩
    · obtain ⟨k, rfl⟩ := Int.eq_ofNat_of_zero_le (show 0 ≤ at_ by omega)
      rcases hit_or_miss xs k with ⟨d, hd⟩ | hd
      · exact ⟨_, _, _, fun w1 h => line_hit a len cap k d xs w1 (hrow.below h) hb ha hx hc (by omega) hd, fun w1 h => refLine_hit a len cap k d xs w1 (hrow.below h) hx hc (by omega) hd⟩
      · exact ⟨_, _, _, fun w1 h => line_miss a len cap k xs w1 (hrow.below h) hb ha hx hc hm (by omega) hd, fun w1 h => refLine_miss a len cap k xs w1 (hrow.below h) hx (by omega) (by omega) hd⟩
  obtain ⟨S, n, er, c1, c2⟩ := core
  have H1 := hide c1
  have H2 := hide c2
  clear c1 c2 hx ha hb hrow
  go_enter Tryd.func3, Tryd.ntmps3
  go_wp2_with (go_at_call 8; refine (alive_any _ hE).mono ?_; rintro e w1 ⟨rfl, hb1⟩)
  refine (H1.out _ hb1).mono ?_
  rintro e w2 ⟨rfl, rfl⟩
  go_wp2_with fail
  refine (H2.out _ hb1).mono ?_
  rintro e w3 ⟨rfl, rfl⟩
  go_wp2_with (go_at_call 11; refine (num_any _ _).mono ?_; rintro e w' ⟨rfl, rfl⟩)
  go_ret
  exact ⟨rfl, hb1⟩
end Go.Proofs.YtgmmbgbnpblapaaDoor
