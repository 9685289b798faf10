/-
  THE WALK of the law DeltaBack.
-/
import Derived.Test.YtlfggcadfhbdgaaDeltaBack
import Derived.Deep.RegionWith
namespace Go.Proofs.Ytlfggcadfhbdgaa
open Go.RowKit

theorem row_two {w : World} {B : Nat} {v : Value} {n m : Nat} {A ms : List Int} (h : w.ownsRow B 5 1 v (0 + n + m) ([] ++ A.map (Value.int .u8) ++ ms.map (Value.int .u8))) : ∃ a cap, v = .slice a (n + m) cap ∧ Row8 w a (A ++ ms) := by
  rw [Nat.zero_add, List.nil_append, ← List.map_append] at h
  obtain ⟨a, cap, h1, h2, -⟩ := row_of_own h
  exact ⟨a, cap, h1, h2⟩

set_option maxRecDepth 100000 in
set_option maxHeartbeats 2000000 in
theorem deltaBack_small (a : Option Addr) (len cap : Nat) (xs : List Int) (n : Int) (am : Option Addr) (lenm capm : Nat) (ms : List Int) (w : World)
    (hr : Row8 w a xs) (hb8 : Bytes8 xs) (hnc : a = none → cap = 0) (hx : xs.length = len) (hl : len ≤ 200)
    (hrm : Row8 w am ms) (hbm : Bytes8 ms) (hncm : am = none → capm = 0) (hxm : ms.length = lenm) (hlm : lenm ≤ 200) (h0 : -9223372036854775808 ≤ n) (h1 : n ≤ 9223372036854775807) :
    Calls Try.prog 4 #[.slice a len cap, .int .i64 n, .slice am lenm capm] w fun e w' => e = .returned (.bool true) ∧ Below w.heap.size w w' := by
  obtain ⟨i0, hi, hz0, hz1, hz2⟩ := info_parts infoU8
  have HP := hide (fun a len cap w hr hx hl => put_any a len cap n xs w hr hx hl h1)
  have HQ := hide (fun w hr => refPut_any a len cap n xs w hr hnc hx (by omega) h1)
  have HR := hide hr
  have HX := hide hx
  have HNC := hide hnc
  have HRm := hide hrm
  have HXm := hide hxm
  have HNCm := hide hncm
  have HL := hide (encI_len n h1)
  obtain ⟨L, HLe⟩ : ∃ L, Hid (L = (encI n).length) := ⟨_, rfl⟩
  have hL9 : L ≤ 9 := by have := HL.out; have := HLe.out; omega
  clear hr hx hnc hrm hxm hncm HL
  go_enter Try.func4, Try.ntmps4
  go_wp2_with (first | (go_at_call 6; refine (alive_any _).mono ?_; rintro e w1 ⟨rfl, hb1⟩) | (at_builtin; refine wpList_append_row _ rfl (.const (.slice none 0 0)) (.tmp 26) 22 rfl .u8 w1.heap.size 5 i0 (.int .u8 0) 1 Try.underlying22 hi hz0 hz1 hz2 rfl _ 0 [] rfl (World.ownsRow_nil _ _ _ _) a len cap xs rfl HX.out (HR.out.below hb1) HNC.out (by unfold maxLen; omega) (by omega) (Nat.le_refl _) ?_; intro v2 w2 hown2 hg2))
  rw [Nat.zero_add, List.nil_append] at hown2
  obtain ⟨a2, cap2, rfl, hrow2, -, -, -, -⟩ := row_of_own hown2
  have hb2 : Below w.heap.size w w2 := hb1.trans (((Below.refl _ _).grown hg2 (Nat.le_refl _) (fun k hk => by cases hk)).mono hb1.size)
  clear hown2 hg2
  refine (HP.out a2 len cap2 w2 hrow2 HX.out (by omega)).mono ?_
  rintro e w3 ⟨v3, rfl, hown3, hb3⟩
  obtain ⟨a3, cap3, rfl, hrow3, hnc3, -, -, -⟩ := row_of_own hown3
  have hb4 : Below w.heap.size w w3 := hb2.trans (hb3.mono hb2.size)
  clear hown3 hb3 hb2 hb1 hrow2
  have HR3 := hide hrow3
  have HNC3 := hide hnc3
  have hlen3 : (xs ++ encI n).length = len + L := by rw [List.length_append, HX.out, HLe.out]
  have HLen := hide hlen3
  have e3 : xs.length + (encI n).length = len + L := by rw [HX.out, HLe.out]
  rw [e3]
  have hc3 := run_str (P := Try.prog) w3.drew 22 5 9 Try.underlying22 Try.underlying5 Try.underlying9 a3 _ (show Row8 w3.drew a3 (xs ++ encI n) from hrow3) (len + L) cap3 hlen3.symm
  obtain ⟨S, HS⟩ : ∃ S, Hid (S = strOfNums (xs ++ encI n)) := ⟨_, rfl⟩
  rw [← HS.out] at hc3
  clear hrow3 hnc3 hlen3 e3
  go_wp2_with fail
  go_region_with (go_at_call 11; refine (HQ.out _ (HR.out.below hb4.drew)).mono ?_; rintro e w4 ⟨v4, rfl, hown4, hb5⟩; obtain ⟨a4, cap4, rfl, hrow4, -, -, -, -⟩ := row_of_own hown4; have hc4 := run_str (P := Try.prog) w4 22 5 9 Try.underlying22 Try.underlying5 Try.underlying9 a3 _ (RowK.below (show Row8 w3.drew a3 (xs ++ encI n) from HR3.out) hb5) (len + L) cap3 HLen.out.symm; have hc5 := run_str (P := Try.prog) w4 22 5 9 Try.underlying22 Try.underlying5 Try.underlying9 a4 _ hrow4 (xs.length + (encI n).length) cap4 (by simp); rw [← HS.out] at hc4 hc5; clear hown4)
  all_goals
    have hb6 : Below w.heap.size w w4 := hb4.drew.trans (hb5.mono hb4.size)
    have HR4 := hide (RowK.below (show Row8 w3.drew a3 (xs ++ encI n) from HR3.out) hb5)
    clear hb5 hc3 hc4 hc5 hrow4
    by_cases hneg : n < 0
    · go_wp2
      go_ret
      exact ⟨rfl, hb6⟩
    by_cases hbig : 2147483647 < n
    · go_wp2
      go_ret
      exact ⟨rfl, hb6⟩
    go_wp2_with (first | (at_builtin; refine wpList_append_row _ rfl (.const (.slice none 0 0)) (.tmp 44) 22 rfl .u8 w4.heap.size 5 i0 (.int .u8 0) 1 Try.underlying22 hi hz0 hz1 hz2 rfl _ 0 [] rfl (World.ownsRow_nil _ _ _ _) a3 (len + L) cap3 (xs ++ encI n) rfl HLen.out HR4.out HNC3.out (by unfold maxLen; omega) (by omega) (Nat.le_refl _) ?_; intro v6 w6 hown6 hg6; have hb7 : Below w4.heap.size w4 w6 := (Below.refl _ _).grown hg6 (Nat.le_refl _) (fun k hk => by cases hk)) | (at_builtin; refine wpList_append_row _ rfl (.tmp 45) (.tmp 46) 22 rfl .u8 w4.heap.size 5 i0 (.int .u8 0) 1 Try.underlying22 hi hz0 hz1 hz2 rfl _ _ _ rfl hown6 am lenm capm ms rfl HXm.out (HRm.out.below (hb6.trans (hb7.mono hb6.size))) HNCm.out (by unfold maxLen; omega) (by omega) hb7.size ?_; intro v7 w7 hown7 hg7))
    obtain ⟨m, rfl⟩ := Int.eq_ofNat_of_zero_le (show 0 ≤ n by omega)
    have hb8' : Below w4.heap.size w4 w7 := hb7.grown hg7 hb7.size (fun k hk => (hown6.lt k hk).1)
    have hb9 : Below w.heap.size w w7 := hb6.trans (hb8'.mono hb6.size)
    obtain ⟨a7, cap7, rfl, hrow7⟩ := row_two hown7
    have hen : encI (m : Int) = enc 8 m := if_neg (by omega)
    have hby := encI_bytes (m : Int) (by omega)
    have hln := HLen.out
    rw [hen] at hrow7 hby hln
    have hle := HLe.out
    rw [hen] at hle
    have hg := get_back a7 (len + L + lenm) cap7 m xs ms w7 hrow7 (bytes8_append (bytes8_append hb8 hby) hbm) (by rw [List.length_append, hln, HXm.out]) (by omega) (by omega)
    rw [HX.out, ← hle] at hg
    refine hg.mono ?_
    rintro e w8 ⟨rfl, rfl⟩
    go_wp2_with (go_at_call 9; refine (num_any _ _).mono ?_; rintro e w' ⟨rfl, rfl⟩)
    go_ret
    exact ⟨rfl, hb9⟩

set_option maxHeartbeats 400000 in
theorem deltaBack_any (a : Option Addr) (len cap : Nat) (zs : List Int) (n : Int) (am : Option Addr) (lenm capm : Nat) (zm : List Int) (w : World) (hr : IsRow .u8 w a len cap zs) (h0 : -9223372036854775808 ≤ n) (h1 : n ≤ 9223372036854775807) (hrm : IsRow .u8 w am lenm capm zm) :
    Calls Try.prog 4 #[.slice a len cap, .int .i64 n, .slice am lenm capm] w fun e w' => e = .returned (.bool true) ∧ Below w.heap.size w w' := by
  obtain ⟨r1, r2, r3, r4, r5, r6⟩ := hr.row
  obtain ⟨s1, s2, s3, s4, s5, s6⟩ := hrm.row
  by_cases hbig : (200 : Int) < len
  · clear r1 r2 r3 r4 s1 s2 s3 s4
    go_enter Try.func4, Try.ntmps4
    go_wp2_with (go_at_call 6; refine (alive_any _).mono ?_; rintro e w1 ⟨rfl, hb1⟩)
    go_ret
    exact ⟨rfl, hb1⟩
  by_cases hbig2 : (200 : Int) < lenm
  · clear r1 r2 r3 r4 s1 s2 s3 s4
    go_enter Try.func4, Try.ntmps4
    go_wp2_with (go_at_call 6; refine (alive_any _).mono ?_; rintro e w1 ⟨rfl, hb1⟩)
    go_ret
    exact ⟨rfl, hb1⟩
  exact deltaBack_small a len cap _ n am lenm capm _ w r1 (bytes8_of r2) r3 r4 (by omega) s1 (bytes8_of s2) s3 s4 (by omega) h0 h1
end Go.Proofs.Ytlfggcadfhbdgaa
