/-
  THE WALKS of layer 2: width, Put (delta's and the reference's).
-/
import Derived.Test.YtlfggcadfhbdgaaDeltaGet
namespace Go.Proofs.Ytlfggcadfhbdgaa
open Go.RowKit

theorem infoU8 : (Try.prog.info? 5).map (fun i => (i.zero, i.size, i.bytes)) = some (some (.int .u8 0), 1, 1) := by kernel_rfl
theorem sizeU8 : (Try.prog.info? 5).map (·.size) = some 1 := by kernel_rfl

set_option maxHeartbeats 400000 in
theorem width_neg (n : Int) (w : World) (h : n < 0) :
    Calls Try.prog 12 #[.int .i64 n] w fun e w' => e = .returned (.int .i64 0) ∧ w' = w := by
  go_enter Try.func12, Try.ntmps12
  go_wp2
  go_ret
  exact ⟨rfl, rfl⟩

set_option maxHeartbeats 400000 in
theorem width_nat (n : Nat) (w : World) (h : n < 128 ^ 9) :
    Calls Try.prog 12 #[.int .i64 n] w fun e w' => e = .returned (.int .i64 (enc 8 n).length) ∧ w' = w := by
  rw [enc_len 8 n h]
  have hn : (n : Int) ≤ 9223372036854775807 := by omega
  have h1 : n / 128 < 128 ^ 8 := by omega
  have HL := hide (wid_le 8 (n / 128))
  clear h
  go_enter Try.func12, Try.ntmps12
  go_wp2
  go_loop [0, 3] (fun m s => ∃ (f x c : Nat), x < 128 ^ f ∧ f ≤ 8 ∧ m = .int .i64 x ∧ s = .int .i64 c ∧ Hid (c + wid f x = wid 8 (n / 128) + 1)) (fun m _ => (intOf m).toNat)
  case atStart => exact ⟨8, n / 128, 1, h1, Nat.le_refl _, by go_num, rfl, Nat.add_comm _ _⟩
  case round =>
    obtain ⟨f, x, c, hx, hf, rfl, rfl, HW⟩ := hrel
    have hc : c ≤ 9 := by have := HW.out; have := HL.out; omega
    by_cases h0 : 0 < x
    · obtain ⟨g, rfl⟩ : ∃ g, f = g + 1 := ⟨f - 1, by
        rcases f with _ | f
        · simp at hx; omega
        · omega⟩
      have hx2 : x / 128 < 128 ^ g := by rw [Nat.pow_succ] at hx; omega
      have HW2 := hide (wid_succ g x h0)
      clear hx
      go_wp2
      go_round
      case rel => exact ⟨g, x / 128, c + 1, hx2, by omega, by go_num, by go_num, by have := HW.out; have := HW2.out; show c + 1 + _ = _; omega⟩
      case measure => simp [intOf]; omega
    · obtain rfl : x = 0 := by omega
      go_wp2
      go_ret
      exact ⟨ret_int (by have h := HW.out; rw [wid_zero] at h; omega), rfl⟩

theorem or128_i64 (y : Int) (h0 : 0 ≤ y) (h1 : y ≤ 127) : bits .or .i64 y 128 = y + 128 := by
  have h := or_step .i64 wraps40_i64 (by decide) y 1 1 (by decide) h0 (by simpa using Int.lt_of_le_of_lt h1 (by decide)) (by decide) (by decide)
  simpa using h
theorem or128_u8 (y : Int) (h0 : 0 ≤ y) (h1 : y ≤ 127) : bits .or .u8 y 128 = y + 128 := by
  obtain ⟨a, rfl⟩ := Int.eq_ofNat_of_zero_le h0
  have ha : a < 2 ^ 7 := by omega
  have := (bits_nat .u8 8 (by decide) wraps_u8 a 128 (by omega) (by decide)).2
  rw [show (128 : Int) = ((128 : Nat) : Int) from rfl, this, Nat.or_comm]
  have h2 := Nat.two_pow_add_eq_or_of_lt ha 1
  rw [show 2 ^ 7 * 1 = 128 from rfl] at h2
  rw [← h2]
  omega

/-- WHAT Put TELLS: the bytes xs, and behind them ys, in new memory. -/
def Puts (w : World) (xs ys : List Int) (e : Ending) (w' : World) : Prop :=
  ∃ v, e = .returned v ∧ w'.ownsRow w.heap.size 5 1 v (xs.length + ys.length) ((xs ++ ys).map (Value.int .u8)) ∧ Below w.heap.size w w'

theorem app_own {w : World} {B : Nat} {v : Value} {n m : Nat} {xs pre : List Int} {y : Int} (h : w.ownsRow B 5 1 v (n + 1) ((xs ++ pre).map (Value.int .u8) ++ [.int .u8 y])) (hm : m = n + 1) :
    w.ownsRow B 5 1 v m ((xs ++ (pre ++ [y])).map (Value.int .u8)) := by
  subst hm
  rw [← List.append_assoc, List.map_append]
  exact h

theorem enc_pos (f n : Nat) : 1 ≤ (enc f n).length := by
  cases f with
  | zero => exact Nat.le_refl _
  | succ f => rw [enc]; split <;> simp

set_option maxRecDepth 100000 in
set_option maxHeartbeats 1000000 in
theorem put_nat (a : Option Addr) (len cap n : Nat) (xs : List Int) (w : World) (hr : Row8 w a xs) (hx : xs.length = len) (hl : len ≤ 100000) (hn : n < 128 ^ 9) :
    Calls Try.prog 10 #[.slice a len cap, .int .i64 n] w (Puts w xs (enc 8 n)) := by
  obtain ⟨i0, hi, hz0, hz1, hz2⟩ := info_parts infoU8
  have hn2 : (n : Int) ≤ 9223372036854775807 := by omega
  have HW := hide (width_nat n w hn)
  have HL1 := hide (enc_pos 8 n)
  have HL2 := hide (enc_len_le 8 n hn)
  obtain ⟨L, HL⟩ : ∃ L, Hid (L = (enc 8 n).length) := ⟨_, rfl⟩
  rw [← HL.out] at HW HL1 HL2
  have hL1 := HL1.out
  have hL2 := HL2.out
  have HN := hide hn
  have HR := hide hr
  have HX := hide hx
  generalize hP : Puts w xs (enc 8 n) = Post
  have HP := hide hP
  clear hP hn hr hx HL1 HL2
  go_enter Try.func10, Try.ntmps10
  go_wp2_with fail
  refine HW.out.mono ?_
  rintro e w1 ⟨rfl, rfl⟩
  go_wp2_with (first | (at_make; refine wpList_make_len _ rfl (.tmp 10) (.tmp 14) 22 rfl 5 i0 (.int .u8 0) Try.underlying22 hi hz0 hz1 .i64 .i64 _ _ len (len + L) rfl rfl rfl (by omega) (by omega) (by rw [hz2]; omega) (by unfold maxLen; omega) ?_; intro w2 cur hg hcs hgr) | (refine wpList_copy_into _ rfl (.tmp 16) (.tmp 17) 22 22 rfl 5 Try.underlying22 sizeU8 .u8 w1.heap.size len (len + L) cap a xs rfl rfl cur hg hcs (by omega) (by unfold maxLen; omega) (HR.out.below ((Below.refl _ _).grown hgr (Nat.le_refl _) (fun k hk => by cases hk))) HX.out w1.heap.size w1 ((Below.refl _ _).grown hgr (Nat.le_refl _) (fun k hk => by cases hk)) (Nat.le_refl _) ?_; intro w3 hown hb3))
  have HO := hide hown
  have HB3 := hide hb3
  clear hown hb3 hgr hg hcs
  go_simp
  go_loopw [5, 6, 1] (fun sz v m wr => ∃ (f x s N : Nat) (pre : List Int), f ≤ 8 ∧ s ≤ 9 ∧ N ≤ 100009 ∧ sz = .int .i64 s ∧ m = .int .i64 x ∧ (x : Int) ≤ 9223372036854775807 ∧ Hid (x < 128 ^ (f + 1) ∧ s = (enc f x).length ∧ pre ++ enc f x = enc 8 n ∧ N = len + pre.length) ∧ wr.ownsRow w1.heap.size 5 1 v N ((xs ++ pre).map (Value.int .u8)) ∧ Hid (Below w1.heap.size w1 wr)) (fun sz _ _ _ => (intOf sz).toNat)
  case atStart => exact ⟨8, n, L, len, [], Nat.le_refl _, hL2, by omega, rfl, rfl, hn2, ⟨HN.out, HL.out, rfl, rfl⟩, by simpa using HO.out, HB3⟩
  case round =>
    obtain ⟨f, x, s, N, pre, hf, hs, hN, rfl, rfl, hx63, HI, hown, HB⟩ := hrel
    have hszr : w1.heap.size ≤ wr.heap.size := HB.out.size
    by_cases h1 : 1 < s
    · have hx127 : 127 < x := by
        rcases Nat.lt_or_ge 127 x with h | h
        · exact h
        · have := HI.out.2.1
          rw [enc_small f x h] at this
          simp at this
          omega
      obtain ⟨g, rfl⟩ : ∃ g, f = g + 1 := ⟨f - 1, by
        rcases f with _ | f
        · have := HI.out.1; simp at this; omega
        · omega⟩
      have HE := hide (enc_big g x hx127)
      have e1 : bits .and .i64 (x : Int) 127 = (x : Int) % 128 := and127_i64 x (by omega) hx63
      have e2 : bits .or .i64 ((x : Int) % 128) 128 = (x : Int) % 128 + 128 := or128_i64 _ (by omega) (by omega)
      go_wp2_with (at_builtin; refine wpList_append_own _ rfl (.tmp 23) (.tmp 28) 22 rfl w1.heap.size 5 i0 (.int .u8 0) 1 1 Try.underlying22 hi hz0 hz1 hz2 rfl (by decide) _ _ _ rfl (hown.alloc _) ⟨wr.heap.size, 0, none⟩ 1 1 [.int .u8 ((x : Int) % 128 + 128)] rfl rfl (cell_one_new _ _ _) (by intro u hu; simp at hu; subst hu; rfl) (by unfold maxLen; omega) (by omega) (by simp; omega) ?_; intro v3 w3 hown3 hg3 _)
      go_roundw
      case rel =>
        obtain ⟨a1, a2, a3, a4⟩ := HI.out
        have a5 := congrArg List.length a3
        rw [List.length_append, ← HL.out, ← a2] at a5
        rw [HE.out] at a2 a3
        rw [List.length_cons] at a2
        have hx2 : x / 128 < 128 ^ (g + 1) := by rw [Nat.pow_succ] at a1; omega
        refine ⟨g, x / 128, s - 1, N + 1, pre ++ [(x : Int) % 128 + 128], by omega, by omega, by omega, by go_num, by go_num, by omega, ⟨hx2, by omega, ?_, by rw [List.length_append, List.length_singleton]; omega⟩, app_own hown3 rfl, ?_⟩
        · rw [List.append_assoc, ← a3]; simp
        · exact (HB.out.alloc hszr _).grown hg3 (by simp; omega) (fun k hk => (hown.lt k hk).1)
      case measure => simp [intOf]; omega
    · obtain ⟨a1, a2, a3, a4⟩ := HI.out
      have a6 := enc_pos f x
      have hs1 : s = 1 := by omega
      have a7 := congrArg List.length a3
      rw [List.length_append, ← HL.out, ← a2] at a7
      have hx127 : x ≤ 127 := by
        rcases Nat.lt_or_ge 127 x with h | h
        · rcases f with _ | f
          · simp at a1; omega
          · rw [enc_big f x h, List.length_cons] at a2
            have := enc_pos f (x / 128)
            omega
        · exact h
      rw [enc_small f x hx127] at a3
      have HE := hide a3
      have HNN := hide a4
      clear HI a1 a2 a3 a4 a6
      subst hs1
      go_wp2_with (at_builtin; refine wpList_append_own _ rfl (.tmp 34) (.tmp 37) 22 rfl w1.heap.size 5 i0 (.int .u8 0) 1 1 Try.underlying22 hi hz0 hz1 hz2 rfl (by decide) _ _ _ rfl (hown.alloc _) ⟨wr.heap.size, 0, none⟩ 1 1 [.int .u8 (x : Int)] rfl rfl (cell_one_new _ _ _) (by intro u hu; simp at hu; subst hu; rfl) (by unfold maxLen; omega) (by omega) (by simp; omega) ?_; intro v3 w3 hown3 hg3 _)
      rw [← HP.out]
      refine ⟨_, rfl, ?_, (HB.out.alloc hszr _).grown hg3 (by simp; omega) (fun k hk => (hown.lt k hk).1)⟩
      have h := app_own hown3 rfl
      rw [HE.out] at h
      rw [HX.out, ← HL.out]
      have e : len + L = N + 1 := by have := HNN.out; omega
      rw [e]
      exact h

set_option maxHeartbeats 400000 in
theorem put_neg (a : Option Addr) (len cap : Nat) (n : Int) (xs : List Int) (w : World) (hr : Row8 w a xs) (hx : xs.length = len) (hl : len ≤ 100000) (hn : n < 0) :
    Calls Try.prog 10 #[.slice a len cap, .int .i64 n] w (Puts w xs []) := by
  obtain ⟨i0, hi, hz0, hz1, hz2⟩ := info_parts infoU8
  have HW := hide (width_neg n w hn)
  have HR := hide hr
  have HX := hide hx
  generalize hP : Puts w xs [] = Post
  have HP := hide hP
  clear hP hr hx
  go_enter Try.func10, Try.ntmps10
  go_wp2_with fail
  refine HW.out.mono ?_
  rintro e w1 ⟨rfl, rfl⟩
  go_wp2_with (first | (at_make; refine wpList_make_len _ rfl (.tmp 10) (.tmp 14) 22 rfl 5 i0 (.int .u8 0) Try.underlying22 hi hz0 hz1 .i64 .i64 _ _ len len rfl rfl rfl (by omega) (by omega) (by rw [hz2]; omega) (by unfold maxLen; omega) ?_; intro w2 cur hg hcs hgr) | (refine wpList_copy_into _ rfl (.tmp 16) (.tmp 17) 22 22 rfl 5 Try.underlying22 sizeU8 .u8 w1.heap.size len len cap a xs rfl rfl cur hg hcs (by omega) (by unfold maxLen; omega) (HR.out.below ((Below.refl _ _).grown hgr (Nat.le_refl _) (fun k hk => by cases hk))) HX.out w1.heap.size w1 ((Below.refl _ _).grown hgr (Nat.le_refl _) (fun k hk => by cases hk)) (Nat.le_refl _) ?_; intro w3 hown hb3))
  have HO := hide hown
  have HB3 := hide hb3
  clear hown hb3 hgr hg hcs
  go_simp
  go_loop [5, 6] (fun sz v => sz = .int .i64 0 ∧ v = .slice (some ⟨w1.heap.size, 0, none⟩) len len) (fun _ _ => 0)
  case atStart => exact ⟨rfl, rfl⟩
  case round =>
    obtain ⟨rfl, rfl⟩ := hrel
    go_wp2
    rw [← HP.out]
    refine ⟨_, rfl, ?_, HB3.out⟩
    rw [HX.out, List.append_nil]
    exact HO.out

/-! ### The reference's -/
set_option maxRecDepth 100000 in
set_option maxHeartbeats 1000000 in
theorem refPut_neg (a : Option Addr) (len cap : Nat) (n : Int) (xs : List Int) (w : World) (hr : Row8 w a xs) (hnc : a = none → cap = 0) (hx : xs.length = len) (hl : len ≤ 100000) (hn : n < 0) :
    Calls Try.prog 11 #[.slice a len cap, .int .i64 n] w (Puts w xs []) := by
  obtain ⟨i0, hi, hz0, hz1, hz2⟩ := info_parts infoU8
  have HR := hide hr
  have HX := hide hx
  have HNC := hide hnc
  generalize hP : Puts w xs [] = Post
  have HP := hide hP
  clear hP hr hx hnc
  go_enter Try.func11, Try.ntmps11
  go_wp2_with (at_builtin; refine wpList_append_row _ rfl (.const (.slice none 0 0)) (.tmp 5) 22 rfl .u8 w.heap.size 5 i0 (.int .u8 0) 1 Try.underlying22 hi hz0 hz1 hz2 rfl _ 0 [] rfl (World.ownsRow_nil _ _ _ _) a len cap xs rfl HX.out HR.out HNC.out (by unfold maxLen; omega) (by omega) (Nat.le_refl _) ?_; intro v1 w1 hown hg1)
  rw [← HP.out]
  refine ⟨_, rfl, ?_, (Below.refl _ _).grown hg1 (Nat.le_refl _) (fun k hk => by cases hk)⟩
  rw [HX.out, List.append_nil]
  simpa using hown

set_option maxRecDepth 100000 in
set_option maxHeartbeats 1000000 in
theorem refPut_nat (a : Option Addr) (len cap n : Nat) (xs : List Int) (w : World) (hr : Row8 w a xs) (hnc : a = none → cap = 0) (hx : xs.length = len) (hl : len ≤ 100000) (hn : n < 128 ^ 9) :
    Calls Try.prog 11 #[.slice a len cap, .int .i64 n] w (Puts w xs (enc 8 n)) := by
  obtain ⟨i0, hi, hz0, hz1, hz2⟩ := info_parts infoU8
  have hn2 : (n : Int) ≤ 9223372036854775807 := by omega
  have HL2 := hide (enc_len_le 8 n hn)
  have HN := hide hn
  have HR := hide hr
  have HX := hide hx
  have HNC := hide hnc
  generalize hP : Puts w xs (enc 8 n) = Post
  have HP := hide hP
  clear hP hr hx hnc hn
  go_enter Try.func11, Try.ntmps11
  go_wp2_with (at_builtin; refine wpList_append_row _ rfl (.const (.slice none 0 0)) (.tmp 5) 22 rfl .u8 w.heap.size 5 i0 (.int .u8 0) 1 Try.underlying22 hi hz0 hz1 hz2 rfl _ 0 [] rfl (World.ownsRow_nil _ _ _ _) a len cap xs rfl HX.out HR.out HNC.out (by unfold maxLen; omega) (by omega) (Nat.le_refl _) ?_; intro v1 w1 hown hg1)
  have HO := hide hown
  have HB1 := hide ((Below.refl w.heap.size w).grown hg1 (Nat.le_refl _) (fun k hk => by cases hk))
  clear hown hg1
  go_loopw [0, 1] (fun v m wr => ∃ (f x N : Nat) (pre : List Int), f ≤ 8 ∧ N ≤ 100009 ∧ m = .int .i64 x ∧ (x : Int) ≤ 9223372036854775807 ∧ Hid (x < 128 ^ (f + 1) ∧ pre ++ enc f x = enc 8 n ∧ N = len + pre.length) ∧ wr.ownsRow w.heap.size 5 1 v N ((xs ++ pre).map (Value.int .u8)) ∧ Hid (Below w.heap.size w wr)) (fun _ m _ => (intOf m).toNat)
  case atStart => exact ⟨8, n, len, [], Nat.le_refl _, by omega, rfl, hn2, ⟨HN.out, rfl, rfl⟩, by simpa using HO.out, HB1⟩
  case round =>
    obtain ⟨f, x, N, pre, hf, hN, rfl, hx63, HI, hown, HB⟩ := hrel
    have hszr : w.heap.size ≤ wr.heap.size := HB.out.size
    by_cases h1 : 127 < x
    · obtain ⟨g, rfl⟩ : ∃ g, f = g + 1 := ⟨f - 1, by
        rcases f with _ | f
        · have := HI.out.1; simp at this; omega
        · omega⟩
      have HE := hide (enc_big g x h1)
      have e1 : bits .and .i64 (x : Int) 127 = (x : Int) % 128 := and127_i64 x (by omega) hx63
      have e2 : bits .or .u8 ((x : Int) % 128) 128 = (x : Int) % 128 + 128 := or128_u8 _ (by omega) (by omega)
      go_wp2_with (at_builtin; refine wpList_append_own _ rfl (.tmp 12) (.tmp 17) 22 rfl w.heap.size 5 i0 (.int .u8 0) 1 1 Try.underlying22 hi hz0 hz1 hz2 rfl (by decide) _ _ _ rfl (hown.alloc _) ⟨wr.heap.size, 0, none⟩ 1 1 [.int .u8 ((x : Int) % 128 + 128)] rfl rfl (cell_one_new _ _ _) (by intro u hu; simp at hu; subst hu; rfl) (by unfold maxLen; omega) (by omega) (by simp; omega) ?_; intro v3 w3 hown3 hg3 _)
      go_roundw
      case rel =>
        obtain ⟨a1, a3, a4⟩ := HI.out
        have a5 := congrArg List.length a3
        rw [List.length_append] at a5
        have a6 := HL2.out
        have a7 := enc_pos (g + 1) x
        rw [HE.out] at a3
        have hx2 : x / 128 < 128 ^ (g + 1) := by rw [Nat.pow_succ] at a1; omega
        refine ⟨g, x / 128, N + 1, pre ++ [(x : Int) % 128 + 128], by omega, by omega, by go_num, by omega, ⟨hx2, ?_, by rw [List.length_append, List.length_singleton]; omega⟩, app_own hown3 rfl, ?_⟩
        · rw [List.append_assoc, ← a3]; simp
        · exact (HB.out.alloc hszr _).grown hg3 (by simp; omega) (fun k hk => (hown.lt k hk).1)
      case measure => simp [intOf]; omega
    · obtain ⟨a1, a3, a4⟩ := HI.out
      rw [enc_small f x (by omega)] at a3
      have HE := hide a3
      have HNN := hide a4
      clear HI a1 a3 a4
      go_wp2_with (at_builtin; refine wpList_append_own _ rfl (.tmp 21) (.tmp 24) 22 rfl w.heap.size 5 i0 (.int .u8 0) 1 1 Try.underlying22 hi hz0 hz1 hz2 rfl (by decide) _ _ _ rfl (hown.alloc _) ⟨wr.heap.size, 0, none⟩ 1 1 [.int .u8 (x : Int)] rfl rfl (cell_one_new _ _ _) (by intro u hu; simp at hu; subst hu; rfl) (by unfold maxLen; omega) (by omega) (by simp; omega) ?_; intro v3 w3 hown3 hg3 _)
      rw [← HP.out]
      refine ⟨_, rfl, ?_, (HB.out.alloc hszr _).grown hg3 (by simp; omega) (fun k hk => (hown.lt k hk).1)⟩
      have h := app_own hown3 rfl
      rw [HE.out] at h
      have e : xs.length + (enc 8 n).length = N + 1 := by rw [HX.out, ← HE.out, List.length_append, List.length_singleton]; have := HNN.out; omega
      rw [e]
      exact h

/-! ### Both, at any number; alive -/
def encI (n : Int) : List Int := if n < 0 then [] else enc 8 n.toNat

theorem p9 : (128 : Nat) ^ 9 = 9223372036854775808 := by decide

theorem put_any (a : Option Addr) (len cap : Nat) (n : Int) (xs : List Int) (w : World) (hr : Row8 w a xs) (hx : xs.length = len) (hl : len ≤ 100000) (hn : n ≤ 9223372036854775807) :
    Calls Try.prog 10 #[.slice a len cap, .int .i64 n] w (Puts w xs (encI n)) := by
  unfold encI
  by_cases h : n < 0
  · rw [if_pos h]; exact put_neg a len cap n xs w hr hx hl h
  · rw [if_neg h]
    obtain ⟨m, rfl⟩ := Int.eq_ofNat_of_zero_le (show 0 ≤ n by omega)
    exact put_nat a len cap m xs w hr hx hl (by rw [p9]; omega)

theorem refPut_any (a : Option Addr) (len cap : Nat) (n : Int) (xs : List Int) (w : World) (hr : Row8 w a xs) (hnc : a = none → cap = 0) (hx : xs.length = len) (hl : len ≤ 100000) (hn : n ≤ 9223372036854775807) :
    Calls Try.prog 11 #[.slice a len cap, .int .i64 n] w (Puts w xs (encI n)) := by
  unfold encI
  by_cases h : n < 0
  · rw [if_pos h]; exact refPut_neg a len cap n xs w hr hnc hx hl h
  · rw [if_neg h]
    obtain ⟨m, rfl⟩ := Int.eq_ofNat_of_zero_le (show 0 ≤ n by omega)
    exact refPut_nat a len cap m xs w hr hnc hx hl (by rw [p9]; omega)

theorem encI_bytes (n : Int) (h : n ≤ 9223372036854775807) : Bytes8 (encI n) := by
  unfold encI
  split
  · exact fun x hx => by simp at hx
  · exact enc_bytes 8 _ (by rw [p9]; omega)
theorem encI_len (n : Int) (h : n ≤ 9223372036854775807) : (encI n).length ≤ 9 := by
  unfold encI
  split
  · simp
  · exact enc_len_le 8 _ (by rw [p9]; omega)

set_option maxHeartbeats 400000 in
theorem num_any (n : Int) (w : World) :
    Calls Try.prog 9 #[.int .i64 n] w fun e w' => e = .returned (.int .i64 n) ∧ w' = w := by
  go_enter Try.func9, Try.ntmps9
  go_wp2
  go_ret
  exact ⟨rfl, rfl⟩

theorem enc300 : encI 300 = [172, 2] := by decide

set_option maxHeartbeats 400000 in
theorem alive_any (w : World) :
    Calls Try.prog 6 #[] w fun e w' => e = .returned (.bool true) ∧ Below w.heap.size w w' := by
  have h := put_any none 0 0 300 [] w (.inl ⟨rfl, rfl⟩) rfl (by decide) (by decide)
  rw [enc300] at h
  go_enter Try.func6, Try.ntmps6
  go_wp2_with fail
  refine h.mono ?_
  rintro e w1 ⟨v, rfl, hown, hb⟩
  obtain ⟨a, cap, rfl, hrow, -, -, -, -⟩ := row_of_own (xs := [172, 2]) hown
  obtain ⟨b, off, rfl, -, hc⟩ := hrow.addr (by decide)
  have c0 : w1.cell? ⟨b, off, none⟩ = some (.int .u8 172) := hc 0 (by decide)
  have c1 : w1.cell? ⟨b, off + 1, none⟩ = some (.int .u8 2) := hc 1 (by decide)
  clear hc hown h
  go_wp2
  go_ret
  exact ⟨rfl, hb⟩
end Go.Proofs.Ytlfggcadfhbdgaa
