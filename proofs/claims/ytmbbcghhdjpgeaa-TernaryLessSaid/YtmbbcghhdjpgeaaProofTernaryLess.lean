/-
  PROVED: the law TernaryLess answers true at every circuit, state, inputs and mask: where less is known of what goes in no more is known of what comes out of ternary.Values. No conditions.
  THE WALK of the law TernaryLess.
-/
import Derived.Test.YtmbbcghhdjpgeaaTernD
import Derived.Test.YtmbbcghhdjpgeaaOwn

namespace Go.Proofs.Ytmbbcghhdjpgeaa
open Go.RowKit

/-- The first k of a list, where the mask says so, are Any. -/
def mskK (xs : List Int) (ay : List Bool) (o : Nat) : Nat → List Int
  | 0 => xs
  | k + 1 => if atP ay (o + k) = true then (mskK xs ay o k).set k 2 else mskK xs ay o k
theorem mskK_len (xs : List Int) (ay : List Bool) (o : Nat) : ∀ k, (mskK xs ay o k).length = xs.length
  | 0 => rfl
  | k + 1 => by
    show (if atP ay (o + k) = true then (mskK xs ay o k).set k 2 else mskK xs ay o k).length = _
    split
    · rw [List.length_set, mskK_len xs ay o k]
    · exact mskK_len xs ay o k
theorem les_set2 {v u : List Int} (h : LesL v u) (i : Nat) : LesL v (u.set i 2) := by
  refine ⟨by rw [List.length_set]; exact h.len, fun j hj => ?_⟩
  by_cases e : j = i
  · subst e; rw [at_set_same _ _ _ (by rw [← h.len]; exact hj)]; exact .inl rfl
  · rw [at_set_other _ _ _ _ (fun x => e x.symm)]; exact h.at' j hj
theorem mskK_les (xs : List Int) (ay : List Bool) (o : Nat) : ∀ k, LesL xs (mskK xs ay o k)
  | 0 => ⟨rfl, fun _ _ => .inr rfl⟩
  | k + 1 => by
    show LesL xs (if atP ay (o + k) = true then (mskK xs ay o k).set k 2 else mskK xs ay o k)
    split
    · exact les_set2 (mskK_les xs ay o k) k
    · exact mskK_les xs ay o k
theorem mskK_all {xs : List Int} (h : All3 xs) (ay : List Bool) (o : Nat) : ∀ k, All3 (mskK xs ay o k)
  | 0 => h
  | k + 1 => by
    show All3 (if atP ay (o + k) = true then (mskK xs ay o k).set k 2 else mskK xs ay o k)
    split
    · exact all3_set (mskK_all h ay o k) (.inr (.inr rfl)) k
    · exact mskK_all h ay o k
theorem mskK_yes {xs : List Int} {ay : List Bool} {o k : Nat} (h : atP ay (o + k) = true) : mskK xs ay o (k + 1) = (mskK xs ay o k).set k 2 := if_pos h
theorem mskK_no {xs : List Int} {ay : List Bool} {o k : Nat} (h : atP ay (o + k) = false) : mskK xs ay o (k + 1) = mskK xs ay o k := if_neg (by rw [h]; decide)

/-- Two lists that the call made. -/
structure SX (w0 : World) (a : Option Addr) (n c : Nat) (xs : List Int) (b : Option Addr) (m d : Nat) (ys : List Int) (wr : World) : Prop where
  own1 : wr.ownsRow w0.heap.size 3 1 (.slice a n c) n (xs.map (Value.int .i64))
  own2 : wr.ownsRow w0.heap.size 3 1 (.slice b m d) m (ys.map (Value.int .i64))
  ne : ∀ g1 o1 g2 o2, a = some ⟨g1, o1, none⟩ → b = some ⟨g2, o2, none⟩ → g1 ≠ g2
  below : Below w0.heap.size w0 wr
theorem own_other {w : World} {B n size : Nat} {e : TypeId} {b : Option Addr} {d : Nat} {vs : List Value} (h : w.ownsRow B e size (.slice b n d) n vs) (g i : Nat) (u : Value) (hne : ∀ g2 o2, b = some ⟨g2, o2, none⟩ → g ≠ g2) : (w.setCell ⟨g, i, none⟩ u).ownsRow B e size (.slice b n d) n vs := by
  obtain ⟨h1, h2⟩ := h
  refine ⟨h1, ?_⟩
  rcases h2 with h2 | ⟨g2, cap, cur, e2, hg, hh, r⟩
  · exact .inl h2
  · cases e2
    exact .inr ⟨g2, _, cur, rfl, hg, (heap_setCell_other w ⟨g, i, none⟩ g2 u (fun x => hne g2 0 rfl x.symm)).trans hh, r⟩
theorem SX.set1 {w0 wr : World} {g n c : Nat} {xs : List Int} {b : Option Addr} {m d : Nat} {ys : List Int} (h : SX w0 (some ⟨g, 0, none⟩) n c xs b m d ys wr) (i : Nat) (x : Int) : SX w0 (some ⟨g, 0, none⟩) n c (xs.set i x) b m d ys (wr.setCell ⟨g, i, none⟩ (.int .i64 x)) := by
  obtain ⟨h1, h2⟩ := h.own1.stored i (.int .i64 x)
  have hgb := (h.own1.lt g rfl).1
  exact ⟨by rw [List.map_set]; exact h1, own_other h.own2 g i _ (fun g2 o2 e => h.ne g 0 g2 o2 rfl e), h.ne, h.below.grown h2 h.below.size (fun k hk => by cases hk; omega)⟩
theorem SX.set2 {w0 wr : World} {g m d : Nat} {xs : List Int} {a : Option Addr} {n c : Nat} {ys : List Int} (h : SX w0 a n c xs (some ⟨g, 0, none⟩) m d ys wr) (i : Nat) (x : Int) : SX w0 a n c xs (some ⟨g, 0, none⟩) m d (ys.set i x) (wr.setCell ⟨g, i, none⟩ (.int .i64 x)) := by
  obtain ⟨h1, h2⟩ := h.own2.stored i (.int .i64 x)
  have hgb := (h.own2.lt g rfl).1
  exact ⟨own_other h.own1 g i _ (fun g2 o2 e x => h.ne g2 o2 g 0 e rfl x.symm), by rw [List.map_set]; exact h1, h.ne, h.below.grown h2 h.below.size (fun k hk => by cases hk; omega)⟩

set_option maxRecDepth 100000 in
set_option maxHeartbeats 8000000 in
theorem ternaryLess_came (c : CV) (sa : Option Addr) (sn sc : Nat) (st : List Int) (ia : Option Addr) (inn ic : Nat) (is : List Int) (ya : Option Addr) (yn yc : Nat) (ay : List Bool) (C : Circ) (w : World) (h : Came w c C) (hs : CameI w sa sn st) (hsz : sa = none → sc = 0) (hi : CameI w ia inn is) (hiz : ia = none → ic = 0) (hy : CameB w ya yn yc ay) :
    Calls Try.prog 12 #[c.v, .slice sa sn sc, .slice ia inn ic, .slice ya yn yc] w fun e w' => e = .returned (.bool true) ∧ Below w.heap.size w w' := by
  have HB := hide (box_new w c)
  have HC := hide h
  have HS := hide hs
  have HI := hide hi
  have HY := hide hy
  have HSz := hide hsz
  have HIz := hide hiz
  have HCV : Hid (c.v = .agg #[.int .i64 c.m, .slice c.a1 c.n1 c.c1, .slice c.a2 c.n2 c.c2, .slice c.a3 c.n3 c.c3, .slice c.a4 c.n4 c.c4, .slice c.a5 c.n5 c.c5, .slice c.a6 c.n6 c.c6, .slice c.a7 c.n7 c.c7]) := rfl
  have HBg := hide (fun W hb => big_any c C W ⟨h.holds.below hb, h.n1, h.n2, h.n3, h.n4, h.n5, h.n6, h.n7, h.m, h.names⟩)
  rw [HCV.out] at HBg ⊢
  have hyc : yn ≤ 9223372036854775807 := Nat.le_trans hy.c1 hy.c2
  clear h hs hi hy hsz hiz
  go_enter Try.func12, Try.ntmps12
  go_wp2_with fail
  refine (alive9_any _).mono ?_
  rintro e w1 ⟨rfl, hb1⟩
  have B1 := hide (HB.out.below hb1)
  have W1 := hide (belowThen (below_alloc w _) hb1)
  clear HB hb1
  obtain ⟨q0, q1, q2, q3, q4, q5, q6, q7⟩ := B1.out.cells
  go_wp2_with fail
  refine (HBg.out _ W1.out).mono ?_
  rintro e w2 ⟨rfl, hb2⟩
  have B2 := hide (B1.out.below hb2)
  have W2 := hide (belowThen W1.out hb2)
  clear B1 W1 hb2 HBg q0 q1 q2 q3 q4 q5 q6 q7
  have hend2 := hide W2.out
  cases hbig : C.bigB with
  | true =>
    go_wp2
    go_ret
    exact ⟨rfl, hend2.out⟩
  | false =>
    have HF := hide (fits_of HC.out hbig)
    clear hbig
    obtain ⟨q0, q1, q2, q3, q4, q5, q6, q7⟩ := B2.out.cells
    by_cases h80 : sn ≤ 80 ∧ inn ≤ 80
    case neg =>
      obtain ⟨z, hz⟩ : ∃ z, IntKind.i64.wrap ((sn : Int) + (inn : Int)) = z := ⟨_, rfl⟩
      have hor : (80 : Int) < (sn : Int) ∨ (80 : Int) < (inn : Int) := by omega
      clear h80 HF HC HS HI HY HSz HIz
      go_wp2
      all_goals go_ret
      all_goals exact ⟨rfl, hend2.out⟩
    case pos =>
    obtain ⟨hs80, hi80⟩ := h80
    obtain ⟨s0, hse⟩ : ∃ s0, s0 = sn + inn := ⟨_, rfl⟩
    have hsum : (sn : Int) + (inn : Int) = (s0 : Int) := by omega
    have hs1 : s0 ≤ 160 := by omega
    have h80a : ¬ (80 : Int) < (sn : Int) := by omega
    have h80b : ¬ (80 : Int) < (inn : Int) := by omega
    by_cases hyn : yn < s0
    · have hlt : (yn : Int) < (s0 : Int) := by omega
      clear hse
      go_wp2
      go_ret
      exact ⟨rfl, hend2.out⟩
    · have hlt : ¬ (yn : Int) < (s0 : Int) := by omega
      have hsy : sn + inn ≤ yn := by omega
      clear hse hyn hend2
      have HV := hide (fun W a b k l (xs ys : List Int) (hb : Below w.heap.size w W) (h1 : RowT W a xs) (h2 : RowT W b ys) (e1 : xs.length = sn) (e2 : ys.length = inn) => tValues_any c C W a b sn k inn l xs ys (HC.out.holds.below hb) HF.out h1 e1 h2 e2 (by omega) (by omega))
      unfold TValPost at HV
      rw [HCV.out] at HV
      have HT0 := hide (fun h => ternI_zero (C := C) (st := st) (is := is) h)
      have HG0 := hide (fun (xs ys : List Int) (h0 : C.checkI = 0) (h1 : xs.length = C.lats.length) (h2 : ys.length = C.ins.length) (h3 : All3 xs) (h4 : All3 ys) => ternI_good h0 h1 h2 h3 h4)
      go_wp2_with fail
      refine (HV.out w2 sa ia sc ic st is W2.out (HS.out.row.below W2.out) (HI.out.row.below W2.out) HS.out.l HI.out.l).mono ?_
      rintro e w3 ⟨a3, n3, k3, rfl, hr3, hl3, hb3⟩
      have B3 := hide (B2.out.below hb3)
      have W3 := hide (belowThen W2.out hb3)
      clear B2 W2 hb3 q0 q1 q2 q3 q4 q5 q6 q7
      have hend3 := hide W3.out
      by_cases hck : C.ternI st is = 0
      case neg =>
        generalize C.ternI st is = ck at hck ⊢
        have hckb : (ck != 0) = true := by simpa using hck
        clear HV HT0 HG0 HC HS HI HY HF hr3 hl3
        go_wp2_with (go_at_call 35; refine (num9_any _ _).mono ?_; rintro e w' ⟨rfl, hw'⟩; obtain rfl := hw'.symm)
        go_ret
        exact ⟨rfl, hend3.out⟩
      case pos =>
      have e3 : C.valsE3 st is = C.vals3 st is := if_pos hck
      rw [e3] at hr3 hl3
      rw [hck]
      have HT := hide (HT0.out hck)
      rw [vals3_len] at hl3
      have HRg := hide (right_of HT.out.1)
      have hn4 : n3 ≤ 10000 := by have := HRg.out.small.max; omega
      have R3 := hide hr3
      have L3 := hide hl3
      clear hr3 hl3 HT0 e3 hck
      obtain ⟨i0, hi, hz0, hz1, hz2⟩ := info_parts infoInt
      have HE1 : Hid ((st.map (Value.int .i64)).length = sn * 1) := by show (st.map _).length = _; rw [List.length_map, HS.out.l, Nat.mul_one]
      have HE2 : Hid ((is.map (Value.int .i64)).length = inn * 1) := by show (is.map _).length = _; rw [List.length_map, HI.out.l, Nat.mul_one]
      have HSr := hide (HS.out.row.below W3.out)
      have HIr := hide (fun W (hb : Below w.heap.size w W) => HI.out.row.below hb)
      obtain ⟨q0, q1, q2, q3, q4, q5, q6, q7⟩ := B3.out.cells
      go_wp2_with (first | (go_at_call 35; refine (num9_any _ _).mono ?_; rintro e w' ⟨rfl, hw'⟩; obtain rfl := hw'.symm) | (at_builtin; refine wpList_append_rowC _ rfl (.const (.slice none 0 0)) (.tmp 59) 22 rfl w3.heap.size 3 i0 (.int .i64 0) 1 8 Try.underlying22 hi hz0 hz1 hz2 rfl (by decide) _ 0 [] rfl (World.ownsRow_nil _ _ _ _) sa sn sc (st.map (Value.int .i64)) rfl HE1.out HSr.out HSz.out (ints_one _) (by unfold maxLen; omega) (by omega) (Nat.le_refl _) ?_; intro v4 w4 hown4 hg4; rw [List.nil_append, Nat.zero_add] at hown4; obtain ⟨A4, K4, rfl⟩ := own_form hown4; have HB4 := hide ((Below.refl w3.heap.size w3).grown hg4 (Nat.le_refl _) (fun k hk => by cases hk)); have O4 := hide hown4; have HIx := hide (HIr.out _ (belowThen W3.out HB4.out)); clear hown4 hg4) | (at_builtin; refine wpList_append_rowC _ rfl (.const (.slice none 0 0)) (.tmp 61) 22 rfl w4.heap.size 3 i0 (.int .i64 0) 1 8 Try.underlying22 hi hz0 hz1 hz2 rfl (by decide) _ 0 [] rfl (World.ownsRow_nil _ _ _ _) ia inn ic (is.map (Value.int .i64)) rfl HE2.out HIx.out HIz.out (ints_one _) (by unfold maxLen; omega) (by omega) (Nat.le_refl _) ?_; intro v5 w5 hown5 hg5; rw [List.nil_append, Nat.zero_add] at hown5; obtain ⟨A5, K5, rfl⟩ := own_form hown5; have HB5 := hide ((Below.refl w4.heap.size w4).grown hg5 (Nat.le_refl _) (fun k hk => by cases hk)); have O5 := hide hown5; clear hown5 hg5))
      have HX0 : Hid (SX w3 A4 sn K4 st A5 inn K5 is w5) := by
        refine ⟨own_below O4.out HB5.out, own_le O5.out HB4.out.size, ?_, belowThen HB4.out HB5.out⟩
        rintro g1 o1 g2 o2 rfl rfl
        have e1 := O4.out.lt g1 rfl
        have e2 := O5.out.lt g2 rfl
        omega
      have hw35 := hide HB4.out.size
      clear hi hz0 hz1 hz2 i0 HE1 HE2 HSr HIr HIx HSz HIz O4 O5 HB4 HB5 q0 q1 q2 q3 q4 q5 q6 q7
      have HYr := hide (fun W (hb : Below w3.heap.size w3 W) => HY.out.row.below (belowThen W3.out hb))
      have hyl := hide HY.out.l
      go_loopw [15] (fun i wr => ∃ k : Nat, i = .int .i64 k ∧ k ≤ sn ∧ Hid (SX w3 A4 sn K4 (mskK st ay 0 k) A5 inn K5 is wr)) (fun i _ => sn - (intOf i).toNat)
      case atStart => exact ⟨0, rfl, Nat.zero_le _, HX0.out⟩
      case round =>
        clear HX0
        obtain ⟨k, rfl, hk, HX⟩ := hrel
        by_cases hlk : k < sn
        · obtain ⟨b, off, rfl, hbw, hcell⟩ := (HYr.out wr HX.out.below).addr (by rw [hyl.out]; omega)
          have hc0 := hcell k (by rw [hyl.out]; omega)
          have HYes := hide (fun h => mskK_yes (xs := st) (ay := ay) (o := 0) (k := k) h)
          have HNo := hide (fun h => mskK_no (xs := st) (ay := ay) (o := 0) (k := k) h)
          rw [Nat.zero_add] at HYes HNo
          generalize atP ay k = m at hc0 HYes HNo
          have hky : (k : Int) < (yn : Int) := by omega
          have hk0 : (0 : Int) ≤ (k : Int) := by omega
          clear hcell
          cases m with
          | false =>
            have HXn := hide HX.out
            rw [← HNo.out rfl] at HXn
            clear HYes HNo HX
            go_wp2
            go_roundw
            case rel => exact ⟨k + 1, by go_num, by omega, HXn.out⟩
            case measure => simp [intOf]; omega
          | true =>
            obtain ⟨a4, c4, e4, hf4⟩ : ∃ g c0, A4 = some ⟨g, 0, none⟩ ∧ c0 = K4 := by
              obtain ⟨-, h2⟩ := HX.out.own1
              rcases h2 with ⟨h2, h3⟩ | ⟨g, cap, cur, h2, -⟩
              · cases h2; omega
              · cases h2; exact ⟨g, _, rfl, rfl⟩
            subst e4
            have hcm := row_at HX.out.own1 k hlk
            have hfm := HX.out.own1.frozenAt k
            have HXn := hide (HX.out.set1 k 2)
            rw [← HYes.out rfl] at HXn
            generalize atP (mskK st ay 0 k) k = y0 at hcm
            clear HYes HNo HX hf4
            go_wp2
            go_roundw
            case rel => exact ⟨k + 1, by go_num, by omega, HXn.out⟩
            case measure => simp [intOf]; omega
        · obtain rfl : k = sn := by omega
          clear hk hlk
          have HX1 := hide HX.out
          have HXs : Hid (LesL st (mskK st ay 0 k) ∧ All3 (mskK st ay 0 k) ∧ (mskK st ay 0 k).length = k) := ⟨mskK_les _ _ _ _, mskK_all HT.out.2.2.2.1 _ _ _, by rw [mskK_len]; exact HS.out.l⟩
          generalize mskK st ay 0 k = xs at HX1 HXs
          go_wp2
          go_loopw [16] (fun i wr => ∃ j : Nat, i = .int .i64 j ∧ j ≤ inn ∧ Hid (SX w3 A4 k K4 xs A5 inn K5 (mskK is ay k j) wr)) (fun i _ => inn - (intOf i).toNat)
          case atStart => exact ⟨0, rfl, Nat.zero_le _, HX1.out⟩
          case round =>
            clear HX1
            obtain ⟨j, rfl, hj, HX⟩ := hrel
            by_cases hlj : j < inn
            · obtain ⟨b, off, rfl, hbw, hcell⟩ := (HYr.out wr HX.out.below).addr (by rw [hyl.out]; omega)
              have hc0 := hcell (k + j) (by rw [hyl.out]; omega)
              have HYes := hide (fun h => mskK_yes (xs := is) (ay := ay) (o := k) (k := j) h)
              have HNo := hide (fun h => mskK_no (xs := is) (ay := ay) (o := k) (k := j) h)
              obtain ⟨z, hz⟩ : ∃ z, z = k + j := ⟨_, rfl⟩
              rw [← hz] at hc0 HYes HNo
              have hzz : (k : Int) + (j : Int) = (z : Int) := by omega
              have hky : (z : Int) < (yn : Int) := by omega
              have hk0 : (0 : Int) ≤ (z : Int) := by omega
              have hk1 : z ≤ 160 := by omega
              generalize atP ay z = m at hc0 HYes HNo
              clear hcell hz
              cases m with
              | false =>
                have HXn := hide HX.out
                rw [← HNo.out rfl] at HXn
                clear HYes HNo HX
                go_wp2
                go_roundw
                case rel => exact ⟨j + 1, by go_num, by omega, HXn.out⟩
                case measure => simp [intOf]; omega
              | true =>
                obtain ⟨a5, e5⟩ : ∃ g, A5 = some ⟨g, 0, none⟩ := by
                  obtain ⟨-, h2⟩ := HX.out.own2
                  rcases h2 with ⟨h2, h3⟩ | ⟨g, cap, cur, h2, -⟩
                  · cases h2; omega
                  · cases h2; exact ⟨g, rfl⟩
                subst e5
                have hcm := row_at HX.out.own2 j hlj
                have hfm := HX.out.own2.frozenAt j
                have HXn := hide (HX.out.set2 j 2)
                rw [← HYes.out rfl] at HXn
                generalize atP (mskK is ay k j) j = y0 at hcm
                clear HYes HNo HX
                go_wp2
                go_roundw
                case rel => exact ⟨j + 1, by go_num, by omega, HXn.out⟩
                case measure => simp [intOf]; omega
            · obtain rfl : j = inn := by omega
              clear hj hlj
              have HX2 := hide HX.out
              have HYs : Hid (LesL is (mskK is ay k j) ∧ All3 (mskK is ay k j) ∧ (mskK is ay k j).length = j) := ⟨mskK_les _ _ _ _, mskK_all HT.out.2.2.2.2 _ _ _, by rw [mskK_len]; exact HI.out.l⟩
              generalize mskK is ay k j = ys at HX2 HYs
              obtain ⟨q0, q1, q2, q3, q4, q5, q6, q7⟩ := (B3.out.below HX2.out.below).cells
              have HLe := hide (les_vals C HXs.out.1 HYs.out.1)
              have hI0 : C.ternI xs ys = 0 := HG0.out xs ys HT.out.1 (by rw [HXs.out.2.2, ← HT.out.2.1]; exact HS.out.l.symm) (by rw [HYs.out.2.2, ← HT.out.2.2.1]; exact HI.out.l.symm) HXs.out.2.1 HYs.out.2.1
              have hE0 : C.valsE3 xs ys = C.vals3 xs ys := if_pos hI0
              have hl6' := vals3_len C xs ys
              have HVx := hide (HV.out wr A4 A5 K4 K5 xs ys (belowThen W3.out HX2.out.below) (by obtain ⟨a, k', e1, hr, -⟩ := rowT_own HX2.out.own1; cases e1; exact hr) (by obtain ⟨a, k', e1, hr, -⟩ := rowT_own HX2.out.own2; cases e1; exact hr) HXs.out.2.2 HYs.out.2.2)
              rw [hI0, hE0, hl6', L3.out] at HVx
              have L6 : Hid ((C.vals3 xs ys).length = n3) := hl6'.trans L3.out
              have L5 : Hid ((C.vals3 st is).length = n3) := (vals3_len C st is).trans L3.out
              have R5 := hide (R3.out.below HX2.out.below)
              generalize C.vals3 xs ys = vb at HVx HLe L6
              generalize C.vals3 st is = va at R3 HLe L5 R5
              have W5 := hide (belowThen W3.out HX2.out.below)
              clear hI0 hE0 hl6' HV HG0 HT HS HI HY HF HC HXs HYs HX HX2 HYr hyl R3 L3 hend3 HRg B3 W3 hw35 HCV
              go_wp2_with fail
              refine HVx.out.mono ?_
              rintro e w6 ⟨a6, n6, k6, rfl, hr6, rfl, hb6⟩
              have R6 := hide hr6
              have RA := hide (R5.out.below hb6)
              have W6 := hide (belowThen W5.out hb6)
              clear HVx hb6 hr6 R5 W5 q0 q1 q2 q3 q4 q5 q6 q7
              have HFt : Hid (∀ q, q < n3 → atP vb q = 2 ∨ atP vb q = atP va q) := fun q hq => HLe.out.at' q (by rw [L5.out]; exact hq)
              clear HLe
              go_wp2_with (go_at_call 35; refine (num9_any _ _).mono ?_; rintro e w' ⟨rfl, hw'⟩; obtain rfl := hw'.symm)
              go_loopw [19] (fun i wr => ∃ q : Nat, i = .int .i64 q ∧ q ≤ n3 ∧ Hid (Drew w6 wr)) (fun i _ => n3 - (intOf i).toNat)
              case atStart => exact ⟨0, rfl, Nat.zero_le _, ⟨0, rfl⟩⟩
              case round =>
                obtain ⟨q, rfl, hq, HF⟩ := hrel
                by_cases hlq : q < n3
                · obtain ⟨g, off, rfl, -, hcell⟩ := R6.out.addr (by rw [L6.out]; omega)
                  obtain ⟨g2, off2, rfl, -, hcell2⟩ := RA.out.addr (by rw [L5.out]; omega)
                  have hc := (cell_heap HF.out.heap _).trans (hcell q (by rw [L6.out]; omega))
                  have hc2 := (cell_heap HF.out.heap _).trans (hcell2 q (by rw [L5.out]; omega))
                  have hor := HFt.out q hlq
                  generalize atP vb q = x at hc hor
                  generalize atP va q = y at hc2 hor
                  clear hcell hcell2
                  rcases hor with rfl | rfl
                  · go_wp2
                    go_quiet (fail)
                    go_wp2
                    go_roundw
                    case rel =>
                      refine ⟨q + 1, by go_num, by omega, ?_⟩
                      obtain ⟨d, e⟩ := HF.out
                      exact ⟨d + _, by rw [e, World.drewN_drewN]⟩
                    case measure => simp [intOf]; omega
                  · by_cases hx2 : x = 2
                    · subst hx2
                      go_wp2
                      go_quiet (fail)
                      go_wp2
                      go_roundw
                      case rel =>
                        refine ⟨q + 1, by go_num, by omega, ?_⟩
                        obtain ⟨d, e⟩ := HF.out
                        exact ⟨d + _, by rw [e, World.drewN_drewN]⟩
                      case measure => simp [intOf]; omega
                    · have hxb : (x != 2) = true := by simpa using hx2
                      have hxx : (x != x) = false := by simp
                      go_wp2
                      go_quiet (fail)
                      go_wp2
                      go_roundw
                      case rel =>
                        refine ⟨q + 1, by go_num, by omega, ?_⟩
                        obtain ⟨d, e⟩ := HF.out
                        exact ⟨d + _, by rw [e, World.drewN_drewN]⟩
                      case measure => simp [intOf]; omega
                · obtain rfl : q = n3 := by omega
                  have hend := hide (belowThen W6.out HF.out.below)
                  go_wp2
                  go_ret
                  exact ⟨rfl, hend.out⟩

theorem ternaryLess_any (c : CV) (sa : Option Addr) (sn sc : Nat) (zs : List Int) (ia : Option Addr) (inn ic : Nat) (xs : List Int) (ya : Option Addr) (yn yc : Nat) (ay : List Bool) (C : Circ) (w : World) (h : Came w c C) (hs : IsRow .i64 w sa sn sc zs) (hi : IsRow .i64 w ia inn ic xs) (hy : CameB w ya yn yc ay) :
    Calls Try.prog 12 #[c.v, .slice sa sn sc, .slice ia inn ic, .slice ya yn yc] w fun e w' => e = .returned (.bool true) ∧ Below w.heap.size w w' :=
  ternaryLess_came c sa sn sc _ ia inn ic _ ya yn yc ay C w h (cameI_of hs) hs.row.2.2.1 (cameI_of hi) hi.row.2.2.1 hy
end Go.Proofs.Ytmbbcghhdjpgeaa

namespace Go.Proofs.Ytmbbcghhdjpgeaa
open Go.ChangeShapes Go.WideShapes Go.ChangeAt Go.RowKit
open Go.ChangeMaps (open_string shut_string)
namespace ProofTernaryLess

set_option maxRecDepth 100000 in
theorem lifted (os : Os) (started : os.Started) (H : Type) (enc : TypeId × Value → H) :
    ReturnsInHanded {} Try.checked os 12 .any (Rows.ternaryLessSpec.pre6 enc Try.prog Try.f12 Rows.ternaryLessRow.domain false) (Rows.ternaryLessSpec.post enc Try.prog Try.f12 false true false false) := by
  refine returnsInHanded_of_change (C := Try.checked) own started (by kernel_rfl) Try.func12
    (ChangeSpec.witness6 (enc := enc) (C := Try.checked) false ⟨#[], #[.agg #[.int .i64 0, .slice none 0 0, .slice none 0 0, .slice none 0 0, .slice none 0 0, .slice none 0 0, .slice none 0 0, .slice none 0 0], .slice none 0 0, .slice none 0 0, .slice none 0 0], []⟩ 8 (by kernel_rfl) (by kernel_rfl) (by kernel_rfl) (by kernel_rfl)) ?_
  intro W base args ds gs before hval0 hW _ _
  have hval : ∀ (j : Nat) t v, Try.f12.params[j]? = some t → args[j]? = some v → Value.okWide Try.prog W .any base t v := hval0
  have hW' := hW
  obtain ⟨p, q, hA0, hV, rfl, hfz, hnd⟩ := hW
  have hA : DataW.TrodAll enc Try.prog W 0 (fun _ => true) true Try.f12.params.toList args.toList ds p := hA0
  rw [Try.params12] at hA hval
  obtain ⟨v0, vs0, d0, ds0, p0, q0, hargs, rfl, rfl, h0, r0⟩ := trodAll_cons hA
  obtain ⟨v1, vs1, d1, ds1, p1, q1, rfl, rfl, rfl, h1, r1⟩ := trodAll_cons r0
  obtain ⟨v2, vs2, d2, ds2, p2, q2, rfl, rfl, rfl, h2, r2⟩ := trodAll_cons r1
  obtain ⟨v3, vs3, d3, ds3, p3, q3, rfl, rfl, rfl, h3, r3⟩ := trodAll_cons r2
  obtain ⟨rfl, rfl, rfl⟩ := trodAll_nil r3
  obtain rfl : args = #[v0, v1, v2, v3] := by cases args; simp_all
  obtain ⟨rfl, rfl⟩ := trodVars_none hV
  have k0 := h0
  have lt0 : ∀ x ∈ p0, x.block < W.heap.size := by obtain ⟨m, hm⟩ := k0; exact DataW.trod_lt m _ _ _ hm
  obtain ⟨c0, C0, rfl, w0⟩ := open_circuit (hval 0 27 v0 rfl rfl) h0
  obtain ⟨a1, len1, cap1, rfl⟩ := okWide_slice Try.underlying22 (hval 1 22 v1 rfl rfl)
  have k1 := h1
  have lt1 : ∀ x ∈ p1, x.block < W.heap.size := by obtain ⟨m, hm⟩ := k1; exact DataW.trod_lt m _ _ _ hm
  obtain ⟨z1, w1⟩ : ∃ zs, IsRow .i64 W a1 len1 cap1 zs := by
    obtain ⟨fuel, hf⟩ := h1
    rcases open_ints Try.underlying22 Try.underlying3 (by kernel_rfl) hf with ⟨hcs, _⟩ | ⟨x, l, c, zs, hcs, _, hl, hm, hz, _, hcell, hwz⟩
    · simp [Value.cells] at hcs
      obtain ⟨rfl, rfl, rfl⟩ := hcs
      exact ⟨[], .inl ⟨rfl, rfl, rfl, rfl⟩⟩
    · simp [Value.cells] at hcs
      obtain ⟨rfl, rfl, rfl⟩ := hcs
      exact ⟨zs, .inr ⟨_, rfl, hl, hm, by simpa using hz, hcell, hwz⟩⟩
  obtain ⟨a2, len2, cap2, rfl⟩ := okWide_slice Try.underlying22 (hval 2 22 v2 rfl rfl)
  have k2 := h2
  have lt2 : ∀ x ∈ p2, x.block < W.heap.size := by obtain ⟨m, hm⟩ := k2; exact DataW.trod_lt m _ _ _ hm
  obtain ⟨z2, w2⟩ : ∃ zs, IsRow .i64 W a2 len2 cap2 zs := by
    obtain ⟨fuel, hf⟩ := h2
    rcases open_ints Try.underlying22 Try.underlying3 (by kernel_rfl) hf with ⟨hcs, _⟩ | ⟨x, l, c, zs, hcs, _, hl, hm, hz, _, hcell, hwz⟩
    · simp [Value.cells] at hcs
      obtain ⟨rfl, rfl, rfl⟩ := hcs
      exact ⟨[], .inl ⟨rfl, rfl, rfl, rfl⟩⟩
    · simp [Value.cells] at hcs
      obtain ⟨rfl, rfl, rfl⟩ := hcs
      exact ⟨zs, .inr ⟨_, rfl, hl, hm, by simpa using hz, hcell, hwz⟩⟩
  obtain ⟨a3, len3, cap3, rfl⟩ := okWide_slice Try.underlying28 (hval 3 28 v3 rfl rfl)
  have k3 := h3
  have lt3 : ∀ x ∈ p3, x.block < W.heap.size := by obtain ⟨m, hm⟩ := k3; exact DataW.trod_lt m _ _ _ hm
  obtain ⟨z3, w3⟩ := open_boolsC h3
  clear hA0 hval0
  refine (ternaryLess_any c0 a1 len1 cap1 z1 a2 len2 cap2 z2 a3 len3 cap3 z3 C0 W w0 w1 w2 w3 ).mono fun e W' ⟨he, bel⟩ => ?_
  subst he
  exact ⟨_, rfl, _, _, _, [], _, [], hW', trodAll_mk1 (shut_bool Try.underlying4 _), (trodAll_cons_mk (Below.trod laidOut (by kernel_rfl) (of_decide_eq_true (by kernel_rfl)) k0 bel lt0) (trodAll_cons_mk (Below.trod laidOut (by kernel_rfl) (of_decide_eq_true (by kernel_rfl)) k1 bel lt1) (trodAll_cons_mk (Below.trod laidOut (by kernel_rfl) (of_decide_eq_true (by kernel_rfl)) k2 bel lt2) (trodAll_cons_mk (Below.trod laidOut (by kernel_rfl) (of_decide_eq_true (by kernel_rfl)) k3 bel lt3) trodAll_mk0)))), rfl, bel.frame _, fun h => by cases h⟩

theorem row_holds : Rows.TernaryLessSaid :=
  OpenClaim.holds_of_wide 12 Try.f12 rfl rfl rfl rfl rfl rfl rfl ⟨rfl, rfl, rfl, rfl, rfl⟩ rfl rfl rfl rfl rfl (by kernel_rfl) Try.func12 (by kernel_rfl)
    (of_decide_eq_true (by kernel_rfl)) (by unfold Func.isWrapper; first | (rw [if_pos (by decide +kernel)]; kernel_rfl) | (rw [if_neg (by decide +kernel)]; exact ⟨rfl, rfl⟩))
    (fun os started H enc _ => lifted os started H enc)
end ProofTernaryLess

theorem ternaryLess_holds : Rows.TernaryLessSaid := ProofTernaryLess.row_holds
#print axioms ternaryLess_holds
end Go.Proofs.Ytmbbcghhdjpgeaa
