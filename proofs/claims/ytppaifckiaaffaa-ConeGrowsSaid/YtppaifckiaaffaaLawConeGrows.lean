/-
  THE WALK of the law ConeGrows.
-/
import Derived.Test.YtppaifckiaaffaaConeAl
import Derived.Test.YtppaifckiaaffaaWithin
namespace Go.Proofs.Ytppaifckiaaffaa
open Go.RowKit

theorem ofI_front {C : Circ} {L M : List Int} (h : C.ofI (L ++ M) = 0) : C.ofI L = 0 := by
  have hc := ofI_check h
  unfold Circ.ofI at h ⊢
  rw [if_neg (by rw [hc]; decide)] at h ⊢
  rw [List.all_append] at h
  cases hl : L.all C.litIs with
  | true => rfl
  | false => rw [hl] at h; cases h

/-- What a list is that was told: its variables are those that hang. -/
theorem cone_mem {C : Circ} {L xs : List Int} (h0 : C.ofI L = 0) (h : IsCone C L xs) : ∀ v : Nat, (v : Int) ∈ xs ↔ v < C.max.toNat + 1 ∧ C.Hang L v := by
  rcases h with ⟨h1, _⟩ | ⟨_, fd, hf, rfl⟩
  · exact absurd h0 h1
  · intro v
    rw [coneL_mem, hf.1]
    constructor
    · rintro ⟨a, b⟩
      exact ⟨a, (hf.2 v a).1 b⟩
    · rintro ⟨a, b⟩
      exact ⟨a, (hf.2 v a).2 b⟩
theorem cone_nat {C : Circ} {L xs : List Int} (h : IsCone C L xs) : ∀ x ∈ xs, ∃ v : Nat, x = v := by
  rcases h with ⟨_, rfl⟩ | ⟨_, fd, _, rfl⟩
  · intro x hx; cases hx
  · intro x hx
    unfold coneL coneK at hx
    obtain ⟨v, _, e⟩ := List.mem_map.1 hx
    exact ⟨v, e.symm⟩

/-- What is known of both lists. -/
structure Grown (C : Circ) (L xs ys : List Int) : Prop where
  lits : ∀ l ∈ L, 0 ≤ l ∧ (1 < l → (varN l : Int) ∈ xs) ∧ varN l ≤ 10000
  ands : ∀ k, k < C.ands.length → 0 ≤ (atP C.ands k).1 ∧ 0 ≤ (atP C.ands k).2.1 ∧ 0 ≤ (atP C.ands k).2.2 ∧ ((varN (atP C.ands k).1 : Int) ∈ xs → (1 < (atP C.ands k).2.1 → (varN (atP C.ands k).2.1 : Int) ∈ xs) ∧ (1 < (atP C.ands k).2.2 → (varN (atP C.ands k).2.2 : Int) ∈ xs))
  big : ∀ k, k < C.ands.length → varN (atP C.ands k).1 ≤ 10000 ∧ varN (atP C.ands k).2.1 ≤ 10000 ∧ varN (atP C.ands k).2.2 ≤ 10000
  all : inB xs ys = true
theorem grown_of {C : Circ} {L M xs ys : List Int} (h0 : C.ofI (L ++ M) = 0) (h : IsCone C L xs) (k : IsCone C (L ++ M) ys) : Grown C L xs ys := by
  have h1 := ofI_front h0
  have hR := right_of (ofI_check h0)
  have hlit : ∀ l ∈ L, C.litIs l = true := by
    have hh := h1
    unfold Circ.ofI at hh
    rw [if_neg (by rw [ofI_check h0]; decide)] at hh
    cases hl : L.all C.litIs with
    | true => exact fun l hm => List.all_eq_true.1 hl l hm
    | false => rw [hl] at hh; cases hh
  have hm := cone_mem h1 h
  have hmx := hR.small.max
  have hm0 := hR.lits.max
  refine ⟨fun l hl => ?_, fun i hi => ?_, fun i hi => ?_, ?_⟩
  · have hb := litIs_lt hR.lits.max (hlit l hl)
    exact ⟨hb.1, fun h2 => (hm _).2 ⟨hb.2, hang_lit hl (by unfold varN; omega)⟩, by have := hb.2; omega⟩
  · have o1 : C.On (varN (atP C.ands i).1) (atP C.ands i).2.1 := .inr ⟨i, hi, rfl, .inl rfl⟩
    have o2 : C.On (varN (atP C.ands i).1) (atP C.ands i).2.2 := .inr ⟨i, hi, rfl, .inr rfl⟩
    have e1 := lit_lt hR.lits (on_used o1)
    have e2 := lit_lt hR.lits (on_used o2)
    refine ⟨(own_lit hR.lits (made_and hi)).1, e1.1, e2.1, fun hx => ⟨fun h2 => ?_, fun h2 => ?_⟩⟩
    · exact (hm _).2 ⟨e1.2, hang_on ((hm _).1 hx).2 o1 (by unfold varN; omega)⟩
    · exact (hm _).2 ⟨e2.2, hang_on ((hm _).1 hx).2 o2 (by unfold varN; omega)⟩
  · have o1 : C.On (varN (atP C.ands i).1) (atP C.ands i).2.1 := .inr ⟨i, hi, rfl, .inl rfl⟩
    have o2 : C.On (varN (atP C.ands i).1) (atP C.ands i).2.2 := .inr ⟨i, hi, rfl, .inr rfl⟩
    have e0 := (own_lit hR.lits (made_and hi)).2
    have e1 := (lit_lt hR.lits (on_used o1)).2
    have e2 := (lit_lt hR.lits (on_used o2)).2
    omega
  · rw [inB_iff]
    intro x hx
    obtain ⟨v, rfl⟩ := cone_nat h x hx
    have hv := (hm v).1 hx
    exact (cone_mem h0 k v).2 ⟨hv.1, hang_mono hv.2 (fun l hl => List.mem_append_left _ hl)⟩

theorem row_one_at {w : World} {b : Nat} (hb : b = w.heap.size) (x : Int) : RowK .i64 (w.alloc (.cells #[.int .i64 x] 3)) (some ⟨b, 0, none⟩) [x] := rowK_of_C (xs := [x]) (.inr ⟨_, rfl, cell_one_at hb _ _⟩)
theorem inB_one {x : Int} {xs : List Int} : inB [x] xs = decide (x ∈ xs) := by unfold inB; simp

set_option maxRecDepth 100000 in
set_option maxHeartbeats 8000000 in
theorem coneGrows_any (c : CV) (la : Option Addr) (ln lc : Nat) (zs : List Int) (ma : Option Addr) (mn mc : Nat) (ws : List Int) (C : Circ) (w : World) (h : Came w c C) (hs : IsRow .i64 w la ln lc zs) (ht : IsRow .i64 w ma mn mc ws) :
    Calls Try.prog 13 #[c.v, .slice la ln lc, .slice ma mn mc] w fun e w' => e = .returned (.bool true) ∧ Below w.heap.size w w' := by
  obtain ⟨i0, hi, hz0, hz1, hz2⟩ := info_parts infoInt
  obtain ⟨r1, r2, r3, r4, r5, r6⟩ := hs.row
  obtain ⟨s1, s2, s3, s4, s5, s6⟩ := ht.row
  have HB := hide (box_new w c)
  have HC := hide h
  have HS := hide (And.intro r1 (And.intro r4 (i64_of r2)))
  have HM := hide (And.intro s1 (And.intro s4 (i64_of s2)))
  have HZ := hide (And.intro r3 s3)
  have HCV : Hid (c.v = .agg #[.int .i64 c.m, .slice c.a1 c.n1 c.c1, .slice c.a2 c.n2 c.c2, .slice c.a3 c.n3 c.c3, .slice c.a4 c.n4 c.c4, .slice c.a5 c.n5 c.c5, .slice c.a6 c.n6 c.c6, .slice c.a7 c.n7 c.c7]) := rfl
  have HBg := hide (fun W hb => big_any c C W ⟨h.holds.below hb, h.n1, h.n2, h.n3, h.n4, h.n5, h.n6, h.n7, h.m, h.names⟩)
  rw [HCV.out] at HBg ⊢
  have hln : ln ≤ 9223372036854775807 := by omega
  have hmn : mn ≤ 9223372036854775807 := by omega
  generalize zs.take ln = L at HS
  generalize ws.take mn = M at HM
  clear h hs ht r1 r2 r3 r4 r5 r6 s1 s2 s3 s4 s5 s6
  go_enter Try.func13, Try.ntmps13
  go_wp2_with fail
  refine (alive10_any _).mono ?_
  rintro e w1 ⟨rfl, hb1⟩
  have B1 := hide (HB.out.below hb1)
  have W1 := hide (belowThen (below_alloc w _) hb1)
  clear HB hb1
  obtain ⟨q0, q1, q2, q3, q4, q5, q6, q7⟩ := B1.out.cells
  go_wp2_with fail
  refine (HBg.out _ W1.out).mono ?_
  rintro e w2 ⟨rfl, hb2⟩
  have B2 := hide (B1.out.below hb2)
  have W2 := hide (belowThen W1.out hb2)
  clear B1 W1 hb2 HBg q0 q1 q2 q3 q4 q5 q6 q7
  cases hbig : C.bigB with
  | true =>
    have hend := hide W2.out
    go_wp2
    go_ret
    exact ⟨rfl, hend.out⟩
  | false =>
    have HF := hide (fits_of HC.out hbig)
    clear hbig
    by_cases hsn : (30 : Int) < (ln : Int)
    · have hend := hide W2.out
      go_wp2
      go_ret
      exact ⟨rfl, hend.out⟩
    · by_cases htn : (30 : Int) < (mn : Int)
      · have hend := hide W2.out
        go_wp2
        go_ret
        exact ⟨rfl, hend.out⟩
      · obtain ⟨q0, q1, q2, q3, q4, q5, q6, q7⟩ := B2.out.cells
        have hln' : ln ≤ 30 := by omega
        have hmn' : mn ≤ 30 := by omega
        have HT := hide (fun W (hb : Below w.heap.size w W) => (of_any c C W la ln lc L (HC.out.holds.below hb) HF.out (HS.out.1.below hb) HS.out.2.1 HS.out.2.2 (by omega)).mono (fun e w' => cone_rows))
        have HT2 := hide (fun W (hb : Below w.heap.size w W) a n k (hr : RowK .i64 W a (L ++ M)) (hn : (L ++ M).length = n) => (of_any c C W a n k (L ++ M) (HC.out.holds.below hb) HF.out hr hn (fun l hl => by rcases List.mem_append.1 hl with h | h; exact HS.out.2.2 l h; exact HM.out.2.2 l h) (by rw [← hn, List.length_append, HS.out.2.1, HM.out.2.1]; omega)).mono (fun e w' => cone_rows))
        obtain ⟨ck1, HK1⟩ : ∃ ck, Hid (ck = C.ofI L) := ⟨_, rfl⟩
        obtain ⟨ck2, HK2⟩ : ∃ ck, Hid (ck = C.ofI (L ++ M)) := ⟨_, rfl⟩
        rw [← HK1.out, HCV.out] at HT
        rw [← HK2.out, HCV.out] at HT2
        go_wp2_with fail
        refine (HT.out _ W2.out).mono ?_
        rintro e w3 ⟨a3, n3, k3, xs, rfl, hr3, hl3, hi3, hb3⟩
        have B3 := hide (B2.out.below hb3)
        have W3 := hide (belowThen W2.out hb3)
        have R3 := hide hr3
        have L3 := hide (And.intro hl3 hi3)
        have hw3 : w.heap.size ≤ w3.heap.size := (belowThen W2.out hb3).size
        clear B2 W2 hb3 hr3 hl3 hi3 HT q0 q1 q2 q3 q4 q5 q6 q7
        obtain ⟨q0, q1, q2, q3, q4, q5, q6, q7⟩ := B3.out.cells
        have HRL := hide (HS.out.1.below W3.out)
        go_upto_region 6 with fail
        go_cut [11, 12] from 41 to 49 (fun v11 v12 wx => ∃ a n k ys, v11 = .slice a n k ∧ v12 = .int .i64 ck2 ∧ Hid (RowK .i64 wx a ys ∧ ys.length = n ∧ IsCone C (L ++ M) ys ∧ Below w3.heap.size w3 wx))
        case first =>
          go_region_held3 (fun w' => w'.cell? ⟨w.heap.size, 0, none⟩ = some (.int .i64 c.m) ∧ w'.cell? ⟨w.heap.size, 1, none⟩ = some (.slice c.a1 c.n1 c.c1) ∧ w'.cell? ⟨w.heap.size, 2, none⟩ = some (.slice c.a2 c.n2 c.c2) ∧ w'.cell? ⟨w.heap.size, 3, none⟩ = some (.slice c.a3 c.n3 c.c3) ∧ w'.cell? ⟨w.heap.size, 4, none⟩ = some (.slice c.a4 c.n4 c.c4) ∧ w'.cell? ⟨w.heap.size, 5, none⟩ = some (.slice c.a5 c.n5 c.c5) ∧ w'.cell? ⟨w.heap.size, 6, none⟩ = some (.slice c.a6 c.n6 c.c6) ∧ w'.cell? ⟨w.heap.size, 7, none⟩ = some (.slice c.a7 c.n7 c.c7)) (first | with_reducible exact B6.out.cells | with_reducible exact B5.out.cells | with_reducible exact B4.out.cells | go_keep) (first | (refine step_append_row _ (by rfl) (.const (.slice none 0 0)) (.tmp 43) 22 (by rfl) .i64 w3.heap.size 3 i0 (.int .i64 0) 8 Try.underlying22 hi hz0 hz1 hz2 (by rfl) (.slice none 0 0) 0 [] (by simp [Act.eval]) (World.ownsRow_nil _ _ _ _) la ln lc L (by simp [Act.eval]) HS.out.2.1 (row_like HRL.out rfl) HZ.out.1 (by unfold maxLen; omega) (by omega) (by exact Nat.le_refl _) ?_; intro v4 w4 hown4 hg4; obtain ⟨a4, c4, rfl⟩ := own_form hown4; have hbl4 : Below w3.heap.size w3 w4 := below_like (Below.refl _ _) hg4 (Nat.le_refl _) (fun k hk => by simp [Value.ownBlock] at hk) ⟨rfl, rfl, rfl, rfl⟩; have hsz4 := hbl4.size; have HRM4 := hide (HM.out.1.below (belowThen W3.out hbl4)); have B4 := hide (B3.out.below hbl4); obtain ⟨p0, p1, p2, p3, p4, p5, p6, p7⟩ := B4.out.cells) | (refine step_append_row _ (by rfl) (.tmp 44) (.tmp 45) 22 (by rfl) .i64 w3.heap.size 3 i0 (.int .i64 0) 8 Try.underlying22 hi hz0 hz1 hz2 (by rfl) _ _ _ (by simp [Act.eval]) hown4 ma mn mc M (by simp [Act.eval]) HM.out.2.1 HRM4.out HZ.out.2 (by unfold maxLen; omega) (by omega) (by omega) ?_; intro v5 w5 hown5 hg5; obtain ⟨a5, c5, rfl⟩ := own_form hown5; have hbl5 : Below w3.heap.size w3 w5 := hbl4.grown hg5 hbl4.size (fun k hk => (hown4.lt k hk).1); have HR5 : Hid (RowK .i64 w5 a5 (L ++ M) ∧ (L ++ M).length = ln + mn) := (by have hlm : (L ++ M).length = ln + mn := (by rw [List.length_append, HS.out.2.1, HM.out.2.1]); rw [List.nil_append, ← List.map_append] at hown5; obtain ⟨a', c', e', hr', -⟩ := row_of_own hown5; cases e'; exact ⟨hr', hlm⟩); have B5 := hide (B3.out.below hbl5); obtain ⟨p0, p1, p2, p3, p4, p5, p6, p7⟩ := B5.out.cells) | (go_at_call 30; refine (HT2.out _ (belowThen W3.out hbl5) _ _ _ HR5.out.1 HR5.out.2).mono ?_; rintro e w6 ⟨a6, n6, k6, ys, rfl, hr6, hl6, hi6, hb6⟩; have B6 := hide (B5.out.below hb6)))
          all_goals (try go_wp2_with fail)
          all_goals go_meet
          all_goals exact ⟨a6, n6, k6, ys, rfl, rfl, hr6, hl6, hi6, belowThen hbl5 hb6⟩
        case rest =>
          obtain ⟨a6, n6, k6, ys, rfl, rfl, HR6⟩ := hcut
          rename World => wy
          have B6 := hide (B3.out.below HR6.out.2.2.2)
          have W6 := hide (belowThen W3.out HR6.out.2.2.2)
          have RX := hide (R3.out.below HR6.out.2.2.2)
          have hxl := isCone_len L3.out.2
          have hyl := isCone_len HR6.out.2.2.1
          have hn3 : n3 ≤ 10000 := by have := L3.out.1; omega
          have hn6 : n6 ≤ 10000 := by have := HR6.out.2.1; omega
          clear B3 W3 R3 HRL HT2 HZ hxl hyl q0 q1 q2 q3 q4 q5 q6 q7
          obtain ⟨q0, q1, q2, q3, q4, q5, q6, q7⟩ := B6.out.cells
          by_cases hc1 : ck1 = 0
          · subst hc1
            by_cases hc2 : ck2 = 0
            · subst hc2
              have HG := hide (grown_of HK2.out.symm L3.out.2 HR6.out.2.2.1)
              have HWi : Hid (∀ W a x cc, Below wy.heap.size wy W → RowK .i64 W a [x] → Calls Try.prog 38 #[.slice a 1 cc, .slice a3 n3 k3] W fun e w' => e = .returned (.bool (decide (x ∈ xs))) ∧ w' = W) := fun W a x cc hb hr => by
                have := within1_any a a3 1 cc n3 k3 [x] xs W hr rfl (RX.out.below hb) L3.out.1 (by decide) (by omega)
                rw [inB_one] at this
                exact this
              have HWe := hide (fun W (hb : Below wy.heap.size wy W) => within1_any a3 a6 n3 k3 n6 k6 xs ys W (RX.out.below hb) L3.out.1 (HR6.out.1.below hb) HR6.out.2.1 (by omega) (by omega))
              rw [HG.out.all] at HWe
              have HN6 : Hid (C.ands.length = c.n6) := HC.out.holds.l6
              have hn6b : c.n6 ≤ 2000 := by rw [← HN6.out]; exact (right_of (ofI_check HK2.out.symm)).small.ands
              have HRow6 : Hid (∀ W, Below wy.heap.size wy W → RowC W c.a6 (cellsT C.ands)) := fun W hb => HC.out.holds.r6.below (belowThen W6.out hb)
              have HRowL : Hid (∀ W, Below wy.heap.size wy W → RowK .i64 W la L) := fun W hb => HS.out.1.below (belowThen W6.out hb)
              have HLl : Hid (L.length = ln) := HS.out.2.1
              clear HK1 HK2 L3 HR6 HC HF HS HM HCV RX
              go_wp2_with (first | (go_at_call 32; refine (num10_any _ _).mono ?_; rintro e w' ⟨rfl, hw'⟩; obtain rfl := hw'.symm))
              go_loopw [13] (fun i wr => ∃ k : Nat, i = .int .i64 k ∧ k ≤ ln ∧ Hid (Below wy.heap.size wy wr)) (fun i _ => ln - (intOf i).toNat)
              case atStart => exact ⟨0, rfl, Nat.zero_le _, Below.refl _ _⟩
              case round =>
                obtain ⟨k, rfl, hk, HL⟩ := hrel
                clear q0 q1 q2 q3 q4 q5 q6 q7
                by_cases hlt : k < ln
                · obtain ⟨b, off, ha, hbw, hcell⟩ := (HRowL.out wr HL.out).addr (by rw [HLl.out]; omega)
                  subst ha
                  have hcl := hcell k (by rw [HLl.out]; exact hlt)
                  rw [atP_getD] at hcl
                  have hlg := HG.out.lits _ (atP_mem L k (by rw [HLl.out]; exact hlt))
                  generalize atP L k = l at hcl hlg
                  clear hcell
                  by_cases h1 : 1 < l
                  · have hq := tdiv_two hlg.1
                    have hmem : decide ((varN l : Int) ∈ xs) = true := decide_eq_true (hlg.2.1 h1)
                    have hvb := hlg.2.2
                    generalize varN l = v at hq hmem hvb
                    have HW1 := hide (HWi.out (wr.alloc (.cells #[.int .i64 (v : Int)] 3)) (some ⟨wr.heap.size, 0, none⟩) (v : Int) 1 (belowThen HL.out (below_alloc wr _)) (row_one_at rfl _))
                    rw [hmem] at HW1
                    clear hlg hmem
                    go_wp2_with (go_at_call 38; refine HW1.out.mono ?_; rintro e w' ⟨rfl, hw'⟩; obtain rfl := hw'.symm)
                    go_roundw
                    case rel => exact ⟨k + 1, by go_num, by omega, belowThen HL.out (below_alloc wr _)⟩
                    case measure => simp [intOf]; omega
                  · clear hlg
                    go_wp2
                    go_roundw
                    case rel => exact ⟨k + 1, by go_num, by omega, HL.out⟩
                    case measure => simp [intOf]; omega
                · obtain rfl : k = ln := by omega
                  go_wp2
                  rename World => w0r
                  go_loopw [14, 15] (fun i _ wr => ∃ k : Nat, i = .int .i64 k ∧ k ≤ c.n6 ∧ Hid (Below wy.heap.size wy wr)) (fun i _ _ => c.n6 - (intOf i).toNat)
                  case atStart => exact ⟨0, rfl, Nat.zero_le _, HL.out⟩
                  case round =>
                    clear HL
                    obtain ⟨k, rfl, hk, HL⟩ := hrel
                    have BX := hide (B6.out.below HL.out)
                    obtain ⟨q0, q1, q2, q3, q4, q5, q6, q7⟩ := BX.out.cells
                    by_cases hlt : k < c.n6
                    · obtain ⟨b, off, ha, hbw, hcell⟩ := (HRow6.out wr HL.out).addr (by rw [cellsT_len, HN6.out]; omega)
                      rw [ha] at q6
                      clear ha
                      have hat := cellsT_at C.ands k (by rw [HN6.out]; exact hlt)
                      have hx0 := ((Below.refl wr.heap.size wr).cell (p := ⟨b, off + k * 3, none⟩) hbw).trans (hcell _ _ hat.1)
                      have hx1 := ((Below.refl wr.heap.size wr).cell (p := ⟨b, off + k * 3 + 1, none⟩) hbw).trans (hcell _ _ hat.2.1)
                      have hx2 := ((Below.refl wr.heap.size wr).cell (p := ⟨b, off + k * 3 + 2, none⟩) hbw).trans (hcell _ _ hat.2.2)
                      have hg := HG.out.ands k (by rw [HN6.out]; exact hlt)
                      have hgb := HG.out.big k (by rw [HN6.out]; exact hlt)
                      generalize atP C.ands k = x at hx0 hx1 hx2 hg hgb
                      obtain ⟨x0, x1, x2⟩ := x
                      dsimp only at hx0 hx1 hx2 hg hgb
                      obtain ⟨hb0, hb1, hb2⟩ := hgb
                      have hq0 := tdiv_two hg.1
                      have hq1 := tdiv_two hg.2.1
                      have hq2 := tdiv_two hg.2.2.1
                      have hin := hg.2.2.2
                      clear hg hcell hat
                      have HA0 : Hid (∀ W b cc (v : Nat), b = W.heap.size → Below wy.heap.size wy W → Calls Try.prog 38 #[.slice (some ⟨b, 0, none⟩) 1 cc, .slice a3 n3 k3] (W.alloc (.cells #[.int .i64 (v : Int)] 3)) fun e w' => e = .returned (.bool (decide ((v : Int) ∈ xs))) ∧ w' = W.alloc (.cells #[.int .i64 (v : Int)] 3)) := fun W b cc v hb2 hb => HWi.out _ _ _ cc (belowThen hb (below_alloc W _)) (row_one_at hb2 _)
                      generalize varN x0 = v0 at hq0 hin hb0
                      generalize varN x1 = v1 at hq1 hin hb1
                      generalize varN x2 = v2 at hq2 hin hb2
                      have hb1w := belowThen HL.out (below_alloc wr (.cells #[.int .i64 x0, .int .i64 x1, .int .i64 x2] 46))
                      have HC1 := hide (HA0.out _ (wr.heap.size + 1) 1 v0 (by simp) hb1w)
                      have hb2w := belowThen hb1w (below_alloc _ (.cells #[.int .i64 (v0 : Int)] 3))
                      have HE1 := hide hb2w
                      cases h0 : decide ((v0 : Int) ∈ xs) with
                      | false =>
                        rw [h0] at HC1
                        clear h0 hin hb1w hb2w
                        go_wp2_with (go_at_call 38; refine HC1.out.mono ?_; rintro e w' ⟨rfl, hw'⟩; obtain rfl := hw'.symm)
                        go_roundw
                        case rel => exact ⟨k + 1, by go_num, by omega, HE1.out⟩
                        case measure => simp [intOf]; omega
                      | true =>
                        rw [h0] at HC1
                        have hin2 := hin (of_decide_eq_true h0)
                        by_cases hA : 1 < x1
                        · have HC2 := hide (HA0.out _ (wr.heap.size + 1 + 1) 1 v1 (by simp) hb2w)
                          rw [decide_eq_true (hin2.1 hA)] at HC2
                          have hb3w := belowThen hb2w (below_alloc _ (.cells #[.int .i64 (v1 : Int)] 3))
                          have HE2 := hide hb3w
                          by_cases hB : 1 < x2
                          · have HC3 := hide (HA0.out _ (wr.heap.size + 1 + 1 + 1) 1 v2 (by simp) hb3w)
                            rw [decide_eq_true (hin2.2 hB)] at HC3
                            have HE3 := hide (belowThen hb3w (below_alloc _ (.cells #[.int .i64 (v2 : Int)] 3)))
                            clear h0 hin hb1w hb2w hb3w hin2
                            go_wp2_with (first | (go_at_call 38; refine HC1.out.mono ?_; rintro e w' ⟨rfl, hw'⟩; obtain rfl := hw'.symm; clear HC1) | (go_at_call 38; refine HC2.out.mono ?_; rintro e w' ⟨rfl, hw'⟩; obtain rfl := hw'.symm; clear HC2) | (go_at_call 38; refine HC3.out.mono ?_; rintro e w' ⟨rfl, hw'⟩; obtain rfl := hw'.symm))
                            go_roundw
                            case rel => exact ⟨k + 1, by go_num, by omega, HE3.out⟩
                            case measure => simp [intOf]; omega
                          · clear h0 hin hb1w hb2w hb3w hin2
                            go_wp2_with (first | (go_at_call 38; refine HC1.out.mono ?_; rintro e w' ⟨rfl, hw'⟩; obtain rfl := hw'.symm; clear HC1) | (go_at_call 38; refine HC2.out.mono ?_; rintro e w' ⟨rfl, hw'⟩; obtain rfl := hw'.symm))
                            go_roundw
                            case rel => exact ⟨k + 1, by go_num, by omega, HE2.out⟩
                            case measure => simp [intOf]; omega
                        · by_cases hB : 1 < x2
                          · have HC3 := hide (HA0.out _ (wr.heap.size + 1 + 1) 1 v2 (by simp) hb2w)
                            rw [decide_eq_true (hin2.2 hB)] at HC3
                            have HE3 := hide (belowThen hb2w (below_alloc _ (.cells #[.int .i64 (v2 : Int)] 3)))
                            clear h0 hin hb1w hb2w hin2
                            go_wp2_with (first | (go_at_call 38; refine HC1.out.mono ?_; rintro e w' ⟨rfl, hw'⟩; obtain rfl := hw'.symm; clear HC1) | (go_at_call 38; refine HC3.out.mono ?_; rintro e w' ⟨rfl, hw'⟩; obtain rfl := hw'.symm))
                            go_roundw
                            case rel => exact ⟨k + 1, by go_num, by omega, HE3.out⟩
                            case measure => simp [intOf]; omega
                          · clear h0 hin hb1w hb2w hin2
                            go_wp2_with (first | (go_at_call 38; refine HC1.out.mono ?_; rintro e w' ⟨rfl, hw'⟩; obtain rfl := hw'.symm))
                            go_roundw
                            case rel => exact ⟨k + 1, by go_num, by omega, HE1.out⟩
                            case measure => simp [intOf]; omega
                    · obtain rfl : k = c.n6 := by omega
                      have HWx := hide (HWe.out wr HL.out)
                      have hend := hide (belowThen W6.out HL.out)
                      go_wp2_with (go_at_call 38; refine HWx.out.mono ?_; rintro e w' ⟨rfl, hw'⟩; obtain rfl := hw'.symm)
                      go_ret
                      exact ⟨rfl, hend.out⟩
            · have hc2b : (ck2 == 0) = false := by rw [beq_eq_false_iff_ne]; exact hc2
              have hend := hide W6.out
              go_wp2_with (first | (go_at_call 32; refine (num10_any _ _).mono ?_; rintro e w' ⟨rfl, hw'⟩; obtain rfl := hw'.symm))
              go_ret
              exact ⟨rfl, hend.out⟩
          · have hc1b : (ck1 == 0) = false := by rw [beq_eq_false_iff_ne]; exact hc1
            have hc2 : ¬ ck2 = 0 := fun h => hc1 (by rw [HK1.out]; exact ofI_front (by rw [← HK2.out]; exact h))
            have hc2b : (ck2 == 0) = false := by rw [beq_eq_false_iff_ne]; exact hc2
            have hend := hide W6.out
            go_wp2_with (first | (go_at_call 32; refine (num10_any _ _).mono ?_; rintro e w' ⟨rfl, hw'⟩; obtain rfl := hw'.symm))
            go_ret
            exact ⟨by first | (simp; done) | (simp [hc2]; done) | simp_all, hend.out⟩
end Go.Proofs.Ytppaifckiaaffaa
