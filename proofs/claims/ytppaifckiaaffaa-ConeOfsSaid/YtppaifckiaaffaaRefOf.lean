/-
  THE WALK of the reference's Of (layer 10).
-/
import Derived.Test.YtppaifckiaaffaaRefThere
namespace Go.Proofs.Ytppaifckiaaffaa
open Go.RowKit

theorem BMid.like {w0 wr w' : World} {c : CV} {g n : Nat} {bs : List Bool} (h : BMid w0 c g n bs wr) (e : w'.heap = wr.heap) (e2 : w'.os = wr.os ∧ w'.tape = wr.tape ∧ w'.output = wr.output) : BMid w0 c g n bs w' := h.then (below_same e e2)
/-- What a call of 'there' leaves as it is. -/
abbrev Kept9 (s b o : Nat) (l : Int) (c : CV) (w' : World) : Prop := w'.cell? ⟨b, o, none⟩ = some (.int .i64 l) ∧ w'.cell? ⟨s, 0, none⟩ = some (.int .i64 c.m) ∧ w'.cell? ⟨s, 1, none⟩ = some (.slice c.a1 c.n1 c.c1) ∧ w'.cell? ⟨s, 2, none⟩ = some (.slice c.a2 c.n2 c.c2) ∧ w'.cell? ⟨s, 3, none⟩ = some (.slice c.a3 c.n3 c.c3) ∧ w'.cell? ⟨s, 4, none⟩ = some (.slice c.a4 c.n4 c.c4) ∧ w'.cell? ⟨s, 5, none⟩ = some (.slice c.a5 c.n5 c.c5) ∧ w'.cell? ⟨s, 6, none⟩ = some (.slice c.a6 c.n6 c.c6) ∧ w'.cell? ⟨s, 7, none⟩ = some (.slice c.a7 c.n7 c.c7)
theorem Kept9.below {s b o : Nat} {l : Int} {c : CV} {w w' : World} (h : Kept9 s b o l c w) (hb : Below w.heap.size w w') : Kept9 s b o l c w' := by
  obtain ⟨h0, h1, h2, h3, h4, h5, h6, h7, h8⟩ := h
  have k : ∀ (a : Addr) v, w.cell? a = some v → w'.cell? a = some v := fun a v h => (hb.cell (block_lt_of_cell h)).trans h
  exact ⟨k _ _ h0, k _ _ h1, k _ _ h2, k _ _ h3, k _ _ h4, k _ _ h5, k _ _ h6, k _ _ h7, k _ _ h8⟩
theorem take_all {L : List Int} {m : Nat} (h : L.length = m) : L.take m = L := List.take_of_length_le (by rw [h]; exact Nat.le_refl _)
theorem rin_start (C : Circ) (n : Nat) : RIn C [] n (List.replicate n false) :=
  ⟨by simp, fun v hv _ h => (by rw [atP_replicate _ _ _ hv] at h; cases h), fun l hl => (by cases hl)⟩
theorem rin_lit {C : Circ} {L : List Int} {n : Nat} {bs : List Bool} {l : Int} (h : RIn C L n bs) (hv : varN l < n) : RIn C (L ++ [l]) n (bs.set (varN l) true) := by
  have hb := fun v => bSet (j := v) (x := true) (show varN l < bs.length by rw [h.len]; exact hv)
  refine ⟨by simpa using h.len, fun v hv2 h0 hf => ?_, fun m hm => ?_⟩
  · rw [hb v] at hf
    split at hf
    · rename_i e; subst e; exact hang_lit (List.mem_append_right _ List.mem_cons_self) h0
    · exact hang_mono (h.sound v hv2 h0 hf) (fun m hm => List.mem_append_left _ hm)
  · rw [hb]
    split
    · rfl
    · rename_i e
      rcases List.mem_append.1 hm with hm | hm
      · exact h.lits m hm
      · rw [List.mem_singleton] at hm; subst hm; exact absurd rfl e

set_option maxRecDepth 100000 in
set_option maxHeartbeats 16000000 in
theorem rOf_any (c : CV) (C : Circ) (w : World) (a : Option Addr) (m k0 : Nat) (L : List Int) (h : Holds w c C) (hck : ∀ W, Below w.heap.size w W → Calls Try.prog 19 #[c.v] W fun e w' => e = .returned (.int .i64 C.checkI) ∧ Below W.heap.size W w') (hr : RowK .i64 w a L) (hl : L.length = m) (hI : ∀ l ∈ L, I64 l) (hm : m ≤ 1000000) :
    Calls Try.prog 31 #[c.v, .slice a m k0] w (ConePost w C L) := by
  obtain ⟨i0, hi, hz0, hz1, hz2⟩ := info_parts infoBool
  obtain ⟨j0, hj, hy0, hy1, hy2⟩ := info_parts infoInt
  have HCk := hide hck
  have HB := hide (box_new w c)
  have HH := hide h
  have HRow := hide (And.intro hr (And.intro hl hI))
  generalize hP : ConePost w C L = Post
  have hbad : Hid (∀ r W, C.ofI L = r → r ≠ 0 → Below w.heap.size w W → Post (.returned (.tuple #[.slice none 0 0, .int .i64 r])) W) := fun r W hr hr0 hW => by rw [← hP]; exact ⟨hW, .inl ⟨by rw [hr]; exact hr0, by rw [hr]⟩⟩
  have HP := hide hP
  clear h hP hr hl hI hck
  have hcv : c.v = .agg #[.int .i64 c.m, .slice c.a1 c.n1 c.c1, .slice c.a2 c.n2 c.c2, .slice c.a3 c.n3 c.c3, .slice c.a4 c.n4 c.c4, .slice c.a5 c.n5 c.c5, .slice c.a6 c.n6 c.c6, .slice c.a7 c.n7 c.c7] := rfl
  rw [hcv] at HCk ⊢
  have HCV := hide hcv
  clear hcv
  go_enter Try.func31, Try.ntmps31
  go_wp2_with fail
  refine (HCk.out _ (below_alloc w _)).mono ?_
  rintro e w1 ⟨rfl, hb1⟩
  have HB1 := hide (HB.out.below hb1)
  have HW1 := hide (belowThen (below_alloc w _) hb1)
  obtain ⟨q0, q1, q2, q3, q4, q5, q6, q7⟩ := HB1.out.cells
  clear hb1 HCk HB
  by_cases hck : C.checkI = 0
  · have hR := right_of hck
    have HRt := hide hR
    have hm0 : 0 ≤ c.m := by rw [HH.out.m]; exact hR.lits.max
    have hm5 : c.m ≤ 5000 := by rw [HH.out.m]; exact hR.small.max
    have h1 : c.n1 ≤ 64 := by rw [← HH.out.l1]; exact hR.small.ins
    have h2 : c.n2 ≤ 64 := by rw [← HH.out.l2]; exact hR.small.lats
    have h6 : c.n6 ≤ 2000 := by rw [← HH.out.l6]; exact hR.small.ands
    obtain ⟨n, HN⟩ : ∃ n, Hid (n = C.max.toNat + 1) := ⟨_, rfl⟩
    have hnm : c.m + 1 = (n : Int) := by have := HN.out; rw [this, ← HH.out.m]; omega
    have hn0 : 0 < n := by omega
    have hn6 : n ≤ 6000 := by omega
    have hwr1 : IntKind.i64.wrap (2 * c.m) = 2 * c.m := by rw [IntKind.wrap_i64]; omega
    have hwr2 : IntKind.i64.wrap (2 * c.m + 1) = 2 * c.m + 1 := by rw [IntKind.wrap_i64]; omega
    have hof : Hid (C.ofI L = if L.all C.litIs then 0 else 1) := by show C.ofI L = _; unfold Circ.ofI; rw [if_neg (by rw [hck]; decide)]
    have HTh := hide (fun v W (hb : Below w.heap.size w W) (hv : v ≤ 100000) => there_any c C W v (HH.out.below hb) (by omega) (by omega) (by omega) hv)
    rw [HCV.out] at HTh
    have HOn : Hid (∀ v l, C.On v l → varN l < n) := fun v l hv => by rw [HN.out]; exact on_lt HRt.out.lits hv
    have HAn : Hid (∀ k, k < C.ands.length → (0 ≤ (atP C.ands k).1 ∧ varN (atP C.ands k).1 < n ∧ varN (atP C.ands k).1 ≠ 0) ∧ (0 ≤ (atP C.ands k).2.1 ∧ varN (atP C.ands k).2.1 < n ∧ C.On (varN (atP C.ands k).1) (atP C.ands k).2.1) ∧ 0 ≤ (atP C.ands k).2.2 ∧ varN (atP C.ands k).2.2 < n ∧ C.On (varN (atP C.ands k).1) (atP C.ands k).2.2) := fun k hk => by
      have o1 : C.On (varN (atP C.ands k).1) (atP C.ands k).2.1 := .inr ⟨k, hk, rfl, .inl rfl⟩
      have o2 : C.On (varN (atP C.ands k).1) (atP C.ands k).2.2 := .inr ⟨k, hk, rfl, .inr rfl⟩
      have e0 := HRt.out.lits.own _ (made_and hk)
      have e1 := own_lit HRt.out.lits (made_and hk)
      rw [← HN.out] at e1
      exact ⟨⟨e1.1, e1.2, by unfold varN; omega⟩, ⟨(lit_lt HRt.out.lits (on_used o1)).1, HOn.out _ _ o1, o1⟩, (lit_lt HRt.out.lits (on_used o2)).1, HOn.out _ _ o2, o2⟩
    have HLa : Hid (∀ k, k < C.lats.length → (0 ≤ (atP C.lats k).1 ∧ varN (atP C.lats k).1 < n ∧ varN (atP C.lats k).1 ≠ 0) ∧ (0 ≤ (atP C.lats k).2.1 ∧ varN (atP C.lats k).2.1 < n ∧ C.On (varN (atP C.lats k).1) (atP C.lats k).2.1)) := fun k hk => by
      have o1 : C.On (varN (atP C.lats k).1) (atP C.lats k).2.1 := .inl ⟨k, hk, rfl, rfl⟩
      have e0 := HRt.out.lits.own _ (made_lat hk)
      have e1 := own_lit HRt.out.lits (made_lat hk)
      rw [← HN.out] at e1
      exact ⟨⟨e1.1, e1.2, by unfold varN; omega⟩, (lit_lt HRt.out.lits (on_used o1)).1, HOn.out _ _ o1, o1⟩
    rw [hck]
    clear hck hR HCV
    have hsz1 := HW1.out.size
    go_wp2_with (first | (at_make; refine wpList_make_full _ rfl _ _ 86 rfl w1.heap.size 4 i0 (.bool false) 1 Try.underlying86 hi hz0 hz1 .i64 .i64 _ _ n rfl rfl (by first | rfl | omega) (by first | rfl | omega) (by rw [hz2]; omega) (by unfold maxLen; omega) (by simp) ?_; intro w2 hown hg2; rw [madeB] at hown; have HM0 : Hid (BMid w c w1.heap.size n (List.replicate n false) w2) := ⟨own_le hown HB1.out.lt, HW1.out.grown hg2 HW1.out.size (fun k hk => by cases hk), HB1.out.grown hg2 (by simp)⟩; clear hown hg2))
    generalize w1.heap.size = g at HM0 ⊢
    clear q0 q1 q2 q3 q4 q5 q6 q7 HB1 HW1
    go_loopw [8] (fun i wr => ∃ (k : Nat) (bs : List Bool), i = .int .i64 k ∧ k ≤ m ∧ Hid (BMid w c g n bs wr ∧ RIn C (L.take k) n bs ∧ ∀ j, j < k → C.litIs (atP L j) = true)) (fun i _ => m - (intOf i).toNat)
    case atStart => exact ⟨0, _, rfl, Nat.zero_le _, HM0.out, rin_start C n, fun j hj => absurd hj (Nat.not_lt_zero _)⟩
    case round =>
      clear HM0
      obtain ⟨k, bs, rfl, hk, HF⟩ := hrel
      obtain ⟨q0, q1, q2, q3, q4, q5, q6, q7⟩ := HF.out.1.box.cells
      by_cases hlt : k < m
      · obtain ⟨b, off, rfl, hbw, hcell⟩ := HRow.out.1.addr (by rw [HRow.out.2.1]; omega)
        have hcl := (HF.out.1.below.cell (p := ⟨b, off + k, none⟩) hbw).trans (hcell k (by rw [HRow.out.2.1]; exact hlt))
        rw [atP_getD] at hcl
        have hlI := HRow.out.2.2 _ (atP_mem L k (by rw [HRow.out.2.1]; exact hlt))
        have hst : L.take (k + 1) = L.take k ++ [atP L k] := take_snocP L k (by rw [HRow.out.2.1]; exact hlt)
        have hno : Hid (C.litIs (atP L k) = false → ∀ W, Below w.heap.size w W → Post (.returned (.tuple #[.slice none 0 0, .int .i64 1])) W) := fun hf W hW => hbad.out 1 W (by rw [hof.out, all_no (by rw [HRow.out.2.1]; exact hlt) hf]; rfl) (by decide) hW
        obtain ⟨l, HLx⟩ : ∃ l, Hid (l = atP L k) := ⟨_, rfl⟩
        rw [← HLx.out] at hcl hlI hst hno
        have HSt := hide hst
        have hl1 := hlI.1
        have hl2 := hlI.2
        have hsw := HF.out.1.below.size
        have hbwr : b < wr.heap.size := by omega
        clear hcell hst hlI
        by_cases hl0 : l < 0
        · have hd0 : decide (l < 0) = true := decide_eq_true hl0
          have hend := hide (hno.out (litIs_neg hl0))
          clear hno
          go_wp2
          go_quiet (fail)
          go_wp2
          exact hend.out _ (belowThen HF.out.1.below (Drew.below ⟨_, rfl⟩))
        · have hd0 : decide (l < 0) = false := decide_eq_false hl0
          have hq := tdiv_two (y := l) (by omega)
          by_cases hbig : 2 * c.m + 1 < l
          · have hd1 : decide (2 * c.m + 1 < l) = true := decide_eq_true hbig
            have hend := hide (hno.out (litIs_far HRt.out.lits.max (by rw [← HN.out]; unfold varN; omega)))
            clear hno hq
            go_wp2
            go_quiet (fail)
            go_wp2
            exact hend.out _ (belowThen HF.out.1.below (Drew.below ⟨_, rfl⟩))
          · have hd1 : decide (2 * c.m + 1 < l) = false := decide_eq_false hbig
            have hvn : varN l < n := by unfold varN; omega
            have his := litIs_in HRt.out.lits.max (l := l) (by omega) (by rw [← HN.out]; exact hvn)
            have hset := hide (rin_lit HF.out.2.1 hvn)
            have hzero : l ≤ 1 → varN l = 0 := fun h => by unfold varN; omega
            have hpos : 1 < l → varN l ≠ 0 := fun h => by unfold varN; omega
            obtain ⟨v, HV⟩ : ∃ v, Hid (v = varN l) := ⟨_, rfl⟩
            rw [← HV.out] at hq hvn his hset hzero hpos
            by_cases hone : 1 < l
            · have hd2 : decide (1 < l) = true := decide_eq_true hone
              have hv0 := hpos hone
              have hwv : IntKind.i64.wrap (v : Int) = (v : Int) := by rw [IntKind.wrap_i64]; omega
              have HDq : Hid (∀ q, Below w.heap.size w (wr.drewN q)) := fun q => belowThen HF.out.1.below (Drew.below ⟨q, rfl⟩)
              have hKp0 : Hid (Kept9 w.heap.size b (off + k) l c wr) := ⟨hcl, q0, q1, q2, q3, q4, q5, q6, q7⟩
              have hKp : Hid (∀ q, Kept9 w.heap.size b (off + k) l c (wr.drewN q)) := fun q => ⟨hcl, q0, q1, q2, q3, q4, q5, q6, q7⟩
              have HT1 : Hid (∀ W, Below w.heap.size w W → Calls Try.prog 60 #[.agg #[.int .i64 c.m, .slice c.a1 c.n1 c.c1, .slice c.a2 c.n2 c.c2, .slice c.a3 c.n3 c.c3, .slice c.a4 c.n4 c.c4, .slice c.a5 c.n5 c.c5, .slice c.a6 c.n6 c.c6, .slice c.a7 c.n7 c.c7], .int .i64 v] W fun e w' => e = .returned (.bool (C.litIs l)) ∧ Below W.heap.size W w') := fun W hb => by
                have h1 := HTh.out v W hb (by omega)
                rw [there_vars HRt.out.lits] at h1
                have his2 : C.litIs l = decide (v ∈ C.vars) := by
                  rw [his]
                  by_cases hv : v ∈ C.vars
                  · rw [decide_eq_true hv, decide_eq_true (.inr hv)]
                  · rw [decide_eq_false hv, decide_eq_false (fun h => by rcases h with h | h; exact hv0 h; exact hv h)]
                rw [his2]
                exact h1
              clear his hzero hpos
              cases hlit : C.litIs l with
              | false =>
                rw [hlit] at HT1
                have hend := hide (hno.out hlit)
                clear hno hlit
                go_wp2
                go_region_held3 (fun w' => w'.cell? ⟨b, off + k, none⟩ = some (.int .i64 l) ∧ w'.cell? ⟨w.heap.size, 0, none⟩ = some (.int .i64 c.m) ∧ w'.cell? ⟨w.heap.size, 1, none⟩ = some (.slice c.a1 c.n1 c.c1) ∧ w'.cell? ⟨w.heap.size, 2, none⟩ = some (.slice c.a2 c.n2 c.c2) ∧ w'.cell? ⟨w.heap.size, 3, none⟩ = some (.slice c.a3 c.n3 c.c3) ∧ w'.cell? ⟨w.heap.size, 4, none⟩ = some (.slice c.a4 c.n4 c.c4) ∧ w'.cell? ⟨w.heap.size, 5, none⟩ = some (.slice c.a5 c.n5 c.c5) ∧ w'.cell? ⟨w.heap.size, 6, none⟩ = some (.slice c.a6 c.n6 c.c6) ∧ w'.cell? ⟨w.heap.size, 7, none⟩ = some (.slice c.a7 c.n7 c.c7)) (first | with_reducible exact hKp.out _ | with_reducible exact Kept9.below (hKp.out _) hb5 | with_reducible exact hKp0.out | go_keep) (first | (go_at_call 60; refine (HT1.out _ (HDq.out _)).mono ?_; rintro e w5 ⟨rfl, hb5⟩))
                all_goals go_wp2
                all_goals exact hend.out _ (belowThen (HDq.out _) hb5)
              | true =>
                rw [hlit] at HT1
                have HLit := hide hlit
                clear hno hlit
                go_wp2
                go_region_held3 (fun w' => w'.cell? ⟨b, off + k, none⟩ = some (.int .i64 l) ∧ w'.cell? ⟨w.heap.size, 0, none⟩ = some (.int .i64 c.m) ∧ w'.cell? ⟨w.heap.size, 1, none⟩ = some (.slice c.a1 c.n1 c.c1) ∧ w'.cell? ⟨w.heap.size, 2, none⟩ = some (.slice c.a2 c.n2 c.c2) ∧ w'.cell? ⟨w.heap.size, 3, none⟩ = some (.slice c.a3 c.n3 c.c3) ∧ w'.cell? ⟨w.heap.size, 4, none⟩ = some (.slice c.a4 c.n4 c.c4) ∧ w'.cell? ⟨w.heap.size, 5, none⟩ = some (.slice c.a5 c.n5 c.c5) ∧ w'.cell? ⟨w.heap.size, 6, none⟩ = some (.slice c.a6 c.n6 c.c6) ∧ w'.cell? ⟨w.heap.size, 7, none⟩ = some (.slice c.a7 c.n7 c.c7)) (first | with_reducible exact hKp.out _ | with_reducible exact Kept9.below (hKp.out _) hb5 | with_reducible exact hKp0.out | go_keep) (first | (go_at_call 60; refine (HT1.out _ (HDq.out _)).mono ?_; rintro e w5 ⟨rfl, hb5⟩))
                have hb5w : Below wr.heap.size wr w5 := belowThen (Drew.below ⟨_, rfl⟩) hb5
                have HM5 := hide (HF.out.1.then hb5w)
                have hcl5 := (hb5w.cell (p := ⟨b, off + k, none⟩) hbwr).trans hcl
                have hcv5 := row_at HM5.out.own v hvn
                have hfz5 := HM5.out.own.frozenAt v
                clear hb5 hb5w
                go_wp2
                go_roundw
                case rel =>
                  refine ⟨k + 1, bs.set v true, by go_num, by omega, (HM5.out.set v).like (by rfl) ⟨by rfl, by rfl, by rfl⟩, by rw [HSt.out]; exact hset.out, fun j hj => ?_⟩
                  by_cases hjk : j < k
                  · exact HF.out.2.2 j hjk
                  · obtain rfl : j = k := by omega
                    rw [← HLx.out]; exact HLit.out
                case measure => simp [intOf]; omega
            · have hd2 : decide (1 < l) = false := decide_eq_false hone
              have hv0 := hzero (by omega)
              have HLit : Hid (C.litIs l = true) := by show _ = _; rw [his]; exact decide_eq_true (.inl hv0)
              have hcv := row_at HF.out.1.own v hvn
              have hfz := HF.out.1.own.frozenAt v
              clear his hno hzero hpos hv0
              go_wp2
              go_quiet (fail)
              go_wp2
              go_roundw
              case rel =>
                refine ⟨k + 1, bs.set v true, by go_num, by omega, (HF.out.1.set v).like (by rfl) ⟨by rfl, by rfl, by rfl⟩, by rw [HSt.out]; exact hset.out, fun j hj => ?_⟩
                by_cases hjk : j < k
                · exact HF.out.2.2 j hjk
                · obtain rfl : j = k := by omega
                  rw [← HLx.out]; exact HLit.out
              case measure => simp [intOf]; omega
      · obtain rfl : k = m := by omega
        have hall : L.all C.litIs = true := all_yes (fun j hj => HF.out.2.2 j (by rw [← HRow.out.2.1]; exact hj))
        have HOf : Hid (C.ofI L = 0) := by show _ = _; rw [hof.out, hall]; rfl
        have HLn : Hid (∀ l ∈ L, varN l < n) := fun l hl => by rw [HN.out]; exact (litIs_lt HRt.out.lits.max (List.all_eq_true.1 hall l hl)).2
        have HR1 := HF.out.2.1
        rw [take_all HRow.out.2.1] at HR1
        have HM1 := hide (And.intro HF.out.1 HR1)
        clear HF HR1 hbad hof hall HTh hlt hk
        clear q0 q1 q2 q3 q4 q5 q6 q7
        go_wp2
        go_loopg [9, 10, 11, 12, 13] (bs.count false + 1) (fun kx more _ _ _ _ wr => ∃ (bs : List Bool) (mb : Bool), more = .bool mb ∧ kx = bs.count false + (if mb then 1 else 0) ∧ Hid (BMid w c g n bs wr ∧ RIn C L n bs ∧ (mb = false → ∃ M, Swept C M bs false C.ands.length C.lats.length)))
        case atStart => exact ⟨bs, true, rfl, rfl, HM1.out.1, HM1.out.2, fun h => by cases h⟩
        case round =>
          clear HM1
          obtain ⟨bs, mb, rfl, hgk, HF⟩ := hrel
          subst hgk
          obtain ⟨q0, q1, q2, q3, q4, q5, q6, q7⟩ := HF.out.1.box.cells
          cases mb with
          | false =>
            have hfull : Hid (Full C L n (bs.set 0 false)) := by
              obtain ⟨M, hM⟩ := HF.out.2.2 rfl
              exact rin_full hn0 HF.out.2.1 hM HLn.out HOn.out
            have HM2 := hide HF.out.1
            clear HF
            go_wp2
            clear q0 q1 q2 q3 q4 q5 q6 q7
            go_loopw [14, 15] (fun v i wr => ∃ (k x : Nat), i = .int .i64 k ∧ 1 ≤ k ∧ k ≤ n ∧ x ≤ 10000 ∧ Hid (wr.ownsRow w.heap.size 3 1 v x ((coneK (bs.set 0 false) k).map (Value.int .i64)) ∧ BMid w c g n bs wr ∧ ∀ b, v.ownBlock = some b → b ≠ g ∧ b ≠ w.heap.size)) (fun _ i _ => n - (intOf i).toNat)
            case atStart =>
              refine ⟨1, 0, rfl, Nat.le_refl _, by omega, Nat.zero_le _, ?_, HM2.out, fun b hb => by simp [Value.ownBlock] at hb⟩
              have e := coneK_succ (bs.set 0 false) 0
              rw [bSet (by have := hfull.out.1; simp at this; omega), if_pos rfl] at e
              simp [coneK_zero] at e
              rw [show (1 : Nat) = 0 + 1 from rfl, e]
              exact World.ownsRow_nil _ _ _ _
            case round =>
              clear HM2
              obtain ⟨k, x, rfl, hk1, hk, hx, HF⟩ := hrel
              obtain ⟨q0, q1, q2, q3, q4, q5, q6, q7⟩ := HF.out.2.1.box.cells
              by_cases hlt : k < n
              · have hle : (k : Int) ≤ c.m := by omega
                have hcb := row_at HF.out.2.1.own k hlt
                have hst := coneK_succ (bs.set 0 false) k
                rw [bSet (by have := hfull.out.1; simp at this; omega), if_neg (show ¬ k = 0 by omega)] at hst
                have hxl : (coneK (bs.set 0 false) k).length = x := by have := HF.out.1.1; simpa using this
                have hkl := coneK_len (bs.set 0 false) k
                have hsz := HF.out.2.1.below.size
                have hbx := HF.out.2.1.box.lt
                cases hb : atP bs k with
                | false =>
                  rw [hb] at hcb hst
                  have HSt := hide hst
                  clear hb hst hxl hkl
                  go_wp2
                  go_roundw
                  case rel =>
                    have e := HSt.out
                    simp at e
                    exact ⟨k + 1, x, by go_num, by omega, by omega, hx, by rw [e]; exact HF.out.1, HF.out.2⟩
                  case measure => simp [intOf]; omega
                | true =>
                  rw [hb] at hcb hst
                  have HSt := hide hst
                  have hxk : x ≤ k := by omega
                  clear hb hst hxl hkl
                  go_wp2_with (at_builtin; refine wpList_append_own_at _ rfl (.tmp 160) (.tmp 162) 22 rfl w.heap.size 3 j0 (.int .i64 0) 1 8 Try.underlying22 hj hy0 hy1 hy2 rfl (by decide) _ _ _ rfl (HF.out.1.alloc _) ⟨wr.heap.size, 0, none⟩ 1 1 [.int .i64 (k : Int)] rfl rfl (cell_one_at rfl _ _) (by intro u hu; simp at hu; subst hu; rfl) (by unfold maxLen; omega) (by omega) (by simp; omega) ?_; intro v6 w6 hown6 hg6 _ hat6)
                  go_roundw
                  case rel =>
                    have e := HSt.out
                    simp at e
                    have hgl := (HF.out.2.1.own.lt g rfl).2
                    refine ⟨k + 1, x + 1, by go_num, by omega, by omega, by omega, by rw [e, List.map_append]; exact hown6, ⟨?_, ?_, ?_⟩, fun b hb => ?_⟩
                    · exact (HF.out.2.1.own.alloc _).kept hg6 (.inr (fun e2 => (HF.out.2.2 g e2.symm).1 rfl))
                    · exact (belowThen HF.out.2.1.below (below_alloc wr _)).grown hg6 (by simp; omega) (fun b hb => (HF.out.1.lt b hb).1)
                    · exact (HF.out.2.1.box.alloc _).grown hg6 (fun e2 => (HF.out.2.2 _ e2).2 rfl)
                    · rcases hat6 with h1 | h1
                      · rw [h1] at hb; exact HF.out.2.2 b hb
                      · rw [h1] at hb; have := Option.some.inj hb; simp at this; omega
                  case measure => simp [intOf]; omega
              · obtain rfl : k = n := by omega
                have hle : ¬ (k : Int) ≤ c.m := by omega
                obtain ⟨va, vk, rfl⟩ := own_form HF.out.1
                have hfin : Hid (Post (.returned (.tuple #[.slice va x vk, .int .i64 0])) wr) := by
                  show Post _ wr
                  rw [← HP.out]
                  have hlen : (bs.set 0 false).length = k := hfull.out.1
                  have e : coneL (bs.set 0 false) = coneK (bs.set 0 false) k := by unfold coneL; rw [hlen]
                  have hxl : (coneK (bs.set 0 false) k).length = x := by have := HF.out.1.1; simpa using this
                  refine ⟨HF.out.2.1.below, .inr ⟨HOf.out, bs.set 0 false, va, vk, by rw [← HN.out]; exact hfull.out, by rw [e, hxl], ?_, HF.out.2.1.below⟩⟩
                  rw [e, hxl]
                  exact HF.out.1
                go_wp2
                exact hfin.out
          | true =>
            obtain ⟨M, HMM⟩ : ∃ M, Hid (M = bs.count false) := ⟨_, rfl⟩
            have HM2 : Hid (BMid w c g n bs wr ∧ RIn C L n bs ∧ Swept C M bs false 0 0) := ⟨HF.out.1, HF.out.2.1, by rw [HMM.out]; exact ⟨Nat.le_refl _, (fun h => by cases h), fun _ => ⟨fun k hk => absurd hk (Nat.not_lt_zero _), fun k hk => absurd hk (Nat.not_lt_zero _)⟩⟩⟩
            clear HF
            go_wp2
            clear q0 q1 q2 q3 q4 q5 q6 q7
            rename World => w0r
            go_loopw [9, 10, 11] (fun more i _ wr => ∃ (k : Nat) (bs : List Bool) (mb : Bool), i = .int .i64 k ∧ k ≤ c.n6 ∧ more = .bool mb ∧ Hid (BMid w c g n bs wr ∧ RIn C L n bs ∧ Swept C M bs mb k 0)) (fun _ i _ _ => c.n6 - (intOf i).toNat)
            case atStart => exact ⟨0, bs, false, rfl, Nat.zero_le _, rfl, HM2.out⟩
            case round =>
              clear HM2
              obtain ⟨k, bs, mb, rfl, hk, rfl, HF⟩ := hrel
              obtain ⟨q0, q1, q2, q3, q4, q5, q6, q7⟩ := HF.out.1.box.cells
              by_cases hlt : k < c.n6
              · obtain ⟨b, off, ha, hbw, hcell⟩ := HH.out.r6.addr (by rw [cellsT_len, HH.out.l6]; omega)
                rw [ha] at q6
                clear ha
                have hat := cellsT_at C.ands k (by rw [HH.out.l6]; exact hlt)
                have hx0 := (HF.out.1.below.cell (p := ⟨b, off + k * 3, none⟩) hbw).trans (hcell _ _ hat.1)
                have hx1 := (HF.out.1.below.cell (p := ⟨b, off + k * 3 + 1, none⟩) hbw).trans (hcell _ _ hat.2.1)
                have hx2 := (HF.out.1.below.cell (p := ⟨b, off + k * 3 + 2, none⟩) hbw).trans (hcell _ _ hat.2.2)
                have hlo := HAn.out k (by rw [HH.out.l6]; exact hlt)
                have hswA := fun hk2 => swept_and HF.out.2.2 (ka := k) hk2
                generalize atP C.ands k = x at hx0 hx1 hx2 hlo hswA
                obtain ⟨x0, x1, x2⟩ := x
                dsimp only at hx0 hx1 hx2 hlo hswA
                have hq0 := tdiv_two hlo.1.1
                have hq1 := tdiv_two hlo.2.1.1
                have hq2 := tdiv_two hlo.2.2.1
                have hv0 := hlo.1.2.1
                have hv1 := hlo.2.1.2.1
                have hv2 := hlo.2.2.2.1
                have hHa : Hid (atP bs (varN x0) = true → (varN x1 ≠ 0 → C.Hang L (varN x1)) ∧ (varN x2 ≠ 0 → C.Hang L (varN x2))) := fun hb => ⟨fun h0 => hang_on (HF.out.2.1.sound _ hv0 hlo.1.2.2 hb) hlo.2.1.2.2 h0, fun h0 => hang_on (HF.out.2.1.sound _ hv0 hlo.1.2.2 hb) hlo.2.2.2.2 h0⟩
                have HA := hide hswA
                clear hlo hswA
                generalize varN x0 = v0 at hq0 hv0 hHa HA
                generalize varN x1 = v1 at hq1 hv1 hHa HA
                generalize varN x2 = v2 at hq2 hv2 hHa HA
                have HMA := hide (HF.out.1.then (below_alloc wr (.cells #[.int .i64 x0, .int .i64 x1, .int .i64 x2] 46)))
                have hcb0 := row_at HF.out.1.own v0 hv0
                have hcb1 := row_at HF.out.1.own v1 hv1
                have hcb2 := row_at HF.out.1.own v2 hv2
                have hf1 := HF.out.1.own.frozenAt v1
                have hf2 := HF.out.1.own.frozenAt v2
                have hgl := (HF.out.1.own.lt g rfl).2
                have hgne : g ≠ wr.heap.size := by omega
                clear hcell hat
                cases hb0 : atP bs v0 with
                | false =>
                  rw [hb0] at hcb0
                  have HE := hide hb0
                  clear hb0
                  generalize atP bs v1 = y1 at hcb1
                  generalize atP bs v2 = y2 at hcb2
                  go_wp2
                  go_roundw
                  case rel => exact ⟨k + 1, bs, mb, by go_num, by omega, rfl, HMA.out, HF.out.2.1, HA.out (fun h => by rw [HE.out] at h; cases h)⟩
                  case measure => simp [intOf]; omega
                | true =>
                  rw [hb0] at hcb0
                  have hhang := hide (hHa.out hb0)
                  by_cases hboth : atP bs v1 = true ∧ atP bs v2 = true
                  · have HE := hide hboth
                    rw [hboth.1] at hcb1
                    rw [hboth.2] at hcb2
                    clear hb0 hboth hHa
                    go_wp2
                    go_roundw
                    case rel => exact ⟨k + 1, bs, mb, by go_num, by omega, rfl, HMA.out, HF.out.2.1, HA.out (fun _ => HE.out)⟩
                    case measure => simp [intOf]; omega
                  · have hlt2 : Hid (((bs.set v1 true).set v2 true).count false < bs.count false) := cnt_set2 (by rw [HF.out.2.1.len]; exact hv1) (by rw [HF.out.2.1.len]; exact hv2) (by
                      cases h1 : atP bs v1 with
                      | false => exact .inl rfl
                      | true =>
                        cases h2 : atP bs v2 with
                        | false => exact .inr rfl
                        | true => exact absurd ⟨h1, h2⟩ hboth)
                    have hfin : Hid (BMid w c g n ((bs.set v1 true).set v2 true) (((wr.setCell ⟨g, v1, none⟩ (.bool true)).setCell ⟨g, v2, none⟩ (.bool true)).alloc (.cells #[.int .i64 x0, .int .i64 x1, .int .i64 x2] 46)) ∧ RIn C L n ((bs.set v1 true).set v2 true)) := ⟨((HF.out.1.set v1).set v2).then (below_alloc _ _), rin_set (rin_set HF.out.2.1 hv1 hhang.out.1) hv2 hhang.out.2⟩
                    obtain ⟨z2, hz2⟩ : ∃ z2, (wr.setCell ⟨g, v1, none⟩ (.bool true)).cell? ⟨g, v2, none⟩ = some z2 := ⟨_, row_at (HF.out.1.set v1).own v2 hv2⟩
                    clear hb0 hHa HA hhang
                    cases hb1 : atP bs v1 with
                    | false =>
                      rw [hb1] at hcb1
                      clear hb1 hboth
                      generalize atP bs v2 = y2 at hcb2
                      go_wp2
                      go_roundw
                      case rel => exact ⟨k + 1, _, true, by go_num, by omega, rfl, hfin.out.1, hfin.out.2, swept_new HF.out.2.2 hlt2.out⟩
                      case measure => simp [intOf]; omega
                    | true =>
                      have hb2 : atP bs v2 = false := by
                        cases h2 : atP bs v2 with
                        | false => rfl
                        | true => exact absurd ⟨hb1, h2⟩ hboth
                      rw [hb1] at hcb1
                      rw [hb2] at hcb2
                      clear hb1 hb2 hboth
                      go_wp2
                      go_roundw
                      case rel => exact ⟨k + 1, _, true, by go_num, by omega, rfl, hfin.out.1, hfin.out.2, swept_new HF.out.2.2 hlt2.out⟩
                      case measure => simp [intOf]; omega
              · obtain rfl : k = c.n6 := by omega
                have HM3 : Hid (BMid w c g n bs wr ∧ RIn C L n bs ∧ Swept C M bs mb C.ands.length 0) := by
                  have := HF.out
                  rw [← HH.out.l6] at this
                  exact this
                clear HF hlt hk
                go_wp2
                clear q0 q1 q2 q3 q4 q5 q6 q7
                go_loopw [9, 12, 13] (fun more i _ wr => ∃ (k : Nat) (bs : List Bool) (mb : Bool), i = .int .i64 k ∧ k ≤ c.n2 ∧ more = .bool mb ∧ Hid (BMid w c g n bs wr ∧ RIn C L n bs ∧ Swept C M bs mb C.ands.length k)) (fun _ i _ _ => c.n2 - (intOf i).toNat)
                case atStart => exact ⟨0, bs, mb, rfl, Nat.zero_le _, rfl, HM3.out⟩
                case round =>
                  clear HM3
                  obtain ⟨k, bs, mb, rfl, hk, rfl, HF⟩ := hrel
                  obtain ⟨q0, q1, q2, q3, q4, q5, q6, q7⟩ := HF.out.1.box.cells
                  by_cases hlt : k < c.n2
                  · obtain ⟨b, off, ha, hbw, hcell⟩ := HH.out.r2.addr (by rw [cellsT_len, HH.out.l2]; omega)
                    rw [ha] at q2
                    clear ha
                    have hat := cellsT_at C.lats k (by rw [HH.out.l2]; exact hlt)
                    have hx0 := (HF.out.1.below.cell (p := ⟨b, off + k * 3, none⟩) hbw).trans (hcell _ _ hat.1)
                    have hx1 := (HF.out.1.below.cell (p := ⟨b, off + k * 3 + 1, none⟩) hbw).trans (hcell _ _ hat.2.1)
                    have hx2 := (HF.out.1.below.cell (p := ⟨b, off + k * 3 + 2, none⟩) hbw).trans (hcell _ _ hat.2.2)
                    have hlo := HLa.out k (by rw [HH.out.l2]; exact hlt)
                    have hswA := fun hk2 => swept_lat HF.out.2.2 (kl := k) hk2
                    generalize atP C.lats k = x at hx0 hx1 hx2 hlo hswA
                    obtain ⟨x0, x1, x2⟩ := x
                    dsimp only at hx0 hx1 hx2 hlo hswA
                    have hq0 := tdiv_two hlo.1.1
                    have hq1 := tdiv_two hlo.2.1
                    have hv0 := hlo.1.2.1
                    have hv1 := hlo.2.2.1
                    have hHa : Hid (atP bs (varN x0) = true → (varN x1 ≠ 0 → C.Hang L (varN x1))) := fun hb h0 => hang_on (HF.out.2.1.sound _ hv0 hlo.1.2.2 hb) hlo.2.2.2 h0
                    have HA := hide hswA
                    clear hlo hswA
                    generalize varN x0 = v0 at hq0 hv0 hHa HA
                    generalize varN x1 = v1 at hq1 hv1 hHa HA
                    have HMA := hide (HF.out.1.then (below_alloc wr (.cells #[.int .i64 x0, .int .i64 x1, .int .i64 x2] 43)))
                    have hcb0 := row_at HF.out.1.own v0 hv0
                    have hcb1 := row_at HF.out.1.own v1 hv1
                    have hf1 := HF.out.1.own.frozenAt v1
                    have hgl := (HF.out.1.own.lt g rfl).2
                    have hgne : g ≠ wr.heap.size := by omega
                    clear hcell hat
                    cases hb0 : atP bs v0 with
                    | false =>
                      rw [hb0] at hcb0
                      have HE := hide hb0
                      clear hb0
                      generalize atP bs v1 = y1 at hcb1
                      go_wp2
                      go_roundw
                      case rel => exact ⟨k + 1, bs, mb, by go_num, by omega, rfl, HMA.out, HF.out.2.1, HA.out (fun h => by rw [HE.out] at h; cases h)⟩
                      case measure => simp [intOf]; omega
                    | true =>
                      rw [hb0] at hcb0
                      have hhang := hide (hHa.out hb0)
                      cases hb1 : atP bs v1 with
                      | true =>
                        rw [hb1] at hcb1
                        have HE := hide hb1
                        clear hb0 hb1 hHa
                        go_wp2
                        go_roundw
                        case rel => exact ⟨k + 1, bs, mb, by go_num, by omega, rfl, HMA.out, HF.out.2.1, HA.out (fun _ => HE.out)⟩
                        case measure => simp [intOf]; omega
                      | false =>
                        rw [hb1] at hcb1
                        have hlt2 : Hid ((bs.set v1 true).count false < bs.count false) := by
                          have := count_mark bs v1 (by rw [HF.out.2.1.len]; exact hv1) hb1
                          show _ < _
                          omega
                        have hfin : Hid (BMid w c g n (bs.set v1 true) ((wr.setCell ⟨g, v1, none⟩ (.bool true)).alloc (.cells #[.int .i64 x0, .int .i64 x1, .int .i64 x2] 43)) ∧ RIn C L n (bs.set v1 true)) := ⟨(HF.out.1.set v1).then (below_alloc _ _), rin_set HF.out.2.1 hv1 hhang.out⟩
                        clear hb0 hb1 hHa HA hhang
                        go_wp2
                        go_roundw
                        case rel => exact ⟨k + 1, _, true, by go_num, by omega, rfl, hfin.out.1, hfin.out.2, swept_new HF.out.2.2 hlt2.out⟩
                        case measure => simp [intOf]; omega
                  · obtain rfl : k = c.n2 := by omega
                    have HM4 : Hid (BMid w c g n bs wr ∧ RIn C L n bs ∧ Swept C M bs mb C.ands.length C.lats.length) := by
                      have := HF.out
                      rw [← HH.out.l2] at this
                      exact this
                    have hless : bs.count false + (if mb = true then 1 else 0) < M + 1 := by
                      have h1 := HM4.out.2.2.1
                      have h2 := HM4.out.2.2.2.1
                      cases mb with
                      | false => simp; omega
                      | true => have := h2 rfl; simp; omega
                    clear HF hlt hk
                    go_wp2
                    go_roundg (bs.count false + (if mb = true then 1 else 0))
                    case measure => rw [HMM.out] at hless; simpa using hless
                    case rel => exact ⟨bs, mb, rfl, rfl, HM4.out.1, HM4.out.2.1, fun hmb => ⟨M, by rw [hmb] at HM4; exact HM4.out.2.2⟩⟩
  · have hne : (C.checkI == 0) = false := by rw [beq_eq_false_iff_ne]; exact hck
    have hend := hide (hbad.out C.checkI w1 (by unfold Circ.ofI; rw [if_pos hck]) hck HW1.out)
    clear hbad
    generalize C.checkI = ck at hck hne hend ⊢
    go_wp2
    exact hend.out
end Go.Proofs.Ytppaifckiaaffaa
