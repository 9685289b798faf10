/-
  THE WALKS of known, variables and has of a reach, and of layer 10's Of.
-/
import Derived.Test.YtppaifckiaaffaaConeNew
import Derived.Test.YtppaifckiaaffaaAigCheck
namespace Go.Proofs.Ytppaifckiaaffaa
open Go.RowKit

section
variable {w0 B r pq gv n : Nat} {th : Nat → Bool} {ov : Nat → Value} {on : Nat → List Int} {fd : List Bool} {rv : Value} {xs : List Int} {w : World}

theorem litIs_neg {C : Circ} {l : Int} (h : l < 0) : C.litIs l = false := by
  unfold Circ.litIs
  rw [decide_eq_false (by omega)]; rfl
theorem litIs_far {C : Circ} (hm : 0 ≤ C.max) {l : Int} (h : C.max.toNat + 1 ≤ varN l) : C.litIs l = false := by
  unfold Circ.litIs
  unfold varN at h
  rw [decide_eq_false (p := l ≤ 2 * C.max + 1) (by omega)]; simp
theorem litIs_in {C : Circ} (hm : 0 ≤ C.max) {l : Int} (h0 : 0 ≤ l) (h : varN l < C.max.toNat + 1) : C.litIs l = decide (varN l = 0 ∨ varN l ∈ C.vars) := by
  unfold Circ.litIs
  rw [decide_eq_true h0, decide_eq_true (p := l ≤ 2 * C.max + 1) (by unfold varN at h; omega)]; simp
theorem all_no {xs : List Int} {f : Int → Bool} {k : Nat} (hk : k < xs.length) (h : f (atP xs k) = false) : xs.all f = false := by
  rw [List.all_eq_false]
  exact ⟨_, atP_mem xs k hk, by rw [h]; decide⟩
theorem all_yes {xs : List Int} {f : Int → Bool} (h : ∀ j, j < xs.length → f (atP xs j) = true) : xs.all f = true := by
  rw [List.all_eq_true]
  intro x hx
  obtain ⟨j, hj, rfl⟩ := List.getElem_of_mem hx
  have := h j hj
  rwa [atP_eq xs j hj] at this

set_option maxRecDepth 100000 in
set_option maxHeartbeats 1000000 in
theorem rKnown_any {C : Circ} (hm0 : 0 ≤ C.max) (hm5 : C.max ≤ 5000) (hnC : n = C.max.toNat + 1) (hth : ∀ v, v < n → th v = decide (v = 0 ∨ v ∈ C.vars)) (h : RM w0 B r pq gv n th ov on fd rv xs w) (a : Option Addr) (m c : Nat) (L : List Int) (hr : RowK .i64 w a L) (hl : L.length = m) (hI : ∀ l ∈ L, I64 l) (hm : m ≤ 1000000) :
    Calls Try.prog 57 #[.pointer (some ⟨r, 0, none⟩), .slice a m c] w fun e w' => e = .returned (.bool (L.all C.litIs)) ∧ w' = w := by
  have hc0 := h.c0
  have HR := hide h
  have HRow := hide hr
  have HLl := hide hl
  have HT := hide hth
  have HN := hide hnC
  have hn : n ≤ 6000 := by omega
  have HM := hide hm0
  have HI := hide hI
  generalize hP : (fun (e : Ending) (w' : World) => e = .returned (.bool (L.all C.litIs)) ∧ w' = w) = Post
  have HP := hide hP
  have hno : Hid (∀ k, k < m → C.litIs (atP L k) = false → Post (.returned (.bool false)) w) := fun k hk hf => by
    rw [← hP]; exact ⟨by rw [all_no (by rw [hl]; exact hk) hf], rfl⟩
  have hyes : Hid ((∀ k, k < m → C.litIs (atP L k) = true) → Post (.returned (.bool true)) w) := fun hf => by
    rw [← hP]; exact ⟨by rw [all_yes (fun j hj => hf j (by rw [← hl]; exact hj))], rfl⟩
  clear h hr hl hth hnC hm0 hP hI
  go_enter Try.func57, Try.ntmps57
  go_wp2
  go_loop [6, 9] (fun _ i => ∃ k : Nat, i = .int .i64 k ∧ k ≤ m ∧ Hid (∀ j, j < k → C.litIs (atP L j) = true)) (fun _ i => m - (intOf i).toNat)
  case atStart => exact ⟨0, rfl, Nat.zero_le _, fun j hj => absurd hj (Nat.not_lt_zero _)⟩
  case round =>
    obtain ⟨k, rfl, hk, HF⟩ := hrel
    by_cases hlt : k < m
    · obtain ⟨b, off, rfl, -, hcell⟩ := HRow.out.addr (by rw [HLl.out]; omega)
      have hcl := hcell k (by rw [HLl.out]; exact hlt)
      rw [atP_getD] at hcl
      have hnk := hide (hno.out k hlt)
      have hlI := (HI.out _ (atP_mem L k (by rw [HLl.out]; exact hlt))).2
      obtain ⟨l, HLx⟩ : ∃ l, Hid (l = atP L k) := ⟨_, rfl⟩
      rw [← HLx.out] at hcl hnk hlI
      clear hcell
      by_cases h0 : l < 0
      · have hend := hide (hnk.out (litIs_neg h0))
        clear hnk
        go_wp2
        exact hend.out
      · have hq := tdiv_two (y := l) (by omega)
        have hvb : varN l ≤ 4611686018427387904 := by unfold varN; omega
        obtain ⟨v, HV⟩ : ∃ v, Hid (v = varN l) := ⟨_, rfl⟩
        rw [← HV.out] at hq hvb
        by_cases hvn : v < n
        · have hct := HR.out.ct v hvn
          have his := litIs_in HM.out (l := l) (by omega) (by rw [← HV.out, ← HN.out]; exact hvn)
          rw [← HV.out, ← HT.out v hvn] at his
          have hvn' : ¬ (n : Int) ≤ (v : Int) := by omega
          cases ht : th v with
          | false =>
            rw [ht] at hct his
            have hend := hide (hnk.out his)
            clear hnk his ht
            go_wp2
            exact hend.out
          | true =>
            rw [ht] at hct his
            have HIs := hide his
            clear hnk his ht
            go_wp2
            go_round
            case rel =>
              refine ⟨k + 1, by go_num, by omega, fun j hj => ?_⟩
              by_cases hjk : j < k
              · exact HF.out j hjk
              · obtain rfl : j = k := by omega
                rw [← HLx.out]; exact HIs.out
            case measure => simp [intOf]; omega
        · have hvn' : (n : Int) ≤ (v : Int) := by omega
          have hvn2 : n ≤ v := by omega
          have hend := hide (hnk.out (litIs_far HM.out (by rw [← HV.out, ← HN.out]; omega)))
          clear hnk
          go_wp2
          exact hend.out
    · obtain rfl : k = m := by omega
      have hend := hide (hyes.out HF.out)
      clear hno hyes
      go_wp2
      exact hend.out

set_option maxHeartbeats 400000 in
theorem rHas_any (h : RM w0 B r pq gv n th ov on fd rv xs w) (l : Int) (hl : 0 ≤ l) (hv : varN l < n) (hn : n ≤ 10000) :
    Calls Try.prog 62 #[.pointer (some ⟨r, 0, none⟩), .int .i64 l] w fun e w' => e = .returned (.bool (atP fd (varN l))) ∧ w' = w := by
  have hc0 := h.c0
  have hcf := h.cf _ hv
  have hq := tdiv_two hl
  generalize varN l = v at hv hcf hq ⊢
  generalize atP fd v = x at hcf ⊢
  clear h
  go_enter Try.func62, Try.ntmps62
  go_wp2
  go_ret
  exact ⟨rfl, rfl⟩

set_option maxRecDepth 100000 in
set_option maxHeartbeats 1000000 in
theorem variables10_any (h : RM w0 B r pq gv n th ov on fd rv xs w) (hn : n ≤ 10000) :
    Calls Try.prog 59 #[.pointer (some ⟨r, 0, none⟩)] w fun e w' => ∃ v, e = .returned v ∧ NewInts w (coneL fd) v w' := by
  obtain ⟨i0, hi, hz0, hz1, hz2⟩ := info_parts infoInt
  have hc0 := h.c0
  have HR := hide h
  generalize hP : (fun (e : Ending) (w' : World) => ∃ v, e = .returned v ∧ NewInts w (coneL fd) v w') = Post
  have HP := hide hP
  clear h hP
  go_enter Try.func59, Try.ntmps59
  go_wp2
  go_loopw [3, 4, 5, 11] (fun v _ _ i wr => ∃ (k m : Nat), i = .int .i64 k ∧ k ≤ n ∧ m ≤ 10000 ∧ Hid (wr.ownsRow w.heap.size 3 1 v m ((coneK fd k).map (Value.int .i64)) ∧ Below w.heap.size w wr)) (fun _ _ _ i _ => n - (intOf i).toNat)
  case atStart => exact ⟨0, 0, rfl, Nat.zero_le _, Nat.zero_le _, World.ownsRow_nil _ _ _ _, Below.refl _ _⟩
  case round =>
    obtain ⟨k, m, rfl, hk, hm, HF⟩ := hrel
    by_cases hlt : k < n
    · have HRW := hide (HR.out.below HF.out.2)
      have h0 := HRW.out.ct k hlt
      have h1 := HRW.out.cf k hlt
      have h2 := HRW.out.co k hlt
      obtain ⟨oa, ok, hov, -⟩ := HRW.out.rows k hlt
      rw [hov] at h2
      have hsz := HF.out.2.size
      have hst := coneK_succ fd k
      have hml : (coneK fd k).length = m := by have := HF.out.1.1; simpa using this
      have hkl := coneK_len fd k
      generalize (on k).length = ol at h2 hov
      generalize th k = t0 at h0
      clear hov
      cases hf : atP fd k with
      | false =>
        rw [hf] at h1 hst
        have HSt := hide hst
        clear hf hst hml hkl
        go_wp2
        go_roundw
        case rel =>
          have e := HSt.out
          simp at e
          exact ⟨k + 1, m, by go_num, by omega, hm, by rw [e]; exact HF.out.1.alloc _, belowThen HF.out.2 (below_alloc wr _)⟩
        case measure => simp [intOf]; omega
      | true =>
        rw [hf] at h1 hst
        have HSt := hide hst
        have hmk : m ≤ k := by omega
        clear hf hst hml hkl
        go_wp2_with (at_builtin; refine wpList_append_own _ rfl (.tmp 18) (.tmp 20) 22 rfl w.heap.size 3 i0 (.int .i64 0) 1 8 Try.underlying22 hi hz0 hz1 hz2 rfl (by decide) _ _ _ rfl ((HF.out.1.alloc _).alloc _) ⟨wr.heap.size + 1, 0, none⟩ 1 1 [.int .i64 (k : Int)] rfl rfl (cell_one_at (by simp) _ _) (by intro u hu; simp at hu; subst hu; rfl) (by unfold maxLen; omega) (by omega) (by simp; omega) ?_; intro v6 w6 hown6 hg6 _)
        go_roundw
        case rel =>
          have e := HSt.out
          simp at e
          refine ⟨k + 1, m + 1, by go_num, by omega, by omega, ?_, ?_⟩
          · rw [e, List.map_append]; exact hown6
          · exact (belowThen HF.out.2 (below_two wr _ _)).grown hg6 (by simp; omega) (fun b hb => (HF.out.1.lt b hb).1)
        case measure => simp [intOf]; omega
    · obtain rfl : k = n := by omega
      have hfin : Hid (Post (.returned u3) wr) := by
        show Post _ wr
        rw [← HP.out]
        have e : coneL fd = coneK fd k := by unfold coneL; rw [HR.out.len]
        refine ⟨u3, rfl, ?_, HF.out.2⟩
        have hl : (coneK fd k).length = m := by have := HF.out.1.1; simpa using this
        rw [e, hl]
        exact HF.out.1
      go_wp2
      exact hfin.out
end

/-- WHAT Of TELLS. -/
def ConePost (w : World) (C : Circ) (L : List Int) (e : Ending) (w' : World) : Prop :=
  Below w.heap.size w w' ∧ ((C.ofI L ≠ 0 ∧ e = .returned (.tuple #[.slice none 0 0, .int .i64 (C.ofI L)])) ∨
    (C.ofI L = 0 ∧ ∃ fd a k, Full C L (C.max.toNat + 1) fd ∧ e = .returned (.tuple #[.slice a (coneL fd).length k, .int .i64 0]) ∧ NewInts w (coneL fd) (.slice a (coneL fd).length k) w'))

theorem litIs_lt {C : Circ} {l : Int} (hm : 0 ≤ C.max) (h : C.litIs l = true) : 0 ≤ l ∧ varN l < C.max.toNat + 1 := by
  unfold Circ.litIs at h
  simp only [Bool.and_eq_true, decide_eq_true_eq] at h
  have h1 := h.1
  have h2 := h.2.1
  unfold varN
  omega

set_option maxRecDepth 100000 in
set_option maxHeartbeats 2000000 in
theorem of_any (c : CV) (C : Circ) (w : World) (a : Option Addr) (m k0 : Nat) (L : List Int) (h : Holds w c C) (hf : Fits c C) (hr : RowK .i64 w a L) (hl : L.length = m) (hI : ∀ l ∈ L, I64 l) (hm : m ≤ 1000000) :
    Calls Try.prog 30 #[c.v, .slice a m k0] w (ConePost w C L) := by
  have HCk := hide (fun W (hb : Below w.heap.size w W) => check_any c C W (h.below hb) hf)
  have HNR := hide (fun (hR : Right C) W (hb : Below w.heap.size w W) => newReach_any c C W (h.below hb) hR)
  have HB := hide (box_new w c)
  have HRow := hide (And.intro hr hl)
  generalize hP : ConePost w C L = Post
  have hbad : Hid (∀ r W, C.ofI L = r → r ≠ 0 → Below w.heap.size w W → Post (.returned (.tuple #[.slice none 0 0, .int .i64 r])) W) := fun r W hr hr0 hW => by rw [← hP]; exact ⟨hW, .inl ⟨by rw [hr]; exact hr0, by rw [hr]⟩⟩
  have HP := hide hP
  clear h hf hP hr hl
  have hcv : c.v = .agg #[.int .i64 c.m, .slice c.a1 c.n1 c.c1, .slice c.a2 c.n2 c.c2, .slice c.a3 c.n3 c.c3, .slice c.a4 c.n4 c.c4, .slice c.a5 c.n5 c.c5, .slice c.a6 c.n6 c.c6, .slice c.a7 c.n7 c.c7] := rfl
  rw [hcv] at HCk HNR ⊢
  clear hcv
  go_enter Try.func30, Try.ntmps30
  go_wp2_with fail
  refine (HCk.out _ (below_alloc w _)).mono ?_
  rintro e w1 ⟨rfl, hb1⟩
  have HB1 := hide (HB.out.below hb1)
  have HW1 := hide (belowThen (below_alloc w _) hb1)
  obtain ⟨q0, q1, q2, q3, q4, q5, q6, q7⟩ := HB1.out.cells
  clear hb1 HCk HB
  by_cases hck : C.checkI = 0
  · have hR := right_of hck
    have hckb : (C.checkI == 0) = true := by rw [hck]; rfl
    have hof : Hid (C.ofI L = if L.all C.litIs then 0 else 1) := by show C.ofI L = _; unfold Circ.ofI; rw [if_neg (by rw [hck]; decide)]
    have HN1 := hide (HNR.out hR w1 HW1.out)
    have HRt := hide hR
    rw [hck]
    clear hck hR HNR hckb
    go_wp2_with fail
    refine HN1.out.mono ?_
    rintro e w2 ⟨r, pq, gv, th, ov, on, rfl, hrm, hb2, hth, hon, hlo⟩
    have HRM := hide hrm
    have HW2 := hide (belowThen HW1.out hb2)
    have HTO := hide (And.intro hth (And.intro hon hlo))
    have hlt := hrm.lt
    have hs2 := HW1.out.size
    have HAp : Hid (Apart w2.heap.size pq gv L a) := by
      have h1 := apart_of (B := w2.heap.size) (pq := pq) (gv := gv) HRow.out.1 HW2.out.size (by omega) (by omega)
      exact h1
    have HKn := hide (rKnown_any HRt.out.lits.max HRt.out.small.max rfl hth hrm a m k0 L (HRow.out.1.below HW2.out) HRow.out.2 hI hm)
    clear hrm hb2 hth hon hlo hlt HN1 q0 q1 q2 q3 q4 q5 q6 q7
    go_wp2_with fail
    refine HKn.out.mono ?_
    rintro e w3 ⟨rfl, hw3⟩
    obtain rfl := hw3.symm
    cases hall : L.all C.litIs with
    | false =>
      have hend := hide (hbad.out 1 w2 (by rw [hof.out, hall]; rfl) (by decide) HW2.out)
      clear hbad HKn hall
      go_wp2
      exact hend.out
    | true =>
      have hlit : Hid (∀ l ∈ L, 0 ≤ l ∧ varN l < C.max.toNat + 1) := fun l hl => litIs_lt HRt.out.lits.max (List.all_eq_true.1 hall l hl)
      have HFA := hide (findAll_any (L0 := []) HRt.out.lits rfl HRt.out.small.max HTO.out.2.1 HTO.out.2.2 (full_none C _) (fun l hl => by cases hl) HRM.out a m k0 L (HRow.out.1.below HW2.out) HRow.out.2 HAp.out hlit.out hm)
      have hok : Hid (C.ofI L = 0) := by show C.ofI L = 0; rw [hof.out, hall]; rfl
      clear hbad HKn hall hof
      go_wp2_with fail
      refine HFA.out.mono ?_
      rintro e w4 ⟨rfl, rv4, fd4, hrm4, hfull, hkp, -⟩
      have HF4 := hide hfull
      have hn6 : C.max.toNat + 1 ≤ 10000 := by have := HRt.out.small.max; omega
      have HVr := hide (variables10_any hrm4 hn6)
      have HW4 : Hid (Below w.heap.size w w4) := by
        have hlt := HRM.out.lt
        have hsz := HW1.out.size
        refine hkp.below HW2.out HW2.out.size (fun b hb => ?_)
        rcases hb with e | e | e
        · omega
        · omega
        · simp [Value.ownBlock] at e
      clear hrm4 hfull hkp HFA
      go_wp2_with fail
      refine HVr.out.mono ?_
      rintro e w5 ⟨v, rfl, hv⟩
      obtain ⟨va, vk, rfl⟩ := own_form hv.1
      have hend : Hid (Post (.returned (.tuple #[.slice va (coneL fd4).length vk, .int .i64 0])) w5) := by
        show Post _ w5
        rw [← HP.out]
        exact ⟨belowThen HW4.out hv.2, .inr ⟨hok.out, fd4, va, vk, by have := HF4.out; rwa [List.nil_append] at this, rfl, own_le hv.1 HW4.out.size, belowThen HW4.out hv.2⟩⟩
      clear hv HVr
      generalize (coneL fd4).length = len at hend ⊢
      go_wp2
      exact hend.out
  · have hne : (C.checkI == 0) = false := by rw [beq_eq_false_iff_ne]; exact hck
    have hend := hide (hbad.out C.checkI w1 (by unfold Circ.ofI; rw [if_pos hck]) hck HW1.out)
    clear hbad HNR
    generalize C.checkI = ck at hck hne hend ⊢
    go_wp2
    exact hend.out
end Go.Proofs.Ytppaifckiaaffaa
