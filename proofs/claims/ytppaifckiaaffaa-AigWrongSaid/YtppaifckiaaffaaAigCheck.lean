/-
  THE WALK of layer 4's Order and Check.
-/
import Derived.Test.YtppaifckiaaffaaAigInTurn
import Derived.Test.YtppaifckiaaffaaAigLits
import Derived.Test.YtppaifckiaaffaaAigNames
import Derived.Test.YtppaifckiaaffaaAigTwice
namespace Go.Proofs.Ytppaifckiaaffaa
open Go.RowKit

/-- What is asked of a circuit that comes in. -/
structure Fits (c : CV) (C : Circ) : Prop where
  n1 : c.n1 ≤ 281474976710656
  n2 : c.n2 ≤ 281474976710656
  n3 : c.n3 ≤ 281474976710656
  n4 : c.n4 ≤ 281474976710656
  n5 : c.n5 ≤ 281474976710656
  m : -9223372036854775808 ≤ c.m
  names : NamesFit C

theorem gates_nodup {C : Circ} (h : C.onceB = true) : C.gates.Nodup := by
  unfold Circ.onceB at h
  have h1 : C.vars.Nodup := of_decide_eq_true h
  have e : C.vars = (C.ins ++ C.lats.map (·.1)).map varN ++ C.gates := by
    unfold Circ.vars Circ.made Circ.gates
    rw [List.map_append, List.map_map]; rfl
  rw [e] at h1
  exact (List.nodup_append.1 h1).2.1

/-- What Order tells. -/
def OrderPost (w : World) (C : Circ) (e : Ending) (w' : World) : Prop :=
  Below w.heap.size w w' ∧ ((C.checkI ≠ 0 ∧ e = .returned (.tuple #[.slice none 0 0, .int .i64 C.checkI])) ∨
    (C.checkI = 0 ∧ ∃ a k, e = .returned (.tuple #[.slice a C.turn.length k, .int .i64 0]) ∧ NewInts w (C.turn.map (fun k : Nat => (k : Int))) (.slice a C.turn.length k) w'))

set_option maxRecDepth 100000 in
set_option maxHeartbeats 2000000 in
theorem order_any (c : CV) (C : Circ) (w : World) (h : Holds w c C) (hf : Fits c C) :
    Calls Try.prog 39 #[c.v] w (OrderPost w C) := by
  have HH := hide h
  have HFi := hide hf
  have HT := hide (fun W (hb : Below w.heap.size w W) => tooLong_any c C W (h.below hb) hf.n1 hf.n2 hf.n3 hf.n4 hf.n5)
  have HB := hide (box_new w c)
  generalize hP : OrderPost w C = Post
  have HP := hide hP
  have hfin : Hid (∀ r W, C.checkI = r → r ≠ 0 → Below w.heap.size w W → Post (.returned (.tuple #[.slice none 0 0, .int .i64 r])) W) := fun r W hr hr0 hW => by rw [← HP.out]; exact ⟨hW, .inl ⟨by rw [hr]; exact hr0, by rw [hr]⟩⟩
  have hgood : Hid (∀ W a k, C.checkI = 0 → NewInts w (C.turn.map (fun k : Nat => (k : Int))) (.slice a C.turn.length k) W → Post (.returned (.tuple #[.slice a C.turn.length k, .int .i64 0])) W) := fun W a k hr hn => by rw [← HP.out]; exact ⟨hn.2, .inr ⟨hr, a, k, rfl, hn⟩⟩
  clear h hf hP HP
  have hcv : c.v = .agg #[.int .i64 c.m, .slice c.a1 c.n1 c.c1, .slice c.a2 c.n2 c.c2, .slice c.a3 c.n3 c.c3, .slice c.a4 c.n4 c.c4, .slice c.a5 c.n5 c.c5, .slice c.a6 c.n6 c.c6, .slice c.a7 c.n7 c.c7] := rfl
  rw [hcv] at HT ⊢
  have HCV := hide hcv
  clear hcv
  go_enter Try.func39, Try.ntmps39
  go_wp2_with fail
  refine (HT.out _ (below_alloc w _)).mono ?_
  rintro e w1 ⟨rfl, hb1⟩
  have HB1 := hide (HB.out.below hb1)
  have HW1 := hide (belowThen (below_alloc w _) hb1)
  obtain ⟨q0, q1, q2, q3, q4, q5, q6, q7⟩ := HB1.out.cells
  clear hb1 HT HB
  cases hlong : C.longB with
  | true =>
    have hend := hide (hfin.out 3 w1 (by unfold Circ.checkI; rw [if_pos hlong]) (by decide) HW1.out)
    clear hfin
    go_wp2
    exact hend.out
  | false =>
    have hS := small_of hlong
    have HS := hide hS
    have hn7 : c.n7 ≤ 320 := by rw [← HH.out.l7]; exact hS.names
    have hRL := rightLiterals_any c C w1 (HH.out.below HW1.out) hS HFi.out.m
    rw [HCV.out] at hRL
    have HRL := hide hRL
    have HLong := hide hlong
    clear hS hRL hlong
    go_wp2_with fail
    refine HRL.out.mono ?_
    rintro e w2 ⟨rfl, hb2⟩
    have HB2 := hide (HB1.out.below hb2)
    have HW2 := hide (belowThen HW1.out hb2)
    clear q0 q1 q2 q3 q4 q5 q6 q7 HRL HB1 HW1 hb2
    obtain ⟨q0, q1, q2, q3, q4, q5, q6, q7⟩ := HB2.out.cells
    cases hlits : C.litsB with
    | false =>
      have hend := hide (hfin.out 1 w2 (by unfold Circ.checkI; rw [if_neg (by rw [HLong.out]; decide), if_pos (by rw [hlits]; rfl)]) (by decide) HW2.out)
      clear hfin
      go_wp2
      exact hend.out
    | true =>
      have HLits := hide hlits
      have hL := hide (lits_of hlits)
      have hRN := rightNames_any c C w2 (HH.out.below HW2.out) hn7 HFi.out.names
      rw [HCV.out] at hRN
      have HRN := hide hRN
      clear hRN hlits
      go_wp2_with fail
      refine HRN.out.mono ?_
      rintro e w3 ⟨rfl, hb3⟩
      have HB3 := hide (HB2.out.below hb3)
      have HW3 := hide (belowThen HW2.out hb3)
      clear q0 q1 q2 q3 q4 q5 q6 q7 HRN HB2 HW2 hb3
      obtain ⟨q0, q1, q2, q3, q4, q5, q6, q7⟩ := HB3.out.cells
      cases hnam : C.namesB with
      | false =>
        have hend := hide (hfin.out 1 w3 (by unfold Circ.checkI; rw [if_neg (by rw [HLong.out]; decide), if_pos (by rw [hnam]; simp)]) (by decide) HW3.out)
        clear hfin
        go_wp2
        exact hend.out
      | true =>
        have HNam := hide hnam
        have hV := variables_any c C w3 (HH.out.below HW3.out) HS.out hL.out
        rw [HCV.out] at hV
        have HV := hide hV
        clear hV hnam
        go_wp2_with fail
        refine HV.out.mono ?_
        intro e w4 hv4
        have hb4 := hv4.1
        have HB4 := hide (HB3.out.below hb4)
        have HW4 := hide (belowThen HW3.out hb4)
        clear q0 q1 q2 q3 q4 q5 q6 q7 HV HB3 HW3 hb4
        obtain ⟨q0, q1, q2, q3, q4, q5, q6, q7⟩ := HB4.out.cells
        have hpre : Hid (∀ r, (if (C.onceB && C.namedB) = false then (10 : Int) else if C.knownB = false then 8 else if C.turn.length < C.ands.length then 9 else 0) = r → C.checkI = r) := fun r hr => by
          unfold Circ.checkI
          rw [if_neg (by rw [HLong.out]; decide), if_neg (by rw [HLits.out, HNam.out]; decide)]
          exact hr
        rcases hv4.2 with ⟨hon, rfl⟩ | ⟨hon, g, bs, rfl, hkn, hown⟩
        · have hend := hide (hfin.out 10 w4 (hpre.out 10 (by rw [if_pos (by rw [hon]; rfl)])) (by decide) HW4.out)
          clear hfin hpre hv4 hon
          go_wp2
          exact hend.out
        · have HOn := hide hon
          have HKn := hide hkn
          have HOwn := hide hown
          have hNT := namedTwice_any c C w4 (HH.out.below HW4.out) hn7
          rw [HCV.out] at hNT
          have HNT := hide hNT
          clear hv4 hon hkn hown hNT
          go_wp2_with fail
          refine HNT.out.mono ?_
          rintro e w5 ⟨rfl, hb5⟩
          have HB5 := hide (HB4.out.below hb5)
          have HW5 := hide (belowThen HW4.out hb5)
          have HOwn5 := hide (own_below HOwn.out hb5)
          clear q0 q1 q2 q3 q4 q5 q6 q7 HNT HB4 HW4 hb5 HOwn
          obtain ⟨q0, q1, q2, q3, q4, q5, q6, q7⟩ := HB5.out.cells
          cases hnm : C.namedB with
          | false =>
            have hend := hide (hfin.out 10 w5 (hpre.out 10 (by rw [if_pos (by rw [hnm]; simp)])) (by decide) HW5.out)
            clear hfin hpre
            go_wp2
            exact hend.out
          | true =>
            have HNm := hide hnm
            have hAK := allKnown_any c C g (C.max.toNat + 1) bs w5 (HH.out.below HW5.out) HS.out hL.out rfl HKn.out HOwn5.out
            rw [HCV.out] at hAK
            have HAK := hide hAK
            clear hAK hnm
            obtain ⟨n0, HN0⟩ : ∃ n0, Hid (n0 = C.max.toNat + 1) := ⟨_, rfl⟩
            rw [← HN0.out] at HAK ⊢
            go_wp2_with fail
            refine HAK.out.mono ?_
            rintro e w6 ⟨rfl, hb6⟩
            have HB6 := hide (HB5.out.below hb6)
            have HW6 := hide (belowThen HW5.out hb6)
            clear q0 q1 q2 q3 q4 q5 q6 q7 HAK HB5 HW5 hb6 HOwn5
            obtain ⟨q0, q1, q2, q3, q4, q5, q6, q7⟩ := HB6.out.cells
            have hpre2 : Hid (∀ r, (if C.knownB = false then (8 : Int) else if C.turn.length < C.ands.length then 9 else 0) = r → C.checkI = r) := fun r hr => hpre.out r (by rw [if_neg (by rw [HOn.out, HNm.out]; decide)]; exact hr)
            cases hkb : C.knownB with
            | false =>
              have hend := hide (hfin.out 8 w6 (hpre2.out 8 (by rw [if_pos hkb])) (by decide) HW6.out)
              clear hfin hpre hpre2
              go_wp2
              exact hend.out
            | true =>
              have hIT := inTurn_any c C w6 (HH.out.below HW6.out) HS.out hL.out (gates_nodup HOn.out)
              rw [HCV.out] at hIT
              have HIT := hide hIT
              have HKb := hide hkb
              clear hIT hkb
              go_wp2_with fail
              refine HIT.out.mono ?_
              rintro e w7 ⟨v7, rfl, hn7⟩
              obtain ⟨a7, c7, rfl⟩ := own_form hn7.1
              have HB7 := hide (HB6.out.below hn7.2)
              have HW7 := hide (belowThen HW6.out hn7.2)
              have HN7 : Hid (NewInts w (C.turn.map (fun k : Nat => (k : Int))) (.slice a7 (C.turn.map (fun k : Nat => (k : Int))).length c7) w7) := ⟨own_le hn7.1 HW6.out.size, HW7.out⟩
              rw [List.length_map] at HN7
              clear q0 q1 q2 q3 q4 q5 q6 q7 HIT HB6 HW6 hn7
              obtain ⟨q0, q1, q2, q3, q4, q5, q6, q7⟩ := HB7.out.cells
              rw [List.length_map]
              have h6l : C.ands.length = c.n6 := HH.out.l6
              have hpre3 : Hid (∀ r, (if C.turn.length < c.n6 then (9 : Int) else 0) = r → C.checkI = r) := fun r hr => hpre2.out r (by rw [if_neg (by rw [HKb.out]; decide), h6l]; exact hr)
              clear hpre hpre2 h6l
              replace hgood := hide (hgood.out w7 a7 c7 · HN7.out)
              clear HN7
              generalize C.turn.length = TL at *
              by_cases hlt : TL < c.n6
              · have hend := hide (hfin.out 9 w7 (hpre3.out 9 (if_pos hlt)) (by decide) HW7.out)
                have hltb : decide (TL < c.n6) = true := decide_eq_true hlt
                clear hfin hpre3 hgood
                go_wp2
                exact hend.out
              · have hend := hide (hgood.out (hpre3.out 0 (if_neg hlt)))
                clear hfin hpre3 hgood
                go_wp2
                exact hend.out

set_option maxRecDepth 100000 in
set_option maxHeartbeats 2000000 in
theorem check_any (c : CV) (C : Circ) (w : World) (h : Holds w c C) (hf : Fits c C) :
    Calls Try.prog 18 #[c.v] w fun e w' => e = .returned (.int .i64 C.checkI) ∧ Below w.heap.size w w' := by
  have HO := hide (fun W (hb : Below w.heap.size w W) => order_any c C W (h.below hb) hf)
  clear h hf
  unfold CV.v at HO ⊢
  go_enter Try.func18, Try.ntmps18
  go_wp2_with fail
  refine (HO.out _ (below_alloc w _)).mono ?_
  rintro e w1 ⟨hb, ⟨hc, rfl⟩ | ⟨hc, a, k, rfl, hn⟩⟩
  · have hend : Hid (Below w.heap.size w w1) := belowThen (below_alloc w _) hb
    clear HO hb hc
    go_wp2
    go_ret
    exact ⟨rfl, hend.out⟩
  · have hend : Hid (C.checkI = 0 ∧ Below w.heap.size w w1) := ⟨hc, belowThen (below_alloc w _) hb⟩
    clear HO hb hc hn
    go_wp2
    go_ret
    have he := hend.out.1
    exact ⟨by rw [he]; rfl, hend.out.2⟩
end Go.Proofs.Ytppaifckiaaffaa
