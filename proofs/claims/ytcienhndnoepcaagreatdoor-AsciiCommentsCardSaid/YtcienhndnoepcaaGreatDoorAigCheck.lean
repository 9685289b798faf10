/-
  THE WALK of layer 4's Check.
-/
import Derived.Test.YtcienhndnoepcaaGreatDoorAigInTurn
import Derived.Test.YtcienhndnoepcaaGreatDoorAigLits
import Derived.Test.YtcienhndnoepcaaGreatDoorAigNames
import Derived.Test.YtcienhndnoepcaaGreatDoorAigTwice
namespace Go.Proofs.YtcienhndnoepcaaGreatDoor
open Go.RowKit

/-- What is asked of a circuit that comes in. -/
structure Fits (c : CV) (C : Circ) : Prop where
  n1 : c.n1 ≤ 281474976710656
  n2 : c.n2 ≤ 281474976710656
  n3 : c.n3 ≤ 281474976710656
  n4 : c.n4 ≤ 281474976710656
  n5 : c.n5 ≤ 281474976710656
  m : -9223372036854775808 ≤ c.m
  names : NamesFit C

theorem gates_nodup {C : Circ} (h : C.onceB = true) : C.gates.Nodup := by
  unfold Circ.onceB at h
  have h1 : C.vars.Nodup := of_decide_eq_true h
  have e : C.vars = (C.ins ++ C.lats.map (·.1)).map varN ++ C.gates := by
    unfold Circ.vars Circ.made Circ.gates
    rw [List.map_append, List.map_map]; rfl
  rw [e] at h1
  exact (List.nodup_append.1 h1).2.1

set_option maxRecDepth 100000 in
set_option maxHeartbeats 2000000 in
theorem check_any (c : CV) (C : Circ) (w : World) (h : Holds w c C) (hf : Fits c C) :
    Calls Tryz.prog 57 #[c.v] w fun e w' => e = .returned (.int .i64 C.checkI) ∧ Below w.heap.size w w' := by
  have HH := hide h
  have HFi := hide hf
  have HT := hide (fun W (hb : Below w.heap.size w W) => tooLong_any c C W (h.below hb) hf.n1 hf.n2 hf.n3 hf.n4 hf.n5)
  have HB := hide (box_new w c)
  generalize hP : (fun (e : Ending) (w' : World) => e = .returned (.int .i64 C.checkI) ∧ Below w.heap.size w w') = Post
  have HP := hide hP
  have hfin : Hid (∀ r W, C.checkI = r → Below w.heap.size w W → Post (.returned (.int .i64 r)) W) := fun r W hr hW => by rw [← HP.out]; exact ⟨by rw [hr], hW⟩
  clear h hf hP HP
  have hcv : c.v = .agg #[.int .i64 c.m, .slice c.a1 c.n1 c.c1, .slice c.a2 c.n2 c.c2, .slice c.a3 c.n3 c.c3, .slice c.a4 c.n4 c.c4, .slice c.a5 c.n5 c.c5, .slice c.a6 c.n6 c.c6, .slice c.a7 c.n7 c.c7] := rfl
  rw [hcv] at HT ⊢
  have HCV := hide hcv
  clear hcv
  go_enter Tryz.func57, Tryz.ntmps57
  go_wp2_with fail
  refine (HT.out _ (below_alloc w _)).mono ?_
  rintro e w1 ⟨rfl, hb1⟩
  have HB1 := hide (HB.out.below hb1)
  have HW1 := hide (belowThen (below_alloc w _) hb1)
  obtain ⟨q0, q1, q2, q3, q4, q5, q6, q7⟩ := HB1.out.cells
  clear hb1 HT HB
  cases hlong : C.longB with
  | true =>
    have hend := hide (hfin.out 3 w1 (by unfold Circ.checkI; rw [if_pos hlong]) HW1.out)
    clear hfin
    go_wp2
    exact hend.out
  | false =>
    have hS := small_of hlong
    have HS := hide hS
    have hn7 : c.n7 ≤ 320 := by rw [← HH.out.l7]; exact hS.names
    have hRL := rightLiterals_any c C w1 (HH.out.below HW1.out) hS HFi.out.m
    rw [HCV.out] at hRL
    have HRL := hide hRL
    have HLong := hide hlong
    clear hS hRL hlong
    go_wp2_with fail
    refine HRL.out.mono ?_
    rintro e w2 ⟨rfl, hb2⟩
    have HB2 := hide (HB1.out.below hb2)
    have HW2 := hide (belowThen HW1.out hb2)
    clear q0 q1 q2 q3 q4 q5 q6 q7 HRL HB1 HW1 hb2
    obtain ⟨q0, q1, q2, q3, q4, q5, q6, q7⟩ := HB2.out.cells
    cases hlits : C.litsB with
    | false =>
      have hend := hide (hfin.out 1 w2 (by unfold Circ.checkI; rw [if_neg (by rw [HLong.out]; decide), if_pos (by rw [hlits]; rfl)]) HW2.out)
      clear hfin
      go_wp2
      exact hend.out
    | true =>
      have HLits := hide hlits
      have hL := hide (lits_of hlits)
      have hRN := rightNames_any c C w2 (HH.out.below HW2.out) hn7 HFi.out.names
      rw [HCV.out] at hRN
      have HRN := hide hRN
      clear hRN hlits
      go_wp2_with fail
      refine HRN.out.mono ?_
      rintro e w3 ⟨rfl, hb3⟩
      have HB3 := hide (HB2.out.below hb3)
      have HW3 := hide (belowThen HW2.out hb3)
      clear q0 q1 q2 q3 q4 q5 q6 q7 HRN HB2 HW2 hb3
      obtain ⟨q0, q1, q2, q3, q4, q5, q6, q7⟩ := HB3.out.cells
      cases hnam : C.namesB with
      | false =>
        have hend := hide (hfin.out 1 w3 (by unfold Circ.checkI; rw [if_neg (by rw [HLong.out]; decide), if_pos (by rw [hnam]; simp)]) HW3.out)
        clear hfin
        go_wp2
        exact hend.out
      | true =>
        have HNam := hide hnam
        have hV := variables_any c C w3 (HH.out.below HW3.out) HS.out hL.out
        rw [HCV.out] at hV
        have HV := hide hV
        clear hV hnam
        go_wp2_with fail
        refine HV.out.mono ?_
        intro e w4 hv4
        have hb4 := hv4.1
        have HB4 := hide (HB3.out.below hb4)
        have HW4 := hide (belowThen HW3.out hb4)
        clear q0 q1 q2 q3 q4 q5 q6 q7 HV HB3 HW3 hb4
        obtain ⟨q0, q1, q2, q3, q4, q5, q6, q7⟩ := HB4.out.cells
        have hpre : Hid (∀ r, (if (C.onceB && C.namedB) = false then (10 : Int) else if C.knownB = false then 8 else if C.turn.length < C.ands.length then 9 else 0) = r → C.checkI = r) := fun r hr => by
          unfold Circ.checkI
          rw [if_neg (by rw [HLong.out]; decide), if_neg (by rw [HLits.out, HNam.out]; decide)]
          exact hr
        rcases hv4.2 with ⟨hon, rfl⟩ | ⟨hon, g, bs, rfl, hkn, hown⟩
        · have hend := hide (hfin.out 10 w4 (hpre.out 10 (by rw [if_pos (by rw [hon]; rfl)])) HW4.out)
          clear hfin hpre hv4 hon
          go_wp2
          exact hend.out
        · have HOn := hide hon
          have HKn := hide hkn
          have HOwn := hide hown
          have hNT := namedTwice_any c C w4 (HH.out.below HW4.out) hn7
          rw [HCV.out] at hNT
          have HNT := hide hNT
          clear hv4 hon hkn hown hNT
          go_wp2_with fail
          refine HNT.out.mono ?_
          rintro e w5 ⟨rfl, hb5⟩
          have HB5 := hide (HB4.out.below hb5)
          have HW5 := hide (belowThen HW4.out hb5)
          have HOwn5 := hide (own_below HOwn.out hb5)
          clear q0 q1 q2 q3 q4 q5 q6 q7 HNT HB4 HW4 hb5 HOwn
          obtain ⟨q0, q1, q2, q3, q4, q5, q6, q7⟩ := HB5.out.cells
          cases hnm : C.namedB with
          | false =>
            have hend := hide (hfin.out 10 w5 (hpre.out 10 (by rw [if_pos (by rw [hnm]; simp)])) HW5.out)
            clear hfin hpre
            go_wp2
            exact hend.out
          | true =>
            have HNm := hide hnm
            have hAK := allKnown_any c C g (C.max.toNat + 1) bs w5 (HH.out.below HW5.out) HS.out hL.out rfl HKn.out HOwn5.out
            rw [HCV.out] at hAK
            have HAK := hide hAK
            clear hAK hnm
            obtain ⟨n0, HN0⟩ : ∃ n0, Hid (n0 = C.max.toNat + 1) := ⟨_, rfl⟩
            rw [← HN0.out] at HAK ⊢
            go_wp2_with fail
            refine HAK.out.mono ?_
            rintro e w6 ⟨rfl, hb6⟩
            have HB6 := hide (HB5.out.below hb6)
            have HW6 := hide (belowThen HW5.out hb6)
            clear q0 q1 q2 q3 q4 q5 q6 q7 HAK HB5 HW5 hb6 HOwn5
            obtain ⟨q0, q1, q2, q3, q4, q5, q6, q7⟩ := HB6.out.cells
            have hpre2 : Hid (∀ r, (if C.knownB = false then (8 : Int) else if C.turn.length < C.ands.length then 9 else 0) = r → C.checkI = r) := fun r hr => hpre.out r (by rw [if_neg (by rw [HOn.out, HNm.out]; decide)]; exact hr)
            cases hkb : C.knownB with
            | false =>
              have hend := hide (hfin.out 8 w6 (hpre2.out 8 (by rw [if_pos hkb])) HW6.out)
              clear hfin hpre hpre2
              go_wp2
              exact hend.out
            | true =>
              have hIT := fun W (hb : Below w.heap.size w W) => inTurn_any c C W (HH.out.below hb) HS.out hL.out (gates_nodup HOn.out)
              rw [HCV.out] at hIT
              have HIT := hide hIT
              have HKb := hide hkb
              have HWD : Hid (∀ r, Below w.heap.size w (w6.drewN r)) := fun r => belowThen HW6.out (Drew.below ⟨r, rfl⟩)
              have HBD : Hid (∀ r, Box (w6.drewN r) w.heap.size c) := fun r => HB6.out.below (Drew.below ⟨r, rfl⟩)
              obtain ⟨TL, HTL⟩ : ∃ TL, Hid (TL = C.turn.length) := ⟨_, rfl⟩
              have HLen : Hid (∀ W v w7, NewInts W (C.turn.map (fun k : Nat => (k : Int))) v w7 → ∃ a cc, v = .slice a TL cc) := fun W v w7 hn => by
                obtain ⟨a, cc, e⟩ := own_form hn.1
                rw [List.length_map, ← HTL.out] at e
                exact ⟨a, cc, e⟩
              have h6l : C.ands.length = c.n6 := HH.out.l6
              have hpre3 : Hid (∀ r, (if TL < c.n6 then (9 : Int) else 0) = r → C.checkI = r) := fun r hr => hpre2.out r (by rw [if_neg (by rw [HKb.out]; decide), ← HTL.out, h6l]; exact hr)
              clear hIT hkb hpre hpre2 h6l
              by_cases hlt : TL < c.n6
              · have hend := hide (hfin.out 9 · (hpre3.out 9 (if_pos hlt)))
                have hltb : decide (TL < c.n6) = true := decide_eq_true hlt
                clear hfin hpre3
                go_wp2
                go_region_held3 (fun w' => w'.cell? ⟨w.heap.size, 0, none⟩ = some (.int .i64 c.m) ∧ w'.cell? ⟨w.heap.size, 1, none⟩ = some (.slice c.a1 c.n1 c.c1) ∧ w'.cell? ⟨w.heap.size, 2, none⟩ = some (.slice c.a2 c.n2 c.c2) ∧ w'.cell? ⟨w.heap.size, 3, none⟩ = some (.slice c.a3 c.n3 c.c3) ∧ w'.cell? ⟨w.heap.size, 4, none⟩ = some (.slice c.a4 c.n4 c.c4) ∧ w'.cell? ⟨w.heap.size, 5, none⟩ = some (.slice c.a5 c.n5 c.c5) ∧ w'.cell? ⟨w.heap.size, 6, none⟩ = some (.slice c.a6 c.n6 c.c6) ∧ w'.cell? ⟨w.heap.size, 7, none⟩ = some (.slice c.a7 c.n7 c.c7)) (first | go_keep | exact ((HBD.out _).below hb7).cells) (first | (go_at_call 94; refine (HIT.out _ (HWD.out _)).mono ?_; rintro e w7 ⟨v7, rfl, hn7⟩; have hb7 := hn7.2; obtain ⟨a7, c7, rfl⟩ := HLen.out _ _ _ hn7))
                all_goals go_wp2
                all_goals exact hend.out _ (belowThen (HWD.out _) hb7)
              · have hend := hide (hfin.out 0 · (hpre3.out 0 (if_neg hlt)))
                clear hfin hpre3
                go_wp2
                go_region_held3 (fun w' => w'.cell? ⟨w.heap.size, 0, none⟩ = some (.int .i64 c.m) ∧ w'.cell? ⟨w.heap.size, 1, none⟩ = some (.slice c.a1 c.n1 c.c1) ∧ w'.cell? ⟨w.heap.size, 2, none⟩ = some (.slice c.a2 c.n2 c.c2) ∧ w'.cell? ⟨w.heap.size, 3, none⟩ = some (.slice c.a3 c.n3 c.c3) ∧ w'.cell? ⟨w.heap.size, 4, none⟩ = some (.slice c.a4 c.n4 c.c4) ∧ w'.cell? ⟨w.heap.size, 5, none⟩ = some (.slice c.a5 c.n5 c.c5) ∧ w'.cell? ⟨w.heap.size, 6, none⟩ = some (.slice c.a6 c.n6 c.c6) ∧ w'.cell? ⟨w.heap.size, 7, none⟩ = some (.slice c.a7 c.n7 c.c7)) (first | go_keep | exact ((HBD.out _).below hb7).cells) (first | (go_at_call 94; refine (HIT.out _ (HWD.out _)).mono ?_; rintro e w7 ⟨v7, rfl, hn7⟩; have hb7 := hn7.2; obtain ⟨a7, c7, rfl⟩ := HLen.out _ _ _ hn7))
                all_goals go_wp2
                all_goals exact hend.out _ (belowThen (HWD.out _) hb7)
end Go.Proofs.YtcienhndnoepcaaGreatDoor
