/-
  What the reference's Check asks is what the program's asks: no function of the program.
  THE WALK of the reference's Check.
-/
import Derived.Test.YtikjbbebfjleaaaGreatDoorRefKinds
import Derived.Test.YtikjbbebfjleaaaGreatDoorJ38
import Derived.Test.YtikjbbebfjleaaaGreatDoorRefArgs
import Derived.Test.YtikjbbebfjleaaaGreatDoorJ41
import Derived.Deep.Cut
import Derived.BigQuiet
namespace Go.Proofs.YtikjbbebfjleaaaGreatDoor
open Go.RowKit

theorem known_same {C : Circ} {n : Nat} {ks : List Int} (hL : Lits C) (hn : n = C.max.toNat + 1) (hK : Kd n C.kindT ks) : C.usesL.all (knowB ks) = C.knownB := by
  rw [uses_all]
  unfold Circ.knownB
  rw [Bool.eq_iff_iff, List.all_eq_true, List.all_eq_true]
  have key : ∀ l ∈ C.used, (knowB ks l = true ↔ (decide (varN l = 0) || decide (varN l ∈ C.vars)) = true) := fun l hl => by
    have h := hL.lit l hl
    have hm := hL.max
    have hv : varN l < n := by unfold varN; omega
    have h0 := hK.none _ hv
    rw [kindT_vars] at h0
    unfold knowB
    by_cases h1 : 1 < l
    · have hz : varN l ≠ 0 := by unfold varN; omega
      rw [decide_eq_true h1, decide_eq_false hz, Bool.true_and, Bool.false_or]
      by_cases hi : varN l ∈ C.vars
      · rw [decide_eq_true hi, decide_eq_false (fun e => h0.1 e hi)]; simp
      · rw [decide_eq_false hi, decide_eq_true (h0.2 hi)]; simp
    · have hz : varN l = 0 := by unfold varN; omega
      rw [decide_eq_false h1, decide_eq_true hz]; simp
  exact ⟨fun h l hl => (key l hl).1 (h l hl), fun h l hl => (key l hl).2 (h l hl)⟩

theorem uses_low {C : Circ} {n : Nat} (hL : Lits C) (hn : n = C.max.toNat + 1) : ∀ l ∈ C.usesL, varN l < n := fun l hl => by
  have h := hL.lit l ((uses_mem C l).1 hl)
  have hm := hL.max
  unfold varN; omega

theorem kind_three {C : Circ} {n : Nat} {ks : List Int} (hK : Kd n C.kindT ks) (ho : C.onceB = true) : ∀ v, v < n → (atP ks v = 3 ↔ v ∈ C.gates) := fun v hv => by
  have hnd : (C.kindT.map (·.1)).Nodup := by
    rw [kindT_vars]
    unfold Circ.onceB at ho
    exact of_decide_eq_true ho
  have hk := hK.kind hnd
  constructor
  · intro h3
    have hm : v ∈ C.kindT.map (·.1) := by
      refine Decidable.byContradiction (fun hc => ?_)
      have := (hK.none v hv).2 hc
      omega
    obtain ⟨t, ht, rfl⟩ := List.mem_map.1 hm
    have h2 := hk t ht
    rw [h3] at h2
    unfold Circ.kindT at ht
    rcases List.mem_append.1 ht with ht | ht
    · rcases List.mem_append.1 ht with ht | ht
      · obtain ⟨x, -, rfl⟩ := List.mem_map.1 ht
        simp [kI] at h2
      · obtain ⟨x, -, rfl⟩ := List.mem_map.1 ht
        simp [kL] at h2
    · obtain ⟨x, hx, rfl⟩ := List.mem_map.1 ht
      exact List.mem_map.2 ⟨x, hx, rfl⟩
  · intro hg
    obtain ⟨x, hx, rfl⟩ := List.mem_map.1 hg
    exact hk (kA x) (by unfold Circ.kindT; exact List.mem_append_right _ (List.mem_map.2 ⟨x, hx, rfl⟩))


theorem nodup_key (ts : List (Int × Int)) (v : Int × Int) : decide ((ts ++ [v]).Nodup) = (decide ts.Nodup && decide (v ∉ ts)) := by
  rw [Bool.eq_iff_iff]
  simp only [decide_eq_true_eq, Bool.and_eq_true]
  constructor
  · intro h
    obtain ⟨h1, -, h3⟩ := List.nodup_append.1 h
    exact ⟨h1, fun hm => h3 v hm v (by simp) rfl⟩
  · rintro ⟨h1, h2⟩
    exact List.nodup_append.2 ⟨h1, List.nodup_cons.2 ⟨List.not_mem_nil, List.nodup_nil⟩, fun a ha b hb e => by rw [List.mem_singleton] at hb; subst hb; subst e; exact h2 ha⟩
theorem key_take (C : Circ) (k : Nat) (h : k < C.names.length) : C.keys.take (k + 1) = C.keys.take k ++ [((atP C.names k).1, (atP C.names k).2.1)] := by
  unfold Circ.keys
  rw [← List.map_take, ← List.map_take, map_take _ _ _ h]
theorem key_in (ts : List (Int × Int)) (u v : Int × Int) : decide (v ∉ ts ++ [u]) = (decide (v ∉ ts) && decide (v ≠ u)) := by
  rw [Bool.eq_iff_iff]
  simp

theorem long_not {C : Circ} (h1 : C.ins.length ≤ 64) (h2 : C.lats.length ≤ 64) (h3 : C.outs.length ≤ 64) (h4 : C.bads.length ≤ 64) (h5 : C.cons.length ≤ 64) (hm : C.max ≤ 5000) (h6 : C.ands.length ≤ 2000) : C.longB = decide (C.ins.length + C.lats.length + C.outs.length + C.bads.length + C.cons.length < C.names.length) := by
  unfold Circ.longB
  have hs : C.ports.sum = C.ins.length + C.lats.length + C.outs.length + C.bads.length + C.cons.length := by
    show C.ins.length + (C.lats.length + (C.outs.length + (C.bads.length + (C.cons.length + 0)))) = _
    omega
  rw [hs]
  unfold Circ.ports
  simp only [List.any_cons, List.any_nil]
  rw [decide_eq_false (show ¬ 64 < C.ins.length by omega), decide_eq_false (show ¬ 64 < C.lats.length by omega), decide_eq_false (show ¬ 64 < C.outs.length by omega), decide_eq_false (show ¬ 64 < C.bads.length by omega), decide_eq_false (show ¬ 64 < C.cons.length by omega), decide_eq_false (show ¬ 5000 < C.max by omega), decide_eq_false (show ¬ 2000 < C.ands.length by omega)]
  rfl
theorem long_yes {C : Circ} (h : 64 < C.ins.length ∨ 64 < C.lats.length ∨ 64 < C.outs.length ∨ 64 < C.bads.length ∨ 64 < C.cons.length ∨ 5000 < C.max ∨ 2000 < C.ands.length) : C.longB = true := by
  unfold Circ.longB Circ.ports
  simp only [List.any_cons, List.any_nil, Bool.or_eq_true, decide_eq_true_eq]
  omega
end Go.Proofs.YtikjbbebfjleaaaGreatDoor

namespace Go.Proofs.YtikjbbebfjleaaaGreatDoor
open Go.RowKit

set_option maxRecDepth 100000 in
set_option maxHeartbeats 4000000 in
theorem refCheck_wide (c : CV) (C : Circ) (w : World) (h : Holds w c C) (hm63 : I64 c.m) (h1 : c.n1 ≤ 9223372036854775807) (h2 : c.n2 ≤ 9223372036854775807) (h3 : c.n3 ≤ 9223372036854775807) (h4 : c.n4 ≤ 9223372036854775807) (h5 : c.n5 ≤ 9223372036854775807) (h6 : c.n6 ≤ 9223372036854775807) (h7 : c.n7 ≤ 9223372036854775807) (hN : NamesWide C) :
    Calls Tryz.prog 30 #[c.v] w fun e w' => e = .returned (.int .i64 C.checkI) ∧ Below w.heap.size w w' := by
  have HB := hide (And.intro (below_alloc w (.cells #[.int .i64 c.m, .slice c.a1 c.n1 c.c1, .slice c.a2 c.n2 c.c2, .slice c.a3 c.n3 c.c3, .slice c.a4 c.n4 c.c4, .slice c.a5 c.n5 c.c5, .slice c.a6 c.n6 c.c6, .slice c.a7 c.n7 c.c7] 29)) (box_new w c))
  have HYes : Hid ((64 < c.n1 ∨ 64 < c.n2 ∨ 64 < c.n3 ∨ 64 < c.n4 ∨ 64 < c.n5 ∨ 5000 < c.m ∨ 2000 < c.n6) → C.longB = true) := fun hh => long_yes (by rw [h.l1, h.l2, h.l3, h.l4, h.l5, h.l6, ← h.m]; exact hh)
  have HNo : Hid (c.n1 ≤ 64 → c.n2 ≤ 64 → c.n3 ≤ 64 → c.n4 ≤ 64 → c.n5 ≤ 64 → c.m ≤ 5000 → c.n6 ≤ 2000 → C.longB = decide (c.n1 + c.n2 + c.n3 + c.n4 + c.n5 < c.n7)) := fun a1 a2 a3 a4 a5 am a6 => by
    have := long_not (C := C) (by rw [h.l1]; exact a1) (by rw [h.l2]; exact a2) (by rw [h.l3]; exact a3) (by rw [h.l4]; exact a4) (by rw [h.l5]; exact a5) (by rw [← h.m]; exact am) (by rw [h.l6]; exact a6)
    rw [this, h.l1, h.l2, h.l3, h.l4, h.l5, h.l7]
  have HH := hide h
  have HN := hide hN
  have HM63 := hide hm63
  generalize hP : (fun (e : Ending) (w' : World) => e = .returned (.int .i64 C.checkI) ∧ Below w.heap.size w w') = Post
  have HP := hide hP
  clear h hN hP hm63
  unfold CV.v
  go_enter Tryz.func30, Tryz.ntmps30
  go_upto_region 6 with fail
  go_cut [72] from 29 to 71 (fun s wx => s = .bool C.longB ∧ Hid (Below w.heap.size w wx ∧ Box wx w.heap.size c))
  case first =>
    by_cases hmx : 5000 < c.m
    · have e := hide (HYes.out (by omega))
      go_wp2_with fail
      go_meet
      exact ⟨by rw [e.out], HB.out⟩
    · by_cases g1 : (64 : Int) < c.n1
      · have e := hide (HYes.out (by omega))
        go_wp2_with fail
        go_meet
        exact ⟨by rw [e.out], HB.out⟩
      · by_cases g2 : (64 : Int) < c.n2
        · have e := hide (HYes.out (by omega))
          go_wp2_with fail
          go_meet
          exact ⟨by rw [e.out], HB.out⟩
        · by_cases g3 : (64 : Int) < c.n3
          · have e := hide (HYes.out (by omega))
            go_wp2_with fail
            go_meet
            exact ⟨by rw [e.out], HB.out⟩
          · by_cases g4 : (64 : Int) < c.n4
            · have e := hide (HYes.out (by omega))
              go_wp2_with fail
              go_meet
              exact ⟨by rw [e.out], HB.out⟩
            · by_cases g5 : (64 : Int) < c.n5
              · have e := hide (HYes.out (by omega))
                go_wp2_with fail
                go_meet
                exact ⟨by rw [e.out], HB.out⟩
              · by_cases g6 : (2000 : Int) < c.n6
                · have e := hide (HYes.out (by omega))
                  go_wp2_with fail
                  go_meet
                  exact ⟨by rw [e.out], HB.out⟩
                · by_cases g7 : (c.n1 : Int) + c.n2 + c.n3 + c.n4 + c.n5 < c.n7
                  · have e := hide ((HNo.out (by omega) (by omega) (by omega) (by omega) (by omega) (by omega) (by omega)).trans (decide_eq_true (by omega)))
                    go_wp2_with fail
                    go_meet
                    exact ⟨by rw [e.out], HB.out⟩
                  · have e := hide ((HNo.out (by omega) (by omega) (by omega) (by omega) (by omega) (by omega) (by omega)).trans (decide_eq_false (by omega)))
                    go_wp2_with fail
                    go_meet
                    exact ⟨by rw [e.out], HB.out⟩
  case rest =>
    rename World => wx
    obtain ⟨rfl, HX⟩ := hcut
    clear HB HYes HNo
    by_cases hlong : C.longB = true
    · have hfin : Hid (Post (.returned (.int .i64 3)) wx) := by
        show Post _ wx
        rw [← HP.out]
        exact ⟨by unfold Circ.checkI; rw [if_pos hlong], HX.out.1⟩
      rw [hlong]
      go_wp2
      exact hfin.out
    · replace hlong : C.longB = false := by simpa using hlong
      have hS := small_of hlong
      have h7s : c.n7 ≤ 320 := by rw [← HH.out.l7]; exact hS.names
      have HArgs := hide (args_any c C wx (HH.out.below HX.out.1) hS HM63.out.1 HN.out)
      have HK := hide (fun W (hb : Below w.heap.size w W) (hL : Lits C) => kinds_any c C W (HH.out.below hb) hS hL)
      have HU := hide (fun W (hb : Below w.heap.size w W) => uses_any c C W (HH.out.below hb) hS)
      have HSo := hide (fun W (hb : Below w.heap.size w W) (hL : Lits C) a n cp ks hn hr hkl hK => sort_any c C a n cp ks W (HH.out.below hb) hS hL hn hr hkl hK)
      have hmx := hS.max
      obtain ⟨n, hn⟩ : ∃ n, n = C.max.toNat + 1 := ⟨_, rfl⟩
      have hn5 : n ≤ 5001 := by omega
      rw [← hn] at HK
      have HNN := hide hn
      have HUL : Hid (C.usesL.length ≤ 5000) := by
        have e1 := hS.lats
        have e2 := hS.outs
        have e3 := hS.bads
        have e4 := hS.cons
        have e5 := hS.ands
        have e6 : ∀ l : List Tri, (l.flatMap (fun a => [a.2.1, a.2.2])).length = 2 * l.length := fun l => by
          induction l with
          | nil => rfl
          | cons a l ih => rw [List.flatMap_cons, List.length_append, ih]; simp; omega
        show C.usesL.length ≤ 5000
        unfold Circ.usesL
        simp only [List.length_append, List.length_map, e6]
        omega
      rw [args_same] at HArgs
      obtain ⟨ab, HAB⟩ : ∃ ab, Hid (ab = (C.litsB && C.namesB)) := ⟨_, rfl⟩
      rw [← HAB.out] at HArgs
      have HFin : Hid (∀ r W, C.checkI = r → Below w.heap.size w W → Post (.returned (.int .i64 r)) W) := fun r W hr hW => by rw [← HP.out]; exact ⟨by rw [hr], hW⟩
      rw [hlong]
      have HLong := hide hlong
      obtain ⟨q0, q1, q2, q3, q4, q5, q6, q7⟩ := HX.out.2.cells
      unfold CV.v at HArgs HK HU HSo
      generalize hA7 : c.a7 = A7 at HArgs HK HU HSo q7 ⊢
      have HA7 := hide hA7
      clear hA7 hn hmx hS hlong
      go_wp2_with fail
      refine HArgs.out.mono ?_
      rintro e w1 ⟨rfl, hb1⟩
      have HW1 := hide (belowThen HX.out.1 hb1)
      have HBX1 := hide (HX.out.2.below hb1)
      clear hb1 q0 q1 q2 q3 q4 q5 q6 q7 HArgs HX
      obtain ⟨q0, q1, q2, q3, q4, q5, q6, q7⟩ := HBX1.out.cells
      rw [HA7.out] at q7
      cases ab with
      | false =>
        have hf := hide (HFin.out 1 w1 (by unfold Circ.checkI; rw [HLong.out, if_neg (by decide), if_pos HAB.out.symm]) HW1.out)
        go_wp2
        exact hf.out
      | true =>
        have HLits : Hid (Lits C) := lits_of (by have := HAB.out.symm; rw [Bool.and_eq_true] at this; exact this.1)
        go_wp2_with fail
        refine (HK.out w1 HW1.out HLits.out).mono ?_
        rintro e w2 ⟨hb2, g, ks, rfl, hkd, hown2⟩
        have HW2 := hide (belowThen HW1.out hb2)
        have HBX2 := hide (HBX1.out.below hb2)
        have HKd := hide hkd
        have HOwn2 := hide hown2
        clear hb2 hkd hown2 HK q0 q1 q2 q3 q4 q5 q6 q7 HBX1
        obtain ⟨q0, q1, q2, q3, q4, q5, q6, q7⟩ := HBX2.out.cells
        rw [HA7.out] at q7
        obtain ⟨ob, HOB⟩ : ∃ ob, Hid (ob = C.onceB) := ⟨_, rfl⟩
        rw [← HOB.out]
        go_wp2
        clear q0 q1 q2 q3 q4 q5 q6 q7
        go_loopw [9, 10, 11] (fun s9 s10 _ wr => ∃ (k : Nat) (ok : Bool), s10 = .int .i64 k ∧ s9 = .bool ok ∧ k ≤ c.n7 ∧ Hid (Drew w2 wr ∧ ok = (ob && decide (C.keys.take k).Nodup))) (fun _ s10 _ _ => c.n7 - (intOf s10).toNat)
        case atStart => exact ⟨0, _, rfl, rfl, Nat.zero_le _, hide ⟨⟨0, rfl⟩, by simp⟩⟩
        case round =>
          obtain ⟨k, ok, rfl, rfl, hk, HM⟩ := hrel
          have HBr : Hid (∀ W, Drew w2 W → Below w.heap.size w W ∧ Box W w.heap.size c) := fun W hd => ⟨belowThen HW2.out hd.below, HBX2.out.below hd.below⟩
          obtain ⟨q0, q1, q2, q3, q4, q5, q6, q7⟩ := (HBr.out wr HM.out.1).2.cells
          rw [HA7.out] at q7
          by_cases hlt : k < c.n7
          · go_wp2
            go_loopw [9, 11] (fun s9 s11 wi => ∃ (j : Nat) (oj : Bool), s11 = .int .i64 j ∧ s9 = .bool oj ∧ j ≤ k ∧ Hid (Drew w2 wi ∧ oj = (ok && decide (((atP C.names k).1, (atP C.names k).2.1) ∉ C.keys.take j)))) (fun _ s11 _ => k - (intOf s11).toNat)
            case atStart => exact ⟨0, _, rfl, rfl, Nat.zero_le _, hide ⟨HM.out.1, by simp⟩⟩
            case round =>
              clear q0 q1 q2 q3 q4 q5 q6 q7
              rename World => wi
              obtain ⟨j, oj, rfl, rfl, hj, HI⟩ := hrel
              obtain ⟨q0, q1, q2, q3, q4, q5, q6, q7⟩ := (HBr.out _ HI.out.1).2.cells
              rw [HA7.out] at q7
              by_cases hjk : j < k
              · obtain ⟨b, off, ha, hbw, hcell⟩ := HH.out.r7.addr (by rw [cellsS_len, HH.out.l7]; omega)
                rw [HA7.out] at ha
                subst ha
                have hbl := (HBr.out _ HI.out.1).1
                have hat := cellsS_at C.names k (by rw [HH.out.l7]; exact hlt)
                have hau := cellsS_at C.names j (by rw [HH.out.l7]; omega)
                have hc0 := (hbl.cell (p := ⟨b, off + k * 3, none⟩) hbw).trans (hcell _ _ hat.1)
                have hc1 := (hbl.cell (p := ⟨b, off + k * 3 + 1, none⟩) hbw).trans (hcell _ _ hat.2.1)
                have hd0 := (hbl.cell (p := ⟨b, off + j * 3, none⟩) hbw).trans (hcell _ _ hau.1)
                have hd1 := (hbl.cell (p := ⟨b, off + j * 3 + 1, none⟩) hbw).trans (hcell _ _ hau.2.1)
                have HG : Hid (∀ r, r = (oj && decide (((atP C.names k).1, (atP C.names k).2.1) ≠ ((atP C.names j).1, (atP C.names j).2.1))) → r = (ok && decide (((atP C.names k).1, (atP C.names k).2.1) ∉ C.keys.take (j + 1)))) := fun r hr => by
                  rw [hr, key_take C j (by rw [HH.out.l7]; omega), key_in, HI.out.2, Bool.and_assoc]
                have HDr : Hid (∀ q, Drew w2 (wi.drewN q)) := fun q => by
                  obtain ⟨p, hp⟩ := HI.out.1
                  exact ⟨p + q, by rw [hp]; first | rfl | (simp [World.drewN, Nat.add_assoc]; done)⟩
                obtain ⟨x0, HX0⟩ : ∃ x0, Hid (x0 = (atP C.names k).1) := ⟨_, rfl⟩
                obtain ⟨x1, HX1⟩ : ∃ x1, Hid (x1 = (atP C.names k).2.1) := ⟨_, rfl⟩
                obtain ⟨y0, HY0⟩ : ∃ y0, Hid (y0 = (atP C.names j).1) := ⟨_, rfl⟩
                obtain ⟨y1, HY1⟩ : ∃ y1, Hid (y1 = (atP C.names j).2.1) := ⟨_, rfl⟩
                rw [← HX0.out, ← HX1.out, ← HY0.out, ← HY1.out] at HG
                rw [← HX0.out] at hc0
                rw [← HX1.out] at hc1
                rw [← HY0.out] at hd0
                rw [← HY1.out] at hd1
                clear hcell hat hau hbl HY0 HY1
                cases oj with
                | false =>
                  go_wp2
                  go_quiet (fail)
                  go_wp2
                  go_roundw
                  case rel => exact ⟨j + 1, false, by go_num, rfl, by omega, hide ⟨HDr.out _, by rw [← HX0.out, ← HX1.out]; exact HG.out _ rfl⟩⟩
                  case measure => simp [intOf]; omega
                | true =>
                  by_cases e0 : x0 = y0
                  · have e0b : (x0 != y0) = false := by simp [e0]
                    by_cases e1 : x1 = y1
                    · have e1b : (x1 != y1) = false := by simp [e1]
                      have hg := hide (HG.out false (by simp [e0, e1]))
                      clear e0 e1 HG
                      go_wp2
                      go_quiet (fail)
                      go_wp2
                      go_roundw
                      case rel => exact ⟨j + 1, false, by go_num, rfl, by omega, hide ⟨HDr.out _, by rw [← HX0.out, ← HX1.out]; exact hg.out⟩⟩
                      case measure => simp [intOf]; omega
                    · have e1b : (x1 != y1) = true := by simp [e1]
                      have hg := hide (HG.out true (by simp [e1]))
                      clear e0 HG
                      go_wp2
                      go_quiet (fail)
                      go_wp2
                      go_roundw
                      case rel => exact ⟨j + 1, true, by go_num, rfl, by omega, hide ⟨HDr.out _, by rw [← HX0.out, ← HX1.out]; exact hg.out⟩⟩
                      case measure => simp [intOf]; omega
                  · have e0b : (x0 != y0) = true := by simp [e0]
                    have hg := hide (HG.out true (by simp [e0]))
                    clear HG
                    go_wp2
                    go_quiet (fail)
                    go_wp2
                    go_roundw
                    case rel => exact ⟨j + 1, true, by go_num, rfl, by omega, hide ⟨HDr.out _, by rw [← HX0.out, ← HX1.out]; exact hg.out⟩⟩
                    case measure => simp [intOf]; omega
              · obtain rfl : j = k := by omega
                have hg : Hid (oj = (ob && decide (C.keys.take (j + 1)).Nodup)) := by
                  show oj = _
                  rw [HI.out.2, HM.out.2, key_take C j (by rw [HH.out.l7]; exact hlt), nodup_key, Bool.and_assoc]
                go_wp2
                go_roundw
                case rel => exact ⟨j + 1, oj, by go_num, rfl, by omega, hide ⟨HI.out.1, hg.out⟩⟩
                case measure => simp [intOf]; omega
          · obtain rfl : k = c.n7 := by omega
            have HOk : Hid (ok = (C.onceB && C.namedB)) := by
              show ok = _
              rw [HM.out.2, HOB.out, List.take_of_length_le (by unfold Circ.keys; rw [List.length_map, HH.out.l7]; exact Nat.le_refl _)]; rfl
            have HWr := hide (HBr.out wr HM.out.1)
            have HOw := hide (own_below HOwn2.out HM.out.1.below)
            clear HOwn2
            cases ok with
            | false =>
              have hf := hide (HFin.out 10 wr (by unfold Circ.checkI; rw [HLong.out, if_neg (by decide), if_neg (by rw [← HAB.out]; decide), if_pos HOk.out.symm]) HWr.out.1)
              go_wp2
              exact hf.out
            | true =>
              have HOn : Hid (C.onceB = true) := by have := HOk.out.symm; rw [Bool.and_eq_true] at this; exact this.1
              go_wp2_with fail
              refine (HU.out wr HWr.out.1).mono ?_
              rintro e w3 ⟨v3, rfl, hown3, hb3⟩
              obtain ⟨a3, cp3, rfl, hrow3, -, hl3, -, -⟩ := row_of_own hown3
              obtain ⟨ak, cpk, ek, hrowk, -, hlk, -, -⟩ := row_of_own (own_below HOw.out hb3)
              cases ek
              have hkn := known_any _ _ n n C.usesL.length cp3 ks C.usesL w3 hrowk hlk hrow3 rfl (by omega) (by have := HUL.out; omega) (fun l hl => by rw [hlk]; exact uses_low HLits.out HNN.out l hl)
              rw [known_same HLits.out HNN.out HKd.out] at hkn
              have HKn := hide hkn
              have HW3 := hide (belowThen HWr.out.1 hb3)
              have HBX3 := hide (HWr.out.2.below hb3)
              have hso := HSo.out w3 HW3.out HLits.out _ n n ks HNN.out hrowk hlk (kind_three HKd.out HOn.out)
              have HSort := hide hso
              clear hkn hown3 hrow3 hrowk hb3 hso q0 q1 q2 q3 q4 q5 q6 q7 HSo
              obtain ⟨q0, q1, q2, q3, q4, q5, q6, q7⟩ := HBX3.out.cells
              rw [HA7.out] at q7
              obtain ⟨kb, HKB⟩ : ∃ kb, Hid (kb = C.knownB) := ⟨_, rfl⟩
              rw [← HKB.out] at HKn
              go_wp2_with fail
              refine HKn.out.mono ?_
              rintro e w4 ⟨rfl, rfl⟩
              cases kb with
              | false =>
                have hf := hide (HFin.out 8 w4 (by unfold Circ.checkI; rw [HLong.out, if_neg (by decide), if_neg (by rw [← HAB.out]; decide), if_neg (by rw [← HOk.out]; decide), if_pos HKB.out.symm]) HW3.out)
                go_wp2
                exact hf.out
              | true =>
                go_wp2_with fail
                refine HSort.out.mono ?_
                rintro e w5 ⟨hb5, hwhich⟩
                have HW5 := hide (belowThen HW3.out hb5)
                rcases hwhich with ⟨hlen, v, rfl, -⟩ | ⟨hlen, rfl⟩
                · have hf := hide (HFin.out 0 w5 (by unfold Circ.checkI; rw [HLong.out, if_neg (by decide), if_neg (by rw [← HAB.out]; decide), if_neg (by rw [← HOk.out]; decide), if_neg (by rw [← HKB.out]; decide), if_neg (by omega)]) HW5.out)
                  clear hlen hb5
                  go_wp2
                  exact hf.out
                · have hf := hide (HFin.out 9 w5 (by unfold Circ.checkI; rw [HLong.out, if_neg (by decide), if_neg (by rw [← HAB.out]; decide), if_neg (by rw [← HOk.out]; decide), if_neg (by rw [← HKB.out]; decide), if_pos hlen]) HW5.out)
                  clear hlen hb5
                  go_wp2
                  exact hf.out
theorem refCheck_any (c : CV) (C : Circ) (w : World) (h : Holds w c C) (hm63 : I64 c.m) (h1 : c.n1 ≤ 281474976710656) (h2 : c.n2 ≤ 281474976710656) (h3 : c.n3 ≤ 281474976710656) (h4 : c.n4 ≤ 281474976710656) (h5 : c.n5 ≤ 281474976710656) (h6 : c.n6 ≤ 281474976710656) (h7 : c.n7 ≤ 281474976710656) (hN : NamesFit C) :
    Calls Tryz.prog 30 #[c.v] w fun e w' => e = .returned (.int .i64 C.checkI) ∧ Below w.heap.size w w' :=
  refCheck_wide c C w h hm63 (by omega) (by omega) (by omega) (by omega) (by omega) (by omega) (by omega) (fun s hs => Nat.le_trans (hN s hs) (by decide))
end Go.Proofs.YtikjbbebfjleaaaGreatDoor
