/-
  What the reference's Check asks is what the program's asks: no function of the program.
  THE WALK of the reference's Check.
  THE WALKS of the reference's begin and end.
  THE WALK of the reference's end.
  A CIRCUIT THAT THE REFERENCE READS: the reader's block, the circuit's box, the header's row, the rows filled so far; and that a reader which stands at the end stood all along.
-/
import Derived.Test.YtimpddokepbabaaGreatDoorJ48
import Derived.Test.YtimpddokepbabaaGreatDoorJ49
import Derived.Deep.Cut
import Derived.BigQuiet
import Derived.Test.YtimpddokepbabaaGreatDoorJ46
import Derived.Test.YtimpddokepbabaaGreatDoorRd3
import Derived.Test.YtimpddokepbabaaGreatDoorRefNm
namespace Go.Proofs.YtimpddokepbabaaGreatDoor
open Go.RowKit

theorem known_same {C : Circ} {n : Nat} {ks : List Int} (hL : Lits C) (hn : n = C.max.toNat + 1) (hK : Kd n C.kindT ks) : C.usesL.all (knowB ks) = C.knownB := by
  rw [uses_all]
  unfold Circ.knownB
  rw [Bool.eq_iff_iff, List.all_eq_true, List.all_eq_true]
  have key : ∀ l ∈ C.used, (knowB ks l = true ↔ (decide (varN l = 0) || decide (varN l ∈ C.vars)) = true) := fun l hl => by
    have h := hL.lit l hl
    have hm := hL.max
    have hv : varN l < n := by unfold varN; omega
    have h0 := hK.none _ hv
    rw [kindT_vars] at h0
    unfold knowB
    by_cases h1 : 1 < l
    · have hz : varN l ≠ 0 := by unfold varN; omega
      rw [decide_eq_true h1, decide_eq_false hz, Bool.true_and, Bool.false_or]
      by_cases hi : varN l ∈ C.vars
      · rw [decide_eq_true hi, decide_eq_false (fun e => h0.1 e hi)]; simp
      · rw [decide_eq_false hi, decide_eq_true (h0.2 hi)]; simp
    · have hz : varN l = 0 := by unfold varN; omega
      rw [decide_eq_false h1, decide_eq_true hz]; simp
  exact ⟨fun h l hl => (key l hl).1 (h l hl), fun h l hl => (key l hl).2 (h l hl)⟩

theorem uses_low {C : Circ} {n : Nat} (hL : Lits C) (hn : n = C.max.toNat + 1) : ∀ l ∈ C.usesL, varN l < n := fun l hl => by
  have h := hL.lit l ((uses_mem C l).1 hl)
  have hm := hL.max
  unfold varN; omega

theorem kind_three {C : Circ} {n : Nat} {ks : List Int} (hK : Kd n C.kindT ks) (ho : C.onceB = true) : ∀ v, v < n → (atP ks v = 3 ↔ v ∈ C.gates) := fun v hv => by
  have hnd : (C.kindT.map (·.1)).Nodup := by
    rw [kindT_vars]
    unfold Circ.onceB at ho
    exact of_decide_eq_true ho
  have hk := hK.kind hnd
  constructor
  · intro h3
    have hm : v ∈ C.kindT.map (·.1) := by
      refine Decidable.byContradiction (fun hc => ?_)
      have := (hK.none v hv).2 hc
      omega
    obtain ⟨t, ht, rfl⟩ := List.mem_map.1 hm
    have h2 := hk t ht
    rw [h3] at h2
    unfold Circ.kindT at ht
    rcases List.mem_append.1 ht with ht | ht
    · rcases List.mem_append.1 ht with ht | ht
      · obtain ⟨x, -, rfl⟩ := List.mem_map.1 ht
        simp [kI] at h2
      · obtain ⟨x, -, rfl⟩ := List.mem_map.1 ht
        simp [kL] at h2
    · obtain ⟨x, hx, rfl⟩ := List.mem_map.1 ht
      exact List.mem_map.2 ⟨x, hx, rfl⟩
  · intro hg
    obtain ⟨x, hx, rfl⟩ := List.mem_map.1 hg
    exact hk (kA x) (by unfold Circ.kindT; exact List.mem_append_right _ (List.mem_map.2 ⟨x, hx, rfl⟩))


theorem nodup_key (ts : List (Int × Int)) (v : Int × Int) : decide ((ts ++ [v]).Nodup) = (decide ts.Nodup && decide (v ∉ ts)) := by
  rw [Bool.eq_iff_iff]
  simp only [decide_eq_true_eq, Bool.and_eq_true]
  constructor
  · intro h
    obtain ⟨h1, -, h3⟩ := List.nodup_append.1 h
    exact ⟨h1, fun hm => h3 v hm v (by simp) rfl⟩
  · rintro ⟨h1, h2⟩
    exact List.nodup_append.2 ⟨h1, List.nodup_cons.2 ⟨List.not_mem_nil, List.nodup_nil⟩, fun a ha b hb e => by rw [List.mem_singleton] at hb; subst hb; subst e; exact h2 ha⟩
theorem key_take (C : Circ) (k : Nat) (h : k < C.names.length) : C.keys.take (k + 1) = C.keys.take k ++ [((atP C.names k).1, (atP C.names k).2.1)] := by
  unfold Circ.keys
  rw [← List.map_take, ← List.map_take, map_take _ _ _ h]
theorem key_in (ts : List (Int × Int)) (u v : Int × Int) : decide (v ∉ ts ++ [u]) = (decide (v ∉ ts) && decide (v ≠ u)) := by
  rw [Bool.eq_iff_iff]
  simp

theorem long_not {C : Circ} (h1 : C.ins.length ≤ 64) (h2 : C.lats.length ≤ 64) (h3 : C.outs.length ≤ 64) (h4 : C.bads.length ≤ 64) (h5 : C.cons.length ≤ 64) (hm : C.max ≤ 5000) (h6 : C.ands.length ≤ 2000) : C.longB = decide (C.ins.length + C.lats.length + C.outs.length + C.bads.length + C.cons.length < C.names.length) := by
  unfold Circ.longB
  have hs : C.ports.sum = C.ins.length + C.lats.length + C.outs.length + C.bads.length + C.cons.length := by
    show C.ins.length + (C.lats.length + (C.outs.length + (C.bads.length + (C.cons.length + 0)))) = _
    omega
  rw [hs]
  unfold Circ.ports
  simp only [List.any_cons, List.any_nil]
  rw [decide_eq_false (show ¬ 64 < C.ins.length by omega), decide_eq_false (show ¬ 64 < C.lats.length by omega), decide_eq_false (show ¬ 64 < C.outs.length by omega), decide_eq_false (show ¬ 64 < C.bads.length by omega), decide_eq_false (show ¬ 64 < C.cons.length by omega), decide_eq_false (show ¬ 5000 < C.max by omega), decide_eq_false (show ¬ 2000 < C.ands.length by omega)]
  rfl
theorem long_yes {C : Circ} (h : 64 < C.ins.length ∨ 64 < C.lats.length ∨ 64 < C.outs.length ∨ 64 < C.bads.length ∨ 64 < C.cons.length ∨ 5000 < C.max ∨ 2000 < C.ands.length) : C.longB = true := by
  unfold Circ.longB Circ.ports
  simp only [List.any_cons, List.any_nil, Bool.or_eq_true, decide_eq_true_eq]
  omega
end Go.Proofs.YtimpddokepbabaaGreatDoor

namespace Go.Proofs.YtimpddokepbabaaGreatDoor
open Go.RowKit

set_option maxRecDepth 100000 in
set_option maxHeartbeats 4000000 in
theorem refCheck_wide (c : CV) (C : Circ) (w : World) (h : Holds w c C) (hm63 : I64 c.m) (h1 : c.n1 ≤ 9223372036854775807) (h2 : c.n2 ≤ 9223372036854775807) (h3 : c.n3 ≤ 9223372036854775807) (h4 : c.n4 ≤ 9223372036854775807) (h5 : c.n5 ≤ 9223372036854775807) (h6 : c.n6 ≤ 9223372036854775807) (h7 : c.n7 ≤ 9223372036854775807) (hN : NamesWide C) :
    Calls Tryz.prog 30 #[c.v] w fun e w' => e = .returned (.int .i64 C.checkI) ∧ Below w.heap.size w w' := by
  have HB := hide (And.intro (below_alloc w (.cells #[.int .i64 c.m, .slice c.a1 c.n1 c.c1, .slice c.a2 c.n2 c.c2, .slice c.a3 c.n3 c.c3, .slice c.a4 c.n4 c.c4, .slice c.a5 c.n5 c.c5, .slice c.a6 c.n6 c.c6, .slice c.a7 c.n7 c.c7] 29)) (box_new w c))
  have HYes : Hid ((64 < c.n1 ∨ 64 < c.n2 ∨ 64 < c.n3 ∨ 64 < c.n4 ∨ 64 < c.n5 ∨ 5000 < c.m ∨ 2000 < c.n6) → C.longB = true) := fun hh => long_yes (by rw [h.l1, h.l2, h.l3, h.l4, h.l5, h.l6, ← h.m]; exact hh)
  have HNo : Hid (c.n1 ≤ 64 → c.n2 ≤ 64 → c.n3 ≤ 64 → c.n4 ≤ 64 → c.n5 ≤ 64 → c.m ≤ 5000 → c.n6 ≤ 2000 → C.longB = decide (c.n1 + c.n2 + c.n3 + c.n4 + c.n5 < c.n7)) := fun a1 a2 a3 a4 a5 am a6 => by
    have := long_not (C := C) (by rw [h.l1]; exact a1) (by rw [h.l2]; exact a2) (by rw [h.l3]; exact a3) (by rw [h.l4]; exact a4) (by rw [h.l5]; exact a5) (by rw [← h.m]; exact am) (by rw [h.l6]; exact a6)
    rw [this, h.l1, h.l2, h.l3, h.l4, h.l5, h.l7]
  have HH := hide h
  have HN := hide hN
  have HM63 := hide hm63
  generalize hP : (fun (e : Ending) (w' : World) => e = .returned (.int .i64 C.checkI) ∧ Below w.heap.size w w') = Post
  have HP := hide hP
  clear h hN hP hm63
  unfold CV.v
  go_enter Tryz.func30, Tryz.ntmps30
  go_upto_region 6 with fail
  go_cut [72] from 29 to 71 (fun s wx => s = .bool C.longB ∧ Hid (Below w.heap.size w wx ∧ Box wx w.heap.size c))
  case first =>
    by_cases hmx : 5000 < c.m
    · have e := hide (HYes.out (by omega))
      go_wp2_with fail
      go_meet
      exact ⟨by rw [e.out], HB.out⟩
    · by_cases g1 : (64 : Int) < c.n1
      · have e := hide (HYes.out (by omega))
        go_wp2_with fail
        go_meet
        exact ⟨by rw [e.out], HB.out⟩
      · by_cases g2 : (64 : Int) < c.n2
        · have e := hide (HYes.out (by omega))
          go_wp2_with fail
          go_meet
          exact ⟨by rw [e.out], HB.out⟩
        · by_cases g3 : (64 : Int) < c.n3
          · have e := hide (HYes.out (by omega))
            go_wp2_with fail
            go_meet
            exact ⟨by rw [e.out], HB.out⟩
          · by_cases g4 : (64 : Int) < c.n4
            · have e := hide (HYes.out (by omega))
              go_wp2_with fail
              go_meet
              exact ⟨by rw [e.out], HB.out⟩
            · by_cases g5 : (64 : Int) < c.n5
              · have e := hide (HYes.out (by omega))
                go_wp2_with fail
                go_meet
                exact ⟨by rw [e.out], HB.out⟩
              · by_cases g6 : (2000 : Int) < c.n6
                · have e := hide (HYes.out (by omega))
                  go_wp2_with fail
                  go_meet
                  exact ⟨by rw [e.out], HB.out⟩
                · by_cases g7 : (c.n1 : Int) + c.n2 + c.n3 + c.n4 + c.n5 < c.n7
                  · have e := hide ((HNo.out (by omega) (by omega) (by omega) (by omega) (by omega) (by omega) (by omega)).trans (decide_eq_true (by omega)))
                    go_wp2_with fail
                    go_meet
                    exact ⟨by rw [e.out], HB.out⟩
                  · have e := hide ((HNo.out (by omega) (by omega) (by omega) (by omega) (by omega) (by omega) (by omega)).trans (decide_eq_false (by omega)))
                    go_wp2_with fail
                    go_meet
                    exact ⟨by rw [e.out], HB.out⟩
  case rest =>
    rename World => wx
    obtain ⟨rfl, HX⟩ := hcut
    clear HB HYes HNo
    by_cases hlong : C.longB = true
    · have hfin : Hid (Post (.returned (.int .i64 3)) wx) := by
        show Post _ wx
        rw [← HP.out]
        exact ⟨by unfold Circ.checkI; rw [if_pos hlong], HX.out.1⟩
      rw [hlong]
      go_wp2
      exact hfin.out
    · replace hlong : C.longB = false := by simpa using hlong
      have hS := small_of hlong
      have h7s : c.n7 ≤ 320 := by rw [← HH.out.l7]; exact hS.names
      have HArgs := hide (args_any c C wx (HH.out.below HX.out.1) hS HM63.out.1 HN.out)
      have HK := hide (fun W (hb : Below w.heap.size w W) (hL : Lits C) => kinds_any c C W (HH.out.below hb) hS hL)
      have HU := hide (fun W (hb : Below w.heap.size w W) => uses_any c C W (HH.out.below hb) hS)
      have HSo := hide (fun W (hb : Below w.heap.size w W) (hL : Lits C) a n cp ks hn hr hkl hK => sort_any c C a n cp ks W (HH.out.below hb) hS hL hn hr hkl hK)
      have hmx := hS.max
      obtain ⟨n, hn⟩ : ∃ n, n = C.max.toNat + 1 := ⟨_, rfl⟩
      have hn5 : n ≤ 5001 := by omega
      rw [← hn] at HK
      have HNN := hide hn
      have HUL : Hid (C.usesL.length ≤ 5000) := by
        have e1 := hS.lats
        have e2 := hS.outs
        have e3 := hS.bads
        have e4 := hS.cons
        have e5 := hS.ands
        have e6 : ∀ l : List Tri, (l.flatMap (fun a => [a.2.1, a.2.2])).length = 2 * l.length := fun l => by
          induction l with
          | nil => rfl
          | cons a l ih => rw [List.flatMap_cons, List.length_append, ih]; simp; omega
        show C.usesL.length ≤ 5000
        unfold Circ.usesL
        simp only [List.length_append, List.length_map, e6]
        omega
      rw [args_same] at HArgs
      obtain ⟨ab, HAB⟩ : ∃ ab, Hid (ab = (C.litsB && C.namesB)) := ⟨_, rfl⟩
      rw [← HAB.out] at HArgs
      have HFin : Hid (∀ r W, C.checkI = r → Below w.heap.size w W → Post (.returned (.int .i64 r)) W) := fun r W hr hW => by rw [← HP.out]; exact ⟨by rw [hr], hW⟩
      rw [hlong]
      have HLong := hide hlong
      obtain ⟨q0, q1, q2, q3, q4, q5, q6, q7⟩ := HX.out.2.cells
      unfold CV.v at HArgs HK HU HSo
      generalize hA7 : c.a7 = A7 at HArgs HK HU HSo q7 ⊢
      have HA7 := hide hA7
      clear hA7 hn hmx hS hlong
      go_wp2_with fail
      refine HArgs.out.mono ?_
      rintro e w1 ⟨rfl, hb1⟩
      have HW1 := hide (belowThen HX.out.1 hb1)
      have HBX1 := hide (HX.out.2.below hb1)
      clear hb1 q0 q1 q2 q3 q4 q5 q6 q7 HArgs HX
      obtain ⟨q0, q1, q2, q3, q4, q5, q6, q7⟩ := HBX1.out.cells
      rw [HA7.out] at q7
      cases ab with
      | false =>
        have hf := hide (HFin.out 1 w1 (by unfold Circ.checkI; rw [HLong.out, if_neg (by decide), if_pos HAB.out.symm]) HW1.out)
        go_wp2
        exact hf.out
      | true =>
        have HLits : Hid (Lits C) := lits_of (by have := HAB.out.symm; rw [Bool.and_eq_true] at this; exact this.1)
        go_wp2_with fail
        refine (HK.out w1 HW1.out HLits.out).mono ?_
        rintro e w2 ⟨hb2, g, ks, rfl, hkd, hown2⟩
        have HW2 := hide (belowThen HW1.out hb2)
        have HBX2 := hide (HBX1.out.below hb2)
        have HKd := hide hkd
        have HOwn2 := hide hown2
        clear hb2 hkd hown2 HK q0 q1 q2 q3 q4 q5 q6 q7 HBX1
        obtain ⟨q0, q1, q2, q3, q4, q5, q6, q7⟩ := HBX2.out.cells
        rw [HA7.out] at q7
        obtain ⟨ob, HOB⟩ : ∃ ob, Hid (ob = C.onceB) := ⟨_, rfl⟩
        rw [← HOB.out]
        go_wp2
        clear q0 q1 q2 q3 q4 q5 q6 q7
        go_loopw [9, 10, 11] (fun s9 s10 _ wr => ∃ (k : Nat) (ok : Bool), s10 = .int .i64 k ∧ s9 = .bool ok ∧ k ≤ c.n7 ∧ Hid (Drew w2 wr ∧ ok = (ob && decide (C.keys.take k).Nodup))) (fun _ s10 _ _ => c.n7 - (intOf s10).toNat)
        case atStart => exact ⟨0, _, rfl, rfl, Nat.zero_le _, hide ⟨⟨0, rfl⟩, by simp⟩⟩
        case round =>
          obtain ⟨k, ok, rfl, rfl, hk, HM⟩ := hrel
          have HBr : Hid (∀ W, Drew w2 W → Below w.heap.size w W ∧ Box W w.heap.size c) := fun W hd => ⟨belowThen HW2.out hd.below, HBX2.out.below hd.below⟩
          obtain ⟨q0, q1, q2, q3, q4, q5, q6, q7⟩ := (HBr.out wr HM.out.1).2.cells
          rw [HA7.out] at q7
          by_cases hlt : k < c.n7
          · go_wp2
            go_loopw [9, 11] (fun s9 s11 wi => ∃ (j : Nat) (oj : Bool), s11 = .int .i64 j ∧ s9 = .bool oj ∧ j ≤ k ∧ Hid (Drew w2 wi ∧ oj = (ok && decide (((atP C.names k).1, (atP C.names k).2.1) ∉ C.keys.take j)))) (fun _ s11 _ => k - (intOf s11).toNat)
            case atStart => exact ⟨0, _, rfl, rfl, Nat.zero_le _, hide ⟨HM.out.1, by simp⟩⟩
            case round =>
              clear q0 q1 q2 q3 q4 q5 q6 q7
              rename World => wi
              obtain ⟨j, oj, rfl, rfl, hj, HI⟩ := hrel
              obtain ⟨q0, q1, q2, q3, q4, q5, q6, q7⟩ := (HBr.out _ HI.out.1).2.cells
              rw [HA7.out] at q7
              by_cases hjk : j < k
              · obtain ⟨b, off, ha, hbw, hcell⟩ := HH.out.r7.addr (by rw [cellsS_len, HH.out.l7]; omega)
                rw [HA7.out] at ha
                subst ha
                have hbl := (HBr.out _ HI.out.1).1
                have hat := cellsS_at C.names k (by rw [HH.out.l7]; exact hlt)
                have hau := cellsS_at C.names j (by rw [HH.out.l7]; omega)
                have hc0 := (hbl.cell (p := ⟨b, off + k * 3, none⟩) hbw).trans (hcell _ _ hat.1)
                have hc1 := (hbl.cell (p := ⟨b, off + k * 3 + 1, none⟩) hbw).trans (hcell _ _ hat.2.1)
                have hd0 := (hbl.cell (p := ⟨b, off + j * 3, none⟩) hbw).trans (hcell _ _ hau.1)
                have hd1 := (hbl.cell (p := ⟨b, off + j * 3 + 1, none⟩) hbw).trans (hcell _ _ hau.2.1)
                have HG : Hid (∀ r, r = (oj && decide (((atP C.names k).1, (atP C.names k).2.1) ≠ ((atP C.names j).1, (atP C.names j).2.1))) → r = (ok && decide (((atP C.names k).1, (atP C.names k).2.1) ∉ C.keys.take (j + 1)))) := fun r hr => by
                  rw [hr, key_take C j (by rw [HH.out.l7]; omega), key_in, HI.out.2, Bool.and_assoc]
                have HDr : Hid (∀ q, Drew w2 (wi.drewN q)) := fun q => by
                  obtain ⟨p, hp⟩ := HI.out.1
                  exact ⟨p + q, by rw [hp]; first | rfl | (simp [World.drewN, Nat.add_assoc]; done)⟩
                obtain ⟨x0, HX0⟩ : ∃ x0, Hid (x0 = (atP C.names k).1) := ⟨_, rfl⟩
                obtain ⟨x1, HX1⟩ : ∃ x1, Hid (x1 = (atP C.names k).2.1) := ⟨_, rfl⟩
                obtain ⟨y0, HY0⟩ : ∃ y0, Hid (y0 = (atP C.names j).1) := ⟨_, rfl⟩
                obtain ⟨y1, HY1⟩ : ∃ y1, Hid (y1 = (atP C.names j).2.1) := ⟨_, rfl⟩
                rw [← HX0.out, ← HX1.out, ← HY0.out, ← HY1.out] at HG
                rw [← HX0.out] at hc0
                rw [← HX1.out] at hc1
                rw [← HY0.out] at hd0
                rw [← HY1.out] at hd1
                clear hcell hat hau hbl HY0 HY1
                cases oj with
                | false =>
                  go_wp2
                  go_quiet (fail)
                  go_wp2
                  go_roundw
                  case rel => exact ⟨j + 1, false, by go_num, rfl, by omega, hide ⟨HDr.out _, by rw [← HX0.out, ← HX1.out]; exact HG.out _ rfl⟩⟩
                  case measure => simp [intOf]; omega
                | true =>
                  by_cases e0 : x0 = y0
                  · have e0b : (x0 != y0) = false := by simp [e0]
                    by_cases e1 : x1 = y1
                    · have e1b : (x1 != y1) = false := by simp [e1]
                      have hg := hide (HG.out false (by simp [e0, e1]))
                      clear e0 e1 HG
                      go_wp2
                      go_quiet (fail)
                      go_wp2
                      go_roundw
                      case rel => exact ⟨j + 1, false, by go_num, rfl, by omega, hide ⟨HDr.out _, by rw [← HX0.out, ← HX1.out]; exact hg.out⟩⟩
                      case measure => simp [intOf]; omega
                    · have e1b : (x1 != y1) = true := by simp [e1]
                      have hg := hide (HG.out true (by simp [e1]))
                      clear e0 HG
                      go_wp2
                      go_quiet (fail)
                      go_wp2
                      go_roundw
                      case rel => exact ⟨j + 1, true, by go_num, rfl, by omega, hide ⟨HDr.out _, by rw [← HX0.out, ← HX1.out]; exact hg.out⟩⟩
                      case measure => simp [intOf]; omega
                  · have e0b : (x0 != y0) = true := by simp [e0]
                    have hg := hide (HG.out true (by simp [e0]))
                    clear HG
                    go_wp2
                    go_quiet (fail)
                    go_wp2
                    go_roundw
                    case rel => exact ⟨j + 1, true, by go_num, rfl, by omega, hide ⟨HDr.out _, by rw [← HX0.out, ← HX1.out]; exact hg.out⟩⟩
                    case measure => simp [intOf]; omega
              · obtain rfl : j = k := by omega
                have hg : Hid (oj = (ob && decide (C.keys.take (j + 1)).Nodup)) := by
                  show oj = _
                  rw [HI.out.2, HM.out.2, key_take C j (by rw [HH.out.l7]; exact hlt), nodup_key, Bool.and_assoc]
                go_wp2
                go_roundw
                case rel => exact ⟨j + 1, oj, by go_num, rfl, by omega, hide ⟨HI.out.1, hg.out⟩⟩
                case measure => simp [intOf]; omega
          · obtain rfl : k = c.n7 := by omega
            have HOk : Hid (ok = (C.onceB && C.namedB)) := by
              show ok = _
              rw [HM.out.2, HOB.out, List.take_of_length_le (by unfold Circ.keys; rw [List.length_map, HH.out.l7]; exact Nat.le_refl _)]; rfl
            have HWr := hide (HBr.out wr HM.out.1)
            have HOw := hide (own_below HOwn2.out HM.out.1.below)
            clear HOwn2
            cases ok with
            | false =>
              have hf := hide (HFin.out 10 wr (by unfold Circ.checkI; rw [HLong.out, if_neg (by decide), if_neg (by rw [← HAB.out]; decide), if_pos HOk.out.symm]) HWr.out.1)
              go_wp2
              exact hf.out
            | true =>
              have HOn : Hid (C.onceB = true) := by have := HOk.out.symm; rw [Bool.and_eq_true] at this; exact this.1
              go_wp2_with fail
              refine (HU.out wr HWr.out.1).mono ?_
              rintro e w3 ⟨v3, rfl, hown3, hb3⟩
              obtain ⟨a3, cp3, rfl, hrow3, -, hl3, -, -⟩ := row_of_own hown3
              obtain ⟨ak, cpk, ek, hrowk, -, hlk, -, -⟩ := row_of_own (own_below HOw.out hb3)
              cases ek
              have hkn := known_any _ _ n n C.usesL.length cp3 ks C.usesL w3 hrowk hlk hrow3 rfl (by omega) (by have := HUL.out; omega) (fun l hl => by rw [hlk]; exact uses_low HLits.out HNN.out l hl)
              rw [known_same HLits.out HNN.out HKd.out] at hkn
              have HKn := hide hkn
              have HW3 := hide (belowThen HWr.out.1 hb3)
              have HBX3 := hide (HWr.out.2.below hb3)
              have hso := HSo.out w3 HW3.out HLits.out _ n n ks HNN.out hrowk hlk (kind_three HKd.out HOn.out)
              have HSort := hide hso
              clear hkn hown3 hrow3 hrowk hb3 hso q0 q1 q2 q3 q4 q5 q6 q7 HSo
              obtain ⟨q0, q1, q2, q3, q4, q5, q6, q7⟩ := HBX3.out.cells
              rw [HA7.out] at q7
              obtain ⟨kb, HKB⟩ : ∃ kb, Hid (kb = C.knownB) := ⟨_, rfl⟩
              rw [← HKB.out] at HKn
              go_wp2_with fail
              refine HKn.out.mono ?_
              rintro e w4 ⟨rfl, rfl⟩
              cases kb with
              | false =>
                have hf := hide (HFin.out 8 w4 (by unfold Circ.checkI; rw [HLong.out, if_neg (by decide), if_neg (by rw [← HAB.out]; decide), if_neg (by rw [← HOk.out]; decide), if_pos HKB.out.symm]) HW3.out)
                go_wp2
                exact hf.out
              | true =>
                go_wp2_with fail
                refine HSort.out.mono ?_
                rintro e w5 ⟨hb5, hwhich⟩
                have HW5 := hide (belowThen HW3.out hb5)
                rcases hwhich with ⟨hlen, v, rfl, -⟩ | ⟨hlen, rfl⟩
                · have hf := hide (HFin.out 0 w5 (by unfold Circ.checkI; rw [HLong.out, if_neg (by decide), if_neg (by rw [← HAB.out]; decide), if_neg (by rw [← HOk.out]; decide), if_neg (by rw [← HKB.out]; decide), if_neg (by omega)]) HW5.out)
                  clear hlen hb5
                  go_wp2
                  exact hf.out
                · have hf := hide (HFin.out 9 w5 (by unfold Circ.checkI; rw [HLong.out, if_neg (by decide), if_neg (by rw [← HAB.out]; decide), if_neg (by rw [← HOk.out]; decide), if_neg (by rw [← HKB.out]; decide), if_pos hlen]) HW5.out)
                  clear hlen hb5
                  go_wp2
                  exact hf.out
theorem refCheck_any (c : CV) (C : Circ) (w : World) (h : Holds w c C) (hm63 : I64 c.m) (h1 : c.n1 ≤ 281474976710656) (h2 : c.n2 ≤ 281474976710656) (h3 : c.n3 ≤ 281474976710656) (h4 : c.n4 ≤ 281474976710656) (h5 : c.n5 ≤ 281474976710656) (h6 : c.n6 ≤ 281474976710656) (h7 : c.n7 ≤ 281474976710656) (hN : NamesFit C) :
    Calls Tryz.prog 30 #[c.v] w fun e w' => e = .returned (.int .i64 C.checkI) ∧ Below w.heap.size w w' :=
  refCheck_wide c C w h hm63 (by omega) (by omega) (by omega) (by omega) (by omega) (by omega) (by omega) (fun s hs => Nat.le_trans (hN s hs) (by decide))
end Go.Proofs.YtimpddokepbabaaGreatDoor

namespace Go.Proofs.YtimpddokepbabaaGreatDoor
open Go.RowKit

/-- What stands behind the word; the error of a beginning. -/
def restW (word : List UInt8) (xs : List Int) : ByteArray := ⟨((lineS xs (some 0)).1.data.toList.drop (word.length + 1)).toArray⟩
def begE (word : List UInt8) (xs : List Int) : Int := if Lib.hasPrefix (lineS xs (some 0)).1.data.toList (word ++ [32]) = true then hdrE (restW word xs) else 2
/-- WHAT begin TELLS. -/
def BegR (p : Nat) (a : Option Addr) (n c : Nat) (xs : List Int) (word : List UInt8) (w : World) (e : Ending) (w' : World) : Prop :=
  ∃ v, e = .returned v ∧ ((begE word xs = 0 ∧ OwnI w.heap.size w' v (hdrL (restW word xs)) ∧ WentR p a n c xs (rTop (hdrL (restW word xs))) w (lineS xs (some 0)).2 w') ∨ (begE word xs ≠ 0 ∧ Two p p w w' ∧ w'.cell? ⟨p, 3, none⟩ = some (.int .i64 (begE word xs))))

theorem cell_set_at {w : World} {p : Nat} {cs : Array Value} {t : TypeId} {r : Nat × Nat} (h : w.heap[p]? = some (.cells cs t r)) (j : Nat) (v u : Value) (hj : cs[j]? = some u) : (w.setCell ⟨p, j, none⟩ v).cell? ⟨p, j, none⟩ = some v := by
  have hc : w.cell? ⟨p, j, none⟩ = some u := by simp [World.cell?, h, hj]
  simp [World.cell?_setCell_same, hc]

set_option maxRecDepth 100000 in
set_option maxHeartbeats 2000000 in
theorem refBegin_any (p : Nat) (a : Option Addr) (n c : Nat) (xs : List Int) (word : ByteArray) (hwz : word.size ≤ 100) (w : World) (h : RdR p a n c xs 0 (some 0) w) :
    Calls Tryz.prog 39 #[.pointer (some ⟨p, 0, none⟩), .string word] w (BegR p a n c xs word.data.toList w) := by
  have H0 := hide h
  obtain ⟨k, hk, c0, c1, c2, c3⟩ := h.cells
  obtain rfl := hk 0 rfl
  rw [show errR (some 0) = 0 from rfl] at c3
  have hln := h.len
  have hsm := h.small
  have f1 := h.free 1
  have f2 := h.free 2
  have f3 := h.free 3
  have HFail : Hid (∀ E : Int, E ≠ 0 → begE word.data.toList xs = E → ∀ w1, WentR p a n c xs 0 w (some 0) w1 ∨ (∃ j, WentR p a n c xs 0 w (some j) w1) → ∀ v, BegR p a n c xs word.data.toList w (.returned v) (w1.setCell ⟨p, 3, none⟩ (.int .i64 E))) := fun E hE he w1 hw v => by
    have hw : ∃ j, WentR p a n c xs 0 w (some j) w1 := hw.elim (fun q => ⟨0, q⟩) id
    obtain ⟨j, hw⟩ := hw
    obtain ⟨kk, b1, -⟩ := hw.1.blk
    exact ⟨v, rfl, .inr ⟨by rw [he]; exact hE, hw.2.setL 3 _, by rw [he]; exact cell_set_at b1 3 _ _ rfl⟩⟩
  have hdr := hide (fun q => (WentR.drewN H0.out q).1)
  rcases hit_or_miss xs 0 with ⟨d, hd⟩ | hm
  · have hjd : 0 + d + 1 ≤ n := by have := hd.1; omega
    have HC := hide (refLine_hit a n c 0 d xs w h.text h.len h.cap (by omega) hd)
    have hlS : lineS xs (some 0) = (strOfNums ((xs.drop 0).take d), some (0 + d + 1)) := lineS_yes (lineO_hit hd)
    have hszS : (strOfNums ((xs.drop 0).take d)).size ≤ 100000 := by rw [strOfNums_size, List.length_take, List.length_drop]; omega
    have HB := hide (fun W => refBegins_any (strOfNums ((xs.drop 0).take d)) (word ++ ⟨#[32]⟩) W)
    rw [append32] at HB
    have hbe : begE word.data.toList xs = if Lib.hasPrefix (strOfNums ((xs.drop 0).take d)).data.toList (word.data.toList ++ [32]) = true then hdrE (restW word.data.toList xs) else 2 := by
      unfold begE; rw [hlS]
    have hrest : restW word.data.toList xs = (strOfNums ((xs.drop 0).take d)).extract (word.size + 1) (strOfNums ((xs.drop 0).take d)).size := by
      unfold restW
      rw [hlS]
      apply ByteArray.ext
      apply Array.toList_inj.1
      rw [Lib.extract_to_end, Lib.size_eq word]
    have hpl : Lib.hasPrefix (strOfNums ((xs.drop 0).take d)).data.toList (word.data.toList ++ [32]) = true → word.size + 1 ≤ (strOfNums ((xs.drop 0).take d)).size := fun e => by
      unfold Lib.hasPrefix at e
      rw [List.isPrefixOf_iff_prefix] at e
      have := e.length_le
      rw [List.length_append, List.length_singleton] at this
      have h1 := Lib.size_eq word
      have h2 := Lib.size_eq (strOfNums ((xs.drop 0).take d))
      omega
    have e1 : ((0 : Nat) : Int) + (d : Int) + 1 = (d : Int) + 1 := by omega
    rw [e1] at HC
    have e2 : 0 + d + 1 = d + 1 := by omega
    rw [e2] at hlS
    have HDn : Hid (∀ H v w1, OwnI w.heap.size w1 v H → Below w.heap.size w w1 → H = hdrL (restW word.data.toList xs) → begE word.data.toList xs = 0 → BegR p a n c xs word.data.toList w (.returned v) ((w1.setCell ⟨p, 1, none⟩ (.int .i64 ((d : Int) + 1))).setCell ⟨p, 2, none⟩ (.int .i64 (2 * H.getD 0 0 + 1)))) := fun H v w1 ho hb he hz => by
      have m := (H0.out.below hb).move (d + 1) (by omega)
      rw [show ((d + 1 : Nat) : Int) = (d : Int) + 1 by omega] at m
      have m2 := m.1.topped (2 * H.getD 0 0 + 1)
      have t : Two p p w1 ((w1.setCell ⟨p, 1, none⟩ (.int .i64 ((d : Int) + 1))).setCell ⟨p, 2, none⟩ (.int .i64 (2 * H.getD 0 0 + 1))) := m.2.trans m2.2
      refine ⟨v, rfl, .inl ⟨hz, ?_, ?_⟩⟩
      · rw [← he]; exact own_two ho t H0.out.lt H0.out.lt
      · rw [hlS, ← he]; exact ⟨m2.1, (Two.of_below hb).trans t⟩
    clear hlS e1 e2
    generalize hP : BegR p a n c xs word.data.toList w = Post at HFail HDn ⊢
    have HP := hide hP
    clear hP
    generalize strOfNums ((xs.drop 0).take d) = S at *
    cases hB : Lib.hasPrefix S.data.toList (word.data.toList ++ [32]) with
    | false =>
      rw [hB] at HB
      rw [hB, if_neg (by decide)] at hbe
      have HBe := hide hbe
      have HW := hide (WentR.refl H0.out)
      clear h hk hd hB hpl hrest hbe hdr
      go_enter Tryz.func39, Tryz.ntmps39
      go_wp2_with (first | (go_at_call 81; refine HC.out.mono ?_; rintro e w1 ⟨rfl, rfl⟩) | (go_at_call 57; refine (HB.out _).mono ?_; rintro e w1 ⟨rfl, rfl⟩))
      exact HFail.out 2 (by decide) HBe.out _ (.inl HW.out) _
    | true =>
      rw [hB] at HB
      rw [hB, if_pos rfl] at hbe
      have hsz := hpl hB
      have hsz1 : (word.size : Int) + 1 ≤ (S.size : Int) := by omega
      have HHd := hide (fun W => refHeader_any (restW word.data.toList xs) W (by rw [hrest]; rw [ByteArray.size_extract]; omega))
      rw [hrest] at HHd hbe HDn
      have HBe := hide hbe
      clear h hk hd hB hpl hrest hbe hdr
      generalize hR : S.extract (word.size + 1) S.size = R at *
      by_cases hE : hdrE R = 0
      · have hf := hide (hdr_fit hE)
        rw [hE] at HHd HBe
        clear hE
        generalize hdrL R = H at *
        have HL9 := hide hf.out.len
        have b0 := hf.out.pos 0
        have b1 := hf.out.b0
        obtain ⟨y, hy⟩ : ∃ y, y = H.getD 0 0 := ⟨_, rfl⟩
        have HY := hide hy
        rw [← hy] at b0 b1
        clear hy
        go_enter Tryz.func39, Tryz.ntmps39
        go_wp2_with (first | (go_at_call 81; refine HC.out.mono ?_; rintro e w1 ⟨rfl, rfl⟩) | (go_at_call 57; refine (HB.out _).mono ?_; rintro e w1 ⟨rfl, rfl⟩) | (go_at_call 17; refine (HHd.out _).mono ?_; rintro e w1 ⟨v, rfl, ho, hb⟩; have HO := hide ho; have HBl := hide hb; obtain ⟨hg, cap, rfl, hc, hgb⟩ := ownI_at ho HL9.out (by omega); have e0 := hc 0 (by omega); rw [← HY.out] at e0; have hgp : p ≠ hg := (by have := H0.out.lt; omega); have g1 := (H0.out.below hb).free 1; have g2 := (H0.out.below hb).free 2; obtain ⟨kq, hkq, r0, r1, r2, r3⟩ := (H0.out.below hb).cells; clear ho hb hc hgb hkq r0 r3))
        have hfin := HDn.out H _ w1 HO.out HBl.out rfl HBe.out
        rw [← HY.out] at hfin
        exact hfin
      · generalize hdrE R = E at *
        generalize hdrL R = H at *
        have hE1 : (E == 0) = false := by rw [beq_eq_false_iff_ne]; exact hE
        have hE2 : (E != 0) = true := by rw [bne, hE1]; rfl
        have HNe := hide hE
        clear hE
        go_enter Tryz.func39, Tryz.ntmps39
        go_wp2_with (first | (go_at_call 81; refine HC.out.mono ?_; rintro e w1 ⟨rfl, rfl⟩) | (go_at_call 57; refine (HB.out _).mono ?_; rintro e w1 ⟨rfl, rfl⟩) | (go_at_call 17; refine (HHd.out _).mono ?_; rintro e w1 ⟨v, rfl, ho, hb⟩; have HW := hide ((WentR.refl H0.out).below hb); have g3 := HW.out.1.free 3; obtain ⟨kq, hkq, r0, r1, r2, r3⟩ := HW.out.1.cells; clear ho hb hkq r0 r1 r2))
        exact HFail.out E HNe.out HBe.out _ (.inl HW.out) _
  · have HC := hide (refLine_miss a n c 0 xs w h.text h.len (by omega) (Nat.zero_le _) hm)
    have hlS : lineS xs (some 0) = (⟨#[]⟩, none) := lineS_no (lineO_miss hm)
    have hbe : begE word.data.toList xs = 2 := by
      unfold begE
      rw [hlS, if_neg]
      show ¬ Lib.hasPrefix [] (word.data.toList ++ [32]) = true
      unfold Lib.hasPrefix
      rw [List.isPrefixOf_iff_prefix]
      intro e
      have := e.length_le
      simp at this
    have HBe := hide hbe
    have HW := hide (WentR.refl H0.out)
    generalize BegR p a n c xs word.data.toList w = Post at HFail ⊢
    clear h hk hm hlS hbe hdr
    go_enter Tryz.func39, Tryz.ntmps39
    go_wp2_with (first | (go_at_call 81; refine HC.out.mono ?_; rintro e w1 ⟨rfl, rfl⟩))
    exact HFail.out 2 (by decide) HBe.out _ (.inl HW.out) _
end Go.Proofs.YtimpddokepbabaaGreatDoor

namespace Go.Proofs.YtimpddokepbabaaGreatDoor
open Go.RowKit

/-- WHAT end TELLS of a circuit d that holds CC where the reader has not failed. -/
def endE (CC : Circ) (st : Option Nat) : Int := if st.isSome = true then toldI CC.checkI else 2
theorem told_cases (e : Int) : (toldI e = 0 ∧ e = 0) ∨ (toldI e = e ∧ e = 9) ∨ (toldI e = e ∧ e = 10) ∨ (toldI e = e ∧ e = 8) ∨ (toldI e = 2 ∧ e ≠ 0 ∧ e ≠ 9 ∧ e ≠ 10 ∧ e ≠ 8) := by
  unfold toldI
  by_cases h : e = 0 ∨ e = 8 ∨ e = 9 ∨ e = 10
  · rw [if_pos h]; omega
  · rw [if_neg h]; omega
/-- A reader's cell, when a circuit's box is written anew. -/
theorem put_far {W : World} {b q j : Nat} {u : Value} (d : CV) (hne : q ≠ b) (h : W.cell? ⟨q, j, none⟩ = some u) : (putBox W b d).cell? ⟨q, j, none⟩ = some u := two_cell (two_put W b d) h hne hne

theorem drew_cell (w : World) (x : Addr) : w.drew.cell? x = w.cell? x := rfl
theorem Box.drew {W : World} {b : Nat} {d : CV} (h : Box W b d) : Box W.drew b d := h
theorem nil_far {W : World} {b q j : Nat} {u : Value} (hne : q ≠ b) (h : W.cell? ⟨q, j, none⟩ = some u) : ((((((((W.setCell ⟨b, 0, none⟩ (.int .i64 0)).setCell ⟨b, 1, none⟩ (.slice none 0 0)).setCell ⟨b, 2, none⟩ (.slice none 0 0)).setCell ⟨b, 3, none⟩ (.slice none 0 0)).setCell ⟨b, 4, none⟩ (.slice none 0 0)).setCell ⟨b, 5, none⟩ (.slice none 0 0)).setCell ⟨b, 6, none⟩ (.slice none 0 0)).setCell ⟨b, 7, none⟩ (.slice none 0 0)).drew.cell? ⟨q, j, none⟩ = some u := by
  rw [drew_cell]
  have := put_far (W := W) (b := b) cvN hne h
  unfold putBox at this
  simp only [cvN] at this
  exact this

set_option maxRecDepth 100000 in
set_option maxHeartbeats 4000000 in
theorem refEnd_any (p : Nat) (a : Option Addr) (n c : Nat) (xs : List Int) (top : Int) (st : Option Nat) (w : World) (h : RdR p a n c xs top st w) (d : CV) (CC : Circ) (hd : st.isSome = true → Holds w d CC) (hs : st.isSome = true → SmallC CC) (hmx : CC.max ≤ 100000) :
    Calls Tryz.prog 43 #[.pointer (some ⟨p, 0, none⟩), d.v] w fun e w' => ∃ d' : CV, e = .returned (.tuple #[d'.v, .int .i64 (endE CC st)]) ∧ (endE CC st = 0 → d' = d) ∧ (endE CC st ≠ 0 → d' = cvN) ∧ Below w.heap.size w w' := by
  obtain ⟨k, hk, c0, c1, c2, c3⟩ := h.cells
  have hpl := h.lt
  have hW0 : Box ((w.alloc (.cells #[.int .i64 d.m, .slice d.a1 d.n1 d.c1, .slice d.a2 d.n2 d.c2, .slice d.a3 d.n3 d.c3, .slice d.a4 d.n4 d.c4, .slice d.a5 d.n5 d.c5, .slice d.a6 d.n6 d.c6, .slice d.a7 d.n7 d.c7] 29)).alloc (.cells #[.int .i64 0, .slice none 0 0, .slice none 0 0, .slice none 0 0, .slice none 0 0, .slice none 0 0, .slice none 0 0, .slice none 0 0] 29)) w.heap.size d ∧ Box ((w.alloc (.cells #[.int .i64 d.m, .slice d.a1 d.n1 d.c1, .slice d.a2 d.n2 d.c2, .slice d.a3 d.n3 d.c3, .slice d.a4 d.n4 d.c4, .slice d.a5 d.n5 d.c5, .slice d.a6 d.n6 d.c6, .slice d.a7 d.n7 d.c7] 29)).alloc (.cells #[.int .i64 0, .slice none 0 0, .slice none 0 0, .slice none 0 0, .slice none 0 0, .slice none 0 0, .slice none 0 0, .slice none 0 0] 29)) (w.heap.size + 1) cvN ∧ Below w.heap.size w ((w.alloc (.cells #[.int .i64 d.m, .slice d.a1 d.n1 d.c1, .slice d.a2 d.n2 d.c2, .slice d.a3 d.n3 d.c3, .slice d.a4 d.n4 d.c4, .slice d.a5 d.n5 d.c5, .slice d.a6 d.n6 d.c6, .slice d.a7 d.n7 d.c7] 29)).alloc (.cells #[.int .i64 0, .slice none 0 0, .slice none 0 0, .slice none 0 0, .slice none 0 0, .slice none 0 0, .slice none 0 0, .slice none 0 0] 29)) := by
    have s1 : (w.alloc (.cells #[.int .i64 d.m, .slice d.a1 d.n1 d.c1, .slice d.a2 d.n2 d.c2, .slice d.a3 d.n3 d.c3, .slice d.a4 d.n4 d.c4, .slice d.a5 d.n5 d.c5, .slice d.a6 d.n6 d.c6, .slice d.a7 d.n7 d.c7] 29)).heap.size = w.heap.size + 1 := by simp
    have b2 := boxN (w.alloc (.cells #[.int .i64 d.m, .slice d.a1 d.n1 d.c1, .slice d.a2 d.n2 d.c2, .slice d.a3 d.n3 d.c3, .slice d.a4 d.n4 d.c4, .slice d.a5 d.n5 d.c5, .slice d.a6 d.n6 d.c6, .slice d.a7 d.n7 d.c7] 29))
    rw [s1] at b2
    exact ⟨(box_new w d).alloc _, b2, belowThen (below_alloc w _) (below_alloc _ _)⟩
  obtain ⟨hbd, hbz, hbl⟩ := hW0
  have BD := hide hbd
  have BX := hide hbz
  have BL := hide hbl
  have e3 := (hbl.cell (block_lt_of_cell c3)).trans c3
  clear c0 c1 c2 hk hbd hbz hbl
  cases st with
  | none =>
    unfold endE
    rw [if_neg (by decide)]
    rw [show errR none = 2 from rfl] at c3 e3
    clear h hd hs hmx
    unfold CV.v
    go_enter Tryz.func43, Tryz.ntmps43
    go_upto_region 2 with fail
    generalize (w.alloc (.cells #[.int .i64 d.m, .slice d.a1 d.n1 d.c1, .slice d.a2 d.n2 d.c2, .slice d.a3 d.n3 d.c3, .slice d.a4 d.n4 d.c4, .slice d.a5 d.n5 d.c5, .slice d.a6 d.n6 d.c6, .slice d.a7 d.n7 d.c7] 29)).alloc (.cells #[.int .i64 0, .slice none 0 0, .slice none 0 0, .slice none 0 0, .slice none 0 0, .slice none 0 0, .slice none 0 0, .slice none 0 0] 29) = W0 at *
    have e3d : W0.drew.cell? ⟨p, 3, none⟩ = some (.int .i64 2) := e3
    have hne : p ≠ w.heap.size + 1 := by omega
    obtain ⟨z0, z1, z2, z3, z4, z5, z6, z7⟩ := BX.out.cells
    simp only [cvN] at z0 z1 z2 z3 z4 z5 z6 z7
    have f0 := box_frozen BX.out 0
    have f1 := box_frozen BX.out 1
    have f2 := box_frozen BX.out 2
    have f3 := box_frozen BX.out 3
    have f4 := box_frozen BX.out 4
    have f5 := box_frozen BX.out 5
    have f6 := box_frozen BX.out 6
    have f7 := box_frozen BX.out 7
    go_region_held3 (fun w' => w'.cell? ⟨p, 3, none⟩ = some (.int .i64 2)) (first | with_reducible exact e3d | with_reducible exact nil_far hne e3) (fail)
    all_goals go_wp2
    have hb := hide (box_put cvN BX.out).drew
    have hbel := hide (below_drew ((two_put W0 (w.heap.size + 1) cvN).below BL.out (Nat.le_refl _) (Nat.le_succ _) (Nat.le_succ _)))
    clear z0 z1 z2 z3 z4 z5 z6 z7 f0 f1 f2 f3 f4 f5 f6 f7 e3 e3d c3
    show bodyPost _ _ _ _ _ (putBox W0 (w.heap.size + 1) cvN).drew
    generalize (putBox W0 (w.heap.size + 1) cvN).drew = Wf at *
    obtain ⟨r0, r1, r2, r3, r4, r5, r6, r7⟩ := hb.out.cells
    simp only [cvN] at r0 r1 r2 r3 r4 r5 r6 r7
    refine bodyPost_ret (v := .tuple #[.agg #[.int .i64 0, .slice none 0 0, .slice none 0 0, .slice none 0 0, .slice none 0 0, .slice none 0 0, .slice none 0 0, .slice none 0 0], .int .i64 2]) (by simp [results, Tryz.results43, go_sem, *]) rfl ?_
    exact ⟨cvN, rfl, fun e => absurd e (by decide), fun _ => rfl, hbel.out⟩
  | some j =>
    unfold endE
    rw [if_pos (show (some j).isSome = true from rfl)]
    rw [show errR (some j) = 0 from rfl] at c3 e3
    have hdd := hd rfl
    obtain ⟨hfi, hrd⟩ := small_fits hdd (hs rfl)
    have hCk := hide (refCheck_any d CC _ (hdd.below BL.out) ⟨hfi.m, by rw [hdd.m]; omega⟩ hfi.n1 hfi.n2 hfi.n3 hfi.n4 hfi.n5 (by have := hrd.n6; omega) (by have := hrd.n7; omega) hfi.names)
    have htc := told_cases CC.checkI
    generalize CC.checkI = ck at *
    clear h hd hs hmx hdd hfi hrd
    unfold CV.v at hCk ⊢
    generalize hWe : (w.alloc (.cells #[.int .i64 d.m, .slice d.a1 d.n1 d.c1, .slice d.a2 d.n2 d.c2, .slice d.a3 d.n3 d.c3, .slice d.a4 d.n4 d.c4, .slice d.a5 d.n5 d.c5, .slice d.a6 d.n6 d.c6, .slice d.a7 d.n7 d.c7] 29)).alloc (.cells #[.int .i64 0, .slice none 0 0, .slice none 0 0, .slice none 0 0, .slice none 0 0, .slice none 0 0, .slice none 0 0, .slice none 0 0] 29) = W0 at *
    obtain ⟨y0, y1, y2, y3, y4, y5, y6, y7⟩ := BD.out.cells
    rcases htc with ⟨ht, rfl⟩ | ⟨ht, rfl⟩ | ⟨ht, rfl⟩ | ⟨ht, rfl⟩ | ⟨ht, h0, h9, h10, h8⟩
    · rw [ht]
      go_enter Tryz.func43, Tryz.ntmps43
      go_upto_region 3 with fail
      (try rw [hWe])
      clear hWe
      go_wp2_with (first | (go_at_call 30; refine hCk.out.mono ?_; rintro e w5 ⟨rfl, hb5⟩; have BL5 := hide (belowThen BL.out hb5); have BX5 := hide (BX.out.below hb5); have BD5 := hide (BD.out.below hb5); clear hb5; obtain ⟨z0, z1, z2, z3, z4, z5, z6, z7⟩ := BX5.out.cells; simp only [cvN] at z0 z1 z2 z3 z4 z5 z6 z7; obtain ⟨x0, x1, x2, x3, x4, x5, x6, x7⟩ := BD5.out.cells; have f0 := box_frozen BX5.out 0; have f1 := box_frozen BX5.out 1; have f2 := box_frozen BX5.out 2; have f3 := box_frozen BX5.out 3; have f4 := box_frozen BX5.out 4; have f5 := box_frozen BX5.out 5; have f6 := box_frozen BX5.out 6; have f7 := box_frozen BX5.out 7))
      replace BX := BX5
      replace BL := BL5
      have hb := hide (box_put d BX.out)
      have hbel : Hid (Below w.heap.size w (putBox w5 (w.heap.size + 1) d)) := (two_put w5 (w.heap.size + 1) d).below BL.out (Nat.le_refl _) (Nat.le_succ _) (Nat.le_succ _)
      clear z0 z1 z2 z3 z4 z5 z6 z7 f0 f1 f2 f3 f4 f5 f6 f7 e3 c3 x0 x1 x2 x3 x4 x5 x6 x7 y0 y1 y2 y3 y4 y5 y6 y7
      show bodyPost _ _ _ _ _ (putBox w5 (w.heap.size + 1) d)
      generalize putBox w5 (w.heap.size + 1) d = Wf at *
      obtain ⟨r0, r1, r2, r3, r4, r5, r6, r7⟩ := hb.out.cells
      refine bodyPost_ret (v := .tuple #[.agg #[.int .i64 d.m, .slice d.a1 d.n1 d.c1, .slice d.a2 d.n2 d.c2, .slice d.a3 d.n3 d.c3, .slice d.a4 d.n4 d.c4, .slice d.a5 d.n5 d.c5, .slice d.a6 d.n6 d.c6, .slice d.a7 d.n7 d.c7], .int .i64 0]) (by simp [results, Tryz.results43, go_sem, *]) rfl ?_
      exact ⟨d, rfl, fun _ => rfl, fun e => absurd rfl e, hbel.out⟩
    · rw [ht]
      go_enter Tryz.func43, Tryz.ntmps43
      go_upto_region 3 with fail
      (try rw [hWe])
      clear hWe
      go_wp2_with (first | (go_at_call 30; refine hCk.out.mono ?_; rintro e w5 ⟨rfl, hb5⟩; have BL5 := hide (belowThen BL.out hb5); have BX5 := hide (BX.out.below hb5); have BD5 := hide (BD.out.below hb5); clear hb5; obtain ⟨z0, z1, z2, z3, z4, z5, z6, z7⟩ := BX5.out.cells; simp only [cvN] at z0 z1 z2 z3 z4 z5 z6 z7; obtain ⟨x0, x1, x2, x3, x4, x5, x6, x7⟩ := BD5.out.cells; have f0 := box_frozen BX5.out 0; have f1 := box_frozen BX5.out 1; have f2 := box_frozen BX5.out 2; have f3 := box_frozen BX5.out 3; have f4 := box_frozen BX5.out 4; have f5 := box_frozen BX5.out 5; have f6 := box_frozen BX5.out 6; have f7 := box_frozen BX5.out 7))
      replace BX := BX5
      replace BL := BL5
      have hb := hide (box_put cvN BX.out)
      have hbel : Hid (Below w.heap.size w (putBox w5 (w.heap.size + 1) cvN)) := (two_put w5 (w.heap.size + 1) cvN).below BL.out (Nat.le_refl _) (Nat.le_succ _) (Nat.le_succ _)
      clear z0 z1 z2 z3 z4 z5 z6 z7 f0 f1 f2 f3 f4 f5 f6 f7 e3 c3 x0 x1 x2 x3 x4 x5 x6 x7 y0 y1 y2 y3 y4 y5 y6 y7
      show bodyPost _ _ _ _ _ (putBox w5 (w.heap.size + 1) cvN)
      generalize putBox w5 (w.heap.size + 1) cvN = Wf at *
      obtain ⟨r0, r1, r2, r3, r4, r5, r6, r7⟩ := hb.out.cells
      simp only [cvN] at r0 r1 r2 r3 r4 r5 r6 r7
      refine bodyPost_ret (v := .tuple #[.agg #[.int .i64 0, .slice none 0 0, .slice none 0 0, .slice none 0 0, .slice none 0 0, .slice none 0 0, .slice none 0 0, .slice none 0 0], .int .i64 9]) (by simp [results, Tryz.results43, go_sem, *]) rfl ?_
      exact ⟨cvN, rfl, fun e => absurd e (by decide), fun _ => rfl, hbel.out⟩
    · rw [ht]
      go_enter Tryz.func43, Tryz.ntmps43
      go_upto_region 3 with fail
      (try rw [hWe])
      clear hWe
      go_wp2_with (first | (go_at_call 30; refine hCk.out.mono ?_; rintro e w5 ⟨rfl, hb5⟩; have BL5 := hide (belowThen BL.out hb5); have BX5 := hide (BX.out.below hb5); have BD5 := hide (BD.out.below hb5); clear hb5; obtain ⟨z0, z1, z2, z3, z4, z5, z6, z7⟩ := BX5.out.cells; simp only [cvN] at z0 z1 z2 z3 z4 z5 z6 z7; obtain ⟨x0, x1, x2, x3, x4, x5, x6, x7⟩ := BD5.out.cells; have f0 := box_frozen BX5.out 0; have f1 := box_frozen BX5.out 1; have f2 := box_frozen BX5.out 2; have f3 := box_frozen BX5.out 3; have f4 := box_frozen BX5.out 4; have f5 := box_frozen BX5.out 5; have f6 := box_frozen BX5.out 6; have f7 := box_frozen BX5.out 7))
      replace BX := BX5
      replace BL := BL5
      have hb := hide (box_put cvN BX.out)
      have hbel : Hid (Below w.heap.size w (putBox w5 (w.heap.size + 1) cvN)) := (two_put w5 (w.heap.size + 1) cvN).below BL.out (Nat.le_refl _) (Nat.le_succ _) (Nat.le_succ _)
      clear z0 z1 z2 z3 z4 z5 z6 z7 f0 f1 f2 f3 f4 f5 f6 f7 e3 c3 x0 x1 x2 x3 x4 x5 x6 x7 y0 y1 y2 y3 y4 y5 y6 y7
      show bodyPost _ _ _ _ _ (putBox w5 (w.heap.size + 1) cvN)
      generalize putBox w5 (w.heap.size + 1) cvN = Wf at *
      obtain ⟨r0, r1, r2, r3, r4, r5, r6, r7⟩ := hb.out.cells
      simp only [cvN] at r0 r1 r2 r3 r4 r5 r6 r7
      refine bodyPost_ret (v := .tuple #[.agg #[.int .i64 0, .slice none 0 0, .slice none 0 0, .slice none 0 0, .slice none 0 0, .slice none 0 0, .slice none 0 0, .slice none 0 0], .int .i64 10]) (by simp [results, Tryz.results43, go_sem, *]) rfl ?_
      exact ⟨cvN, rfl, fun e => absurd e (by decide), fun _ => rfl, hbel.out⟩
    · rw [ht]
      go_enter Tryz.func43, Tryz.ntmps43
      go_upto_region 3 with fail
      (try rw [hWe])
      clear hWe
      go_wp2_with (first | (go_at_call 30; refine hCk.out.mono ?_; rintro e w5 ⟨rfl, hb5⟩; have BL5 := hide (belowThen BL.out hb5); have BX5 := hide (BX.out.below hb5); have BD5 := hide (BD.out.below hb5); clear hb5; obtain ⟨z0, z1, z2, z3, z4, z5, z6, z7⟩ := BX5.out.cells; simp only [cvN] at z0 z1 z2 z3 z4 z5 z6 z7; obtain ⟨x0, x1, x2, x3, x4, x5, x6, x7⟩ := BD5.out.cells; have f0 := box_frozen BX5.out 0; have f1 := box_frozen BX5.out 1; have f2 := box_frozen BX5.out 2; have f3 := box_frozen BX5.out 3; have f4 := box_frozen BX5.out 4; have f5 := box_frozen BX5.out 5; have f6 := box_frozen BX5.out 6; have f7 := box_frozen BX5.out 7))
      replace BX := BX5
      replace BL := BL5
      have hb := hide (box_put cvN BX.out)
      have hbel : Hid (Below w.heap.size w (putBox w5 (w.heap.size + 1) cvN)) := (two_put w5 (w.heap.size + 1) cvN).below BL.out (Nat.le_refl _) (Nat.le_succ _) (Nat.le_succ _)
      clear z0 z1 z2 z3 z4 z5 z6 z7 f0 f1 f2 f3 f4 f5 f6 f7 e3 c3 x0 x1 x2 x3 x4 x5 x6 x7 y0 y1 y2 y3 y4 y5 y6 y7
      show bodyPost _ _ _ _ _ (putBox w5 (w.heap.size + 1) cvN)
      generalize putBox w5 (w.heap.size + 1) cvN = Wf at *
      obtain ⟨r0, r1, r2, r3, r4, r5, r6, r7⟩ := hb.out.cells
      simp only [cvN] at r0 r1 r2 r3 r4 r5 r6 r7
      refine bodyPost_ret (v := .tuple #[.agg #[.int .i64 0, .slice none 0 0, .slice none 0 0, .slice none 0 0, .slice none 0 0, .slice none 0 0, .slice none 0 0, .slice none 0 0], .int .i64 8]) (by simp [results, Tryz.results43, go_sem, *]) rfl ?_
      exact ⟨cvN, rfl, fun e => absurd e (by decide), fun _ => rfl, hbel.out⟩
    · rw [ht]
      have q0 : (ck == 0) = false := by rw [beq_eq_false_iff_ne]; exact h0
      have q9 : (ck == 9) = false := by rw [beq_eq_false_iff_ne]; exact h9
      have q10 : (ck == 10) = false := by rw [beq_eq_false_iff_ne]; exact h10
      have q8 : (ck == 8) = false := by rw [beq_eq_false_iff_ne]; exact h8
      have q0n : (ck != 0) = true := by rw [bne, q0]; rfl
      clear h0 h9 h10 h8
      go_enter Tryz.func43, Tryz.ntmps43
      go_upto_region 3 with fail
      (try rw [hWe])
      clear hWe
      go_wp2_with (first | (go_at_call 30; refine hCk.out.mono ?_; rintro e w5 ⟨rfl, hb5⟩; have BL5 := hide (belowThen BL.out hb5); have BX5 := hide (BX.out.below hb5); have BD5 := hide (BD.out.below hb5); clear hb5; obtain ⟨z0, z1, z2, z3, z4, z5, z6, z7⟩ := BX5.out.cells; simp only [cvN] at z0 z1 z2 z3 z4 z5 z6 z7; obtain ⟨x0, x1, x2, x3, x4, x5, x6, x7⟩ := BD5.out.cells; have f0 := box_frozen BX5.out 0; have f1 := box_frozen BX5.out 1; have f2 := box_frozen BX5.out 2; have f3 := box_frozen BX5.out 3; have f4 := box_frozen BX5.out 4; have f5 := box_frozen BX5.out 5; have f6 := box_frozen BX5.out 6; have f7 := box_frozen BX5.out 7))
      replace BX := BX5
      replace BL := BL5
      have hb := hide (box_put cvN BX.out)
      have hbel : Hid (Below w.heap.size w (putBox w5 (w.heap.size + 1) cvN)) := (two_put w5 (w.heap.size + 1) cvN).below BL.out (Nat.le_refl _) (Nat.le_succ _) (Nat.le_succ _)
      clear z0 z1 z2 z3 z4 z5 z6 z7 f0 f1 f2 f3 f4 f5 f6 f7 e3 c3 x0 x1 x2 x3 x4 x5 x6 x7 y0 y1 y2 y3 y4 y5 y6 y7
      show bodyPost _ _ _ _ _ (putBox w5 (w.heap.size + 1) cvN)
      generalize putBox w5 (w.heap.size + 1) cvN = Wf at *
      obtain ⟨r0, r1, r2, r3, r4, r5, r6, r7⟩ := hb.out.cells
      simp only [cvN] at r0 r1 r2 r3 r4 r5 r6 r7
      refine bodyPost_ret (v := .tuple #[.agg #[.int .i64 0, .slice none 0 0, .slice none 0 0, .slice none 0 0, .slice none 0 0, .slice none 0 0, .slice none 0 0, .slice none 0 0], .int .i64 2]) (by simp [results, Tryz.results43, go_sem, *]) rfl ?_
      exact ⟨cvN, rfl, fun e => absurd e (by decide), fun _ => rfl, hbel.out⟩
end Go.Proofs.YtimpddokepbabaaGreatDoor

namespace Go.Proofs.YtimpddokepbabaaGreatDoor
open Go.RowKit

theorem some_back {α : Type} {f : Nat → Option Nat → α × Option Nat} (hf : ∀ n, (f n none).2 = none) {st : Option Nat} {k : Nat} (h : (itemsS f st k).2.isSome = true) : st.isSome = true := by
  cases st with
  | some j => rfl
  | none =>
    rw [itemsS_stuck hf (k := 0) (st := none) rfl k (Nat.zero_le _)] at h
    cases h
theorem step_back {α : Type} {f : Nat → Option Nat → α × Option Nat} (hf : ∀ n, (f n none).2 = none) {st : Option Nat} {k : Nat} (h : (itemsS f st (k + 1)).2.isSome = true) : (itemsS f st k).2.isSome = true := by
  cases e : (itemsS f st k).2 with
  | some j => rfl
  | none =>
    rw [itemsS, e] at h
    rw [hf k] at h
    cases h
theorem names_back {xs : List Int} {st : Option Nat} (h : (namesS xs st).2.isSome = true) : st.isSome = true := by
  cases st with
  | some j => rfl
  | none => exact h

theorem own_ne_rd {w : World} {B p size n : Nat} {e : TypeId} {v : Value} {cs : List Value} {a : Option Addr} {m c : Nat} {xs : List Int} {top : Int} {st : Option Nat} (h : w.ownsRow B e size v n cs) (hp : RdR p a m c xs top st w) (he : e ≠ 68) : v.ownBlock ≠ some p := by
  rcases h.2 with ⟨rfl, _⟩ | ⟨g, cap, cur, rfl, -, hg, -⟩
  · simp [Value.ownBlock]
  · intro e2
    have e3 : g = p := Option.some.inj e2
    subst e3
    obtain ⟨k, h1, -⟩ := hp.blk
    rw [hg] at h1
    have e4 := Option.some.inj h1
    injection e4 with _ e5
    exact he e5
theorem own_rd {w w' : World} {B p size n : Nat} {e : TypeId} {v : Value} {cs : List Value} {a : Option Addr} {m c : Nat} {xs : List Int} {top : Int} {st : Option Nat} (h : w.ownsRow B e size v n cs) (hp : RdR p a m c xs top st w) (t : Two p p w w') (he : e ≠ 68) : w'.ownsRow B e size v n cs := by
  have hne := own_ne_rd h hp he
  exact own_block h (fun g hv => t.block g (h.lt g hv).2 (fun e2 => hne (e2 ▸ hv)) (fun e2 => hne (e2 ▸ hv)))
theorem own_two2 {w w' : World} {B p b size n : Nat} {e : TypeId} {v : Value} {cs : List Value} {a : Option Addr} {m c : Nat} {xs : List Int} {top : Int} {st : Option Nat} {d : CV} (h : w.ownsRow B e size v n cs) (hp : RdR p a m c xs top st w) (hb : Box w b d) (t : Two p b w w') (he : e ≠ 68) (hx : e ≠ 29) : w'.ownsRow B e size v n cs := by
  have h1 := own_ne_rd h hp he
  have h2 := own_ne_box h hb hx
  exact own_block h (fun g hv => t.block g (h.lt g hv).2 (fun e2 => h1 (e2 ▸ hv)) (fun e2 => h2 (e2 ▸ hv)))
theorem rd_ne_box {w : World} {p b : Nat} {a : Option Addr} {m c : Nat} {xs : List Int} {top : Int} {st : Option Nat} {d : CV} (hp : RdR p a m c xs top st w) (hb : Box w b d) : p ≠ b := by
  rintro rfl
  obtain ⟨k, h1, -⟩ := hp.blk
  unfold Box at hb
  rw [hb] at h1
  have e4 := Option.some.inj h1
  injection e4 with _ e5
  exact absurd e5 (by decide)

/-- A circuit while the reference reads it. -/
structure RR (w0 : World) (p b : Nat) (a : Option Addr) (n c : Nat) (xs : List Int) (top : Int) (hg hcap : Nat) (H : List Int) (C : Circ) (d : CV) (st : Option Nat) (W : World) : Prop where
  rd : RdR p a n c xs top st W
  box : Box W b d
  lp : w0.heap.size ≤ p
  lb : w0.heap.size ≤ b
  m : d.m = C.max
  oh : W.ownsRow w0.heap.size 3 1 (.slice (some ⟨hg, 0, none⟩) 9 hcap) 9 (H.map (Value.int .i64))
  o1 : W.ownsRow w0.heap.size 3 1 (.slice d.a1 d.n1 d.c1) d.n1 (C.ins.map (Value.int .i64))
  o2 : W.ownsRow w0.heap.size 73 3 (.slice d.a2 d.n2 d.c2) d.n2 (cellsT C.lats)
  o3 : W.ownsRow w0.heap.size 3 1 (.slice d.a3 d.n3 d.c3) d.n3 (C.outs.map (Value.int .i64))
  o4 : W.ownsRow w0.heap.size 3 1 (.slice d.a4 d.n4 d.c4) d.n4 (C.bads.map (Value.int .i64))
  o5 : W.ownsRow w0.heap.size 3 1 (.slice d.a5 d.n5 d.c5) d.n5 (C.cons.map (Value.int .i64))
  o6 : W.ownsRow w0.heap.size 53 3 (.slice d.a6 d.n6 d.c6) d.n6 (cellsT C.ands)
  o7 : W.ownsRow w0.heap.size 77 3 (.slice d.a7 d.n7 d.c7) d.n7 (cellsS C.names)
  below : Below w0.heap.size w0 W
  tx : Row8 w0 a xs
section
variable {w0 W W1 w4 : World} {p b n c hg hcap m K : Nat} {a A : Option Addr} {xs H : List Int} {top : Int} {C : Circ} {d : CV} {st st' : Option Nat}
theorem RR.ne (h : RR w0 p b a n c xs top hg hcap H C d st W) : p ≠ b := rd_ne_box h.rd h.box
theorem RR.then (h : RR w0 p b a n c xs top hg hcap H C d st W) (hb : Below W.heap.size W W1) : RR w0 p b a n c xs top hg hcap H C d st W1 :=
  ⟨h.rd.below hb, h.box.below hb, h.lp, h.lb, h.m, own_below h.oh hb, own_below h.o1 hb, own_below h.o2 hb, own_below h.o3 hb, own_below h.o4 hb, own_below h.o5 hb, own_below h.o6 hb, own_below h.o7 hb, belowThen h.below hb, h.tx⟩
theorem RR.went (h : RR w0 p b a n c xs top hg hcap H C d st W) (g : WentR p a n c xs top W st' W1) : RR w0 p b a n c xs top hg hcap H C d st' W1 := by
  have ni : 3 ≠ 68 := by decide
  have nl : 73 ≠ 68 := by decide
  have na : 53 ≠ 68 := by decide
  have ns : 77 ≠ 68 := by decide
  exact ⟨g.1, (g.2.block b h.box.lt (fun e => h.ne e.symm) (fun e => h.ne e.symm)).trans h.box, h.lp, h.lb, h.m, own_rd h.oh h.rd g.2 ni, own_rd h.o1 h.rd g.2 ni, own_rd h.o2 h.rd g.2 nl, own_rd h.o3 h.rd g.2 ni, own_rd h.o4 h.rd g.2 ni, own_rd h.o5 h.rd g.2 ni, own_rd h.o6 h.rd g.2 na, own_rd h.o7 h.rd g.2 ns, g.2.below h.below (Nat.le_refl _) h.lp h.lp, h.tx⟩
/-- The header's row. -/
theorem RR.hd (h : RR w0 p b a n c xs top hg hcap H C d st W) (hl : H.length = 9) : ∀ i, i < 9 → W.cell? ⟨hg, i, none⟩ = some (.int .i64 (H.getD i 0)) := fun i hi => by
  obtain ⟨g, cap, e, hc, -⟩ := ownI_at (n := 9) (L := H) (v := .slice (some ⟨hg, 0, none⟩) 9 hcap) (B := w0.heap.size) (w := W) (by unfold OwnI; rw [hl]; exact h.oh) hl (by omega)
  cases e
  exact hc i hi
/-- Rows that are there when a cell of the circuit's box is written. -/
theorem rows_cell {d0 : CV} (bx : Box w4 b d0) {j : Nat} {v : Value} {d' : CV}
    (rd : RdR p a n c xs top st w4) (lp : w0.heap.size ≤ p) (lb : w0.heap.size ≤ b) (hm : d'.m = C.max) (ob : Box (w4.setCell ⟨b, j, none⟩ v) b d')
    (oh : w4.ownsRow w0.heap.size 3 1 (.slice (some ⟨hg, 0, none⟩) 9 hcap) 9 (H.map (Value.int .i64)))
    (o1 : w4.ownsRow w0.heap.size 3 1 (.slice d'.a1 d'.n1 d'.c1) d'.n1 (C.ins.map (Value.int .i64)))
    (o2 : w4.ownsRow w0.heap.size 73 3 (.slice d'.a2 d'.n2 d'.c2) d'.n2 (cellsT C.lats))
    (o3 : w4.ownsRow w0.heap.size 3 1 (.slice d'.a3 d'.n3 d'.c3) d'.n3 (C.outs.map (Value.int .i64)))
    (o4 : w4.ownsRow w0.heap.size 3 1 (.slice d'.a4 d'.n4 d'.c4) d'.n4 (C.bads.map (Value.int .i64)))
    (o5 : w4.ownsRow w0.heap.size 3 1 (.slice d'.a5 d'.n5 d'.c5) d'.n5 (C.cons.map (Value.int .i64)))
    (o6 : w4.ownsRow w0.heap.size 53 3 (.slice d'.a6 d'.n6 d'.c6) d'.n6 (cellsT C.ands))
    (o7 : w4.ownsRow w0.heap.size 77 3 (.slice d'.a7 d'.n7 d'.c7) d'.n7 (cellsS C.names)) (bl : Below w0.heap.size w0 w4) (tx : Row8 w0 a xs) :
    RR w0 p b a n c xs top hg hcap H C d' st (w4.setCell ⟨b, j, none⟩ v) := by
  have ni : 3 ≠ 29 := by decide
  have nl : 73 ≠ 29 := by decide
  have na : 53 ≠ 29 := by decide
  have ns : 77 ≠ 29 := by decide
  have hne := rd_ne_box rd bx
  have t2 : Two b b w4 (w4.setCell ⟨b, j, none⟩ v) := (Two.refl b b w4).setL j v
  have rd' : RdR p a n c xs top st (w4.setCell ⟨b, j, none⟩ v) := by
    obtain ⟨k, h1, h2⟩ := rd.blk
    exact ⟨⟨k, (heap_setCell_other w4 ⟨b, j, none⟩ p v hne).trans h1, h2⟩, rd.inb, row8_two2 rd.text t2 (row8_box rd.text bx) (row8_box rd.text bx), rd.len, rd.cap, rd.apart, rd.bytes, rd.small⟩
  exact ⟨rd', ob, lp, lb, hm, own_cellQ oh bx ni, own_cellQ o1 bx ni, own_cellQ o2 bx nl, own_cellQ o3 bx ni, own_cellQ o4 bx ni, own_cellQ o5 bx ni, own_cellQ o6 bx na, own_cellQ o7 bx ns, bl.setCell (p := ⟨b, j, none⟩) lb v, tx⟩
/-- Outputs, Bads, Constraints: a row that a call has made is stored. -/
theorem RR.set3 (h : RR w0 p b a n c xs top hg hcap H C d st W) {B : Nat} (hB : w0.heap.size ≤ B) {L : List Int} (ho : W.ownsRow B 3 1 (.slice A m K) m (L.map (Value.int .i64))) : RR w0 p b a n c xs top hg hcap H { C with outs := L } { d with a3 := A, n3 := m, c3 := K } st (W.setCell ⟨b, 3, none⟩ (.slice A m K)) :=
  rows_cell h.box h.rd h.lp h.lb h.m (box_eight (c' := { d with a3 := A, n3 := m, c3 := K }) h.box 3 _ rfl) h.oh h.o1 h.o2 (own_le ho hB) h.o4 h.o5 h.o6 h.o7 h.below h.tx
theorem RR.set4 (h : RR w0 p b a n c xs top hg hcap H C d st W) {B : Nat} (hB : w0.heap.size ≤ B) {L : List Int} (ho : W.ownsRow B 3 1 (.slice A m K) m (L.map (Value.int .i64))) : RR w0 p b a n c xs top hg hcap H { C with bads := L } { d with a4 := A, n4 := m, c4 := K } st (W.setCell ⟨b, 4, none⟩ (.slice A m K)) :=
  rows_cell h.box h.rd h.lp h.lb h.m (box_eight (c' := { d with a4 := A, n4 := m, c4 := K }) h.box 4 _ rfl) h.oh h.o1 h.o2 h.o3 (own_le ho hB) h.o5 h.o6 h.o7 h.below h.tx
theorem RR.set5 (h : RR w0 p b a n c xs top hg hcap H C d st W) {B : Nat} (hB : w0.heap.size ≤ B) {L : List Int} (ho : W.ownsRow B 3 1 (.slice A m K) m (L.map (Value.int .i64))) : RR w0 p b a n c xs top hg hcap H { C with cons := L } { d with a5 := A, n5 := m, c5 := K } st (W.setCell ⟨b, 5, none⟩ (.slice A m K)) :=
  rows_cell h.box h.rd h.lp h.lb h.m (box_eight (c' := { d with a5 := A, n5 := m, c5 := K }) h.box 5 _ rfl) h.oh h.o1 h.o2 h.o3 h.o4 (own_le ho hB) h.o6 h.o7 h.below h.tx
/-- The world when a row of the circuit has grown. -/
theorem RR.bel (h : RR w0 p b a n c xs top hg hcap H C d st W) {B size k : Nat} {e : TypeId} {v : Value} {cs : List Value} {o : Obj} (hB : w0.heap.size ≤ B) (ho : W.ownsRow B e size v k cs) (hg' : (W.alloc o).grownBy w4 v.ownBlock) : Below w0.heap.size W w4 :=
  ((Below.refl _ W).grown (World.grownBy_alloc W o none) h.below.size (fun k hk => by cases hk)).grown hg' (by have := h.below.size; simp; omega) (fun k hk => Nat.le_trans hB (ho.lt k hk).1)
theorem rd_grown (hp : RdR p a n c xs top st W) {row : Option Nat} (hg' : W.grownBy w4 row) (hne : row ≠ some p) (tx : Row8 w0 a xs) (bl : Below w0.heap.size w0 w4) : RdR p a n c xs top st w4 := by
  obtain ⟨k, h1, h2⟩ := hp.blk
  exact ⟨⟨k, (hg'.block p hp.lt (fun e => hne e.symm)).trans h1, h2⟩, hp.inb, tx.below bl, hp.len, hp.cap, hp.apart, hp.bytes, hp.small⟩
/-- One latch more. -/
theorem RR.lat (h : RR w0 p b a n c xs top hg hcap H C d st W) {o : Obj} {L2 : List Tri} (hg' : (W.alloc o).grownBy w4 (Value.slice d.a2 d.n2 d.c2).ownBlock)
    (ho : w4.ownsRow w0.heap.size 73 3 (.slice A m K) m (cellsT L2)) : RR w0 p b a n c xs top hg hcap H { C with lats := L2 } { d with a2 := A, n2 := m, c2 := K } st (w4.setCell ⟨b, 2, none⟩ (.slice A m K)) ∧ Box w4 b d := by
  have k := h.then (below_alloc W o)
  have bl := (h.below.trans (h.bel (Nat.le_refl _) h.o2 hg'))
  have m1 : 3 ≠ 73 := by decide
  have m6 : 53 ≠ 73 := by decide
  have m7 : 77 ≠ 73 := by decide
  have bx : Box w4 b d := k.box.grown hg' (own_ne_box k.o2 k.box (by decide))
  have rd := rd_grown k.rd hg' (own_ne_rd k.o2 k.rd (by decide)) h.tx bl
  exact ⟨rows_cell bx rd h.lp h.lb h.m (box_eight (c' := { d with a2 := A, n2 := m, c2 := K }) bx 2 _ rfl) (own_grown k.oh k.o2 m1 hg') (own_grown k.o1 k.o2 m1 hg') ho (own_grown k.o3 k.o2 m1 hg') (own_grown k.o4 k.o2 m1 hg') (own_grown k.o5 k.o2 m1 hg') (own_grown k.o6 k.o2 m6 hg') (own_grown k.o7 k.o2 m7 hg') bl h.tx, bx⟩
/-- One And more. -/
theorem RR.and (h : RR w0 p b a n c xs top hg hcap H C d st W) {o : Obj} {L6 : List Tri} (hg' : (W.alloc o).grownBy w4 (Value.slice d.a6 d.n6 d.c6).ownBlock)
    (ho : w4.ownsRow w0.heap.size 53 3 (.slice A m K) m (cellsT L6)) : RR w0 p b a n c xs top hg hcap H { C with ands := L6 } { d with a6 := A, n6 := m, c6 := K } st (w4.setCell ⟨b, 6, none⟩ (.slice A m K)) ∧ Box w4 b d := by
  have k := h.then (below_alloc W o)
  have bl := (h.below.trans (h.bel (Nat.le_refl _) h.o6 hg'))
  have m1 : 3 ≠ 53 := by decide
  have m2 : 73 ≠ 53 := by decide
  have m7 : 77 ≠ 53 := by decide
  have bx : Box w4 b d := k.box.grown hg' (own_ne_box k.o6 k.box (by decide))
  have rd := rd_grown k.rd hg' (own_ne_rd k.o6 k.rd (by decide)) h.tx bl
  exact ⟨rows_cell bx rd h.lp h.lb h.m (box_eight (c' := { d with a6 := A, n6 := m, c6 := K }) bx 6 _ rfl) (own_grown k.oh k.o6 m1 hg') (own_grown k.o1 k.o6 m1 hg') (own_grown k.o2 k.o6 m2 hg') (own_grown k.o3 k.o6 m1 hg') (own_grown k.o4 k.o6 m1 hg') (own_grown k.o5 k.o6 m1 hg') ho (own_grown k.o7 k.o6 m7 hg') bl h.tx, bx⟩
/-- The names are read. -/
theorem RR.syms (h : RR w0 p b a n c xs top hg hcap H C d st W) {L7 : List Sym} (k : NR W p b a n c xs top d L7 A K st' W1) : RR w0 p b a n c xs top hg hcap H { C with names := L7 } { d with a7 := A, n7 := L7.length, c7 := K } st' W1 := by
  have ni : 3 ≠ 68 := by decide
  have nl : 73 ≠ 68 := by decide
  have na : 53 ≠ 68 := by decide
  have mi : 3 ≠ 29 := by decide
  have ml : 73 ≠ 29 := by decide
  have ma : 53 ≠ 29 := by decide
  exact ⟨k.rd, k.box, h.lp, h.lb, h.m, own_two2 h.oh h.rd h.box k.two ni mi, own_two2 h.o1 h.rd h.box k.two ni mi, own_two2 h.o2 h.rd h.box k.two nl ml, own_two2 h.o3 h.rd h.box k.two ni mi, own_two2 h.o4 h.rd h.box k.two ni mi, own_two2 h.o5 h.rd h.box k.two ni mi, own_two2 h.o6 h.rd h.box k.two na ma, own_le k.own h.below.size, k.two.below h.below (Nat.le_refl _) h.lp h.lb, h.tx⟩
/-- What is held at the end. -/
theorem RR.holds (h : RR w0 p b a n c xs top hg hcap H C d st W) : Holds W d C ∧ Above w0.heap.size d := by
  have rows : ∀ r ∈ ([⟨3, 1, .slice d.a1 d.n1 d.c1, d.n1, C.ins.map (Value.int .i64)⟩, ⟨73, 3, .slice d.a2 d.n2 d.c2, d.n2, cellsT C.lats⟩, ⟨3, 1, .slice d.a3 d.n3 d.c3, d.n3, C.outs.map (Value.int .i64)⟩, ⟨3, 1, .slice d.a4 d.n4 d.c4, d.n4, C.bads.map (Value.int .i64)⟩, ⟨3, 1, .slice d.a5 d.n5 d.c5, d.n5, C.cons.map (Value.int .i64)⟩, ⟨53, 3, .slice d.a6 d.n6 d.c6, d.n6, cellsT C.ands⟩, ⟨77, 3, .slice d.a7 d.n7 d.c7, d.n7, cellsS C.names⟩] : List Rw), W.ownsRow w0.heap.size r.e r.s r.v r.n r.cs := by
    intro r hr
    simp only [List.mem_cons, List.not_mem_nil, or_false] at hr
    rcases hr with rfl | rfl | rfl | rfl | rfl | rfl | rfl
    · exact h.o1
    · exact h.o2
    · exact h.o3
    · exact h.o4
    · exact h.o5
    · exact h.o6
    · exact h.o7
  exact ⟨mid_holds rows h.m, mid_above rows (Nat.le_refl _)⟩
end
end Go.Proofs.YtimpddokepbabaaGreatDoor
