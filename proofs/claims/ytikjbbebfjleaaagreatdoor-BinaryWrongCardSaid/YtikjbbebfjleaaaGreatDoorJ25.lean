/-
  THE WALKS of layer 4's tooLong, howMany, isName, rightNames.
  THE WALK of layer 4's rightNames.
-/
import Derived.Test.YtikjbbebfjleaaaGreatDoorJ18
import Derived.Deep.RegionHeld3
import Derived.Deep.RegionWith
namespace Go.Proofs.YtikjbbebfjleaaaGreatDoor
open Go.RowKit

theorem atP_cells (w : World) (g : Nat) (ps : List Nat) (t : TypeId) (k : Nat) (hk : k < ps.length) (h : w.heap[g]? = some (.cells (ps.map (fun n : Nat => Value.int .i64 n)).toArray t (0, 0))) : w.cell? ⟨g, k, none⟩ = some (.int .i64 (atP ps k : Nat)) := by
  rw [cell_of_row w g k _ t (0, 0) h]
  simp [atP_eq ps k hk, List.getElem?_eq_getElem hk]

theorem sum_take (ps : List Nat) (k : Nat) (h : k < ps.length) : (ps.take (k + 1)).sum = (ps.take k).sum + atP ps k := by
  rw [List.take_succ_eq_append_getElem h, ← atP_eq ps k h]; simp

set_option maxRecDepth 100000 in
set_option maxHeartbeats 1000000 in
theorem tooLong_any (c : CV) (C : Circ) (w : World) (h : Holds w c C) (h1 : c.n1 ≤ 281474976710656) (h2 : c.n2 ≤ 281474976710656) (h3 : c.n3 ≤ 281474976710656) (h4 : c.n4 ≤ 281474976710656) (h5 : c.n5 ≤ 281474976710656) :
    Calls Tryz.prog 121 #[c.v] w fun e w' => e = .returned (.bool C.longB) ∧ Below w.heap.size w w' := by
  have hps : C.ports = [c.n1, c.n2, c.n3, c.n4, c.n5] := by unfold Circ.ports; rw [h.l1, h.l2, h.l3, h.l4, h.l5]
  have hlb : C.longB = (C.ports.any (fun n => decide (64 < n)) || (decide (5000 < c.m) || (decide (2000 < c.n6) || decide (C.ports.sum < c.n7)))) := by unfold Circ.longB; rw [h.l6, h.l7, h.m]
  obtain ⟨ps, HPS⟩ : ∃ ps, Hid (ps = C.ports) := ⟨_, rfl⟩
  have HPE : Hid (ps = [c.n1, c.n2, c.n3, c.n4, c.n5]) := HPS.out.trans hps
  have hl5 : ps.length = 5 := by rw [HPE.out]; rfl
  rw [← HPS.out] at hlb
  have HBw := hide (below_two w (.cells #[.int .i64 c.m, .slice c.a1 c.n1 c.c1, .slice c.a2 c.n2 c.c2, .slice c.a3 c.n3 c.c3, .slice c.a4 c.n4 c.c4, .slice c.a5 c.n5 c.c5, .slice c.a6 c.n6 c.c6, .slice c.a7 c.n7 c.c7] 29) (.cells #[.int .i64 c.n1, .int .i64 c.n2, .int .i64 c.n3, .int .i64 c.n4, .int .i64 c.n5] 3))
  have HC : Hid (∀ k, k < 5 → ((w.alloc (.cells #[.int .i64 c.m, .slice c.a1 c.n1 c.c1, .slice c.a2 c.n2 c.c2, .slice c.a3 c.n3 c.c3, .slice c.a4 c.n4 c.c4, .slice c.a5 c.n5 c.c5, .slice c.a6 c.n6 c.c6, .slice c.a7 c.n7 c.c7] 29)).alloc (.cells #[.int .i64 c.n1, .int .i64 c.n2, .int .i64 c.n3, .int .i64 c.n4, .int .i64 c.n5] 3)).cell? ⟨w.heap.size + 1, k, none⟩ = some (.int .i64 (atP ps k : Nat))) := fun k hk => by
    refine atP_cells _ _ ps 3 k (by omega) ?_
    rw [HPE.out]
    have := heap_alloc_new (w.alloc (.cells #[.int .i64 c.m, .slice c.a1 c.n1 c.c1, .slice c.a2 c.n2 c.c2, .slice c.a3 c.n3 c.c3, .slice c.a4 c.n4 c.c4, .slice c.a5 c.n5 c.c5, .slice c.a6 c.n6 c.c6, .slice c.a7 c.n7 c.c7] 29)) (.cells #[.int .i64 c.n1, .int .i64 c.n2, .int .i64 c.n3, .int .i64 c.n4, .int .i64 c.n5] 3)
    simpa using this
  have HBd : Hid (∀ k, k < 5 → atP ps k ≤ 281474976710656) := fun k hk => by
    rw [HPE.out]
    rcases (by omega : k = 0 ∨ k = 1 ∨ k = 2 ∨ k = 3 ∨ k = 4) with rfl | rfl | rfl | rfl | rfl <;> (simp [atP]; omega)
  rw [hlb]
  generalize hP : (fun (e : Ending) (w' : World) => e = .returned (.bool (ps.any (fun n => decide (64 < n)) || (decide (5000 < c.m) || (decide (2000 < c.n6) || decide (ps.sum < c.n7))))) ∧ Below w.heap.size w w') = Post
  have HP := hide hP
  have HL5 := hide hl5
  clear hP h hps hlb hl5 HPS
  unfold CV.v
  go_enter Tryz.func121, Tryz.ntmps121
  go_wp2
  go_loop [4, 6, 25] (fun s _ i => ∃ k sm : Nat, i = .int .i64 k ∧ s = .int .i64 sm ∧ k ≤ 5 ∧ sm ≤ 64 * k ∧ Hid (sm = (ps.take k).sum ∧ ∀ j, j < k → atP ps j ≤ 64)) (fun _ _ i => 5 - (intOf i).toNat)
  case atStart => exact ⟨0, 0, rfl, rfl, Nat.zero_le _, by omega, rfl, fun j hj => absurd hj (Nat.not_lt_zero _)⟩
  case round =>
    obtain ⟨k, sm, rfl, rfl, hk, hsm, HF⟩ := hrel
    by_cases hlt : k < 5
    · have hc := HC.out k hlt
      have hbd := HBd.out k hlt
      have HST := hide (sum_take ps k (by rw [HL5.out]; exact hlt))
      obtain ⟨x, HX⟩ : ∃ x, Hid (x = atP ps k) := ⟨_, rfl⟩
      rw [← HX.out] at hc hbd HST
      by_cases h64 : (64 : Int) < x
      · have hfin : Hid (∀ W, Below w.heap.size w W → Post (.returned (.bool true)) W) := fun W hW => by
          rw [← HP.out]
          refine ⟨ret_bool ?_, hW⟩
          rw [show (ps.any fun n => decide (64 < n)) = true from List.any_eq_true.2 ⟨x, by rw [HX.out]; exact atP_mem ps k (by rw [HL5.out]; exact hlt), decide_eq_true (by omega)⟩]
          rfl
        go_wp2
        exact hfin.out _ HBw.out
      · go_wp2
        go_round
        case rel =>
          refine ⟨k + 1, sm + x, by go_num, by go_num, by omega, by omega, by rw [HST.out, HF.out.1], fun j hj => ?_⟩
          by_cases hjk : j < k
          · exact HF.out.2 j hjk
          · obtain rfl : j = k := by omega
            rw [← HX.out]; omega
        case measure => simp [intOf]; omega
    · obtain rfl : k = 5 := by omega
      have hany : (ps.any fun n => decide (64 < n)) = false := List.any_eq_false.2 (fun n hn => by
        obtain ⟨j, hj, rfl⟩ := List.getElem_of_mem hn
        have := HF.out.2 j (by rw [← HL5.out]; exact hj)
        rw [atP_eq ps j hj] at this
        simp; omega)
      have hfin : Hid (∀ r W, r = (decide (5000 < c.m) || (decide (2000 < c.n6) || decide (sm < c.n7))) → Below w.heap.size w W → Post (.returned (.bool r)) W) := fun r W hr hW => by
        rw [← HP.out]
        refine ⟨ret_bool ?_, hW⟩
        have e : sm = ps.sum := by rw [HF.out.1, List.take_of_length_le (by rw [HL5.out]; exact Nat.le_refl _)]
        rw [hany, Bool.false_or, ← e]
        exact hr
      clear hany
      by_cases hm : 5000 < c.m
      · go_wp2
        exact hfin.out _ _ (by simp [hm]) HBw.out
      · by_cases h6 : (2000 : Int) < c.n6
        · go_wp2
          exact hfin.out _ _ (by simp; omega) HBw.out
        · go_wp2
          exact hfin.out _ _ (by rw [decide_eq_false (show ¬ 5000 < c.m by omega), decide_eq_false (show ¬ 2000 < c.n6 by omega), Bool.false_or, Bool.false_or]) HBw.out

set_option maxHeartbeats 1000000 in
theorem howMany_any (c : CV) (C : Circ) (kind : Int) (w : World) (h : Holds w c C) :
    Calls Tryz.prog 142 #[c.v, .int .u8 kind] w fun e w' => e = .returned (.int .i64 (C.countK kind 0)) ∧ Below w.heap.size w w' := by
  have e : C.countK kind 0 = if kind = 105 then (c.n1 : Int) else if kind = 108 then c.n2 else if kind = 111 then c.n3 else if kind = 98 then c.n4 else if kind = 99 then c.n5 else 0 := by
    unfold Circ.countK; rw [h.l1, h.l2, h.l3, h.l4, h.l5]
  rw [e]
  have HB := hide (below_alloc w (.cells #[.int .i64 c.m, .slice c.a1 c.n1 c.c1, .slice c.a2 c.n2 c.c2, .slice c.a3 c.n3 c.c3, .slice c.a4 c.n4 c.c4, .slice c.a5 c.n5 c.c5, .slice c.a6 c.n6 c.c6, .slice c.a7 c.n7 c.c7] 29))
  clear h e
  unfold CV.v
  by_cases k1 : kind = 105
  · subst k1
    go_enter Tryz.func142, Tryz.ntmps142
    go_wp2
    go_ret
    exact ⟨rfl, HB.out⟩
  · have b1 : (kind == 105) = false := by rw [beq_eq_false_iff_ne]; exact k1
    rw [if_neg k1]
    clear k1
    by_cases k2 : kind = 108
    · subst k2
      go_enter Tryz.func142, Tryz.ntmps142
      go_wp2
      go_ret
      exact ⟨rfl, HB.out⟩
    · have b2 : (kind == 108) = false := by rw [beq_eq_false_iff_ne]; exact k2
      rw [if_neg k2]
      clear k2
      by_cases k3 : kind = 111
      · subst k3
        go_enter Tryz.func142, Tryz.ntmps142
        go_wp2
        go_ret
        exact ⟨rfl, HB.out⟩
      · have b3 : (kind == 111) = false := by rw [beq_eq_false_iff_ne]; exact k3
        rw [if_neg k3]
        clear k3
        by_cases k4 : kind = 98
        · subst k4
          go_enter Tryz.func142, Tryz.ntmps142
          go_wp2
          go_ret
          exact ⟨rfl, HB.out⟩
        · have b4 : (kind == 98) = false := by rw [beq_eq_false_iff_ne]; exact k4
          rw [if_neg k4]
          clear k4
          by_cases k5 : kind = 99
          · subst k5
            go_enter Tryz.func142, Tryz.ntmps142
            go_wp2
            go_ret
            exact ⟨rfl, HB.out⟩
          · have b5 : (kind == 99) = false := by rw [beq_eq_false_iff_ne]; exact k5
            rw [if_neg k5]
            clear k5
            go_enter Tryz.func142, Tryz.ntmps142
            go_wp2
            go_ret
            exact ⟨rfl, HB.out⟩

theorem isEmpty_of (s : ByteArray) : s.toList.isEmpty = decide (s.size = 0) := by
  rw [ByteArray.toList_eq, Bool.eq_iff_iff]
  simp [← ByteArray.size_data]

theorem name_all (s : ByteArray) (h : ∀ j (hj : j < s.size), 32 ≤ s[j].toNat) : s.data.toList.all (fun b => decide (32 ≤ b.toNat)) = true := by
  rw [List.all_eq_true]
  intro b hb
  obtain ⟨j, hj, rfl⟩ := List.getElem_of_mem hb
  exact decide_eq_true (h j (by simpa using hj))
theorem name_not (s : ByteArray) (k : Nat) (hk : k < s.size) (h : s[k].toNat < 32) : s.data.toList.all (fun b => decide (32 ≤ b.toNat)) = false := by
  rw [List.all_eq_false]
  refine ⟨s[k], by have := List.getElem_mem (l := s.data.toList) (n := k) (by simpa using hk); exact this, by simp; omega⟩

set_option maxRecDepth 100000 in
set_option maxHeartbeats 1000000 in
theorem isName_any (s : ByteArray) (w : World) (hs : s.size ≤ 9223372036854775807) :
    Calls Tryz.prog 143 #[.string s] w fun e w' => e = .returned (.bool (nameB s)) ∧ w' = w := by
  have he := isEmpty_of s
  by_cases h0 : s.size = 0
  · have e : nameB s = false := by unfold nameB; simp [h0]
    rw [e]
    rw [decide_eq_true h0] at he
    go_enter Tryz.func143, Tryz.ntmps143
    go_wp2
    go_ret
    exact ⟨rfl, rfl⟩
  · rw [decide_eq_false h0] at he
    by_cases h1 : (100 : Int) < s.size
    · have e : nameB s = false := by unfold nameB; rw [decide_eq_false (show ¬ s.size ≤ 100 by omega)]; simp
      rw [e]
      go_enter Tryz.func143, Tryz.ntmps143
      go_wp2
      go_ret
      exact ⟨rfl, rfl⟩
    · have e : nameB s = s.data.toList.all (fun b => decide (32 ≤ b.toNat)) := by unfold nameB; rw [decide_eq_true (show s.size ≠ 0 from h0), decide_eq_true (show s.size ≤ 100 by omega), Bool.true_and, Bool.true_and]
      rw [e]
      generalize hP : (fun (e : Ending) (w' : World) => e = .returned (.bool (s.data.toList.all (fun b => decide (32 ≤ b.toNat)))) ∧ w' = w) = Post
      have HP := hide hP
      clear hP e
      go_enter Tryz.func143, Tryz.ntmps143
      go_wp2
      go_loop [3, 13] (fun _ i => ∃ k : Nat, i = .int .i64 k ∧ k ≤ s.size ∧ Hid (∀ j (hj : j < s.size), j < k → 32 ≤ s[j].toNat)) (fun _ i => s.size - (intOf i).toNat)
      case atStart => exact ⟨0, rfl, Nat.zero_le _, fun j _ hj => absurd hj (Nat.not_lt_zero _)⟩
      case round =>
        obtain ⟨k, rfl, hk, HF⟩ := hrel
        by_cases hlt : k < s.size
        · by_cases h32 : ((s[k]'hlt).toNat : Int) < 32
          · have hfin : Hid (Post (.returned (.bool false)) w) := by
              show Post (.returned (.bool false)) w
              rw [← HP.out]
              exact ⟨ret_bool (name_not s k hlt (by omega)).symm, rfl⟩
            go_wp2
            exact hfin.out
          · go_wp2
            go_round
            case rel =>
              refine ⟨k + 1, by go_num, by omega, fun j hj hjk => ?_⟩
              by_cases h : j < k
              · exact HF.out j hj h
              · obtain rfl : j = k := by omega
                omega
            case measure => simp [intOf]; omega
        · have hfin : Hid (Post (.returned (.bool true)) w) := by
            show Post (.returned (.bool true)) w
            rw [← HP.out]
            exact ⟨ret_bool (name_all s (fun j hj => HF.out j hj (by omega))).symm, rfl⟩
          go_wp2
          exact hfin.out
end Go.Proofs.YtikjbbebfjleaaaGreatDoor

namespace Go.Proofs.YtikjbbebfjleaaaGreatDoor
open Go.RowKit

theorem keepCell {w w' : World} {a : Addr} {v : Value} (hb : Below w.heap.size w w') (h : w.cell? a = some v) : w'.cell? a = some v := (hb.cell (block_lt_of_cell h)).trans h

/-- A circuit's box and a symbol's. -/
def Held (b s : Nat) (c : CV) (a7 : Option Addr) (x0 x1 : Int) (x2 : ByteArray) (w' : World) : Prop := w'.cell? ⟨b, 0, none⟩ = some (.int .i64 c.m) ∧ w'.cell? ⟨b, 1, none⟩ = some (.slice c.a1 c.n1 c.c1) ∧ w'.cell? ⟨b, 2, none⟩ = some (.slice c.a2 c.n2 c.c2) ∧ w'.cell? ⟨b, 3, none⟩ = some (.slice c.a3 c.n3 c.c3) ∧ w'.cell? ⟨b, 4, none⟩ = some (.slice c.a4 c.n4 c.c4) ∧ w'.cell? ⟨b, 5, none⟩ = some (.slice c.a5 c.n5 c.c5) ∧ w'.cell? ⟨b, 6, none⟩ = some (.slice c.a6 c.n6 c.c6) ∧ w'.cell? ⟨b, 7, none⟩ = some (.slice a7 c.n7 c.c7) ∧ w'.cell? ⟨s, 0, none⟩ = some (.int .u8 x0) ∧ w'.cell? ⟨s, 1, none⟩ = some (.int .i64 x1) ∧ w'.cell? ⟨s, 2, none⟩ = some (.string x2)
theorem Held.below {b s : Nat} {c : CV} {a7 : Option Addr} {x0 x1 : Int} {x2 : ByteArray} {w w' : World} (h : Held b s c a7 x0 x1 x2 w) (hb : Below w.heap.size w w') : Held b s c a7 x0 x1 x2 w' := by
  obtain ⟨h0, h1, h2, h3, h4, h5, h6, h7, h8, h9, h10⟩ := h
  exact ⟨keepCell hb h0, keepCell hb h1, keepCell hb h2, keepCell hb h3, keepCell hb h4, keepCell hb h5, keepCell hb h6, keepCell hb h7, keepCell hb h8, keepCell hb h9, keepCell hb h10⟩
theorem held_new {wr : World} {b : Nat} {c : CV} (h : Box wr b c) (x0 x1 : Int) (x2 : ByteArray) : Held b wr.heap.size c c.a7 x0 x1 x2 (wr.alloc (.cells #[.int .u8 x0, .int .i64 x1, .string x2] 77)) := by
  obtain ⟨h0, h1, h2, h3, h4, h5, h6, h7⟩ := (h.alloc (.cells #[.int .u8 x0, .int .i64 x1, .string x2] 77)).cells
  have e : ∀ j, (wr.alloc (.cells #[.int .u8 x0, .int .i64 x1, .string x2] 77)).cell? ⟨wr.heap.size, j, none⟩ = (#[.int .u8 x0, .int .i64 x1, .string x2] : Array Value)[j]? := fun j => cell_of_row _ _ j _ _ (0, 0) (heap_alloc_new wr _)
  exact ⟨h0, h1, h2, h3, h4, h5, h6, h7, by rw [e]; rfl, by rw [e]; rfl, by rw [e]; rfl⟩

/-- Names' sizes. -/
def NamesFit (C : Circ) : Prop := ∀ s ∈ C.names, s.2.2.size ≤ 281474976710656

set_option maxRecDepth 100000 in
set_option maxHeartbeats 1000000 in
theorem rightNames_any (c : CV) (C : Circ) (w : World) (h : Holds w c C) (hn7 : c.n7 ≤ 320) (hN : NamesFit C) :
    Calls Tryz.prog 123 #[c.v] w fun e w' => e = .returned (.bool C.namesB) ∧ Below w.heap.size w w' := by
  have HK := hide (fun W kind (hb : Below w.heap.size w W) => howMany_any c C kind W (h.below hb))
  have HH := hide h
  have HN := hide hN
  have HB := hide (box_new w c)
  generalize hP : (fun (e : Ending) (w' : World) => e = .returned (.bool C.namesB) ∧ Below w.heap.size w w') = Post
  have HP := hide hP
  clear h hP hN
  unfold CV.v at HK ⊢
  generalize hA7 : c.a7 = A7 at HK HB ⊢
  have HA7 := hide hA7
  clear hA7
  go_enter Tryz.func123, Tryz.ntmps123
  go_wp2
  go_loopw [4, 8] (fun _ i wr => ∃ k : Nat, i = .int .i64 k ∧ k ≤ c.n7 ∧ Hid (Below w.heap.size w wr ∧ Box wr w.heap.size c ∧ ∀ j, j < k → C.symB (atP C.names j) = true)) (fun _ i _ => c.n7 - (intOf i).toNat)
  case atStart => exact ⟨0, rfl, Nat.zero_le _, below_alloc w _, HB.out, fun j hj => absurd hj (Nat.not_lt_zero _)⟩
  case round =>
    clear HB
    obtain ⟨k, rfl, hk, HF⟩ := hrel
    by_cases hlt : k < c.n7
    · obtain ⟨b, off, ha, hbw, hcell⟩ := HH.out.r7.addr (by rw [cellsS_len, HH.out.l7]; omega)
      rw [HA7.out] at ha
      subst ha
      have hat := cellsS_at C.names k (by rw [HH.out.l7]; exact hlt)
      have hc0 := (HF.out.1.cell (p := ⟨b, off + k * 3, none⟩) hbw).trans (hcell _ _ hat.1)
      have hc1 := (HF.out.1.cell (p := ⟨b, off + k * 3 + 1, none⟩) hbw).trans (hcell _ _ hat.2.1)
      have hc2 := (HF.out.1.cell (p := ⟨b, off + k * 3 + 2, none⟩) hbw).trans (hcell _ _ hat.2.2)
      have hmem := atP_mem C.names k (by rw [HH.out.l7]; exact hlt)
      have hsz := HN.out _ hmem
      obtain ⟨x, HX⟩ : ∃ x, Hid (x = atP C.names k) := ⟨_, rfl⟩
      rw [← HX.out] at hc0 hc1 hc2 hmem hsz
      obtain ⟨x0, x1, x2⟩ := x
      dsimp only at hc0 hc1 hc2 hsz
      have HMem := hide hmem
      have HBX := hide HF.out.2.1
      have hgo : Hid (C.symB (x0, x1, x2) = true → ∀ j, j < k + 1 → C.symB (atP C.names j) = true) := fun hr j hj => by
        by_cases hjk : j < k
        · exact HF.out.2.2 j hjk
        · obtain rfl : j = k := by omega
          rw [← HX.out]; exact hr
      have hno : Hid (C.symB (x0, x1, x2) = false → ∀ W, Below w.heap.size w W → Post (.returned (.bool false)) W) := fun hr W hW => by
        rw [← HP.out]
        exact ⟨ret_bool (List.all_eq_false.2 ⟨_, HMem.out, by rw [hr]; decide⟩).symm, hW⟩
      clear hcell hat hmem
      obtain ⟨q0, q1, q2, q3, q4, q5, q6, q7⟩ := HBX.out.cells
      rw [HA7.out] at q7
      have HD : Hid (∀ q, Below w.heap.size w ((wr.alloc (.cells #[.int .u8 x0, .int .i64 x1, .string x2] 77)).drewN q)) := fun q => belowThen HF.out.1 (belowThen (below_alloc wr _) (Drew.below ⟨q, rfl⟩))
      by_cases r0 : x1 < 0
      · have hfin := hide (hno.out (by unfold Circ.symB; rw [decide_eq_false (show ¬ 0 ≤ x1 by omega)]; rfl))
        clear hno hgo
        go_wp2
        go_quiet (fail)
        go_wp2
        exact hfin.out _ (HD.out _)
      · have hK := hide (fun W (hb : Below w.heap.size w W) => HK.out W x0 hb)
        obtain ⟨ct, HCT⟩ : ∃ ct, Hid (ct = C.countK x0 0) := ⟨_, rfl⟩
        rw [← HCT.out] at hK
        have hI := hide (fun W => isName_any x2 W (by omega))
        obtain ⟨nb, HNB⟩ : ∃ nb, Hid (nb = nameB x2) := ⟨_, rfl⟩
        rw [← HNB.out] at hI
        have hd0 : decide (x1 < 0) = false := decide_eq_false r0
        have HHd : Hid (∀ q, Held w.heap.size wr.heap.size c (some ⟨b, off, none⟩) x0 x1 x2 ((wr.alloc (.cells #[.int .u8 x0, .int .i64 x1, .string x2] 77)).drewN q)) := fun q => by
          have := held_new HBX.out x0 x1 x2
          rw [HA7.out] at this
          exact this
        by_cases r1 : x1 < ct
        · have hd1 : decide (ct ≤ x1) = false := decide_eq_false (by omega)
          cases nb with
          | true =>
            clear hno
            go_wp2
            go_region_held3 (fun w' => w'.cell? ⟨w.heap.size, 0, none⟩ = some (.int .i64 c.m) ∧ w'.cell? ⟨w.heap.size, 1, none⟩ = some (.slice c.a1 c.n1 c.c1) ∧ w'.cell? ⟨w.heap.size, 2, none⟩ = some (.slice c.a2 c.n2 c.c2) ∧ w'.cell? ⟨w.heap.size, 3, none⟩ = some (.slice c.a3 c.n3 c.c3) ∧ w'.cell? ⟨w.heap.size, 4, none⟩ = some (.slice c.a4 c.n4 c.c4) ∧ w'.cell? ⟨w.heap.size, 5, none⟩ = some (.slice c.a5 c.n5 c.c5) ∧ w'.cell? ⟨w.heap.size, 6, none⟩ = some (.slice c.a6 c.n6 c.c6) ∧ w'.cell? ⟨w.heap.size, 7, none⟩ = some (.slice (some ⟨b, off, none⟩) c.n7 c.c7) ∧ w'.cell? ⟨wr.heap.size, 0, none⟩ = some (.int .u8 x0) ∧ w'.cell? ⟨wr.heap.size, 1, none⟩ = some (.int .i64 x1) ∧ w'.cell? ⟨wr.heap.size, 2, none⟩ = some (.string x2)) (first | go_keep | exact Held.below (HHd.out _) hb2) (first | (go_at_call 142; refine (hK.out _ (HD.out _)).mono ?_; rintro e w2 ⟨rfl, hb2⟩) | (go_at_call 143; refine (hI.out _).mono ?_; rintro e w3 ⟨rfl, hw3⟩; obtain rfl := hw3.symm))
            go_wp2
            refine ⟨⟨k + 1, by go_num, by omega, belowThen (HD.out _) hb2, ?_, hgo.out ?_⟩, by simp [intOf]; omega⟩
            · exact (HBX.out.alloc (.cells #[.int .u8 x0, .int .i64 x1, .string x2] 77)).below (w' := w2) ⟨hb2.os, hb2.tape, hb2.output, hb2.size, hb2.block⟩
            · unfold Circ.symB
              rw [← HNB.out, ← HCT.out, decide_eq_true (show 0 ≤ x1 by omega), decide_eq_true r1]; rfl
          | false =>
            have hfin := hide (hno.out (by unfold Circ.symB; rw [← HNB.out]; simp))
            clear hno hgo
            go_wp2
            go_region_held3 (fun w' => w'.cell? ⟨w.heap.size, 0, none⟩ = some (.int .i64 c.m) ∧ w'.cell? ⟨w.heap.size, 1, none⟩ = some (.slice c.a1 c.n1 c.c1) ∧ w'.cell? ⟨w.heap.size, 2, none⟩ = some (.slice c.a2 c.n2 c.c2) ∧ w'.cell? ⟨w.heap.size, 3, none⟩ = some (.slice c.a3 c.n3 c.c3) ∧ w'.cell? ⟨w.heap.size, 4, none⟩ = some (.slice c.a4 c.n4 c.c4) ∧ w'.cell? ⟨w.heap.size, 5, none⟩ = some (.slice c.a5 c.n5 c.c5) ∧ w'.cell? ⟨w.heap.size, 6, none⟩ = some (.slice c.a6 c.n6 c.c6) ∧ w'.cell? ⟨w.heap.size, 7, none⟩ = some (.slice (some ⟨b, off, none⟩) c.n7 c.c7) ∧ w'.cell? ⟨wr.heap.size, 0, none⟩ = some (.int .u8 x0) ∧ w'.cell? ⟨wr.heap.size, 1, none⟩ = some (.int .i64 x1) ∧ w'.cell? ⟨wr.heap.size, 2, none⟩ = some (.string x2)) (first | go_keep | exact Held.below (HHd.out _) hb2) (first | (go_at_call 142; refine (hK.out _ (HD.out _)).mono ?_; rintro e w2 ⟨rfl, hb2⟩) | (go_at_call 143; refine (hI.out _).mono ?_; rintro e w3 ⟨rfl, hw3⟩; obtain rfl := hw3.symm))
            all_goals go_wp2
            exact hfin.out _ (belowThen (HD.out _) hb2)
        · have hd1 : decide (ct ≤ x1) = true := decide_eq_true (by omega)
          have hfin := hide (hno.out (by unfold Circ.symB; rw [decide_eq_false (show ¬ x1 < C.countK x0 0 by rw [← HCT.out]; exact r1)]; simp))
          clear hno hgo
          go_wp2
          replace r1 : ct ≤ x1 := by omega
          have hbl : w.heap.size < wr.heap.size := HBX.out.lt
          have hbl2 : w.heap.size ≠ wr.heap.size := by omega
          first | (go_region_with (first | (go_at_call 142; refine (hK.out _ (HD.out _)).mono ?_; rintro e w2 ⟨rfl, hb2⟩; obtain ⟨p0, p1, p2, p3, p4, p5, p6, p7, p8, p9, p10⟩ := Held.below (HHd.out _) hb2))) | skip
          all_goals go_wp2
          all_goals exact hfin.out _ (belowThen (HD.out _) hb2)
    · have hfin : Hid (Post (.returned (.bool true)) wr) := by
        show Post (.returned (.bool true)) wr
        rw [← HP.out]
        refine ⟨ret_bool (List.all_eq_true.2 (fun x hx => ?_)).symm, HF.out.1⟩
        obtain ⟨j, hj, rfl⟩ := List.getElem_of_mem hx
        have := HF.out.2.2 j (by rw [HH.out.l7] at hj; omega)
        rwa [atP_eq C.names j hj] at this
      go_wp2
      exact hfin.out
end Go.Proofs.YtikjbbebfjleaaaGreatDoor
