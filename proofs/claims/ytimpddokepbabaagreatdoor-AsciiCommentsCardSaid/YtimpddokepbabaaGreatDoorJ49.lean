/-
  THE WALK of the reference's kinds.
  THE WALKS of Vars and Bads, the program's and the reference's, and of the reference's known.
  THE WALK of the reference's uses.
-/
import Derived.Test.YtimpddokepbabaaGreatDoorAigCheck
import Derived.Deep.Cut
namespace Go.Proofs.YtimpddokepbabaaGreatDoor
open Go.RowKit

/-- Which variables are of which kind. -/
structure Kd (n : Nat) (ts : List (Nat × Int)) (ks : List Int) : Prop where
  len : ks.length = n
  none : ∀ v, v < n → (atP ks v = 0 ↔ v ∉ ts.map (·.1))
  kind : (ts.map (·.1)).Nodup → ∀ t ∈ ts, atP ks t.1 = t.2
  low : ∀ t ∈ ts, t.1 < n

theorem kd_nil (n : Nat) : Kd n [] (List.replicate n 0) := ⟨by simp, fun v hv => by simp [atP_replicate _ _ _ hv], fun _ t ht => by (cases ht), fun t ht => by (cases ht)⟩
theorem kd_step {n v : Nat} {k : Int} {ts : List (Nat × Int)} {ks : List Int} (h : Kd n ts ks) (hv : v < n) (hk : k ≠ 0) : Kd n (ts ++ [(v, k)]) (ks.set v k) := by
  have hl := h.len
  refine ⟨by simpa using hl, fun u hu => ?_, fun hnd t ht => ?_, fun t ht => ?_⟩
  · by_cases e : u = v
    · subst e; rw [atP_set_same _ _ _ (by omega)]; simp [hk]
    · rw [atP_set_other _ _ _ _ (fun h => e h.symm), h.none u hu]; simp [e]
  · rw [List.map_append] at hnd
    obtain ⟨h1, -, h3⟩ := List.nodup_append.1 hnd
    rcases List.mem_append.1 ht with ht | ht
    · have hne : v ≠ t.1 := fun e => h3 t.1 (List.mem_map.2 ⟨t, ht, rfl⟩) v (by simp) e.symm
      rw [atP_set_other _ _ _ _ hne]; exact h.kind h1 t ht
    · rw [List.mem_singleton] at ht; subst ht; exact atP_set_same _ _ _ (by omega)
  · rcases List.mem_append.1 ht with ht | ht
    · exact h.low t ht
    · rw [List.mem_singleton] at ht; subst ht; exact hv

theorem nodup_snoc (ts : List Nat) (v : Nat) : decide ((ts ++ [v]).Nodup) = (decide ts.Nodup && decide (v ∉ ts)) := by
  rw [Bool.eq_iff_iff]
  simp only [decide_eq_true_eq, Bool.and_eq_true]
  constructor
  · intro h
    obtain ⟨h1, -, h3⟩ := List.nodup_append.1 h
    exact ⟨h1, fun hm => h3 v hm v (by simp) rfl⟩
  · rintro ⟨h1, h2⟩
    exact List.nodup_append.2 ⟨h1, List.nodup_cons.2 ⟨List.not_mem_nil, List.nodup_nil⟩, fun a ha b hb e => by rw [List.mem_singleton] at hb; subst hb; subst e; exact h2 ha⟩

def kI (l : Int) : Nat × Int := (varN l, 1)
def kL (t : Tri) : Nat × Int := (varN t.1, 2)
def kA (t : Tri) : Nat × Int := (varN t.1, 3)
def Circ.kindT (C : Circ) : List (Nat × Int) := C.ins.map kI ++ C.lats.map kL ++ C.ands.map kA
theorem kindT_vars (C : Circ) : C.kindT.map (·.1) = C.vars := by
  unfold Circ.kindT Circ.vars Circ.made
  simp only [List.map_append, List.map_map]
  rfl

structure KMid (w0 : World) (c : CV) (n : Nat) (ts : List (Nat × Int)) (ks : List Int) (ok : Bool) (wr : World) : Prop where
  own : wr.ownsRow (w0.heap.size + 1) 3 1 (.slice (some ⟨w0.heap.size + 1, 0, none⟩) n n) n (ks.map (Value.int .i64))
  below : Below w0.heap.size w0 wr
  box : Box wr w0.heap.size c
  kd : Kd n ts ks
  ok : ok = decide (ts.map (·.1)).Nodup

theorem KMid.step {w0 : World} {c : CV} {n : Nat} {ts : List (Nat × Int)} {ks : List Int} {ok : Bool} {wr : World} (h : KMid w0 c n ts ks ok wr) (v : Nat) (k : Int) (hv : v < n) (hk : k ≠ 0) :
    KMid w0 c n (ts ++ [(v, k)]) (ks.set v k) (ok && decide (atP ks v = 0)) (wr.setCell ⟨w0.heap.size + 1, v, none⟩ (.int .i64 k)) := by
  obtain ⟨hown2, hg3⟩ := h.own.stored v (.int .i64 k)
  refine ⟨by rw [List.map_set]; exact hown2, h.below.grown hg3 h.below.size (fun j hj => by cases hj; omega), h.box.grown hg3 (by simp), kd_step h.kd hv hk, ?_⟩
  rw [List.map_append, List.map_cons, List.map_nil, nodup_snoc, h.ok]
  congr 1
  rw [Bool.eq_iff_iff, decide_eq_true_eq, decide_eq_true_eq]
  exact h.kd.none v hv

/-- WHAT kinds TELLS. -/
def KindsPost (w : World) (C : Circ) (n : Nat) (e : Ending) (w' : World) : Prop :=
  Below w.heap.size w w' ∧ ∃ g ks, e = .returned (.tuple #[.slice (some ⟨g, 0, none⟩) n n, .bool C.onceB]) ∧ Kd n C.kindT ks ∧ w'.ownsRow w.heap.size 3 1 (.slice (some ⟨g, 0, none⟩) n n) n (ks.map (Value.int .i64))

set_option maxRecDepth 100000 in
set_option maxHeartbeats 2000000 in
theorem kinds_any (c : CV) (C : Circ) (w : World) (h : Holds w c C) (hS : Small C) (hL : Lits C) :
    Calls Tryz.prog 59 #[c.v] w (KindsPost w C (C.max.toNat + 1)) := by
  obtain ⟨i0, hi, hz0, hz1, hz2⟩ := info_parts infoInt
  have hm0 : 0 ≤ c.m := by rw [h.m]; exact hL.max
  have hm5 : c.m ≤ 5000 := by rw [h.m]; exact hS.max
  have h1 : c.n1 ≤ 64 := by rw [← h.l1]; exact hS.ins
  have h2 : c.n2 ≤ 64 := by rw [← h.l2]; exact hS.lats
  have h6 : c.n6 ≤ 2000 := by rw [← h.l6]; exact hS.ands
  obtain ⟨n, hn⟩ : ∃ n, n = C.max.toNat + 1 := ⟨_, rfl⟩
  have hnm : c.m + 1 = (n : Int) := by rw [hn, ← h.m]; omega
  have HV : Hid (∀ y ∈ C.made, 0 < y ∧ varN y < n) := fun y hy => by
    have := hL.own y hy
    have e := h.m
    refine ⟨this.1, ?_⟩
    unfold varN; omega
  have HV1 : Hid (∀ y ∈ C.ins, 0 < y ∧ varN y < n) := fun y hy => HV.out y (by unfold Circ.made; simp [hy])
  have HV2 : Hid (∀ y ∈ C.lats, 0 < y.1 ∧ varN y.1 < n) := fun y hy => HV.out y.1 (by unfold Circ.made; exact List.mem_append_left _ (List.mem_append_right _ (List.mem_map.2 ⟨y, hy, rfl⟩)))
  have HV6 : Hid (∀ y ∈ C.ands, 0 < y.1 ∧ varN y.1 < n) := fun y hy => HV.out y.1 (by unfold Circ.made; exact List.mem_append_right _ (List.mem_map.2 ⟨y, hy, rfl⟩))
  rw [← hn]
  have HH := hide h
  have HB := hide (box_new w c)
  generalize hP : KindsPost w C n = Post
  have HP := hide hP
  clear h hS hL hP hn HV
  have ez : ∀ o, (w.alloc o).heap.size = w.heap.size + 1 := fun o => by simp
  unfold CV.v
  unfold Box at HB
  generalize hA1 : c.a1 = A1 at HB ⊢
  generalize hA2 : c.a2 = A2 at HB ⊢
  generalize hA6 : c.a6 = A6 at HB ⊢
  have HA1 := hide hA1
  have HA2 := hide hA2
  have HA6 := hide hA6
  clear hA1 hA2 hA6
  go_enter Tryz.func59, Tryz.ntmps59
  go_wp2_with (first | (at_make; refine wpList_make_full _ rfl _ _ 24 rfl (w.heap.size + 1) 3 i0 (.int .i64 0) 1 Tryz.underlying24 hi hz0 hz1 .i64 .i64 _ _ n rfl rfl (by first | rfl | omega) (by first | rfl | omega) (by rw [hz2]; omega) (by unfold maxLen; omega) (by simp) ?_; intro w2 hown hg2; rw [madeI, ez] at hown; have HW2 := hide (And.intro hown hg2); clear hown hg2) | fail)
  have HM : Hid (KMid w c n [] (List.replicate n 0) true w2) := by
    have hbx : Box w2 w.heap.size c := by
      have hb : Box (w.alloc _) w.heap.size c := box_new w c
      rw [← HA1.out, ← HA2.out, ← HA6.out] at HW2
      exact hb.grown HW2.out.2 (by simp)
    exact ⟨HW2.out.1, (below_alloc w _).grown HW2.out.2 (by simp) (fun k hk => by cases hk), hbx, kd_nil n, by simp⟩
  clear HW2 HB
  have HT0 : Hid (([] : List (Nat × Int)) = [] ++ (C.ins.take 0).map kI) := rfl
  go_wp2
  go_loopw [5, 6] (fun s i wr => ∃ (k : Nat) (ok : Bool) (ks : List Int), i = .int .i64 k ∧ s = .bool ok ∧ k ≤ c.n1 ∧ Hid (KMid w c n ([] ++ (C.ins.take k).map kI) ks ok wr)) (fun _ i _ => c.n1 - (intOf i).toNat)
  case atStart => exact ⟨0, _, _, rfl, rfl, Nat.zero_le _, hide (by simpa using HM.out)⟩
  case round =>
    clear HM
    obtain ⟨k, ok, ks, rfl, rfl, hk, HM⟩ := hrel
    obtain ⟨q0, q1, q2, q3, q4, q5, q6, q7⟩ := HM.out.box.cells
    rw [HA1.out] at q1
    rw [HA2.out] at q2
    rw [HA6.out] at q6
    by_cases hlt : k < c.n1
    · obtain ⟨b, off, ha, hbw, hcell⟩ := HH.out.r1.addr (by rw [HH.out.l1]; omega)
      rw [HA1.out] at ha
      subst ha
      have hc0 := (HM.out.below.cell (p := ⟨b, off + k, none⟩) hbw).trans (hcell k (by rw [HH.out.l1]; exact hlt))
      rw [atP_getD] at hc0
      have hy := HV1.out _ (atP_mem C.ins k (by rw [HH.out.l1]; exact hlt))
      have HST := hide (map_take kI C.ins k (by rw [HH.out.l1]; exact hlt))
      obtain ⟨y, HY⟩ : ∃ y, Hid (y = (atP C.ins k)) := ⟨_, rfl⟩
      rw [← HY.out] at hc0 hy
      have hq := tdiv_two (show 0 ≤ y by omega)
      have hv := hy.2
      obtain ⟨v, HVV⟩ : ∃ v, Hid (v = varN y) := ⟨_, rfl⟩
      rw [← HVV.out] at hq hv
      have hcv := row_at HM.out.own v hv
      have hfv := HM.out.own.frozenAt v
      have HS := hide (HM.out.step v 1 hv (by decide))
      have HN : Hid ([] ++ (C.ins.take (k + 1)).map kI = ([] ++ (C.ins.take k).map kI) ++ [(v, 1)]) := by show _ = _; rw [HST.out, ← List.append_assoc]; show _ ++ [(varN (atP C.ins k), 1)] = _; rw [← HY.out, ← HVV.out]
      obtain ⟨z, HZ⟩ : ∃ z, Hid (z = atP ks v) := ⟨_, rfl⟩
      rw [← HZ.out] at hcv HS
      clear hcell hy HY HZ HST HVV
      cases ok with
      | false =>
        go_wp2
        go_roundw
        case rel => exact ⟨k + 1, false, _, by go_num, rfl, by omega, by rw [HN.out]; exact HS.out⟩
        case measure => simp [intOf]; omega
      | true =>
        by_cases hz : z = 0
        · subst hz
          go_wp2
          go_roundw
          case rel => exact ⟨k + 1, true, _, by go_num, rfl, by omega, by rw [HN.out]; exact HS.out⟩
          case measure => simp [intOf]; omega
        · have hzb : (z == 0) = false := by rw [beq_eq_false_iff_ne]; exact hz
          rw [decide_eq_false hz] at HS
          go_wp2
          go_roundw
          case rel => exact ⟨k + 1, false, _, by go_num, rfl, by omega, by rw [HN.out]; exact HS.out⟩
          case measure => simp [intOf]; omega
    · obtain rfl : k = c.n1 := by omega
      rw [List.take_of_length_le (by rw [HH.out.l1]; exact Nat.le_refl _)] at HM
      clear hlt hk
      go_wp2
      go_loopw [5, 7] (fun s i wr => ∃ (k : Nat) (ok : Bool) (ks : List Int), i = .int .i64 k ∧ s = .bool ok ∧ k ≤ c.n2 ∧ Hid (KMid w c n (C.ins.map kI ++ (C.lats.take k).map kL) ks ok wr)) (fun _ i _ => c.n2 - (intOf i).toNat)
      case atStart => exact ⟨0, _, _, rfl, rfl, Nat.zero_le _, hide (by simpa using HM.out)⟩
      case round =>
        clear HM
        obtain ⟨k, ok, ks, rfl, rfl, hk, HM⟩ := hrel
        obtain ⟨q0, q1, q2, q3, q4, q5, q6, q7⟩ := HM.out.box.cells
        rw [HA1.out] at q1
        rw [HA2.out] at q2
        rw [HA6.out] at q6
        by_cases hlt : k < c.n2
        · obtain ⟨b, off, ha, hbw, hcell⟩ := HH.out.r2.addr (by rw [cellsT_len, HH.out.l2]; omega)
          rw [HA2.out] at ha
          subst ha
          have hat := cellsT_at C.lats k (by rw [HH.out.l2]; exact hlt)
          have hc0 := (HM.out.below.cell (p := ⟨b, off + k * 3, none⟩) hbw).trans (hcell _ _ hat.1)
          clear hat
          have hy := HV2.out _ (atP_mem C.lats k (by rw [HH.out.l2]; exact hlt))
          have HST := hide (map_take kL C.lats k (by rw [HH.out.l2]; exact hlt))
          obtain ⟨y, HY⟩ : ∃ y, Hid (y = (atP C.lats k).1) := ⟨_, rfl⟩
          rw [← HY.out] at hc0 hy
          have hq := tdiv_two (show 0 ≤ y by omega)
          have hv := hy.2
          obtain ⟨v, HVV⟩ : ∃ v, Hid (v = varN y) := ⟨_, rfl⟩
          rw [← HVV.out] at hq hv
          have hcv := row_at HM.out.own v hv
          have hfv := HM.out.own.frozenAt v
          have HS := hide (HM.out.step v 2 hv (by decide))
          have HN : Hid (C.ins.map kI ++ (C.lats.take (k + 1)).map kL = (C.ins.map kI ++ (C.lats.take k).map kL) ++ [(v, 2)]) := by show _ = _; rw [HST.out, ← List.append_assoc]; show _ ++ [(varN (atP C.lats k).1, 2)] = _; rw [← HY.out, ← HVV.out]
          obtain ⟨z, HZ⟩ : ∃ z, Hid (z = atP ks v) := ⟨_, rfl⟩
          rw [← HZ.out] at hcv HS
          clear hcell hy HY HZ HST HVV
          cases ok with
          | false =>
            go_wp2
            go_roundw
            case rel => exact ⟨k + 1, false, _, by go_num, rfl, by omega, by rw [HN.out]; exact HS.out⟩
            case measure => simp [intOf]; omega
          | true =>
            by_cases hz : z = 0
            · subst hz
              go_wp2
              go_roundw
              case rel => exact ⟨k + 1, true, _, by go_num, rfl, by omega, by rw [HN.out]; exact HS.out⟩
              case measure => simp [intOf]; omega
            · have hzb : (z == 0) = false := by rw [beq_eq_false_iff_ne]; exact hz
              rw [decide_eq_false hz] at HS
              go_wp2
              go_roundw
              case rel => exact ⟨k + 1, false, _, by go_num, rfl, by omega, by rw [HN.out]; exact HS.out⟩
              case measure => simp [intOf]; omega
        · obtain rfl : k = c.n2 := by omega
          rw [List.take_of_length_le (by rw [HH.out.l2]; exact Nat.le_refl _)] at HM
          clear hlt hk
          go_wp2
          go_loopw [5, 8] (fun s i wr => ∃ (k : Nat) (ok : Bool) (ks : List Int), i = .int .i64 k ∧ s = .bool ok ∧ k ≤ c.n6 ∧ Hid (KMid w c n ((C.ins.map kI ++ C.lats.map kL) ++ (C.ands.take k).map kA) ks ok wr)) (fun _ i _ => c.n6 - (intOf i).toNat)
          case atStart => exact ⟨0, _, _, rfl, rfl, Nat.zero_le _, hide (by simpa using HM.out)⟩
          case round =>
            clear HM
            obtain ⟨k, ok, ks, rfl, rfl, hk, HM⟩ := hrel
            obtain ⟨q0, q1, q2, q3, q4, q5, q6, q7⟩ := HM.out.box.cells
            rw [HA1.out] at q1
            rw [HA2.out] at q2
            rw [HA6.out] at q6
            by_cases hlt : k < c.n6
            · obtain ⟨b, off, ha, hbw, hcell⟩ := HH.out.r6.addr (by rw [cellsT_len, HH.out.l6]; omega)
              rw [HA6.out] at ha
              subst ha
              have hat := cellsT_at C.ands k (by rw [HH.out.l6]; exact hlt)
              have hc0 := (HM.out.below.cell (p := ⟨b, off + k * 3, none⟩) hbw).trans (hcell _ _ hat.1)
              clear hat
              have hy := HV6.out _ (atP_mem C.ands k (by rw [HH.out.l6]; exact hlt))
              have HST := hide (map_take kA C.ands k (by rw [HH.out.l6]; exact hlt))
              obtain ⟨y, HY⟩ : ∃ y, Hid (y = (atP C.ands k).1) := ⟨_, rfl⟩
              rw [← HY.out] at hc0 hy
              have hq := tdiv_two (show 0 ≤ y by omega)
              have hv := hy.2
              obtain ⟨v, HVV⟩ : ∃ v, Hid (v = varN y) := ⟨_, rfl⟩
              rw [← HVV.out] at hq hv
              have hcv := row_at HM.out.own v hv
              have hfv := HM.out.own.frozenAt v
              have HS := hide (HM.out.step v 3 hv (by decide))
              have HN : Hid ((C.ins.map kI ++ C.lats.map kL) ++ (C.ands.take (k + 1)).map kA = ((C.ins.map kI ++ C.lats.map kL) ++ (C.ands.take k).map kA) ++ [(v, 3)]) := by show _ = _; rw [HST.out, ← List.append_assoc]; show _ ++ [(varN (atP C.ands k).1, 3)] = _; rw [← HY.out, ← HVV.out]
              obtain ⟨z, HZ⟩ : ∃ z, Hid (z = atP ks v) := ⟨_, rfl⟩
              rw [← HZ.out] at hcv HS
              clear hcell hy HY HZ HST HVV
              cases ok with
              | false =>
                go_wp2
                go_roundw
                case rel => exact ⟨k + 1, false, _, by go_num, rfl, by omega, by rw [HN.out]; exact HS.out⟩
                case measure => simp [intOf]; omega
              | true =>
                by_cases hz : z = 0
                · subst hz
                  go_wp2
                  go_roundw
                  case rel => exact ⟨k + 1, true, _, by go_num, rfl, by omega, by rw [HN.out]; exact HS.out⟩
                  case measure => simp [intOf]; omega
                · have hzb : (z == 0) = false := by rw [beq_eq_false_iff_ne]; exact hz
                  rw [decide_eq_false hz] at HS
                  go_wp2
                  go_roundw
                  case rel => exact ⟨k + 1, false, _, by go_num, rfl, by omega, by rw [HN.out]; exact HS.out⟩
                  case measure => simp [intOf]; omega
            · obtain rfl : k = c.n6 := by omega
              rw [List.take_of_length_le (by rw [HH.out.l6]; exact Nat.le_refl _)] at HM
              clear hlt hk
              have hfin : Hid (Post (.returned (.tuple #[.slice (some ⟨w.heap.size + 1, 0, none⟩) n n, .bool ok])) wr) := by
                show Post _ wr
                rw [← HP.out]
                have hm := HM.out
                have e : ok = C.onceB := by rw [hm.ok]; unfold Circ.onceB; rw [← kindT_vars]; rfl
                rw [e]
                exact ⟨hm.below, _, ks, rfl, hm.kd, own_le hm.own (Nat.le_succ _)⟩
              go_wp2
              exact hfin.out
end Go.Proofs.YtimpddokepbabaaGreatDoor

namespace Go.Proofs.YtimpddokepbabaaGreatDoor
open Go.RowKit

def Circ.numVars (C : Circ) : Nat := C.ins.length + C.lats.length + C.ands.length
def Circ.badsOr (C : Circ) : List Int := if C.bads.length = 0 then C.outs else C.bads

set_option maxHeartbeats 1000000 in
theorem vars_of (c : CV) (C : Circ) (w : World) (h : Holds w c C) (h1 : c.n1 ≤ 281474976710656) (h2 : c.n2 ≤ 281474976710656) (h6 : c.n6 ≤ 281474976710656) :
    Calls Tryz.prog 99 #[c.v] w fun e w' => e = .returned (.int .i64 C.numVars) ∧ Below w.heap.size w w' := by
  have e : ((C.numVars : Nat) : Int) = c.n1 + c.n2 + c.n6 := by unfold Circ.numVars; rw [h.l1, h.l2, h.l6]; omega
  rw [e]
  clear e h
  unfold CV.v
  go_enter Tryz.func99, Tryz.ntmps99
  go_wp2
  go_ret
  exact ⟨by go_num, below_alloc w _⟩

/-- Which literals are of variables that are there (the reference's). -/
def knowB (ks : List Int) (l : Int) : Bool := !(decide (1 < l) && decide (atP ks (varN l) = 0))

set_option maxRecDepth 100000 in
set_option maxHeartbeats 1000000 in
theorem known_any (a b : Option Addr) (n c m d : Nat) (ks xs : List Int) (w : World) (hk : RowK .i64 w a ks) (hkl : ks.length = n) (hr : RowK .i64 w b xs) (hx : xs.length = m) (hn : n ≤ 9223372036854775807) (hm : m ≤ 9223372036854775807) (hin : ∀ l ∈ xs, varN l < ks.length) :
    Calls Tryz.prog 60 #[.slice a n c, .slice b m d] w fun e w' => e = .returned (.bool (xs.all (knowB ks))) ∧ w' = w := by
  have HR := hide hr
  have HX := hide hx
  have HK := hide hk
  have HKL := hide hkl
  have HI := hide hin
  generalize hP : (fun (e : Ending) (w' : World) => e = .returned (.bool (xs.all (knowB ks))) ∧ w' = w) = Post
  have HP := hide hP
  clear hr hx hP hk hkl hin
  go_enter Tryz.func60, Tryz.ntmps60
  go_wp2
  go_loop [5] (fun i => ∃ k : Nat, i = .int .i64 k ∧ k ≤ m ∧ Hid (∀ j, j < k → knowB ks (atP xs j) = true)) (fun i => m - (intOf i).toNat)
  case atStart => exact ⟨0, rfl, Nat.zero_le _, fun j hj => absurd hj (Nat.not_lt_zero _)⟩
  case round =>
    obtain ⟨k, rfl, hk, HF⟩ := hrel
    by_cases hlt : k < m
    · obtain ⟨b1, off, rfl, -, hcell⟩ := HR.out.addr (by rw [HX.out]; omega)
      have hc := hcell k (by rw [HX.out]; omega)
      rw [atP_getD] at hc
      have hmem := HI.out _ (atP_mem xs k (by rw [HX.out]; exact hlt))
      obtain ⟨y, HY⟩ : ∃ y, Hid (y = atP xs k) := ⟨_, rfl⟩
      rw [← HY.out] at hc hmem
      clear hcell
      have hgo : Hid (knowB ks y = true → ∀ j, j < k + 1 → knowB ks (atP xs j) = true) := fun hy j hj => by
        by_cases hjk : j < k
        · exact HF.out j hjk
        · obtain rfl : j = k := by omega
          rw [← HY.out]; exact hy
      by_cases q1 : 1 < y
      · have hq : decide (1 < y) = true := decide_eq_true q1
        have hv : y.tdiv 2 = (varN y : Nat) := tdiv_two (by omega)
        obtain ⟨b2, off2, rfl, -, hkc⟩ := HK.out.addr (by omega)
        have hc2 := hkc (varN y) hmem
        rw [HKL.out] at hmem
        rw [atP_getD] at hc2
        obtain ⟨v, HV⟩ : ∃ v, Hid (v = varN y) := ⟨_, rfl⟩
        obtain ⟨z, HZ⟩ : ∃ z, Hid (z = atP ks (varN y)) := ⟨_, rfl⟩
        rw [← HZ.out, ← HV.out] at hc2
        rw [← HV.out] at hv hmem
        clear hkc
        by_cases hz : z = 0
        · subst hz
          have hfin : Hid (Post (.returned (.bool false)) w) := by
            show Post (.returned (.bool false)) w
            rw [← HP.out]
            exact ⟨ret_bool (List.all_eq_false.2 ⟨y, by rw [HY.out]; exact atP_mem xs k (by rw [HX.out]; exact hlt), by unfold knowB; rw [hq, ← HZ.out]; decide⟩).symm, rfl⟩
          clear hgo
          go_wp2
          exact hfin.out
        · have hzb : (z == 0) = false := by rw [beq_eq_false_iff_ne]; exact hz
          have hg := hide (hgo.out (by unfold knowB; rw [hq, ← HZ.out, decide_eq_false hz]; rfl))
          clear hgo
          go_wp2
          go_round
          case rel => exact ⟨k + 1, by go_num, by omega, hg.out⟩
          case measure => simp [intOf]; omega
      · have hq : decide (1 < y) = false := decide_eq_false q1
        have hg := hide (hgo.out (by unfold knowB; rw [hq]; rfl))
        clear hgo hmem
        go_wp2
        go_round
        case rel => exact ⟨k + 1, by go_num, by omega, hg.out⟩
        case measure => simp [intOf]; omega
    · obtain rfl : k = m := by omega
      have hfin : Hid (Post (.returned (.bool true)) w) := by
        show Post (.returned (.bool true)) w
        rw [← HP.out]
        exact ⟨ret_bool (List.all_eq_true.2 (all_of (p := fun y => knowB ks y = true) (fun j hj => HF.out j (by rw [← HX.out]; exact hj)))).symm, rfl⟩
      go_wp2
      exact hfin.out
end Go.Proofs.YtimpddokepbabaaGreatDoor

namespace Go.Proofs.YtimpddokepbabaaGreatDoor
open Go.RowKit

def urA (C : Circ) (k : Nat) : List Int := C.outs ++ C.bads ++ C.cons ++ (C.lats.take k).map (·.2.1)
def urB (C : Circ) (k : Nat) : List Int := C.outs ++ C.bads ++ C.cons ++ C.lats.map (·.2.1) ++ (C.ands.take k).flatMap (fun a => [a.2.1, a.2.2])
def Circ.usesL (C : Circ) : List Int := C.outs ++ C.bads ++ C.cons ++ C.lats.map (·.2.1) ++ C.ands.flatMap (fun a => [a.2.1, a.2.2])
theorem urA_step (C : Circ) (k : Nat) (h : k < C.lats.length) : urA C (k + 1) = urA C k ++ [(atP C.lats k).2.1] := by
  unfold urA; rw [map_take _ _ _ h, ← List.append_assoc]
theorem urB_step (C : Circ) (k : Nat) (h : k < C.ands.length) : urB C (k + 1) = urB C k ++ [(atP C.ands k).2.1, (atP C.ands k).2.2] := by
  unfold urB; rw [flat_take _ _ h, ← List.append_assoc]
theorem urA_zero (C : Circ) : urA C 0 = C.outs ++ C.bads ++ C.cons := by simp [urA]
theorem urA_end (C : Circ) : urB C 0 = urA C C.lats.length := by simp [urA, urB]
theorem urB_end (C : Circ) : urB C C.ands.length = C.usesL := by simp [urB, Circ.usesL]
theorem uses_mem (C : Circ) (x : Int) : x ∈ C.usesL ↔ x ∈ C.used := by
  unfold Circ.usesL Circ.used
  simp only [List.mem_append]
  constructor <;> (rintro ((((h | h) | h) | h) | h) <;> simp [h])
theorem uses_all (C : Circ) (p : Int → Bool) : C.usesL.all p = C.used.all p := by
  rw [Bool.eq_iff_iff, List.all_eq_true, List.all_eq_true]
  exact ⟨fun h x hx => h x ((uses_mem C x).2 hx), fun h x hx => h x ((uses_mem C x).1 hx)⟩

theorem row_two {w : World} {b : Nat} (hb : b = w.heap.size) (x y : Int) (t : TypeId) : RowK .i64 (w.alloc (.cells #[.int .i64 x, .int .i64 y] t)) (some ⟨b, 0, none⟩) [x, y] := by
  subst hb
  refine .inr ⟨_, rfl, fun i hi => ?_⟩
  rw [add_plain, Nat.zero_add, cell_of_row _ _ i _ t (0, 0) (heap_alloc_new w _)]
  rcases (by simp at hi; omega : i = 0 ∨ i = 1) with rfl | rfl <;> rfl

set_option maxRecDepth 100000 in
set_option maxHeartbeats 4000000 in
theorem uses_any (c : CV) (C : Circ) (w : World) (h : Holds w c C) (hS : Small C) :
    Calls Tryz.prog 61 #[c.v] w fun e w' => ∃ v, e = .returned v ∧ NewInts w C.usesL v w' := by
  obtain ⟨i0, hi, hz0, hz1, hz2⟩ := info_parts infoInt
  have h2 : c.n2 ≤ 64 := by rw [← h.l2]; exact hS.lats
  have h3 : c.n3 ≤ 64 := by rw [← h.l3]; exact hS.outs
  have h4 : c.n4 ≤ 64 := by rw [← h.l4]; exact hS.bads
  have h5 : c.n5 ≤ 64 := by rw [← h.l5]; exact hS.cons
  have h6 : c.n6 ≤ 2000 := by rw [← h.l6]; exact hS.ands
  have HH := hide h
  have HB := hide (box_new w c)
  have HR3 := hide (fun W (hb : Below w.heap.size w W) => h.r3.below hb)
  have HR4 := hide (fun W (hb : Below w.heap.size w W) => h.r4.below hb)
  have HR5 := hide (fun W (hb : Below w.heap.size w W) => h.r5.below hb)
  generalize hP : (fun (e : Ending) (w' : World) => ∃ v, e = .returned v ∧ NewInts w C.usesL v w') = Post
  have HP := hide hP
  clear h hS hP
  unfold CV.v
  unfold Box at HB
  generalize hA2 : c.a2 = A2 at HB ⊢
  generalize hA6 : c.a6 = A6 at HB ⊢
  have HA2 := hide hA2
  have HA6 := hide hA6
  clear hA2 hA6
  go_enter Tryz.func61, Tryz.ntmps61
  go_upto_region 2 with (at_builtin; refine wpList_append_row _ rfl (.const (.slice none 0 0)) (.tmp 7) 24 rfl .i64 (w.heap.size + 1) 3 i0 (.int .i64 0) 8 Tryz.underlying24 hi hz0 hz1 hz2 rfl _ 0 [] rfl (World.ownsRow_nil _ _ _ _) c.a3 c.n3 c.c3 C.outs rfl HH.out.l3 (HR3.out _ (below_alloc _ _)) HH.out.z3 (by unfold maxLen; omega) (by omega) (by simp) ?_; intro v1 w1 hown1 hg1)
  have HM1 : Hid (Mk w c v1 c.n3 C.outs w1) := by
    rw [Nat.zero_add, List.nil_append] at hown1
    refine ⟨hown1, (below_alloc w _).grown hg1 (by simp) (fun k hk => by cases hk), ?_⟩
    have hb : Box (w.alloc (.cells #[.int .i64 c.m, .slice c.a1 c.n1 c.c1, .slice A2 c.n2 c.c2, .slice c.a3 c.n3 c.c3, .slice c.a4 c.n4 c.c4, .slice c.a5 c.n5 c.c5, .slice A6 c.n6 c.c6, .slice c.a7 c.n7 c.c7] 29)) w.heap.size c := by
      show _ = some (Obj.cells _ _ _)
      rw [HA2.out, HA6.out]; exact HB.out
    exact hb.grown hg1 (fun e => by cases e)
  clear hown1 hg1 HB
  go_cut [3] from 9 to 15 (fun v wx => Hid (Mk w c v (c.n3 + c.n4 + c.n5) (C.outs ++ C.bads ++ C.cons) wx))
  case first =>
    obtain ⟨q0, q1, q2, q3, q4, q5, q6, q7⟩ := HM1.out.box.cells
    have hbig := HM1.out.big
    have HR4w := hide (HR4.out w1 HM1.out.below)
    have HR5w := hide (HR5.out w1 HM1.out.below)
    have HV1 : Hid (∀ k, v1.ownBlock = some k → w.heap.size + 1 ≤ k) := fun k hk => (HM1.out.own.lt k hk).1
    go_region_law ((first | (refine step_append_row _ (by rfl) (.tmp 9) (.tmp 11) 24 (by rfl) .i64 (w.heap.size + 1) 3 i0 (.int .i64 0) 8 Tryz.underlying24 hi hz0 hz1 hz2 (by rfl) v1 c.n3 (C.outs.map (Value.int .i64)) (by simp [Act.eval]) (own_like HM1.out.own rfl) c.a4 c.n4 c.c4 C.bads (by simp [Act.eval]) HH.out.l4 (row_like HR4w.out rfl) HH.out.z4 (by unfold maxLen; omega) (by omega) (by exact hbig) ?_; intro v2 w2 hown2 hg2; have hbl2 := below_like HM1.out.below hg2 HM1.out.below.size (fun k hk => by have := HV1.out k hk; omega) ⟨rfl, rfl, rfl, rfl⟩; have hbx2 : Box w2 w.heap.size c := (hg2.block w.heap.size hbig (fun e => by have := HV1.out _ e.symm; omega)).trans HM1.out.box; have hbg2 : w.heap.size + 1 ≤ w2.heap.size := hbx2.lt; obtain ⟨r0, r1, r2, r3, r4, r5, r6, r7⟩ := hbx2.cells) | (refine step_append_row _ (by rfl) (.tmp 12) (.tmp 14) 24 (by rfl) .i64 (w.heap.size + 1) 3 i0 (.int .i64 0) 8 Tryz.underlying24 hi hz0 hz1 hz2 (by rfl) _ _ _ (by simp [Act.eval]) hown2 c.a5 c.n5 c.c5 C.cons (by simp [Act.eval]) HH.out.l5 (HR5.out _ hbl2) HH.out.z5 (by unfold maxLen; omega) (by omega) (by omega) ?_; intro v3 w3 hown3 hg3)))
    all_goals
      go_wp2_with fail
      go_meet
      refine ⟨?_, hbl2.grown hg3 hbl2.size (fun k hk => by have := (hown2.lt k hk).1; omega), hbx2.grown hg3 (fun e => by have := (hown2.lt _ e).1; omega)⟩
      rw [List.map_append, List.map_append]; exact hown3
  case rest =>
    rename World => wx
    have HM : Hid (Mk w c u3 (c.n3 + c.n4 + c.n5) (C.outs ++ C.bads ++ C.cons) wx) := hcut
    clear hcut HM1 HR3 HR4 HR5
    go_wp2
    go_loopw [3, 4] (fun v i wr => ∃ k : Nat, i = .int .i64 k ∧ k ≤ c.n2 ∧ Hid (Mk w c v (c.n3 + c.n4 + c.n5 + k) (urA C k) wr)) (fun _ i _ => c.n2 - (intOf i).toNat)
    case atStart => exact ⟨0, rfl, Nat.zero_le _, hide (by rw [Nat.add_zero, urA_zero]; exact HM.out)⟩
    case round =>
      clear HM
      obtain ⟨k, rfl, hk, HM⟩ := hrel
      obtain ⟨q0, q1, q2, q3, q4, q5, q6, q7⟩ := HM.out.box.cells
      rw [HA2.out] at q2
      rw [HA6.out] at q6
      by_cases hlt : k < c.n2
      · obtain ⟨b, off, ha, hbw, hcell⟩ := HH.out.r2.addr (by rw [cellsT_len, HH.out.l2]; omega)
        rw [HA2.out] at ha
        subst ha
        have hat := cellsT_at C.lats k (by rw [HH.out.l2]; exact hlt)
        have hc1 := (HM.out.below.cell (p := ⟨b, off + k * 3 + 1, none⟩) hbw).trans (hcell _ _ hat.2.1)
        have hst := urA_step C k (by rw [HH.out.l2]; exact hlt)
        obtain ⟨x, HX⟩ : ∃ x, Hid (x = atP C.lats k) := ⟨_, rfl⟩
        rw [← HX.out] at hc1 hst
        obtain ⟨x0, x1, x2⟩ := x
        dsimp only at hc1 hst
        have HST := hide hst
        have hbig := HM.out.big
        clear hcell hat hst HX
        go_wp2_with (at_builtin; refine wpList_append_own _ rfl (.tmp 23) (.tmp 30) 24 rfl (w.heap.size + 1) 3 i0 (.int .i64 0) 1 8 Tryz.underlying24 hi hz0 hz1 hz2 rfl (by decide) _ _ _ rfl (HM.out.own.alloc _) ⟨wr.heap.size, 0, none⟩ 1 1 [.int .i64 x1] rfl rfl (cell_one_at (by simp) _ _) (by intro u hu; simp at hu; subst hu; rfl) (by unfold maxLen; omega) (by omega) (by simp; omega) ?_; intro v6 w6 hown6 hg6 _)
        go_roundw
        case rel =>
          refine ⟨k + 1, by go_num, by omega, HM.out.step (below_alloc wr _) hg6 ?_⟩
          rw [HST.out, List.map_append]; exact hown6
        case measure => simp [intOf]; omega
      · obtain rfl : k = c.n2 := by omega
        have HM2 : Hid (Mk w c u3 (c.n3 + c.n4 + c.n5 + c.n2) (urB C 0) wr) := hide (by rw [urA_end, HH.out.l2]; exact HM.out)
        clear HM hlt hk
        go_wp2
        clear q0 q1 q2 q3 q4 q5 q6 q7
        go_loopw [3, 5] (fun v i wr => ∃ k : Nat, i = .int .i64 k ∧ k ≤ c.n6 ∧ Hid (Mk w c v (c.n3 + c.n4 + c.n5 + c.n2 + k * 2) (urB C k) wr)) (fun _ i _ => c.n6 - (intOf i).toNat)
        case atStart => exact ⟨0, rfl, Nat.zero_le _, hide (by rw [Nat.zero_mul, Nat.add_zero]; exact HM2.out)⟩
        case round =>
          clear HM2
          obtain ⟨k, rfl, hk, HM⟩ := hrel
          obtain ⟨q0, q1, q2, q3, q4, q5, q6, q7⟩ := HM.out.box.cells
          rw [HA2.out] at q2
          rw [HA6.out] at q6
          by_cases hlt : k < c.n6
          · obtain ⟨b, off, ha, hbw, hcell⟩ := HH.out.r6.addr (by rw [cellsT_len, HH.out.l6]; omega)
            rw [HA6.out] at ha
            subst ha
            have hat := cellsT_at C.ands k (by rw [HH.out.l6]; exact hlt)
            have hc1 := (HM.out.below.cell (p := ⟨b, off + k * 3 + 1, none⟩) hbw).trans (hcell _ _ hat.2.1)
            have hc2 := (HM.out.below.cell (p := ⟨b, off + k * 3 + 2, none⟩) hbw).trans (hcell _ _ hat.2.2)
            have hst := urB_step C k (by rw [HH.out.l6]; exact hlt)
            obtain ⟨x, HX⟩ : ∃ x, Hid (x = atP C.ands k) := ⟨_, rfl⟩
            rw [← HX.out] at hc1 hc2 hst
            obtain ⟨x0, x1, x2⟩ := x
            dsimp only at hc1 hc2 hst
            have HST := hide hst
            have hbig := HM.out.big
            have HV1 : Hid (∀ j, (u3).ownBlock = some j → w.heap.size + 1 ≤ j) := fun j hj => (HM.out.own.lt j hj).1
            clear hcell hat hst HX
            go_wp2
            go_region_law ((refine step_append_row _ (by rfl) (.tmp 39) (.tmp 52) 24 (by rfl) .i64 (w.heap.size + 1) 3 i0 (.int .i64 0) 8 Tryz.underlying24 hi hz0 hz1 hz2 (by rfl) _ (c.n3 + c.n4 + c.n5 + c.n2 + k * 2) ((urB C k).map (Value.int .i64)) (by simp [Act.eval]) (own_like (HM.out.own.alloc (.cells #[.int .i64 x1, .int .i64 x2] 3)) rfl) (some ⟨wr.heap.size, 0, none⟩) 2 2 [x1, x2] (by simp [Act.eval]) (by rfl) (row_like (row_two (w := wr) rfl x1 x2 3) rfl) (fun e => by cases e) (by unfold maxLen; omega) (by omega) (by simp; omega) ?_; intro v6 w6 hown6 hg6))
            all_goals
              go_wp2
              go_roundw
              case rel =>
                refine ⟨k + 1, by go_num, by omega, ?_, ?_, ?_⟩
                · rw [HST.out, List.map_append, show c.n3 + c.n4 + c.n5 + c.n2 + (k + 1) * 2 = c.n3 + c.n4 + c.n5 + c.n2 + k * 2 + 2 by omega]; exact hown6
                · exact below_like (belowThen HM.out.below (below_alloc wr (.cells #[.int .i64 x1, .int .i64 x2] 3))) hg6 (by have := HM.out.below.size; simp; omega) (fun j hj => by have := HV1.out j hj; omega) ⟨rfl, rfl, rfl, rfl⟩
                · exact (hg6.block w.heap.size (by simp; omega) (fun e => by have := HV1.out _ e.symm; omega)).trans (HM.out.box.alloc (.cells #[.int .i64 x1, .int .i64 x2] 3))
              case measure => simp [intOf]; omega
          · obtain rfl : k = c.n6 := by omega
            have hfin : Hid (Post (.returned u3) wr) := by
              show Post (.returned u3) wr
              rw [← HP.out]
              have hm := HM.out
              rw [← HH.out.l6, urB_end] at hm
              refine ⟨u3, rfl, ?_, hm.below⟩
              have e : C.usesL.length = c.n3 + c.n4 + c.n5 + c.n2 + C.ands.length * 2 := by
                have := hm.own.1
                simpa using this
              rw [e]
              exact own_le hm.own (Nat.le_succ _)
            go_wp2
            exact hfin.out
end Go.Proofs.YtimpddokepbabaaGreatDoor
