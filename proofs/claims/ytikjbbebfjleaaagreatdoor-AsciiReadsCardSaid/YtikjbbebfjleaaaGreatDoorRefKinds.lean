/-
  THE WALK of the reference's kinds.
-/
import Derived.Test.YtikjbbebfjleaaaGreatDoorJ26
namespace Go.Proofs.YtikjbbebfjleaaaGreatDoor
open Go.RowKit

/-- Which variables are of which kind. -/
structure Kd (n : Nat) (ts : List (Nat × Int)) (ks : List Int) : Prop where
  len : ks.length = n
  none : ∀ v, v < n → (atP ks v = 0 ↔ v ∉ ts.map (·.1))
  kind : (ts.map (·.1)).Nodup → ∀ t ∈ ts, atP ks t.1 = t.2
  low : ∀ t ∈ ts, t.1 < n

theorem kd_nil (n : Nat) : Kd n [] (List.replicate n 0) := ⟨by simp, fun v hv => by simp [atP_replicate _ _ _ hv], fun _ t ht => by (cases ht), fun t ht => by (cases ht)⟩
theorem kd_step {n v : Nat} {k : Int} {ts : List (Nat × Int)} {ks : List Int} (h : Kd n ts ks) (hv : v < n) (hk : k ≠ 0) : Kd n (ts ++ [(v, k)]) (ks.set v k) := by
  have hl := h.len
  refine ⟨by simpa using hl, fun u hu => ?_, fun hnd t ht => ?_, fun t ht => ?_⟩
  · by_cases e : u = v
    · subst e; rw [atP_set_same _ _ _ (by omega)]; simp [hk]
    · rw [atP_set_other _ _ _ _ (fun h => e h.symm), h.none u hu]; simp [e]
  · rw [List.map_append] at hnd
    obtain ⟨h1, -, h3⟩ := List.nodup_append.1 hnd
    rcases List.mem_append.1 ht with ht | ht
    · have hne : v ≠ t.1 := fun e => h3 t.1 (List.mem_map.2 ⟨t, ht, rfl⟩) v (by simp) e.symm
      rw [atP_set_other _ _ _ _ hne]; exact h.kind h1 t ht
    · rw [List.mem_singleton] at ht; subst ht; exact atP_set_same _ _ _ (by omega)
  · rcases List.mem_append.1 ht with ht | ht
    · exact h.low t ht
    · rw [List.mem_singleton] at ht; subst ht; exact hv

theorem nodup_snoc (ts : List Nat) (v : Nat) : decide ((ts ++ [v]).Nodup) = (decide ts.Nodup && decide (v ∉ ts)) := by
  rw [Bool.eq_iff_iff]
  simp only [decide_eq_true_eq, Bool.and_eq_true]
  constructor
  · intro h
    obtain ⟨h1, -, h3⟩ := List.nodup_append.1 h
    exact ⟨h1, fun hm => h3 v hm v (by simp) rfl⟩
  · rintro ⟨h1, h2⟩
    exact List.nodup_append.2 ⟨h1, List.nodup_cons.2 ⟨List.not_mem_nil, List.nodup_nil⟩, fun a ha b hb e => by rw [List.mem_singleton] at hb; subst hb; subst e; exact h2 ha⟩

def kI (l : Int) : Nat × Int := (varN l, 1)
def kL (t : Tri) : Nat × Int := (varN t.1, 2)
def kA (t : Tri) : Nat × Int := (varN t.1, 3)
def Circ.kindT (C : Circ) : List (Nat × Int) := C.ins.map kI ++ C.lats.map kL ++ C.ands.map kA
theorem kindT_vars (C : Circ) : C.kindT.map (·.1) = C.vars := by
  unfold Circ.kindT Circ.vars Circ.made
  simp only [List.map_append, List.map_map]
  rfl

structure KMid (w0 : World) (c : CV) (n : Nat) (ts : List (Nat × Int)) (ks : List Int) (ok : Bool) (wr : World) : Prop where
  own : wr.ownsRow (w0.heap.size + 1) 3 1 (.slice (some ⟨w0.heap.size + 1, 0, none⟩) n n) n (ks.map (Value.int .i64))
  below : Below w0.heap.size w0 wr
  box : Box wr w0.heap.size c
  kd : Kd n ts ks
  ok : ok = decide (ts.map (·.1)).Nodup

theorem KMid.step {w0 : World} {c : CV} {n : Nat} {ts : List (Nat × Int)} {ks : List Int} {ok : Bool} {wr : World} (h : KMid w0 c n ts ks ok wr) (v : Nat) (k : Int) (hv : v < n) (hk : k ≠ 0) :
    KMid w0 c n (ts ++ [(v, k)]) (ks.set v k) (ok && decide (atP ks v = 0)) (wr.setCell ⟨w0.heap.size + 1, v, none⟩ (.int .i64 k)) := by
  obtain ⟨hown2, hg3⟩ := h.own.stored v (.int .i64 k)
  refine ⟨by rw [List.map_set]; exact hown2, h.below.grown hg3 h.below.size (fun j hj => by cases hj; omega), h.box.grown hg3 (by simp), kd_step h.kd hv hk, ?_⟩
  rw [List.map_append, List.map_cons, List.map_nil, nodup_snoc, h.ok]
  congr 1
  rw [Bool.eq_iff_iff, decide_eq_true_eq, decide_eq_true_eq]
  exact h.kd.none v hv

/-- WHAT kinds TELLS. -/
def KindsPost (w : World) (C : Circ) (n : Nat) (e : Ending) (w' : World) : Prop :=
  Below w.heap.size w w' ∧ ∃ g ks, e = .returned (.tuple #[.slice (some ⟨g, 0, none⟩) n n, .bool C.onceB]) ∧ Kd n C.kindT ks ∧ w'.ownsRow w.heap.size 3 1 (.slice (some ⟨g, 0, none⟩) n n) n (ks.map (Value.int .i64))

set_option maxRecDepth 100000 in
set_option maxHeartbeats 2000000 in
theorem kinds_any (c : CV) (C : Circ) (w : World) (h : Holds w c C) (hS : Small C) (hL : Lits C) :
    Calls Tryz.prog 59 #[c.v] w (KindsPost w C (C.max.toNat + 1)) := by
  obtain ⟨i0, hi, hz0, hz1, hz2⟩ := info_parts infoInt
  have hm0 : 0 ≤ c.m := by rw [h.m]; exact hL.max
  have hm5 : c.m ≤ 5000 := by rw [h.m]; exact hS.max
  have h1 : c.n1 ≤ 64 := by rw [← h.l1]; exact hS.ins
  have h2 : c.n2 ≤ 64 := by rw [← h.l2]; exact hS.lats
  have h6 : c.n6 ≤ 2000 := by rw [← h.l6]; exact hS.ands
  obtain ⟨n, hn⟩ : ∃ n, n = C.max.toNat + 1 := ⟨_, rfl⟩
  have hnm : c.m + 1 = (n : Int) := by rw [hn, ← h.m]; omega
  have HV : Hid (∀ y ∈ C.made, 0 < y ∧ varN y < n) := fun y hy => by
    have := hL.own y hy
    have e := h.m
    refine ⟨this.1, ?_⟩
    unfold varN; omega
  have HV1 : Hid (∀ y ∈ C.ins, 0 < y ∧ varN y < n) := fun y hy => HV.out y (by unfold Circ.made; simp [hy])
  have HV2 : Hid (∀ y ∈ C.lats, 0 < y.1 ∧ varN y.1 < n) := fun y hy => HV.out y.1 (by unfold Circ.made; exact List.mem_append_left _ (List.mem_append_right _ (List.mem_map.2 ⟨y, hy, rfl⟩)))
  have HV6 : Hid (∀ y ∈ C.ands, 0 < y.1 ∧ varN y.1 < n) := fun y hy => HV.out y.1 (by unfold Circ.made; exact List.mem_append_right _ (List.mem_map.2 ⟨y, hy, rfl⟩))
  rw [← hn]
  have HH := hide h
  have HB := hide (box_new w c)
  generalize hP : KindsPost w C n = Post
  have HP := hide hP
  clear h hS hL hP hn HV
  have ez : ∀ o, (w.alloc o).heap.size = w.heap.size + 1 := fun o => by simp
  unfold CV.v
  unfold Box at HB
  generalize hA1 : c.a1 = A1 at HB ⊢
  generalize hA2 : c.a2 = A2 at HB ⊢
  generalize hA6 : c.a6 = A6 at HB ⊢
  have HA1 := hide hA1
  have HA2 := hide hA2
  have HA6 := hide hA6
  clear hA1 hA2 hA6
  go_enter Tryz.func59, Tryz.ntmps59
  go_wp2_with (first | (at_make; refine wpList_make_full _ rfl _ _ 24 rfl (w.heap.size + 1) 3 i0 (.int .i64 0) 1 Tryz.underlying24 hi hz0 hz1 .i64 .i64 _ _ n rfl rfl (by first | rfl | omega) (by first | rfl | omega) (by rw [hz2]; omega) (by unfold maxLen; omega) (by simp) ?_; intro w2 hown hg2; rw [madeI, ez] at hown; have HW2 := hide (And.intro hown hg2); clear hown hg2) | fail)
  have HM : Hid (KMid w c n [] (List.replicate n 0) true w2) := by
    have hbx : Box w2 w.heap.size c := by
      have hb : Box (w.alloc _) w.heap.size c := box_new w c
      rw [← HA1.out, ← HA2.out, ← HA6.out] at HW2
      exact hb.grown HW2.out.2 (by simp)
    exact ⟨HW2.out.1, (below_alloc w _).grown HW2.out.2 (by simp) (fun k hk => by cases hk), hbx, kd_nil n, by simp⟩
  clear HW2 HB
  have HT0 : Hid (([] : List (Nat × Int)) = [] ++ (C.ins.take 0).map kI) := rfl
  go_wp2
  go_loopw [5, 6] (fun s i wr => ∃ (k : Nat) (ok : Bool) (ks : List Int), i = .int .i64 k ∧ s = .bool ok ∧ k ≤ c.n1 ∧ Hid (KMid w c n ([] ++ (C.ins.take k).map kI) ks ok wr)) (fun _ i _ => c.n1 - (intOf i).toNat)
  case atStart => exact ⟨0, _, _, rfl, rfl, Nat.zero_le _, hide (by simpa using HM.out)⟩
  case round =>
    clear HM
    obtain ⟨k, ok, ks, rfl, rfl, hk, HM⟩ := hrel
    obtain ⟨q0, q1, q2, q3, q4, q5, q6, q7⟩ := HM.out.box.cells
    rw [HA1.out] at q1
    rw [HA2.out] at q2
    rw [HA6.out] at q6
    by_cases hlt : k < c.n1
    · obtain ⟨b, off, ha, hbw, hcell⟩ := HH.out.r1.addr (by rw [HH.out.l1]; omega)
      rw [HA1.out] at ha
      subst ha
      have hc0 := (HM.out.below.cell (p := ⟨b, off + k, none⟩) hbw).trans (hcell k (by rw [HH.out.l1]; exact hlt))
      rw [atP_getD] at hc0
      have hy := HV1.out _ (atP_mem C.ins k (by rw [HH.out.l1]; exact hlt))
      have HST := hide (map_take kI C.ins k (by rw [HH.out.l1]; exact hlt))
      obtain ⟨y, HY⟩ : ∃ y, Hid (y = (atP C.ins k)) := ⟨_, rfl⟩
      rw [← HY.out] at hc0 hy
      have hq := tdiv_two (show 0 ≤ y by omega)
      have hv := hy.2
      obtain ⟨v, HVV⟩ : ∃ v, Hid (v = varN y) := ⟨_, rfl⟩
      rw [← HVV.out] at hq hv
      have hcv := row_at HM.out.own v hv
      have hfv := HM.out.own.frozenAt v
      have HS := hide (HM.out.step v 1 hv (by decide))
      have HN : Hid ([] ++ (C.ins.take (k + 1)).map kI = ([] ++ (C.ins.take k).map kI) ++ [(v, 1)]) := by show _ = _; rw [HST.out, ← List.append_assoc]; show _ ++ [(varN (atP C.ins k), 1)] = _; rw [← HY.out, ← HVV.out]
      obtain ⟨z, HZ⟩ : ∃ z, Hid (z = atP ks v) := ⟨_, rfl⟩
      rw [← HZ.out] at hcv HS
      clear hcell hy HY HZ HST HVV
      cases ok with
      | false =>
        go_wp2
        go_roundw
        case rel => exact ⟨k + 1, false, _, by go_num, rfl, by omega, by rw [HN.out]; exact HS.out⟩
        case measure => simp [intOf]; omega
      | true =>
        by_cases hz : z = 0
        · subst hz
          go_wp2
          go_roundw
          case rel => exact ⟨k + 1, true, _, by go_num, rfl, by omega, by rw [HN.out]; exact HS.out⟩
          case measure => simp [intOf]; omega
        · have hzb : (z == 0) = false := by rw [beq_eq_false_iff_ne]; exact hz
          rw [decide_eq_false hz] at HS
          go_wp2
          go_roundw
          case rel => exact ⟨k + 1, false, _, by go_num, rfl, by omega, by rw [HN.out]; exact HS.out⟩
          case measure => simp [intOf]; omega
    · obtain rfl : k = c.n1 := by omega
      rw [List.take_of_length_le (by rw [HH.out.l1]; exact Nat.le_refl _)] at HM
      clear hlt hk
      go_wp2
      go_loopw [5, 7] (fun s i wr => ∃ (k : Nat) (ok : Bool) (ks : List Int), i = .int .i64 k ∧ s = .bool ok ∧ k ≤ c.n2 ∧ Hid (KMid w c n (C.ins.map kI ++ (C.lats.take k).map kL) ks ok wr)) (fun _ i _ => c.n2 - (intOf i).toNat)
      case atStart => exact ⟨0, _, _, rfl, rfl, Nat.zero_le _, hide (by simpa using HM.out)⟩
      case round =>
        clear HM
        obtain ⟨k, ok, ks, rfl, rfl, hk, HM⟩ := hrel
        obtain ⟨q0, q1, q2, q3, q4, q5, q6, q7⟩ := HM.out.box.cells
        rw [HA1.out] at q1
        rw [HA2.out] at q2
        rw [HA6.out] at q6
        by_cases hlt : k < c.n2
        · obtain ⟨b, off, ha, hbw, hcell⟩ := HH.out.r2.addr (by rw [cellsT_len, HH.out.l2]; omega)
          rw [HA2.out] at ha
          subst ha
          have hat := cellsT_at C.lats k (by rw [HH.out.l2]; exact hlt)
          have hc0 := (HM.out.below.cell (p := ⟨b, off + k * 3, none⟩) hbw).trans (hcell _ _ hat.1)
          clear hat
          have hy := HV2.out _ (atP_mem C.lats k (by rw [HH.out.l2]; exact hlt))
          have HST := hide (map_take kL C.lats k (by rw [HH.out.l2]; exact hlt))
          obtain ⟨y, HY⟩ : ∃ y, Hid (y = (atP C.lats k).1) := ⟨_, rfl⟩
          rw [← HY.out] at hc0 hy
          have hq := tdiv_two (show 0 ≤ y by omega)
          have hv := hy.2
          obtain ⟨v, HVV⟩ : ∃ v, Hid (v = varN y) := ⟨_, rfl⟩
          rw [← HVV.out] at hq hv
          have hcv := row_at HM.out.own v hv
          have hfv := HM.out.own.frozenAt v
          have HS := hide (HM.out.step v 2 hv (by decide))
          have HN : Hid (C.ins.map kI ++ (C.lats.take (k + 1)).map kL = (C.ins.map kI ++ (C.lats.take k).map kL) ++ [(v, 2)]) := by show _ = _; rw [HST.out, ← List.append_assoc]; show _ ++ [(varN (atP C.lats k).1, 2)] = _; rw [← HY.out, ← HVV.out]
          obtain ⟨z, HZ⟩ : ∃ z, Hid (z = atP ks v) := ⟨_, rfl⟩
          rw [← HZ.out] at hcv HS
          clear hcell hy HY HZ HST HVV
          cases ok with
          | false =>
            go_wp2
            go_roundw
            case rel => exact ⟨k + 1, false, _, by go_num, rfl, by omega, by rw [HN.out]; exact HS.out⟩
            case measure => simp [intOf]; omega
          | true =>
            by_cases hz : z = 0
            · subst hz
              go_wp2
              go_roundw
              case rel => exact ⟨k + 1, true, _, by go_num, rfl, by omega, by rw [HN.out]; exact HS.out⟩
              case measure => simp [intOf]; omega
            · have hzb : (z == 0) = false := by rw [beq_eq_false_iff_ne]; exact hz
              rw [decide_eq_false hz] at HS
              go_wp2
              go_roundw
              case rel => exact ⟨k + 1, false, _, by go_num, rfl, by omega, by rw [HN.out]; exact HS.out⟩
              case measure => simp [intOf]; omega
        · obtain rfl : k = c.n2 := by omega
          rw [List.take_of_length_le (by rw [HH.out.l2]; exact Nat.le_refl _)] at HM
          clear hlt hk
          go_wp2
          go_loopw [5, 8] (fun s i wr => ∃ (k : Nat) (ok : Bool) (ks : List Int), i = .int .i64 k ∧ s = .bool ok ∧ k ≤ c.n6 ∧ Hid (KMid w c n ((C.ins.map kI ++ C.lats.map kL) ++ (C.ands.take k).map kA) ks ok wr)) (fun _ i _ => c.n6 - (intOf i).toNat)
          case atStart => exact ⟨0, _, _, rfl, rfl, Nat.zero_le _, hide (by simpa using HM.out)⟩
          case round =>
            clear HM
            obtain ⟨k, ok, ks, rfl, rfl, hk, HM⟩ := hrel
            obtain ⟨q0, q1, q2, q3, q4, q5, q6, q7⟩ := HM.out.box.cells
            rw [HA1.out] at q1
            rw [HA2.out] at q2
            rw [HA6.out] at q6
            by_cases hlt : k < c.n6
            · obtain ⟨b, off, ha, hbw, hcell⟩ := HH.out.r6.addr (by rw [cellsT_len, HH.out.l6]; omega)
              rw [HA6.out] at ha
              subst ha
              have hat := cellsT_at C.ands k (by rw [HH.out.l6]; exact hlt)
              have hc0 := (HM.out.below.cell (p := ⟨b, off + k * 3, none⟩) hbw).trans (hcell _ _ hat.1)
              clear hat
              have hy := HV6.out _ (atP_mem C.ands k (by rw [HH.out.l6]; exact hlt))
              have HST := hide (map_take kA C.ands k (by rw [HH.out.l6]; exact hlt))
              obtain ⟨y, HY⟩ : ∃ y, Hid (y = (atP C.ands k).1) := ⟨_, rfl⟩
              rw [← HY.out] at hc0 hy
              have hq := tdiv_two (show 0 ≤ y by omega)
              have hv := hy.2
              obtain ⟨v, HVV⟩ : ∃ v, Hid (v = varN y) := ⟨_, rfl⟩
              rw [← HVV.out] at hq hv
              have hcv := row_at HM.out.own v hv
              have hfv := HM.out.own.frozenAt v
              have HS := hide (HM.out.step v 3 hv (by decide))
              have HN : Hid ((C.ins.map kI ++ C.lats.map kL) ++ (C.ands.take (k + 1)).map kA = ((C.ins.map kI ++ C.lats.map kL) ++ (C.ands.take k).map kA) ++ [(v, 3)]) := by show _ = _; rw [HST.out, ← List.append_assoc]; show _ ++ [(varN (atP C.ands k).1, 3)] = _; rw [← HY.out, ← HVV.out]
              obtain ⟨z, HZ⟩ : ∃ z, Hid (z = atP ks v) := ⟨_, rfl⟩
              rw [← HZ.out] at hcv HS
              clear hcell hy HY HZ HST HVV
              cases ok with
              | false =>
                go_wp2
                go_roundw
                case rel => exact ⟨k + 1, false, _, by go_num, rfl, by omega, by rw [HN.out]; exact HS.out⟩
                case measure => simp [intOf]; omega
              | true =>
                by_cases hz : z = 0
                · subst hz
                  go_wp2
                  go_roundw
                  case rel => exact ⟨k + 1, true, _, by go_num, rfl, by omega, by rw [HN.out]; exact HS.out⟩
                  case measure => simp [intOf]; omega
                · have hzb : (z == 0) = false := by rw [beq_eq_false_iff_ne]; exact hz
                  rw [decide_eq_false hz] at HS
                  go_wp2
                  go_roundw
                  case rel => exact ⟨k + 1, false, _, by go_num, rfl, by omega, by rw [HN.out]; exact HS.out⟩
                  case measure => simp [intOf]; omega
            · obtain rfl : k = c.n6 := by omega
              rw [List.take_of_length_le (by rw [HH.out.l6]; exact Nat.le_refl _)] at HM
              clear hlt hk
              have hfin : Hid (Post (.returned (.tuple #[.slice (some ⟨w.heap.size + 1, 0, none⟩) n n, .bool ok])) wr) := by
                show Post _ wr
                rw [← HP.out]
                have hm := HM.out
                have e : ok = C.onceB := by rw [hm.ok]; unfold Circ.onceB; rw [← kindT_vars]; rfl
                rw [e]
                exact ⟨hm.below, _, ks, rfl, hm.kd, own_le hm.own (Nat.le_succ _)⟩
              go_wp2
              exact hfin.out
end Go.Proofs.YtikjbbebfjleaaaGreatDoor
