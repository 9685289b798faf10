/-
  THE WALK of layer 4's newQueue.
-/
import Derived.Test.YtikjbbebfjleaaaGreatDoorJ21
import Derived.Deep.RegionLaw
import Derived.Deep.Cut
import Derived.Deep.CutRange
namespace Go.Proofs.YtikjbbebfjleaaaGreatDoor
open Go.RowKit

theorem alloc5 {w W : World} {o1 o2 o3 o4 o5 : Obj} (e : W.heap = (((((w.alloc o1).alloc o2).alloc o3).alloc o4).alloc o5).heap) (h : W.os = w.os ∧ W.tape = w.tape ∧ W.output = w.output) : W.heap[w.heap.size]? = some o1 ∧ W.heap[w.heap.size + 1]? = some o2 ∧ W.heap[w.heap.size + 1 + 1]? = some o3 ∧ W.heap[w.heap.size + 1 + 1 + 1]? = some o4 ∧ W.heap[w.heap.size + 1 + 1 + 1 + 1]? = some o5 ∧ W.heap.size = w.heap.size + 5 ∧ Below w.heap.size w W := by
  have s1 : (w.alloc o1).heap.size = w.heap.size + 1 := by simp
  have s2 : ((w.alloc o1).alloc o2).heap.size = w.heap.size + 1 + 1 := by simp
  have s3 : (((w.alloc o1).alloc o2).alloc o3).heap.size = w.heap.size + 1 + 1 + 1 := by simp
  have s4 : ((((w.alloc o1).alloc o2).alloc o3).alloc o4).heap.size = w.heap.size + 1 + 1 + 1 + 1 := by simp
  have b1 := heap_alloc_new w o1
  have b2 := heap_alloc_new (w.alloc o1) o2
  have b3 := heap_alloc_new ((w.alloc o1).alloc o2) o3
  have b4 := heap_alloc_new (((w.alloc o1).alloc o2).alloc o3) o4
  have b5 := heap_alloc_new ((((w.alloc o1).alloc o2).alloc o3).alloc o4) o5
  rw [s1] at b2
  rw [s2] at b3
  rw [s3] at b4
  rw [s4] at b5
  have k2 := (World.grownBy_alloc (w.alloc o1) o2 none).block
  have k3 := (World.grownBy_alloc ((w.alloc o1).alloc o2) o3 none).block
  have k4 := (World.grownBy_alloc (((w.alloc o1).alloc o2).alloc o3) o4 none).block
  have k5 := (World.grownBy_alloc ((((w.alloc o1).alloc o2).alloc o3).alloc o4) o5 none).block
  have hb := belowThen (belowThen (belowThen (belowThen (below_alloc w o1) (below_alloc _ o2)) (below_alloc _ o3)) (below_alloc _ o4)) (below_alloc _ o5)
  rw [e]
  refine ⟨?_, ?_, ?_, ?_, b5, by simp, h.1, h.2.1, h.2.2, by rw [e]; exact hb.size, fun k hk => by rw [e]; exact hb.block k hk⟩
  · exact (k5 _ (by omega) (by simp)).trans ((k4 _ (by omega) (by simp)).trans ((k3 _ (by omega) (by simp)).trans ((k2 _ (by omega) (by simp)).trans b1)))
  · exact (k5 _ (by omega) (by simp)).trans ((k4 _ (by omega) (by simp)).trans ((k3 _ (by omega) (by simp)).trans b2))
  · exact (k5 _ (by omega) (by simp)).trans ((k4 _ (by omega) (by simp)).trans b3)
  · exact (k5 _ (by omega) (by simp)).trans b4

set_option maxHeartbeats 400000 in
theorem least_any (w : World) : Calls Tryz.prog 160 #[] w fun e w' => e = .returned (.pointer (some ⟨w.heap.size, 0, none⟩)) ∧ w' = w.alloc (.cells #[.slice none 0 0, leastV] 197) := by
  unfold leastV
  go_enter Tryz.func160, Tryz.ntmps160
  go_wp2
  go_ret
  exact ⟨rfl, rfl⟩

/-- What lies in memory ahead of the places. -/
def NQ0 (w : World) (c : CV) (wx : World) : Prop :=
  Below w.heap.size w wx ∧ wx.heap.size = w.heap.size + 5 ∧ Box wx w.heap.size c ∧ ∃ pq gw gu, (pq < w.heap.size + 5 ∧ gw < w.heap.size + 5 ∧ gu < w.heap.size + 5) ∧ ∀ w3, Below wx.heap.size wx w3 → QM (w.heap.size + 1) w3.heap.size (w.heap.size + 1 + 1 + 1 + 1) pq gw gu c.n6 (.slice none 0 0) [] (List.replicate c.n6 0) (List.replicate c.n6 (.slice none 0 0)) (List.replicate c.n6 []) w3

theorem nq_alloc {w W : World} {c : CV} (o1 o2 o3 o4 o5 : Obj) (e : W.heap = (((((w.alloc o1).alloc o2).alloc o3).alloc o4).alloc o5).heap) (h : W.os = w.os ∧ W.tape = w.tape ∧ W.output = w.output) (k : (W.heap[w.heap.size]? = some o1 ∧ W.heap[w.heap.size + 1]? = some o2 ∧ W.heap[w.heap.size + 1 + 1]? = some o3 ∧ W.heap[w.heap.size + 1 + 1 + 1]? = some o4 ∧ W.heap[w.heap.size + 1 + 1 + 1 + 1]? = some o5 ∧ W.heap.size = w.heap.size + 5 ∧ Below w.heap.size w W) → NQ0 w c W) : Hid (NQ0 w c W) := k (alloc5 e h)

theorem nq0_of {w W : World} {c : CV} {A6 : Option Addr} {pq gw gu : Nat} {K1 K2 : Array Value} (hK1 : K1 = madeCells #[.int .i64 0] c.n6) (hK2 : K2 = madeCells #[.slice none 0 0] c.n6) (hA6 : c.a6 = A6) (h6 : c.n6 ≤ 2000) (hb : Below w.heap.size w W) (hs : W.heap.size = w.heap.size + 5)
    (h1 : W.heap[w.heap.size]? = some (.cells #[.int .i64 c.m, .slice c.a1 c.n1 c.c1, .slice c.a2 c.n2 c.c2, .slice c.a3 c.n3 c.c3, .slice c.a4 c.n4 c.c4, .slice c.a5 c.n5 c.c5, .slice A6 c.n6 c.c6, .slice c.a7 c.n7 c.c7] 29))
    (hw : W.heap[gw]? = some (.cells K1 3 (0, 0))) (hu : W.heap[gu]? = some (.cells K2 24 (0, 0))) (hp : W.heap[pq]? = some (.cells #[.slice none 0 0, leastV] 197 (0, 0)))
    (hq : W.heap[w.heap.size + 1 + 1 + 1 + 1]? = some (.cells #[.pointer (some ⟨pq, 0, none⟩), .slice (some ⟨gw, 0, none⟩) c.n6 c.n6, .slice (some ⟨gu, 0, none⟩) c.n6 c.n6] 180 (0, 0)))
    (l1 : w.heap.size < pq ∧ pq < w.heap.size + 4) (l2 : w.heap.size < gw ∧ gw < w.heap.size + 4) (l3 : w.heap.size < gu ∧ gu < w.heap.size + 4) (l4 : pq ≠ gw) (l5 : pq ≠ gu) (l6 : gw ≠ gu) : NQ0 w c W := by
  subst hK1
  subst hK2
  refine ⟨hb, hs, by rw [← hA6] at h1; exact h1, pq, gw, gu, by omega, fun w3 hb3 => ?_⟩
  have hs3 := hb3.size
  have e : ∀ k, k < w.heap.size + 5 → w3.heap[k]? = W.heap[k]? := fun k hk => hb3.block k (by omega)
  have hp3 := (e pq (by omega)).trans hp
  exact queue_new ((e gw (by omega)).trans hw) ((e gu (by omega)).trans hu) ((e _ (by omega)).trans hq) ⟨cell_of_row w3 pq 0 _ _ (0, 0) hp3, cell_of_row w3 pq 1 _ _ (0, 0) hp3, frozen_of_row w3 pq 0 _ _ hp3⟩ h6 (by omega) (by omega) (by omega) (Nat.le_refl _)

theorem kept_alloc_like {w W : World} {o : Obj} (e : W.heap = (w.alloc o).heap) (h : W.os = w.os ∧ W.tape = w.tape ∧ W.output = w.output) : Kept (fun _ => False) w W :=
  ⟨h.1, h.2.1, h.2.2, by rw [e]; simp, fun k hk _ => by rw [e]; exact (World.grownBy_alloc w o none).block k hk (by simp)⟩

/-- WHAT newQueue TELLS. -/
def NQPost (w : World) (C : Circ) (e : Ending) (w' : World) : Prop :=
  ∃ B q pq gw gu rv xs wts vs us, e = .returned (.pointer (some ⟨q, 0, none⟩)) ∧ QM (w.heap.size + 1) B q pq gw gu C.ands.length rv xs wts vs us w' ∧ Below w.heap.size w w' ∧ xs.Perm ((C.frees C.ands.length).map (fun k : Nat => (k : Int))) ∧ NInv C C.ands.length [] wts us

/-- In the midst of it. -/
structure NMid (w0 w3 : World) (C : Circ) (q pq gw gu gp n np : Nat) (ps : List Int) (k : Nat) (L : List Nat) (rv : Value) (xs wts : List Int) (vs : List Value) (us : List (List Nat)) (wr : World) : Prop where
  qm : QM (w0.heap.size + 1) w3.heap.size q pq gw gu n rv xs wts vs us wr
  inv : NInv C k L wts us
  perm : xs.Perm ((C.frees k).map (fun k : Nat => (k : Int)))
  kept : Kept (fun b => b = pq ∨ b = gw ∨ b = gu) w3 wr

theorem NMid.below {w0 w3 wr : World} {C : Circ} {q pq gw gu gp n np : Nat} {ps : List Int} {k : Nat} {L : List Nat} {rv : Value} {xs wts : List Int} {vs : List Value} {us : List (List Nat)} (h : NMid w0 w3 C q pq gw gu gp n np ps k L rv xs wts vs us wr) (hb : Below w0.heap.size w0 w3) : Below w0.heap.size w0 wr :=
  h.kept.below hb hb.size (fun b hb2 => by
    have h1 := h.qm.lt.2.2.2.2.2.2.2.2.2.2.2
    have h2 := h.qm.gwB.1
    have h3 := h.qm.guB.1
    omega)

/-- .. and in the midst of an And's sides, of which a slice sb holds both. -/
structure NSide (sb : Nat) (A B : Int) (n : Nat) (vs : List Value) (wr : World) : Prop where
  ca : wr.cell? ⟨sb, 0, none⟩ = some (.int .i64 A)
  cb : wr.cell? ⟨sb, 1, none⟩ = some (.int .i64 B)
  sep : ∀ i, i < n → (atP vs i).ownBlock ≠ some sb

theorem NMid.setW {w0 w3 wr : World} {C : Circ} {q pq gw gu gp n np : Nat} {ps : List Int} {k : Nat} {L : List Nat} {rv : Value} {xs wts : List Int} {vs : List Value} {us : List (List Nat)} (h : NMid w0 w3 C q pq gw gu gp n np ps k L rv xs wts vs us wr) (i : Nat) (x : Int) : Kept (fun b => b = pq ∨ b = gw ∨ b = gu) w3 (wr.setCell ⟨gw, i, none⟩ (.int .i64 x)) :=
  h.kept.trans (h.qm.setW i x).2 (fun _b _ hb => .inr (.inl hb))

theorem kept_sub {S T : Nat → Prop} {a b c : World} (h : Kept S a b) (k : Kept T b c) (hT : ∀ i, i < a.heap.size → T i → S i) : Kept S a c := h.trans k hT

theorem nq_fin {w W : World} {c : CV} {A6 : Option Addr} {pq gw gu : Nat} {K1 K2 : Array Value} {o1 oW oU oP o5 : Obj} (hK1 : K1 = madeCells #[.int .i64 0] c.n6) (hK2 : K2 = madeCells #[.slice none 0 0] c.n6) (hA6 : c.a6 = A6) (h6 : c.n6 ≤ 2000) (hb : Below w.heap.size w W) (hs : W.heap.size = w.heap.size + 5)
    (h1 : W.heap[w.heap.size]? = some o1) (hw : W.heap[gw]? = some oW) (hu : W.heap[gu]? = some oU) (hp : W.heap[pq]? = some oP) (hq : W.heap[w.heap.size + 1 + 1 + 1 + 1]? = some o5)
    (eW : oW = .cells K1 3 (0, 0)) (eU : oU = .cells K2 24 (0, 0)) (eP : oP = .cells #[.slice none 0 0, leastV] 197 (0, 0))
    (e1 : o1 = .cells #[.int .i64 c.m, .slice c.a1 c.n1 c.c1, .slice c.a2 c.n2 c.c2, .slice c.a3 c.n3 c.c3, .slice c.a4 c.n4 c.c4, .slice c.a5 c.n5 c.c5, .slice A6 c.n6 c.c6, .slice c.a7 c.n7 c.c7] 29 (0, 0))
    (e5 : o5 = .cells #[.pointer (some ⟨pq, 0, none⟩), .slice (some ⟨gw, 0, none⟩) c.n6 c.n6, .slice (some ⟨gu, 0, none⟩) c.n6 c.n6] 180 (0, 0))
    (l1 : w.heap.size < pq ∧ pq < w.heap.size + 4) (l2 : w.heap.size < gw ∧ gw < w.heap.size + 4) (l3 : w.heap.size < gu ∧ gu < w.heap.size + 4) (l4 : pq ≠ gw) (l5 : pq ≠ gu) (l6 : gw ≠ gu) : NQ0 w c W := by
  subst eW; subst eU; subst eP; subst e1; subst e5
  exact nq0_of hK1 hK2 hA6 h6 hb hs h1 hw hu hp hq l1 l2 l3 l4 l5 l6

set_option maxRecDepth 100000 in
set_option maxHeartbeats 4000000 in
theorem newQueue_any (c : CV) (C : Circ) (w : World) (h : Holds w c C) (hS : Small C) (hL : Lits C) (hG : C.gates.Nodup) :
    Calls Tryz.prog 144 #[c.v] w (NQPost w C) := by
  obtain ⟨i0, hi, hz0, hz1, hz2⟩ := info_parts infoInt
  obtain ⟨i1, hi1, hy0, hy1, hy2⟩ := info_parts infoSl
  have h6 : c.n6 ≤ 2000 := by rw [← h.l6]; exact hS.ands
  obtain ⟨K1, HK1⟩ : ∃ K1, Hid (K1 = madeCells #[.int .i64 0] c.n6) := ⟨_, rfl⟩
  obtain ⟨K2, HK2⟩ : ∃ K2, Hid (K2 = madeCells #[.slice none 0 0] c.n6) := ⟨_, rfl⟩
  have hmk1 : ∀ W, (Instr.makeSlice 24 (.int .i64 (c.n6 : Int)) (.int .i64 (c.n6 : Int))).run Tryz.prog W = .ok (.slice (some ⟨W.heap.size, 0, none⟩) c.n6 c.n6) (W.alloc (.cells K1 3)) := fun W => by rw [HK1.out]; exact run_make_row 24 3 i0 (.int .i64 0) Tryz.underlying24 hi hz0 hz1 rfl .i64 .i64 c.n6 (by rw [hz2]; omega) (by omega) W
  have hmk2 : ∀ W, (Instr.makeSlice 178 (.int .i64 (c.n6 : Int)) (.int .i64 (c.n6 : Int))).run Tryz.prog W = .ok (.slice (some ⟨W.heap.size, 0, none⟩) c.n6 c.n6) (W.alloc (.cells K2 24)) := fun W => by rw [HK2.out]; exact run_make_row 178 24 i1 (.slice none 0 0) Tryz.underlying178 hi1 hy0 hy1 rfl .i64 .i64 c.n6 (by rw [hy2]; omega) (by omega) W
  have HA := hide (fun W (hb : Below w.heap.size w W) => andPlaces_any c C W (h.below hb) hS hL)
  have hm0 : 0 ≤ c.m := by rw [h.m]; exact hL.max
  have hm5 : c.m ≤ 5000 := by rw [h.m]; exact hS.max
  obtain ⟨np, hnp⟩ : ∃ np, np = C.max.toNat + 1 := ⟨_, rfl⟩
  have hnm : (np : Int) = c.m + 1 := by rw [hnp, ← h.m]; omega
  rw [← hnp] at HA
  have HSd : Hid (∀ i, i < C.ands.length → (0 ≤ (atP C.ands i).2.1 ∧ (atP C.ands i).2.1 ≤ 2 * c.m + 1) ∧ 0 ≤ (atP C.ands i).2.2 ∧ (atP C.ands i).2.2 ≤ 2 * c.m + 1) := fun i hi => by
    rw [h.m]
    have hm := atP_mem C.ands i hi
    have hu : ∀ x ∈ [(atP C.ands i).2.1, (atP C.ands i).2.2], x ∈ C.used := fun x hx => by
      unfold Circ.used
      exact List.mem_append_right _ (List.mem_flatMap.2 ⟨_, hm, hx⟩)
    exact ⟨hL.lit _ (hu _ (by simp)), hL.lit _ (hu _ (by simp))⟩
  have HH := hide h
  have HG := hide hG
  generalize hP : NQPost w C = Post
  have HP := hide hP
  clear h hS hL hG hP hnp
  unfold CV.v at HA ⊢
  generalize hA6 : c.a6 = A6 at HA ⊢
  have HA6 := hide hA6
  clear hA6
  go_enter Tryz.func144, Tryz.ntmps144
  go_upto_region 1 with fail
  go_cut [3] from 10 (fun s3 wx => s3 = .pointer (some ⟨w.heap.size + 1 + 1 + 1 + 1, 0, none⟩) ∧ Hid (NQ0 w c wx))
  case first =>
    go_region_with (go_at_call 160; refine (least_any _).mono ?_; rintro e w1 ⟨rfl, rfl⟩)
    all_goals go_wp2_with fail
    all_goals go_meet
    all_goals
      refine ⟨rfl, ?_⟩
      refine nq_alloc _ _ _ _ _ rfl ⟨rfl, rfl, rfl⟩ ?_
      rintro ⟨a1, a2, a3, a4, a5, a6, a7⟩
      first
        | exact nq_fin HK1.out HK2.out HA6.out h6 a7 a6 a1 a2 a3 a4 a5 rfl rfl rfl rfl rfl (by omega) (by omega) (by omega) (by omega) (by omega) (by omega)
        | exact nq_fin HK1.out HK2.out HA6.out h6 a7 a6 a1 a2 a4 a3 a5 rfl rfl rfl rfl rfl (by omega) (by omega) (by omega) (by omega) (by omega) (by omega)
        | exact nq_fin HK1.out HK2.out HA6.out h6 a7 a6 a1 a3 a2 a4 a5 rfl rfl rfl rfl rfl (by omega) (by omega) (by omega) (by omega) (by omega) (by omega)
        | exact nq_fin HK1.out HK2.out HA6.out h6 a7 a6 a1 a3 a4 a2 a5 rfl rfl rfl rfl rfl (by omega) (by omega) (by omega) (by omega) (by omega) (by omega)
        | exact nq_fin HK1.out HK2.out HA6.out h6 a7 a6 a1 a4 a2 a3 a5 rfl rfl rfl rfl rfl (by omega) (by omega) (by omega) (by omega) (by omega) (by omega)
        | exact nq_fin HK1.out HK2.out HA6.out h6 a7 a6 a1 a4 a3 a2 a5 rfl rfl rfl rfl rfl (by omega) (by omega) (by omega) (by omega) (by omega) (by omega)
  case rest =>
    obtain ⟨rfl, HCut⟩ := hcut
    have hsc := HCut.out.2.1
    obtain ⟨-, -, -, pq, gw, gu, hgwu, hq0⟩ := HCut.out
    obtain ⟨q0, q1, q2, q3, q4, q5, q6, q7⟩ := HCut.out.2.2.1.cells
    rw [HA6.out] at q6
    clear hmk1 hmk2
    go_wp2_with fail
    refine (HA.out _ HCut.out.1).mono ?_
    rintro e w3 ⟨gp, ps, rfl, hb3, hpl, hown3⟩
    have hs3 := hb3.size
    have hbw3 := hide (belowThen HCut.out.1 hb3)
    have HB3 : Hid (Box w3 w.heap.size c) := HCut.out.2.2.1.below hb3
    have HQ0 := hide (hq0 w3 hb3)
    have hgp : w.heap.size + 5 ≤ gp ∧ gp < w3.heap.size := by
      have h1 := hown3.lt gp rfl
      omega
    have HO3 := hide hown3
    have HPl := hide hpl
    have HN6 : Hid (C.ands.length = c.n6) := HH.out.l6
    clear q0 q1 q2 q3 q4 q5 q6 q7
    obtain ⟨-, -, -, -, -, -, q6, -⟩ := HB3.out.cells
    rw [HA6.out] at q6
    clear hown3 hpl hs3 hb3 HCut hq0 hsc
    go_wp2
    go_loopw [5, 6, 8, 9, 26] (fun _ _ _ _ i wr => ∃ (k : Nat) (rv : Value) (xs wts : List Int) (vs : List Value) (us : List (List Nat)), i = .int .i64 k ∧ k ≤ c.n6 ∧ xs.length ≤ k ∧ Hid (NMid w w3 C (w.heap.size + 1 + 1 + 1 + 1) pq gw gu gp c.n6 np ps k [] rv xs wts vs us wr)) (fun _ _ _ _ i _ => c.n6 - (intOf i).toNat)
    case atStart =>
      have hn := ninv_start C
      rw [HN6.out] at hn
      exact ⟨0, _, _, _, _, _, rfl, Nat.zero_le _, Nat.le_refl _, HQ0.out, hn, List.Perm.refl _, Kept.refl _ _⟩
    case round =>
      clear HQ0 q6 HB3
      obtain ⟨k, rv, xs, wts, vs, us, rfl, hk, hxl, HM⟩ := hrel
      by_cases hlt : k < c.n6
      · obtain ⟨b, off, ha, hbw, hcell⟩ := HH.out.r6.addr (by rw [cellsT_len, HH.out.l6]; omega)
        rw [HA6.out] at ha
        subst ha
        have hbel := HM.out.below hbw3.out
        have hat := cellsT_at C.ands k (by rw [HH.out.l6]; exact hlt)
        have hc0 := (hbel.cell (p := ⟨b, off + k * 3, none⟩) hbw).trans (hcell _ _ hat.1)
        have hc1 := (hbel.cell (p := ⟨b, off + k * 3 + 1, none⟩) hbw).trans (hcell _ _ hat.2.1)
        have hc2 := (hbel.cell (p := ⟨b, off + k * 3 + 2, none⟩) hbw).trans (hcell _ _ hat.2.2)
        have hsd := HSd.out k (by rw [HH.out.l6]; exact hlt)
        obtain ⟨x, HX⟩ : ∃ x, Hid (x = atP C.ands k) := ⟨_, rfl⟩
        rw [← HX.out] at hc0 hc1 hc2 hsd
        obtain ⟨x0, x1, x2⟩ := x
        dsimp only at hc0 hc1 hc2 hsd
        have HSides : Hid (C.sides k = [varN x1, varN x2]) := by show C.sides k = _; unfold Circ.sides; rw [← HX.out]
        have HSD := hide hsd
        have HKal : Hid (∀ o o', Kept (fun _ => False) wr ((wr.alloc o).alloc o')) := fun o o' => Kept.of_below (below_two wr o o')
        have hwrs := HM.out.kept.size
        have HNS : Hid (∀ o, NSide (wr.heap.size + 1) x1 x2 c.n6 vs ((wr.alloc o).alloc (.cells #[.int .i64 x1, .int .i64 x2] 3))) := fun o => by
          have e : ∀ j, ((wr.alloc o).alloc (.cells #[.int .i64 x1, .int .i64 x2] 3)).cell? ⟨wr.heap.size + 1, j, none⟩ = (#[.int .i64 x1, .int .i64 x2] : Array Value)[j]? := fun j => cell_of_row _ _ j _ 3 (0, 0) (by have := heap_alloc_new (wr.alloc o) (.cells #[.int .i64 x1, .int .i64 x2] 3); simpa using this)
          exact ⟨by rw [e]; rfl, by rw [e]; rfl, fun i hi e2 => by have := (HM.out.qm.vsB i hi _ e2).2; omega⟩
        clear hcell hat hsd hbel
        go_wp2
        rename World => wrr
        go_loopw [8, 9, 37] (fun _ _ i wi => ∃ (j : Nat) (wts2 : List Int) (vs2 : List Value) (us2 : List (List Nat)), i = .int .i64 j ∧ j ≤ 2 ∧ Hid (NMid w w3 C (w.heap.size + 1 + 1 + 1 + 1) pq gw gu gp c.n6 np ps k ([varN x1, varN x2].take j) rv xs wts2 vs2 us2 wi ∧ NSide (wrr.heap.size + 1) x1 x2 c.n6 vs2 wi ∧ wrr.heap.size + 2 ≤ wi.heap.size)) (fun _ _ i _ => 2 - (intOf i).toNat)
        case atStart => exact ⟨0, wts, vs, us, rfl, Nat.zero_le _, ⟨HM.out.qm.kept (HKal.out _ _), HM.out.inv, HM.out.perm, HM.out.kept.trans (HKal.out _ _) (fun _ _ h => h.elim)⟩, HNS.out _, by simp⟩
        case round =>
          clear HM HNS HKal
          obtain ⟨j, wts2, vs2, us2, rfl, hj, HF⟩ := hrel
          by_cases hlt2 : j < 2
          · obtain ⟨y, hcy, hyb, hyt⟩ : ∃ y, wr.cell? ⟨wrr.heap.size + 1, j, none⟩ = some (.int .i64 y) ∧ (0 ≤ y ∧ y ≤ 2 * c.m + 1) ∧ [varN x1, varN x2].take (j + 1) = [varN x1, varN x2].take j ++ [varN y] := by
              rcases (by omega : j = 0 ∨ j = 1) with rfl | rfl
              · exact ⟨x1, HF.out.2.1.ca, HSD.out.1, rfl⟩
              · exact ⟨x2, HF.out.2.1.cb, HSD.out.2, rfl⟩
            have hq := tdiv_two hyb.1
            have hv : varN y < np := by unfold varN; omega
            obtain ⟨v, HVV⟩ : ∃ v, Hid (v = varN y) := ⟨_, rfl⟩
            rw [← HVV.out] at hq hv hyt
            have HYT := hide hyt
            have hpo := HF.out.1.kept.own HO3.out (fun b hb e => by
              have hb' : gp = b := Option.some.inj hb
              subst hb'
              omega)
            have hcp := row_at hpo v hv
            have hpl := HPl.out.2 v hv
            have HF2 := hide HF.out.2.2
            have hlK : k < C.ands.length := by rw [HN6.out]; exact hlt
            clear hpo hyt
            rcases hpl with ⟨hp1, hp2⟩ | ⟨p, hp1, hp2, hp3⟩
            · rw [hp1] at hcp
              have HMiss : Hid (v ∉ C.gates) := fun hm => by
                obtain ⟨i, hi, e⟩ := List.getElem_of_mem hm
                rw [gates_len] at hi
                rw [gates_at C i hi] at e
                exact hp2 i hi e
              clear hp2
              go_wp2
              go_roundw
              case rel => exact ⟨j + 1, wts2, vs2, us2, by go_num, by omega, ⟨HF.out.1.qm, by rw [HYT.out]; exact ninv_miss HF.out.1.inv HMiss.out, HF.out.1.perm, HF.out.1.kept⟩, HF.out.2.1, HF2.out⟩
              case measure => simp [intOf]; omega
            · rw [hp2] at hcp
              have hpn : p < c.n6 := by rw [← HN6.out]; exact hp1
              have hcw := HF.out.1.qm.wcell k hlt
              have hfw := HF.out.1.qm.ow.frozenAt k
              have hc1q := HF.out.1.qm.c1
              have hc2q := HF.out.1.qm.c2
              have hxb := HF.out.1.inv.w2 hlK
              have hxl2 : (([varN x1, varN x2].take j).filter (fun s => decide (s ∈ C.gates))).length ≤ 2 := Nat.le_trans (List.length_filter_le _ _) (by rw [List.length_take]; exact Nat.min_le_right _ _)
              obtain ⟨x, HXX⟩ : ∃ x, Hid (x = atP wts2 k) := ⟨_, rfl⟩
              rw [← HXX.out] at hcw hxb
              have hx0 : 0 ≤ x := by omega
              have hx2 : x ≤ 2 := by omega
              have hset := HF.out.1.qm.setW k (x + 1)
              have HSet := hide hset
              have HSK := hide (HF.out.1.setW k (x + 1))
              have hinv := ninv_hit HG.out HF.out.1.inv hlK hp1 hp3
              rw [← HXX.out] at hinv
              have HInv := hide hinv
              have hrow := HSet.out.1.rows p hpn
              have hcu := HSet.out.1.ucell p hpn
              have hfu := HSet.out.1.ou.frozenAt p
              have hcq2 := HSet.out.1.c2
              have hsB := HSet.out.1.pile.2.1
              obtain ⟨ra, rc, hre⟩ := own_form hrow
              obtain ⟨r, HRr⟩ : ∃ r, Hid (r = atP us2 p) := ⟨_, rfl⟩
              obtain ⟨RL, HRL⟩ : ∃ RL, Hid (RL = r.length) := ⟨_, rfl⟩
              obtain ⟨W2, hW2⟩ : ∃ W2, W2 = wr.setCell ⟨gw, k, none⟩ (.int .i64 (x + 1)) := ⟨_, rfl⟩
              have hrl : RL ≤ 4000 := by
                rw [HRL.out, HRr.out, HF.out.1.inv.u1 p hp1, List.length_append]
                have h1 := C.upTo_len p k
                have h2 : (C.hits p k ([varN x1, varN x2].take j)).length ≤ 2 := by
                  unfold Circ.hits
                  rw [List.length_map]
                  exact Nat.le_trans (List.length_filter_le _ _) (by rw [List.length_take]; exact Nat.min_le_right _ _)
                omega
              rw [hre] at hrow hcu
              rw [← HRr.out, ← HRL.out] at hre
              rw [← HRr.out, ← HRL.out] at hrow hcu
              rw [← hW2] at hrow hcu hfu hcq2 HSet HSK hsB
              have HW2 := hide hW2
              have HRow := hide hrow
              have HRe := hide hre
              have hw2s : W2.heap.size = wr.heap.size := by rw [hW2]; simp
              have HNE : Hid (∀ bb, bb < w3.heap.size → some bb ≠ (Value.slice ra RL rc).ownBlock) := fun bb hbb e => by
                have := (HRow.out.lt bb e.symm).1
                omega
              have hql : w.heap.size + 1 + 1 + 1 + 1 < w3.heap.size := HF.out.1.qm.lt.1
              have hgul : gu < w3.heap.size := HF.out.1.qm.lt.2.2.1
              have HC1 : Hid ((W2.alloc (.cells #[.int .i64 (k : Int)] 3)).cell? ⟨w.heap.size + 1 + 1 + 1 + 1, 2, none⟩ = some (.slice (some ⟨gu, 0, none⟩) c.n6 c.n6)) := (World.grownBy_alloc W2 _ none).cell hcq2 (by simp)
              have HC2 : Hid ((W2.alloc (.cells #[.int .i64 (k : Int)] 3)).cell? ⟨gu, p, none⟩ = some (.slice ra RL rc)) := (World.grownBy_alloc W2 _ none).cell hcu (by simp)
              have HC3 : Hid ((W2.alloc (.cells #[.int .i64 (k : Int)] 3)).frozen? ⟨gu, p, none⟩ = false) := frozen_like (World.grownBy_alloc W2 _ none) rfl (by show gu < W2.heap.size; omega) hfu (by simp)
              have hnz : ¬ (p : Int) < 0 := by omega
              have hcA1 := HC1.out
              have hcA2 := HC2.out
              have hcA3 := HC3.out
              have hgu2 : gu < W2.heap.size := by omega
              have hgu3 : gu ≠ W2.heap.size := by omega
              have hqq2 : w.heap.size + 1 + 1 + 1 + 1 < W2.heap.size := by omega
              have hqq3 : w.heap.size + 1 + 1 + 1 + 1 ≠ W2.heap.size := by omega
              have HEnd : Hid (∀ (W w4 : World) (v4 : Value), W.heap = (W2.alloc (.cells #[.int .i64 (k : Int)] 3)).heap → W.os = W2.os ∧ W.tape = W2.tape ∧ W.output = W2.output → W.grownBy w4 (Value.slice ra RL rc).ownBlock → w4.ownsRow w3.heap.size 3 1 v4 (RL + 1) (r.map natV ++ [.int .i64 (k : Int)]) → (v4.ownBlock = (Value.slice ra RL rc).ownBlock ∨ v4.ownBlock = some W.heap.size) → ∃ wts3 vs3 us3, NMid w w3 C (w.heap.size + 1 + 1 + 1 + 1) pq gw gu gp c.n6 np ps k ([varN x1, varN x2].take (j + 1)) rv xs wts3 vs3 us3 (w4.setCell ⟨gu, p, none⟩ v4) ∧ NSide (wrr.heap.size + 1) x1 x2 c.n6 vs3 (w4.setCell ⟨gu, p, none⟩ v4) ∧ wrr.heap.size + 2 ≤ (w4.setCell ⟨gu, p, none⟩ v4).heap.size) := fun W w4 v4 e1 e2 hg hown hat => by
                have hWs : W.heap.size = W2.heap.size + 1 := by rw [e1]; simp
                have hul : us2.length = c.n6 := by rw [HF.out.1.inv.ul, HN6.out]
                rw [← HRe.out] at hg hat
                rw [HRL.out, HRr.out] at hown
                obtain ⟨a1, a2⟩ := HSet.out.1.addU (i := k) hpn hul (kept_alloc_like e1 e2) hg hown hat (by omega)
                have hvB := fun b hb => HSet.out.1.vsB p hpn b hb
                have hgwl := HF.out.1.qm.lt.2.1
                have hside : ∀ o, (w4.setCell ⟨gu, p, none⟩ v4).cell? ⟨wrr.heap.size + 1, o, none⟩ = wr.cell? ⟨wrr.heap.size + 1, o, none⟩ := fun o => by
                  have h2 := HF2.out
                  have k1 := a2.block (wrr.heap.size + 1) (by omega) (fun e => by
                    rcases e with e | e
                    · omega
                    · exact HF.out.2.1.sep p hpn e)
                  rw [World.cell?_of_block (w := W2) (a := ⟨wrr.heap.size + 1, o, none⟩) k1, HW2.out]
                  exact cell_set_other (fun e => by cases e; omega)
                refine ⟨_, _, _, ⟨a1, by rw [HYT.out]; exact HInv.out, HF.out.1.perm, HSK.out.trans a2 (fun b hb ht => ?_)⟩, ⟨?_, ?_, ?_⟩, by have := a2.size; have := HF2.out; omega⟩
                · rcases ht with ht | ht
                  · exact .inr (.inr ht)
                  · have := (hvB b ht).1; omega
                · exact (hside 0).trans HF.out.2.1.ca
                · exact (hside 1).trans HF.out.2.1.cb
                · intro i hi e3
                  by_cases e4 : i = p
                  · subst e4
                    rw [atP_set_same _ _ _ (by rw [HF.out.1.qm.vlen]; exact hpn)] at e3
                    rcases hat with h1 | h1
                    · rw [h1] at e3; exact HF.out.2.1.sep i hi e3
                    · rw [h1] at e3; have := Option.some.inj e3; have := HF2.out; omega
                  · rw [atP_set_other _ _ _ _ (fun h => e4 h.symm)] at e3
                    exact HF.out.2.1.sep i hi e3
              clear hrow hre hset hinv hxb hxl2 hp2 hp3 hW2
              go_upto_region 12 with fail
              rw [← HW2.out]
              clear hcw hfw hc1q hc2q hcy hcp hc0 hc1 hc2 HInv HSet HSK HF2 HXX HRe HRr HYT HVV HSD HSides HX HPl HO3 HSd HA HG HW2 hx0 hx2 hnz hq hyb hw2s hwrs
              go_region_law ((refine step_append_at _ (by rfl) (.tmp 68) (.tmp 70) 24 (by rfl) w3.heap.size 3 i0 (.int .i64 0) 1 8 Tryz.underlying24 hi hz0 hz1 hz2 (by rfl) (by decide) (.slice ra RL rc) RL (r.map natV) (by simp [Act.eval]) (own_like (HRow.out.alloc (.cells #[.int .i64 (k : Int)] 3)) rfl) ⟨W2.heap.size, 0, none⟩ 1 1 [.int .i64 (k : Int)] (by simp [Act.eval]) (by rfl) (fun j u hu => (cell_heap rfl _).trans (cell_one_new W2 (.int .i64 (k : Int)) 3 j u hu)) (by intro u hu; simp at hu; subst hu; rfl) (by unfold maxLen; omega) (by omega) (by simp; omega) ?_; intro v4 w4 hown4 hg4 hat4; obtain ⟨a4, c4, rfl⟩ := own_form hown4; have hc4 : w4.cell? ⟨w.heap.size + 1 + 1 + 1 + 1, 2, none⟩ = some (.slice (some ⟨gu, 0, none⟩) c.n6 c.n6) := cell_like hg4 rfl HC1.out (HNE.out _ hql); have hc5 : w4.cell? ⟨gu, p, none⟩ = some (.slice ra RL rc) := cell_like hg4 rfl HC2.out (HNE.out _ hgul); have hf4 : w4.frozen? ⟨gu, p, none⟩ = false := frozen_like hg4 rfl (by show gu < (W2.alloc _).heap.size; simp; omega) HC3.out (HNE.out _ hgul)))
              all_goals
                go_wp2
                go_roundw
                case rel =>
                  obtain ⟨wts3, vs3, us3, e1, e2, e3⟩ := HEnd.out _ w4 _ (by rfl) ⟨by rfl, by rfl, by rfl⟩ hg4 hown4 hat4
                  exact ⟨j + 1, wts3, vs3, us3, by go_num, by omega, e1, e2, e3⟩
                case measure => simp [intOf]; omega
          · obtain rfl : j = 2 := by omega
            have hlK : k < C.ands.length := by rw [HN6.out]; exact hlt
            have hinv := HF.out.1.inv
            rw [show [varN x1, varN x2].take 2 = [varN x1, varN x2] from rfl, ← HSides.out] at hinv
            have hxv := hinv.w2 hlK
            rw [← wl_nil] at hxv
            have hwle := C.wl_le [] k
            have HInv := hide (ninv_next hinv hlK)
            have hcw := HF.out.1.qm.wcell k hlt
            have hc1q := HF.out.1.qm.c1
            rw [hxv] at hcw
            obtain ⟨x, HXX⟩ : ∃ x, Hid (x = C.wl [] k) := ⟨_, rfl⟩
            rw [← HXX.out] at hcw hwle
            have HFr := hide (frees_succ C k)
            rw [← HXX.out] at HFr
            have HQ := hide HF.out.1.qm
            have HPerm := hide HF.out.1.perm
            have HKept := hide HF.out.1.kept
            have hxl2 := hxl
            have hc0q := HF.out.1.qm.c0
            clear hinv hxv
            by_cases hz : x = 0
            · subst hz
              have hpush := heapPush (k : Int) HQ.out.pile HQ.out.heap (by omega)
              have HPush := hide hpush
              clear hpush
              go_wp2_with (first | (go_at_call 162; refine HPush.out.mono ?_; rintro e w5 ⟨rfl, rv5, zs5, hmv, hpm⟩))
              go_roundw
              case rel =>
                have hfr := HFr.out
                rw [if_pos (by trivial)] at hfr
                refine ⟨k + 1, rv5, zs5, wts2, vs2, us2, by go_num, by omega, by have := hpm.length_eq; simp at this; omega, HQ.out.moved hmv, HInv.out, ?_, ?_⟩
                · rw [hfr, List.map_append]; exact perm_push hpm HPerm.out
                · refine HKept.out.trans hmv.kept (fun b hb ht => ?_)
                  rcases ht with ht | ht
                  · exact .inl ht
                  · have := HQ.out.rvB b ht; omega
              case measure => simp [intOf]; omega
            · have hzb : ((x : Int) == 0) = false := by rw [beq_eq_false_iff_ne]; omega
              go_wp2
              go_roundw
              case rel =>
                have hfr := HFr.out
                rw [if_neg hz, List.append_nil] at hfr
                exact ⟨k + 1, rv, xs, wts2, vs2, us2, by go_num, by omega, by omega, HQ.out, HInv.out, by rw [hfr]; exact HPerm.out, HKept.out⟩
              case measure => simp [intOf]; omega
      · obtain rfl : k = c.n6 := by omega
        have hfin : Hid (Post (.returned (.pointer (some ⟨w.heap.size + 1 + 1 + 1 + 1, 0, none⟩))) wr) := by
          show Post _ wr
          rw [← HP.out]
          have hm := HM.out
          rw [← HN6.out] at hm
          exact ⟨_, _, pq, gw, gu, rv, xs, wts, vs, us, rfl, hm.qm, hm.below hbw3.out, hm.perm, hm.inv⟩
        go_wp2
        exact hfin.out
end Go.Proofs.YtikjbbebfjleaaaGreatDoor
