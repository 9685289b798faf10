/-
  THE WALK of layer 4's andPlaces.
-/
import Derived.Test.YtppaifckiaaffaaAigKnown
import Derived.Test.YtppaifckiaaffaaAigTurn
namespace Go.Proofs.Ytppaifckiaaffaa
open Go.RowKit

/-- Of each variable its place among the first k Ands, or -1. -/
def Pl (C : Circ) (n k : Nat) (ps : List Int) : Prop := ps.length = n ∧ ∀ v, v < n → (atP ps v = -1 ∧ ∀ i, i < k → C.gateOf i ≠ v) ∨ ∃ i, i < k ∧ atP ps v = (i : Int) ∧ C.gateOf i = v

theorem pl_step {C : Circ} {n k : Nat} {ps : List Int} (h : Pl C n k ps) (hv : C.gateOf k < n) : Pl C n (k + 1) (ps.set (C.gateOf k) (k : Int)) := by
  obtain ⟨h1, h2⟩ := h
  refine ⟨by simpa using h1, fun v hv2 => ?_⟩
  by_cases e : v = C.gateOf k
  · subst e
    exact .inr ⟨k, Nat.lt_succ_self _, atP_set_same _ _ _ (by omega), rfl⟩
  · rw [atP_set_other _ _ _ _ (fun h => e h.symm)]
    rcases h2 v hv2 with ⟨h3, h4⟩ | ⟨i, h3, h4, h5⟩
    · refine .inl ⟨h3, fun i hi => ?_⟩
      by_cases hik : i = k
      · subst hik; exact fun h => e h.symm
      · exact h4 i (by omega)
    · exact .inr ⟨i, by omega, h4, h5⟩

/-- WHAT andPlaces TELLS. -/
def PlacesPost (w : World) (C : Circ) (n : Nat) (e : Ending) (w' : World) : Prop :=
  ∃ g ps, e = .returned (.slice (some ⟨g, 0, none⟩) n n) ∧ Below w.heap.size w w' ∧ Pl C n C.ands.length ps ∧ w'.ownsRow w.heap.size 3 1 (.slice (some ⟨g, 0, none⟩) n n) n (ps.map (Value.int .i64))

structure PMid (w0 : World) (c : CV) (g n : Nat) (ps : List Int) (wr : World) : Prop where
  own : wr.ownsRow (w0.heap.size + 1) 3 1 (.slice (some ⟨g, 0, none⟩) n n) n (ps.map (Value.int .i64))
  below : Below w0.heap.size w0 wr
  box : Box wr w0.heap.size c

theorem PMid.set {w0 wr : World} {c : CV} {g n : Nat} {ps : List Int} (h : PMid w0 c g n ps wr) (i : Nat) (x : Int) (hg : g ≠ w0.heap.size) : PMid w0 c g n (ps.set i x) (wr.setCell ⟨g, i, none⟩ (.int .i64 x)) := by
  obtain ⟨h1, h2⟩ := h.own.stored i (.int .i64 x)
  have hgb := (h.own.lt g rfl).1
  refine ⟨by rw [List.map_set]; exact h1, h.below.grown h2 h.below.size (fun k hk => by cases hk; omega), h.box.grown h2 (by simpa using hg)⟩
theorem PMid.alloc {w0 wr : World} {c : CV} {g n : Nat} {ps : List Int} (h : PMid w0 c g n ps wr) (o : Obj) : PMid w0 c g n ps (wr.alloc o) := ⟨h.own.alloc o, belowThen h.below (below_alloc wr o), h.box.alloc o⟩

theorem gate_lt {C : Circ} (hL : Lits C) (i : Nat) (hi : i < C.ands.length) : 0 ≤ (atP C.ands i).1 ∧ (atP C.ands i).1 ≤ 2 * C.max + 1 := by
  have := hL.own (atP C.ands i).1 (by unfold Circ.made; exact List.mem_append_right _ (List.mem_map.2 ⟨_, atP_mem C.ands i hi, rfl⟩))
  omega

set_option maxRecDepth 100000 in
set_option maxHeartbeats 1000000 in
theorem andPlaces_any (c : CV) (C : Circ) (w : World) (h : Holds w c C) (hS : Small C) (hL : Lits C) :
    Calls Try.prog 111 #[c.v] w (PlacesPost w C (C.max.toNat + 1)) := by
  obtain ⟨i0, hi, hz0, hz1, hz2⟩ := info_parts infoInt
  have hm0 : 0 ≤ c.m := by rw [h.m]; exact hL.max
  have hm5 : c.m ≤ 5000 := by rw [h.m]; exact hS.max
  have h6 : c.n6 ≤ 2000 := by rw [← h.l6]; exact hS.ands
  obtain ⟨n, hn⟩ : ∃ n, n = C.max.toNat + 1 := ⟨_, rfl⟩
  have hnm : c.m + 1 = (n : Int) := by rw [hn, ← h.m]; omega
  have HG : Hid (∀ i, i < C.ands.length → 0 ≤ (atP C.ands i).1 ∧ (atP C.ands i).1 ≤ 2 * c.m + 1) := by rw [h.m]; exact fun i hi => gate_lt hL i hi
  rw [← hn]
  have HH := hide h
  have HB := hide (box_new w c)
  generalize hP : PlacesPost w C n = Post
  have HP := hide hP
  clear h hS hL hP hn
  have ez : ∀ o, (w.alloc o).heap.size = w.heap.size + 1 := fun o => by simp
  unfold CV.v
  generalize hA6 : c.a6 = A6 at HB ⊢
  have HA6 := hide hA6
  clear hA6
  go_enter Try.func111, Try.ntmps111
  go_wp2_with (first | (at_make; refine wpList_make_full _ rfl _ _ 22 rfl (w.heap.size + 1) 3 i0 (.int .i64 0) 1 Try.underlying22 hi hz0 hz1 .i64 .i64 _ _ n rfl rfl (by first | rfl | omega) (by first | rfl | omega) (by rw [hz2]; omega) (by unfold maxLen; omega) (by simp) ?_; intro w2 hown hg2; rw [madeI, ez] at hown; have HM0 : Hid (PMid w c (w.heap.size + 1) n (List.replicate n 0) w2) := ⟨hown, (below_alloc w _).grown hg2 (by simp) (fun k hk => by cases hk), HB.out.grown hg2 (by simp)⟩; clear hown hg2))
  go_loopw [4, 13] (fun _ i wr => ∃ (k : Nat) (ps : List Int), i = .int .i64 k ∧ k ≤ n ∧ Hid (PMid w c (w.heap.size + 1) n ps wr ∧ ∀ j, j < k → atP ps j = -1)) (fun _ i _ => n - (intOf i).toNat)
  case atStart => exact ⟨0, _, rfl, Nat.zero_le _, HM0.out, fun j hj => absurd hj (Nat.not_lt_zero _)⟩
  case round =>
    clear HM0
    obtain ⟨k, ps, rfl, hk, HF⟩ := hrel
    by_cases hlt : k < n
    · have hc := row_at HF.out.1.own k hlt
      have hf := HF.out.1.own.frozenAt k
      obtain ⟨x, HX⟩ : ∃ x, Hid (x = atP ps k) := ⟨_, rfl⟩
      rw [← HX.out] at hc
      go_wp2
      go_roundw
      case rel =>
        refine ⟨k + 1, ps.set k (-1), by go_num, by omega, HF.out.1.set k (-1) (by omega), fun j hj => ?_⟩
        by_cases e : k = j
        · subst e; exact atP_set_same _ _ _ (by have := HF.out.1.own.1; simp at this; omega)
        · rw [atP_set_other _ _ _ _ e]; exact HF.out.2 j (by omega)
      case measure => simp [intOf]; omega
    · obtain rfl : k = n := by omega
      have HM1 : Hid (PMid w c (w.heap.size + 1) k ps wr ∧ Pl C k 0 ps) := ⟨HF.out.1, by have := HF.out.1.own.1; simpa using this, fun v hv => .inl ⟨HF.out.2 v hv, fun i hi => absurd hi (Nat.not_lt_zero _)⟩⟩
      obtain ⟨-, -, -, -, -, -, q6, -⟩ := HM1.out.1.box.cells
      rw [HA6.out] at q6
      clear HF hlt hk
      go_wp2
      rename World => wo
      go_loopw [5, 6, 23] (fun _ _ i wr => ∃ (j : Nat) (qs : List Int), i = .int .i64 j ∧ j ≤ c.n6 ∧ Hid (PMid w c (w.heap.size + 1) k qs wr ∧ Pl C k j qs)) (fun _ _ i _ => c.n6 - (intOf i).toNat)
      case atStart => exact ⟨0, ps, rfl, Nat.zero_le _, HM1.out⟩
      case round =>
        clear HM1 q6
        obtain ⟨j, qs, rfl, hj, HF⟩ := hrel
        by_cases hlt : j < c.n6
        · obtain ⟨b, off, ha, hbw, hcell⟩ := HH.out.r6.addr (by rw [cellsT_len, HH.out.l6]; omega)
          rw [HA6.out] at ha
          subst ha
          have hat := cellsT_at C.ands j (by rw [HH.out.l6]; exact hlt)
          have hc0 := (HF.out.1.below.cell (p := ⟨b, off + j * 3, none⟩) hbw).trans (hcell _ _ hat.1)
          have hc1 := (HF.out.1.below.cell (p := ⟨b, off + j * 3 + 1, none⟩) hbw).trans (hcell _ _ hat.2.1)
          have hc2 := (HF.out.1.below.cell (p := ⟨b, off + j * 3 + 2, none⟩) hbw).trans (hcell _ _ hat.2.2)
          have hg := HG.out j (by rw [HH.out.l6]; exact hlt)
          obtain ⟨x, HX⟩ : ∃ x, Hid (x = atP C.ands j) := ⟨_, rfl⟩
          rw [← HX.out] at hc0 hc1 hc2 hg
          obtain ⟨x0, x1, x2⟩ := x
          dsimp only at hc0 hc1 hc2 hg
          have hq := tdiv_two hg.1
          have hv : varN x0 < k := by unfold varN; omega
          have hgo : Hid (C.gateOf j = varN x0) := by show C.gateOf j = _; unfold Circ.gateOf; rw [← HX.out]
          obtain ⟨v, HVV⟩ : ∃ v, Hid (v = varN x0) := ⟨_, rfl⟩
          rw [← HVV.out] at hq hv hgo
          have hbig := HF.out.1.box.lt
          have hcv := (World.grownBy_alloc wr (.cells #[.int .i64 x0, .int .i64 x1, .int .i64 x2] 46) none).cell (row_at HF.out.1.own v hv) (by simp)
          have hfv := (HF.out.1.own.alloc (.cells #[.int .i64 x0, .int .i64 x1, .int .i64 x2] 46)).frozenAt v
          have hne : w.heap.size + 1 ≠ wr.heap.size := by have := (HF.out.1.own.lt (w.heap.size + 1) rfl).2; omega
          obtain ⟨y, HYy⟩ : ∃ y, Hid (y = atP qs v) := ⟨_, rfl⟩
          rw [← HYy.out] at hcv
          clear hcell hat
          go_wp2
          go_roundw
          case rel =>
            refine ⟨j + 1, qs.set v (j : Int), by go_num, by omega, (HF.out.1.alloc _).set v _ (Nat.succ_ne_self _), ?_⟩
            have := pl_step HF.out.2 (by rw [hgo.out]; exact hv)
            rwa [hgo.out] at this
          case measure => simp [intOf]; omega
        · obtain rfl : j = c.n6 := by omega
          have hfin : Hid (Post (.returned (.slice (some ⟨w.heap.size + 1, 0, none⟩) k k)) wr) := by
            show Post _ wr
            rw [← HP.out]
            have hm := HF.out
            rw [← HH.out.l6] at hm
            exact ⟨_, qs, rfl, hm.1.below, hm.2, own_le hm.1.own (Nat.le_succ _)⟩
          go_wp2
          exact hfin.out
end Go.Proofs.Ytppaifckiaaffaa
