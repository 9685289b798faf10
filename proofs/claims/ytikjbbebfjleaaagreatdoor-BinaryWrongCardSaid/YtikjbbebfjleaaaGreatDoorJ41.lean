/-
  THE WALK of the reference's Sort.
  THE WALK of the reference's Sort, all of it.
-/
import Derived.Test.YtikjbbebfjleaaaGreatDoorRefKinds
namespace Go.Proofs.YtikjbbebfjleaaaGreatDoor
open Go.RowKit

/-- What the reference asks of an And that it takes. -/
def Circ.freeB (C : Circ) (T : List Nat) (i : Nat) : Bool := !decide (i ∈ T) && C.readyB T i

theorem next_none' {C : Circ} {T : List Nat} (h : ∀ j, j < C.ands.length → C.freeB T j = false) : C.nextA T = none := by
  unfold Circ.nextA
  rw [List.find?_eq_none]
  intro i hi hp
  have := h i (List.mem_range.1 hi)
  unfold Circ.freeB at this
  rw [this] at hp
  cases hp

theorem next_some' {C : Circ} {T : List Nat} {x : Nat} (hx : x < C.ands.length) (h1 : C.freeB T x = true) (h : ∀ j, j < x → C.freeB T j = false) : C.nextA T = some x := by
  unfold Circ.nextA
  rw [List.find?_range_eq_some]
  refine ⟨h1, List.mem_range.2 hx, fun j hj => ?_⟩
  have := h j hj
  unfold Circ.freeB at this
  rw [this]; rfl

theorem ready_two (C : Circ) (T : List Nat) (i : Nat) (p q : Bool) (hp : p = (!decide (varN (atP C.ands i).2.1 ∈ C.gates) || decide (varN (atP C.ands i).2.1 ∈ T.map C.gateOf))) (hq : q = (!decide (varN (atP C.ands i).2.2 ∈ C.gates) || decide (varN (atP C.ands i).2.2 ∈ T.map C.gateOf))) : C.readyB T i = (p && q) := by
  unfold Circ.readyB Circ.waitsL Circ.sides
  rw [hp, hq]
  simp only [List.filter_cons, List.filter_nil]
  generalize decide (varN (atP C.ands i).2.1 ∈ C.gates) = a
  generalize decide (varN (atP C.ands i).2.1 ∈ T.map C.gateOf) = b
  generalize decide (varN (atP C.ands i).2.2 ∈ C.gates) = d
  generalize decide (varN (atP C.ands i).2.2 ∈ T.map C.gateOf) = e
  cases a <;> cases b <;> cases d <;> cases e <;> rfl

theorem free_two {C : Circ} {T : List Nat} {i : Nat} {t p q : Bool} (ht : t = decide (i ∈ T)) (hp : p = (!decide (varN (atP C.ands i).2.1 ∈ C.gates) || decide (varN (atP C.ands i).2.1 ∈ T.map C.gateOf))) (hq : q = (!decide (varN (atP C.ands i).2.2 ∈ C.gates) || decide (varN (atP C.ands i).2.2 ∈ T.map C.gateOf))) : C.freeB T i = (!t && (p && q)) := by
  unfold Circ.freeB
  rw [ready_two C T i p q hp hq, ht]

structure SMid (w0 : World) (c : CV) (C : Circ) (n gt Bo : Nat) (T : List Nat) (ds ts : List Bool) (v : Value) (wr : World) : Prop where
  box : Box wr w0.heap.size c
  od : wr.ownsRow (w0.heap.size + 1) 4 1 (.slice (some ⟨w0.heap.size + 1, 0, none⟩) n n) n (ds.map Value.bool)
  ot : wr.ownsRow (w0.heap.size + 1) 4 1 (.slice (some ⟨gt, 0, none⟩) c.n6 c.n6) c.n6 (ts.map Value.bool)
  ov : wr.ownsRow (Bo) 3 1 v T.length (T.map natV)
  below : Below w0.heap.size w0 wr
  big : Bo ≤ wr.heap.size
  ord : w0.heap.size + 1 < gt ∧ gt < Bo
  dn : ∀ u, u < n → atP ds u = decide (u ∈ T.map C.gateOf)
  tk : ∀ i, i < c.n6 → atP ts i = decide (i ∈ T)
  turn : C.turnA (C.ands.length - T.length) T = C.turn

/-- One more is taken. -/
theorem SMid.step {w0 wr w1 : World} {c : CV} {C : Circ} {n gt Bo x : Nat} {T : List Nat} {ds ts : List Bool} {v v1 : Value} {o : Obj} (h : SMid w0 c C n gt Bo T ds ts v wr) (hx : x < c.n6) (hl : C.ands.length = c.n6) (hT : T.length < c.n6) (hg : C.gateOf x < n) (hn : C.nextA T = some x)
    (hg1 : (((wr.setCell ⟨gt, x, none⟩ (.bool true)).setCell ⟨w0.heap.size + 1, C.gateOf x, none⟩ (.bool true)).alloc o).grownBy w1 v.ownBlock) (hown : w1.ownsRow (Bo) 3 1 v1 (T.length + 1) (T.map natV ++ [natV x])) :
    SMid w0 c C n gt Bo (T ++ [x]) (ds.set (C.gateOf x) true) (ts.set x true) v1 w1 := by
  have hord := h.ord
  obtain ⟨ot2, ht3⟩ := h.ot.stored x (.bool true)
  have od1 := h.od.kept ht3 (.inr (by simp [Value.ownBlock]; omega))
  have ov1 := h.ov.kept ht3 (by cases hv : v.ownBlock with | none => exact .inl rfl | some b => exact .inr (fun e => by have := Option.some.inj e; have := (h.ov.lt b hv).1; omega))
  have bx1 := h.box.grown ht3 (by simp; omega)
  have bl1 := h.below.grown ht3 h.below.size (fun k hk => by cases hk; omega)
  obtain ⟨od2, hd3⟩ := od1.stored (C.gateOf x) (.bool true)
  have ot3 := ot2.kept hd3 (.inr (by simp [Value.ownBlock]; omega))
  have ov2 := ov1.kept hd3 (by cases hv : v.ownBlock with | none => exact .inl rfl | some b => exact .inr (fun e => by have := Option.some.inj e; have := (h.ov.lt b hv).1; omega))
  have bx2 := (bx1.grown hd3 (by simp)).alloc o
  have bl2 := bl1.grown hd3 bl1.size (fun k hk => by cases hk; omega)
  have hbig := h.big
  have hvb : ∀ b, v.ownBlock = some b → Bo ≤ b := fun b hb => (h.ov.lt b hb).1
  have hdl : ds.length = n := by have := h.od.1; simpa using this
  have htl : ts.length = c.n6 := by have := h.ot.1; simpa using this
  have hs1 := ht3.size
  have hs2 := hd3.size
  have hs3 := hg1.size
  refine ⟨bx2.grown hg1 (fun e => by have := hvb _ e; omega), ?_, ?_, ?_, ?_, ?_, hord, fun u hu => ?_, fun i hi => ?_, ?_⟩
  · rw [List.map_set]
    exact (od2.alloc o).kept hg1 (.inr (fun e => by have := hvb (w0.heap.size + 1) e.symm; omega))
  · rw [List.map_set]
    exact (ot3.alloc o).kept hg1 (.inr (fun e => by have := hvb (gt) e.symm; omega))
  · rw [List.map_append, List.length_append]; exact hown
  · exact (belowThen' bl2 (below_alloc _ o) bl2.size).grown hg1 (by have := (below_alloc ((wr.setCell ⟨gt, x, none⟩ (.bool true)).setCell ⟨w0.heap.size + 1, C.gateOf x, none⟩ (.bool true)) o).size; omega) (fun k hk => by have := hvb k hk; omega)
  · have := (below_alloc ((wr.setCell ⟨gt, x, none⟩ (.bool true)).setCell ⟨w0.heap.size + 1, C.gateOf x, none⟩ (.bool true)) o).size
    omega
  · by_cases e : u = C.gateOf x
    · subst e; rw [atP_set_same _ _ _ (by omega)]; simp
    · rw [atP_set_other _ _ _ _ (fun h => e h.symm), h.dn u hu, List.map_append]; simp [e]
  · by_cases e : i = x
    · subst e; rw [atP_set_same _ _ _ (by omega)]; simp
    · rw [atP_set_other _ _ _ _ (fun h => e h.symm), h.tk i hi]; simp [e]
  · rw [← turn_go hn (by omega)]; exact h.turn
end Go.Proofs.YtikjbbebfjleaaaGreatDoor

namespace Go.Proofs.YtikjbbebfjleaaaGreatDoor
open Go.RowKit

/-- WHAT Sort TELLS. -/
def SortPost (w : World) (C : Circ) (e : Ending) (w' : World) : Prop :=
  Below w.heap.size w w' ∧ ((C.turn.length = C.ands.length ∧ ∃ v, e = .returned (.tuple #[v, .bool true]) ∧ w'.ownsRow w.heap.size 3 1 v C.turn.length (C.turn.map natV)) ∨ (C.turn.length < C.ands.length ∧ e = .returned (.tuple #[.slice none 0 0, .bool false])))

set_option maxRecDepth 100000 in
set_option maxHeartbeats 4000000 in
theorem sort_any (c : CV) (C : Circ) (a : Option Addr) (n cp : Nat) (ks : List Int) (w : World) (h : Holds w c C) (hS : Small C) (hL : Lits C) (hn : n = C.max.toNat + 1) (hr : RowK .i64 w a ks) (hkl : ks.length = n) (hK : ∀ v, v < n → (atP ks v = 3 ↔ v ∈ C.gates)) :
    Calls Tryz.prog 62 #[c.v, .slice a n cp] w (SortPost w C) := by
  obtain ⟨i0, hi, hz0, hz1, hz2⟩ := info_parts infoBool
  obtain ⟨j0, hj, hy0, hy1, hy2⟩ := info_parts infoInt
  have hm0 : 0 ≤ c.m := by rw [h.m]; exact hL.max
  have hm5 : c.m ≤ 5000 := by rw [h.m]; exact hS.max
  have h6 : c.n6 ≤ 2000 := by rw [← h.l6]; exact hS.ands
  have hnm : c.m + 1 = (n : Int) := by rw [hn, ← h.m]; omega
  have HV : Hid (∀ i, i < c.n6 → (0 < (atP C.ands i).1 ∧ varN (atP C.ands i).1 < n) ∧ (0 ≤ (atP C.ands i).2.1 ∧ varN (atP C.ands i).2.1 < n) ∧ (0 ≤ (atP C.ands i).2.2 ∧ varN (atP C.ands i).2.2 < n)) := fun i hi => by
    have hm := atP_mem C.ands i (by rw [h.l6]; exact hi)
    have h1 := hL.own (atP C.ands i).1 (by unfold Circ.made; exact List.mem_append_right _ (List.mem_map.2 ⟨_, hm, rfl⟩))
    have h2 := hL.lit (atP C.ands i).2.1 (by unfold Circ.used; exact List.mem_append_right _ (List.mem_flatMap.2 ⟨_, hm, by simp⟩))
    have h3 := hL.lit (atP C.ands i).2.2 (by unfold Circ.used; exact List.mem_append_right _ (List.mem_flatMap.2 ⟨_, hm, by simp⟩))
    have e := h.m
    refine ⟨⟨h1.1, ?_⟩, ⟨h2.1, ?_⟩, ⟨h3.1, ?_⟩⟩ <;> (unfold varN; omega)
  have HH := hide h
  have HR := hide hr
  have HKL := hide hkl
  have HK := hide hK
  have HB := hide (box_new w c)
  have HL6 := hide h.l6
  generalize hP : SortPost w C = Post
  have HP := hide hP
  clear h hS hL hP hr hkl hK hn
  have ez : ∀ o, (w.alloc o).heap.size = w.heap.size + 1 := fun o => by simp
  unfold CV.v
  unfold Box at HB
  generalize hA6 : c.a6 = A6 at HB ⊢
  have HA6 := hide hA6
  clear hA6
  go_enter Tryz.func62, Tryz.ntmps62
  go_wp2_with (first | (at_make; refine wpList_make_full _ rfl (.tmp 15) (.tmp 15) 130 rfl (w.heap.size + 1) 4 i0 (.bool false) 1 Tryz.underlying130 hi hz0 hz1 .i64 .i64 _ _ n rfl rfl (by first | rfl | omega) (by first | rfl | omega) (by rw [hz2]; omega) (by unfold maxLen; omega) (by simp) ?_; intro w2 hown2 hg2; rw [madeB, ez] at hown2; have hs2 := hg2.size; rw [ez] at hs2; have hbx2 : w2.heap[w.heap.size]? = _ := (hg2.block w.heap.size (by simp) (by simp)).trans HB.out; obtain ⟨p0, p1, p2, p3, p4, p5, p6, p7⟩ := Box.cells (c := { c with a6 := A6 }) hbx2) | (at_make; refine wpList_make_full _ rfl (.tmp 19) (.tmp 19) 130 rfl (w.heap.size + 1) 4 i0 (.bool false) 1 Tryz.underlying130 hi hz0 hz1 .i64 .i64 _ _ c.n6 rfl rfl (by first | rfl | omega) (by first | rfl | omega) (by rw [hz2]; omega) (by unfold maxLen; omega) (by omega) ?_; intro w3 hown3 hg3; rw [madeB] at hown3))
  have HS : Hid (SMid w c C n w2.heap.size w3.heap.size [] (List.replicate n false) (List.replicate c.n6 false) (.slice none 0 0) w3) := by
    have hl2 := (hown2.lt _ rfl).2
    have hl3 := (hown3.lt _ rfl).2
    have hb2 : Below w.heap.size w w2 := (below_alloc w _).grown hg2 (by simp) (fun k hk => by cases hk)
    refine ⟨?_, hown2.kept hg3 (.inr (by simp [Value.ownBlock])), hown3, World.ownsRow_nil _ _ _ _, hb2.grown hg3 hb2.size (fun k hk => by cases hk), Nat.le_refl _, ⟨hl2, hl3⟩, fun u hu => by rw [atP_replicate _ _ _ hu]; simp, fun u hu => by rw [atP_replicate _ _ _ hu]; simp, by simp [Circ.turn]⟩
    have hb : Box w2 w.heap.size c := by
      show _ = some (Obj.cells _ _ _)
      rw [HA6.out]; exact hbx2
    exact hb.grown hg3 (by simp)
  obtain ⟨G, HGG⟩ : ∃ G, Hid (G = w2.heap.size) := ⟨_, rfl⟩
  obtain ⟨Bo, HBo⟩ : ∃ Bo, Hid (Bo = w3.heap.size) := ⟨_, rfl⟩
  rw [← HGG.out, ← HBo.out] at HS
  rw [← HGG.out]
  clear hown2 hg2 hs2 hbx2 hown3 hg3 HB p0 p1 p2 p3 p4 p5 p6 p7 HBo HGG
  go_simp
  go_loopg [8, 9, 10, 11, 12] c.n6 (fun kx v _ _ _ _ wr => ∃ (T : List Nat) (ds ts : List Bool), kx = c.n6 - T.length ∧ T.length ≤ c.n6 ∧ Hid (SMid w c C n G Bo T ds ts v wr))
  case atStart => exact ⟨[], _, _, rfl, Nat.zero_le _, HS.out⟩
  case round =>
    clear HS
    obtain ⟨T, ds, ts, hgk, hTl, HS⟩ := hrel
    subst hgk
    obtain ⟨ra, rc, hre⟩ := own_form HS.out.ov
    subst hre
    obtain ⟨q0, q1, q2, q3, q4, q5, q6, q7⟩ := HS.out.box.cells
    rw [HA6.out] at q6
    obtain ⟨TL, HTL⟩ : ∃ TL, Hid (TL = T.length) := ⟨_, rfl⟩
    rw [← HTL.out] at hTl ⊢
    by_cases hlt : TL < c.n6
    · go_wp2
      go_loop [9, 10, 11, 12] (fun s9 s10 _ _ => ∃ i : Nat, s10 = .int .i64 i ∧ i ≤ c.n6 ∧ ((s9 = .int .i64 (-1) ∧ Hid (∀ j, j < i → C.freeB T j = false)) ∨ (∃ x : Nat, s9 = .int .i64 x ∧ x < c.n6 ∧ Hid (C.nextA T = some x)))) (fun _ s10 _ _ => c.n6 - (intOf s10).toNat)
      case atStart => exact ⟨0, rfl, Nat.zero_le _, .inl ⟨rfl, fun j hj => absurd hj (Nat.not_lt_zero _)⟩⟩
      case round =>
        obtain ⟨i, rfl, hil, hwhich⟩ := hrel
        rcases hwhich with ⟨rfl, HF⟩ | ⟨x, rfl, hx, HX⟩
        · by_cases hin : i < c.n6
          · obtain ⟨b, off, ha, hbw, hcell⟩ := HH.out.r6.addr (by rw [cellsT_len, HH.out.l6]; omega)
            rw [HA6.out] at ha
            subst ha
            have hat := cellsT_at C.ands i (by rw [HH.out.l6]; exact hin)
            have hc1 := (HS.out.below.cell (p := ⟨b, off + i * 3 + 1, none⟩) hbw).trans (hcell _ _ hat.2.1)
            have hc2 := (HS.out.below.cell (p := ⟨b, off + i * 3 + 2, none⟩) hbw).trans (hcell _ _ hat.2.2)
            obtain ⟨-, ⟨v1, v2⟩, v3, v4⟩ := HV.out i hin
            have hct := row_at HS.out.ot i hin
            have htk := HS.out.tk i hin
            obtain ⟨kb, koff, hka, -, hkc⟩ := HR.out.addr (by rw [HKL.out]; omega)
            subst hka
            have hkc := fun j (hj : j < n) => (HS.out.below.cell (p := ⟨kb, koff + j, none⟩) (block_lt_of_cell (hkc j (by rw [HKL.out]; exact hj)))).trans (hkc j (by rw [HKL.out]; exact hj))
            have hk1 := hkc _ v2
            have hk2 := hkc _ v4
            rw [atP_getD] at hk1 hk2
            have hd1 := row_at HS.out.od _ v2
            have hd2 := row_at HS.out.od _ v4
            have HFr : Hid (∀ x : Tri, x = atP C.ands i → C.freeB T i = (!(atP ts i) && ((!decide (atP ks (varN x.2.1) = 3) || atP ds (varN x.2.1)) && (!decide (atP ks (varN x.2.2) = 3) || atP ds (varN x.2.2))))) := fun x hx => by
              subst hx
              exact free_two htk (by rw [HS.out.dn _ v2, decide_eq_decide.2 (HK.out _ v2)]) (by rw [HS.out.dn _ v4, decide_eq_decide.2 (HK.out _ v4)])
            have e1 := tdiv_two v1
            have e2 := tdiv_two v3
            obtain ⟨x, HX⟩ : ∃ x, Hid (x = atP C.ands i) := ⟨_, rfl⟩
            have HFree := hide (HFr.out x HX.out)
            rw [← HX.out] at hc1 hc2 v1 v2 v3 v4 hk1 hk2 hd1 hd2 e1 e2
            obtain ⟨x0, x1, x2⟩ := x
            dsimp only at hc1 hc2 v1 v2 v3 v4 hk1 hk2 hd1 hd2 HFree e1 e2
            obtain ⟨a1, HA1⟩ : ∃ a1, Hid (a1 = varN x1) := ⟨_, rfl⟩
            obtain ⟨a2, HA2⟩ : ∃ a2, Hid (a2 = varN x2) := ⟨_, rfl⟩
            rw [← HA1.out] at v2 hk1 hd1 HFree e1
            rw [← HA2.out] at v4 hk2 hd2 HFree e2
            obtain ⟨z1, HZ1⟩ : ∃ z1, Hid (z1 = atP ks a1) := ⟨_, rfl⟩
            obtain ⟨z2, HZ2⟩ : ∃ z2, Hid (z2 = atP ks a2) := ⟨_, rfl⟩
            obtain ⟨d1, HD1⟩ : ∃ d1, Hid (d1 = atP ds a1) := ⟨_, rfl⟩
            obtain ⟨d2, HD2⟩ : ∃ d2, Hid (d2 = atP ds a2) := ⟨_, rfl⟩
            obtain ⟨t, HT⟩ : ∃ t, Hid (t = atP ts i) := ⟨_, rfl⟩
            rw [← HZ1.out] at hk1 HFree
            rw [← HZ2.out] at hk2 HFree
            rw [← HD1.out] at hd1 HFree
            rw [← HD2.out] at hd2 HFree
            rw [← HT.out] at hct HFree
            have HNext : Hid (C.freeB T i = true → C.nextA T = some i) := fun hf => next_some' (by rw [HL6.out]; exact hin) hf HF.out
            have HNot : Hid (C.freeB T i = false → ∀ j, j < i + 1 → C.freeB T j = false) := fun hf j hj => by
              by_cases hji : j < i
              · exact HF.out j hji
              · obtain rfl : j = i := by omega
                exact hf
            clear hcell hat htk hkc HFr HX HZ1 HZ2 HD1 HD2 HT HA1 HA2 HF
            cases t with
            | true =>
              have hn := hide (HNot.out (HFree.out.trans (by simp)))
              clear HNot HNext HFree
              go_wp2
              go_round
              case rel => exact ⟨i + 1, by go_num, by omega, .inl ⟨rfl, hn.out⟩⟩
              case measure => simp [intOf]; omega
            | false =>
              by_cases z1e : z1 = 3
              · subst z1e
                cases d1 with
                | false =>
                  have hn := hide (HNot.out (HFree.out.trans (by simp)))
                  clear HNot HNext HFree
                  go_wp2
                  go_round
                  case rel => exact ⟨i + 1, by go_num, by omega, .inl ⟨rfl, hn.out⟩⟩
                  case measure => simp [intOf]; omega
                | true =>
                  by_cases z2e : z2 = 3
                  · subst z2e
                    cases d2 with
                    | false =>
                      have hn := hide (HNot.out (HFree.out.trans (by simp)))
                      clear HNot HNext HFree
                      go_wp2
                      go_round
                      case rel => exact ⟨i + 1, by go_num, by omega, .inl ⟨rfl, hn.out⟩⟩
                      case measure => simp [intOf]; omega
                    | true =>
                      have hn := hide (HNext.out (HFree.out.trans (by simp)))
                      clear HNot HNext HFree
                      go_wp2
                      go_round
                      case rel => exact ⟨i + 1, by go_num, by omega, .inr ⟨i, rfl, hin, hn.out⟩⟩
                      case measure => simp [intOf]; omega
                  · have z2b : (z2 != 3) = true := by simp [z2e]
                    have hn := hide (HNext.out (HFree.out.trans (by simp [z2e])))
                    clear HNot HNext HFree
                    go_wp2
                    go_round
                    case rel => exact ⟨i + 1, by go_num, by omega, .inr ⟨i, rfl, hin, hn.out⟩⟩
                    case measure => simp [intOf]; omega
              · have z1b : (z1 != 3) = true := by simp [z1e]
                by_cases z2e : z2 = 3
                · subst z2e
                  cases d2 with
                  | false =>
                    have hn := hide (HNot.out (HFree.out.trans (by simp)))
                    clear HNot HNext HFree
                    go_wp2
                    go_round
                    case rel => exact ⟨i + 1, by go_num, by omega, .inl ⟨rfl, hn.out⟩⟩
                    case measure => simp [intOf]; omega
                  | true =>
                    have hn := hide (HNext.out (HFree.out.trans (by simp [z1e])))
                    clear HNot HNext HFree
                    go_wp2
                    go_round
                    case rel => exact ⟨i + 1, by go_num, by omega, .inr ⟨i, rfl, hin, hn.out⟩⟩
                    case measure => simp [intOf]; omega
                · have z2b : (z2 != 3) = true := by simp [z2e]
                  have hn := hide (HNext.out (HFree.out.trans (by simp [z1e, z2e])))
                  clear HNot HNext HFree
                  go_wp2
                  go_round
                  case rel => exact ⟨i + 1, by go_num, by omega, .inr ⟨i, rfl, hin, hn.out⟩⟩
                  case measure => simp [intOf]; omega
          · obtain rfl : i = c.n6 := by omega
            have hnone := next_none' (C := C) (T := T) (fun j hj => HF.out j (by rw [← HL6.out]; exact hj))
            have hfin : Hid (Post (.returned (.tuple #[.slice none 0 0, .bool false])) wr) := by
              show Post _ wr
              rw [← HP.out]
              have e := HS.out.turn
              rw [turn_end hnone] at e
              refine ⟨HS.out.below, .inr ⟨?_, rfl⟩⟩
              rw [← e, HL6.out, ← HTL.out]; exact hlt
            clear hnone HF
            go_wp2
            exact hfin.out
        · by_cases hin : i < c.n6
          · obtain ⟨b, off, ha, hbw, hcell⟩ := HH.out.r6.addr (by rw [cellsT_len, HH.out.l6]; omega)
            rw [HA6.out] at ha
            subst ha
            have hat := cellsT_at C.ands x (by rw [HH.out.l6]; exact hx)
            obtain ⟨⟨v1, v2⟩, -, -⟩ := HV.out x hx
            have hord := HS.out.ord
            have hbg := HS.out.big
            obtain ⟨ot2, ht3⟩ := HS.out.ot.stored x (.bool true)
            have od1 := HS.out.od.kept ht3 (.inr (by simp [Value.ownBlock]; omega))
            have bx1 := HS.out.box.grown ht3 (by simp; omega)
            have bl1 := HS.out.below.grown ht3 HS.out.below.size (fun k hk => by cases hk; omega)
            have ov1 := HS.out.ov.kept ht3 (by cases hv : (Value.slice ra T.length rc).ownBlock with | none => exact .inl rfl | some b => exact .inr (fun e => by have := Option.some.inj e; have := (HS.out.ov.lt b hv).1; omega))
            obtain ⟨od2, hd3⟩ := od1.stored (varN (atP C.ands x).1) (.bool true)
            have ov2 := ov1.kept hd3 (by cases hv : (Value.slice ra T.length rc).ownBlock with | none => exact .inl rfl | some b => exact .inr (fun e => by have := Option.some.inj e; have := (HS.out.ov.lt b hv).1; omega))
            have hct := row_at HS.out.ot x hx
            have hft := HS.out.ot.frozenAt x
            have hcd := row_at od1 _ v2
            have hfd := od1.frozenAt (varN (atP C.ands x).1)
            have hc0 := (bl1.cell (p := ⟨b, off + x * 3, none⟩) hbw).trans (hcell _ _ hat.1)
            obtain ⟨-, -, -, -, -, -, r6, -⟩ := bx1.cells
            rw [HA6.out] at r6
            have e1 := tdiv_two (show 0 ≤ (atP C.ands x).1 by omega)
            have hTl2 : T.length < c.n6 := by rw [← HTL.out]; exact hlt
            have HStep : Hid (∀ o w6 v6, _ → _ → SMid w c C n G Bo (T ++ [x]) (ds.set (C.gateOf x) true) (ts.set x true) v6 w6) := fun o w6 v6 g1 g2 => HS.out.step (o := o) hx HL6.out hTl2 v2 HX.out g1 g2
            obtain ⟨y, HY⟩ : ∃ y, Hid (y = (atP C.ands x).1) := ⟨_, rfl⟩
            obtain ⟨g, HGt⟩ : ∃ g, Hid (g = varN y) := ⟨_, rfl⟩
            rw [show C.gateOf x = varN (atP C.ands x).1 from rfl, ← HY.out, ← HGt.out] at HStep
            rw [← HY.out, ← HGt.out] at hcd hfd e1 v2 ov2
            rw [← HY.out] at hc0
            rw [← HTL.out] at ov2 HStep hTl2
            have HOV := hide ov2
            clear hcell hat v1 ot2 ht3 od1 bx1 bl1 ov1 od2 hd3 ov2 HY HGt
            go_wp2_with (at_builtin; refine wpList_append_own _ rfl (.tmp 98) (.tmp 100) 24 rfl Bo 3 j0 (.int .i64 0) 1 8 Tryz.underlying24 hj hy0 hy1 hy2 rfl (by decide) _ _ _ rfl (HOV.out.alloc _) ⟨wr.heap.size, 0, none⟩ 1 1 [.int .i64 (x : Int)] rfl rfl (cell_one_at (by simp) _ _) (by intro u hu; simp at hu; subst hu; rfl) (by unfold maxLen; omega) (by omega) (by simp; omega) ?_; intro v6 w6 hown6 hg6 _)
            go_roundg (c.n6 - (T ++ [x]).length)
            case measure => simp; have := HTL.out; omega
            case rel => exact ⟨T ++ [x], _, _, rfl, by (simp; have := HTL.out; omega), HStep.out _ _ _ hg6 hown6⟩
          · obtain ⟨b, off, ha, hbw, hcell⟩ := HH.out.r6.addr (by rw [cellsT_len, HH.out.l6]; omega)
            rw [HA6.out] at ha
            subst ha
            have hat := cellsT_at C.ands x (by rw [HH.out.l6]; exact hx)
            obtain ⟨⟨v1, v2⟩, -, -⟩ := HV.out x hx
            have hord := HS.out.ord
            have hbg := HS.out.big
            obtain ⟨ot2, ht3⟩ := HS.out.ot.stored x (.bool true)
            have od1 := HS.out.od.kept ht3 (.inr (by simp [Value.ownBlock]; omega))
            have bx1 := HS.out.box.grown ht3 (by simp; omega)
            have bl1 := HS.out.below.grown ht3 HS.out.below.size (fun k hk => by cases hk; omega)
            have ov1 := HS.out.ov.kept ht3 (by cases hv : (Value.slice ra T.length rc).ownBlock with | none => exact .inl rfl | some b => exact .inr (fun e => by have := Option.some.inj e; have := (HS.out.ov.lt b hv).1; omega))
            obtain ⟨od2, hd3⟩ := od1.stored (varN (atP C.ands x).1) (.bool true)
            have ov2 := ov1.kept hd3 (by cases hv : (Value.slice ra T.length rc).ownBlock with | none => exact .inl rfl | some b => exact .inr (fun e => by have := Option.some.inj e; have := (HS.out.ov.lt b hv).1; omega))
            have hct := row_at HS.out.ot x hx
            have hft := HS.out.ot.frozenAt x
            have hcd := row_at od1 _ v2
            have hfd := od1.frozenAt (varN (atP C.ands x).1)
            have hc0 := (bl1.cell (p := ⟨b, off + x * 3, none⟩) hbw).trans (hcell _ _ hat.1)
            obtain ⟨-, -, -, -, -, -, r6, -⟩ := bx1.cells
            rw [HA6.out] at r6
            have e1 := tdiv_two (show 0 ≤ (atP C.ands x).1 by omega)
            have hTl2 : T.length < c.n6 := by rw [← HTL.out]; exact hlt
            have HStep : Hid (∀ o w6 v6, _ → _ → SMid w c C n G Bo (T ++ [x]) (ds.set (C.gateOf x) true) (ts.set x true) v6 w6) := fun o w6 v6 g1 g2 => HS.out.step (o := o) hx HL6.out hTl2 v2 HX.out g1 g2
            obtain ⟨y, HY⟩ : ∃ y, Hid (y = (atP C.ands x).1) := ⟨_, rfl⟩
            obtain ⟨g, HGt⟩ : ∃ g, Hid (g = varN y) := ⟨_, rfl⟩
            rw [show C.gateOf x = varN (atP C.ands x).1 from rfl, ← HY.out, ← HGt.out] at HStep
            rw [← HY.out, ← HGt.out] at hcd hfd e1 v2 ov2
            rw [← HY.out] at hc0
            rw [← HTL.out] at ov2 HStep hTl2
            have HOV := hide ov2
            clear hcell hat v1 ot2 ht3 od1 bx1 bl1 ov1 od2 hd3 ov2 HY HGt
            go_wp2_with (at_builtin; refine wpList_append_own _ rfl (.tmp 98) (.tmp 100) 24 rfl Bo 3 j0 (.int .i64 0) 1 8 Tryz.underlying24 hj hy0 hy1 hy2 rfl (by decide) _ _ _ rfl (HOV.out.alloc _) ⟨wr.heap.size, 0, none⟩ 1 1 [.int .i64 (x : Int)] rfl rfl (cell_one_at (by simp) _ _) (by intro u hu; simp at hu; subst hu; rfl) (by unfold maxLen; omega) (by omega) (by simp; omega) ?_; intro v6 w6 hown6 hg6 _)
            go_roundg (c.n6 - (T ++ [x]).length)
            case measure => simp; have := HTL.out; omega
            case rel => exact ⟨T ++ [x], _, _, rfl, by (simp; have := HTL.out; omega), HStep.out _ _ _ hg6 hown6⟩
    · have hfin : Hid (Post (.returned (.tuple #[.slice ra TL rc, .bool true])) wr) := by
        show Post _ wr
        rw [← HP.out]
        have e := HS.out.turn
        have hl : T.length = C.ands.length := by rw [HL6.out, ← HTL.out]; omega
        rw [hl, Nat.sub_self] at e
        have e : T = C.turn := e
        refine ⟨HS.out.below, .inl ⟨by rw [← e, hl], _, rfl, ?_⟩⟩
        have := HS.out.ov
        rw [← e, HTL.out]
        exact own_le this (by have := HS.out.ord; omega)
      go_wp2
      exact hfin.out
end Go.Proofs.YtikjbbebfjleaaaGreatDoor
