/-
  THE WALK of the reference's Sort, all of it.
  What the reference's Check asks is what the program's asks: no function of the program.
  THE WALK of the reference's Check.
  THE REFERENCE's CHECK of any circuit that came in; a small circuit that the laws' own functions build.
  THE WALK of the law ConeOfs.
-/
import Derived.Test.YtppaifckiaaffaaRefSort
import Derived.Test.YtppaifckiaaffaaRefKinds
import Derived.Test.YtppaifckiaaffaaRefSmall
import Derived.Test.YtppaifckiaaffaaRefUses
import Derived.Test.YtppaifckiaaffaaRefArgs
import Derived.Deep.Cut
import Derived.BigQuiet
import Derived.Test.YtppaifckiaaffaaAigAlive
import Derived.Test.YtppaifckiaaffaaConeAl
import Derived.Test.YtppaifckiaaffaaRefOf
namespace Go.Proofs.Ytppaifckiaaffaa
open Go.RowKit

/-- WHAT Sort TELLS. -/
def SortPost (w : World) (C : Circ) (e : Ending) (w' : World) : Prop :=
  Below w.heap.size w w' ∧ ((C.turn.length = C.ands.length ∧ ∃ v, e = .returned (.tuple #[v, .bool true]) ∧ w'.ownsRow w.heap.size 3 1 v C.turn.length (C.turn.map natV)) ∨ (C.turn.length < C.ands.length ∧ e = .returned (.tuple #[.slice none 0 0, .bool false])))

set_option maxRecDepth 100000 in
set_option maxHeartbeats 4000000 in
theorem sort_any (c : CV) (C : Circ) (a : Option Addr) (n cp : Nat) (ks : List Int) (w : World) (h : Holds w c C) (hS : Small C) (hL : Lits C) (hn : n = C.max.toNat + 1) (hr : RowK .i64 w a ks) (hkl : ks.length = n) (hK : ∀ v, v < n → (atP ks v = 3 ↔ v ∈ C.gates)) :
    Calls Try.prog 44 #[c.v, .slice a n cp] w (SortPost w C) := by
  obtain ⟨i0, hi, hz0, hz1, hz2⟩ := info_parts infoBool
  obtain ⟨j0, hj, hy0, hy1, hy2⟩ := info_parts infoInt
  have hm0 : 0 ≤ c.m := by rw [h.m]; exact hL.max
  have hm5 : c.m ≤ 5000 := by rw [h.m]; exact hS.max
  have h6 : c.n6 ≤ 2000 := by rw [← h.l6]; exact hS.ands
  have hnm : c.m + 1 = (n : Int) := by rw [hn, ← h.m]; omega
  have HV : Hid (∀ i, i < c.n6 → (0 < (atP C.ands i).1 ∧ varN (atP C.ands i).1 < n) ∧ (0 ≤ (atP C.ands i).2.1 ∧ varN (atP C.ands i).2.1 < n) ∧ (0 ≤ (atP C.ands i).2.2 ∧ varN (atP C.ands i).2.2 < n)) := fun i hi => by
    have hm := atP_mem C.ands i (by rw [h.l6]; exact hi)
    have h1 := hL.own (atP C.ands i).1 (by unfold Circ.made; exact List.mem_append_right _ (List.mem_map.2 ⟨_, hm, rfl⟩))
    have h2 := hL.lit (atP C.ands i).2.1 (by unfold Circ.used; exact List.mem_append_right _ (List.mem_flatMap.2 ⟨_, hm, by simp⟩))
    have h3 := hL.lit (atP C.ands i).2.2 (by unfold Circ.used; exact List.mem_append_right _ (List.mem_flatMap.2 ⟨_, hm, by simp⟩))
    have e := h.m
    refine ⟨⟨h1.1, ?_⟩, ⟨h2.1, ?_⟩, ⟨h3.1, ?_⟩⟩ <;> (unfold varN; omega)
  have HH := hide h
  have HR := hide hr
  have HKL := hide hkl
  have HK := hide hK
  have HB := hide (box_new w c)
  have HL6 := hide h.l6
  generalize hP : SortPost w C = Post
  have HP := hide hP
  clear h hS hL hP hr hkl hK hn
  have ez : ∀ o, (w.alloc o).heap.size = w.heap.size + 1 := fun o => by simp
  unfold CV.v
  unfold Box at HB
  generalize hA6 : c.a6 = A6 at HB ⊢
  have HA6 := hide hA6
  clear hA6
  go_enter Try.func44, Try.ntmps44
  go_wp2_with (first | (at_make; refine wpList_make_full _ rfl (.tmp 15) (.tmp 15) 86 rfl (w.heap.size + 1) 4 i0 (.bool false) 1 Try.underlying86 hi hz0 hz1 .i64 .i64 _ _ n rfl rfl (by first | rfl | omega) (by first | rfl | omega) (by rw [hz2]; omega) (by unfold maxLen; omega) (by simp) ?_; intro w2 hown2 hg2; rw [madeB, ez] at hown2; have hs2 := hg2.size; rw [ez] at hs2; have hbx2 : w2.heap[w.heap.size]? = _ := (hg2.block w.heap.size (by simp) (by simp)).trans HB.out; obtain ⟨p0, p1, p2, p3, p4, p5, p6, p7⟩ := Box.cells (c := { c with a6 := A6 }) hbx2) | (at_make; refine wpList_make_full _ rfl (.tmp 19) (.tmp 19) 86 rfl (w.heap.size + 1) 4 i0 (.bool false) 1 Try.underlying86 hi hz0 hz1 .i64 .i64 _ _ c.n6 rfl rfl (by first | rfl | omega) (by first | rfl | omega) (by rw [hz2]; omega) (by unfold maxLen; omega) (by omega) ?_; intro w3 hown3 hg3; rw [madeB] at hown3))
  have HS : Hid (SMid w c C n w2.heap.size w3.heap.size [] (List.replicate n false) (List.replicate c.n6 false) (.slice none 0 0) w3) := by
    have hl2 := (hown2.lt _ rfl).2
    have hl3 := (hown3.lt _ rfl).2
    have hb2 : Below w.heap.size w w2 := (below_alloc w _).grown hg2 (by simp) (fun k hk => by cases hk)
    refine ⟨?_, hown2.kept hg3 (.inr (by simp [Value.ownBlock])), hown3, World.ownsRow_nil _ _ _ _, hb2.grown hg3 hb2.size (fun k hk => by cases hk), Nat.le_refl _, ⟨hl2, hl3⟩, fun u hu => by rw [atP_replicate _ _ _ hu]; simp, fun u hu => by rw [atP_replicate _ _ _ hu]; simp, by simp [Circ.turn]⟩
    have hb : Box w2 w.heap.size c := by
      show _ = some (Obj.cells _ _ _)
      rw [HA6.out]; exact hbx2
    exact hb.grown hg3 (by simp)
  obtain ⟨G, HGG⟩ : ∃ G, Hid (G = w2.heap.size) := ⟨_, rfl⟩
  obtain ⟨Bo, HBo⟩ : ∃ Bo, Hid (Bo = w3.heap.size) := ⟨_, rfl⟩
  rw [← HGG.out, ← HBo.out] at HS
  rw [← HGG.out]
  clear hown2 hg2 hs2 hbx2 hown3 hg3 HB p0 p1 p2 p3 p4 p5 p6 p7 HBo HGG
  go_simp
  go_loopg [8, 9, 10, 11, 12] c.n6 (fun kx v _ _ _ _ wr => ∃ (T : List Nat) (ds ts : List Bool), kx = c.n6 - T.length ∧ T.length ≤ c.n6 ∧ Hid (SMid w c C n G Bo T ds ts v wr))
  case atStart => exact ⟨[], _, _, rfl, Nat.zero_le _, HS.out⟩
  case round =>
    clear HS
    obtain ⟨T, ds, ts, hgk, hTl, HS⟩ := hrel
    subst hgk
    obtain ⟨ra, rc, hre⟩ := own_form HS.out.ov
    subst hre
    obtain ⟨q0, q1, q2, q3, q4, q5, q6, q7⟩ := HS.out.box.cells
    rw [HA6.out] at q6
    obtain ⟨TL, HTL⟩ : ∃ TL, Hid (TL = T.length) := ⟨_, rfl⟩
    rw [← HTL.out] at hTl ⊢
    by_cases hlt : TL < c.n6
    · go_wp2
      go_loop [9, 10, 11, 12] (fun s9 s10 _ _ => ∃ i : Nat, s10 = .int .i64 i ∧ i ≤ c.n6 ∧ ((s9 = .int .i64 (-1) ∧ Hid (∀ j, j < i → C.freeB T j = false)) ∨ (∃ x : Nat, s9 = .int .i64 x ∧ x < c.n6 ∧ Hid (C.nextA T = some x)))) (fun _ s10 _ _ => c.n6 - (intOf s10).toNat)
      case atStart => exact ⟨0, rfl, Nat.zero_le _, .inl ⟨rfl, fun j hj => absurd hj (Nat.not_lt_zero _)⟩⟩
      case round =>
        obtain ⟨i, rfl, hil, hwhich⟩ := hrel
        rcases hwhich with ⟨rfl, HF⟩ | ⟨x, rfl, hx, HX⟩
        · by_cases hin : i < c.n6
          · obtain ⟨b, off, ha, hbw, hcell⟩ := HH.out.r6.addr (by rw [cellsT_len, HH.out.l6]; omega)
            rw [HA6.out] at ha
            subst ha
            have hat := cellsT_at C.ands i (by rw [HH.out.l6]; exact hin)
            have hc1 := (HS.out.below.cell (p := ⟨b, off + i * 3 + 1, none⟩) hbw).trans (hcell _ _ hat.2.1)
            have hc2 := (HS.out.below.cell (p := ⟨b, off + i * 3 + 2, none⟩) hbw).trans (hcell _ _ hat.2.2)
            obtain ⟨-, ⟨v1, v2⟩, v3, v4⟩ := HV.out i hin
            have hct := row_at HS.out.ot i hin
            have htk := HS.out.tk i hin
            obtain ⟨kb, koff, hka, -, hkc⟩ := HR.out.addr (by rw [HKL.out]; omega)
            subst hka
            have hkc := fun j (hj : j < n) => (HS.out.below.cell (p := ⟨kb, koff + j, none⟩) (block_lt_of_cell (hkc j (by rw [HKL.out]; exact hj)))).trans (hkc j (by rw [HKL.out]; exact hj))
            have hk1 := hkc _ v2
            have hk2 := hkc _ v4
            rw [atP_getD] at hk1 hk2
            have hd1 := row_at HS.out.od _ v2
            have hd2 := row_at HS.out.od _ v4
            have HFr : Hid (∀ x : Tri, x = atP C.ands i → C.freeB T i = (!(atP ts i) && ((!decide (atP ks (varN x.2.1) = 3) || atP ds (varN x.2.1)) && (!decide (atP ks (varN x.2.2) = 3) || atP ds (varN x.2.2))))) := fun x hx => by
              subst hx
              exact free_two htk (by rw [HS.out.dn _ v2, decide_eq_decide.2 (HK.out _ v2)]) (by rw [HS.out.dn _ v4, decide_eq_decide.2 (HK.out _ v4)])
            have e1 := tdiv_two v1
            have e2 := tdiv_two v3
            obtain ⟨x, HX⟩ : ∃ x, Hid (x = atP C.ands i) := ⟨_, rfl⟩
            have HFree := hide (HFr.out x HX.out)
            rw [← HX.out] at hc1 hc2 v1 v2 v3 v4 hk1 hk2 hd1 hd2 e1 e2
            obtain ⟨x0, x1, x2⟩ := x
            dsimp only at hc1 hc2 v1 v2 v3 v4 hk1 hk2 hd1 hd2 HFree e1 e2
            obtain ⟨a1, HA1⟩ : ∃ a1, Hid (a1 = varN x1) := ⟨_, rfl⟩
            obtain ⟨a2, HA2⟩ : ∃ a2, Hid (a2 = varN x2) := ⟨_, rfl⟩
            rw [← HA1.out] at v2 hk1 hd1 HFree e1
            rw [← HA2.out] at v4 hk2 hd2 HFree e2
            obtain ⟨z1, HZ1⟩ : ∃ z1, Hid (z1 = atP ks a1) := ⟨_, rfl⟩
            obtain ⟨z2, HZ2⟩ : ∃ z2, Hid (z2 = atP ks a2) := ⟨_, rfl⟩
            obtain ⟨d1, HD1⟩ : ∃ d1, Hid (d1 = atP ds a1) := ⟨_, rfl⟩
            obtain ⟨d2, HD2⟩ : ∃ d2, Hid (d2 = atP ds a2) := ⟨_, rfl⟩
            obtain ⟨t, HT⟩ : ∃ t, Hid (t = atP ts i) := ⟨_, rfl⟩
            rw [← HZ1.out] at hk1 HFree
            rw [← HZ2.out] at hk2 HFree
            rw [← HD1.out] at hd1 HFree
            rw [← HD2.out] at hd2 HFree
            rw [← HT.out] at hct HFree
            have HNext : Hid (C.freeB T i = true → C.nextA T = some i) := fun hf => next_some' (by rw [HL6.out]; exact hin) hf HF.out
            have HNot : Hid (C.freeB T i = false → ∀ j, j < i + 1 → C.freeB T j = false) := fun hf j hj => by
              by_cases hji : j < i
              · exact HF.out j hji
              · obtain rfl : j = i := by omega
                exact hf
            clear hcell hat htk hkc HFr HX HZ1 HZ2 HD1 HD2 HT HA1 HA2 HF
            cases t with
            | true =>
              have hn := hide (HNot.out (HFree.out.trans (by simp)))
              clear HNot HNext HFree
              go_wp2
              go_round
              case rel => exact ⟨i + 1, by go_num, by omega, .inl ⟨rfl, hn.out⟩⟩
              case measure => simp [intOf]; omega
            | false =>
              by_cases z1e : z1 = 3
              · subst z1e
                cases d1 with
                | false =>
                  have hn := hide (HNot.out (HFree.out.trans (by simp)))
                  clear HNot HNext HFree
                  go_wp2
                  go_round
                  case rel => exact ⟨i + 1, by go_num, by omega, .inl ⟨rfl, hn.out⟩⟩
                  case measure => simp [intOf]; omega
                | true =>
                  by_cases z2e : z2 = 3
                  · subst z2e
                    cases d2 with
                    | false =>
                      have hn := hide (HNot.out (HFree.out.trans (by simp)))
                      clear HNot HNext HFree
                      go_wp2
                      go_round
                      case rel => exact ⟨i + 1, by go_num, by omega, .inl ⟨rfl, hn.out⟩⟩
                      case measure => simp [intOf]; omega
                    | true =>
                      have hn := hide (HNext.out (HFree.out.trans (by simp)))
                      clear HNot HNext HFree
                      go_wp2
                      go_round
                      case rel => exact ⟨i + 1, by go_num, by omega, .inr ⟨i, rfl, hin, hn.out⟩⟩
                      case measure => simp [intOf]; omega
                  · have z2b : (z2 != 3) = true := by simp [z2e]
                    have hn := hide (HNext.out (HFree.out.trans (by simp [z2e])))
                    clear HNot HNext HFree
                    go_wp2
                    go_round
                    case rel => exact ⟨i + 1, by go_num, by omega, .inr ⟨i, rfl, hin, hn.out⟩⟩
                    case measure => simp [intOf]; omega
              · have z1b : (z1 != 3) = true := by simp [z1e]
                by_cases z2e : z2 = 3
                · subst z2e
                  cases d2 with
                  | false =>
                    have hn := hide (HNot.out (HFree.out.trans (by simp)))
                    clear HNot HNext HFree
                    go_wp2
                    go_round
                    case rel => exact ⟨i + 1, by go_num, by omega, .inl ⟨rfl, hn.out⟩⟩
                    case measure => simp [intOf]; omega
                  | true =>
                    have hn := hide (HNext.out (HFree.out.trans (by simp [z1e])))
                    clear HNot HNext HFree
                    go_wp2
                    go_round
                    case rel => exact ⟨i + 1, by go_num, by omega, .inr ⟨i, rfl, hin, hn.out⟩⟩
                    case measure => simp [intOf]; omega
                · have z2b : (z2 != 3) = true := by simp [z2e]
                  have hn := hide (HNext.out (HFree.out.trans (by simp [z1e, z2e])))
                  clear HNot HNext HFree
                  go_wp2
                  go_round
                  case rel => exact ⟨i + 1, by go_num, by omega, .inr ⟨i, rfl, hin, hn.out⟩⟩
                  case measure => simp [intOf]; omega
          · obtain rfl : i = c.n6 := by omega
            have hnone := next_none' (C := C) (T := T) (fun j hj => HF.out j (by rw [← HL6.out]; exact hj))
            have hfin : Hid (Post (.returned (.tuple #[.slice none 0 0, .bool false])) wr) := by
              show Post _ wr
              rw [← HP.out]
              have e := HS.out.turn
              rw [turn_end hnone] at e
              refine ⟨HS.out.below, .inr ⟨?_, rfl⟩⟩
              rw [← e, HL6.out, ← HTL.out]; exact hlt
            clear hnone HF
            go_wp2
            exact hfin.out
        · by_cases hin : i < c.n6
          · obtain ⟨b, off, ha, hbw, hcell⟩ := HH.out.r6.addr (by rw [cellsT_len, HH.out.l6]; omega)
            rw [HA6.out] at ha
            subst ha
            have hat := cellsT_at C.ands x (by rw [HH.out.l6]; exact hx)
            obtain ⟨⟨v1, v2⟩, -, -⟩ := HV.out x hx
            have hord := HS.out.ord
            have hbg := HS.out.big
            obtain ⟨ot2, ht3⟩ := HS.out.ot.stored x (.bool true)
            have od1 := HS.out.od.kept ht3 (.inr (by simp [Value.ownBlock]; omega))
            have bx1 := HS.out.box.grown ht3 (by simp; omega)
            have bl1 := HS.out.below.grown ht3 HS.out.below.size (fun k hk => by cases hk; omega)
            have ov1 := HS.out.ov.kept ht3 (by cases hv : (Value.slice ra T.length rc).ownBlock with | none => exact .inl rfl | some b => exact .inr (fun e => by have := Option.some.inj e; have := (HS.out.ov.lt b hv).1; omega))
            obtain ⟨od2, hd3⟩ := od1.stored (varN (atP C.ands x).1) (.bool true)
            have ov2 := ov1.kept hd3 (by cases hv : (Value.slice ra T.length rc).ownBlock with | none => exact .inl rfl | some b => exact .inr (fun e => by have := Option.some.inj e; have := (HS.out.ov.lt b hv).1; omega))
            have hct := row_at HS.out.ot x hx
            have hft := HS.out.ot.frozenAt x
            have hcd := row_at od1 _ v2
            have hfd := od1.frozenAt (varN (atP C.ands x).1)
            have hc0 := (bl1.cell (p := ⟨b, off + x * 3, none⟩) hbw).trans (hcell _ _ hat.1)
            obtain ⟨-, -, -, -, -, -, r6, -⟩ := bx1.cells
            rw [HA6.out] at r6
            have e1 := tdiv_two (show 0 ≤ (atP C.ands x).1 by omega)
            have hTl2 : T.length < c.n6 := by rw [← HTL.out]; exact hlt
            have HStep : Hid (∀ o w6 v6, _ → _ → SMid w c C n G Bo (T ++ [x]) (ds.set (C.gateOf x) true) (ts.set x true) v6 w6) := fun o w6 v6 g1 g2 => HS.out.step (o := o) hx HL6.out hTl2 v2 HX.out g1 g2
            obtain ⟨y, HY⟩ : ∃ y, Hid (y = (atP C.ands x).1) := ⟨_, rfl⟩
            obtain ⟨g, HGt⟩ : ∃ g, Hid (g = varN y) := ⟨_, rfl⟩
            rw [show C.gateOf x = varN (atP C.ands x).1 from rfl, ← HY.out, ← HGt.out] at HStep
            rw [← HY.out, ← HGt.out] at hcd hfd e1 v2 ov2
            rw [← HY.out] at hc0
            rw [← HTL.out] at ov2 HStep hTl2
            have HOV := hide ov2
            clear hcell hat v1 ot2 ht3 od1 bx1 bl1 ov1 od2 hd3 ov2 HY HGt
            go_wp2_with (at_builtin; refine wpList_append_own _ rfl (.tmp 98) (.tmp 100) 22 rfl Bo 3 j0 (.int .i64 0) 1 8 Try.underlying22 hj hy0 hy1 hy2 rfl (by decide) _ _ _ rfl (HOV.out.alloc _) ⟨wr.heap.size, 0, none⟩ 1 1 [.int .i64 (x : Int)] rfl rfl (cell_one_at (by simp) _ _) (by intro u hu; simp at hu; subst hu; rfl) (by unfold maxLen; omega) (by omega) (by simp; omega) ?_; intro v6 w6 hown6 hg6 _)
            go_roundg (c.n6 - (T ++ [x]).length)
            case measure => simp; have := HTL.out; omega
            case rel => exact ⟨T ++ [x], _, _, rfl, by (simp; have := HTL.out; omega), HStep.out _ _ _ hg6 hown6⟩
          · obtain ⟨b, off, ha, hbw, hcell⟩ := HH.out.r6.addr (by rw [cellsT_len, HH.out.l6]; omega)
            rw [HA6.out] at ha
            subst ha
            have hat := cellsT_at C.ands x (by rw [HH.out.l6]; exact hx)
            obtain ⟨⟨v1, v2⟩, -, -⟩ := HV.out x hx
            have hord := HS.out.ord
            have hbg := HS.out.big
            obtain ⟨ot2, ht3⟩ := HS.out.ot.stored x (.bool true)
            have od1 := HS.out.od.kept ht3 (.inr (by simp [Value.ownBlock]; omega))
            have bx1 := HS.out.box.grown ht3 (by simp; omega)
            have bl1 := HS.out.below.grown ht3 HS.out.below.size (fun k hk => by cases hk; omega)
            have ov1 := HS.out.ov.kept ht3 (by cases hv : (Value.slice ra T.length rc).ownBlock with | none => exact .inl rfl | some b => exact .inr (fun e => by have := Option.some.inj e; have := (HS.out.ov.lt b hv).1; omega))
            obtain ⟨od2, hd3⟩ := od1.stored (varN (atP C.ands x).1) (.bool true)
            have ov2 := ov1.kept hd3 (by cases hv : (Value.slice ra T.length rc).ownBlock with | none => exact .inl rfl | some b => exact .inr (fun e => by have := Option.some.inj e; have := (HS.out.ov.lt b hv).1; omega))
            have hct := row_at HS.out.ot x hx
            have hft := HS.out.ot.frozenAt x
            have hcd := row_at od1 _ v2
            have hfd := od1.frozenAt (varN (atP C.ands x).1)
            have hc0 := (bl1.cell (p := ⟨b, off + x * 3, none⟩) hbw).trans (hcell _ _ hat.1)
            obtain ⟨-, -, -, -, -, -, r6, -⟩ := bx1.cells
            rw [HA6.out] at r6
            have e1 := tdiv_two (show 0 ≤ (atP C.ands x).1 by omega)
            have hTl2 : T.length < c.n6 := by rw [← HTL.out]; exact hlt
            have HStep : Hid (∀ o w6 v6, _ → _ → SMid w c C n G Bo (T ++ [x]) (ds.set (C.gateOf x) true) (ts.set x true) v6 w6) := fun o w6 v6 g1 g2 => HS.out.step (o := o) hx HL6.out hTl2 v2 HX.out g1 g2
            obtain ⟨y, HY⟩ : ∃ y, Hid (y = (atP C.ands x).1) := ⟨_, rfl⟩
            obtain ⟨g, HGt⟩ : ∃ g, Hid (g = varN y) := ⟨_, rfl⟩
            rw [show C.gateOf x = varN (atP C.ands x).1 from rfl, ← HY.out, ← HGt.out] at HStep
            rw [← HY.out, ← HGt.out] at hcd hfd e1 v2 ov2
            rw [← HY.out] at hc0
            rw [← HTL.out] at ov2 HStep hTl2
            have HOV := hide ov2
            clear hcell hat v1 ot2 ht3 od1 bx1 bl1 ov1 od2 hd3 ov2 HY HGt
            go_wp2_with (at_builtin; refine wpList_append_own _ rfl (.tmp 98) (.tmp 100) 22 rfl Bo 3 j0 (.int .i64 0) 1 8 Try.underlying22 hj hy0 hy1 hy2 rfl (by decide) _ _ _ rfl (HOV.out.alloc _) ⟨wr.heap.size, 0, none⟩ 1 1 [.int .i64 (x : Int)] rfl rfl (cell_one_at (by simp) _ _) (by intro u hu; simp at hu; subst hu; rfl) (by unfold maxLen; omega) (by omega) (by simp; omega) ?_; intro v6 w6 hown6 hg6 _)
            go_roundg (c.n6 - (T ++ [x]).length)
            case measure => simp; have := HTL.out; omega
            case rel => exact ⟨T ++ [x], _, _, rfl, by (simp; have := HTL.out; omega), HStep.out _ _ _ hg6 hown6⟩
    · have hfin : Hid (Post (.returned (.tuple #[.slice ra TL rc, .bool true])) wr) := by
        show Post _ wr
        rw [← HP.out]
        have e := HS.out.turn
        have hl : T.length = C.ands.length := by rw [HL6.out, ← HTL.out]; omega
        rw [hl, Nat.sub_self] at e
        have e : T = C.turn := e
        refine ⟨HS.out.below, .inl ⟨by rw [← e, hl], _, rfl, ?_⟩⟩
        have := HS.out.ov
        rw [← e, HTL.out]
        exact own_le this (by have := HS.out.ord; omega)
      go_wp2
      exact hfin.out
end Go.Proofs.Ytppaifckiaaffaa

namespace Go.Proofs.Ytppaifckiaaffaa
open Go.RowKit

theorem known_same {C : Circ} {n : Nat} {ks : List Int} (hL : Lits C) (hn : n = C.max.toNat + 1) (hK : Kd n C.kindT ks) : C.usesL.all (knowB ks) = C.knownB := by
  rw [uses_all]
  unfold Circ.knownB
  rw [Bool.eq_iff_iff, List.all_eq_true, List.all_eq_true]
  have key : ∀ l ∈ C.used, (knowB ks l = true ↔ (decide (varN l = 0) || decide (varN l ∈ C.vars)) = true) := fun l hl => by
    have h := hL.lit l hl
    have hm := hL.max
    have hv : varN l < n := by unfold varN; omega
    have h0 := hK.none _ hv
    rw [kindT_vars] at h0
    unfold knowB
    by_cases h1 : 1 < l
    · have hz : varN l ≠ 0 := by unfold varN; omega
      rw [decide_eq_true h1, decide_eq_false hz, Bool.true_and, Bool.false_or]
      by_cases hi : varN l ∈ C.vars
      · rw [decide_eq_true hi, decide_eq_false (fun e => h0.1 e hi)]; simp
      · rw [decide_eq_false hi, decide_eq_true (h0.2 hi)]; simp
    · have hz : varN l = 0 := by unfold varN; omega
      rw [decide_eq_false h1, decide_eq_true hz]; simp
  exact ⟨fun h l hl => (key l hl).1 (h l hl), fun h l hl => (key l hl).2 (h l hl)⟩

theorem uses_low {C : Circ} {n : Nat} (hL : Lits C) (hn : n = C.max.toNat + 1) : ∀ l ∈ C.usesL, varN l < n := fun l hl => by
  have h := hL.lit l ((uses_mem C l).1 hl)
  have hm := hL.max
  unfold varN; omega

theorem kind_three {C : Circ} {n : Nat} {ks : List Int} (hK : Kd n C.kindT ks) (ho : C.onceB = true) : ∀ v, v < n → (atP ks v = 3 ↔ v ∈ C.gates) := fun v hv => by
  have hnd : (C.kindT.map (·.1)).Nodup := by
    rw [kindT_vars]
    unfold Circ.onceB at ho
    exact of_decide_eq_true ho
  have hk := hK.kind hnd
  constructor
  · intro h3
    have hm : v ∈ C.kindT.map (·.1) := by
      refine Decidable.byContradiction (fun hc => ?_)
      have := (hK.none v hv).2 hc
      omega
    obtain ⟨t, ht, rfl⟩ := List.mem_map.1 hm
    have h2 := hk t ht
    rw [h3] at h2
    unfold Circ.kindT at ht
    rcases List.mem_append.1 ht with ht | ht
    · rcases List.mem_append.1 ht with ht | ht
      · obtain ⟨x, -, rfl⟩ := List.mem_map.1 ht
        simp [kI] at h2
      · obtain ⟨x, -, rfl⟩ := List.mem_map.1 ht
        simp [kL] at h2
    · obtain ⟨x, hx, rfl⟩ := List.mem_map.1 ht
      exact List.mem_map.2 ⟨x, hx, rfl⟩
  · intro hg
    obtain ⟨x, hx, rfl⟩ := List.mem_map.1 hg
    exact hk (kA x) (by unfold Circ.kindT; exact List.mem_append_right _ (List.mem_map.2 ⟨x, hx, rfl⟩))


theorem nodup_key (ts : List (Int × Int)) (v : Int × Int) : decide ((ts ++ [v]).Nodup) = (decide ts.Nodup && decide (v ∉ ts)) := by
  rw [Bool.eq_iff_iff]
  simp only [decide_eq_true_eq, Bool.and_eq_true]
  constructor
  · intro h
    obtain ⟨h1, -, h3⟩ := List.nodup_append.1 h
    exact ⟨h1, fun hm => h3 v hm v (by simp) rfl⟩
  · rintro ⟨h1, h2⟩
    exact List.nodup_append.2 ⟨h1, List.nodup_cons.2 ⟨List.not_mem_nil, List.nodup_nil⟩, fun a ha b hb e => by rw [List.mem_singleton] at hb; subst hb; subst e; exact h2 ha⟩
theorem key_take (C : Circ) (k : Nat) (h : k < C.names.length) : C.keys.take (k + 1) = C.keys.take k ++ [((atP C.names k).1, (atP C.names k).2.1)] := by
  unfold Circ.keys
  rw [← List.map_take, ← List.map_take, map_take _ _ _ h]
theorem key_in (ts : List (Int × Int)) (u v : Int × Int) : decide (v ∉ ts ++ [u]) = (decide (v ∉ ts) && decide (v ≠ u)) := by
  rw [Bool.eq_iff_iff]
  simp

theorem long_not {C : Circ} (h1 : C.ins.length ≤ 64) (h2 : C.lats.length ≤ 64) (h3 : C.outs.length ≤ 64) (h4 : C.bads.length ≤ 64) (h5 : C.cons.length ≤ 64) (hm : C.max ≤ 5000) (h6 : C.ands.length ≤ 2000) : C.longB = decide (C.ins.length + C.lats.length + C.outs.length + C.bads.length + C.cons.length < C.names.length) := by
  unfold Circ.longB
  have hs : C.ports.sum = C.ins.length + C.lats.length + C.outs.length + C.bads.length + C.cons.length := by
    show C.ins.length + (C.lats.length + (C.outs.length + (C.bads.length + (C.cons.length + 0)))) = _
    omega
  rw [hs]
  unfold Circ.ports
  simp only [List.any_cons, List.any_nil]
  rw [decide_eq_false (show ¬ 64 < C.ins.length by omega), decide_eq_false (show ¬ 64 < C.lats.length by omega), decide_eq_false (show ¬ 64 < C.outs.length by omega), decide_eq_false (show ¬ 64 < C.bads.length by omega), decide_eq_false (show ¬ 64 < C.cons.length by omega), decide_eq_false (show ¬ 5000 < C.max by omega), decide_eq_false (show ¬ 2000 < C.ands.length by omega)]
  rfl
theorem long_yes {C : Circ} (h : 64 < C.ins.length ∨ 64 < C.lats.length ∨ 64 < C.outs.length ∨ 64 < C.bads.length ∨ 64 < C.cons.length ∨ 5000 < C.max ∨ 2000 < C.ands.length) : C.longB = true := by
  unfold Circ.longB Circ.ports
  simp only [List.any_cons, List.any_nil, Bool.or_eq_true, decide_eq_true_eq]
  omega
end Go.Proofs.Ytppaifckiaaffaa

namespace Go.Proofs.Ytppaifckiaaffaa
open Go.RowKit

set_option maxRecDepth 100000 in
set_option maxHeartbeats 4000000 in
theorem refCheck_wide (c : CV) (C : Circ) (w : World) (h : Holds w c C) (hm63 : I64 c.m) (h1 : c.n1 ≤ 9223372036854775807) (h2 : c.n2 ≤ 9223372036854775807) (h3 : c.n3 ≤ 9223372036854775807) (h4 : c.n4 ≤ 9223372036854775807) (h5 : c.n5 ≤ 9223372036854775807) (h6 : c.n6 ≤ 9223372036854775807) (h7 : c.n7 ≤ 9223372036854775807) (hN : NamesWide C) :
    Calls Try.prog 19 #[c.v] w fun e w' => e = .returned (.int .i64 C.checkI) ∧ Below w.heap.size w w' := by
  have HB := hide (And.intro (below_alloc w (.cells #[.int .i64 c.m, .slice c.a1 c.n1 c.c1, .slice c.a2 c.n2 c.c2, .slice c.a3 c.n3 c.c3, .slice c.a4 c.n4 c.c4, .slice c.a5 c.n5 c.c5, .slice c.a6 c.n6 c.c6, .slice c.a7 c.n7 c.c7] 27)) (box_new w c))
  have HYes : Hid ((64 < c.n1 ∨ 64 < c.n2 ∨ 64 < c.n3 ∨ 64 < c.n4 ∨ 64 < c.n5 ∨ 5000 < c.m ∨ 2000 < c.n6) → C.longB = true) := fun hh => long_yes (by rw [h.l1, h.l2, h.l3, h.l4, h.l5, h.l6, ← h.m]; exact hh)
  have HNo : Hid (c.n1 ≤ 64 → c.n2 ≤ 64 → c.n3 ≤ 64 → c.n4 ≤ 64 → c.n5 ≤ 64 → c.m ≤ 5000 → c.n6 ≤ 2000 → C.longB = decide (c.n1 + c.n2 + c.n3 + c.n4 + c.n5 < c.n7)) := fun a1 a2 a3 a4 a5 am a6 => by
    have := long_not (C := C) (by rw [h.l1]; exact a1) (by rw [h.l2]; exact a2) (by rw [h.l3]; exact a3) (by rw [h.l4]; exact a4) (by rw [h.l5]; exact a5) (by rw [← h.m]; exact am) (by rw [h.l6]; exact a6)
    rw [this, h.l1, h.l2, h.l3, h.l4, h.l5, h.l7]
  have HH := hide h
  have HN := hide hN
  have HM63 := hide hm63
  generalize hP : (fun (e : Ending) (w' : World) => e = .returned (.int .i64 C.checkI) ∧ Below w.heap.size w w') = Post
  have HP := hide hP
  clear h hN hP hm63
  unfold CV.v
  go_enter Try.func19, Try.ntmps19
  go_upto_region 6 with fail
  go_cut [72] from 29 to 71 (fun s wx => s = .bool C.longB ∧ Hid (Below w.heap.size w wx ∧ Box wx w.heap.size c))
  case first =>
    by_cases hmx : 5000 < c.m
    · have e := hide (HYes.out (by omega))
      go_wp2_with fail
      go_meet
      exact ⟨by rw [e.out], HB.out⟩
    · by_cases g1 : (64 : Int) < c.n1
      · have e := hide (HYes.out (by omega))
        go_wp2_with fail
        go_meet
        exact ⟨by rw [e.out], HB.out⟩
      · by_cases g2 : (64 : Int) < c.n2
        · have e := hide (HYes.out (by omega))
          go_wp2_with fail
          go_meet
          exact ⟨by rw [e.out], HB.out⟩
        · by_cases g3 : (64 : Int) < c.n3
          · have e := hide (HYes.out (by omega))
            go_wp2_with fail
            go_meet
            exact ⟨by rw [e.out], HB.out⟩
          · by_cases g4 : (64 : Int) < c.n4
            · have e := hide (HYes.out (by omega))
              go_wp2_with fail
              go_meet
              exact ⟨by rw [e.out], HB.out⟩
            · by_cases g5 : (64 : Int) < c.n5
              · have e := hide (HYes.out (by omega))
                go_wp2_with fail
                go_meet
                exact ⟨by rw [e.out], HB.out⟩
              · by_cases g6 : (2000 : Int) < c.n6
                · have e := hide (HYes.out (by omega))
                  go_wp2_with fail
                  go_meet
                  exact ⟨by rw [e.out], HB.out⟩
                · by_cases g7 : (c.n1 : Int) + c.n2 + c.n3 + c.n4 + c.n5 < c.n7
                  · have e := hide ((HNo.out (by omega) (by omega) (by omega) (by omega) (by omega) (by omega) (by omega)).trans (decide_eq_true (by omega)))
                    go_wp2_with fail
                    go_meet
                    exact ⟨by rw [e.out], HB.out⟩
                  · have e := hide ((HNo.out (by omega) (by omega) (by omega) (by omega) (by omega) (by omega) (by omega)).trans (decide_eq_false (by omega)))
                    go_wp2_with fail
                    go_meet
                    exact ⟨by rw [e.out], HB.out⟩
  case rest =>
    rename World => wx
    obtain ⟨rfl, HX⟩ := hcut
    clear HB HYes HNo
    by_cases hlong : C.longB = true
    · have hfin : Hid (Post (.returned (.int .i64 3)) wx) := by
        show Post _ wx
        rw [← HP.out]
        exact ⟨by unfold Circ.checkI; rw [if_pos hlong], HX.out.1⟩
      rw [hlong]
      go_wp2
      exact hfin.out
    · replace hlong : C.longB = false := by simpa using hlong
      have hS := small_of hlong
      have h7s : c.n7 ≤ 320 := by rw [← HH.out.l7]; exact hS.names
      have HArgs := hide (args_any c C wx (HH.out.below HX.out.1) hS HM63.out.1 HN.out)
      have HK := hide (fun W (hb : Below w.heap.size w W) (hL : Lits C) => kinds_any c C W (HH.out.below hb) hS hL)
      have HU := hide (fun W (hb : Below w.heap.size w W) => uses_any c C W (HH.out.below hb) hS)
      have HSo := hide (fun W (hb : Below w.heap.size w W) (hL : Lits C) a n cp ks hn hr hkl hK => sort_any c C a n cp ks W (HH.out.below hb) hS hL hn hr hkl hK)
      have hmx := hS.max
      obtain ⟨n, hn⟩ : ∃ n, n = C.max.toNat + 1 := ⟨_, rfl⟩
      have hn5 : n ≤ 5001 := by omega
      rw [← hn] at HK
      have HNN := hide hn
      have HUL : Hid (C.usesL.length ≤ 5000) := by
        have e1 := hS.lats
        have e2 := hS.outs
        have e3 := hS.bads
        have e4 := hS.cons
        have e5 := hS.ands
        have e6 : ∀ l : List Tri, (l.flatMap (fun a => [a.2.1, a.2.2])).length = 2 * l.length := fun l => by
          induction l with
          | nil => rfl
          | cons a l ih => rw [List.flatMap_cons, List.length_append, ih]; simp; omega
        show C.usesL.length ≤ 5000
        unfold Circ.usesL
        simp only [List.length_append, List.length_map, e6]
        omega
      rw [args_same] at HArgs
      obtain ⟨ab, HAB⟩ : ∃ ab, Hid (ab = (C.litsB && C.namesB)) := ⟨_, rfl⟩
      rw [← HAB.out] at HArgs
      have HFin : Hid (∀ r W, C.checkI = r → Below w.heap.size w W → Post (.returned (.int .i64 r)) W) := fun r W hr hW => by rw [← HP.out]; exact ⟨by rw [hr], hW⟩
      rw [hlong]
      have HLong := hide hlong
      obtain ⟨q0, q1, q2, q3, q4, q5, q6, q7⟩ := HX.out.2.cells
      unfold CV.v at HArgs HK HU HSo
      generalize hA7 : c.a7 = A7 at HArgs HK HU HSo q7 ⊢
      have HA7 := hide hA7
      clear hA7 hn hmx hS hlong
      go_wp2_with fail
      refine HArgs.out.mono ?_
      rintro e w1 ⟨rfl, hb1⟩
      have HW1 := hide (belowThen HX.out.1 hb1)
      have HBX1 := hide (HX.out.2.below hb1)
      clear hb1 q0 q1 q2 q3 q4 q5 q6 q7 HArgs HX
      obtain ⟨q0, q1, q2, q3, q4, q5, q6, q7⟩ := HBX1.out.cells
      rw [HA7.out] at q7
      cases ab with
      | false =>
        have hf := hide (HFin.out 1 w1 (by unfold Circ.checkI; rw [HLong.out, if_neg (by decide), if_pos HAB.out.symm]) HW1.out)
        go_wp2
        exact hf.out
      | true =>
        have HLits : Hid (Lits C) := lits_of (by have := HAB.out.symm; rw [Bool.and_eq_true] at this; exact this.1)
        go_wp2_with fail
        refine (HK.out w1 HW1.out HLits.out).mono ?_
        rintro e w2 ⟨hb2, g, ks, rfl, hkd, hown2⟩
        have HW2 := hide (belowThen HW1.out hb2)
        have HBX2 := hide (HBX1.out.below hb2)
        have HKd := hide hkd
        have HOwn2 := hide hown2
        clear hb2 hkd hown2 HK q0 q1 q2 q3 q4 q5 q6 q7 HBX1
        obtain ⟨q0, q1, q2, q3, q4, q5, q6, q7⟩ := HBX2.out.cells
        rw [HA7.out] at q7
        obtain ⟨ob, HOB⟩ : ∃ ob, Hid (ob = C.onceB) := ⟨_, rfl⟩
        rw [← HOB.out]
        go_wp2
        clear q0 q1 q2 q3 q4 q5 q6 q7
        go_loopw [9, 10, 11] (fun s9 s10 _ wr => ∃ (k : Nat) (ok : Bool), s10 = .int .i64 k ∧ s9 = .bool ok ∧ k ≤ c.n7 ∧ Hid (Drew w2 wr ∧ ok = (ob && decide (C.keys.take k).Nodup))) (fun _ s10 _ _ => c.n7 - (intOf s10).toNat)
        case atStart => exact ⟨0, _, rfl, rfl, Nat.zero_le _, hide ⟨⟨0, rfl⟩, by simp⟩⟩
        case round =>
          obtain ⟨k, ok, rfl, rfl, hk, HM⟩ := hrel
          have HBr : Hid (∀ W, Drew w2 W → Below w.heap.size w W ∧ Box W w.heap.size c) := fun W hd => ⟨belowThen HW2.out hd.below, HBX2.out.below hd.below⟩
          obtain ⟨q0, q1, q2, q3, q4, q5, q6, q7⟩ := (HBr.out wr HM.out.1).2.cells
          rw [HA7.out] at q7
          by_cases hlt : k < c.n7
          · go_wp2
            go_loopw [9, 11] (fun s9 s11 wi => ∃ (j : Nat) (oj : Bool), s11 = .int .i64 j ∧ s9 = .bool oj ∧ j ≤ k ∧ Hid (Drew w2 wi ∧ oj = (ok && decide (((atP C.names k).1, (atP C.names k).2.1) ∉ C.keys.take j)))) (fun _ s11 _ => k - (intOf s11).toNat)
            case atStart => exact ⟨0, _, rfl, rfl, Nat.zero_le _, hide ⟨HM.out.1, by simp⟩⟩
            case round =>
              clear q0 q1 q2 q3 q4 q5 q6 q7
              rename World => wi
              obtain ⟨j, oj, rfl, rfl, hj, HI⟩ := hrel
              obtain ⟨q0, q1, q2, q3, q4, q5, q6, q7⟩ := (HBr.out _ HI.out.1).2.cells
              rw [HA7.out] at q7
              by_cases hjk : j < k
              · obtain ⟨b, off, ha, hbw, hcell⟩ := HH.out.r7.addr (by rw [cellsS_len, HH.out.l7]; omega)
                rw [HA7.out] at ha
                subst ha
                have hbl := (HBr.out _ HI.out.1).1
                have hat := cellsS_at C.names k (by rw [HH.out.l7]; exact hlt)
                have hau := cellsS_at C.names j (by rw [HH.out.l7]; omega)
                have hc0 := (hbl.cell (p := ⟨b, off + k * 3, none⟩) hbw).trans (hcell _ _ hat.1)
                have hc1 := (hbl.cell (p := ⟨b, off + k * 3 + 1, none⟩) hbw).trans (hcell _ _ hat.2.1)
                have hd0 := (hbl.cell (p := ⟨b, off + j * 3, none⟩) hbw).trans (hcell _ _ hau.1)
                have hd1 := (hbl.cell (p := ⟨b, off + j * 3 + 1, none⟩) hbw).trans (hcell _ _ hau.2.1)
                have HG : Hid (∀ r, r = (oj && decide (((atP C.names k).1, (atP C.names k).2.1) ≠ ((atP C.names j).1, (atP C.names j).2.1))) → r = (ok && decide (((atP C.names k).1, (atP C.names k).2.1) ∉ C.keys.take (j + 1)))) := fun r hr => by
                  rw [hr, key_take C j (by rw [HH.out.l7]; omega), key_in, HI.out.2, Bool.and_assoc]
                have HDr : Hid (∀ q, Drew w2 (wi.drewN q)) := fun q => by
                  obtain ⟨p, hp⟩ := HI.out.1
                  exact ⟨p + q, by rw [hp]; first | rfl | (simp [World.drewN, Nat.add_assoc]; done)⟩
                obtain ⟨x0, HX0⟩ : ∃ x0, Hid (x0 = (atP C.names k).1) := ⟨_, rfl⟩
                obtain ⟨x1, HX1⟩ : ∃ x1, Hid (x1 = (atP C.names k).2.1) := ⟨_, rfl⟩
                obtain ⟨y0, HY0⟩ : ∃ y0, Hid (y0 = (atP C.names j).1) := ⟨_, rfl⟩
                obtain ⟨y1, HY1⟩ : ∃ y1, Hid (y1 = (atP C.names j).2.1) := ⟨_, rfl⟩
                rw [← HX0.out, ← HX1.out, ← HY0.out, ← HY1.out] at HG
                rw [← HX0.out] at hc0
                rw [← HX1.out] at hc1
                rw [← HY0.out] at hd0
                rw [← HY1.out] at hd1
                clear hcell hat hau hbl HY0 HY1
                cases oj with
                | false =>
                  go_wp2
                  go_quiet (fail)
                  go_wp2
                  go_roundw
                  case rel => exact ⟨j + 1, false, by go_num, rfl, by omega, hide ⟨HDr.out _, by rw [← HX0.out, ← HX1.out]; exact HG.out _ rfl⟩⟩
                  case measure => simp [intOf]; omega
                | true =>
                  by_cases e0 : x0 = y0
                  · have e0b : (x0 != y0) = false := by simp [e0]
                    by_cases e1 : x1 = y1
                    · have e1b : (x1 != y1) = false := by simp [e1]
                      have hg := hide (HG.out false (by simp [e0, e1]))
                      clear e0 e1 HG
                      go_wp2
                      go_quiet (fail)
                      go_wp2
                      go_roundw
                      case rel => exact ⟨j + 1, false, by go_num, rfl, by omega, hide ⟨HDr.out _, by rw [← HX0.out, ← HX1.out]; exact hg.out⟩⟩
                      case measure => simp [intOf]; omega
                    · have e1b : (x1 != y1) = true := by simp [e1]
                      have hg := hide (HG.out true (by simp [e1]))
                      clear e0 HG
                      go_wp2
                      go_quiet (fail)
                      go_wp2
                      go_roundw
                      case rel => exact ⟨j + 1, true, by go_num, rfl, by omega, hide ⟨HDr.out _, by rw [← HX0.out, ← HX1.out]; exact hg.out⟩⟩
                      case measure => simp [intOf]; omega
                  · have e0b : (x0 != y0) = true := by simp [e0]
                    have hg := hide (HG.out true (by simp [e0]))
                    clear HG
                    go_wp2
                    go_quiet (fail)
                    go_wp2
                    go_roundw
                    case rel => exact ⟨j + 1, true, by go_num, rfl, by omega, hide ⟨HDr.out _, by rw [← HX0.out, ← HX1.out]; exact hg.out⟩⟩
                    case measure => simp [intOf]; omega
              · obtain rfl : j = k := by omega
                have hg : Hid (oj = (ob && decide (C.keys.take (j + 1)).Nodup)) := by
                  show oj = _
                  rw [HI.out.2, HM.out.2, key_take C j (by rw [HH.out.l7]; exact hlt), nodup_key, Bool.and_assoc]
                go_wp2
                go_roundw
                case rel => exact ⟨j + 1, oj, by go_num, rfl, by omega, hide ⟨HI.out.1, hg.out⟩⟩
                case measure => simp [intOf]; omega
          · obtain rfl : k = c.n7 := by omega
            have HOk : Hid (ok = (C.onceB && C.namedB)) := by
              show ok = _
              rw [HM.out.2, HOB.out, List.take_of_length_le (by unfold Circ.keys; rw [List.length_map, HH.out.l7]; exact Nat.le_refl _)]; rfl
            have HWr := hide (HBr.out wr HM.out.1)
            have HOw := hide (own_below HOwn2.out HM.out.1.below)
            clear HOwn2
            cases ok with
            | false =>
              have hf := hide (HFin.out 10 wr (by unfold Circ.checkI; rw [HLong.out, if_neg (by decide), if_neg (by rw [← HAB.out]; decide), if_pos HOk.out.symm]) HWr.out.1)
              go_wp2
              exact hf.out
            | true =>
              have HOn : Hid (C.onceB = true) := by have := HOk.out.symm; rw [Bool.and_eq_true] at this; exact this.1
              go_wp2_with fail
              refine (HU.out wr HWr.out.1).mono ?_
              rintro e w3 ⟨v3, rfl, hown3, hb3⟩
              obtain ⟨a3, cp3, rfl, hrow3, -, hl3, -, -⟩ := row_of_own hown3
              obtain ⟨ak, cpk, ek, hrowk, -, hlk, -, -⟩ := row_of_own (own_below HOw.out hb3)
              cases ek
              have hkn := known_any _ _ n n C.usesL.length cp3 ks C.usesL w3 hrowk hlk hrow3 rfl (by omega) (by have := HUL.out; omega) (fun l hl => by rw [hlk]; exact uses_low HLits.out HNN.out l hl)
              rw [known_same HLits.out HNN.out HKd.out] at hkn
              have HKn := hide hkn
              have HW3 := hide (belowThen HWr.out.1 hb3)
              have HBX3 := hide (HWr.out.2.below hb3)
              have hso := HSo.out w3 HW3.out HLits.out _ n n ks HNN.out hrowk hlk (kind_three HKd.out HOn.out)
              have HSort := hide hso
              clear hkn hown3 hrow3 hrowk hb3 hso q0 q1 q2 q3 q4 q5 q6 q7 HSo
              obtain ⟨q0, q1, q2, q3, q4, q5, q6, q7⟩ := HBX3.out.cells
              rw [HA7.out] at q7
              obtain ⟨kb, HKB⟩ : ∃ kb, Hid (kb = C.knownB) := ⟨_, rfl⟩
              rw [← HKB.out] at HKn
              go_wp2_with fail
              refine HKn.out.mono ?_
              rintro e w4 ⟨rfl, rfl⟩
              cases kb with
              | false =>
                have hf := hide (HFin.out 8 w4 (by unfold Circ.checkI; rw [HLong.out, if_neg (by decide), if_neg (by rw [← HAB.out]; decide), if_neg (by rw [← HOk.out]; decide), if_pos HKB.out.symm]) HW3.out)
                go_wp2
                exact hf.out
              | true =>
                go_wp2_with fail
                refine HSort.out.mono ?_
                rintro e w5 ⟨hb5, hwhich⟩
                have HW5 := hide (belowThen HW3.out hb5)
                rcases hwhich with ⟨hlen, v, rfl, -⟩ | ⟨hlen, rfl⟩
                · have hf := hide (HFin.out 0 w5 (by unfold Circ.checkI; rw [HLong.out, if_neg (by decide), if_neg (by rw [← HAB.out]; decide), if_neg (by rw [← HOk.out]; decide), if_neg (by rw [← HKB.out]; decide), if_neg (by omega)]) HW5.out)
                  clear hlen hb5
                  go_wp2
                  exact hf.out
                · have hf := hide (HFin.out 9 w5 (by unfold Circ.checkI; rw [HLong.out, if_neg (by decide), if_neg (by rw [← HAB.out]; decide), if_neg (by rw [← HOk.out]; decide), if_neg (by rw [← HKB.out]; decide), if_pos hlen]) HW5.out)
                  clear hlen hb5
                  go_wp2
                  exact hf.out
theorem refCheck_any (c : CV) (C : Circ) (w : World) (h : Holds w c C) (hm63 : I64 c.m) (h1 : c.n1 ≤ 281474976710656) (h2 : c.n2 ≤ 281474976710656) (h3 : c.n3 ≤ 281474976710656) (h4 : c.n4 ≤ 281474976710656) (h5 : c.n5 ≤ 281474976710656) (h6 : c.n6 ≤ 281474976710656) (h7 : c.n7 ≤ 281474976710656) (hN : NamesFit C) :
    Calls Try.prog 19 #[c.v] w fun e w' => e = .returned (.int .i64 C.checkI) ∧ Below w.heap.size w w' :=
  refCheck_wide c C w h hm63 (by omega) (by omega) (by omega) (by omega) (by omega) (by omega) (by omega) (fun s hs => Nat.le_trans (hN s hs) (by decide))
end Go.Proofs.Ytppaifckiaaffaa

namespace Go.Proofs.Ytppaifckiaaffaa
open Go.RowKit

/-- The reference's Check of any circuit that came in. -/
theorem refCheck_came {w : World} {c : CV} {C : Circ} (h : Came w c C) : ∀ W, Below w.heap.size w W → Calls Try.prog 19 #[c.v] W fun e w' => e = .returned (.int .i64 C.checkI) ∧ Below W.heap.size W w' :=
  fun W hb => refCheck_wide c C W (h.holds.below hb) h.m h.n1 h.n2 h.n3 h.n4 h.n5 h.n6 h.n7 h.names

end Go.Proofs.Ytppaifckiaaffaa

namespace Go.Proofs.Ytppaifckiaaffaa
open Go.RowKit

set_option maxRecDepth 100000 in
set_option maxHeartbeats 4000000 in
theorem coneOfs_any (c : CV) (la : Option Addr) (ln lc : Nat) (zs : List Int) (C : Circ) (w : World) (h : Came w c C) (hs : IsRow .i64 w la ln lc zs) :
    Calls Try.prog 10 #[c.v, .slice la ln lc] w fun e w' => e = .returned (.bool true) ∧ Below w.heap.size w w' := by
  obtain ⟨r1, r2, r3, r4, r5, r6⟩ := hs.row
  have HB := hide (box_new w c)
  have HC := hide h
  have HS := hide (And.intro r1 (And.intro r4 (i64_of r2)))
  have HCV : Hid (c.v = .agg #[.int .i64 c.m, .slice c.a1 c.n1 c.c1, .slice c.a2 c.n2 c.c2, .slice c.a3 c.n3 c.c3, .slice c.a4 c.n4 c.c4, .slice c.a5 c.n5 c.c5, .slice c.a6 c.n6 c.c6, .slice c.a7 c.n7 c.c7]) := rfl
  have HBg := hide (fun W hb => big_any c C W ⟨h.holds.below hb, h.n1, h.n2, h.n3, h.n4, h.n5, h.n6, h.n7, h.m, h.names⟩)
  rw [HCV.out] at HBg ⊢
  have hln : ln ≤ 9223372036854775807 := by omega
  generalize zs.take ln = L at HS
  clear h hs r1 r2 r3 r4 r5 r6
  go_enter Try.func10, Try.ntmps10
  go_wp2_with fail
  refine (alive10_any _).mono ?_
  rintro e w1 ⟨rfl, hb1⟩
  have B1 := hide (HB.out.below hb1)
  have W1 := hide (belowThen (below_alloc w _) hb1)
  clear HB hb1
  obtain ⟨q0, q1, q2, q3, q4, q5, q6, q7⟩ := B1.out.cells
  go_wp2_with fail
  refine (HBg.out _ W1.out).mono ?_
  rintro e w2 ⟨rfl, hb2⟩
  have B2 := hide (B1.out.below hb2)
  have W2 := hide (belowThen W1.out hb2)
  clear B1 W1 hb2 HBg q0 q1 q2 q3 q4 q5 q6 q7
  cases hbig : C.bigB with
  | true =>
    have hend := hide W2.out
    go_wp2
    go_ret
    exact ⟨rfl, hend.out⟩
  | false =>
    have HF := hide (fits_of HC.out hbig)
    clear hbig
    by_cases hsn : (50 : Int) < (ln : Int)
    · have hend := hide W2.out
      go_wp2
      go_ret
      exact ⟨rfl, hend.out⟩
    · obtain ⟨q0, q1, q2, q3, q4, q5, q6, q7⟩ := B2.out.cells
      have HT := hide (fun W (hb : Below w.heap.size w W) => (of_any c C W la ln lc L (HC.out.holds.below hb) HF.out (HS.out.1.below hb) HS.out.2.1 HS.out.2.2 (by omega)).mono (fun e w' => cone_rows))
      have HU := hide (fun W (hb : Below w.heap.size w W) => (rOf_any c C W la ln lc L (HC.out.holds.below hb) (fun W' hb' => refCheck_came HC.out W' (belowThen hb hb')) (HS.out.1.below hb) HS.out.2.1 HS.out.2.2 (by omega)).mono (fun e w' => cone_rows))
      generalize C.ofI L = ck at HT HU
      rw [HCV.out] at HT HU
      have hck : (ck == ck) = true := by simp
      clear HC HS HF HCV
      go_wp2_with fail
      refine (HT.out _ W2.out).mono ?_
      rintro e w3 ⟨a3, n3, k3, xs, rfl, hr3, hl3, hi3, hb3⟩
      have B3 := hide (B2.out.below hb3)
      have W3 := hide (belowThen W2.out hb3)
      have R3 := hide hr3
      have L3 := hide (And.intro hl3 hi3)
      clear B2 W2 hb3 hr3 hl3 hi3 HT q0 q1 q2 q3 q4 q5 q6 q7
      obtain ⟨q0, q1, q2, q3, q4, q5, q6, q7⟩ := B3.out.cells
      go_wp2_with fail
      refine (HU.out _ W3.out).mono ?_
      rintro e w4 ⟨a4, n4, k4, ys, rfl, hr4, hl4, hi4, hb4⟩
      have hxy : xs = ys := isCone_one L3.out.2 hi4
      subst hxy
      have hlen := isCone_len hi4
      have W4 := hide (belowThen W3.out hb4)
      replace R3 := hide (R3.out.below hb4)
      have HSB := hide (same_any a3 a4 n3 k3 n4 k4 xs xs _ R3.out L3.out.1 hr4 hl4 (by have := L3.out.1; omega) (by omega))
      rw [decide_eq_true (rfl : xs = xs)] at HSB
      clear B3 W3 hb4 hr4 hl4 hi4 hlen HU R3 L3 q0 q1 q2 q3 q4 q5 q6 q7
      go_wp2_with fail
      refine HSB.out.mono ?_
      rintro e w7 ⟨rfl, hb7⟩
      have hend := hide (belowThen W4.out hb7.below)
      clear HSB hb7 W4
      go_wp2_with (first | (go_at_call 32; refine (num10_any _ _).mono ?_; rintro e w' ⟨rfl, hw'⟩; obtain rfl := hw'.symm))
      go_ret
      exact ⟨rfl, hend.out⟩
end Go.Proofs.Ytppaifckiaaffaa
