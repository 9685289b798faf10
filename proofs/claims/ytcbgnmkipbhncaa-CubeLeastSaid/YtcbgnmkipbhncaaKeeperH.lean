/-
  THE WALK of the keeper's hasPartOf.
-/
import Derived.Test.YtcbgnmkipbhncaaKeeperK
namespace Go.Proofs.Ytcbgnmkipbhncaa
open Go.RowKit Go.Maps
set_option linter.unusedSectionVars false
variable [Inhabited El]

/-- Is a list that is kept within the one that is handed in? -/
def partB (G : Int → List El) (xs : List Int) : Bool := decide (0 < (G 0).length) || xs.any fun n => (G n).any fun q => withinB q.xs xs

theorem row_cells {w : World} {B n g c : Nat} {es : List El} (h : w.ownsRow B 22 1 (.slice (some ⟨g, 0, none⟩) n c) n (es.map El.v)) (j : Nat) (hj : j < es.length) : w.cell? ⟨g, j, none⟩ = some (atP es j).v := by
  have := h.cells (g := g) rfl j (atP es j).v (by rw [List.getElem?_map, atP_some es j hj]; rfl)
  rwa [add_plain, Nat.zero_add] at this
theorem own_form {w : World} {B n : Nat} {e : TypeId} {v : Value} {vs : List Value} (h : w.ownsRow B e 1 v n vs) : ∃ a c, v = .slice a n c ∧ (0 < n → ∃ g, a = some ⟨g, 0, none⟩ ∧ g < w.heap.size) := by
  rcases h.2 with ⟨rfl, rfl⟩ | ⟨g, cap, cur, rfl, hb, hg, _⟩
  · exact ⟨none, 0, rfl, fun h => absurd h (Nat.lt_irrefl _)⟩
  · exact ⟨_, cap, rfl, fun _ => ⟨g, rfl, (Array.getElem?_eq_some_iff.1 hg).1⟩⟩

set_option maxRecDepth 100000 in
set_option maxHeartbeats 2000000 in
theorem hasPartOf_any (kb cb ub B nU : Nat) (wA : World) (D : DataW Value) (gv : Int → Value) (G : Int → List El) (a : Option Addr) (n c : Nat) (xs : List Int) (w : World) (hK : Keeper w kb cb ub B nU wA D gv G) (hr : RowK .i64 w a xs) (hx : xs.length = n) (hl : n ≤ 1000) (hf : ∀ y ∈ xs, Fits y) (hG : ∀ n, (G n).length ≤ 1000 ∧ ∀ e ∈ G n, e.xs.length ≤ 1000 ∧ ∀ y ∈ e.xs, Fits y) :
    Calls Try.prog 45 #[.pointer (some ⟨kb, 0, none⟩), .slice a n c] w fun e w' => e = .returned (.bool (partB G xs)) ∧ Below w.heap.size w w' := by
  have wf_of : ∀ y, Fits y → (Lit.int .i64 y).wf = true := fun y hy => WalkArith.wf_i64 (n := y) (by have := hy.2.1; have := hy.2.2; omega)
  have hwf : WfL xs := fun y hy => wf_of y (hf y hy)
  have HSet := hide (setOf_any a n c xs w hr hx (by omega) hwf)
  have HR := hide hr
  have HX := hide hx
  have HF := hide hf
  have HG := hide hG
  have HK := hide hK
  have HWF := hide wf_of
  generalize hP : (fun (e : Ending) (w' : World) => e = .returned (.bool (partB G xs)) ∧ Below w.heap.size w w') = Post
  have HP := hide hP
  have hc1 := hK.c1
  obtain ⟨v0, hlk, hv0⟩ := look_raw hK.und (m := 0) rfl
  rw [hK.look 0] at hv0
  cases hv0
  obtain ⟨a0, c0, hform, -⟩ := own_form (hK.own 0)
  rw [hform] at hlk
  clear hr hx hf hG hK hP wf_of hwf
  by_cases h0 : 0 < (G 0).length
  · have hfin : Hid (Post (.returned (.bool true)) w) := by
      show Post (.returned (.bool true)) w
      rw [← HP.out]
      exact ⟨ret_bool (by unfold partB; rw [decide_eq_true h0]; rfl), Below.refl _ _⟩
    generalize (G 0).length = n0 at hlk h0
    go_enter Try.func45, Try.ntmps45
    go_wp2
    exact hfin.out
  · have hz : (G 0).length = 0 := by omega
    rw [hz] at hlk
    have HZ : Hid (partB G xs = xs.any fun n => (G n).any fun q => withinB q.xs xs) := by show partB G xs = _; unfold partB; rw [decide_eq_false h0, Bool.false_or]
    clear h0 hz hform
    go_enter Try.func45, Try.ntmps45
    go_wp2_with (go_at_call 35; refine HSet.out.mono ?_; rintro e w1 ⟨rfl, hs1, hb1⟩)
    have H1 := hide (And.intro hs1 hb1)
    clear hs1 hb1 hlk hc1 HSet
    go_loopw [21] (fun i wr => ∃ k : Nat, i = .int .i64 k ∧ k ≤ n ∧ Hid (Below w1.heap.size w1 wr ∧ ∀ j, j < k → (G (atP xs j)).any (fun q => withinB q.xs xs) = false)) (fun i _ => n - (intOf i).toNat)
    case atStart => exact ⟨0, rfl, Nat.zero_le _, Below.refl _ _, fun j hj => absurd hj (Nat.not_lt_zero _)⟩
    case round =>
      obtain ⟨k, rfl, hk, HM⟩ := hrel
      rename World => wo
      have HBo : Hid (Below w.heap.size w wo) := H1.out.2.trans (HM.out.1.mono H1.out.2.size)
      by_cases hlt : k < n
      · obtain ⟨b, off, rfl, hbw, hcell⟩ := HR.out.addr (by rw [HX.out]; omega)
        have hc := (HBo.out.cell (p := ⟨b, off + k, none⟩) hbw).trans (hcell k (by rw [HX.out]; exact hlt))
        rw [atP_getD] at hc
        have hmem := atP_mem xs k (by rw [HX.out]; exact hlt)
        obtain ⟨y, HY⟩ : ∃ y, Hid (y = atP xs k) := ⟨_, rfl⟩
        rw [← HY.out] at hc hmem
        have hKo := HK.out.under HBo.out
        obtain ⟨v1, hlk, hv1⟩ := look_raw hKo.und (HWF.out y (HF.out y hmem))
        rw [hKo.look y] at hv1
        cases hv1
        have hc1 := hKo.c1
        obtain ⟨ay, cy, hform, hgy⟩ := own_form (hKo.own y)
        have HOw := hide (hKo.own y)
        rw [hform] at hlk HOw
        obtain ⟨m, HML⟩ : ∃ m, Hid (m = (G y).length) := ⟨_, rfl⟩
        rw [← HML.out] at hlk HOw hgy
        have hm : m ≤ 1000 := by rw [HML.out]; exact (HG.out y).1
        have HGY := hide hgy
        have HMem := hide hmem
        have HKo := hide hKo
        clear hcell hmem hKo hform hgy
        go_wp2
        go_loopw [32] (fun i wx => ∃ j : Nat, i = .int .i64 j ∧ j ≤ m ∧ Hid (Below wo.heap.size wo wx ∧ ∀ t, t < j → withinB (atP (G y) t).xs xs = false)) (fun i _ => m - (intOf i).toNat)
        case atStart => exact ⟨0, rfl, Nat.zero_le _, Below.refl _ _, fun j hj => absurd hj (Nat.not_lt_zero _)⟩
        case round =>
          obtain ⟨j, rfl, hj, HM2⟩ := hrel
          have HBr : Hid (Below w.heap.size w wr) := HBo.out.trans (HM2.out.1.mono HBo.out.size)
          by_cases hjm : j < m
          · obtain ⟨g, rfl, hgl⟩ := HGY.out (by omega)
            have hcj := (HM2.out.1.cell (p := ⟨g, j, none⟩) hgl).trans (row_cells HOw.out j (by rw [← HML.out]; exact hjm))
            have hmq := atP_mem (G y) j (by rw [← HML.out]; exact hjm)
            have hgq := (HG.out y).2 _ hmq
            have hoq := HK.out.oks y _ hmq
            obtain ⟨x, HXX⟩ : ∃ x, Hid (x = atP (G y) j) := ⟨_, rfl⟩
            rw [← HXX.out] at hcj hmq hgq hoq
            obtain ⟨pl, xa, xc, qs⟩ := x
            replace hcj : wr.cell? ⟨g, j, none⟩ = some (.slice xa qs.length xc) := hcj
            have hbA : Below wA.heap.size wA wr := HK.out.below.trans (HBr.out.mono HK.out.below.size)
            have HAll := hide (hasAll_any w.heap.size n xs xa qs.length xc qs wr ((H1.out.1.below HM.out.1).below HM2.out.1) ((hoq.below hbA).1) rfl (by have := hgq.1; dsimp only at this; omega) (fun z hz => HWF.out z (hgq.2 z hz)))
            have HMq := hide hmq
            obtain ⟨ln, HLN⟩ : ∃ ln, Hid (ln = qs.length) := ⟨_, rfl⟩
            rw [← HLN.out] at hcj HAll
            clear hoq hgq hbA hmq
            cases hwb : withinB qs xs with
            | true =>
              rw [hwb] at HAll
              have hfin : Hid (∀ W, Below wr.heap.size wr W → Post (.returned (.bool true)) W) := fun W hW => by
                rw [← HP.out]
                refine ⟨ret_bool ?_, HBr.out.trans (hW.mono HBr.out.size)⟩
                rw [HZ.out]
                exact (List.any_eq_true.2 ⟨y, HMem.out, List.any_eq_true.2 ⟨_, HMq.out, hwb⟩⟩).symm
              go_wp2_with (go_at_call 36; refine HAll.out.mono ?_; rintro e w3 ⟨rfl, hb3⟩)
              exact hfin.out _ hb3
            | false =>
              rw [hwb] at HAll
              have HWb := hide hwb
              clear hwb
              go_wp2_with (go_at_call 36; refine HAll.out.mono ?_; rintro e w3 ⟨rfl, hb3⟩)
              go_roundw
              case rel =>
                refine ⟨j + 1, by go_num, by omega, HM2.out.1.trans (hb3.mono HM2.out.1.size), fun t ht => ?_⟩
                by_cases htj : t < j
                · exact HM2.out.2 t htj
                · obtain rfl : t = j := by omega
                  rw [← HXX.out]; exact HWb.out
              case measure => simp [intOf]; omega
          · obtain rfl : j = m := by omega
            go_wp2
            go_roundw
            case rel =>
              refine ⟨k + 1, by go_num, by omega, HM.out.1.trans (HM2.out.1.mono HM.out.1.size), fun t ht => ?_⟩
              by_cases htk : t < k
              · exact HM.out.2 t htk
              · obtain rfl : t = k := by omega
                rw [← HY.out, List.any_eq_false]
                intro q hq
                obtain ⟨i, hi, rfl⟩ := List.getElem_of_mem hq
                have := HM2.out.2 i (by rw [HML.out]; exact hi)
                rw [atP_eq _ i hi] at this
                rw [this]; exact Bool.false_ne_true
            case measure => simp [intOf]; omega
      · obtain rfl : k = n := by omega
        have hfin : Hid (Post (.returned (.bool false)) wo) := by
          show Post (.returned (.bool false)) wo
          rw [← HP.out]
          refine ⟨ret_bool ?_, HBo.out⟩
          rw [HZ.out]
          symm
          rw [List.any_eq_false]
          intro y hy
          have := all_of (p := fun y => (G y).any (fun q => withinB q.xs xs) = false) (fun j hj => HM.out.2 j (by rw [← HX.out]; exact hj)) y hy
          rw [this]; exact Bool.false_ne_true
        go_wp2
        exact hfin.out
end Go.Proofs.Ytcbgnmkipbhncaa
