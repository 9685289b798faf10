/-
  THE WALKS of layer 1: Numbers (scan's).
-/
import Derived.Test.YtimpddokepbabaaGreatDoorNumbers
import Derived.Test.YtimpddokepbabaaGreatDoorSteps
namespace Go.Proofs.YtimpddokepbabaaGreatDoor
open Go.RowKit


theorem fit_no {s : ByteArray} {least most : Int} (h : okW s = false ∨ ((spl s).length : Int) < least ∨ most < (spl s).length) : ¬ nsFit s least most = true := by
  unfold nsFit
  rcases h with h | h | h
  · rw [h]; simp
  · have : decide (least ≤ ((spl s).length : Int)) = false := decide_eq_false (by omega)
    rw [this]; simp
  · have : decide (((spl s).length : Int) ≤ most) = false := decide_eq_false (by omega)
    rw [this]; simp
theorem fit_yes {s : ByteArray} {least most : Int} (h1 : okW s = true) (h2 : least ≤ (spl s).length) (h3 : ((spl s).length : Int) ≤ most) : nsFit s least most = true := by
  unfold nsFit
  rw [h1, decide_eq_true h2, decide_eq_true h3]; rfl

set_option maxHeartbeats 400000 in
theorem numbers_no (s : ByteArray) (least most top : Int) (w : World) (hs : s.size ≤ 100000) (hM : EnvM w) (h : okW s = false ∨ ((spl s).length : Int) < least ∨ most < (spl s).length) :
    Calls Tryz.prog 44 #[.string s, .int .i64 least, .int .i64 most, .int .i64 top] w (NumsPost s least most top w) := by
  have HB := hide (fun w' => nums_bad (top := top) (w := w) (w' := w') (fit_no h))
  cases hok : okW s with
  | false =>
    have H1 := hide (split_no s w hs hM hok)
    clear h hok hM
    go_enter Tryz.func44, Tryz.ntmps44
    go_wp2_with fail
    refine H1.out.mono ?_
    rintro e w1 ⟨rfl, hb⟩
    go_wp2
    go_ret2
    exact HB.out _ hb
  | true =>
    have H1 := hide (split_yes s w hs hM hok)
    have hle := spl_le s
    have h' : ((spl s).length : Int) < least ∨ most < (spl s).length := by rw [hok] at h; simpa using h
    generalize spl s = l at *
    generalize l.length = n at *
    clear h hok hM
    rcases h' with h | h
    all_goals
      go_enter Tryz.func44, Tryz.ntmps44
      go_wp2_with fail
      refine H1.out.mono ?_
      rintro e w1 ⟨rfl, rfl⟩
      go_wp2
      all_goals
        go_ret2
        exact HB.out _ ((Below.refl _ _).alloc (Nat.le_refl _) _)


theorem own_cell {w : World} {base g n cap : Nat} {e : TypeId} {xs : List Value} (h : w.ownsRow base e 1 (.slice (some ⟨g, 0, none⟩) n cap) n xs) {k : Nat} (hk : k < n) : ∃ u, w.cell? ⟨g, k, none⟩ = some u := by
  have hl : xs.length = n := by simpa using h.1
  have h1 := h.cells (g := g) rfl k xs[k] (List.getElem?_eq_getElem (by omega))
  have hplain : (⟨g, 0, none⟩ : Addr).add k = ⟨g, k, none⟩ := by unfold Addr.add; split <;> simp_all
  rw [hplain] at h1
  exact ⟨_, h1⟩

theorem next_row (l : List ByteArray) (top : Int) (k : Nat) (xs xs' : List Value) (h0 : ∀ j, j < k → xs[j]? = some (.int .i64 (numV (l.getD j ByteArray.empty).data.toList top)) ∧ numE (l.getD j ByteArray.empty).data.toList top = 0)
    (h : ∀ j, j < k → xs'[j]? = xs[j]?) (h2 : xs'[k]? = some (.int .i64 (numV (l.getD k ByteArray.empty).data.toList top))) (h3 : numE (l.getD k ByteArray.empty).data.toList top = 0) :
    ∀ j, j < k + 1 → xs'[j]? = some (.int .i64 (numV (l.getD j ByteArray.empty).data.toList top)) ∧ numE (l.getD j ByteArray.empty).data.toList top = 0 := by
  intro j hj
  by_cases e : j < k
  · rw [h j e]; exact h0 j e
  · obtain rfl : j = k := by omega
    exact ⟨h2, h3⟩

set_option maxRecDepth 100000 in
set_option maxHeartbeats 1000000 in
theorem numbers_yes (s : ByteArray) (least most top : Int) (w : World) (hs : s.size ≤ 100000) (hM : EnvM w) (hE : Env w) (ht : top ≤ 9223372036854775807) (hok : okW s = true) (h2 : least ≤ (spl s).length) (h3 : ((spl s).length : Int) ≤ most) :
    Calls Tryz.prog 44 #[.string s, .int .i64 least, .int .i64 most, .int .i64 top] w (NumsPost s least most top w) := by
  obtain ⟨i0, hi, hz0, hz1, hz2⟩ := info_parts infoInt
  have hfit := fit_yes hok h2 h3
  have H1 := hide (split_yes s w hs hM hok)
  have hle := spl_le s
  have HErr := hide (fun w' k => nums_err (top := top) (w := w) (w' := w') hfit k)
  have HOk := hide (fun w' v => nums_ok (top := top) (w := w) (w' := w') (v := v) hfit)
  have HZ := hide (fun j hj => piece_size s j hj)
  clear hM hok hfit
  generalize hP : NumsPost s least most top = Post at *
  clear hP
  generalize spl s = l at *
  obtain ⟨n, hn⟩ : ∃ n, n = l.length := ⟨_, rfl⟩
  rw [← hn] at H1 hle h2 h3 HErr HOk HZ
  have HN := hide hn
  clear hn
  go_enter Tryz.func44, Tryz.ntmps44
  go_wp2_with fail
  refine H1.out.mono ?_
  rintro e w1 ⟨rfl, rfl⟩
  go_wp2_with (at_make; refine wpList_make_full _ rfl (.tmp 37) (.tmp 37) 24 rfl (w.heap.size + 1) 3 i0 (.int .i64 0) 1 Tryz.underlying24 hi hz0 hz1 .i64 .i64 _ _ n rfl rfl rfl rfl (by rw [hz2]; omega) (by unfold maxLen; omega) (by simp) ?_; intro w2 hown2 hg2)
  have hsz1 : (w.alloc (.cells (strC l) 9)).heap.size = w.heap.size + 1 := by simp
  rw [hsz1] at hown2
  have hh2 : w2.heap[w.heap.size]? = some (.cells (strC l) 9 (0, 0)) := (hg2.block _ (by rw [hsz1]; omega) (fun e => by cases e)).trans (heap_new _ _)
  have hb2 : Below w.heap.size w w2 := ((Below.refl _ w).alloc (Nat.le_refl _) _).grown hg2 (by rw [hsz1]; omega) (fun k hk => by cases hk)
  have HO2 := hide hown2
  have HH2 := hide hh2
  have HB2 := hide hb2
  clear hown2 hg2 hsz1 hh2 hb2
  go_loopw [41] (fun i wr => ∃ (k : Nat) (xs : List Value), k ≤ n ∧ i = .int .i64 k ∧ Hid (wr.heap[w.heap.size]? = some (.cells (strC l) 9 (0, 0))) ∧ Hid (wr.ownsRow (w.heap.size + 1) 3 1 (.slice (some ⟨w.heap.size + 1, 0, none⟩) n n) n xs) ∧ Hid (∀ j, j < k → xs[j]? = some (.int .i64 (numV (l.getD j ByteArray.empty).data.toList top)) ∧ numE (l.getD j ByteArray.empty).data.toList top = 0) ∧ Hid (Below w.heap.size w wr)) (fun i _ => n - (intOf i).toNat)
  case atStart => exact ⟨0, _, Nat.zero_le _, rfl, HH2, HO2, fun j hj => absurd hj (Nat.not_lt_zero _), HB2⟩
  case round =>
    obtain ⟨k, xs, hk, rfl, HH, HO, HX, HB⟩ := hrel
    by_cases hlt : k < n
    · have hg := strC_get l k (by rw [← HN.out]; exact hlt)
      have hz := HZ.out k hlt
      have HErrk := hide (fun w' => HErr.out w' k hlt (fun j hj => (HX.out j hj).2))
      have HC := hide (number_any (l.getD k ByteArray.empty) top wr (by omega) ht (hE.below HB.out))
      have HXk := hide (fun xs' (h : ∀ j, j < k → xs'[j]? = xs[j]?) (h2 : xs'[k]? = some (.int .i64 (numV (l.getD k ByteArray.empty).data.toList top))) (h3 : numE (l.getD k ByteArray.empty).data.toList top = 0) => next_row l top k xs xs' HX.out h h2 h3)
      obtain ⟨hc, _⟩ := cells_heap HH.out hg
      generalize l.getD k ByteArray.empty = p at *
      generalize numV p.data.toList top = V at *
      generalize numE p.data.toList top = E at *
      have hB : w.heap.size < wr.heap.size := (Array.getElem?_eq_some_iff.1 HH.out).1
      clear hg hz
      go_wp2_with fail
      refine HC.out.mono ?_
      rintro e w3 ⟨rfl, hb3⟩
      have HB3 := hide (HB.out.trans (hb3.mono HB.out.size))
      have HO3 := hide (own_below HO.out hb3)
      have HH3 := hide ((hb3.block _ hB).trans HH.out)
      clear hb3 hc HC
      by_cases hE0 : E = 0
      · subst hE0
        obtain ⟨u, hu⟩ := own_cell HO3.out hlt
        have hf := World.ownsRow.frozenAt HO3.out k
        have HO4 := hide (HO3.out.stored k (.int .i64 V))
        have HH4 := hide ((Below.heap_setCell w3 ⟨w.heap.size + 1, k, none⟩ (.int .i64 V) w.heap.size (by simp)).trans HH3.out)
        have HB4 := hide (HB3.out.setCell (p := ⟨w.heap.size + 1, k, none⟩) (by simp) (.int .i64 V))
        go_wp2
        go_roundw
        case rel =>
          refine ⟨k + 1, xs.set k (.int .i64 V), by omega, by go_num, HH4, HO4.out.1, HXk.out _ (fun j hj => ?_) ?_ trivial, HB4⟩
          · rw [List.getElem?_set_ne (by omega)]
          · have hl : xs.length = n := by simpa using HO3.out.1
            rw [List.getElem?_set_self (by omega)]
        case measure => simp [intOf]; omega
      · have hE1 : (E == 0) = false := by rw [beq_eq_false_iff_ne]; exact hE0
        go_wp2
        exact HErrk.out _ hE0 HB3.out
    · obtain rfl : k = n := by omega
      go_wp2
      exact HOk.out _ _ (fun j hj => (HX.out j hj).2) (OwnI.of HO.out (Nat.le_succ _) (by rw [vals_length]; exact HN.out) (fun i hi => by
        rw [vals_length] at hi
        rw [vals_get top l i hi]
        exact (HX.out i (by rw [HN.out]; exact hi)).1)) HB.out

theorem numbers_any (s : ByteArray) (least most top : Int) (w : World) (hs : s.size ≤ 100000) (hM : EnvM w) (hE : Env w) (ht : top ≤ 9223372036854775807) :
    Calls Tryz.prog 44 #[.string s, .int .i64 least, .int .i64 most, .int .i64 top] w (NumsPost s least most top w) := by
  by_cases h : okW s = false ∨ ((spl s).length : Int) < least ∨ most < (spl s).length
  · exact numbers_no s least most top w hs hM h
  · have h1 : okW s = true := by
      cases e : okW s
      · exact absurd (.inl e) h
      · rfl
    exact numbers_yes s least most top w hs hM hE ht h1 (by omega) (by omega)
end Go.Proofs.YtimpddokepbabaaGreatDoor
