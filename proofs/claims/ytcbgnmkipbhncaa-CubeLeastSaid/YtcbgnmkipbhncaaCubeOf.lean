/-
  THE WALKS of layer 3: isSign, Of.
-/
import Derived.Test.YtcbgnmkipbhncaaCubePlain
namespace Go.Proofs.Ytcbgnmkipbhncaa
open Go.RowKit

set_option maxHeartbeats 400000 in
theorem isSign_any (n : Int) (w : World) : Calls Try.prog 29 #[.int .i64 n] w fun e w' => e = .returned (.bool (fitB n)) ∧ w' = w := by
  by_cases h0 : n = 0
  · subst h0
    rw [show fitB 0 = false from rfl]
    go_enter Try.func29, Try.ntmps29
    go_wp2
    go_ret
    exact ⟨rfl, rfl⟩
  by_cases h1 : -2147483648 ≤ n
  · by_cases h2 : n ≤ 2147483648
    · rw [(fitB_iff n).2 ⟨h0, h1, h2⟩]
      go_enter Try.func29, Try.ntmps29
      go_wp2
      go_ret
      exact ⟨by simp [h0], rfl⟩
    · rw [fitB_no (fun h => h2 h.2.2)]
      go_enter Try.func29, Try.ntmps29
      go_wp2
      go_ret
      exact ⟨by simp, rfl⟩
  · rw [fitB_no (fun h => h1 h.2.1)]
    go_enter Try.func29, Try.ntmps29
    go_wp2
    go_ret
    exact ⟨by simp, rfl⟩

set_option maxHeartbeats 400000 in
theorem fits_any (n : Int) (w : World) : Calls Try.prog 32 #[.int .i64 n] w fun e w' => e = .returned (.bool (fitB n)) ∧ w' = w := by
  by_cases h0 : n = 0
  · subst h0
    rw [show fitB 0 = false from rfl]
    go_enter Try.func32, Try.ntmps32
    go_wp2
    go_ret
    exact ⟨rfl, rfl⟩
  by_cases h1 : -2147483648 ≤ n
  · by_cases h2 : n ≤ 2147483648
    · rw [(fitB_iff n).2 ⟨h0, h1, h2⟩]
      go_enter Try.func32, Try.ntmps32
      go_wp2
      go_ret
      exact ⟨by simp [h0], rfl⟩
    · rw [fitB_no (fun h => h2 h.2.2)]
      go_enter Try.func32, Try.ntmps32
      go_wp2
      go_ret
      exact ⟨by simp, rfl⟩
  · rw [fitB_no (fun h => h1 h.2.1)]
    go_enter Try.func32, Try.ntmps32
    go_wp2
    go_ret
    exact ⟨by simp, rfl⟩

/-- WHAT Of TELLS. -/
def OfPost (w : World) (xs : List Int) (e : Ending) (w' : World) : Prop := ∃ v, e = .returned (.tuple #[v, .bool (goodB xs)]) ∧ NewInts w (cubeA xs) v w'

theorem of_bad {w w' : World} {xs : List Int} (h : ¬ Good xs) (hb : Below w.heap.size w w') : OfPost w xs (.returned (.tuple #[.slice none 0 0, .bool false])) w' :=
  ⟨_, by rw [goodB_no h], by rw [cubeA_no h]; exact ⟨World.ownsRow_nil _ _ _ _, hb⟩⟩
theorem of_ok {w w' : World} {xs : List Int} {v : Value} {r : List Int} (h : Good xs) (hu : Up r) (hm : ∀ x, x ∈ r ↔ x ∈ xs) (hv : w'.ownsRow w.heap.size 3 1 v r.length (r.map (Value.int .i64))) (hb : Below w.heap.size w w') : OfPost w xs (.returned (.tuple #[v, .bool true])) w' :=
  ⟨_, by rw [(goodB_iff xs).2 h], by rw [cubeA_eq h hu hm]; exact ⟨hv, hb⟩⟩

theorem atP_getD (xs : List Int) (i : Nat) : xs.getD i 0 = atP xs i := rfl

/-- Between two rounds of Of's second loop. -/
structure OfMid (w0 : World) (B2 : Nat) (vy : Value) (ys : List Int) (v : Value) (k m : Nat) (last : Int) (acc : List Int) (wr : World) : Prop where
  own : wr.ownsRow w0.heap.size 3 1 v m (acc.map (Value.int .i64))
  ysOwn : wr.ownsRow B2 3 1 vy ys.length (ys.map (Value.int .i64))
  apart : vy.ownBlock = none ∨ vy.ownBlock ≠ v.ownBlock
  below : Below w0.heap.size w0 wr
  up : Up acc
  mem : ∀ x, x ∈ acc ↔ x ∈ ys.take k
  good : Good (ys.take k)
  len : acc.length = m
  lastIs : (k = 0 ∧ last = 0) ∨ (0 < k ∧ last = atP ys (k - 1))

theorem OfMid.step {w0 : World} {B2 : Nat} {vy v v' : Value} {ys acc : List Int} {k m : Nat} {last x : Int} {wr w' : World} (h : OfMid w0 B2 vy ys v k m last acc wr) (_hk : k < ys.length) (hx : x = atP ys k)
    (hgood : Good (ys.take (k + 1))) (hup : Up (acc ++ [x])) (hmem : ∀ y, y ∈ acc ++ [x] ↔ y ∈ ys.take (k + 1)) {o : Obj}
    (hown : w'.ownsRow w0.heap.size 3 1 v' (m + 1) (acc.map (Value.int .i64) ++ [.int .i64 x])) (hg : (wr.alloc o).grownBy w' v.ownBlock) (hat : v'.ownBlock = v.ownBlock ∨ v'.ownBlock = some (wr.alloc o).heap.size) :
    OfMid w0 B2 vy ys v' (k + 1) (m + 1) x (acc ++ [x]) w' := by
  have hsz : (wr.alloc o).heap.size = wr.heap.size + 1 := by simp
  refine ⟨by rw [List.map_append]; exact hown, (h.ysOwn.alloc o).kept hg h.apart, ?_, ?_, hup, hmem, hgood, by simp [h.len], .inr ⟨by omega, by rw [Nat.add_sub_cancel]; exact hx⟩⟩
  · rcases hat with e | e
    · rw [e]; exact h.apart
    · cases hvy : vy.ownBlock with
      | none => exact .inl rfl
      | some g =>
        refine .inr ?_
        rw [e]
        intro e2
        have := (h.ysOwn.lt g hvy).2
        cases e2
        omega
  · exact (h.below.grown (World.grownBy_alloc wr o none) h.below.size (fun k hk => by cases hk)).grown hg (by have := h.below.size; omega) (fun k hk => (h.own.lt k hk).1)

set_option maxRecDepth 100000 in
set_option maxHeartbeats 1000000 in
theorem of_any (a : Option Addr) (n c : Nat) (xs : List Int) (w : World) (hr : RowK .i64 w a xs) (hx : xs.length = n) (hnc : a = none → c = 0) (hn : n ≤ 1048576) :
    Calls Try.prog 10 #[.slice a n c] w (OfPost w xs) := by
  obtain ⟨i0, hi, hz0, hz1, hz2⟩ := info_parts infoInt
  have HR := hide hr
  have HX := hide hx
  have HN := hide hnc
  generalize hP : OfPost w xs = Post
  have HP := hide hP
  clear hr hx hnc hP
  go_enter Try.func10, Try.ntmps10
  go_wp2
  go_loop [12] (fun i => ∃ k : Nat, i = .int .i64 k ∧ k ≤ n ∧ Hid (∀ j, j < k → Fits (atP xs j))) (fun i => n - (intOf i).toNat)
  case atStart => exact ⟨0, rfl, Nat.zero_le _, fun j hj => absurd hj (Nat.not_lt_zero _)⟩
  case round =>
    obtain ⟨k, rfl, hk, HF⟩ := hrel
    by_cases hlt : k < n
    · obtain ⟨b, off, rfl, -, hcell⟩ := HR.out.addr (by rw [HX.out]; omega)
      have hc := hcell k (by rw [HX.out]; omega)
      rw [atP_getD] at hc
      obtain ⟨x, HXX⟩ : ∃ x, Hid (x = atP xs k) := ⟨_, rfl⟩
      rw [← HXX.out] at hc
      clear hcell
      have hs := isSign_any x w
      by_cases hf : Fits x
      · rw [(fitB_iff x).2 hf] at hs
        have HFF := hide hf
        clear hf
        go_wp2_with (go_at_call 29; refine hs.mono ?_; rintro e w1 ⟨rfl, hw1⟩; obtain rfl := hw1.symm)
        go_round
        case rel =>
          refine ⟨k + 1, by go_num, by omega, fun j hj => ?_⟩
          by_cases hjk : j < k
          · exact HF.out j hjk
          · obtain rfl : j = k := by omega
            rw [← HXX.out]; exact HFF.out
        case measure => simp [intOf]; omega
      · rw [fitB_no hf] at hs
        have hfin : Post (.returned (.tuple #[.slice none 0 0, .bool false])) w := by
          rw [← HP.out]
          refine of_bad (fun hg => hf ?_) (Below.refl _ _)
          rw [HXX.out]
          exact hg.1 _ (atP_mem xs k (by rw [HX.out]; exact hlt))
        go_wp2_with (go_at_call 29; refine hs.mono ?_; rintro e w1 ⟨rfl, hw1⟩; obtain rfl := hw1.symm)
        exact hfin
    · obtain rfl : k = n := by omega
      have hall : ∀ x ∈ xs, Fits x := fun x hx => by
        obtain ⟨j, hj, rfl⟩ := List.getElem_of_mem hx
        have := HF.out j (by rw [← HX.out]; exact hj)
        rwa [atP_eq xs j hj] at this
      have HA := hide hall
      clear hall HF hlt
      go_wp2_with (at_make; refine wpList_make_len _ rfl (.const (.int .i64 0)) (.tmp 21) 22 rfl 3 i0 (.int .i64 0) Try.underlying22 hi hz0 hz1 .i64 .i64 _ _ 0 k rfl rfl rfl (by omega) (by omega) (by rw [hz2]; omega) (by unfold maxLen; omega) ?_; intro w1 cur hgc hcs hgr)
      have hb1 : Below w.heap.size w w1 := (Below.refl _ _).grown hgr (Nat.le_refl _) (fun k hk => by cases hk)
      have hown1 : w1.ownsRow w.heap.size 3 1 (.slice (some ⟨w.heap.size, 0, none⟩) 0 k) 0 [] := ⟨by simp, .inr ⟨w.heap.size, k, cur, rfl, Nat.le_refl _, hgc, Nat.zero_le _, by unfold maxLen; omega, by simpa using hcs, by simp⟩⟩
      have HIn := hide (inOrder_any a k c xs w1 (HR.out.below hb1) HX.out HN.out hn (fun x hx => (HA.out x hx).2))
      have H1 := hide (And.intro hb1 hown1)
      clear hb1 hown1 hgc hcs hgr
      go_wp2_with fail
      refine HIn.out.mono ?_
      rintro e w2 ⟨vy, ys, rfl, ⟨hyo, hb2⟩, hperm, hrise⟩
      obtain ⟨ay, cy, rfl, -, -, -, -, -⟩ := row_of_own hyo
      have hyk : ys.length = k := hperm.length_eq.trans HX.out
      have hM : OfMid w w1.heap.size (.slice ay ys.length cy) ys (.slice (some ⟨w.heap.size, 0, none⟩) 0 k) 0 0 0 [] w2 := by
        obtain ⟨q1, q2⟩ := H1.out
        have hlt := hyo.lt
        refine ⟨own_below q2 hb2, hyo, ?_, q1.trans (hb2.mono q1.size), List.Pairwise.nil, fun x => by simp, ⟨fun x hx => by simp at hx, fun x hx => by simp at hx⟩, rfl, .inl ⟨rfl, rfl⟩⟩
        cases hvy : (Value.slice ay ys.length cy).ownBlock with
        | none => exact .inl rfl
        | some g =>
          refine .inr ?_
          intro e2
          have h3 := (hlt g hvy).1
          have h4 : w.heap.size < w1.heap.size := (q2.lt _ rfl).2
          have e3 : g = w.heap.size := by cases e2; rfl
          omega
      have hall : (∀ x ∈ ys, Fits x) ∧ RiseP ltI ys ∧ (Good ys ↔ Good xs) ∧ (∀ x, x ∈ ys ↔ x ∈ xs) := by
        refine ⟨fun x hx => HA.out x (hperm.mem_iff.1 hx), hrise, ?_, fun x => hperm.mem_iff⟩
        unfold Good
        simp only [hperm.mem_iff]
      rw [hyk] at hM ⊢
      have HM := hide hM
      have HY := hide hall
      have HYK := hide hyk
      clear hM hall hyk hperm hrise hyo hb2 HIn H1 HA HR HN
      go_wp2
      go_loopw [6, 7, 26] (fun v lst i wr => ∃ (j m : Nat) (last : Int) (acc : List Int), i = .int .i64 j ∧ j ≤ k ∧ m ≤ j ∧ lst = .int .i64 last ∧ -2147483648 ≤ last ∧ last ≤ 2147483648 ∧ Hid (OfMid w w1.heap.size (.slice ay k cy) ys v j m last acc wr)) (fun _ _ i _ => k - (intOf i).toNat)
      case atStart => exact ⟨0, 0, 0, [], rfl, Nat.zero_le _, Nat.le_refl _, rfl, by decide, by decide, HM.out⟩
      case round =>
        clear HM
        obtain ⟨j, m, last, acc, rfl, hj, hm, rfl, hl1, hl2, HM⟩ := hrel
        by_cases hjk : j < k
        · have hjy : j < ys.length := by rw [HYK.out]; exact hjk
          have hfx : Fits (atP ys j) := HY.out.1 _ (atP_mem ys j hjy)
          have hst := scan_step (last := last) HY.out.2.1 HY.out.1 hjy HM.out.up HM.out.mem HM.out.good HM.out.lastIs
          have hc : wr.ownsRow w1.heap.size 3 1 (.slice ay k cy) k (ys.map (Value.int .i64)) := by have := HM.out.ysOwn; rwa [HYK.out] at this
          obtain ⟨ay', cy', e, hrow, -⟩ := row_of_own hc
          cases e
          obtain ⟨b, off, rfl, -, hcell⟩ := hrow.addr (by rw [HYK.out]; omega)
          have hc := hcell j hjy
          rw [atP_getD] at hc
          obtain ⟨x, HXX⟩ : ∃ x, Hid (x = atP ys j) := ⟨_, rfl⟩
          rw [← HXX.out] at hc hst hfx
          clear hcell hrow
          have HS := hide hst
          obtain ⟨hx0, hx1, hx2⟩ := hfx
          clear hst
          by_cases h1 : x = -last
          · subst h1
            have hfin : Post (.returned (.tuple #[.slice none 0 0, .bool false])) wr := by
              rw [← HP.out]
              exact of_bad (fun hg => HS.out.1 rfl (HY.out.2.2.1.2 hg)) HM.out.below
            go_wp2
            exact hfin
          · have hb1 : (x == -last) = false := by rw [beq_eq_false_iff_ne]; exact h1
            by_cases h2 : x = last
            · subst h2
              go_wp2
              go_roundw
              case rel =>
                have q := HS.out.2 h1
                refine ⟨j + 1, m, x, acc, by go_num, by omega, by omega, rfl, hx1, hx2, { HM.out with mem := q.2.2 rfl, good := q.1, lastIs := .inr ⟨by omega, by rw [Nat.add_sub_cancel]; exact HXX.out⟩ }⟩
              case measure => simp [intOf]; omega
            · have hb2 : (x == last) = false := by rw [beq_eq_false_iff_ne]; exact h2
              have hown := HM.out.own
              have hbw := HM.out.below.size
              go_wp2_with (at_builtin; refine wpList_append_own_at _ rfl (.tmp 37) (.tmp 39) 22 rfl w.heap.size 3 i0 (.int .i64 0) 1 8 Try.underlying22 hi hz0 hz1 hz2 rfl (by decide) _ _ _ rfl (hown.alloc _) ⟨wr.heap.size, 0, none⟩ 1 1 [.int .i64 x] rfl rfl (cell_one_new _ _ _) (by intro u hu; simp at hu; subst hu; rfl) (by unfold maxLen; omega) (by omega) (by simp; omega) ?_; intro v6 w6 hown6 hg6 _ hat6)
              go_roundw
              case rel =>
                have q := HS.out.2 h1
                have q2 := q.2.1 h2
                exact ⟨j + 1, m + 1, x, acc ++ [x], by go_num, by omega, by omega, rfl, hx1, hx2, HM.out.step (by rw [HYK.out]; exact hjk) HXX.out q.1 q2.1 q2.2 hown6 hg6 hat6⟩
              case measure => simp [intOf]; omega
        · obtain rfl : j = k := by omega
          have hfin : Hid (Post (.returned (.tuple #[u6, .bool true])) wr) := by
            show Post (.returned (.tuple #[u6, .bool true])) wr
            rw [← HP.out]
            have hm := HM.out
            have e : ys.take j = ys := List.take_of_length_le (by rw [HYK.out]; exact Nat.le_refl _)
            have hmm := hm.mem
            have hgg := hm.good
            rw [e] at hmm hgg
            exact of_ok (HY.out.2.2.1.1 hgg) hm.up (fun x => (hmm x).trans (HY.out.2.2.2 x)) (by rw [hm.len]; exact hm.own) hm.below
          go_wp2
          exact hfin.out
end Go.Proofs.Ytcbgnmkipbhncaa
