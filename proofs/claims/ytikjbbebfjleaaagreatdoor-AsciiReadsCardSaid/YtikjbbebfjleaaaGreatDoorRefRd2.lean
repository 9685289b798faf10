/-
  THE WALKS of the reference's begin and end.
-/
import Derived.Test.YtikjbbebfjleaaaGreatDoorRefRd
import Derived.Test.YtikjbbebfjleaaaGreatDoorRefHead
import Derived.Test.YtikjbbebfjleaaaGreatDoorJ42
import Derived.Test.YtikjbbebfjleaaaGreatDoorRd3
namespace Go.Proofs.YtikjbbebfjleaaaGreatDoor
open Go.RowKit

/-- What stands behind the word; the error of a beginning. -/
def restW (word : List UInt8) (xs : List Int) : ByteArray := ⟨((lineS xs (some 0)).1.data.toList.drop (word.length + 1)).toArray⟩
def begE (word : List UInt8) (xs : List Int) : Int := if Lib.hasPrefix (lineS xs (some 0)).1.data.toList (word ++ [32]) = true then hdrE (restW word xs) else 2
/-- WHAT begin TELLS. -/
def BegR (p : Nat) (a : Option Addr) (n c : Nat) (xs : List Int) (word : List UInt8) (w : World) (e : Ending) (w' : World) : Prop :=
  ∃ v, e = .returned v ∧ ((begE word xs = 0 ∧ OwnI w.heap.size w' v (hdrL (restW word xs)) ∧ WentR p a n c xs (rTop (hdrL (restW word xs))) w (lineS xs (some 0)).2 w') ∨ (begE word xs ≠ 0 ∧ Two p p w w' ∧ w'.cell? ⟨p, 3, none⟩ = some (.int .i64 (begE word xs))))

theorem cell_set_at {w : World} {p : Nat} {cs : Array Value} {t : TypeId} {r : Nat × Nat} (h : w.heap[p]? = some (.cells cs t r)) (j : Nat) (v u : Value) (hj : cs[j]? = some u) : (w.setCell ⟨p, j, none⟩ v).cell? ⟨p, j, none⟩ = some v := by
  have hc : w.cell? ⟨p, j, none⟩ = some u := by simp [World.cell?, h, hj]
  simp [World.cell?_setCell_same, hc]

set_option maxRecDepth 100000 in
set_option maxHeartbeats 2000000 in
theorem refBegin_any (p : Nat) (a : Option Addr) (n c : Nat) (xs : List Int) (word : ByteArray) (hwz : word.size ≤ 100) (w : World) (h : RdR p a n c xs 0 (some 0) w) :
    Calls Tryz.prog 39 #[.pointer (some ⟨p, 0, none⟩), .string word] w (BegR p a n c xs word.data.toList w) := by
  have H0 := hide h
  obtain ⟨k, hk, c0, c1, c2, c3⟩ := h.cells
  obtain rfl := hk 0 rfl
  rw [show errR (some 0) = 0 from rfl] at c3
  have hln := h.len
  have hsm := h.small
  have f1 := h.free 1
  have f2 := h.free 2
  have f3 := h.free 3
  have HFail : Hid (∀ E : Int, E ≠ 0 → begE word.data.toList xs = E → ∀ w1, WentR p a n c xs 0 w (some 0) w1 ∨ (∃ j, WentR p a n c xs 0 w (some j) w1) → ∀ v, BegR p a n c xs word.data.toList w (.returned v) (w1.setCell ⟨p, 3, none⟩ (.int .i64 E))) := fun E hE he w1 hw v => by
    have hw : ∃ j, WentR p a n c xs 0 w (some j) w1 := hw.elim (fun q => ⟨0, q⟩) id
    obtain ⟨j, hw⟩ := hw
    obtain ⟨kk, b1, -⟩ := hw.1.blk
    exact ⟨v, rfl, .inr ⟨by rw [he]; exact hE, hw.2.setL 3 _, by rw [he]; exact cell_set_at b1 3 _ _ rfl⟩⟩
  have hdr := hide (fun q => (WentR.drewN H0.out q).1)
  rcases hit_or_miss xs 0 with ⟨d, hd⟩ | hm
  · have hjd : 0 + d + 1 ≤ n := by have := hd.1; omega
    have HC := hide (refLine_hit a n c 0 d xs w h.text h.len h.cap (by omega) hd)
    have hlS : lineS xs (some 0) = (strOfNums ((xs.drop 0).take d), some (0 + d + 1)) := lineS_yes (lineO_hit hd)
    have hszS : (strOfNums ((xs.drop 0).take d)).size ≤ 100000 := by rw [strOfNums_size, List.length_take, List.length_drop]; omega
    have HB := hide (fun W => refBegins_any (strOfNums ((xs.drop 0).take d)) (word ++ ⟨#[32]⟩) W)
    rw [append32] at HB
    have hbe : begE word.data.toList xs = if Lib.hasPrefix (strOfNums ((xs.drop 0).take d)).data.toList (word.data.toList ++ [32]) = true then hdrE (restW word.data.toList xs) else 2 := by
      unfold begE; rw [hlS]
    have hrest : restW word.data.toList xs = (strOfNums ((xs.drop 0).take d)).extract (word.size + 1) (strOfNums ((xs.drop 0).take d)).size := by
      unfold restW
      rw [hlS]
      apply ByteArray.ext
      apply Array.toList_inj.1
      rw [Lib.extract_to_end, Lib.size_eq word]
    have hpl : Lib.hasPrefix (strOfNums ((xs.drop 0).take d)).data.toList (word.data.toList ++ [32]) = true → word.size + 1 ≤ (strOfNums ((xs.drop 0).take d)).size := fun e => by
      unfold Lib.hasPrefix at e
      rw [List.isPrefixOf_iff_prefix] at e
      have := e.length_le
      rw [List.length_append, List.length_singleton] at this
      have h1 := Lib.size_eq word
      have h2 := Lib.size_eq (strOfNums ((xs.drop 0).take d))
      omega
    have e1 : ((0 : Nat) : Int) + (d : Int) + 1 = (d : Int) + 1 := by omega
    rw [e1] at HC
    have e2 : 0 + d + 1 = d + 1 := by omega
    rw [e2] at hlS
    have HDn : Hid (∀ H v w1, OwnI w.heap.size w1 v H → Below w.heap.size w w1 → H = hdrL (restW word.data.toList xs) → begE word.data.toList xs = 0 → BegR p a n c xs word.data.toList w (.returned v) ((w1.setCell ⟨p, 1, none⟩ (.int .i64 ((d : Int) + 1))).setCell ⟨p, 2, none⟩ (.int .i64 (2 * H.getD 0 0 + 1)))) := fun H v w1 ho hb he hz => by
      have m := (H0.out.below hb).move (d + 1) (by omega)
      rw [show ((d + 1 : Nat) : Int) = (d : Int) + 1 by omega] at m
      have m2 := m.1.topped (2 * H.getD 0 0 + 1)
      have t : Two p p w1 ((w1.setCell ⟨p, 1, none⟩ (.int .i64 ((d : Int) + 1))).setCell ⟨p, 2, none⟩ (.int .i64 (2 * H.getD 0 0 + 1))) := m.2.trans m2.2
      refine ⟨v, rfl, .inl ⟨hz, ?_, ?_⟩⟩
      · rw [← he]; exact own_two ho t H0.out.lt H0.out.lt
      · rw [hlS, ← he]; exact ⟨m2.1, (Two.of_below hb).trans t⟩
    clear hlS e1 e2
    generalize hP : BegR p a n c xs word.data.toList w = Post at HFail HDn ⊢
    have HP := hide hP
    clear hP
    generalize strOfNums ((xs.drop 0).take d) = S at *
    cases hB : Lib.hasPrefix S.data.toList (word.data.toList ++ [32]) with
    | false =>
      rw [hB] at HB
      rw [hB, if_neg (by decide)] at hbe
      have HBe := hide hbe
      have HW := hide (WentR.refl H0.out)
      clear h hk hd hB hpl hrest hbe hdr
      go_enter Tryz.func39, Tryz.ntmps39
      go_wp2_with (first | (go_at_call 81; refine HC.out.mono ?_; rintro e w1 ⟨rfl, rfl⟩) | (go_at_call 57; refine (HB.out _).mono ?_; rintro e w1 ⟨rfl, rfl⟩))
      exact HFail.out 2 (by decide) HBe.out _ (.inl HW.out) _
    | true =>
      rw [hB] at HB
      rw [hB, if_pos rfl] at hbe
      have hsz := hpl hB
      have hsz1 : (word.size : Int) + 1 ≤ (S.size : Int) := by omega
      have HHd := hide (fun W => refHeader_any (restW word.data.toList xs) W (by rw [hrest]; rw [ByteArray.size_extract]; omega))
      rw [hrest] at HHd hbe HDn
      have HBe := hide hbe
      clear h hk hd hB hpl hrest hbe hdr
      generalize hR : S.extract (word.size + 1) S.size = R at *
      by_cases hE : hdrE R = 0
      · have hf := hide (hdr_fit hE)
        rw [hE] at HHd HBe
        clear hE
        generalize hdrL R = H at *
        have HL9 := hide hf.out.len
        have b0 := hf.out.pos 0
        have b1 := hf.out.b0
        obtain ⟨y, hy⟩ : ∃ y, y = H.getD 0 0 := ⟨_, rfl⟩
        have HY := hide hy
        rw [← hy] at b0 b1
        clear hy
        go_enter Tryz.func39, Tryz.ntmps39
        go_wp2_with (first | (go_at_call 81; refine HC.out.mono ?_; rintro e w1 ⟨rfl, rfl⟩) | (go_at_call 57; refine (HB.out _).mono ?_; rintro e w1 ⟨rfl, rfl⟩) | (go_at_call 17; refine (HHd.out _).mono ?_; rintro e w1 ⟨v, rfl, ho, hb⟩; have HO := hide ho; have HBl := hide hb; obtain ⟨hg, cap, rfl, hc, hgb⟩ := ownI_at ho HL9.out (by omega); have e0 := hc 0 (by omega); rw [← HY.out] at e0; have hgp : p ≠ hg := (by have := H0.out.lt; omega); have g1 := (H0.out.below hb).free 1; have g2 := (H0.out.below hb).free 2; obtain ⟨kq, hkq, r0, r1, r2, r3⟩ := (H0.out.below hb).cells; clear ho hb hc hgb hkq r0 r3))
        have hfin := HDn.out H _ w1 HO.out HBl.out rfl HBe.out
        rw [← HY.out] at hfin
        exact hfin
      · generalize hdrE R = E at *
        generalize hdrL R = H at *
        have hE1 : (E == 0) = false := by rw [beq_eq_false_iff_ne]; exact hE
        have hE2 : (E != 0) = true := by rw [bne, hE1]; rfl
        have HNe := hide hE
        clear hE
        go_enter Tryz.func39, Tryz.ntmps39
        go_wp2_with (first | (go_at_call 81; refine HC.out.mono ?_; rintro e w1 ⟨rfl, rfl⟩) | (go_at_call 57; refine (HB.out _).mono ?_; rintro e w1 ⟨rfl, rfl⟩) | (go_at_call 17; refine (HHd.out _).mono ?_; rintro e w1 ⟨v, rfl, ho, hb⟩; have HW := hide ((WentR.refl H0.out).below hb); have g3 := HW.out.1.free 3; obtain ⟨kq, hkq, r0, r1, r2, r3⟩ := HW.out.1.cells; clear ho hb hkq r0 r1 r2))
        exact HFail.out E HNe.out HBe.out _ (.inl HW.out) _
  · have HC := hide (refLine_miss a n c 0 xs w h.text h.len (by omega) (Nat.zero_le _) hm)
    have hlS : lineS xs (some 0) = (⟨#[]⟩, none) := lineS_no (lineO_miss hm)
    have hbe : begE word.data.toList xs = 2 := by
      unfold begE
      rw [hlS, if_neg]
      show ¬ Lib.hasPrefix [] (word.data.toList ++ [32]) = true
      unfold Lib.hasPrefix
      rw [List.isPrefixOf_iff_prefix]
      intro e
      have := e.length_le
      simp at this
    have HBe := hide hbe
    have HW := hide (WentR.refl H0.out)
    generalize BegR p a n c xs word.data.toList w = Post at HFail ⊢
    clear h hk hm hlS hbe hdr
    go_enter Tryz.func39, Tryz.ntmps39
    go_wp2_with (first | (go_at_call 81; refine HC.out.mono ?_; rintro e w1 ⟨rfl, rfl⟩))
    exact HFail.out 2 (by decide) HBe.out _ (.inl HW.out) _
end Go.Proofs.YtikjbbebfjleaaaGreatDoor
