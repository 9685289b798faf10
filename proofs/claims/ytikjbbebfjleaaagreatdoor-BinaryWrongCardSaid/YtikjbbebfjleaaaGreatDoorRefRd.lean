/-
  THE REFERENCE's READER IN MEMORY: its block, its bytes, its place, its error.
  THE WALKS of its Begins, row, ones.
-/
import Derived.Test.YtikjbbebfjleaaaGreatDoorJ32
import Derived.Test.YtikjbbebfjleaaaGreatDoorOwnQ
import Derived.Deep.LoopGhost
namespace Go.Proofs.YtikjbbebfjleaaaGreatDoor
open Go.RowKit

/-- The reference's reader: block p holds its bytes, its place st (none: it has failed), the greatest literal, its error. -/
structure RdR (p : Nat) (a : Option Addr) (n c : Nat) (xs : List Int) (top : Int) (st : Option Nat) (w : World) : Prop where
  blk : ∃ k : Int, w.heap[p]? = some (.cells #[.slice a n c, .int .i64 k, .int .i64 top, .int .i64 (errR st)] 68 (0, 0)) ∧ ∀ j, st = some j → k = (j : Int)
  inb : InB xs st
  text : Row8 w a xs
  len : xs.length = n
  cap : n ≤ c
  apart : ∀ x, a = some x → 0 < xs.length → x.block ≠ p
  bytes : Bytes8 xs
  small : n ≤ 100000

section
variable {p : Nat} {a : Option Addr} {n c : Nat} {xs : List Int} {top top0 top1 : Int} {st st0 st1 : Option Nat} {w w' w1 w2 w3 w4 : World}
theorem RdR.to {top' : Int} {st' : Option Nat} (h : RdR p a n c xs top st w) (t : Two p p w w') (hb : ∃ k : Int, w'.heap[p]? = some (.cells #[.slice a n c, .int .i64 k, .int .i64 top', .int .i64 (errR st')] 68 (0, 0)) ∧ ∀ j, st' = some j → k = (j : Int)) (hi : InB xs st') : RdR p a n c xs top' st' w' :=
  ⟨hb, hi, row8_two h.text t h.apart, h.len, h.cap, h.apart, h.bytes, h.small⟩
theorem RdR.lt (h : RdR p a n c xs top st w) : p < w.heap.size := by
  obtain ⟨k, h1, _⟩ := h.blk
  exact (Array.getElem?_eq_some_iff.1 h1).1
theorem RdR.below (h : RdR p a n c xs top st w) (hb : Below w.heap.size w w') : RdR p a n c xs top st w' := by
  obtain ⟨k, h1, h2⟩ := h.blk
  exact h.to (Two.of_below hb) ⟨k, (hb.block p h.lt).trans h1, h2⟩ h.inb
theorem RdR.cells (h : RdR p a n c xs top st w) : ∃ k : Int, (∀ j, st = some j → k = (j : Int)) ∧ w.cell? ⟨p, 0, none⟩ = some (.slice a n c) ∧ w.cell? ⟨p, 1, none⟩ = some (.int .i64 k) ∧ w.cell? ⟨p, 2, none⟩ = some (.int .i64 top) ∧ w.cell? ⟨p, 3, none⟩ = some (.int .i64 (errR st)) := by
  obtain ⟨k, h1, h2⟩ := h.blk
  have e : ∀ j, w.cell? ⟨p, j, none⟩ = (#[.slice a n c, .int .i64 k, .int .i64 top, .int .i64 (errR st)] : Array Value)[j]? := fun j => cell_of_row w p j _ _ (0, 0) h1
  exact ⟨k, h2, by rw [e]; rfl, by rw [e]; rfl, by rw [e]; rfl, by rw [e]; rfl⟩
theorem RdR.free (h : RdR p a n c xs top st w) (j : Nat) : w.frozen? ⟨p, j, none⟩ = false := by
  obtain ⟨k, h1, _⟩ := h.blk
  exact frozen_of_row w p j _ _ h1
theorem RdR.move {i : Nat} (h : RdR p a n c xs top (some i) w) (j : Nat) (hj : j ≤ n) : RdR p a n c xs top (some j) (w.setCell ⟨p, 1, none⟩ (.int .i64 (j : Int))) ∧ Two p p w (w.setCell ⟨p, 1, none⟩ (.int .i64 (j : Int))) := by
  have t := (Two.refl p p w).setL 1 (.int .i64 (j : Int))
  refine ⟨?_, t⟩
  obtain ⟨k, h1, h2⟩ := h.blk
  exact h.to t ⟨j, heap_setCell_same w p 1 _ _ _ h1, fun i hi => by cases hi; rfl⟩ (fun i hi => by cases hi; rw [h.len]; exact hj)
theorem RdR.fail (h : RdR p a n c xs top st w) : RdR p a n c xs top none (w.setCell ⟨p, 3, none⟩ (.int .i64 2)) ∧ Two p p w (w.setCell ⟨p, 3, none⟩ (.int .i64 2)) := by
  have t := (Two.refl p p w).setL 3 (.int .i64 2)
  refine ⟨?_, t⟩
  obtain ⟨k, h1, h2⟩ := h.blk
  exact h.to t ⟨k, heap_setCell_same w p 3 _ _ _ h1, fun i hi => by cases hi⟩ (fun i hi => by cases hi)
theorem RdR.topped (h : RdR p a n c xs top st w) (T : Int) : RdR p a n c xs T st (w.setCell ⟨p, 2, none⟩ (.int .i64 T)) ∧ Two p p w (w.setCell ⟨p, 2, none⟩ (.int .i64 T)) := by
  have t := (Two.refl p p w).setL 2 (.int .i64 T)
  refine ⟨?_, t⟩
  obtain ⟨k, h1, h2⟩ := h.blk
  exact h.to t ⟨k, heap_setCell_same w p 2 _ _ _ h1, h2⟩ h.inb

/-- What a call leaves of the reader: its next place, all else as it was. -/
def WentR (p : Nat) (a : Option Addr) (n c : Nat) (xs : List Int) (top : Int) (w : World) (st : Option Nat) (w' : World) : Prop := RdR p a n c xs top st w' ∧ Two p p w w'
theorem WentR.far (h : RdR p a n c xs top0 st0 w) (g : WentR p a n c xs top w st w3) (hb : Below w.heap.size w3 w4) : WentR p a n c xs top w st w4 := by
  have t : Two p p w w4 := ⟨hb.os.trans g.2.os, hb.tape.trans g.2.tape, hb.output.trans g.2.output, Nat.le_trans g.2.size hb.size, fun k hk h1 h2 => (hb.block k hk).trans (g.2.block k hk h1 h2)⟩
  obtain ⟨k, h1, h2⟩ := g.1.blk
  exact ⟨h.to t ⟨k, (hb.block p h.lt).trans h1, h2⟩ g.1.inb, t⟩
theorem WentR.then (g : WentR p a n c xs top w st w1) (k : WentR p a n c xs top1 w1 st1 w2) : WentR p a n c xs top1 w st1 w2 := ⟨k.1, g.2.trans k.2⟩
theorem WentR.refl (h : RdR p a n c xs top st w) : WentR p a n c xs top w st w := ⟨h, Two.refl _ _ _⟩
theorem WentR.below (g : WentR p a n c xs top w st w1) (hb : Below w1.heap.size w1 w2) : WentR p a n c xs top w st w2 := ⟨g.1.below hb, g.2.trans (Two.of_below hb)⟩
theorem WentR.drewN (h : RdR p a n c xs top st w) (q : Nat) : WentR p a n c xs top w st (w.drewN q) := ⟨h.below (Drew.below ⟨q, rfl⟩), Two.drewN _ _ _ _⟩
end

set_option maxHeartbeats 400000 in
theorem refBegins_any (s x : ByteArray) (w : World) :
    Calls Tryz.prog 57 #[.string s, .string x] w fun e w' => e = .returned (.bool (Lib.hasPrefix s.data.toList x.data.toList)) ∧ w' = w := by
  by_cases hl : x.size ≤ s.size
  · by_cases he : s.extract 0 x.size = x
    · have hp : Lib.hasPrefix s.data.toList x.data.toList = true := by
        unfold Lib.hasPrefix
        rw [List.isPrefixOf_iff_prefix]
        have := congrArg (fun b : ByteArray => b.data.toList) he
        (try dsimp only at this)
        rw [Lib.extract_data, List.drop_zero, Nat.sub_zero] at this
        rw [← this]
        exact List.take_prefix _ _
      rw [hp]
      have h1 : ((s.extract 0 x.size).toList == x.toList) = true := by rw [he]; simp
      have hx : (x.size : Int) ≤ (s.size : Int) := by omega
      clear he hp
      go_enter Tryz.func57, Tryz.ntmps57
      go_wp2
      go_ret
      exact ⟨rfl, rfl⟩
    · have hp : Lib.hasPrefix s.data.toList x.data.toList = false := by
        rw [Bool.eq_false_iff]
        intro hc
        unfold Lib.hasPrefix at hc
        rw [List.isPrefixOf_iff_prefix] at hc
        obtain ⟨t, ht⟩ := hc
        apply he
        apply ByteArray.ext
        apply Array.toList_inj.1
        rw [Lib.extract_data, List.drop_zero, Nat.sub_zero, ← ht, Lib.size_eq, List.take_left]
      rw [hp]
      have h1 : ((s.extract 0 x.size).toList == x.toList) = false := bytes_ne he
      have hx : (x.size : Int) ≤ (s.size : Int) := by omega
      clear he hp
      go_enter Tryz.func57, Tryz.ntmps57
      go_wp2
      go_ret
      exact ⟨rfl, rfl⟩
  · have hp : Lib.hasPrefix s.data.toList x.data.toList = false := by
      rw [Bool.eq_false_iff]
      intro hc
      unfold Lib.hasPrefix at hc
      rw [List.isPrefixOf_iff_prefix] at hc
      have h1 := hc.length_le
      have h2 : s.data.toList.length = s.size := Array.length_toList
      have h3 : x.data.toList.length = x.size := Array.length_toList
      omega
    rw [hp]
    have hx : (s.size : Int) < (x.size : Int) := by omega
    go_enter Tryz.func57, Tryz.ntmps57
    go_wp2
    go_ret
    exact ⟨rfl, rfl⟩

set_option maxRecDepth 100000 in
set_option maxHeartbeats 1000000 in
theorem refRow_any (p : Nat) (a : Option Addr) (n c : Nat) (xs : List Int) (top : Int) (st : Option Nat) (least most : Nat) (w : World) (h : RdR p a n c xs top st w) (_hm9 : most ≤ 9) (_hl9 : least ≤ 9) (ht0 : 0 ≤ top) (ht : top ≤ 9223372036854775807) :
    Calls Tryz.prog 41 #[.pointer (some ⟨p, 0, none⟩), .int .i64 (least : Int), .int .i64 (most : Int)] w fun e w' => ∃ v, e = .returned v ∧ OwnI w.heap.size w' v (rowL xs top least most st) ∧ WentR p a n c xs top w (rowS xs top least most st).2 w' := by
  have H0 := hide h
  obtain ⟨k, hk, c0, c1, c2, c3⟩ := h.cells
  have hln := h.len
  have hsm := h.small
  cases st with
  | none =>
    have e : rowL xs top least most none = [] := by rw [rowL, if_neg (by rw [rowS_none]; decide)]
    rw [rowS_none, e]
    rw [show errR none = 2 from rfl] at c3
    clear h hk c0 c1 c2
    go_enter Tryz.func41, Tryz.ntmps41
    go_wp2
    go_ret
    exact ⟨_, rfl, OwnI.nil _ _, WentR.refl H0.out⟩
  | some j =>
    obtain rfl := hk j rfl
    rw [show errR (some j) = 0 from rfl] at c3
    have hj : j ≤ n := by rw [← hln]; exact h.inb j rfl
    have f1 := h.free 1
    have f3 := h.free 3
    rcases hit_or_miss xs j with ⟨d, hd⟩ | hm
    · have hjd : j + d + 1 ≤ n := by have := hd.1; omega
      have HC := hide (fun W (hW : RdR p a n c xs top (some j) W) => refLine_hit a n c j d xs W hW.text hW.len hW.cap (by omega) hd)
      have hlS : lineS xs (some j) = (strOfNums ((xs.drop j).take d), some (j + d + 1)) := lineS_yes (lineO_hit hd)
      have e1 : ((j + d + 1 : Nat) : Int) = (j : Int) + d + 1 := by omega
      have hfin : Hid (∀ q, WentR p a n c xs top w (some (j + d + 1)) ((w.drewN q).setCell ⟨p, 1, none⟩ (.int .i64 ((j : Int) + d + 1)))) := fun q => by
        have m := ((WentR.drewN H0.out q).1).move (j + d + 1) hjd
        rw [e1] at m
        exact ⟨m.1, (Two.drewN _ _ _ _).trans m.2⟩
      have hszS : (strOfNums ((xs.drop j).take d)).size ≤ 100000 := by rw [strOfNums_size, List.length_take, List.length_drop]; omega
      have hdr := hide (fun q => (WentR.drewN H0.out q).1)
      have hrl : rowL xs top least most (some j) = if (rowS xs top least most (some j)).2.isSome = true then nsL (strOfNums ((xs.drop j).take d)) least most top else [] := by rw [rowL, hlS]
      have hrs : (rowS xs top least most (some j)).2 = if nsE (strOfNums ((xs.drop j).take d)) least most top = 0 then some (j + d + 1) else none := by
        unfold rowS
        rw [hlS]
        split <;> rfl
      have HNum := hide (fun W => refNumbers_any (strOfNums ((xs.drop j).take d)) least most top W hszS ht ht0)
      unfold NumsPost at HNum
      rw [hrl, hrs]
      clear hrl hrs hlS
      generalize strOfNums ((xs.drop j).take d) = S at *
      by_cases hE : nsE S least most top = 0
      · rw [if_pos hE, if_pos (show (some (j + d + 1)).isSome = true from rfl)]
        rw [hE] at HNum
        generalize nsL S least most top = L at *
        clear h hk hd e1 hE c2
        go_enter Tryz.func41, Tryz.ntmps41
        go_wp2
        go_quiet ((go_at_call 81; refine (HC.out _ (hdr.out _)).mono ?_; rintro e w1 ⟨rfl, rfl⟩; exact ⟨rfl, _, rfl⟩))
        go_upto_region 8 with fail
        generalize hW : (w.drewN _).setCell ⟨p, 1, none⟩ (.int .i64 ((j : Int) + d + 1)) = W1
        have M1 : Hid (WentR p a n c xs top w (some (j + d + 1)) W1) := by rw [← hW]; exact hfin.out _
        clear hW hfin HC hdr c0 c1 c3 f1 f3
        obtain ⟨k1, hk1, q0, q1, q2, q3⟩ := M1.out.1.cells
        clear hk1 q0 q1 q3
        go_wp2_with (go_at_call 46; refine (HNum.out W1).mono ?_; rintro e w2 ⟨v, rfl, ho, hb⟩; have M2 := hide (M1.out.below hb); have HO := hide (own_le ho M1.out.2.size); clear ho hb)
        go_ret
        exact ⟨_, rfl, HO.out, M2.out⟩
      · rw [if_neg hE, if_neg (show ¬ (none : Option Nat).isSome = true by decide)]
        generalize nsE S least most top = E at *
        generalize nsL S least most top = L at *
        have hE1 : (E == 0) = false := by rw [beq_eq_false_iff_ne]; exact hE
        have hE2 : (E != 0) = true := by rw [bne, hE1]; rfl
        clear h hk hd e1 hE c2
        go_enter Tryz.func41, Tryz.ntmps41
        go_wp2
        go_quiet ((go_at_call 81; refine (HC.out _ (hdr.out _)).mono ?_; rintro e w1 ⟨rfl, rfl⟩; exact ⟨rfl, _, rfl⟩))
        go_upto_region 8 with fail
        generalize hW : (w.drewN _).setCell ⟨p, 1, none⟩ (.int .i64 ((j : Int) + d + 1)) = W1
        have M1 : Hid (WentR p a n c xs top w (some (j + d + 1)) W1) := by rw [← hW]; exact hfin.out _
        clear hW hfin HC hdr c0 c1 c3 f1 f3
        obtain ⟨k1, hk1, q0, q1, q2, q3⟩ := M1.out.1.cells
        clear hk1 q0 q1 q3
        go_wp2_with (go_at_call 46; refine (HNum.out W1).mono ?_; rintro e w2 ⟨v, rfl, ho, hb⟩; have M2 := hide (M1.out.below hb); obtain ⟨k2, hk2, r0, r1, r2, r3⟩ := M2.out.1.cells; have g3 := M2.out.1.free 3; clear ho hb hk2 r0 r1 r2)
        go_ret
        exact ⟨_, rfl, OwnI.nil _ _, M2.out.1.fail.1, M2.out.2.trans M2.out.1.fail.2⟩
    · have HC := hide (fun W (hW : RdR p a n c xs top (some j) W) => refLine_miss a n c j xs W hW.text hW.len (by omega) hj hm)
      have hlS : lineS xs (some j) = (⟨#[]⟩, none) := lineS_no (lineO_miss hm)
      have hrs : (rowS xs top least most (some j)).2 = none := by
        unfold rowS
        rw [hlS]
        split <;> rfl
      have hrl : rowL xs top least most (some j) = [] := by rw [rowL, hrs]; rfl
      rw [hrl, hrs]
      have hdr := hide (fun q => (WentR.drewN H0.out q).1)
      have hfin : Hid (∀ q, WentR p a n c xs top w none ((w.drewN q).setCell ⟨p, 3, none⟩ (.int .i64 2))) := fun q => by
        have m := ((WentR.drewN H0.out q).1).fail
        exact ⟨m.1, (Two.drewN _ _ _ _).trans m.2⟩
      clear h hk hm hrs hrl hlS c2
      go_enter Tryz.func41, Tryz.ntmps41
      go_wp2
      go_quiet ((go_at_call 81; refine (HC.out _ (hdr.out _)).mono ?_; rintro e w1 ⟨rfl, rfl⟩; exact ⟨rfl, _, rfl⟩))
      go_wp2
      go_ret
      exact ⟨_, rfl, OwnI.nil _ _, hfin.out _⟩

/-- WHAT ones TELLS. -/
def OnesR (p : Nat) (a : Option Addr) (n c : Nat) (xs : List Int) (top : Int) (st : Option Nat) (count : Nat) (w : World) (e : Ending) (w' : World) : Prop :=
  ∃ (v : Value) (L : List Int), e = .returned v ∧ OwnI w.heap.size w' v L ∧ L.length ≤ count ∧ OkL (itemsS (fun i => litS xs top (2 * (0 + (i : Int)))) st count).2 L (itemsS (fun i => litS xs top (2 * (0 + (i : Int)))) st count).1 ∧ WentR p a n c xs top w (itemsS (fun i => litS xs top (2 * (0 + (i : Int)))) st count).2 w'
/-- One literal more, or the end of it. -/
theorem lit_round (xs : List Int) (top lit : Int) (j : Nat) : (litS xs top lit (some j)).2 = (rowS xs top 1 1 (some j)).2 ∧ ((rowS xs top 1 1 (some j)).2.isSome = true → (rowL xs top 1 1 (some j)).length = 1 ∧ (rowL xs top 1 1 (some j)).getD 0 0 = (litS xs top lit (some j)).1) := by
  refine ⟨rfl, fun h => ?_⟩
  obtain ⟨-, h1, h2, h3⟩ := rowS_ok h
  have hl : (rowL xs top 1 1 (some j)).length = 1 := by omega
  refine ⟨hl, ?_⟩
  unfold litS
  rw [h1, hl, Nat.sub_self, List.replicate_zero, List.append_nil]

set_option maxRecDepth 100000 in
set_option maxHeartbeats 1000000 in
theorem refOnes_any (p : Nat) (a : Option Addr) (n c : Nat) (xs : List Int) (top : Int) (st : Option Nat) (w : World) (h : RdR p a n c xs top st w) (ht0 : 0 ≤ top) (ht : top ≤ 9223372036854775807) (count : Nat) (h2 : count ≤ 10000) :
    Calls Tryz.prog 40 #[.pointer (some ⟨p, 0, none⟩), .int .i64 (count : Int)] w (OnesR p a n c xs top st count w) := by
  obtain ⟨i0, hi, hz0, hz1, hz2⟩ := info_parts infoInt
  have H0 := hide h
  have hstk : Hid (∀ k, (itemsS (fun i => litS xs top (2 * (0 + (i : Int)))) st k).2 = none → ∀ m, k ≤ m → (itemsS (fun i => litS xs top (2 * (0 + (i : Int)))) st m).2 = none) := fun k hk m hm => itemsS_stuck (fun n => litS_none xs top _) hk m hm
  have hrd : Hid (∀ k j, (itemsS (fun i => litS xs top (2 * (0 + (i : Int)))) st k).2 = some j → (itemsS (fun i => litS xs top (2 * (0 + (i : Int)))) st (k + 1)).2 = (rowS xs top 1 1 (some j)).2 ∧ ((rowS xs top 1 1 (some j)).2.isSome = true → (rowL xs top 1 1 (some j)).length = 1 ∧ (itemsS (fun i => litS xs top (2 * (0 + (i : Int)))) st (k + 1)).1 = (itemsS (fun i => litS xs top (2 * (0 + (i : Int)))) st k).1 ++ [(rowL xs top 1 1 (some j)).getD 0 0])) := fun k j hk => by
    obtain ⟨q1, q2⟩ := lit_round xs top (2 * (0 + (k : Int))) j
    refine ⟨by rw [itemsS, hk]; exact q1, fun hs => ⟨(q2 hs).1, by rw [itemsS, hk, (q2 hs).2]⟩⟩
  have h00 : Hid (itemsS (fun i => litS xs top (2 * (0 + (i : Int)))) st 0 = ([], st)) := rfl
  unfold OnesR
  generalize itemsS (fun i => litS xs top (2 * (0 + (i : Int)))) st = IS at *
  generalize hP : (fun (e : Ending) (w' : World) => ∃ (v : Value) (L : List Int), e = .returned v ∧ OwnI w.heap.size w' v L ∧ L.length ≤ count ∧ OkL (IS count).2 L (IS count).1 ∧ WentR p a n c xs top w (IS count).2 w') = Post
  have HP := hide hP
  have HRow := hide (fun j W (hW : RdR p a n c xs top (some j) W) => refRow_any p a n c xs top (some j) 1 1 W hW (by omega) (by omega) ht0 ht)
  clear h hP
  go_enter Tryz.func40, Tryz.ntmps40
  go_wp2
  go_loopw [5, 6, 7] (fun o i _ wr => ∃ (k : Nat) (L : List Int), i = .int .i64 k ∧ k ≤ count ∧ L.length ≤ k ∧ Hid (wr.ownsRow w.heap.size 3 1 o L.length (L.map (Value.int .i64))) ∧ Hid (WentR p a n c xs top w (IS k).2 wr) ∧ Hid (OkL (IS k).2 L (IS k).1)) (fun _ i _ _ => count - (intOf i).toNat)
  case atStart => exact ⟨0, [], rfl, Nat.zero_le _, Nat.le_refl _, World.ownsRow_nil _ _ _ _, by show WentR p a n c xs top w (IS 0).2 w; rw [h00.out]; exact WentR.refl H0.out, fun _ => by rw [h00.out]⟩
  case round =>
    obtain ⟨k, L, rfl, hk, hLk, HO, HG, HK⟩ := hrel
    obtain ⟨va, vc, hvf⟩ := own_is HO.out
    subst hvf
    obtain ⟨ka, hka, c0, c1, c2, c3⟩ := HG.out.1.cells
    clear hka c0 c1 c2
    by_cases hlt : k < count
    · cases hS : (IS k).2 with
      | none =>
        rw [hS] at c3
        rw [show errR none = 2 from rfl] at c3
        have hfin : Hid (Post (.returned (.slice va L.length vc)) wr) := by
          show Post _ _
          have e := hstk.out k hS count hk
          rw [← HP.out]
          refine ⟨_, L, rfl, HO.out, by omega, ?_, ?_⟩
          · rw [e]; intro x; cases x
          · rw [e, ← hS]; exact HG.out
        clear HO HG HK hstk hrd HRow hS
        go_wp2
        exact hfin.out
      | some j =>
        rw [hS] at c3
        rw [show errR (some j) = 0 from rfl] at c3
        obtain ⟨q1, q2⟩ := hrd.out k j hS
        have HQ1 := hide q1
        have HG' : Hid (WentR p a n c xs top w (some j) wr) := by rw [← hS]; exact HG.out
        have HK' : Hid (L = (IS k).1) := HK.out (by rw [hS]; rfl)
        have HR := hide (HRow.out j wr HG'.out.1)
        clear HG HK hS q1
        cases hT : (rowS xs top 1 1 (some j)).2 with
        | none =>
          rw [hT] at HR HQ1
          clear q2
          have hfin : Hid (∀ w1, WentR p a n c xs top wr none w1 → w1.ownsRow w.heap.size 3 1 (.slice va L.length vc) L.length (L.map (Value.int .i64)) ∧ WentR p a n c xs top w (IS (k + 1)).2 w1 ∧ OkL (IS (k + 1)).2 L (IS (k + 1)).1) := fun w1 g => ⟨own_two HO.out g.2 H0.out.lt H0.out.lt, by rw [HQ1.out]; exact HG'.out.then g, by rw [HQ1.out]; intro x; cases x⟩
          go_wp2_with (go_at_call 41; refine HR.out.mono ?_; rintro e w1 ⟨v, rfl, ho, hw⟩; obtain ⟨f1, f2, f3⟩ := hfin.out w1 hw; have F1 := hide f1; have F2 := hide f2; have F3 := hide f3; obtain ⟨kb, hkb, d0, d1, d2, d3⟩ := hw.1.cells; rw [show errR none = 2 from rfl] at d3; clear hkb d0 d1 d2 ho hw f1 f2 f3)
          go_roundw
          case rel => exact ⟨k + 1, L, by go_num, by omega, by omega, F1, F2, F3⟩
          case measure => simp [intOf]; omega
        | some j2 =>
          rw [hT] at HR HQ1 q2
          obtain ⟨q3, q4⟩ := q2 rfl
          have HL1 := hide q3
          obtain ⟨y, hy⟩ : ∃ y, y = (rowL xs top 1 1 (some j)).getD 0 0 := ⟨_, rfl⟩
          have HY := hide hy
          rw [← hy] at q4
          have HQ4 := hide q4
          generalize rowL xs top 1 1 (some j) = RL at *
          clear q2 q3 q4 hy hT
          obtain ⟨l, hl⟩ : ∃ l, l = L.length := ⟨_, rfl⟩
          have HLl := hide hl
          rw [← hl] at HO hLk ⊢
          clear hl
          have HS2 := hide (HG'.out.2.size)
          go_wp2_with (first | (go_at_call 41; refine HR.out.mono ?_; rintro e w1 ⟨v, rfl, ho, hw⟩; obtain ⟨g, cap, rfl, hc, hgb⟩ := ownI_at ho HL1.out (by omega); have e0 := hc 0 (by omega); rw [← HY.out] at e0; have F1 := hide (own_two HO.out hw.2 H0.out.lt H0.out.lt); have F2 := hide (HG'.out.then hw); have hsz := F2.out.2.size; obtain ⟨kb, hkb, d0, d1, d2, d3⟩ := hw.1.cells; rw [show errR (some j2) = 0 from rfl] at d3; clear hkb d0 d1 d2 ho hw hc hgb) | (at_builtin; refine wpList_append_rowC _ rfl (.tmp 27) (.tmp 31) 24 rfl w.heap.size 3 i0 (.int .i64 0) 1 8 Tryz.underlying24 hi hz0 hz1 hz2 rfl (by decide) (.slice va l vc) l (L.map (Value.int .i64)) rfl (F1.out.alloc _) (some ⟨w1.heap.size, 0, none⟩) 1 1 [.int .i64 y] rfl rfl (cells_one_at _ _) (fun e => by cases e) (fun u hu => by simp at hu; subst hu; rfl) (by unfold maxLen; omega) (by omega) (by simp; omega) ?_; intro v4 w4 hown4 hg4; have F4 := hide (F2.out.far H0.out (((Below.refl _ w1).grown (World.grownBy_alloc w1 _ none) hsz (fun k hk => by cases hk)).grown hg4 (by simp; omega) (fun k hk => (F1.out.lt k hk).1))); have F5 := hide hown4; clear hown4 hg4))
          go_roundw
          case rel =>
            refine ⟨k + 1, L ++ [y], by go_num, by omega, by rw [List.length_append, ← HLl.out]; simp; omega, ?_, by show WentR p a n c xs top w (IS (k + 1)).2 w4; rw [HQ1.out]; exact F4.out, fun _ => by rw [HQ4.out, ← HK'.out]⟩
            show w4.ownsRow _ _ _ _ _ _
            rw [List.length_append, ← HLl.out, List.map_append]
            exact F5.out
          case measure => simp [intOf]; omega
    · obtain rfl : k = count := by omega
      have hfin : Hid (Post (.returned (.slice va L.length vc)) wr) := by
        show Post _ _
        rw [← HP.out]
        exact ⟨_, L, rfl, HO.out, hLk, HK.out, HG.out⟩
      clear HO HG HK hstk hrd HRow c3
      go_wp2
      exact hfin.out
end Go.Proofs.YtikjbbebfjleaaaGreatDoor
