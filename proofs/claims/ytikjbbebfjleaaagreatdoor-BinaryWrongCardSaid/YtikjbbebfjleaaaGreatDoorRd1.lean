/-
  THE READER IN MEMORY: its block, its bytes, its place.
  THE WALKS of package lines' Reader: next, line, Need, Numbers.
  THE WALKS of package lines' items.
  THE WALKS of Literal (lines), latch and and (ascii): one line each.
-/
import Derived.Test.YtikjbbebfjleaaaGreatDoorJ9
import Derived.Test.YtikjbbebfjleaaaGreatDoorJ10
import Derived.Deep.RegionWith
import Derived.Deep.RegionHeld3
import Derived.Shelf.Abstract
namespace Go.Proofs.YtikjbbebfjleaaaGreatDoor
open Go.RowKit

theorem two_cell {p g : Nat} {w w' : World} {x : Addr} {v : Value} (t : Two p g w w') (h : w.cell? x = some v) (h1 : x.block ≠ p) (h2 : x.block ≠ g) : w'.cell? x = some v :=
  (World.cell?_of_block (t.block _ (block_lt_of_cell h) h1 h2)).trans h
theorem add_block (x : Addr) (i : Nat) : (x.add i).block = x.block := by unfold Addr.add; split <;> rfl
theorem row8_two {p : Nat} {w w' : World} {a : Option Addr} {xs : List Int} (h : Row8 w a xs) (t : Two p p w w') (hx : ∀ x, a = some x → 0 < xs.length → x.block ≠ p) : Row8 w' a xs := by
  rcases h with h | ⟨x, rfl, h⟩
  · exact .inl h
  · refine .inr ⟨x, rfl, fun i hi => two_cell t (h i hi) ?_ ?_⟩ <;> (rw [add_block]; exact hx x rfl (by omega))

/-- A reader: block p holds its bytes (a slice a n c that lies elsewhere: the numbers xs), the greatest literal, and its place st (none: it has failed). -/
structure Rd (p : Nat) (a : Option Addr) (n c : Nat) (xs : List Int) (top : Int) (st : Option Nat) (w : World) : Prop where
  blk : ∃ k : Int, w.heap[p]? = some (.cells #[.slice a n c, .int .i64 k, .int .i64 top, .bool st.isNone] 111 (0, 0)) ∧ ∀ j, st = some j → k = (j : Int)
  inb : InB xs st
  text : Row8 w a xs
  len : xs.length = n
  zero : a = none → c = 0
  cap : n ≤ c
  capm : c ≤ 9223372036854775807
  apart : ∀ x, a = some x → 0 < xs.length → x.block ≠ p
  bytes : Bytes8 xs
  small : n ≤ 100000
  env : Env w
  envM : EnvM w
  gE : 2 ≠ p
  gM : 0 ≠ p

section
variable {p : Nat} {a : Option Addr} {n c : Nat} {xs : List Int} {top : Int} {st : Option Nat} {w w' : World}
theorem Rd.to {top' : Int} {st' : Option Nat} (h : Rd p a n c xs top st w) (t : Two p p w w') (hb : ∃ k : Int, w'.heap[p]? = some (.cells #[.slice a n c, .int .i64 k, .int .i64 top', .bool st'.isNone] 111 (0, 0)) ∧ ∀ j, st' = some j → k = (j : Int)) (hi : InB xs st') : Rd p a n c xs top' st' w' := by
  obtain ⟨ev, e1, e2⟩ := h.env
  obtain ⟨m, m1⟩ := h.envM
  exact ⟨hb, hi, row8_two h.text t h.apart, h.len, h.zero, h.cap, h.capm, h.apart, h.bytes, h.small, ⟨ev, two_cell t e1 h.gE h.gE, e2⟩, ⟨m, two_cell t m1 h.gM h.gM⟩, h.gE, h.gM⟩
theorem Rd.lt (h : Rd p a n c xs top st w) : p < w.heap.size := by
  obtain ⟨k, h1, _⟩ := h.blk
  exact (Array.getElem?_eq_some_iff.1 h1).1
theorem Rd.below (h : Rd p a n c xs top st w) (hb : Below w.heap.size w w') : Rd p a n c xs top st w' := by
  obtain ⟨k, h1, h2⟩ := h.blk
  exact h.to (Two.of_below hb) ⟨k, (hb.block p h.lt).trans h1, h2⟩ h.inb
theorem Rd.cells (h : Rd p a n c xs top st w) : ∃ k : Int, (∀ j, st = some j → k = (j : Int)) ∧ w.cell? ⟨p, 0, none⟩ = some (.slice a n c) ∧ w.cell? ⟨p, 1, none⟩ = some (.int .i64 k) ∧ w.cell? ⟨p, 2, none⟩ = some (.int .i64 top) ∧ w.cell? ⟨p, 3, none⟩ = some (.bool st.isNone) := by
  obtain ⟨k, h1, h2⟩ := h.blk
  have e : ∀ j, w.cell? ⟨p, j, none⟩ = (#[.slice a n c, .int .i64 k, .int .i64 top, .bool st.isNone] : Array Value)[j]? := fun j => cell_of_row w p j _ _ (0, 0) h1
  exact ⟨k, h2, by rw [e]; rfl, by rw [e]; rfl, by rw [e]; rfl, by rw [e]; rfl⟩
theorem Rd.free (h : Rd p a n c xs top st w) (j : Nat) : w.frozen? ⟨p, j, none⟩ = false := by
  obtain ⟨k, h1, _⟩ := h.blk
  exact frozen_of_row w p j _ _ h1
theorem Rd.move (h : Rd p a n c xs top st w) (hs : st.isNone = false) (j : Nat) (hj : j ≤ n) : Rd p a n c xs top (some j) (w.setCell ⟨p, 1, none⟩ (.int .i64 (j : Int))) ∧ Two p p w (w.setCell ⟨p, 1, none⟩ (.int .i64 (j : Int))) := by
  have t := (Two.refl p p w).setL 1 (.int .i64 (j : Int))
  refine ⟨?_, t⟩
  obtain ⟨k, h1, h2⟩ := h.blk
  rw [hs] at h1
  refine h.to t ⟨j, heap_setCell_same w p 1 _ _ _ h1, fun i hi => by cases hi; rfl⟩ (fun i hi => by cases hi; rw [h.len]; exact hj)
theorem Rd.fail (h : Rd p a n c xs top st w) : Rd p a n c xs top none (w.setCell ⟨p, 3, none⟩ (.bool true)) ∧ Two p p w (w.setCell ⟨p, 3, none⟩ (.bool true)) := by
  have t := (Two.refl p p w).setL 3 (.bool true)
  refine ⟨?_, t⟩
  obtain ⟨k, h1, h2⟩ := h.blk
  exact h.to t ⟨k, heap_setCell_same w p 3 _ _ _ h1, fun i hi => by cases hi⟩ (fun i hi => by cases hi)
/-- A store of what stands there already: the reader is what it was. -/
theorem Rd.still (h : Rd p a n c xs top st w) : Rd p a n c xs top st (w.setCell ⟨p, 3, none⟩ (.bool st.isNone)) ∧ Two p p w (w.setCell ⟨p, 3, none⟩ (.bool st.isNone)) := by
  have t := (Two.refl p p w).setL 3 (.bool st.isNone)
  refine ⟨?_, t⟩
  obtain ⟨k, h1, h2⟩ := h.blk
  exact h.to t ⟨k, heap_setCell_same w p 3 _ _ _ h1, h2⟩ h.inb
theorem Rd.topped (h : Rd p a n c xs top st w) (T : Int) : Rd p a n c xs T st (w.setCell ⟨p, 2, none⟩ (.int .i64 T)) ∧ Two p p w (w.setCell ⟨p, 2, none⟩ (.int .i64 T)) := by
  have t := (Two.refl p p w).setL 2 (.int .i64 T)
  refine ⟨?_, t⟩
  obtain ⟨k, h1, h2⟩ := h.blk
  exact h.to t ⟨k, heap_setCell_same w p 2 _ _ _ h1, h2⟩ h.inb
end

/-- What a reader's call leaves: the reader at its next place, all else as it was. -/
def Went (p : Nat) (a : Option Addr) (n c : Nat) (xs : List Int) (top : Int) (w : World) (st : Option Nat) (w' : World) : Prop := Rd p a n c xs top st w' ∧ Two p p w w'
end Go.Proofs.YtikjbbebfjleaaaGreatDoor

namespace Go.Proofs.YtikjbbebfjleaaaGreatDoor
open Go.RowKit

section
variable {p : Nat} {a : Option Addr} {n c : Nat} {xs : List Int} {top top0 : Int} {st st0 st1 : Option Nat} {w w1 w2 w3 w4 : World}
theorem Went.far (h : Rd p a n c xs top0 st0 w) (g : Went p a n c xs top w st w3) (hb : Below w.heap.size w3 w4) : Went p a n c xs top w st w4 := by
  have t : Two p p w w4 := ⟨hb.os.trans g.2.os, hb.tape.trans g.2.tape, hb.output.trans g.2.output, Nat.le_trans g.2.size hb.size, fun k hk h1 h2 => (hb.block k hk).trans (g.2.block k hk h1 h2)⟩
  obtain ⟨k, h1, h2⟩ := g.1.blk
  exact ⟨h.to t ⟨k, (hb.block p h.lt).trans h1, h2⟩ g.1.inb, t⟩
theorem Went.then (g : Went p a n c xs top w st w1) (k : Went p a n c xs top w1 st1 w2) : Went p a n c xs top w st1 w2 := ⟨k.1, g.2.trans k.2⟩
theorem Went.refl (h : Rd p a n c xs top st w) : Went p a n c xs top w st w := ⟨h, Two.refl _ _ _⟩
theorem Went.below (g : Went p a n c xs top w st w1) (hb : Below w1.heap.size w1 w2) : Went p a n c xs top w st w2 := ⟨g.1.below hb, g.2.trans (Two.of_below hb)⟩
end

set_option maxRecDepth 100000 in
set_option maxHeartbeats 400000 in
theorem nextS_any (p : Nat) (a : Option Addr) (n c : Nat) (xs : List Int) (top : Int) (st : Option Nat) (w : World) (h : Rd p a n c xs top st w) :
    Calls Tryz.prog 109 #[.pointer (some ⟨p, 0, none⟩), .func (.func 110) #[] #[]] w fun e w' => e = .returned (.string (lineS xs st).1) ∧ Went p a n c xs top w (lineS xs st).2 w' := by
  obtain ⟨k, hk, c0, c1, c2, c3⟩ := h.cells
  cases st with
  | none =>
    have hfin := hide h
    rw [show (none : Option Nat).isNone = true from rfl] at c3
    clear h hk c0 c1 c2
    go_enter Tryz.func109, Tryz.ntmps109
    go_wp2
    go_ret
    exact ⟨rfl, Went.refl hfin.out⟩
  | some j =>
    obtain rfl := hk j rfl
    rw [show (some j).isNone = false from rfl] at c3
    have hj : j ≤ n := by rw [← h.len]; exact h.inb j rfl
    have f1 := h.free 1
    have f3 := h.free 3
    have hsm := h.small
    rcases hit_or_miss xs j with ⟨d, hd⟩ | hm
    · have hjd : j + d + 1 ≤ n := by have := hd.1; rw [h.len] at this; omega
      have HC := hide (fun W (hW : Rd p a n c xs top (some j) W) => line_hit a n c j d xs W hW.text hW.bytes hW.zero hW.len hW.cap (by omega) hd)
      rw [lineS_yes (lineO_hit hd)]
      have hdr := hide (fun q => h.below (w' := w.drewN q) (Drew.below ⟨q, rfl⟩))
      have hfin := hide (fun q => (h.below (w' := w.drewN q) (Drew.below ⟨q, rfl⟩)).move rfl (j + d + 1) hjd)
      have e1 : ((j + d + 1 : Nat) : Int) = (j : Int) + d + 1 := by omega
      rw [e1] at hfin
      generalize strOfNums ((xs.drop j).take d) = S at HC ⊢
      clear h hk hd e1
      go_enter Tryz.func109, Tryz.ntmps109
      go_wp2
      go_quiet ((go_at_call 110; refine (HC.out _ (hdr.out _)).mono ?_; rintro e w1 ⟨rfl, rfl⟩; exact ⟨rfl, _, rfl⟩))
      go_wp2
      go_ret
      exact ⟨rfl, (hfin.out _).1, (Two.drewN _ _ _ _).trans (hfin.out _).2⟩
    · have HC := hide (fun W (hW : Rd p a n c xs top (some j) W) => line_miss a n c j xs W hW.text hW.bytes hW.zero hW.len hW.cap hW.capm hj hm)
      rw [lineS_no (lineO_miss hm)]
      have hdr := hide (fun q => h.below (w' := w.drewN q) (Drew.below ⟨q, rfl⟩))
      have hfin := hide (fun q => (h.below (w' := w.drewN q) (Drew.below ⟨q, rfl⟩)).fail)
      clear h hk hm
      go_enter Tryz.func109, Tryz.ntmps109
      go_wp2
      go_quiet ((go_at_call 110; refine (HC.out _ (hdr.out _)).mono ?_; rintro e w1 ⟨rfl, rfl⟩; exact ⟨rfl, _, rfl⟩))
      go_wp2
      go_ret
      exact ⟨rfl, (hfin.out _).1, (Two.drewN _ _ _ _).trans (hfin.out _).2⟩

set_option maxHeartbeats 400000 in
theorem lineM_any (p : Nat) (a : Option Addr) (n c : Nat) (xs : List Int) (top : Int) (st : Option Nat) (w : World) (h : Rd p a n c xs top st w) :
    Calls Tryz.prog 78 #[.pointer (some ⟨p, 0, none⟩)] w fun e w' => e = .returned (.string (lineS xs st).1) ∧ Went p a n c xs top w (lineS xs st).2 w' := by
  have HC := hide (nextS_any p a n c xs top st w h)
  generalize (lineS xs st).1 = S at HC ⊢
  clear h
  go_enter Tryz.func78, Tryz.ntmps78
  go_wp2_with (go_at_call 109; refine HC.out.mono ?_; rintro e w1 ⟨rfl, hw⟩)
  go_ret
  exact ⟨rfl, hw⟩

set_option maxHeartbeats 400000 in
theorem need_any (p : Nat) (a : Option Addr) (n c : Nat) (xs : List Int) (top : Int) (st : Option Nat) (b : Bool) (w : World) (h : Rd p a n c xs top st w) :
    Calls Tryz.prog 88 #[.pointer (some ⟨p, 0, none⟩), .bool b] w fun e w' => e = .returned (.tuple #[]) ∧ Went p a n c xs top w (if b = true then st else none) w' := by
  obtain ⟨k, hk, c0, c1, c2, c3⟩ := h.cells
  have f3 := h.free 3
  have hfail := hide h.fail
  have hstill := hide h.still
  cases st with
  | none =>
    rw [show (none : Option Nat).isNone = true from rfl] at c3
    clear h hk c0 c1 c2
    cases b
    all_goals
      go_enter Tryz.func88, Tryz.ntmps88
      go_wp2
      go_end0
      exact ⟨rfl, hfail.out⟩
  | some j =>
    rw [show (some j).isNone = false from rfl] at c3
    clear h hk c0 c1 c2
    cases b with
    | true =>
      go_enter Tryz.func88, Tryz.ntmps88
      go_wp2
      go_end0
      exact ⟨rfl, hstill.out⟩
    | false =>
      go_enter Tryz.func88, Tryz.ntmps88
      go_wp2
      go_end0
      exact ⟨rfl, hfail.out⟩

/-- WHAT Numbers TELLS. -/
def NumsM (p : Nat) (a : Option Addr) (n c : Nat) (xs : List Int) (top : Int) (st : Option Nat) (least most : Nat) (w : World) (e : Ending) (w' : World) : Prop :=
  ∃ v, e = .returned v ∧ OwnI w.heap.size w' v (rowS xs top least most st).1 ∧ Went p a n c xs top w (rowS xs top least most st).2 w'
theorem rowS_eq (xs : List Int) (top : Int) (least most : Nat) (st : Option Nat) :
    (rowS xs top least most st).1 = nsL (lineS xs st).1 least most top ++ List.replicate (most - (nsL (lineS xs st).1 least most top).length) 0 ∧
    (rowS xs top least most st).2 = if (nsE (lineS xs st).1 least most top == 0) = true then (lineS xs st).2 else none := by
  unfold rowS
  by_cases h : nsE (lineS xs st).1 least most top = 0
  · rw [if_pos h, h]
    exact ⟨rfl, rfl⟩
  · rw [if_neg h, if_neg (by simpa using h), nsL_bad h]
    exact ⟨by simp, rfl⟩
theorem nsL_le (s : ByteArray) (least most : Nat) (top : Int) : (nsL s least most top).length ≤ most := by
  by_cases h : nsE s least most top = 0
  · have := (nsL_len h).2; omega
  · rw [nsL_bad h]; exact Nat.zero_le _
theorem map_zeros (k : Nat) : (List.replicate k (0 : Int)).map (Value.int .i64) = List.replicate k (Value.int .i64 0) := by rw [List.map_replicate]

theorem own_is {w : World} {B n size : Nat} {e : TypeId} {v : Value} {xs : List Value} (h : w.ownsRow B e size v n xs) : ∃ a c, v = .slice a n c := by
  obtain ⟨a, c, rfl, -⟩ := rowC_own h
  exact ⟨a, c, rfl⟩
theorem ownI_zeros {B B' : Nat} {w : World} {v : Value} {L : List Int} {l m : Nat} (h : w.ownsRow B' 3 1 v (l + m) (L.map (Value.int .i64) ++ List.replicate m (.int .i64 0))) (hl : l = L.length) (hB : B ≤ B') : OwnI B w v (L ++ List.replicate m 0) := by
  unfold OwnI
  rw [List.map_append, map_zeros, List.length_append, List.length_replicate, ← hl]
  exact own_le h hB

set_option maxRecDepth 100000 in
set_option maxHeartbeats 1000000 in
theorem numsM_any (p : Nat) (a : Option Addr) (n c : Nat) (xs : List Int) (top : Int) (st : Option Nat) (least most : Nat) (w : World) (h : Rd p a n c xs top st w) (hm : most ≤ 9) (ht : top ≤ 9223372036854775807) :
    Calls Tryz.prog 76 #[.pointer (some ⟨p, 0, none⟩), .int .i64 (least : Int), .int .i64 (most : Int)] w (NumsM p a n c xs top st least most w) := by
  obtain ⟨i0, hi, hz0, hz1, hz2⟩ := info_parts infoInt
  have H0 := hide h
  obtain ⟨k, hk, c0, c1, c2, c3⟩ := h.cells
  have c2d : w.drew.cell? ⟨p, 2, none⟩ = some (.int .i64 top) := c2
  have HLine := hide (fun W (hW : Rd p a n c xs top st W) => lineM_any p a n c xs top st W hW)
  have HD : Hid (Rd p a n c xs top st w.drew) := h.below (Drew.below ⟨1, rfl⟩)
  have hsz : (lineS xs st).1.size ≤ 100000 := by have := lineS_size (xs := xs) (st := st); have := h.len; have := h.small; omega
  have HNums := hide (fun W (hW : Rd p a n c xs top (lineS xs st).2 W) => numbers_any (lineS xs st).1 least most top W hsz hW.envM hW.env ht)
  have HNeed := hide (fun W b (hW : Rd p a n c xs top (lineS xs st).2 W) => need_any p a n c xs top (lineS xs st).2 b W hW)
  have HFin : Hid (∀ v w', OwnI w.heap.size w' v (nsL (lineS xs st).1 least most top ++ List.replicate (most - (nsL (lineS xs st).1 least most top).length) 0) → Went p a n c xs top w (if (nsE (lineS xs st).1 least most top == 0) = true then (lineS xs st).2 else none) w' → NumsM p a n c xs top st least most w (.returned v) w') := fun v w' h1 h2 => by
    obtain ⟨e1, e2⟩ := rowS_eq xs top least most st
    exact ⟨v, rfl, by rw [e1]; exact h1, by rw [e2]; exact h2⟩
  have hle := nsL_le (lineS xs st).1 least most top
  unfold NumsPost at HNums
  generalize hP : NumsM p a n c xs top st least most w = Post at HFin ⊢
  generalize nsL (lineS xs st).1 least most top = L at *
  generalize nsE (lineS xs st).1 least most top = E at *
  generalize hS : (lineS xs st).1 = S at *
  generalize hT : (lineS xs st).2 = T at *
  obtain ⟨l, hl⟩ : ∃ l, l = L.length := ⟨_, rfl⟩
  have HLen := hide hl
  rw [← hl] at hle
  clear hP hS hT h hk c0 c1 c3 hsz hl
  go_enter Tryz.func76, Tryz.ntmps76
  go_wp2
  go_region_with (first | (go_at_call 78; refine (HLine.out _ (by first | exact H0.out | exact HD.out)).mono ?_; rintro e w1 ⟨rfl, hw1⟩; have W1 : Hid (Went p a n c xs top w T w1) := (by first | exact hw1 | exact ⟨hw1.1, (Two.drewN p p 1 w).trans hw1.2⟩); clear hw1; obtain ⟨k1, hk1, d0, d1, d2, d3⟩ := W1.out.1.cells; clear hk1 d0 d1 d3) | (go_at_call 44; refine (HNums.out _ (by first | exact W1.out.1 | exact W1.out.1.below (Drew.below ⟨1, rfl⟩))).mono ?_; rintro e w2 ⟨v, rfl, ho, hb⟩))
  all_goals
    have hs1 := W1.out.2.size
    have hlt1 := W1.out.1.lt
    have hsz2 := hb.size
    have W2 := hide (W1.out.below (Below.trans (Drew.below ⟨0, rfl⟩) hb))
    have ho' : w2.ownsRow w1.heap.size 3 1 v l (L.map (Value.int .i64)) := by rw [HLen.out]; exact ho
    obtain ⟨va, vc, rfl⟩ := own_is ho'
    have O2 := hide ho'
    clear ho ho' hb c2 c2d HD HLine HNums d2
    cases hE : (E == 0)
    all_goals
      rw [hE] at HFin
      go_wp2_with (first | (go_at_call 88; refine (HNeed.out _ _ W2.out.1).mono ?_; rintro e w3 ⟨rfl, hw3⟩; have W3 := hide hw3; have hsz3 := hw3.2.size; have O3 := hide (own_two O2.out hw3.2 hlt1 hlt1); clear hw3) | (at_builtin; refine wpList_append_zeros _ rfl (.tmp 25) (.tmp 29) 24 3 rfl w1.heap.size 3 i0 (.int .i64 0) .i64 .i64 Tryz.underlying24 Tryz.underlying3 hi hz0 hz1 hz2 (.int .i64 0) rfl rfl (.slice va l vc) l (L.map (Value.int .i64)) rfl O3.out (most - l) ((most : Int) - l) rfl (by omega) (by omega) (by omega) ?_; intro v4 w4 ho4 hg4))
      refine HFin.out _ _ ?_ ?_
      · rw [← HLen.out]
        exact ownI_zeros ho4 HLen.out hs1
      · exact (W2.out.then W3.out).far H0.out ((Below.refl _ w3).grown hg4 (by omega) (fun k hk => Nat.le_trans hs1 (O3.out.lt k hk).1))
end Go.Proofs.YtikjbbebfjleaaaGreatDoor

namespace Go.Proofs.YtikjbbebfjleaaaGreatDoor
open Go.RowKit

/-- A function (number f) that reads one thing: it answers and goes as F says. -/
structure Reads {α : Type} (f : Nat) (enc : α → Value) (F : List Int → Int → Int → Option Nat → α × Option Nat) : Prop where
  enter : ∀ args w, (callFunc f args).run Tryz.prog w = .ok (.enter f args) w
  call : ∀ p a n c xs top st w (lit : Int), Rd p a n c xs top st w → top ≤ 9223372036854775807 → 0 ≤ lit → lit ≤ 100000 → Calls Tryz.prog f #[.pointer (some ⟨p, 0, none⟩), .int .i64 lit] w fun e w' => e = .returned (enc (F xs top lit st).1) ∧ Went p a n c xs top w (F xs top lit st).2 w'

theorem own_went {p : Nat} {w w' : World} {B n size : Nat} {e : TypeId} {v : Value} {xs : List Value} (h : w.ownsRow B e size v n xs) (t : Two p p w w') (hp : p < B) : w'.ownsRow B e size v n xs := own_two h t hp hp

section
variable {p : Nat} {a : Option Addr} {n c : Nat} {xs : List Int} {top : Int} {st st' : Option Nat} {w wr w1 w4 : World}
/-- A row that grows while a reader goes on: the call's own, and the reader. -/
structure Grow (p : Nat) (a : Option Addr) (n c : Nat) (xs : List Int) (top : Int) (w : World) (e : TypeId) (size : Nat) (v : Value) (k : Nat) (cs : List Value) (st : Option Nat) (wr : World) : Prop where
  own : wr.ownsRow w.heap.size e size v k cs
  went : Went p a n c xs top w st wr
theorem Grow.step {st0 : Option Nat} {top0 : Int} {e : TypeId} {size k m : Nat} {v v1 : Value} {cs ds : List Value} {o : Obj} (h0 : Rd p a n c xs top0 st0 w) (h : Grow p a n c xs top w e size v k cs st wr) (g : Went p a n c xs top wr st' w1) (hg : (w1.alloc o).grownBy w4 v.ownBlock) (hown : w4.ownsRow w.heap.size e size v1 m ds) : Grow p a n c xs top w e size v1 m ds st' w4 := by
  have hs : w.heap.size ≤ w1.heap.size := Nat.le_trans h.went.2.size g.2.size
  have hb : Below w.heap.size w1 w4 := ((Below.refl _ w1).grown (World.grownBy_alloc w1 o none) hs (fun k hk => by cases hk)).grown hg (by simp; omega) (fun k hk => (h.own.lt k hk).1)
  exact ⟨hown, (h.went.then g).far h0 hb⟩
end

theorem cells_one_at {w : World} (x : Value) (t : TypeId) : RowC (w.alloc (.cells #[x] t)) (some ⟨w.heap.size, 0, none⟩) [x] := by
  refine .inr ⟨_, rfl, fun j u hj => ?_⟩
  rw [add_plain, Nat.zero_add, cell_of_row _ _ j #[x] t (0, 0) (heap_alloc_new w _)]
  simpa using hj
theorem cells_three_at {w : World} (x y z : Value) (t : TypeId) : RowC (w.alloc (.cells #[x, y, z] t)) (some ⟨w.heap.size, 0, none⟩) [x, y, z] :=
  .inr ⟨_, rfl, cell_three_at rfl x y z t⟩

def triV (t : Tri) : Value := .agg #[.int .i64 t.1, .int .i64 t.2.1, .int .i64 t.2.2]

set_option maxRecDepth 100000 in
set_option maxHeartbeats 1000000 in
theorem itemsI_any (f : Nat) (F : List Int → Int → Int → Option Nat → Int × Option Nat) (hf : Reads f (Value.int .i64) F) (p : Nat) (a : Option Addr) (n c : Nat) (xs : List Int) (top : Int) (st : Option Nat) (w : World) (h : Rd p a n c xs top st w) (ht : top ≤ 9223372036854775807) (first count : Nat) (h1 : first ≤ 20000) (h2 : count ≤ 10000) :
    Calls Tryz.prog 111 #[.pointer (some ⟨p, 0, none⟩), .int .i64 (first : Int), .int .i64 (count : Int), .func (.func f) #[] #[]] w fun e w' => ∃ v, e = .returned v ∧ Grow p a n c xs top w 3 1 v count ((itemsS (fun i => F xs top (2 * ((first : Int) + (i : Int)))) st count).1.map (Value.int .i64)) (itemsS (fun i => F xs top (2 * ((first : Int) + (i : Int)))) st count).2 w' := by
  obtain ⟨i0, hi, hz0, hz1, hz2⟩ := info_parts infoInt
  have H0 := hide h
  have hent := hf.enter
  have HF := hide hf
  obtain ⟨G, hG⟩ : ∃ G : Nat → Option Nat → Int × Option Nat, G = fun (i : Nat) => F xs top (2 * ((first : Int) + (i : Int))) := ⟨_, rfl⟩
  have HC : Hid (∀ (k : Nat) s W, k < count → Rd p a n c xs top s W → Calls Tryz.prog f #[.pointer (some ⟨p, 0, none⟩), .int .i64 (2 * ((first : Int) + (k : Int)))] W fun e w' => e = .returned (.int .i64 (G k s).1) ∧ Went p a n c xs top W (G k s).2 w') := fun k s W hk hW => by
    rw [hG]
    exact HF.out.call p a n c xs top s W _ hW ht (by omega) (by omega)
  rw [← hG]
  generalize hP : (fun (e : Ending) (w' : World) => ∃ v, e = .returned v ∧ Grow p a n c xs top w 3 1 v count ((itemsS G st count).1.map (Value.int .i64)) (itemsS G st count).2 w') = Post
  have HP := hide hP
  clear h hf HF hG hP
  go_enter Tryz.func111, Tryz.ntmps111
  go_wp2
  go_loopw [9, 10, 12] (fun o _ i wr => ∃ (k : Nat), i = .int .i64 k ∧ k ≤ count ∧ Hid (Grow p a n c xs top w 3 1 o k ((itemsS G st k).1.map (Value.int .i64)) (itemsS G st k).2 wr)) (fun _ _ i _ => count - (intOf i).toNat)
  case atStart => exact ⟨0, rfl, Nat.zero_le _, ⟨World.ownsRow_nil _ _ _ _, Went.refl H0.out⟩⟩
  case round =>
    obtain ⟨k, rfl, hk, HI⟩ := hrel
    by_cases hlt : k < count
    · have HK := hide (HC.out k _ wr hlt HI.out.went.1)
      have HS : Hid ((itemsS G st (k + 1)).1.map (Value.int .i64) = (itemsS G st k).1.map (Value.int .i64) ++ [.int .i64 (G k (itemsS G st k).2).1] ∧ (itemsS G st (k + 1)).2 = (G k (itemsS G st k).2).2) := ⟨by rw [itemsS, List.map_append]; rfl, rfl⟩
      obtain ⟨va, vc, hvf⟩ := own_is HI.out.own
      subst hvf
      generalize (itemsS G st k).1.map (Value.int .i64) = L at *
      generalize (G k (itemsS G st k).2).1 = y at *
      go_wp2_with (first | (go_at_fn f; refine HK.out.mono ?_; rintro e w3 ⟨rfl, hw3⟩; have HW := hide hw3; have HO := hide (own_went HI.out.own hw3.2 H0.out.lt); have hsz := Nat.le_trans HI.out.went.2.size hw3.2.size; clear hw3) | (at_builtin; refine wpList_append_rowC _ rfl (.tmp 15) (.tmp 23) 24 rfl w.heap.size 3 i0 (.int .i64 0) 1 8 Tryz.underlying24 hi hz0 hz1 hz2 rfl (by decide) (.slice va k vc) k L rfl (HO.out.alloc _) (some ⟨w3.heap.size, 0, none⟩) 1 1 [.int .i64 y] rfl rfl (cells_one_at _ _) (fun e => by cases e) (fun u hu => by simp at hu; subst hu; rfl) (by unfold maxLen; omega) (by omega) (by simp; omega) ?_; intro v4 w4 hown4 hg4; have HSt := hide (HI.out.step H0.out HW.out hg4 hown4); clear hown4 hg4))
      go_roundw
      case rel => exact ⟨k + 1, by go_num, by omega, by rw [HS.out.1, HS.out.2]; exact HSt.out⟩
      case measure => simp [intOf]; omega
    · obtain rfl : k = count := by omega
      have hfin : Hid (∀ v, Grow p a n c xs top w 3 1 v k ((itemsS G st k).1.map (Value.int .i64)) (itemsS G st k).2 wr → Post (.returned v) wr) := fun v hv => by
        rw [← HP.out]
        exact ⟨v, rfl, hv⟩
      go_wp2
      exact hfin.out _ HI.out
set_option maxRecDepth 100000 in
set_option maxHeartbeats 1000000 in
theorem itemsL_any (f : Nat) (F : List Int → Int → Int → Option Nat → Tri × Option Nat) (hf : Reads f triV F) (p : Nat) (a : Option Addr) (n c : Nat) (xs : List Int) (top : Int) (st : Option Nat) (w : World) (h : Rd p a n c xs top st w) (ht : top ≤ 9223372036854775807) (first count : Nat) (h1 : first ≤ 20000) (h2 : count ≤ 10000) :
    Calls Tryz.prog 112 #[.pointer (some ⟨p, 0, none⟩), .int .i64 (first : Int), .int .i64 (count : Int), .func (.func f) #[] #[]] w fun e w' => ∃ v, e = .returned v ∧ Grow p a n c xs top w 73 3 v count (cellsT (itemsS (fun i => F xs top (2 * ((first : Int) + (i : Int)))) st count).1) (itemsS (fun i => F xs top (2 * ((first : Int) + (i : Int)))) st count).2 w' := by
  obtain ⟨i0, hi, hz0, hz1, hz2⟩ := info_parts infoT2
  have H0 := hide h
  have hent := hf.enter
  have HF := hide hf
  obtain ⟨G, hG⟩ : ∃ G : Nat → Option Nat → Tri × Option Nat, G = fun (i : Nat) => F xs top (2 * ((first : Int) + (i : Int))) := ⟨_, rfl⟩
  have HC : Hid (∀ (k : Nat) s W, k < count → Rd p a n c xs top s W → Calls Tryz.prog f #[.pointer (some ⟨p, 0, none⟩), .int .i64 (2 * ((first : Int) + (k : Int)))] W fun e w' => e = .returned (triV (G k s).1) ∧ Went p a n c xs top W (G k s).2 w') := fun k s W hk hW => by
    rw [hG]
    exact HF.out.call p a n c xs top s W _ hW ht (by omega) (by omega)
  rw [← hG]
  generalize hP : (fun (e : Ending) (w' : World) => ∃ v, e = .returned v ∧ Grow p a n c xs top w 73 3 v count (cellsT (itemsS G st count).1) (itemsS G st count).2 w') = Post
  have HP := hide hP
  clear h hf HF hG hP
  go_enter Tryz.func112, Tryz.ntmps112
  go_wp2
  go_loopw [9, 10, 12] (fun o _ i wr => ∃ (k : Nat), i = .int .i64 k ∧ k ≤ count ∧ Hid (Grow p a n c xs top w 73 3 o k (cellsT (itemsS G st k).1) (itemsS G st k).2 wr)) (fun _ _ i _ => count - (intOf i).toNat)
  case atStart => exact ⟨0, rfl, Nat.zero_le _, ⟨World.ownsRow_nil _ _ _ _, Went.refl H0.out⟩⟩
  case round =>
    obtain ⟨k, rfl, hk, HI⟩ := hrel
    by_cases hlt : k < count
    · have HK := hide (HC.out k _ wr hlt HI.out.went.1)
      have HS : Hid (cellsT (itemsS G st (k + 1)).1 = cellsT (itemsS G st k).1 ++ [.int .i64 (G k (itemsS G st k).2).1.1, .int .i64 (G k (itemsS G st k).2).1.2.1, .int .i64 (G k (itemsS G st k).2).1.2.2] ∧ (itemsS G st (k + 1)).2 = (G k (itemsS G st k).2).2) := ⟨by rw [itemsS, cellsT_append]; rfl, rfl⟩
      obtain ⟨va, vc, hvf⟩ := own_is HI.out.own
      subst hvf
      generalize cellsT (itemsS G st k).1 = L at *
      unfold triV at HK
      generalize (G k (itemsS G st k).2).1 = y at *
      obtain ⟨y0, y1, y2⟩ := y
      go_wp2_with (first | (go_at_fn f; refine HK.out.mono ?_; rintro e w3 ⟨rfl, hw3⟩; have HW := hide hw3; have HO := hide (own_went HI.out.own hw3.2 H0.out.lt); have hsz := Nat.le_trans HI.out.went.2.size hw3.2.size; clear hw3) | (at_builtin; refine wpList_append_rowC _ rfl (.tmp 15) (.tmp 23) 25 rfl w.heap.size 73 i0 (.agg #[.int .i64 0, .int .i64 0, .int .i64 0]) 3 24 Tryz.underlying25 hi hz0 hz1 hz2 rfl (by decide) (.slice va k vc) k L rfl (HO.out.alloc _) (some ⟨w3.heap.size, 0, none⟩) 1 1 [.int .i64 y0, .int .i64 y1, .int .i64 y2] rfl rfl (cells_three_at _ _ _ _) (fun e => by cases e) (fun u hu => by simp at hu; rcases hu with rfl | rfl | rfl <;> rfl) (by unfold maxLen; omega) (by omega) (by simp; omega) ?_; intro v4 w4 hown4 hg4; have HSt := hide (HI.out.step H0.out HW.out hg4 hown4); clear hown4 hg4))
      go_roundw
      case rel => exact ⟨k + 1, by go_num, by omega, by rw [HS.out.1, HS.out.2]; exact HSt.out⟩
      case measure => simp [intOf]; omega
    · obtain rfl : k = count := by omega
      have hfin : Hid (∀ v, Grow p a n c xs top w 73 3 v k (cellsT (itemsS G st k).1) (itemsS G st k).2 wr → Post (.returned v) wr) := fun v hv => by
        rw [← HP.out]
        exact ⟨v, rfl, hv⟩
      go_wp2
      exact hfin.out _ HI.out

set_option maxRecDepth 100000 in
set_option maxHeartbeats 1000000 in
theorem itemsA_any (f : Nat) (F : List Int → Int → Int → Option Nat → Tri × Option Nat) (hf : Reads f triV F) (p : Nat) (a : Option Addr) (n c : Nat) (xs : List Int) (top : Int) (st : Option Nat) (w : World) (h : Rd p a n c xs top st w) (ht : top ≤ 9223372036854775807) (first count : Nat) (h1 : first ≤ 20000) (h2 : count ≤ 10000) :
    Calls Tryz.prog 113 #[.pointer (some ⟨p, 0, none⟩), .int .i64 (first : Int), .int .i64 (count : Int), .func (.func f) #[] #[]] w fun e w' => ∃ v, e = .returned v ∧ Grow p a n c xs top w 53 3 v count (cellsT (itemsS (fun i => F xs top (2 * ((first : Int) + (i : Int)))) st count).1) (itemsS (fun i => F xs top (2 * ((first : Int) + (i : Int)))) st count).2 w' := by
  obtain ⟨i0, hi, hz0, hz1, hz2⟩ := info_parts infoT6
  have H0 := hide h
  have hent := hf.enter
  have HF := hide hf
  obtain ⟨G, hG⟩ : ∃ G : Nat → Option Nat → Tri × Option Nat, G = fun (i : Nat) => F xs top (2 * ((first : Int) + (i : Int))) := ⟨_, rfl⟩
  have HC : Hid (∀ (k : Nat) s W, k < count → Rd p a n c xs top s W → Calls Tryz.prog f #[.pointer (some ⟨p, 0, none⟩), .int .i64 (2 * ((first : Int) + (k : Int)))] W fun e w' => e = .returned (triV (G k s).1) ∧ Went p a n c xs top W (G k s).2 w') := fun k s W hk hW => by
    rw [hG]
    exact HF.out.call p a n c xs top s W _ hW ht (by omega) (by omega)
  rw [← hG]
  generalize hP : (fun (e : Ending) (w' : World) => ∃ v, e = .returned v ∧ Grow p a n c xs top w 53 3 v count (cellsT (itemsS G st count).1) (itemsS G st count).2 w') = Post
  have HP := hide hP
  clear h hf HF hG hP
  go_enter Tryz.func113, Tryz.ntmps113
  go_wp2
  go_loopw [9, 10, 12] (fun o _ i wr => ∃ (k : Nat), i = .int .i64 k ∧ k ≤ count ∧ Hid (Grow p a n c xs top w 53 3 o k (cellsT (itemsS G st k).1) (itemsS G st k).2 wr)) (fun _ _ i _ => count - (intOf i).toNat)
  case atStart => exact ⟨0, rfl, Nat.zero_le _, ⟨World.ownsRow_nil _ _ _ _, Went.refl H0.out⟩⟩
  case round =>
    obtain ⟨k, rfl, hk, HI⟩ := hrel
    by_cases hlt : k < count
    · have HK := hide (HC.out k _ wr hlt HI.out.went.1)
      have HS : Hid (cellsT (itemsS G st (k + 1)).1 = cellsT (itemsS G st k).1 ++ [.int .i64 (G k (itemsS G st k).2).1.1, .int .i64 (G k (itemsS G st k).2).1.2.1, .int .i64 (G k (itemsS G st k).2).1.2.2] ∧ (itemsS G st (k + 1)).2 = (G k (itemsS G st k).2).2) := ⟨by rw [itemsS, cellsT_append]; rfl, rfl⟩
      obtain ⟨va, vc, hvf⟩ := own_is HI.out.own
      subst hvf
      generalize cellsT (itemsS G st k).1 = L at *
      unfold triV at HK
      generalize (G k (itemsS G st k).2).1 = y at *
      obtain ⟨y0, y1, y2⟩ := y
      go_wp2_with (first | (go_at_fn f; refine HK.out.mono ?_; rintro e w3 ⟨rfl, hw3⟩; have HW := hide hw3; have HO := hide (own_went HI.out.own hw3.2 H0.out.lt); have hsz := Nat.le_trans HI.out.went.2.size hw3.2.size; clear hw3) | (at_builtin; refine wpList_append_rowC _ rfl (.tmp 15) (.tmp 23) 26 rfl w.heap.size 53 i0 (.agg #[.int .i64 0, .int .i64 0, .int .i64 0]) 3 24 Tryz.underlying26 hi hz0 hz1 hz2 rfl (by decide) (.slice va k vc) k L rfl (HO.out.alloc _) (some ⟨w3.heap.size, 0, none⟩) 1 1 [.int .i64 y0, .int .i64 y1, .int .i64 y2] rfl rfl (cells_three_at _ _ _ _) (fun e => by cases e) (fun u hu => by simp at hu; rcases hu with rfl | rfl | rfl <;> rfl) (by unfold maxLen; omega) (by omega) (by simp; omega) ?_; intro v4 w4 hown4 hg4; have HSt := hide (HI.out.step H0.out HW.out hg4 hown4); clear hown4 hg4))
      go_roundw
      case rel => exact ⟨k + 1, by go_num, by omega, by rw [HS.out.1, HS.out.2]; exact HSt.out⟩
      case measure => simp [intOf]; omega
    · obtain rfl : k = count := by omega
      have hfin : Hid (∀ v, Grow p a n c xs top w 53 3 v k (cellsT (itemsS G st k).1) (itemsS G st k).2 wr → Post (.returned v) wr) := fun v hv => by
        rw [← HP.out]
        exact ⟨v, rfl, hv⟩
      go_wp2
      exact hfin.out _ HI.out
end Go.Proofs.YtikjbbebfjleaaaGreatDoor

namespace Go.Proofs.YtikjbbebfjleaaaGreatDoor
open Go.RowKit

theorem ownI_at {B : Nat} {w : World} {v : Value} {L : List Int} {n : Nat} (h : OwnI B w v L) (hl : L.length = n) (hn : 0 < n) : ∃ g cap, v = .slice (some ⟨g, 0, none⟩) n cap ∧ (∀ i, i < n → w.cell? ⟨g, i, none⟩ = some (.int .i64 (L.getD i 0))) ∧ B ≤ g := by
  subst hl
  unfold OwnI at h
  obtain ⟨a, cap, rfl, hr, -⟩ := row_of_own h
  have hb := h.lt
  rcases h.2 with ⟨e, h0⟩ | ⟨g, cap, cur, e, hbg, hg, -⟩
  · omega
  · cases e
    obtain ⟨b, off, e, -, hc⟩ := hr.addr hn
    cases e
    exact ⟨g, cap, rfl, fun i hi => by have := hc i hi; rwa [Nat.zero_add] at this, hbg⟩

set_option maxRecDepth 100000 in
set_option maxHeartbeats 400000 in
theorem literal_any (p : Nat) (a : Option Addr) (n c : Nat) (xs : List Int) (top : Int) (st : Option Nat) (w : World) (lit : Int) (h : Rd p a n c xs top st w) (ht : top ≤ 9223372036854775807) :
    Calls Tryz.prog 35 #[.pointer (some ⟨p, 0, none⟩), .int .i64 lit] w fun e w' => e = .returned (.int .i64 (litS xs top lit st).1) ∧ Went p a n c xs top w (litS xs top lit st).2 w' := by
  have HN := hide (numsM_any p a n c xs top st 1 1 w h (by omega) ht)
  unfold NumsM at HN
  have hl := rowS_len xs top 1 1 st
  unfold litS
  generalize (rowS xs top 1 1 st).1 = L at HN hl ⊢
  generalize (rowS xs top 1 1 st).2 = T at HN ⊢
  have HLn := hide hl
  clear h hl
  go_enter Tryz.func35, Tryz.ntmps35
  go_wp2_with (go_at_call 76; refine HN.out.mono ?_; rintro e w1 ⟨v, rfl, ho, hw⟩; obtain ⟨g, cap, rfl, hc, -⟩ := ownI_at ho HLn.out (by omega); have c0 := hc 0 (by omega))
  go_ret
  exact ⟨rfl, hw⟩
theorem literal_reads : Reads 35 (Value.int .i64) litS :=
  ⟨fun args w => by kernel_rfl, fun p a n c xs top st w lit h ht _ _ => literal_any p a n c xs top st w lit h ht⟩

theorem three_block {w : World} {b : Nat} {u0 u1 u2 v0 v1 v2 : Value} {t : TypeId} (h : w.heap[b]? = some (.cells #[u0, u1, u2] t (0, 0))) :
    (((w.setCell ⟨b, 0, none⟩ v0).setCell ⟨b, 1, none⟩ v1).setCell ⟨b, 2, none⟩ v2).heap[b]? = some (.cells #[v0, v1, v2] t (0, 0)) :=
  heap_setCell_same _ b 2 _ _ v2 (heap_setCell_same _ b 1 _ _ v1 (heap_setCell_same w b 0 _ _ v0 h))
theorem below_drew {B : Nat} {w W : World} (h : Below B w W) : Below B w W.drew := ⟨h.os, h.tape, h.output, h.size, h.block⟩
theorem three_below {B : Nat} (w : World) {b : Nat} (hb : B ≤ b) (v0 v1 v2 : Value) : Below B w (((w.setCell ⟨b, 0, none⟩ v0).setCell ⟨b, 1, none⟩ v1).setCell ⟨b, 2, none⟩ v2) :=
  (((Below.refl B w).setCell (p := ⟨b, 0, none⟩) hb v0).setCell (p := ⟨b, 1, none⟩) hb v1).setCell (p := ⟨b, 2, none⟩) hb v2
theorem three_cells {w : World} {b : Nat} {u0 u1 u2 : Value} {t : TypeId} (h : w.heap[b]? = some (.cells #[u0, u1, u2] t (0, 0))) :
    w.cell? ⟨b, 0, none⟩ = some u0 ∧ w.cell? ⟨b, 1, none⟩ = some u1 ∧ w.cell? ⟨b, 2, none⟩ = some u2 := by
  have e : ∀ j, w.cell? ⟨b, j, none⟩ = (#[u0, u1, u2] : Array Value)[j]? := fun j => cell_of_row w b j _ _ (0, 0) h
  exact ⟨by rw [e]; rfl, by rw [e]; rfl, by rw [e]; rfl⟩

theorem three_kept {w : World} {b g : Nat} {v0 v1 v2 y0 y1 y2 : Value} (hne : b ≠ g) (h0 : w.cell? ⟨g, 0, none⟩ = some y0) (h1 : w.cell? ⟨g, 1, none⟩ = some y1) (h2 : w.cell? ⟨g, 2, none⟩ = some y2) :
    (((w.setCell ⟨b, 0, none⟩ v0).setCell ⟨b, 1, none⟩ v1).setCell ⟨b, 2, none⟩ v2).drew.cell? ⟨g, 0, none⟩ = some y0 ∧ (((w.setCell ⟨b, 0, none⟩ v0).setCell ⟨b, 1, none⟩ v1).setCell ⟨b, 2, none⟩ v2).drew.cell? ⟨g, 1, none⟩ = some y1 ∧ (((w.setCell ⟨b, 0, none⟩ v0).setCell ⟨b, 1, none⟩ v1).setCell ⟨b, 2, none⟩ v2).drew.cell? ⟨g, 2, none⟩ = some y2 := by
  have e : ∀ i j, (⟨b, i, none⟩ : Addr) ≠ ⟨g, j, none⟩ := fun i j h => hne (congrArg Addr.block h)
  have k : ∀ j, (((w.setCell ⟨b, 0, none⟩ v0).setCell ⟨b, 1, none⟩ v1).setCell ⟨b, 2, none⟩ v2).cell? ⟨g, j, none⟩ = w.cell? ⟨g, j, none⟩ := fun j => (cell_set_other (e 2 j)).trans ((cell_set_other (e 1 j)).trans (cell_set_other (e 0 j)))
  exact ⟨(k 0).trans h0, (k 1).trans h1, (k 2).trans h2⟩

set_option maxRecDepth 100000 in
set_option maxHeartbeats 1000000 in
theorem latchA_any (p : Nat) (a : Option Addr) (n c : Nat) (xs : List Int) (top : Int) (st : Option Nat) (w : World) (lit : Int) (h : Rd p a n c xs top st w) (ht : top ≤ 9223372036854775807) :
    Calls Tryz.prog 36 #[.pointer (some ⟨p, 0, none⟩), .int .i64 lit] w fun e w' => e = .returned (triV (latS xs top lit st).1) ∧ Went p a n c xs top w (latS xs top lit st).2 w' := by
  have H0 := hide h
  have HN := hide (fun o => numsM_any p a n c xs top st 2 3 (w.alloc o) (h.below (below_alloc w o)) (by omega) ht)
  unfold NumsM at HN
  have hl := rowS_len xs top 2 3 st
  unfold latS triV
  generalize (rowS xs top 2 3 st).1 = L at HN hl ⊢
  generalize (rowS xs top 2 3 st).2 = T at HN ⊢
  have HLn := hide hl
  have hpb : w.heap.size ≠ p := by have := h.lt; omega
  have hnew := hide (fun o => heap_alloc_new w o)
  dsimp only
  obtain ⟨x0, e0⟩ : ∃ x, x = L.getD 0 0 := ⟨_, rfl⟩
  obtain ⟨x1, e1⟩ : ∃ x, x = L.getD 1 0 := ⟨_, rfl⟩
  obtain ⟨x2, e2⟩ : ∃ x, x = L.getD 2 0 := ⟨_, rfl⟩
  have HX := hide (And.intro e0 (And.intro e1 e2))
  rw [← e0, ← e1, ← e2]
  clear h hl e0 e1 e2
  go_enter Tryz.func36, Tryz.ntmps36
  go_wp2_with (go_at_call 76; refine (HN.out _).mono ?_; rintro e w1 ⟨v, rfl, ho, hw⟩; obtain ⟨g, cap, rfl, hc, hgb⟩ := ownI_at ho HLn.out (by omega); have hne : w.heap.size ≠ g := (by simp at hgb; omega); have c0 := hc 0 (by omega); have c1 := hc 1 (by omega); have c2 := hc 2 (by omega); rw [← HX.out.1] at c0; rw [← HX.out.2.1] at c1; rw [← HX.out.2.2] at c2; have hblk := hide ((hw.2.block w.heap.size (by simp) hpb hpb).trans (hnew.out _)); have W1 := hide hw; clear hw hc ho)
  obtain ⟨d0, d1, d2⟩ := three_cells hblk.out
  have f0 := frozen_of_row w1 w.heap.size 0 _ _ hblk.out
  have f1 := frozen_of_row w1 w.heap.size 1 _ _ hblk.out
  have f2 := frozen_of_row w1 w.heap.size 2 _ _ hblk.out
  have c0d : w1.drew.cell? ⟨g, 0, none⟩ = some (.int .i64 x0) := c0
  have c1d : w1.drew.cell? ⟨g, 1, none⟩ = some (.int .i64 x1) := c1
  have c2d : w1.drew.cell? ⟨g, 2, none⟩ = some (.int .i64 x2) := c2
  go_region_held3 (fun w' => w'.cell? ⟨g, 0, none⟩ = some (.int .i64 x0) ∧ w'.cell? ⟨g, 1, none⟩ = some (.int .i64 x1) ∧ w'.cell? ⟨g, 2, none⟩ = some (.int .i64 x2)) (first | with_reducible exact ⟨c0d, c1d, c2d⟩ | with_reducible exact three_kept hne c0 c1 c2) (fail)
  all_goals go_wp2
  have hb3 : Hid ((((w1.setCell ⟨w.heap.size, 0, none⟩ (.int .i64 x0)).setCell ⟨w.heap.size, 1, none⟩ (.int .i64 x1)).setCell ⟨w.heap.size, 2, none⟩ (.int .i64 x2)).drew.heap[w.heap.size]? = some (.cells #[.int .i64 x0, .int .i64 x1, .int .i64 x2] 73 (0, 0))) := three_block hblk.out
  have hbel : Hid (Below w.heap.size w1 (((w1.setCell ⟨w.heap.size, 0, none⟩ (.int .i64 x0)).setCell ⟨w.heap.size, 1, none⟩ (.int .i64 x1)).setCell ⟨w.heap.size, 2, none⟩ (.int .i64 x2)).drew) := below_drew (three_below w1 (Nat.le_refl _) _ _ _)
  clear d0 d1 d2 f0 f1 f2 c0 c1 c2 c0d c1d c2d
  generalize (((w1.setCell ⟨w.heap.size, 0, none⟩ (.int .i64 x0)).setCell ⟨w.heap.size, 1, none⟩ (.int .i64 x1)).setCell ⟨w.heap.size, 2, none⟩ (.int .i64 x2)).drew = Wf at *
  obtain ⟨r0, r1, r2⟩ := three_cells hb3.out
  refine bodyPost_ret (v := .agg #[.int .i64 x0, .int .i64 x1, .int .i64 x2]) (by simp [results, Tryz.results36, go_sem, *]) rfl ?_
  exact ⟨rfl, Went.far H0.out ⟨W1.out.1, (Two.of_below (below_alloc w _)).trans W1.out.2⟩ hbel.out⟩

set_option maxRecDepth 100000 in
set_option maxHeartbeats 1000000 in
theorem andA_any (p : Nat) (a : Option Addr) (n c : Nat) (xs : List Int) (top : Int) (st : Option Nat) (w : World) (lit : Int) (h : Rd p a n c xs top st w) (ht : top ≤ 9223372036854775807) :
    Calls Tryz.prog 37 #[.pointer (some ⟨p, 0, none⟩), .int .i64 lit] w fun e w' => e = .returned (triV (andS xs top lit st).1) ∧ Went p a n c xs top w (andS xs top lit st).2 w' := by
  have H0 := hide h
  have HN := hide (fun o => numsM_any p a n c xs top st 3 3 (w.alloc o) (h.below (below_alloc w o)) (by omega) ht)
  unfold NumsM at HN
  have hl := rowS_len xs top 3 3 st
  unfold andS triV
  generalize (rowS xs top 3 3 st).1 = L at HN hl ⊢
  generalize (rowS xs top 3 3 st).2 = T at HN ⊢
  have HLn := hide hl
  have hpb : w.heap.size ≠ p := by have := h.lt; omega
  have hnew := hide (fun o => heap_alloc_new w o)
  dsimp only
  obtain ⟨x0, e0⟩ : ∃ x, x = L.getD 0 0 := ⟨_, rfl⟩
  obtain ⟨x1, e1⟩ : ∃ x, x = L.getD 1 0 := ⟨_, rfl⟩
  obtain ⟨x2, e2⟩ : ∃ x, x = L.getD 2 0 := ⟨_, rfl⟩
  have HX := hide (And.intro e0 (And.intro e1 e2))
  rw [← e0, ← e1, ← e2]
  clear h hl e0 e1 e2
  go_enter Tryz.func37, Tryz.ntmps37
  go_wp2_with (go_at_call 76; refine (HN.out _).mono ?_; rintro e w1 ⟨v, rfl, ho, hw⟩; obtain ⟨g, cap, rfl, hc, hgb⟩ := ownI_at ho HLn.out (by omega); have hne : w.heap.size ≠ g := (by simp at hgb; omega); have c0 := hc 0 (by omega); have c1 := hc 1 (by omega); have c2 := hc 2 (by omega); rw [← HX.out.1] at c0; rw [← HX.out.2.1] at c1; rw [← HX.out.2.2] at c2; have hblk := hide ((hw.2.block w.heap.size (by simp) hpb hpb).trans (hnew.out _)); have W1 := hide hw; clear hw hc ho)
  obtain ⟨d0, d1, d2⟩ := three_cells hblk.out
  have f0 := frozen_of_row w1 w.heap.size 0 _ _ hblk.out
  have f1 := frozen_of_row w1 w.heap.size 1 _ _ hblk.out
  have f2 := frozen_of_row w1 w.heap.size 2 _ _ hblk.out
  have c0d : w1.drew.cell? ⟨g, 0, none⟩ = some (.int .i64 x0) := c0
  have c1d : w1.drew.cell? ⟨g, 1, none⟩ = some (.int .i64 x1) := c1
  have c2d : w1.drew.cell? ⟨g, 2, none⟩ = some (.int .i64 x2) := c2
  go_region_held3 (fun w' => w'.cell? ⟨g, 0, none⟩ = some (.int .i64 x0) ∧ w'.cell? ⟨g, 1, none⟩ = some (.int .i64 x1) ∧ w'.cell? ⟨g, 2, none⟩ = some (.int .i64 x2)) (first | with_reducible exact ⟨c0d, c1d, c2d⟩ | with_reducible exact three_kept hne c0 c1 c2) (fail)
  all_goals go_wp2
  have hb3 : Hid ((((w1.setCell ⟨w.heap.size, 0, none⟩ (.int .i64 x0)).setCell ⟨w.heap.size, 1, none⟩ (.int .i64 x1)).setCell ⟨w.heap.size, 2, none⟩ (.int .i64 x2)).drew.heap[w.heap.size]? = some (.cells #[.int .i64 x0, .int .i64 x1, .int .i64 x2] 53 (0, 0))) := three_block hblk.out
  have hbel : Hid (Below w.heap.size w1 (((w1.setCell ⟨w.heap.size, 0, none⟩ (.int .i64 x0)).setCell ⟨w.heap.size, 1, none⟩ (.int .i64 x1)).setCell ⟨w.heap.size, 2, none⟩ (.int .i64 x2)).drew) := below_drew (three_below w1 (Nat.le_refl _) _ _ _)
  clear d0 d1 d2 f0 f1 f2 c0 c1 c2 c0d c1d c2d
  generalize (((w1.setCell ⟨w.heap.size, 0, none⟩ (.int .i64 x0)).setCell ⟨w.heap.size, 1, none⟩ (.int .i64 x1)).setCell ⟨w.heap.size, 2, none⟩ (.int .i64 x2)).drew = Wf at *
  obtain ⟨r0, r1, r2⟩ := three_cells hb3.out
  refine bodyPost_ret (v := .agg #[.int .i64 x0, .int .i64 x1, .int .i64 x2]) (by simp [results, Tryz.results37, go_sem, *]) rfl ?_
  exact ⟨rfl, Went.far H0.out ⟨W1.out.1, (Two.of_below (below_alloc w _)).trans W1.out.2⟩ hbel.out⟩

theorem latchA_reads : Reads 36 triV latS :=
  ⟨fun args w => by kernel_rfl, fun p a n c xs top st w lit h ht _ _ => latchA_any p a n c xs top st w lit h ht⟩
theorem andA_reads : Reads 37 triV andS :=
  ⟨fun args w => by kernel_rfl, fun p a n c xs top st w lit h ht _ _ => andA_any p a n c xs top st w lit h ht⟩
end Go.Proofs.YtikjbbebfjleaaaGreatDoor
