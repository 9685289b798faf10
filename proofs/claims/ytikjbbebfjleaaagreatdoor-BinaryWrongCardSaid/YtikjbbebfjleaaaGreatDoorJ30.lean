/-
  CIRCUITS IN BYTES, pure: the numbers by 7 bits a byte, the grammar.
  THE WALKS of binary: Delta, header, input, latch, and, Read.
-/
import Derived.Test.YtikjbbebfjleaaaGreatDoorRd3
import Derived.Test.YtikjbbebfjleaaaGreatDoorDeltaGet
namespace Go.Proofs.YtikjbbebfjleaaaGreatDoor
open Go.RowKit

set_option maxHeartbeats 400000 in
theorem get_none (a : Option Addr) (cap : Nat) (w : World) :
    Calls Tryz.prog 120 #[.slice a 0 cap, .int .i64 0] w fun e w' => e = .returned (.tuple #[.int .i64 0, .int .i64 0, .int .i64 4]) ∧ w' = w := by
  go_enter Tryz.func120, Tryz.ntmps120
  go_wp2
  go_loop [18, 7] (fun i n => i = .int .i64 0 ∧ n = .int .u64 0) (fun _ _ => 0)
  case atStart => exact ⟨rfl, rfl⟩
  case round =>
    obtain ⟨rfl, rfl⟩ := hrel
    go_wp2
    go_ret3
    exact ⟨rfl, rfl⟩


/-- Where a number's last byte is. -/
def dFind (xs : List Int) (k : Nat) : Option Nat := [0, 1, 2, 3, 4].find? (fun d => decide (k + d < xs.length) && decide (xs.getD (k + d) 0 < 128))
def deltaS (xs : List Int) : Option Nat → Int × Option Nat
  | none => (0, none)
  | some k => match dFind xs k with
    | none => (0, none)
    | some d => if 2147483647 < acc xs k (d + 1) then (0, none) else (acc xs k (d + 1), some (k + d + 1))

theorem dFind_ends {xs : List Int} {k d : Nat} (h : Ends xs k d) : dFind xs k = some d := by
  obtain ⟨h5, hl, hm, hb⟩ := h
  have no : ∀ i, i < d → (decide (k + i < xs.length) && decide (xs.getD (k + i) 0 < 128)) = false := fun i hi => by
    rw [decide_eq_false (p := xs.getD (k + i) 0 < 128) (by have := hm i hi; omega)]; simp
  have yes : (decide (k + d < xs.length) && decide (xs.getD (k + d) 0 < 128)) = true := by
    rw [decide_eq_true hl, decide_eq_true hb]; rfl
  unfold dFind
  rcases (by omega : d = 0 ∨ d = 1 ∨ d = 2 ∨ d = 3 ∨ d = 4) with rfl | rfl | rfl | rfl | rfl
  · simp only [List.find?_cons, yes]
  · simp only [List.find?_cons, no 0 (by omega), yes]
  · simp only [List.find?_cons, no 0 (by omega), no 1 (by omega), yes]
  · simp only [List.find?_cons, no 0 (by omega), no 1 (by omega), no 2 (by omega), yes]
  · simp only [List.find?_cons, no 0 (by omega), no 1 (by omega), no 2 (by omega), no 3 (by omega), yes]
theorem dFind_no {xs : List Int} {k : Nat} (h : ∀ i, i < 5 → xs.length ≤ k + i ∨ 128 ≤ xs.getD (k + i) 0) : dFind xs k = none := by
  unfold dFind
  rw [List.find?_eq_none]
  intro d hd
  have h5 : d < 5 := by simp at hd; omega
  rcases h d h5 with h | h
  · rw [decide_eq_false (p := k + d < xs.length) (by omega)]; simp
  · rw [decide_eq_false (p := xs.getD (k + d) 0 < 128) (by omega)]; simp
theorem dFind_short {xs : List Int} {k d : Nat} (h : Short xs k d) : dFind xs k = none :=
  dFind_no (fun i _ => by
    by_cases hi : i < d
    · exact .inr (h.2.2 i hi)
    · exact .inl (by have := h.2.1; omega))
theorem dFind_long {xs : List Int} {k : Nat} (h : Long xs k) : dFind xs k = none := dFind_no (fun i hi => .inr (h.2 i hi))
theorem dFind_lt {xs : List Int} {k d : Nat} (h : dFind xs k = some d) : k + d < xs.length := by
  have := List.find?_some h
  simp at this
  exact this.1
theorem deltaS_at (xs : List Int) (k : Nat) : deltaS xs (some k) = match dFind xs k with
    | none => (0, none)
    | some d => if 2147483647 < acc xs k (d + 1) then (0, none) else (acc xs k (d + 1), some (k + d + 1)) := rfl
theorem deltaS_bd (xs : List Int) (st : Option Nat) : 0 ≤ (deltaS xs st).1 ∧ (deltaS xs st).1 ≤ 2147483647 := by
  have z : (0 : Int) ≤ 0 ∧ (0 : Int) ≤ 2147483647 := ⟨by decide, by decide⟩
  cases st with
  | none => exact z
  | some k =>
    rw [deltaS_at]
    cases dFind xs k with
    | none => exact z
    | some d =>
      by_cases hb : 2147483647 < acc xs k (d + 1)
      · simp only [if_pos hb]; exact z
      · simp only [if_neg hb]; exact ⟨(acc_bd xs k (d + 1)).1, by omega⟩

/-- The header of a circuit in bytes: all variables are Inputs, Latches or Ands. -/
def hdrEB (s : ByteArray) : Int := if hdrE s = 0 then (if (hdr9 s).getD 0 0 = (hdr9 s).getD 1 0 + (hdr9 s).getD 2 0 + (hdr9 s).getD 4 0 then 0 else 2) else hdrE s
def hdrLB (s : ByteArray) : List Int := if hdrEB s = 0 then hdr9 s else []
def inpB (_xs : List Int) (_top lit : Int) (st : Option Nat) : Int × Option Nat := (lit, st)
def latB (xs : List Int) (top lit : Int) (st : Option Nat) : Tri × Option Nat := ((lit, (rowS xs top 1 2 st).1.getD 0 0, (rowS xs top 1 2 st).1.getD 1 0), (rowS xs top 1 2 st).2)
def andB1 (xs : List Int) (lit : Int) (st : Option Nat) : Option Nat := if (decide (0 < (deltaS xs st).1) && decide ((deltaS xs st).1 ≤ lit)) = true then (deltaS xs st).2 else none
def andB (xs : List Int) (_top lit : Int) (st : Option Nat) : Tri × Option Nat :=
  ((lit, lit - (deltaS xs st).1, lit - (deltaS xs st).1 - (deltaS xs (andB1 xs lit st)).1), if decide ((deltaS xs (andB1 xs lit st)).1 ≤ lit - (deltaS xs st).1) = true then (deltaS xs (andB1 xs lit st)).2 else none)
def gramB : Gram := ⟨[97, 105, 103], hdrEB, hdrLB, inpB, latB, andB⟩

theorem hdrB_fit {s : ByteArray} (h : hdrEB s = 0) : HFit (hdrLB s) := by
  have h0 : hdrE s = 0 := by
    unfold hdrEB at h
    split at h
    · assumption
    · exact h
  have e : hdrLB s = hdrL s := by rw [hdrLB, if_pos h, hdrL, if_pos h0]
  rw [e]
  exact hdr_fit h0

/-- The document's example. -/
def exB : List Int := [97, 105, 103, 32, 49, 32, 49, 32, 48, 32, 48, 32, 48, 10]
theorem exB_read : gramB.readE exB = 0 ∧ (gramB.read exB).ins = [2] := by
  constructor <;> decide +kernel
end Go.Proofs.YtikjbbebfjleaaaGreatDoor

namespace Go.Proofs.YtikjbbebfjleaaaGreatDoor
open Go.RowKit

set_option maxRecDepth 100000 in
set_option maxHeartbeats 400000 in
theorem nextI_fail (p : Nat) (a : Option Addr) (n c : Nat) (xs : List Int) (top : Int) (j : Nat) (E : Int) (x y : Int) (hE : E ≠ 0) (w : World) (h : Rd p a n c xs top (some j) w) (HC : Hid (∀ W, Rd p a n c xs top (some j) W → Calls Tryz.prog 120 #[.slice a n c, .int .i64 (j : Int)] W fun e w' => e = .returned (.tuple #[.int .i64 x, .int .i64 y, .int .i64 E]) ∧ w' = W)) :
    Calls Tryz.prog 119 #[.pointer (some ⟨p, 0, none⟩), .func (.func 120) #[] #[]] w fun e w' => e = .returned (.int .i64 0) ∧ Went p a n c xs top w none w' := by
  obtain ⟨k, hk, c0, c1, c2, c3⟩ := h.cells
  obtain rfl := hk j rfl
  rw [show (some j).isNone = false from rfl] at c3
  have f3 := h.free 3
  have e1 : (E == 0) = false := by rw [beq_eq_false_iff_ne]; exact hE
  have e2 : (E != 0) = true := by rw [bne, e1]; rfl
  have hdr := hide (fun q => h.below (w' := w.drewN q) (Drew.below ⟨q, rfl⟩))
  have hfin := hide (fun q => (h.below (w' := w.drewN q) (Drew.below ⟨q, rfl⟩)).fail)
  clear h hk hE
  go_enter Tryz.func119, Tryz.ntmps119
  go_wp2
  go_quiet ((go_at_call 120; refine (HC.out _ (hdr.out _)).mono ?_; rintro e w1 ⟨rfl, rfl⟩; exact ⟨rfl, _, rfl⟩))
  go_wp2
  go_ret
  exact ⟨rfl, (hfin.out _).1, (Two.drewN _ _ _ _).trans (hfin.out _).2⟩

set_option maxRecDepth 100000 in
set_option maxHeartbeats 400000 in
theorem nextI_any (p : Nat) (a : Option Addr) (n c : Nat) (xs : List Int) (top : Int) (st : Option Nat) (w : World) (h : Rd p a n c xs top st w) :
    Calls Tryz.prog 119 #[.pointer (some ⟨p, 0, none⟩), .func (.func 120) #[] #[]] w fun e w' => e = .returned (.int .i64 (deltaS xs st).1) ∧ Went p a n c xs top w (deltaS xs st).2 w' := by
  cases st with
  | none =>
    obtain ⟨k, hk, c0, c1, c2, c3⟩ := h.cells
    have hfin := hide h
    rw [show (none : Option Nat).isNone = true from rfl] at c3
    clear h hk c0 c1 c2
    go_enter Tryz.func119, Tryz.ntmps119
    go_wp2
    go_ret
    exact ⟨rfl, Went.refl hfin.out⟩
  | some j =>
    have hj : j ≤ n := by rw [← h.len]; exact h.inb j rfl
    have hsm := h.small
    have hln := h.len
    by_cases hn0 : n = 0
    · subst hn0
      obtain rfl : j = 0 := by omega
      have e : deltaS xs (some 0) = (0, none) := by
        show (match dFind xs 0 with | none => ((0 : Int), (none : Option Nat)) | some d => if 2147483647 < acc xs 0 (d + 1) then (0, none) else (acc xs 0 (d + 1), some (0 + d + 1))) = _
        rw [dFind_no (fun i _ => .inl (by omega))]
      rw [e]
      exact nextI_fail p a 0 c xs top 0 4 0 0 (by decide) w h (fun W hW => get_none a c W)
    rcases three xs j (by omega) with ⟨d, hd⟩ | ⟨d, hd⟩ | hd
    · have e : deltaS xs (some j) = if 2147483647 < acc xs j (d + 1) then (0, none) else (acc xs j (d + 1), some (j + d + 1)) := by
        show (match dFind xs j with | none => ((0 : Int), (none : Option Nat)) | some d => if 2147483647 < acc xs j (d + 1) then (0, none) else (acc xs j (d + 1), some (j + d + 1))) = _
        rw [dFind_ends hd]
      rw [e]
      have HC := hide (fun W (hW : Rd p a n c xs top (some j) W) => get_ends a n c j d xs W hW.text hW.bytes hW.len (by omega) hd)
      unfold numN atN errN at HC
      by_cases hbig : 2147483647 < acc xs j (d + 1)
      · rw [if_pos hbig]
        rw [if_pos hbig, if_pos hbig, if_pos hbig] at HC
        exact nextI_fail p a n c xs top j 3 0 0 (by decide) w h HC
      · rw [if_neg hbig]
        rw [if_neg hbig, if_neg hbig, if_neg hbig] at HC
        have hjd : j + d + 1 ≤ n := by have := hd.2.1; omega
        obtain ⟨k, hk, c0, c1, c2, c3⟩ := h.cells
        obtain rfl := hk j rfl
        rw [show (some j).isNone = false from rfl] at c3
        have f1 := h.free 1
        have hdr := hide (fun q => h.below (w' := w.drewN q) (Drew.below ⟨q, rfl⟩))
        have hfin := hide (fun q => (h.below (w' := w.drewN q) (Drew.below ⟨q, rfl⟩)).move rfl (j + d + 1) hjd)
        have e1 : ((j + d + 1 : Nat) : Int) = (j : Int) + d + 1 := by omega
        rw [e1] at hfin
        generalize acc xs j (d + 1) = V at HC ⊢
        clear h hk hd e1 hbig e
        go_enter Tryz.func119, Tryz.ntmps119
        go_wp2
        go_quiet ((go_at_call 120; refine (HC.out _ (hdr.out _)).mono ?_; rintro e w1 ⟨rfl, rfl⟩; exact ⟨rfl, _, rfl⟩))
        go_wp2
        go_ret
        exact ⟨rfl, (hfin.out _).1, (Two.drewN _ _ _ _).trans (hfin.out _).2⟩
    · have e : deltaS xs (some j) = (0, none) := by
        show (match dFind xs j with | none => ((0 : Int), (none : Option Nat)) | some d => if 2147483647 < acc xs j (d + 1) then (0, none) else (acc xs j (d + 1), some (j + d + 1))) = _
        rw [dFind_short hd]
      rw [e]
      exact nextI_fail p a n c xs top j 4 0 0 (by decide) w h (fun W hW => get_short a n c j d xs W hW.text hW.bytes hW.len (by omega) (by omega) hd)
    · have e : deltaS xs (some j) = (0, none) := by
        show (match dFind xs j with | none => ((0 : Int), (none : Option Nat)) | some d => if 2147483647 < acc xs j (d + 1) then (0, none) else (acc xs j (d + 1), some (j + d + 1))) = _
        rw [dFind_long hd]
      rw [e]
      exact nextI_fail p a n c xs top j 3 0 0 (by decide) w h (fun W hW => get_long a n c j xs W hW.text hW.bytes hW.len (by omega) hd)

set_option maxHeartbeats 400000 in
theorem delta_any (p : Nat) (a : Option Addr) (n c : Nat) (xs : List Int) (top : Int) (st : Option Nat) (w : World) (h : Rd p a n c xs top st w) :
    Calls Tryz.prog 87 #[.pointer (some ⟨p, 0, none⟩)] w fun e w' => e = .returned (.int .i64 (deltaS xs st).1) ∧ Went p a n c xs top w (deltaS xs st).2 w' := by
  have HC := hide (nextI_any p a n c xs top st w h)
  generalize (deltaS xs st).1 = S at HC ⊢
  clear h
  go_enter Tryz.func87, Tryz.ntmps87
  go_wp2_with (go_at_call 119; refine HC.out.mono ?_; rintro e w1 ⟨rfl, hw⟩)
  go_ret
  exact ⟨rfl, hw⟩

theorem inputB_reads : Reads 52 (Value.int .i64) inpB :=
  ⟨fun args w => by kernel_rfl, fun p a n c xs top st w lit h ht _ _ => by
    have hfin := hide h
    clear h
    go_enter Tryz.func52, Tryz.ntmps52
    go_wp2
    go_ret
    exact ⟨rfl, Went.refl hfin.out⟩⟩

theorem two_kept {w : World} {b g : Nat} {v0 v1 v2 y0 y1 : Value} (hne : b ≠ g) (h0 : w.cell? ⟨g, 0, none⟩ = some y0) (h1 : w.cell? ⟨g, 1, none⟩ = some y1) :
    (((w.setCell ⟨b, 0, none⟩ v0).setCell ⟨b, 1, none⟩ v1).setCell ⟨b, 2, none⟩ v2).drew.cell? ⟨g, 0, none⟩ = some y0 ∧ (((w.setCell ⟨b, 0, none⟩ v0).setCell ⟨b, 1, none⟩ v1).setCell ⟨b, 2, none⟩ v2).drew.cell? ⟨g, 1, none⟩ = some y1 := by
  have e : ∀ i j, (⟨b, i, none⟩ : Addr) ≠ ⟨g, j, none⟩ := fun i j h => hne (congrArg Addr.block h)
  have k : ∀ j, (((w.setCell ⟨b, 0, none⟩ v0).setCell ⟨b, 1, none⟩ v1).setCell ⟨b, 2, none⟩ v2).cell? ⟨g, j, none⟩ = w.cell? ⟨g, j, none⟩ := fun j => (cell_set_other (e 2 j)).trans ((cell_set_other (e 1 j)).trans (cell_set_other (e 0 j)))
  exact ⟨(k 0).trans h0, (k 1).trans h1⟩

set_option maxRecDepth 100000 in
set_option maxHeartbeats 1000000 in
theorem latchB_any (p : Nat) (a : Option Addr) (n c : Nat) (xs : List Int) (top : Int) (st : Option Nat) (w : World) (lit : Int) (h : Rd p a n c xs top st w) (ht : top ≤ 9223372036854775807) :
    Calls Tryz.prog 53 #[.pointer (some ⟨p, 0, none⟩), .int .i64 lit] w fun e w' => e = .returned (triV (latB xs top lit st).1) ∧ Went p a n c xs top w (latB xs top lit st).2 w' := by
  have H0 := hide h
  have HN := hide (fun o => numsM_any p a n c xs top st 1 2 (w.alloc o) (h.below (below_alloc w o)) (by omega) ht)
  unfold NumsM at HN
  have hl := rowS_len xs top 1 2 st
  unfold latB triV
  generalize (rowS xs top 1 2 st).1 = L at HN hl ⊢
  generalize (rowS xs top 1 2 st).2 = T at HN ⊢
  have HLn := hide hl
  have hpb : w.heap.size ≠ p := by have := h.lt; omega
  have hnew := hide (fun o => heap_alloc_new w o)
  dsimp only
  obtain ⟨x0, e0⟩ : ∃ x, x = L.getD 0 0 := ⟨_, rfl⟩
  obtain ⟨x1, e1⟩ : ∃ x, x = L.getD 1 0 := ⟨_, rfl⟩
  have HX := hide (And.intro e0 e1)
  rw [← e0, ← e1]
  clear h hl e0 e1
  go_enter Tryz.func53, Tryz.ntmps53
  go_wp2_with (go_at_call 76; refine (HN.out _).mono ?_; rintro e w1 ⟨v, rfl, ho, hw⟩; obtain ⟨g, cap, rfl, hc, hgb⟩ := ownI_at ho HLn.out (by omega); have hne : w.heap.size ≠ g := (by simp at hgb; omega); have c0 := hc 0 (by omega); have c1 := hc 1 (by omega); rw [← HX.out.1] at c0; rw [← HX.out.2] at c1; have hblk := hide ((hw.2.block w.heap.size (by simp) hpb hpb).trans (hnew.out _)); have W1 := hide hw; clear hw hc ho)
  obtain ⟨d0, d1, d2⟩ := three_cells hblk.out
  have f0 := frozen_of_row w1 w.heap.size 0 _ _ hblk.out
  have f1 := frozen_of_row w1 w.heap.size 1 _ _ hblk.out
  have f2 := frozen_of_row w1 w.heap.size 2 _ _ hblk.out
  have c0d : w1.drew.cell? ⟨g, 0, none⟩ = some (.int .i64 x0) := c0
  have c1d : w1.drew.cell? ⟨g, 1, none⟩ = some (.int .i64 x1) := c1
  go_region_held3 (fun w' => w'.cell? ⟨g, 0, none⟩ = some (.int .i64 x0) ∧ w'.cell? ⟨g, 1, none⟩ = some (.int .i64 x1)) (first | with_reducible exact ⟨c0d, c1d⟩ | with_reducible exact two_kept hne c0 c1) (fail)
  all_goals go_wp2
  have hb3 : Hid ((((w1.setCell ⟨w.heap.size, 0, none⟩ (.int .i64 lit)).setCell ⟨w.heap.size, 1, none⟩ (.int .i64 x0)).setCell ⟨w.heap.size, 2, none⟩ (.int .i64 x1)).drew.heap[w.heap.size]? = some (.cells #[.int .i64 lit, .int .i64 x0, .int .i64 x1] 73 (0, 0))) := three_block hblk.out
  have hbel : Hid (Below w.heap.size w1 (((w1.setCell ⟨w.heap.size, 0, none⟩ (.int .i64 lit)).setCell ⟨w.heap.size, 1, none⟩ (.int .i64 x0)).setCell ⟨w.heap.size, 2, none⟩ (.int .i64 x1)).drew) := below_drew (three_below w1 (Nat.le_refl _) _ _ _)
  clear d0 d1 d2 f0 f1 f2 c0 c1 c0d c1d
  generalize (((w1.setCell ⟨w.heap.size, 0, none⟩ (.int .i64 lit)).setCell ⟨w.heap.size, 1, none⟩ (.int .i64 x0)).setCell ⟨w.heap.size, 2, none⟩ (.int .i64 x1)).drew = Wf at *
  obtain ⟨r0, r1, r2⟩ := three_cells hb3.out
  refine bodyPost_ret (v := .agg #[.int .i64 lit, .int .i64 x0, .int .i64 x1]) (by simp [results, Tryz.results53, go_sem, *]) rfl ?_
  exact ⟨rfl, Went.far H0.out ⟨W1.out.1, (Two.of_below (below_alloc w _)).trans W1.out.2⟩ hbel.out⟩

theorem latchB_reads : Reads 53 triV latB :=
  ⟨fun args w => by kernel_rfl, fun p a n c xs top st w lit h ht _ _ => latchB_any p a n c xs top st w lit h ht⟩
end Go.Proofs.YtikjbbebfjleaaaGreatDoor
