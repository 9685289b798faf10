/-
  THE REFERENCE's READER OF BYTES: small contracts, and what a number by 7 bits a byte tells.
-/
import Derived.Test.YtikjbbebfjleaaaGreatDoorRefRdA
import Derived.Test.YtikjbbebfjleaaaGreatDoorJ30
namespace Go.Proofs.YtikjbbebfjleaaaGreatDoor
open Go.RowKit

theorem inb_move {xs : List Int} {k : Nat} {x : Int} {j : Nat} (h : deltaS xs (some k) = (x, some j)) : j ≤ xs.length := by
  rw [deltaS_at] at h
  cases e : dFind xs k with
  | none => rw [e] at h; cases h
  | some d =>
    rw [e] at h
    dsimp only at h
    have := dFind_lt e
    split at h
    · cases h
    · cases h; omega
/-- GetDelta of the reference, at a place within. -/
theorem refGet_st (a : Option Addr) (n c k : Nat) (xs : List Int) (w : World) (hr : Row8 w a xs) (hb8 : Bytes8 xs) (hx : xs.length = n) (hn : n ≤ 100000) (h0 : 0 < n) (hk : k ≤ n) :
    Calls Tryz.prog 55 #[.slice a n c, .int .i64 (k : Int)] w fun e w' => ((∃ x j, deltaS xs (some k) = (x, some j) ∧ e = .returned (.tuple #[.int .i64 x, .int .i64 (j : Int), .int .i64 0])) ∨ ((deltaS xs (some k)).2 = none ∧ ∃ er, er ≠ 0 ∧ e = .returned (.tuple #[.int .i64 0, .int .i64 0, .int .i64 er]))) ∧ w' = w := by
  rcases three xs k (by omega) with ⟨d, hd⟩ | ⟨d, hd⟩ | hd
  · have e : deltaS xs (some k) = if 2147483647 < acc xs k (d + 1) then (0, none) else (acc xs k (d + 1), some (k + d + 1)) := by
      rw [deltaS_at, dFind_ends hd]
    refine (refGet_ends a n c k d xs w hr hb8 hx (by omega) hd).mono ?_
    rintro e2 w' ⟨rfl, hw⟩
    refine ⟨?_, hw⟩
    unfold numN atN errN
    rw [e]
    by_cases hbig : 2147483647 < acc xs k (d + 1)
    · rw [if_pos hbig, if_pos hbig, if_pos hbig, if_pos hbig]
      exact .inr ⟨rfl, 3, by decide, rfl⟩
    · rw [if_neg hbig, if_neg hbig, if_neg hbig, if_neg hbig]
      exact .inl ⟨_, _, rfl, by rw [show ((k + d + 1 : Nat) : Int) = (k : Int) + d + 1 by omega]⟩
  · refine (refGet_short a n c k d xs w hr hb8 hx (by omega) h0 hd).mono ?_
    rintro e2 w' ⟨rfl, hw⟩
    refine ⟨.inr ⟨?_, 4, by decide, rfl⟩, hw⟩
    rw [deltaS_at, dFind_short hd]
  · refine (refGet_long a n c k xs w hr hb8 hx (by omega) hd).mono ?_
    rintro e2 w' ⟨rfl, hw⟩
    refine ⟨.inr ⟨?_, 3, by decide, rfl⟩, hw⟩
    rw [deltaS_at, dFind_long hd]

theorem andB_good {xs : List Int} {top lit x y : Int} {j j1 j2 : Nat} (h1 : deltaS xs (some j) = (x, some j1)) (h2 : deltaS xs (some j1) = (y, some j2)) (hx : 0 < x) (hl : x ≤ lit) (hy : y ≤ lit - x) : andB xs top lit (some j) = ((lit, lit - x, lit - x - y), some j2) := by
  have e1 : andB1 xs lit (some j) = some j1 := by unfold andB1; rw [h1]; simp [hx, hl]
  unfold andB
  rw [e1, h1, h2, if_pos (by simpa using hy)]
theorem andB_bad0 {xs : List Int} {top lit : Int} {j : Nat} (h1 : (deltaS xs (some j)).2 = none) : (andB xs top lit (some j)).2 = none := by
  have e1 : andB1 xs lit (some j) = none := by unfold andB1; rw [h1]; split <;> rfl
  show (if decide _ = true then (deltaS xs (andB1 xs lit (some j))).2 else none) = none
  rw [e1]
  split <;> rfl
theorem andB_bad1 {xs : List Int} {top lit x : Int} {j j1 : Nat} (h1 : deltaS xs (some j) = (x, some j1)) (h : ¬ (0 < x ∧ x ≤ lit)) : (andB xs top lit (some j)).2 = none := by
  have e1 : andB1 xs lit (some j) = none := by
    unfold andB1; rw [h1]
    rw [if_neg (by simpa using h)]
  show (if decide _ = true then (deltaS xs (andB1 xs lit (some j))).2 else none) = none
  rw [e1]
  split <;> rfl
theorem andB_bad2 {xs : List Int} {top lit x : Int} {j j1 : Nat} (h1 : deltaS xs (some j) = (x, some j1)) (h2 : (deltaS xs (some j1)).2 = none) : (andB xs top lit (some j)).2 = none := by
  have e1 : (deltaS xs (andB1 xs lit (some j))).2 = none := by
    unfold andB1; rw [h1]
    split
    · exact h2
    · rfl
  show (if decide _ = true then (deltaS xs (andB1 xs lit (some j))).2 else none) = none
  rw [e1]
  split <;> rfl
theorem andB_bad3 {xs : List Int} {top lit x y : Int} {j j1 j2 : Nat} (h1 : deltaS xs (some j) = (x, some j1)) (h2 : deltaS xs (some j1) = (y, some j2)) (hx : 0 < x) (hl : x ≤ lit) (hy : ¬ y ≤ lit - x) : (andB xs top lit (some j)).2 = none := by
  have e1 : andB1 xs lit (some j) = some j1 := by unfold andB1; rw [h1]; simp [hx, hl]
  unfold andB
  rw [e1, h1, h2, if_neg (by simpa using hy)]
theorem andB_none (xs : List Int) (top lit : Int) : (andB xs top lit none).2 = none := by
  have e1 : andB1 xs lit none = none := by unfold andB1; split <;> rfl
  show (if decide _ = true then (deltaS xs (andB1 xs lit none)).2 else none) = none
  rw [e1]
  split <;> rfl
theorem latB_none (xs : List Int) (top lit : Int) : (latB xs top lit none).2 = none := rowS_none xs top 1 2
theorem latB_row (xs : List Int) (top lit : Int) (j : Nat) : (latB xs top lit (some j)).2 = (rowS xs top 1 2 (some j)).2 ∧ ((rowS xs top 1 2 (some j)).2.isSome = true → 1 ≤ (rowL xs top 1 2 (some j)).length ∧ (rowL xs top 1 2 (some j)).length ≤ 2 ∧ (latB xs top lit (some j)).1 = (lit, (rowL xs top 1 2 (some j) ++ [0]).getD 0 0, (rowL xs top 1 2 (some j) ++ [0]).getD 1 0)) := by
  refine ⟨rfl, fun h => ?_⟩
  obtain ⟨-, h1, h2, h3⟩ := rowS_ok h
  refine ⟨h2, h3, ?_⟩
  unfold latB
  rw [h1]
  generalize rowL xs top 1 2 (some j) = L at *
  match L, h2, h3 with
  | [x], _, _ => rfl
  | [x, y], _, _ => rfl

theorem readB_eq (xs : List Int) (h : xs.length ≤ 100000) : gramB.readE xs = if begE [97, 105, 103] xs = 0 then (if (hdrL (restW [97, 105, 103] xs)).getD 0 0 = (hdrL (restW [97, 105, 103] xs)).getD 1 0 + (hdrL (restW [97, 105, 103] xs)).getD 2 0 + (hdrL (restW [97, 105, 103] xs)).getD 4 0 then endE (gramB.circ xs) (gramB.last xs) else 2) else begE [97, 105, 103] xs := by
  have h0 : gramB.hE (gramB.rest xs) = hdrEB (restW [97, 105, 103] xs) := rfl
  have hw : gramB.word = [97, 105, 103] := rfl
  rw [readE_len gramB xs h, hw]
  unfold begE endE
  rw [h0]
  cases Lib.hasPrefix (lineS xs (some 0)).1.data.toList ([97, 105, 103] ++ [32])
  · rw [if_neg Bool.false_ne_true, if_neg Bool.false_ne_true, if_neg (show ¬ (2 : Int) = 0 by decide)]
  · rw [if_pos rfl, if_pos rfl]
    unfold hdrEB hdrL
    by_cases he : hdrE (restW [97, 105, 103] xs) = 0
    · rw [if_pos he, if_pos he, if_pos he]
      by_cases hs : (hdr9 (restW [97, 105, 103] xs)).getD 0 0 = (hdr9 (restW [97, 105, 103] xs)).getD 1 0 + (hdr9 (restW [97, 105, 103] xs)).getD 2 0 + (hdr9 (restW [97, 105, 103] xs)).getD 4 0
      · rw [if_pos hs, if_pos hs, if_pos rfl]
      · rw [if_neg hs, if_neg hs, if_neg (by decide)]
    · rw [if_neg he, if_neg he, if_neg he]
theorem hdrLB_eq {s : ByteArray} (h0 : hdrE s = 0) (h : (hdrL s).getD 0 0 = (hdrL s).getD 1 0 + (hdrL s).getD 2 0 + (hdrL s).getD 4 0) : hdrLB s = hdrL s := by
  have e : hdrL s = hdr9 s := if_pos h0
  rw [e] at h ⊢
  have : hdrEB s = 0 := by unfold hdrEB; rw [if_pos h0, if_pos h]
  exact if_pos this

section
variable {w W w4 : World} {n c hg hcap lc m K m2 K2 : Nat} {a A A2 : Option Addr} {xs H L : List Int} {st : Option Nat} {M : Int}
/-- One input more. -/
theorem RX.in (h : RX w a n c xs hg hcap H lc ⟨M, L, [], [], [], [], [], []⟩ ⟨M, A, m, K, none, 0, 0, none, 0, 0, none, 0, 0, none, 0, 0, none, 0, 0, none, 0, 0⟩ st W) {B1 : Nat} (hB : hg < B1) (hBw : w.heap.size ≤ B1) (h1 : W.ownsRow B1 3 1 (.slice A m K) m (L.map (Value.int .i64))) {o : Obj} {L2 : List Int} (hg' : (W.alloc o).grownBy w4 (Value.slice A m K).ownBlock) (ho : w4.ownsRow B1 3 1 (.slice A2 m2 K2) m2 (L2.map (Value.int .i64))) :
    RX w a n c xs hg hcap H lc ⟨M, L2, [], [], [], [], [], []⟩ ⟨M, A2, m2, K2, none, 0, 0, none, 0, 0, none, 0, 0, none, 0, 0, none, 0, 0, none, 0, 0⟩ st (w4.setCell ⟨lc, 1, none⟩ (.slice A2 m2 K2)) ∧ Box w4 lc ⟨M, A, m, K, none, 0, 0, none, 0, 0, none, 0, 0, none, 0, 0, none, 0, 0, none, 0, 0⟩ := by
  have k := h.rr.then (below_alloc W o)
  have bl := (h.rr.below.trans (h.rr.bel (Nat.le_refl _) h.rr.o1 hg'))
  have bx : Box w4 lc ⟨M, A, m, K, none, 0, 0, none, 0, 0, none, 0, 0, none, 0, 0, none, 0, 0, none, 0, 0⟩ := k.box.grown hg' (own_ne_box k.o1 k.box (by decide))
  have rd := rd_grown k.rd hg' (own_ne_rd k.o1 k.rd (by decide)) h.rr.tx bl
  have oh := own_block k.oh (fun g hv => hg'.block g (k.oh.lt g hv).2 (fun e2 => by
    have e3 : g = hg := by cases hv; rfl
    have := (h1.lt g e2.symm).1
    omega))
  have rb : Box w4 w.heap.size cvN := (h.bx.alloc o).grown hg' (own_ne_box k.o1 (h.bx.alloc o) (by decide))
  exact ⟨⟨rows_cell bx rd h.rr.lp h.rr.lb h.rr.m (box_eight (c' := ⟨M, A2, m2, K2, none, 0, 0, none, 0, 0, none, 0, 0, none, 0, 0, none, 0, 0, none, 0, 0⟩) bx 1 _ rfl) oh (own_le ho hBw) (World.ownsRow_nil _ _ _ _) (World.ownsRow_nil _ _ _ _) (World.ownsRow_nil _ _ _ _) (World.ownsRow_nil _ _ _ _) (World.ownsRow_nil _ _ _ _) (World.ownsRow_nil _ _ _ _) bl h.rr.tx, bx_set rb h.ne, h.ne, h.z7⟩, bx⟩
end
end Go.Proofs.YtikjbbebfjleaaaGreatDoor

namespace Go.Proofs.YtikjbbebfjleaaaGreatDoor
open Go.RowKit
theorem begB_some {xs : List Int} (h : begE [97, 105, 103] xs = 0) : ∃ j, (lineS xs (some 0)).2 = some j := by
  cases e : lineO xs 0 with
  | none =>
    unfold begE at h
    rw [lineS_no e] at h
    rw [if_neg (show ¬ Lib.hasPrefix (⟨#[]⟩ : ByteArray).data.toList ([97, 105, 103] ++ [32]) = true by decide)] at h
    cases h
  | some y => exact ⟨y.2, by rw [lineS_yes e]⟩
theorem begB_pos {xs : List Int} (h : begE [97, 105, 103] xs = 0) : 0 < xs.length := by
  rcases Nat.eq_zero_or_pos xs.length with h0 | h0
  · have e : xs = [] := List.length_eq_zero_iff.1 h0
    subst e
    obtain ⟨j, hj⟩ := begB_some h
    have e2 : (lineS [] (some 0)).2 = none := by decide +kernel
    rw [e2] at hj
    cases hj
  · exact h0
end Go.Proofs.YtikjbbebfjleaaaGreatDoor

namespace Go.Proofs.YtikjbbebfjleaaaGreatDoor
open Go.RowKit
/-- The inputs that a circuit in bytes has. -/
def insL : Nat → List Int
  | 0 => []
  | k + 1 => insL k ++ [2 * (1 + (k : Int))]
theorem insL_len : ∀ k, (insL k).length = k
  | 0 => rfl
  | k + 1 => by rw [insL, List.length_append, insL_len k]; rfl
theorem insB_items (xs : List Int) (top : Int) (st : Option Nat) : ∀ k, itemsS (fun i => inpB xs top (2 * (1 + (i : Int)))) st k = (insL k, st)
  | 0 => rfl
  | k + 1 => by rw [itemsS, insB_items xs top st k]; rfl
section
variable {w W : World} {q g i : Nat} {u0 u1 u2 : Value} {row : Option Nat}
theorem mix_belowB (h : w.cell? ⟨q, 0, none⟩ = some u0 ∧ w.cell? ⟨q, 1, none⟩ = some u1 ∧ w.cell? ⟨g, i, none⟩ = some u2) (hb : Below w.heap.size w W) : W.cell? ⟨q, 0, none⟩ = some u0 ∧ W.cell? ⟨q, 1, none⟩ = some u1 ∧ W.cell? ⟨g, i, none⟩ = some u2 :=
  ⟨(hb.cell (block_lt_of_cell h.1)).trans h.1, (hb.cell (block_lt_of_cell h.2.1)).trans h.2.1, (hb.cell (block_lt_of_cell h.2.2)).trans h.2.2⟩
theorem mix_grownB (h : w.cell? ⟨q, 0, none⟩ = some u0 ∧ w.cell? ⟨q, 1, none⟩ = some u1 ∧ w.cell? ⟨g, i, none⟩ = some u2) (hg : w.grownBy W row) (hne : some q ≠ row) (hn2 : some g ≠ row) : W.cell? ⟨q, 0, none⟩ = some u0 ∧ W.cell? ⟨q, 1, none⟩ = some u1 ∧ W.cell? ⟨g, i, none⟩ = some u2 :=
  ⟨hg.cell h.1 hne, hg.cell h.2.1 hne, hg.cell h.2.2 hn2⟩
theorem mix_setB {b j : Nat} {v : Value} (h : w.cell? ⟨q, 0, none⟩ = some u0 ∧ w.cell? ⟨q, 1, none⟩ = some u1 ∧ w.cell? ⟨g, i, none⟩ = some u2) (hne : b ≠ q) (hn2 : b ≠ g) : (w.setCell ⟨b, j, none⟩ v).cell? ⟨q, 0, none⟩ = some u0 ∧ (w.setCell ⟨b, j, none⟩ v).cell? ⟨q, 1, none⟩ = some u1 ∧ (w.setCell ⟨b, j, none⟩ v).cell? ⟨g, i, none⟩ = some u2 := by
  have e : ∀ q i, b ≠ q → (w.setCell ⟨b, j, none⟩ v).cell? ⟨q, i, none⟩ = w.cell? ⟨q, i, none⟩ := fun q i hq => cell_set_other (fun e => by have := congrArg Addr.block e; simp at this; omega)
  rw [e _ _ hne, e _ _ hne, e _ _ hn2]; exact h
end
/-- GetDelta of the reference: what it tells at a place, in every world that holds the bytes. -/
theorem refGet_w (a : Option Addr) (n c k : Nat) (xs : List Int) (hb8 : Bytes8 xs) (hx : xs.length = n) (hn : n ≤ 100000) (h0 : 0 < n) (hk : k ≤ n) :
    ∃ (x : Int) (p : Nat) (er : Int), (0 ≤ x ∧ x ≤ 2147483647 ∧ p ≤ n) ∧ (er = 0 ∧ deltaS xs (some k) = (x, some p) ∨ er ≠ 0 ∧ (deltaS xs (some k)).2 = none) ∧
      ∀ w, Row8 w a xs → Calls Tryz.prog 55 #[.slice a n c, .int .i64 (k : Int)] w fun e w' => e = .returned (.tuple #[.int .i64 x, .int .i64 (p : Int), .int .i64 er]) ∧ w' = w := by
  rcases three xs k (by omega) with ⟨d, hd⟩ | ⟨d, hd⟩ | hd
  · have e : deltaS xs (some k) = if 2147483647 < acc xs k (d + 1) then (0, none) else (acc xs k (d + 1), some (k + d + 1)) := by
      rw [deltaS_at, dFind_ends hd]
    by_cases hbig : 2147483647 < acc xs k (d + 1)
    · refine ⟨0, 0, 3, ⟨by decide, by decide, Nat.zero_le _⟩, .inr ⟨by decide, by rw [e, if_pos hbig]⟩, fun w hr => (refGet_ends a n c k d xs w hr hb8 hx (by omega) hd).mono ?_⟩
      rintro e2 w' ⟨rfl, hw⟩
      refine ⟨?_, hw⟩
      unfold numN atN errN
      rw [if_pos hbig, if_pos hbig, if_pos hbig]
      rfl
    · rw [if_neg hbig] at e
      refine ⟨acc xs k (d + 1), k + d + 1, 0, ⟨(acc_bd xs k (d + 1)).1, by omega, by have := inb_move e; omega⟩, .inl ⟨rfl, e⟩, fun w hr => (refGet_ends a n c k d xs w hr hb8 hx (by omega) hd).mono ?_⟩
      rintro e2 w' ⟨rfl, hw⟩
      refine ⟨?_, hw⟩
      unfold numN atN errN
      rw [if_neg hbig, if_neg hbig, if_neg hbig, show ((k + d + 1 : Nat) : Int) = (k : Int) + d + 1 by omega]
  · refine ⟨0, 0, 4, ⟨by decide, by decide, Nat.zero_le _⟩, .inr ⟨by decide, by rw [deltaS_at, dFind_short hd]⟩, fun w hr => (refGet_short a n c k d xs w hr hb8 hx (by omega) h0 hd).mono ?_⟩
    rintro e2 w' ⟨rfl, hw⟩
    exact ⟨rfl, hw⟩
  · refine ⟨0, 0, 3, ⟨by decide, by decide, Nat.zero_le _⟩, .inr ⟨by decide, by rw [deltaS_at, dFind_long hd]⟩, fun w hr => (refGet_long a n c k xs w hr hb8 hx (by omega) hd).mono ?_⟩
    rintro e2 w' ⟨rfl, hw⟩
    exact ⟨rfl, hw⟩
/-- An And more, by its two differences: as andB tells it. -/
theorem andB_pair {xs : List Int} {x1 x2 e1 e2 : Int} {j p1 p2 : Nat} (h1 : e1 = 0 ∧ deltaS xs (some j) = (x1, some p1) ∨ e1 ≠ 0 ∧ (deltaS xs (some j)).2 = none) (h2 : e2 = 0 ∧ deltaS xs (some p1) = (x2, some p2) ∨ e2 ≠ 0 ∧ (deltaS xs (some p1)).2 = none) (h0 : 0 ≤ x1) (top lit : Int) :
    (¬ (e1 = 0 ∧ e2 = 0 ∧ x1 ≠ 0 ∧ x1 ≤ lit ∧ x2 ≤ lit - x1) → (andB xs top lit (some j)).2 = none) ∧ (e1 = 0 → e2 = 0 → x1 ≠ 0 → x1 ≤ lit → x2 ≤ lit - x1 → andB xs top lit (some j) = ((lit, lit - x1, lit - x1 - x2), some p2)) := by
  rcases h1 with ⟨a1, b1⟩ | ⟨a1, b1⟩
  · rcases h2 with ⟨a2, b2⟩ | ⟨a2, b2⟩
    · by_cases hx : 0 < x1 ∧ x1 ≤ lit
      · by_cases hy : x2 ≤ lit - x1
        · exact ⟨fun h => absurd ⟨a1, a2, by omega, hx.2, hy⟩ h, fun _ _ _ _ _ => andB_good b1 b2 hx.1 hx.2 hy⟩
        · exact ⟨fun _ => andB_bad3 b1 b2 hx.1 hx.2 hy, fun _ _ _ _ h => absurd h hy⟩
      · exact ⟨fun _ => andB_bad1 b1 hx, fun _ _ q1 q2 _ => absurd ⟨by omega, q2⟩ hx⟩
    · exact ⟨fun _ => andB_bad2 b1 b2, fun _ h _ _ _ => absurd h a2⟩
  · exact ⟨fun _ => andB_bad0 b1, fun h _ _ _ _ => absurd h a1⟩
end Go.Proofs.YtikjbbebfjleaaaGreatDoor
