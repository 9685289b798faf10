/-
  THE WALKS of a pile of placed lists: its four methods, and its two orders.
-/
import Derived.Test.YtcbgnmkipbhncaaRefSize
import Derived.Deep.RegionHeld3
namespace Go.Proofs.Ytcbgnmkipbhncaa
open Go.RowKit

/-- A placed list: its place, and the slice of its signs. -/
structure El where
  place : Int
  a : Option Addr
  c : Nat
  xs : List Int
def El.v (p : El) : Value := .slice p.a p.xs.length p.c
def El.agg (p : El) : Value := .agg #[.int .i64 p.place, .slice p.a p.xs.length p.c]
def ltEarly (p q : El) : Bool := decide (p.place < q.place)
def ltShort (p q : El) : Bool := if p.xs.length = q.xs.length then decide (p.place < q.place) else decide (p.xs.length < q.xs.length)

set_option maxHeartbeats 400000 in
theorem earlier_any (p q : El) (w : World) : Calls Try.prog 47 #[p.agg, q.agg] w fun e w' => e = .returned (.bool (ltEarly p q)) ∧ Below w.heap.size w w' := by
  obtain ⟨pl, a, c, xs⟩ := p
  obtain ⟨ql, b, d, ys⟩ := q
  unfold El.agg ltEarly
  dsimp only
  generalize xs.length = n
  generalize ys.length = m
  go_enter Try.func47, Try.ntmps47
  go_wp2
  go_ret
  refine ⟨rfl, ?_⟩
  refine ((Below.refl _ _).grown (World.grownBy_alloc w _ none) (Nat.le_refl _) (fun k hk => by cases hk)).grown (World.grownBy_alloc _ _ none) (by simp) (fun k hk => by cases hk)

set_option maxHeartbeats 400000 in
theorem shorter_any (p q : El) (w : World) : Calls Try.prog 44 #[p.agg, q.agg] w fun e w' => e = .returned (.bool (ltShort p q)) ∧ Below w.heap.size w w' := by
  have hE := fun W => earlier_any p q W
  obtain ⟨pl, a, c, xs⟩ := p
  obtain ⟨ql, b, d, ys⟩ := q
  unfold El.agg ltEarly at hE
  unfold El.agg ltShort
  dsimp only at hE ⊢
  generalize xs.length = n at hE ⊢
  generalize ys.length = m at hE ⊢
  have HE := hide hE
  have hb2 : Hid (∀ o o', Below w.heap.size w ((w.alloc o).alloc o')) := fun o o' => ((Below.refl _ _).grown (World.grownBy_alloc w o none) (Nat.le_refl _) (fun k hk => by cases hk)).grown (World.grownBy_alloc _ o' none) (by simp) (fun k hk => by cases hk)
  clear hE
  by_cases h : n = m
  · subst h
    rw [if_pos rfl]
    go_enter Try.func44, Try.ntmps44
    go_wp2_with (go_at_call 47; refine (HE.out _).mono ?_; rintro e w2 ⟨rfl, hbe⟩)
    go_ret
    exact ⟨rfl, (hb2.out _ _).trans (hbe.mono (hb2.out _ _).size)⟩
  · rw [if_neg h]
    have hbq : ((n : Int) == (m : Int)) = false := by rw [beq_eq_false_iff_ne]; omega
    go_enter Try.func44, Try.ntmps44
    go_wp2
    go_ret
    exact ⟨by simp, hb2.out _ _⟩

set_option maxHeartbeats 400000 in
theorem pp_len (p n c : Nat) (a : Option Addr) (w : World) (h0 : w.cell? ⟨p, 0, none⟩ = some (.slice a n c)) :
    Calls Try.prog 55 #[.pointer (some ⟨p, 0, none⟩)] w fun e w' => e = .returned (.int .i64 n) ∧ w' = w := by
  go_enter Try.func55, Try.ntmps55
  go_wp2
  go_ret
  exact ⟨rfl, rfl⟩

set_option maxRecDepth 100000 in
set_option maxHeartbeats 4000000 in
theorem pp_swap (p g n c : Nat) (w : World) (h0 : w.cell? ⟨p, 0, none⟩ = some (.slice (some ⟨g, 0, none⟩) n c)) (i j : Nat) (xp yp : Int) (xa ya : Option Addr) (xn xc yn yc : Nat) (hi : i < n) (hj : j < n) (_hn : n ≤ 1152921504606846976)
    (hx1 : w.cell? ⟨g, i * 2, none⟩ = some (.int .i64 xp)) (hx2 : w.cell? ⟨g, i * 2 + 1, none⟩ = some (.slice xa xn xc)) (hy1 : w.cell? ⟨g, j * 2, none⟩ = some (.int .i64 yp)) (hy2 : w.cell? ⟨g, j * 2 + 1, none⟩ = some (.slice ya yn yc))
    (fi1 : w.frozen? ⟨g, i * 2, none⟩ = false) (fi2 : w.frozen? ⟨g, i * 2 + 1, none⟩ = false) (fj1 : w.frozen? ⟨g, j * 2, none⟩ = false) (fj2 : w.frozen? ⟨g, j * 2 + 1, none⟩ = false) :
    Calls Try.prog 80 #[.pointer (some ⟨p, 0, none⟩), .int .i64 i, .int .i64 j] w fun e w' => e = .returned (.tuple #[]) ∧ ∃ q, w' = ((((w.setCell ⟨g, i * 2, none⟩ (.int .i64 yp)).setCell ⟨g, i * 2 + 1, none⟩ (.slice ya yn yc)).setCell ⟨g, j * 2, none⟩ (.int .i64 xp)).setCell ⟨g, j * 2 + 1, none⟩ (.slice xa xn xc)).drewN q := by
  obtain ⟨v1, e1⟩ := cell?_setCell_some (w := w) (p := ⟨g, i * 2, none⟩) (x := .int .i64 yp) (q := ⟨g, i * 2 + 1, none⟩) hx2
  obtain ⟨v2, e2⟩ := cell?_setCell_some (w := w) (p := ⟨g, i * 2, none⟩) (x := .int .i64 yp) (q := ⟨g, j * 2, none⟩) hy1
  obtain ⟨v3, e3⟩ := cell?_setCell_some (w := w) (p := ⟨g, i * 2, none⟩) (x := .int .i64 yp) (q := ⟨g, j * 2 + 1, none⟩) hy2
  obtain ⟨v4, e4⟩ := cell?_setCell_some (w := w.setCell ⟨g, i * 2, none⟩ (.int .i64 yp)) (p := ⟨g, i * 2 + 1, none⟩) (x := .slice ya yn yc) (q := ⟨g, j * 2, none⟩) e2
  obtain ⟨v5, e5⟩ := cell?_setCell_some (w := w.setCell ⟨g, i * 2, none⟩ (.int .i64 yp)) (p := ⟨g, i * 2 + 1, none⟩) (x := .slice ya yn yc) (q := ⟨g, j * 2 + 1, none⟩) e3
  obtain ⟨v6, e6⟩ := cell?_setCell_some (w := (w.setCell ⟨g, i * 2, none⟩ (.int .i64 yp)).setCell ⟨g, i * 2 + 1, none⟩ (.slice ya yn yc)) (p := ⟨g, j * 2, none⟩) (x := .int .i64 xp) (q := ⟨g, j * 2 + 1, none⟩) e5
  go_enter Try.func80, Try.ntmps80
  go_wp2
  go_region
  all_goals (try go_wp2)
  all_goals go_end0
  all_goals exact ⟨rfl, 1, rfl⟩

set_option maxHeartbeats 2000000 in
theorem pp_pop (p g n c : Nat) (w : World) (h0 : w.cell? ⟨p, 0, none⟩ = some (.slice (some ⟨g, 0, none⟩) (n + 1) c)) (f0 : w.frozen? ⟨p, 0, none⟩ = false) (xp : Int) (xa : Option Addr) (xn xc : Nat) (_hn : n ≤ 1152921504606846976) (hc : n + 1 ≤ c) (_hc2 : c ≤ 9223372036854775807)
    (hx1 : w.cell? ⟨g, n * 2, none⟩ = some (.int .i64 xp)) (hx2 : w.cell? ⟨g, n * 2 + 1, none⟩ = some (.slice xa xn xc)) :
    Calls Try.prog 79 #[.pointer (some ⟨p, 0, none⟩)] w fun e w' => e = .returned (.iface 53 (.agg #[.int .i64 xp, .slice xa xn xc])) ∧ ∃ o, w' = (w.setCell ⟨p, 0, none⟩ (.slice (some ⟨g, 0, none⟩) n c)).alloc o := by
  have hpl : p < w.heap.size := World.block_lt_of_cell? w _ h0
  go_enter Try.func79, Try.ntmps79
  go_wp2
  go_ret
  exact ⟨rfl, _, rfl⟩

set_option maxRecDepth 100000 in
set_option maxHeartbeats 4000000 in
theorem pp_less (f : Nat) (ef : ∀ args w, (callFunc f args).run Try.prog w = .ok (.enter f args) w) (lt : El → El → Bool) (hf : ∀ (P Q : El) (W : World), Calls Try.prog f #[P.agg, Q.agg] W fun e w' => e = .returned (.bool (lt P Q)) ∧ Below W.heap.size W w')
    (p g n c : Nat) (w : World) (h0 : w.cell? ⟨p, 0, none⟩ = some (.slice (some ⟨g, 0, none⟩) n c)) (h1 : w.cell? ⟨p, 1, none⟩ = some (.func (.func f) #[] #[])) (i j : Nat) (P Q : El) (hi : i < n) (hj : j < n) (_hn : n ≤ 1152921504606846976)
    (hx1 : w.cell? ⟨g, i * 2, none⟩ = some (.int .i64 P.place)) (hx2 : w.cell? ⟨g, i * 2 + 1, none⟩ = some P.v) (hy1 : w.cell? ⟨g, j * 2, none⟩ = some (.int .i64 Q.place)) (hy2 : w.cell? ⟨g, j * 2 + 1, none⟩ = some Q.v) :
    Calls Try.prog 78 #[.pointer (some ⟨p, 0, none⟩), .int .i64 i, .int .i64 j] w fun e w' => e = .returned (.bool (lt P Q)) ∧ Below w.heap.size w w' := by
  have HC := hide (hf P Q)
  have hpl : p < w.heap.size := World.block_lt_of_cell? w _ h0
  have hgl : g < w.heap.size := World.block_lt_of_cell? w _ hx1
  unfold El.agg at HC
  unfold El.v at hx2 hy2
  clear hf
  obtain ⟨pl, a, cc, xs⟩ := P
  obtain ⟨ql, b, d, ys⟩ := Q
  dsimp only at HC hx1 hx2 hy1 hy2
  generalize xs.length = xn at HC hx2
  generalize ys.length = yn at HC hy2
  generalize lt ⟨pl, a, cc, xs⟩ ⟨ql, b, d, ys⟩ = r at HC ⊢
  go_enter Try.func78, Try.ntmps78
  go_wp2
  go_region_held3 (fun w' => w'.cell? ⟨p, 0, none⟩ = some (.slice (some ⟨g, 0, none⟩) n c) ∧ w'.cell? ⟨p, 1, none⟩ = some (.func (.func f) #[] #[]) ∧ w'.cell? ⟨g, i * 2, none⟩ = some (.int .i64 pl) ∧ w'.cell? ⟨g, i * 2 + 1, none⟩ = some (.slice a xn cc) ∧ w'.cell? ⟨g, j * 2, none⟩ = some (.int .i64 ql) ∧ w'.cell? ⟨g, j * 2 + 1, none⟩ = some (.slice b yn d)) (first | go_keep | exact ⟨(hb2.cell (p := ⟨p, 0, none⟩) hpl).trans h0, (hb2.cell (p := ⟨p, 1, none⟩) hpl).trans h1, (hb2.cell (p := ⟨g, i * 2, none⟩) hgl).trans hx1, (hb2.cell (p := ⟨g, i * 2 + 1, none⟩) hgl).trans hx2, (hb2.cell (p := ⟨g, j * 2, none⟩) hgl).trans hy1, (hb2.cell (p := ⟨g, j * 2 + 1, none⟩) hgl).trans hy2⟩) (first | (go_at_fn f; refine (HC.out _).mono ?_; rintro e w2 ⟨rfl, hb2⟩))
  all_goals go_wp2
  all_goals go_ret
  all_goals exact ⟨rfl, hb2.os, hb2.tape, hb2.output, hb2.size, hb2.block⟩
end Go.Proofs.Ytcbgnmkipbhncaa
