/-
  THE WALKS of a renaming's literal and literals.
-/
import Derived.Test.YtldodaejfipebaaNormNew
namespace Go.Proofs.Ytldodaejfipebaa
open Go.RowKit

/-- A renaming that can be read: small numbers. -/
structure Ren (w : World) (g n : Nat) (rs : List Int) : Prop where
  row : ∀ i, i < rs.length → w.cell? ⟨g, i, none⟩ = some (.int .i64 (atP rs i))
  len : rs.length = n
  le : n ≤ 10000
  small : ∀ x ∈ rs, 0 ≤ x ∧ x ≤ 10000
theorem Ren.below {w w' : World} {g n : Nat} {rs : List Int} (h : Ren w g n rs) (hb : Below w.heap.size w w') : Ren w' g n rs :=
  ⟨fun i hi => by have h1 := h.row i hi; exact (hb.cell (block_lt_of_cell h1)).trans h1, h.len, h.le, h.small⟩
theorem ren_of {w : World} {B g n : Nat} {rs : List Int} (h : w.ownsRow B 3 1 (.slice (some ⟨g, 0, none⟩) n n) n (rs.map (Value.int .i64))) (hn : n ≤ 10000) (hs : ∀ x ∈ rs, 0 ≤ x ∧ x ≤ 10000) : Ren w g n rs := by
  have hl : rs.length = n := by have := h.1; simpa using this
  exact ⟨fun i hi => row_at h i (by omega), hl, hn, hs⟩

/-- A literal that is there. -/
def LitIn (n : Nat) (l : Int) : Prop := 0 ≤ l ∧ l ≤ 20001 ∧ varN l < n

theorem tmod_2 {y : Int} (h : 0 ≤ y) : y.tmod 2 = y % 2 := Int.tmod_eq_emod_of_nonneg h
theorem renL_lit {rs : List Int} {l : Int} (hs : ∀ x ∈ rs, 0 ≤ x ∧ x ≤ 10000) (hv : varN l < rs.length) : 0 ≤ renL rs l ∧ renL rs l ≤ 20001 := by
  have := hs _ (atP_mem rs (varN l) hv)
  unfold renL
  omega

set_option maxRecDepth 100000 in
set_option maxHeartbeats 1000000 in
theorem literal_any (g n : Nat) (rs : List Int) (l : Int) (w : World) (h : Ren w g n rs) (hl : LitIn n l) :
    Calls Try.prog 52 #[.slice (some ⟨g, 0, none⟩) n n, .int .i64 l] w fun e w' => e = .returned (.int .i64 (renL rs l)) ∧ w' = w := by
  obtain ⟨h0, h1, hv⟩ := hl
  have hc := h.row (varN l) (by rw [h.len]; exact hv)
  have hs := h.small _ (atP_mem rs (varN l) (by rw [h.len]; exact hv))
  have hq := tdiv_two h0
  have hm := tmod_2 h0
  have hn := h.le
  have HR : Hid (renL rs l = 2 * atP rs (varN l) + l % 2) := rfl
  rw [HR.out]
  generalize varN l = v at hq hc hs hv HR ⊢
  generalize atP rs v = x at hc hs HR ⊢
  have hb : 0 ≤ l % 2 ∧ l % 2 ≤ 1 := by omega
  generalize l % 2 = y at hm hb HR ⊢
  obtain ⟨s0, s1⟩ := hs
  obtain ⟨b0, b1⟩ := hb
  clear h HR
  go_enter Try.func52, Try.ntmps52
  go_wp2
  go_ret
  exact ⟨by go_num, rfl⟩

/-- A slice of ints while it is filled. -/
structure LMk (w0 : World) (g m : Nat) (ps : List Int) (wr : World) : Prop where
  own : wr.ownsRow w0.heap.size 3 1 (.slice (some ⟨g, 0, none⟩) m m) m (ps.map (Value.int .i64))
  below : Below w0.heap.size w0 wr
theorem LMk.set {w0 wr : World} {g m : Nat} {ps : List Int} (h : LMk w0 g m ps wr) (i : Nat) (x : Int) : LMk w0 g m (ps.set i x) (wr.setCell ⟨g, i, none⟩ (.int .i64 x)) := by
  obtain ⟨h1, h2⟩ := h.own.stored i (.int .i64 x)
  have hgb := (h.own.lt g rfl).1
  exact ⟨by rw [List.map_set]; exact h1, h.below.grown h2 h.below.size (fun k hk => by cases hk; omega)⟩

/-- The first k are done, the others are as they were. -/
def doneK {α β : Type} (f : α → β) (z : β) (xs : List α) (k : Nat) : List β := (xs.take k).map f ++ List.replicate (xs.length - k) z
theorem doneK_zero {α β : Type} (f : α → β) (z : β) (xs : List α) : doneK f z xs 0 = List.replicate xs.length z := by simp [doneK]
theorem doneK_all {α β : Type} (f : α → β) (z : β) (xs : List α) {k : Nat} (h : xs.length = k) : doneK f z xs k = xs.map f := by subst h; simp [doneK]
theorem doneK_succ {α β : Type} [Inhabited α] (f : α → β) (z : β) (xs : List α) (k : Nat) (h : k < xs.length) : doneK f z xs (k + 1) = (doneK f z xs k).set k (f (atP xs k)) := by
  unfold doneK
  have hl : ((xs.take k).map f).length = k := by simp; omega
  have e : xs.length - k = (xs.length - (k + 1)) + 1 := by omega
  rw [take_snoc xs k h, List.map_append, List.set_append_right _ _ (by omega), hl, Nat.sub_self, e, List.replicate_succ]
  simp
theorem doneK_len {α β : Type} (f : α → β) (z : β) (xs : List α) (k : Nat) (h : k ≤ xs.length) : (doneK f z xs k).length = xs.length := by simp [doneK]; omega

set_option maxRecDepth 100000 in
set_option maxHeartbeats 1000000 in
theorem literals_any (g n : Nat) (rs : List Int) (la : Option Addr) (m lc : Nat) (xs : List Int) (w : World) (h : Ren w g n rs) (hr : RowK .i64 w la xs) (hx : xs.length = m) (hm : m ≤ 10000) (hin : ∀ l ∈ xs, LitIn n l) :
    Calls Try.prog 35 #[.slice (some ⟨g, 0, none⟩) n n, .slice la m lc] w fun e w' => ∃ v, e = .returned v ∧ NewInts w (xs.map (renL rs)) v w' := by
  obtain ⟨i0, hi, hz0, hz1, hz2⟩ := info_parts infoInt
  have HH := hide h
  have HR := hide hr
  have HX := hide hx
  have HI := hide hin
  generalize hP : (fun (e : Ending) (w' : World) => ∃ v, e = .returned v ∧ NewInts w (xs.map (renL rs)) v w') = Post
  have HP := hide hP
  clear h hr hx hin hP
  go_enter Try.func35, Try.ntmps35
  go_wp2_with (first | (at_make; refine wpList_make_full _ rfl _ _ 22 rfl w.heap.size 3 i0 (.int .i64 0) 1 Try.underlying22 hi hz0 hz1 .i64 .i64 _ _ m rfl rfl (by first | rfl | omega) (by first | rfl | omega) (by rw [hz2]; omega) (by unfold maxLen; omega) (by simp) ?_; intro w2 hown hg2; rw [madeI] at hown; have HM0 : Hid (LMk w w.heap.size m (List.replicate m 0) w2) := ⟨hown, (Below.refl _ _).grown hg2 (Nat.le_refl _) (fun k hk => by cases hk)⟩; clear hown hg2))
  go_loopw [6, 7, 13] (fun _ _ i wr => ∃ (k : Nat), i = .int .i64 k ∧ k ≤ m ∧ Hid (LMk w w.heap.size m (doneK (renL rs) 0 xs k) wr)) (fun _ _ i _ => m - (intOf i).toNat)
  case atStart => exact ⟨0, rfl, Nat.zero_le _, by rw [doneK_zero, HX.out]; exact HM0.out⟩
  case round =>
    clear HM0
    obtain ⟨k, rfl, hk, HF⟩ := hrel
    by_cases hlt : k < m
    · obtain ⟨b, off, rfl, hbw, hcell⟩ := HR.out.addr (by rw [HX.out]; omega)
      have hc0 := (HF.out.below.cell (p := ⟨b, off + k, none⟩) hbw).trans (hcell k (by rw [HX.out]; exact hlt))
      rw [atP_getD] at hc0
      have hli := hide (HI.out _ (atP_mem xs k (by rw [HX.out]; exact hlt)))
      have HS := hide (doneK_succ (renL rs) 0 xs k (by rw [HX.out]; exact hlt))
      have hcm := row_at HF.out.own k hlt
      have hfm := HF.out.own.frozenAt k
      generalize atP (doneK (renL rs) 0 xs k) k = y0 at hcm
      generalize atP xs k = x at hc0 hli HS
      have HG := hide (literal_any g n rs x wr (HH.out.below HF.out.below) hli.out)
      clear hcell
      go_wp2_with (go_at_call 52; refine HG.out.mono ?_; rintro e w3 ⟨rfl, hw3⟩; obtain rfl := hw3.symm)
      go_roundw
      case rel => exact ⟨k + 1, by go_num, by omega, by rw [HS.out]; exact HF.out.set k _⟩
      case measure => simp [intOf]; omega
    · obtain rfl : k = m := by omega
      have hfin : Hid (Post (.returned (.slice (some ⟨w.heap.size, 0, none⟩) k k)) wr) := by
        show Post _ wr
        rw [← HP.out]
        refine ⟨_, rfl, ?_, HF.out.below⟩
        have := HF.out.own
        rw [doneK_all _ _ _ HX.out] at this
        rw [List.length_map, HX.out]
        exact this
      go_wp2
      exact hfin.out
end Go.Proofs.Ytldodaejfipebaa
