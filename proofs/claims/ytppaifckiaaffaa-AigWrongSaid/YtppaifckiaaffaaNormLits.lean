/-
  THE WALKS of a renaming's literal and literals.
-/
import Derived.Test.YtppaifckiaaffaaNormNew
namespace Go.Proofs.Ytppaifckiaaffaa
open Go.RowKit

/-- A renaming that can be read: small numbers. -/
structure Ren (w : World) (g n : Nat) (rs : List Int) : Prop where
  row : ∀ i, i < rs.length → w.cell? ⟨g, i, none⟩ = some (.int .i64 (atP rs i))
  len : rs.length = n
  le : n ≤ 10000
  small : ∀ x ∈ rs, 0 ≤ x ∧ x ≤ 10000
theorem Ren.below {w w' : World} {g n : Nat} {rs : List Int} (h : Ren w g n rs) (hb : Below w.heap.size w w') : Ren w' g n rs :=
  ⟨fun i hi => by have h1 := h.row i hi; exact (hb.cell (block_lt_of_cell h1)).trans h1, h.len, h.le, h.small⟩
theorem ren_of {w : World} {B g n : Nat} {rs : List Int} (h : w.ownsRow B 3 1 (.slice (some ⟨g, 0, none⟩) n n) n (rs.map (Value.int .i64))) (hn : n ≤ 10000) (hs : ∀ x ∈ rs, 0 ≤ x ∧ x ≤ 10000) : Ren w g n rs := by
  have hl : rs.length = n := by have := h.1; simpa using this
  exact ⟨fun i hi => row_at h i (by omega), hl, hn, hs⟩

/-- A literal that is there. -/
def LitIn (n : Nat) (l : Int) : Prop := 0 ≤ l ∧ l ≤ 20001 ∧ varN l < n

theorem tmod_2 {y : Int} (h : 0 ≤ y) : y.tmod 2 = y % 2 := Int.tmod_eq_emod_of_nonneg h
theorem renL_lit {rs : List Int} {l : Int} (hs : ∀ x ∈ rs, 0 ≤ x ∧ x ≤ 10000) (hv : varN l < rs.length) : 0 ≤ renL rs l ∧ renL rs l ≤ 20001 := by
  have := hs _ (atP_mem rs (varN l) hv)
  unfold renL
  omega

set_option maxRecDepth 100000 in
set_option maxHeartbeats 1000000 in
theorem literalN_any (g n : Nat) (rs : List Int) (l : Int) (w : World) (h : Ren w g n rs) (hl : LitIn n l) :
    Calls Try.prog 88 #[.slice (some ⟨g, 0, none⟩) n n, .int .i64 l] w fun e w' => e = .returned (.int .i64 (renL rs l)) ∧ w' = w := by
  obtain ⟨h0, h1, hv⟩ := hl
  have hc := h.row (varN l) (by rw [h.len]; exact hv)
  have hs := h.small _ (atP_mem rs (varN l) (by rw [h.len]; exact hv))
  have hq := tdiv_two h0
  have hm := tmod_2 h0
  have hn := h.le
  have HR : Hid (renL rs l = 2 * atP rs (varN l) + l % 2) := rfl
  rw [HR.out]
  generalize varN l = v at hq hc hs hv HR ⊢
  generalize atP rs v = x at hc hs HR ⊢
  have hb : 0 ≤ l % 2 ∧ l % 2 ≤ 1 := by omega
  generalize l % 2 = y at hm hb HR ⊢
  obtain ⟨s0, s1⟩ := hs
  obtain ⟨b0, b1⟩ := hb
  clear h HR
  go_enter Try.func88, Try.ntmps88
  go_wp2
  go_ret
  exact ⟨by go_num, rfl⟩

/-- A slice of ints while it is filled. -/
structure LMk (w0 : World) (g m : Nat) (ps : List Int) (wr : World) : Prop where
  own : wr.ownsRow w0.heap.size 3 1 (.slice (some ⟨g, 0, none⟩) m m) m (ps.map (Value.int .i64))
  below : Below w0.heap.size w0 wr
theorem LMk.set {w0 wr : World} {g m : Nat} {ps : List Int} (h : LMk w0 g m ps wr) (i : Nat) (x : Int) : LMk w0 g m (ps.set i x) (wr.setCell ⟨g, i, none⟩ (.int .i64 x)) := by
  obtain ⟨h1, h2⟩ := h.own.stored i (.int .i64 x)
  have hgb := (h.own.lt g rfl).1
  exact ⟨by rw [List.map_set]; exact h1, h.below.grown h2 h.below.size (fun k hk => by cases hk; omega)⟩

/-- The first k are done, the others are as they were. -/
def doneK {α β : Type} (f : α → β) (z : β) (xs : List α) (k : Nat) : List β := (xs.take k).map f ++ List.replicate (xs.length - k) z
theorem doneK_zero {α β : Type} (f : α → β) (z : β) (xs : List α) : doneK f z xs 0 = List.replicate xs.length z := by simp [doneK]
theorem doneK_all {α β : Type} (f : α → β) (z : β) (xs : List α) {k : Nat} (h : xs.length = k) : doneK f z xs k = xs.map f := by subst h; simp [doneK]
theorem doneK_succ {α β : Type} [Inhabited α] (f : α → β) (z : β) (xs : List α) (k : Nat) (h : k < xs.length) : doneK f z xs (k + 1) = (doneK f z xs k).set k (f (atP xs k)) := by
  unfold doneK
  have hl : ((xs.take k).map f).length = k := by simp; omega
  have e : xs.length - k = (xs.length - (k + 1)) + 1 := by omega
  rw [take_snocP xs k h, List.map_append, List.set_append_right _ _ (by omega), hl, Nat.sub_self, e, List.replicate_succ]
  simp
theorem doneK_len {α β : Type} (f : α → β) (z : β) (xs : List α) (k : Nat) (h : k ≤ xs.length) : (doneK f z xs k).length = xs.length := by simp [doneK]; omega

set_option maxRecDepth 100000 in
set_option maxHeartbeats 1000000 in
theorem literals_any (g n : Nat) (rs : List Int) (la : Option Addr) (m lc : Nat) (xs : List Int) (w : World) (h : Ren w g n rs) (hr : RowK .i64 w la xs) (hx : xs.length = m) (hm : m ≤ 10000) (hin : ∀ l ∈ xs, LitIn n l) :
    Calls Try.prog 46 #[.slice (some ⟨g, 0, none⟩) n n, .slice la m lc] w fun e w' => ∃ v, e = .returned v ∧ NewInts w (xs.map (renL rs)) v w' := by
  obtain ⟨i0, hi, hz0, hz1, hz2⟩ := info_parts infoInt
  have HH := hide h
  have HR := hide hr
  have HX := hide hx
  have HI := hide hin
  generalize hP : (fun (e : Ending) (w' : World) => ∃ v, e = .returned v ∧ NewInts w (xs.map (renL rs)) v w') = Post
  have HP := hide hP
  clear h hr hx hin hP
  go_enter Try.func46, Try.ntmps46
  go_wp2_with (first | (at_make; refine wpList_make_full _ rfl _ _ 22 rfl w.heap.size 3 i0 (.int .i64 0) 1 Try.underlying22 hi hz0 hz1 .i64 .i64 _ _ m rfl rfl (by first | rfl | omega) (by first | rfl | omega) (by rw [hz2]; omega) (by unfold maxLen; omega) (by simp) ?_; intro w2 hown hg2; rw [madeI] at hown; have HM0 : Hid (LMk w w.heap.size m (List.replicate m 0) w2) := ⟨hown, (Below.refl _ _).grown hg2 (Nat.le_refl _) (fun k hk => by cases hk)⟩; clear hown hg2))
  go_loopw [6, 7, 13] (fun _ _ i wr => ∃ (k : Nat), i = .int .i64 k ∧ k ≤ m ∧ Hid (LMk w w.heap.size m (doneK (renL rs) 0 xs k) wr)) (fun _ _ i _ => m - (intOf i).toNat)
  case atStart => exact ⟨0, rfl, Nat.zero_le _, by rw [doneK_zero, HX.out]; exact HM0.out⟩
  case round =>
    clear HM0
    obtain ⟨k, rfl, hk, HF⟩ := hrel
    by_cases hlt : k < m
    · obtain ⟨b, off, rfl, hbw, hcell⟩ := HR.out.addr (by rw [HX.out]; omega)
      have hc0 := (HF.out.below.cell (p := ⟨b, off + k, none⟩) hbw).trans (hcell k (by rw [HX.out]; exact hlt))
      rw [atP_getD] at hc0
      have hli := hide (HI.out _ (atP_mem xs k (by rw [HX.out]; exact hlt)))
      have HS := hide (doneK_succ (renL rs) 0 xs k (by rw [HX.out]; exact hlt))
      have hcm := row_at HF.out.own k hlt
      have hfm := HF.out.own.frozenAt k
      generalize atP (doneK (renL rs) 0 xs k) k = y0 at hcm
      generalize atP xs k = x at hc0 hli HS
      have HG := hide (literalN_any g n rs x wr (HH.out.below HF.out.below) hli.out)
      clear hcell
      go_wp2_with (go_at_call 88; refine HG.out.mono ?_; rintro e w3 ⟨rfl, hw3⟩; obtain rfl := hw3.symm)
      go_roundw
      case rel => exact ⟨k + 1, by go_num, by omega, by rw [HS.out]; exact HF.out.set k _⟩
      case measure => simp [intOf]; omega
    · obtain rfl : k = m := by omega
      have hfin : Hid (Post (.returned (.slice (some ⟨w.heap.size, 0, none⟩) k k)) wr) := by
        show Post _ wr
        rw [← HP.out]
        refine ⟨_, rfl, ?_, HF.out.below⟩
        have := HF.out.own
        rw [doneK_all _ _ _ HX.out] at this
        rw [List.length_map, HX.out]
        exact this
      go_wp2
      exact hfin.out


theorem cellsT_cons (t : Tri) (ts : List Tri) : cellsT (t :: ts) = .int .i64 t.1 :: .int .i64 t.2.1 :: .int .i64 t.2.2 :: cellsT ts := rfl
theorem cellsS_cons (t : Sym) (ts : List Sym) : cellsS (t :: ts) = .int .u8 t.1 :: .int .i64 t.2.1 :: .string t.2.2 :: cellsS ts := rfl
theorem cellsT_set : ∀ (ts : List Tri) (i : Nat) (t : Tri), cellsT (ts.set i t) = (((cellsT ts).set (i * 3) (.int .i64 t.1)).set (i * 3 + 1) (.int .i64 t.2.1)).set (i * 3 + 2) (.int .i64 t.2.2)
  | [], i, t => by simp [cellsT]
  | x :: ts, 0, t => by simp [cellsT_cons]
  | x :: ts, i + 1, t => by
    rw [List.set_cons_succ, cellsT_cons, cellsT_set ts i t, cellsT_cons, show (i + 1) * 3 = i * 3 + 1 + 1 + 1 by omega]
    simp only [List.set_cons_succ]
theorem cellsS_set : ∀ (ts : List Sym) (i : Nat) (t : Sym), cellsS (ts.set i t) = (((cellsS ts).set (i * 3) (.int .u8 t.1)).set (i * 3 + 1) (.int .i64 t.2.1)).set (i * 3 + 2) (.string t.2.2)
  | [], i, t => by simp [cellsS]
  | x :: ts, 0, t => by simp [cellsS_cons]
  | x :: ts, i + 1, t => by
    rw [List.set_cons_succ, cellsS_cons, cellsS_set ts i t, cellsS_cons, show (i + 1) * 3 = i * 3 + 1 + 1 + 1 by omega]
    simp only [List.set_cons_succ]

theorem made_at (a b c : Value) (n k : Nat) (hk : k < n) : (madeCells #[a, b, c] (n * 3)).toList[k * 3]? = some a ∧ (madeCells #[a, b, c] (n * 3)).toList[k * 3 + 1]? = some b ∧ (madeCells #[a, b, c] (n * 3)).toList[k * 3 + 2]? = some c := by
  have e : ∀ i, i < n * 3 → (madeCells #[a, b, c] (n * 3)).toList[i]? = some ((#[a, b, c] : Array Value)[i % 3]!) := fun i hi => by
    rw [Array.getElem?_toList]; simp [madeCells, hi]
  have e0 : k * 3 % 3 = 0 := by omega
  have e1 : (k * 3 + 1) % 3 = 1 := by omega
  have e2 : (k * 3 + 2) % 3 = 2 := by omega
  refine ⟨?_, ?_, ?_⟩
  · rw [e _ (by omega), e0]; rfl
  · rw [e _ (by omega), e1]; rfl
  · rw [e _ (by omega), e2]; rfl
theorem made_eq {l : List Value} {a b c : Value} {n : Nat} (hl : l.length = n * 3) (h : ∀ k, k < n → l[k * 3]? = some a ∧ l[k * 3 + 1]? = some b ∧ l[k * 3 + 2]? = some c) : (madeCells #[a, b, c] (n * 3)).toList = l := by
  apply List.ext_getElem?
  intro i
  by_cases hi : i < n * 3
  · obtain ⟨k, hk, hik⟩ : ∃ k, k < n ∧ (i = k * 3 ∨ i = k * 3 + 1 ∨ i = k * 3 + 2) := ⟨i / 3, by omega, by omega⟩
    have h1 := made_at a b c n k hk
    have h2 := h k hk
    rcases hik with rfl | rfl | rfl
    · rw [h1.1, h2.1]
    · rw [h1.2.1, h2.2.1]
    · rw [h1.2.2, h2.2.2]
  · rw [List.getElem?_eq_none (by rw [Array.length_toList, size_madeCells]; omega), List.getElem?_eq_none (by omega)]
theorem madeT (n : Nat) : (madeCells (Value.agg #[.int .i64 0, .int .i64 0, .int .i64 0]).cells (n * 3)).toList = cellsT (List.replicate n (0, 0, 0)) :=
  made_eq (by rw [cellsT_len, List.length_replicate]) (fun k hk => by
    have hat := cellsT_at (List.replicate n (0, 0, 0)) k (by simpa using hk)
    rw [show atP (List.replicate n ((0, 0, 0) : Tri)) k = (0, 0, 0) from atP_replicate _ _ _ hk] at hat
    exact hat)
theorem madeS (n : Nat) : (madeCells (Value.agg #[.int .u8 0, .int .i64 0, .string ⟨#[]⟩]).cells (n * 3)).toList = cellsS (List.replicate n (0, 0, ⟨#[]⟩)) :=
  made_eq (by rw [cellsS_len, List.length_replicate]) (fun k hk => by
    have hat := cellsS_at (List.replicate n (0, 0, ⟨#[]⟩)) k (by simpa using hk)
    rw [show atP (List.replicate n ((0, 0, ⟨#[]⟩) : Sym)) k = (0, 0, ⟨#[]⟩) from atP_replicate _ _ _ hk] at hat
    exact hat)

/-- A slice of triples while it is filled. -/
structure TMk (w0 : World) (e : TypeId) (g m : Nat) (cs : List Value) (wr : World) : Prop where
  own : wr.ownsRow w0.heap.size e 3 (.slice (some ⟨g, 0, none⟩) m m) m cs
  below : Below w0.heap.size w0 wr
theorem TMk.alloc {w0 wr : World} {e : TypeId} {g m : Nat} {cs : List Value} (h : TMk w0 e g m cs wr) (o : Obj) : TMk w0 e g m cs (wr.alloc o) := ⟨h.own.alloc o, belowThen h.below (below_alloc wr o)⟩
theorem TMk.like {w0 wr : World} {e : TypeId} {g m : Nat} {cs : List Value} (h : TMk w0 e g m cs wr) (q : Nat) : TMk w0 e g m cs (wr.drewN q) := ⟨own_like h.own rfl, belowThen h.below (Drew.below ⟨q, rfl⟩)⟩
theorem TMk.set1 {w0 wr : World} {e : TypeId} {g m : Nat} {cs : List Value} (h : TMk w0 e g m cs wr) (i : Nat) (u : Value) : TMk w0 e g m (cs.set i u) (wr.setCell ⟨g, i, none⟩ u) := by
  obtain ⟨h1, h2⟩ := h.own.stored i u
  have hgb := (h.own.lt g rfl).1
  exact ⟨h1, h.below.grown h2 h.below.size (fun k hk => by cases hk; omega)⟩
theorem TMk.then {w0 wr w' : World} {e : TypeId} {g m : Nat} {cs : List Value} (h : TMk w0 e g m cs wr) (hb : Below wr.heap.size wr w') : TMk w0 e g m cs w' := ⟨own_below h.own hb, belowThen h.below hb⟩
theorem TMk.setT {w0 wr : World} {e : TypeId} {g m : Nat} {ts : List Tri} (h : TMk w0 e g m (cellsT ts) wr) (i : Nat) (t : Tri) : TMk w0 e g m (cellsT (ts.set i t)) (((wr.setCell ⟨g, i * 3, none⟩ (.int .i64 t.1)).setCell ⟨g, i * 3 + 1, none⟩ (.int .i64 t.2.1)).setCell ⟨g, i * 3 + 2, none⟩ (.int .i64 t.2.2)) := by
  rw [cellsT_set]; exact ((h.set1 _ _).set1 _ _).set1 _ _
theorem TMk.setS {w0 wr : World} {e : TypeId} {g m : Nat} {ts : List Sym} (h : TMk w0 e g m (cellsS ts) wr) (i : Nat) (t : Sym) : TMk w0 e g m (cellsS (ts.set i t)) (((wr.setCell ⟨g, i * 3, none⟩ (.int .u8 t.1)).setCell ⟨g, i * 3 + 1, none⟩ (.int .i64 t.2.1)).setCell ⟨g, i * 3 + 2, none⟩ (.string t.2.2)) := by
  rw [cellsS_set]; exact ((h.set1 _ _).set1 _ _).set1 _ _
/-- The three cells of an element. -/
theorem TMk.at3 {w0 wr : World} {e : TypeId} {g m : Nat} {cs : List Value} (h : TMk w0 e g m cs wr) (k : Nat) (hk : k < m) : ∃ u0 u1 u2, wr.cell? ⟨g, k * 3, none⟩ = some u0 ∧ wr.cell? ⟨g, k * 3 + 1, none⟩ = some u1 ∧ wr.cell? ⟨g, k * 3 + 2, none⟩ = some u2 := by
  have hl := h.own.1
  have hc := fun j (hj : j < m * 3) => h.own.cells rfl j _ (List.getElem?_eq_getElem (show j < cs.length by omega))
  have h0 := hc (k * 3) (by omega)
  have h1 := hc (k * 3 + 1) (by omega)
  have h2 := hc (k * 3 + 2) (by omega)
  rw [add_plain, Nat.zero_add] at h0 h1 h2
  exact ⟨_, _, _, h0, h1, h2⟩
end Go.Proofs.Ytppaifckiaaffaa
