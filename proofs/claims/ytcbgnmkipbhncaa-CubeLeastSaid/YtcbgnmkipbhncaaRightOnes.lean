/-
  THE WALK of rightOnes: of lists those that can be put in order, each with its place.
-/
import Derived.Test.YtcbgnmkipbhncaaOrderP
namespace Go.Proofs.Ytcbgnmkipbhncaa
open Go.RowKit
set_option linter.unusedSectionVars false
variable [Inhabited El]

/-- A slice of signs that can be read; its block is there. -/
def ElOk (w : World) (e : El) : Prop := RowK .i64 w e.a e.xs ∧ (e.a = none → e.c = 0) ∧ ∀ x, e.a = some x → x.block < w.heap.size
theorem row_kept {k : IntKind} {w w' : World} {a : Option Addr} {xs : List Int} (h : RowK k w a xs) (hb : ∀ x, a = some x → w'.heap[x.block]? = w.heap[x.block]?) : RowK k w' a xs := by
  rcases h with h | ⟨x, rfl, hx⟩
  · exact .inl h
  · refine .inr ⟨x, rfl, fun i hi => ?_⟩
    have hbk : (x.add i).block = x.block := by unfold Addr.add; split <;> rfl
    rw [World.cell?_of_block (w := w) (a := x.add i) (by rw [hbk]; exact hb x rfl)]
    exact hx i hi
theorem ElOk.kept {w w' : World} {e : El} (h : ElOk w e) (hb : ∀ x, e.a = some x → w'.heap[x.block]? = w.heap[x.block]?) (hs : w.heap.size ≤ w'.heap.size) : ElOk w' e :=
  ⟨row_kept h.1 hb, h.2.1, fun x hx => Nat.lt_of_lt_of_le (h.2.2 x hx) hs⟩
theorem ElOk.below {w w' : World} {e : El} (h : ElOk w e) (hb : Below w.heap.size w w') : ElOk w' e := h.kept (fun x hx => hb.block _ (h.2.2 x hx)) hb.size

/-- A slice of signs that came in. -/
def ElArg (w : World) (e : El) : Prop := RowK .i64 w e.a e.xs ∧ (e.a = none → e.c = 0)
theorem ElArg.below {w w' : World} {e : El} (h : ElArg w e) (hb : Below w.heap.size w w') : ElArg w' e := ⟨h.1.below hb, h.2⟩
theorem ElOk.arg {w : World} {e : El} (h : ElOk w e) : ElArg w e := ⟨h.1, h.2.1⟩

/-- A slice of slices of ints: what came in, or was made. -/
def RowL (w : World) (a : Option Addr) (es : List El) : Prop := (a = none ∧ es = []) ∨ ∃ x, a = some x ∧ ∀ i, i < es.length → w.cell? (x.add i) = some (atP es i).v
theorem RowL.below {w w' : World} {a : Option Addr} {es : List El} (h : RowL w a es) (hb : Below w.heap.size w w') : RowL w' a es := by
  rcases h with h | ⟨x, rfl, hx⟩
  · exact .inl h
  · exact .inr ⟨x, rfl, fun i hi => by have h1 := hx i hi; exact (hb.cell (block_lt_of_cell h1)).trans h1⟩
theorem RowL.addr {w : World} {a : Option Addr} {es : List El} (h : RowL w a es) (hp : 0 < es.length) : ∃ b off, a = some ⟨b, off, none⟩ ∧ b < w.heap.size ∧ ∀ i, i < es.length → w.cell? ⟨b, off + i, none⟩ = some (atP es i).v := by
  rcases h with ⟨_, rfl⟩ | ⟨⟨b, off, spot⟩, rfl, hx⟩
  · simp at hp
  · have hc := hx 0 hp
    have hspot : spot = none := by simpa [Addr.add] using World.cell?_spot hc
    subst hspot
    refine ⟨b, off, rfl, ?_, fun i hi => ?_⟩
    · have := block_lt_of_cell hc
      rw [add_plain] at this
      exact this
    · have h1 := hx i hi
      rw [← add_plain]
      exact h1

def keyE (e : El) : Int × List Int := (e.place, e.xs)
/-- Those that can be put in order, each with its place. -/
def rights : Int → List (List Int) → List (Int × List Int)
  | _, [] => []
  | i, l :: r => if goodB l = true then (i, cubeA l) :: rights (i + 1) r else rights (i + 1) r
theorem rights_append (i : Int) (l r : List (List Int)) : rights i (l ++ r) = rights i l ++ rights (i + l.length) r := by
  induction l generalizing i with
  | nil => simp [rights]
  | cons x l ih =>
    simp only [List.cons_append, rights, List.length_cons]
    have e : i + 1 + (l.length : Int) = i + ((l.length + 1 : Nat) : Int) := by omega
    split
    · rw [ih, List.cons_append, e]
    · rw [ih, e]
def xsOf (es : List El) : List (List Int) := es.map fun e => e.xs

structure RoMid (w0 : World) (es : List El) (k q : Nat) (v : Value) (rs : List El) (wr : World) : Prop where
  own : wr.ownsRow w0.heap.size 53 2 v q (cellsE rs)
  below : Below w0.heap.size w0 wr
  keys : rs.map keyE = rights 0 (xsOf (es.take k))
  oks : ∀ r ∈ rs, ElOk wr r
  apart : ∀ r ∈ rs, ∀ x, r.a = some x → v.ownBlock ≠ some x.block
  len : rs.length = q

/-- WHAT rightOnes TELLS. -/
def RoPost (w : World) (es : List El) (e : Ending) (w' : World) : Prop := ∃ v rs, e = .returned v ∧ NewEls w rs v w' ∧ rs.map keyE = rights 0 (xsOf es) ∧ ∀ r ∈ rs, ElOk w' r

theorem xsOf_take (es : List El) (k : Nat) (h : k < es.length) : xsOf (es.take (k + 1)) = xsOf (es.take k) ++ [(atP es k).xs] := by
  rw [List.take_succ_eq_append_getElem h, ← atP_eq es k h]; simp [xsOf]
theorem rights_step (es : List El) (k : Nat) (h : k < es.length) : rights 0 (xsOf (es.take (k + 1))) = rights 0 (xsOf (es.take k)) ++ (if goodB (atP es k).xs = true then [((k : Int), cubeA (atP es k).xs)] else []) := by
  rw [xsOf_take es k h, rights_append]
  have e : (xsOf (es.take k)).length = k := by simp [xsOf]; omega
  rw [e]
  simp only [rights, Int.zero_add]

set_option maxRecDepth 100000 in
set_option maxHeartbeats 1000000 in
theorem rightOnes_any (a : Option Addr) (n c : Nat) (es : List El) (w : World) (hr : RowL w a es) (hx : es.length = n) (hn : n ≤ 1000) (hok : ∀ e ∈ es, ElArg w e ∧ e.xs.length ≤ 1000) :
    Calls Try.prog 41 #[.slice a n c] w (RoPost w es) := by
  obtain ⟨i0, hi, hz0, hz1, hz2⟩ := info_parts infoE
  have HR := hide hr
  have HX := hide hx
  have HK := hide hok
  generalize hP : RoPost w es = Post
  have HP := hide hP
  clear hr hx hok hP
  go_enter Try.func41, Try.ntmps41
  go_wp2
  go_loopw [3, 10] (fun v i wr => ∃ (k q : Nat) (rs : List El), i = .int .i64 k ∧ k ≤ n ∧ q ≤ k ∧ Hid (RoMid w es k q v rs wr)) (fun _ i _ => n - (intOf i).toNat)
  case atStart => exact ⟨0, 0, [], rfl, Nat.zero_le _, Nat.le_refl _, World.ownsRow_nil _ _ _ _, Below.refl _ _, rfl, (fun r hr => by cases hr), (fun r hr => by cases hr), rfl⟩
  case round =>
    obtain ⟨k, q, rs, rfl, hk, hq, HM⟩ := hrel
    by_cases hlt : k < n
    · obtain ⟨b, off, rfl, hbw, hcell⟩ := HR.out.addr (by rw [HX.out]; omega)
      have hc := (HM.out.below.cell (p := ⟨b, off + k, none⟩) hbw).trans (hcell k (by rw [HX.out]; exact hlt))
      have hst := rights_step es k (by rw [HX.out]; exact hlt)
      have hek := HK.out _ (atP_mem es k (by rw [HX.out]; exact hlt))
      obtain ⟨x, HXX⟩ : ∃ x, Hid (x = atP es k) := ⟨_, rfl⟩
      rw [← HXX.out] at hc hst hek
      obtain ⟨pl, xa, xc, xs⟩ := x
      obtain ⟨hek1, hlen⟩ := hek
      dsimp only at hst hlen
      have HO := hide (of_any xa xs.length xc xs wr ((hek1.below HM.out.below).1) rfl hek1.2 (by omega))
      have hc' : wr.cell? ⟨b, off + k, none⟩ = some (.slice xa xs.length xc) := hc
      have HST := hide hst
      clear hcell hc hst hek1
      go_wp2_with fail
      refine HO.out.mono ?_
      rintro e w2 ⟨v2, rfl, hown2, hb2⟩
      have hlt2 := hown2.lt
      obtain ⟨a2, c2, rfl, hrow2, hnc2, -, -, -⟩ := row_of_own hown2
      have hblk : ∀ y, a2 = some y → wr.heap.size ≤ y.block ∧ y.block < w2.heap.size := fun y hy => by subst hy; exact hlt2 _ rfl
      have hsz2 := hb2.size
      have hszr := HM.out.below.size
      have H2 := hide (And.intro hrow2 (And.intro hnc2 (And.intro hblk hb2)))
      clear hown2 hlt2 hrow2 hnc2 hblk hb2 HO
      have hmid : Hid (RoMid w es k q u3 rs w2) := by
        have hm := HM.out
        have hb := H2.out.2.2.2
        exact ⟨own_below hm.own hb, hm.below.trans (hb.mono hszr), hm.keys, fun r hr => (hm.oks r hr).below hb, hm.apart, hm.len⟩
      have hvb : Hid (∀ y, a2 = some y → u3.ownBlock ≠ some y.block) := fun y hy e => by
        have h1 := (HM.out.own.lt _ e).2
        have h2 := (H2.out.2.2.1 y hy).1
        omega
      cases hg : goodB xs with
      | false =>
        go_wp2_with fail
        go_roundw
        case rel =>
          have hm := hmid.out
          refine ⟨k + 1, q, rs, by go_num, by omega, by omega, hm.own, hm.below, ?_, hm.oks, hm.apart, hm.len⟩
          rw [HST.out, hg, hm.keys]; simp
        case measure => simp [intOf]; omega
      | true =>
        obtain ⟨m, HML⟩ : ∃ m, Hid (m = (cubeA xs).length) := ⟨_, rfl⟩
        rw [← HML.out]
        have hown := hmid.out.own
        go_wp2_with (at_builtin; refine wpList_append_own_at _ rfl (.tmp 21) (.tmp 25) 47 rfl w.heap.size 53 i0 (.agg #[.int .i64 0, .slice none 0 0]) 2 32 Try.underlying47 hi hz0 hz1 hz2 rfl (by decide) _ _ _ rfl (hown.alloc _) ⟨w2.heap.size, 0, none⟩ 1 1 [.int .i64 k, .slice a2 m c2] rfl rfl (cell_two_new _ _ _ _) (by intro u hu; simp at hu; rcases hu with rfl | rfl <;> rfl) (by unfold maxLen; omega) (by omega) (by simp; omega) ?_; intro v6 w6 hown6 hg6 _ hat6)
        go_roundw
        case rel =>
          have hm := hmid.out
          have hks : ∀ j, j < w2.heap.size → u3.ownBlock ≠ some j → w6.heap[j]? = w2.heap[j]? := fun j hj hne =>
            (hg6.block j (by simp; omega) (fun e => hne e.symm)).trans ((World.grownBy_alloc w2 _ none).block j hj (by simp))
          have hs6 : w2.heap.size ≤ w6.heap.size := by have := hg6.size; simp at this; omega
          have hnew : ElOk w6 ⟨k, a2, c2, cubeA xs⟩ := ⟨row_kept H2.out.1 (fun y hy => hks _ (H2.out.2.2.1 y hy).2 (hvb.out y hy)), H2.out.2.1, fun y hy => by have := (H2.out.2.2.1 y hy).2; omega⟩
          have hfresh : ∀ y : Addr, y.block < w2.heap.size → u3.ownBlock ≠ some y.block → v6.ownBlock ≠ some y.block := fun y hy hne e => by
            rcases hat6 with h | h
            · exact hne (h ▸ e)
            · rw [h] at e; have e2 := Option.some.inj e; simp at e2; omega
          refine ⟨k + 1, q + 1, rs ++ [⟨k, a2, c2, cubeA xs⟩], by go_num, by omega, by omega, ?_, ?_, ?_, ?_, ?_, by simp [hm.len]⟩
          · rw [cellsE_append]
            have e : cellsE [⟨k, a2, c2, cubeA xs⟩] = [.int .i64 k, .slice a2 m c2] := by simp [cellsE, El.v, HML.out]
            rw [e]; exact hown6
          · exact below_step hm.below hg6 (by omega) (fun j hj => (hm.own.lt j hj).1) ⟨rfl, rfl, rfl, rfl⟩
          · rw [HST.out, hg, if_pos rfl, List.map_append, hm.keys]; rfl
          · intro r hr
            rcases List.mem_append.1 hr with h | h
            · exact (hm.oks r h).kept (fun y hy => hks _ ((hm.oks r h).2.2 y hy) (hm.apart r h y hy)) hs6
            · rw [List.mem_singleton] at h; subst h; exact hnew
          · intro r hr y hy
            rcases List.mem_append.1 hr with h | h
            · exact hfresh y ((hm.oks r h).2.2 y hy) (hm.apart r h y hy)
            · rw [List.mem_singleton] at h; subst h
              exact hfresh y (H2.out.2.2.1 y hy).2 (hvb.out y hy)
        case measure => simp [intOf]; omega
    · obtain rfl : k = n := by omega
      have hfin : Hid (Post (.returned u3) wr) := by
        show Post (.returned u3) wr
        rw [← HP.out]
        have hm := HM.out
        have hk2 := hm.keys
        rw [List.take_of_length_le (by rw [HX.out]; exact Nat.le_refl _)] at hk2
        exact ⟨u3, rs, rfl, ⟨by rw [hm.len]; exact hm.own, hm.below⟩, hk2, hm.oks⟩
      go_wp2
      exact hfin.out
end Go.Proofs.Ytcbgnmkipbhncaa
