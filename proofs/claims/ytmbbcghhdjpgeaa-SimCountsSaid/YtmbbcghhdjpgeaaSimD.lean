/-
  THE WALKS of layer 8's Step, and of slices.Index and slices.Contains at bools.
  THE WALK of layer 8's Step, of a circuit, a state and inputs that fit.
  THE WALKS of the reference's Lit, lits, every, nexts, SameBools.
-/
import Derived.Test.YtmbbcghhdjpgeaaSimA

namespace Go.Proofs.Ytmbbcghhdjpgeaa
open Go.RowKit

/-- A step's row as a value. -/
structure RV where
  a1 : Option Addr
  n1 : Nat
  c1 : Nat
  a2 : Option Addr
  n2 : Nat
  c2 : Nat
  a3 : Option Addr
  n3 : Nat
  c3 : Nat
  h : Bool
def RV.v (r : RV) : Value := .agg #[.slice r.a1 r.n1 r.c1, .slice r.a2 r.n2 r.c2, .slice r.a3 r.n3 r.c3, .bool r.h]
def RV.nil : RV := ⟨none, 0, 0, none, 0, 0, none, 0, 0, false⟩
structure RHolds (w : World) (r : RV) (R : RowV) : Prop where
  r1 : RowB w r.a1 R.next
  l1 : R.next.length = r.n1
  r2 : RowB w r.a2 R.outs
  l2 : R.outs.length = r.n2
  r3 : RowB w r.a3 R.bads
  l3 : R.bads.length = r.n3
  h : R.holds = r.h
theorem RHolds.below {w w' : World} {r : RV} {R : RowV} (h : RHolds w r R) (hb : Below w.heap.size w w') : RHolds w' r R := ⟨h.r1.below hb, h.l1, h.r2.below hb, h.l2, h.r3.below hb, h.l3, h.h⟩
theorem rholds_nil (w : World) : RHolds w RV.nil RowV.nil := ⟨.inl ⟨rfl, rfl⟩, rfl, .inl ⟨rfl, rfl⟩, rfl, .inl ⟨rfl, rfl⟩, rfl, rfl⟩
def RBox (w : World) (b : Nat) (r : RV) : Prop := w.heap[b]? = some (.cells #[.slice r.a1 r.n1 r.c1, .slice r.a2 r.n2 r.c2, .slice r.a3 r.n3 r.c3, .bool r.h] 37 (0, 0))
theorem rbox_new (w : World) (r : RV) : RBox (w.alloc (.cells #[.slice r.a1 r.n1 r.c1, .slice r.a2 r.n2 r.c2, .slice r.a3 r.n3 r.c3, .bool r.h] 37)) w.heap.size r := heap_alloc_new w _
theorem RBox.lt {w : World} {b : Nat} {r : RV} (h : RBox w b r) : b < w.heap.size := (Array.getElem?_eq_some_iff.1 h).1
theorem RBox.below {w w' : World} {b : Nat} {r : RV} (h : RBox w b r) (hb : Below w.heap.size w w') : RBox w' b r := (hb.block b h.lt).trans h
theorem RBox.cells {w : World} {b : Nat} {r : RV} (h : RBox w b r) : w.cell? ⟨b, 0, none⟩ = some (.slice r.a1 r.n1 r.c1) ∧ w.cell? ⟨b, 1, none⟩ = some (.slice r.a2 r.n2 r.c2) ∧ w.cell? ⟨b, 2, none⟩ = some (.slice r.a3 r.n3 r.c3) ∧ w.cell? ⟨b, 3, none⟩ = some (.bool r.h) :=
  ⟨cell_of_row _ _ 0 _ _ (0, 0) h, cell_of_row _ _ 1 _ _ (0, 0) h, cell_of_row _ _ 2 _ _ (0, 0) h, cell_of_row _ _ 3 _ _ (0, 0) h⟩
theorem rbox_frozen {w : World} {b : Nat} {r : RV} (h : RBox w b r) (j : Nat) : w.frozen? ⟨b, j, none⟩ = false := frozen_of_row w b j _ _ h
theorem rbox_four {w : World} {b : Nat} {r r' : RV} (h : RBox w b r) (j : Nat) (v : Value)
    (hc : ((#[.slice r.a1 r.n1 r.c1, .slice r.a2 r.n2 r.c2, .slice r.a3 r.n3 r.c3, .bool r.h] : Array Value).setIfInBounds j v) = #[.slice r'.a1 r'.n1 r'.c1, .slice r'.a2 r'.n2 r'.c2, .slice r'.a3 r'.n3 r'.c3, .bool r'.h]) : RBox (w.setCell ⟨b, j, none⟩ v) b r' := by
  have : (w.setCell ⟨b, j, none⟩ v).heap[b]? = some (.cells ((#[.slice r.a1 r.n1 r.c1, .slice r.a2 r.n2 r.c2, .slice r.a3 r.n3 r.c3, .bool r.h] : Array Value).setIfInBounds j v) 37 (0, 0)) := heap_setCell_same w b j _ _ v h
  rw [hc] at this
  exact this
def putRow (W : World) (b : Nat) (d : RV) : World :=
  (((W.setCell ⟨b, 0, none⟩ (.slice d.a1 d.n1 d.c1)).setCell ⟨b, 1, none⟩ (.slice d.a2 d.n2 d.c2)).setCell ⟨b, 2, none⟩ (.slice d.a3 d.n3 d.c3)).setCell ⟨b, 3, none⟩ (.bool d.h)
theorem rbox_put {W : World} {b : Nat} {r : RV} (d : RV) (h : RBox W b r) : RBox (putRow W b d) b d := by
  have h0 := rbox_four (r' := { r with a1 := d.a1, n1 := d.n1, c1 := d.c1 }) h 0 (.slice d.a1 d.n1 d.c1) rfl
  have h1 := rbox_four (r' := { r with a1 := d.a1, n1 := d.n1, c1 := d.c1, a2 := d.a2, n2 := d.n2, c2 := d.c2 }) h0 1 (.slice d.a2 d.n2 d.c2) rfl
  have h2 := rbox_four (r' := { d with h := r.h }) h1 2 (.slice d.a3 d.n3 d.c3) rfl
  exact rbox_four (r' := d) h2 3 (.bool d.h) rfl
theorem two_putR (W : World) (b : Nat) (d : RV) : Two b b W (putRow W b d) := (((((Two.refl b b W).setL 0 _).setL 1 _).setL 2 _).setL 3 _)

/-- The boxes of a function that takes a circuit and tells a row. -/
structure StepS (w0 : World) (b : Nat) (c : CV) (W : World) : Prop where
  box : Box W b c
  res : RBox W (b + 1) RV.nil
  below : Below w0.heap.size w0 W
  le : w0.heap.size ≤ b
theorem StepS.then {w0 W W' : World} {b : Nat} {c : CV} (h : StepS w0 b c W) (hb : Below W.heap.size W W') : StepS w0 b c W' := ⟨h.box.below hb, h.res.below hb, belowThen h.below hb, h.le⟩
theorem step_start (w : World) (c : CV) : StepS w w.heap.size c ((w.alloc (.cells #[.int .i64 c.m, .slice c.a1 c.n1 c.c1, .slice c.a2 c.n2 c.c2, .slice c.a3 c.n3 c.c3, .slice c.a4 c.n4 c.c4, .slice c.a5 c.n5 c.c5, .slice c.a6 c.n6 c.c6, .slice c.a7 c.n7 c.c7] 27)).alloc (.cells #[.slice none 0 0, .slice none 0 0, .slice none 0 0, .bool false] 37)) := by
  refine ⟨(box_new w c).alloc _, ?_, belowThen (below_alloc w _) (below_alloc _ _), Nat.le_refl _⟩
  have := rbox_new (w.alloc (.cells #[.int .i64 c.m, .slice c.a1 c.n1 c.c1, .slice c.a2 c.n2 c.c2, .slice c.a3 c.n3 c.c3, .slice c.a4 c.n4 c.c4, .slice c.a5 c.n5 c.c5, .slice c.a6 c.n6 c.c6, .slice c.a7 c.n7 c.c7] 27)) RV.nil
  have e : ∀ o, (w.alloc o).heap.size = w.heap.size + 1 := fun o => by simp
  rw [e] at this
  exact this

set_option maxRecDepth 100000 in
set_option maxHeartbeats 1000000 in
theorem index_any (la : Option Addr) (m lc : Nat) (bs : List Bool) (w : World) (hr : RowB w la bs) (hx : bs.length = m) (hm : m ≤ 1000000) :
    Calls Try.prog 79 #[.slice la m lc, .bool false] w fun e w' => ((bs.all id = true ∧ e = .returned (.int .i64 (-1))) ∨ (bs.all id = false ∧ ∃ j : Nat, e = .returned (.int .i64 j))) ∧ w' = w := by
  have HR := hide hr
  have HX := hide hx
  generalize hP : (fun (e : Ending) (w' : World) => ((bs.all id = true ∧ e = .returned (.int .i64 (-1))) ∨ (bs.all id = false ∧ ∃ j : Nat, e = .returned (.int .i64 j))) ∧ w' = w) = Post
  have HP := hide hP
  clear hr hx hP
  go_enter Try.func79, Try.ntmps79
  go_wp2
  go_loop [5, 8] (fun _ i => ∃ k : Nat, i = .int .i64 k ∧ k ≤ m ∧ Hid (∀ j, j < k → atP bs j = true)) (fun _ i => m - (intOf i).toNat)
  case atStart => exact ⟨0, rfl, Nat.zero_le _, fun j hj => absurd hj (Nat.not_lt_zero _)⟩
  case round =>
    obtain ⟨k, rfl, hk, HF⟩ := hrel
    by_cases hlt : k < m
    · obtain ⟨b, off, rfl, -, hcell⟩ := HR.out.addr (by rw [HX.out]; omega)
      have hc := hcell k (by rw [HX.out]; exact hlt)
      have HMem := hide (atP_mem bs k (by rw [HX.out]; exact hlt))
      obtain ⟨y, HY⟩ : ∃ y, Hid (y = atP bs k) := ⟨_, rfl⟩
      rw [← HY.out] at hc HMem
      clear hcell
      cases y with
      | false =>
        have hfin : Hid (Post (.returned (.int .i64 (k : Int))) w) := by
          show Post _ w
          rw [← HP.out]
          refine ⟨.inr ⟨?_, k, rfl⟩, rfl⟩
          rw [← Bool.not_eq_true, List.all_eq_true]
          exact fun h => absurd (h _ HMem.out) (by decide)
        clear HY
        go_wp2
        exact hfin.out
      | true =>
        go_wp2
        go_round
        case rel =>
          refine ⟨k + 1, by go_num, by omega, fun j hj => ?_⟩
          by_cases e : j = k
          · rw [e]; exact HY.out.symm
          · exact HF.out j (by omega)
        case measure => simp [intOf]; omega
    · obtain rfl : k = m := by omega
      have hfin : Hid (Post (.returned (.int .i64 (-1))) w) := by
        show Post _ w
        rw [← HP.out]
        refine ⟨.inl ⟨?_, rfl⟩, rfl⟩
        rw [List.all_eq_true]
        intro x hx
        obtain ⟨i, hi, e⟩ := List.getElem_of_mem hx
        rw [← e, ← atP_eq _ _ hi]
        exact HF.out i (by rw [← HX.out]; exact hi)
      go_wp2
      exact hfin.out

set_option maxRecDepth 100000 in
set_option maxHeartbeats 1000000 in
theorem contains_any (la : Option Addr) (m lc : Nat) (bs : List Bool) (w : World) (hr : RowB w la bs) (hx : bs.length = m) (hm : m ≤ 1000000) :
    Calls Try.prog 47 #[.slice la m lc, .bool false] w fun e w' => e = .returned (.bool (!bs.all id)) ∧ w' = w := by
  have HI := hide (index_any la m lc bs w hr hx hm)
  clear hr hx
  go_enter Try.func47, Try.ntmps47
  go_wp2_with fail
  refine HI.out.mono ?_
  rintro e w' ⟨⟨ha, rfl⟩ | ⟨ha, j, rfl⟩, hw'⟩
  · obtain rfl := hw'.symm
    have Ha := hide ha
    clear HI ha hw'
    go_wp2
    go_ret
    exact ⟨by rw [Ha.out]; rfl, rfl⟩
  · obtain rfl := hw'.symm
    have Ha := hide ha
    have hj : (0 : Int) ≤ (j : Int) := by omega
    clear HI ha hw'
    go_wp2
    go_ret
    exact ⟨by rw [Ha.out]; simp, rfl⟩

theorem set_bad (c : CV) (C : Circ) (w : World) (sa ia : Option Addr) (sn sc inn ic : Nat) (st is : List Bool) (h : Holds w c C) (hf : Fits c C) (hs : RowB w sa st) (hsl : st.length = sn) (hi : RowB w ia is) (hil : is.length = inn) (hbad : C.stepI st is ≠ 0) :
    ∀ W, Below w.heap.size w W → Calls Try.prog 41 #[LG, c.v, .slice sa sn sc, .slice ia inn ic] W fun e w' => e = .returned (.tuple #[.pointer none, .int .i64 (C.stepI st is)]) ∧ Below W.heap.size W w' := fun W hb => (settled_any c C W sa ia sn sc inn ic st is (h.below hb) hf (hs.below hb) hsl (hi.below hb) hil).mono (fun e w' hh => by
    rcases hh.2 with ⟨-, he⟩ | ⟨h0, -⟩
    · exact ⟨he, hh.1⟩
    · exact absurd h0 hbad)
theorem set_good (c : CV) (C : Circ) (w : World) (sa ia : Option Addr) (sn sc inn ic : Nat) (st is : List Bool) (h : Holds w c C) (hf : Fits c C) (hs : RowB w sa st) (hsl : st.length = sn) (hi : RowB w ia is) (hil : is.length = inn) (hgood : C.stepI st is = 0) :
    ∀ W, Below w.heap.size w W → Calls Try.prog 41 #[LG, c.v, .slice sa sn sc, .slice ia inn ic] W fun e w' => ∃ sb g, e = .returned (.tuple #[.pointer (some ⟨sb, 0, none⟩), .int .i64 0]) ∧ SBox w' sb (some ⟨g, 0, none⟩) (C.max.toNat + 1) (C.max.toNat + 1) ∧ w'.ownsRow W.heap.size 4 1 (.slice (some ⟨g, 0, none⟩) (C.max.toNat + 1) (C.max.toNat + 1)) (C.max.toNat + 1) ((C.vals st is).map Value.bool) ∧ Below W.heap.size W w' := fun W hb => (settled_any c C W sa ia sn sc inn ic st is (h.below hb) hf (hs.below hb) hsl (hi.below hb) hil).mono (fun e w' hh => by
    rcases hh.2 with ⟨h0, -⟩ | ⟨-, sb, g, rfl, hbx, hown⟩
    · exact absurd hgood h0
    · exact ⟨sb, g, rfl, hbx, hown, hh.1⟩)

set_option maxRecDepth 100000 in
set_option maxHeartbeats 2000000 in
theorem sValues_any (c : CV) (C : Circ) (w : World) (sa ia : Option Addr) (sn sc inn ic : Nat) (st is : List Bool) (h : Holds w c C) (hf : Fits c C) (hs : RowB w sa st) (hsl : st.length = sn) (hi : RowB w ia is) (hil : is.length = inn) :
    Calls Try.prog 15 #[c.v, .slice sa sn sc, .slice ia inn ic] w (SettlePost w C st is) := by
  obtain ⟨W0, hW0⟩ : ∃ W0, W0 = w.alloc (.cells #[.int .i64 c.m, .slice c.a1 c.n1 c.c1, .slice c.a2 c.n2 c.c2, .slice c.a3 c.n3 c.c3, .slice c.a4 c.n4 c.c4, .slice c.a5 c.n5 c.c5, .slice c.a6 c.n6 c.c6, .slice c.a7 c.n7 c.c7] 27) := ⟨_, rfl⟩
  have HB : Hid (Box W0 w.heap.size c) := by rw [hW0]; exact box_new w c
  have HW : Hid (Below w.heap.size w W0) := by rw [hW0]; exact below_alloc w _
  have HLg : Hid (∀ W, Calls Try.prog 40 #[] W fun e w' => e = .returned (.agg #[.func (.func 76) #[] #[], .func (.func 77) #[] #[]]) ∧ Below W.heap.size W w') := fun W => sLogic_any W
  generalize hP : SettlePost w C st is = Post
  have HP := hide hP
  clear hP
  by_cases hbad : C.stepI st is ≠ 0
  · have HC := hide (set_bad c C w sa ia sn sc inn ic st is h hf hs hsl hi hil hbad)
    have hend : Hid (∀ W, Below w.heap.size w W → Post (.returned (.tuple #[.slice none 0 0, .int .i64 (C.stepI st is)])) W) := fun W hb => by
      rw [← HP.out]; exact ⟨hb, .inl ⟨hbad, rfl⟩⟩
    generalize C.stepI st is = ck at HC hbad hend
    have hck : (ck != 0) = true := by simpa using hbad
    unfold LG CV.v at HC
    unfold CV.v
    clear h hf hs hsl hi hil hbad
    go_enter Try.func15, Try.ntmps15
    go_upto_region 1 with fail
    rw [← hW0]
    clear hW0
    obtain ⟨q0, q1, q2, q3, q4, q5, q6, q7⟩ := HB.out.cells
    go_region_held3 (fun w' => w'.cell? ⟨w.heap.size, 0, none⟩ = some (.int .i64 c.m) ∧ w'.cell? ⟨w.heap.size, 1, none⟩ = some (.slice c.a1 c.n1 c.c1) ∧ w'.cell? ⟨w.heap.size, 2, none⟩ = some (.slice c.a2 c.n2 c.c2) ∧ w'.cell? ⟨w.heap.size, 3, none⟩ = some (.slice c.a3 c.n3 c.c3) ∧ w'.cell? ⟨w.heap.size, 4, none⟩ = some (.slice c.a4 c.n4 c.c4) ∧ w'.cell? ⟨w.heap.size, 5, none⟩ = some (.slice c.a5 c.n5 c.c5) ∧ w'.cell? ⟨w.heap.size, 6, none⟩ = some (.slice c.a6 c.n6 c.c6) ∧ w'.cell? ⟨w.heap.size, 7, none⟩ = some (.slice c.a7 c.n7 c.c7)) (go_keep) (first | (go_at_call 40; refine (HLg.out _).mono ?_; rintro e w1 ⟨rfl, hb1⟩; have hB1 : Below W0.heap.size W0 w1 := belowThen (Drew.below ⟨1, rfl⟩) hb1; obtain ⟨p0, p1, p2, p3, p4, p5, p6, p7⟩ := (HB.out.below hB1).cells) | (go_at_call 41; refine (HC.out _ (belowThen HW.out hB1)).mono ?_; rintro e w2 ⟨rfl, hb2⟩; have hB2 := hide (belowThen HW.out (belowThen hB1 hb2)); obtain ⟨r0, r1, r2, r3, r4, r5, r6, r7⟩ := (HB.out.below (belowThen hB1 hb2)).cells))
    go_wp2
    exact hend.out _ hB2.out
  · have hgood : C.stepI st is = 0 := by simpa using hbad
    have HC := hide (set_good c C w sa ia sn sc inn ic st is h hf hs hsl hi hil hgood)
    obtain ⟨n, hn⟩ : ∃ n, n = C.max.toNat + 1 := ⟨_, rfl⟩
    rw [← hn] at HC
    have hend : Hid (∀ W w1 g, Below w.heap.size w w1 → Below w1.heap.size w1 W → W.ownsRow w1.heap.size 4 1 (.slice (some ⟨g, 0, none⟩) n n) n ((C.vals st is).map Value.bool) → Post (.returned (.tuple #[.slice (some ⟨g, 0, none⟩) n n, .int .i64 0])) W) := fun W w1 g h1 h2 h3 => by
      rw [← HP.out]
      subst hn
      exact ⟨belowThen h1 h2, .inr ⟨hgood, g, rfl, own_le h3 h1.size⟩⟩
    unfold LG CV.v at HC
    unfold CV.v
    clear h hf hs hsl hi hil hbad hgood hn
    go_enter Try.func15, Try.ntmps15
    go_upto_region 1 with fail
    rw [← hW0]
    clear hW0
    obtain ⟨q0, q1, q2, q3, q4, q5, q6, q7⟩ := HB.out.cells
    go_region_held3 (fun w' => w'.cell? ⟨w.heap.size, 0, none⟩ = some (.int .i64 c.m) ∧ w'.cell? ⟨w.heap.size, 1, none⟩ = some (.slice c.a1 c.n1 c.c1) ∧ w'.cell? ⟨w.heap.size, 2, none⟩ = some (.slice c.a2 c.n2 c.c2) ∧ w'.cell? ⟨w.heap.size, 3, none⟩ = some (.slice c.a3 c.n3 c.c3) ∧ w'.cell? ⟨w.heap.size, 4, none⟩ = some (.slice c.a4 c.n4 c.c4) ∧ w'.cell? ⟨w.heap.size, 5, none⟩ = some (.slice c.a5 c.n5 c.c5) ∧ w'.cell? ⟨w.heap.size, 6, none⟩ = some (.slice c.a6 c.n6 c.c6) ∧ w'.cell? ⟨w.heap.size, 7, none⟩ = some (.slice c.a7 c.n7 c.c7)) (go_keep) (first | (go_at_call 40; refine (HLg.out _).mono ?_; rintro e w1 ⟨rfl, hb1⟩; have hB1 : Below W0.heap.size W0 w1 := belowThen (Drew.below ⟨1, rfl⟩) hb1; obtain ⟨p0, p1, p2, p3, p4, p5, p6, p7⟩ := (HB.out.below hB1).cells) | (go_at_call 41; refine (HC.out _ (belowThen HW.out hB1)).mono ?_; rintro e w2 ⟨sb, g, rfl, hbx, hown, hb2⟩; have hE := hide (hend.out w2 _ g (belowThen HW.out hB1) hb2 hown); obtain ⟨c0, c1, c2⟩ := hbx.cells; obtain ⟨r0, r1, r2, r3, r4, r5, r6, r7⟩ := (HB.out.below (belowThen hB1 hb2)).cells))
    clear hend HC HLg
    go_wp2
    exact hE.out

/-- What Step tells. -/
def StepPost (w : World) (C : Circ) (st is : List Bool) (e : Ending) (w' : World) : Prop :=
  ∃ r : RV, e = .returned (.tuple #[r.v, .int .i64 (C.stepI st is)]) ∧ RHolds w' r (C.stepE st is) ∧ Below w.heap.size w w'

set_option maxRecDepth 100000 in
set_option maxHeartbeats 4000000 in
theorem step_bad (c : CV) (C : Circ) (w : World) (sa ia : Option Addr) (sn sc inn ic : Nat) (st is : List Bool) (h : Holds w c C) (hf : Fits c C) (hs : RowB w sa st) (hsl : st.length = sn) (hi : RowB w ia is) (hil : is.length = inn) (hbad : C.stepI st is ≠ 0) :
    Calls Try.prog 17 #[c.v, .slice sa sn sc, .slice ia inn ic] w (StepPost w C st is) := by
  have HC := hide (set_bad c C w sa ia sn sc inn ic st is h hf hs hsl hi hil hbad)
  have HLg : Hid (∀ W, Calls Try.prog 40 #[] W fun e w' => e = .returned (.agg #[.func (.func 76) #[] #[], .func (.func 77) #[] #[]]) ∧ Below W.heap.size W w') := fun W => sLogic_any W
  have S0 := hide (step_start w c)
  have hE : Hid (C.stepE st is = RowV.nil) := if_neg hbad
  unfold StepPost
  rw [hE.out]
  generalize C.stepI st is = ck at HC hbad ⊢
  have hck : (ck != 0) = true := by simpa using hbad
  clear h hf hbad hs hsl hi hil hE
  unfold LG CV.v at HC
  unfold CV.v
  go_enter Try.func17, Try.ntmps17
  go_upto_region 1 with fail
  generalize ((w.alloc (.cells #[.int .i64 c.m, .slice c.a1 c.n1 c.c1, .slice c.a2 c.n2 c.c2, .slice c.a3 c.n3 c.c3, .slice c.a4 c.n4 c.c4, .slice c.a5 c.n5 c.c5, .slice c.a6 c.n6 c.c6, .slice c.a7 c.n7 c.c7] 27)).alloc (.cells #[.slice none 0 0, .slice none 0 0, .slice none 0 0, .bool false] 37)) = W0 at S0 ⊢
  obtain ⟨q0, q1, q2, q3, q4, q5, q6, q7⟩ := S0.out.box.cells
  go_region_held3 (fun w' => w'.cell? ⟨w.heap.size, 0, none⟩ = some (.int .i64 c.m) ∧ w'.cell? ⟨w.heap.size, 1, none⟩ = some (.slice c.a1 c.n1 c.c1) ∧ w'.cell? ⟨w.heap.size, 2, none⟩ = some (.slice c.a2 c.n2 c.c2) ∧ w'.cell? ⟨w.heap.size, 3, none⟩ = some (.slice c.a3 c.n3 c.c3) ∧ w'.cell? ⟨w.heap.size, 4, none⟩ = some (.slice c.a4 c.n4 c.c4) ∧ w'.cell? ⟨w.heap.size, 5, none⟩ = some (.slice c.a5 c.n5 c.c5) ∧ w'.cell? ⟨w.heap.size, 6, none⟩ = some (.slice c.a6 c.n6 c.c6) ∧ w'.cell? ⟨w.heap.size, 7, none⟩ = some (.slice c.a7 c.n7 c.c7)) (go_keep) (first | (go_at_call 40; refine (HLg.out _).mono ?_; rintro e w1 ⟨rfl, hb1⟩; have hB1 : Below W0.heap.size W0 w1 := belowThen (Drew.below ⟨1, rfl⟩) hb1; obtain ⟨p0, p1, p2, p3, p4, p5, p6, p7⟩ := (S0.out.then hB1).box.cells) | (go_at_call 41; refine (HC.out _ (belowThen S0.out.below hB1)).mono ?_; rintro e w2 ⟨rfl, hb2⟩; have S1 := hide (S0.out.then (belowThen hB1 hb2)); obtain ⟨r0, r1, r2, r3, r4, r5, r6, r7⟩ := S1.out.box.cells))
  clear q0 q1 q2 q3 q4 q5 q6 q7 p0 p1 p2 p3 p4 p5 p6 p7 r0 r1 r2 r3 r4 r5 r6 r7 hB1 hb2
  obtain ⟨q0, q1, q2, q3⟩ := S1.out.res.cells
  have f0 := rbox_frozen S1.out.res 0
  have f1 := rbox_frozen S1.out.res 1
  have f2 := rbox_frozen S1.out.res 2
  have f3 := rbox_frozen S1.out.res 3
  clear S0 HC
  go_wp2
  have hb := hide (rbox_put RV.nil S1.out.res)
  have hbel : Hid (Below w.heap.size w (putRow w2 (w.heap.size + 1) RV.nil)) := (two_putR w2 (w.heap.size + 1) RV.nil).below S1.out.below (Nat.le_refl _) (Nat.le_succ _) (Nat.le_succ _)
  clear q0 q1 q2 q3 f0 f1 f2 f3
  show bodyPost _ _ _ _ _ (putRow w2 (w.heap.size + 1) RV.nil)
  generalize putRow w2 (w.heap.size + 1) RV.nil = Wf at *
  obtain ⟨r0, r1, r2, r3⟩ := hb.out.cells
  simp only [RV.nil] at r0 r1 r2 r3
  refine bodyPost_ret (v := .tuple #[.agg #[.slice none 0 0, .slice none 0 0, .slice none 0 0, .bool false], .int .i64 ck]) (by simp [results, Try.results17, go_sem, *]) rfl ?_
  exact ⟨RV.nil, rfl, rholds_nil Wf, hbel.out⟩

end Go.Proofs.Ytmbbcghhdjpgeaa

namespace Go.Proofs.Ytmbbcghhdjpgeaa
open Go.RowKit

/-- What stands while Step makes its rows. -/
structure ES (w0 : World) (c : CV) (C : Circ) (b sb g n : Nat) (vs : List Bool) (W : World) : Prop where
  holds : Holds W c C
  st : StepS w0 b c W
  sig : SigP W sb (some ⟨g, 0, none⟩) n n vs
theorem ES.then {w0 W W' : World} {c : CV} {C : Circ} {b sb g n : Nat} {vs : List Bool} (h : ES w0 c C b sb g n vs W) (hb : Below W.heap.size W W') : ES w0 c C b sb g n vs W' := ⟨h.holds.below hb, h.st.then hb, h.sig.below hb⟩

theorem box_four {W : World} {b : Nat} {c : CV} (h : Box W b c) (v0 v1 v2 v3 : Value) : Box ((((W.setCell ⟨b + 1, 0, none⟩ v0).setCell ⟨b + 1, 1, none⟩ v1).setCell ⟨b + 1, 2, none⟩ v2).setCell ⟨b + 1, 3, none⟩ v3) b c := by
  have hk : Two (b + 1) (b + 1) W ((((W.setCell ⟨b + 1, 0, none⟩ v0).setCell ⟨b + 1, 1, none⟩ v1).setCell ⟨b + 1, 2, none⟩ v2).setCell ⟨b + 1, 3, none⟩ v3) := (((((Two.refl _ _ W).setL 0 _).setL 1 _).setL 2 _).setL 3 _)
  exact (hk.block b h.lt (by omega) (by omega)).trans h

set_option maxRecDepth 100000 in
set_option maxHeartbeats 4000000 in
theorem step_good (c : CV) (C : Circ) (w : World) (sa ia : Option Addr) (sn sc inn ic : Nat) (st is : List Bool) (h : Holds w c C) (hf : Fits c C) (hs : RowB w sa st) (hsl : st.length = sn) (hi : RowB w ia is) (hil : is.length = inn) (hgood : C.stepI st is = 0) :
    Calls Try.prog 17 #[c.v, .slice sa sn sc, .slice ia inn ic] w (StepPost w C st is) := by
  have hck : C.checkI = 0 := by
    by_cases hc : C.checkI = 0
    · exact hc
    · unfold Circ.stepI at hgood; rw [if_pos hc] at hgood; exact absurd hgood hc
  have HRt := hide (right_of hck)
  obtain ⟨n, hn⟩ : ∃ n, n = C.max.toNat + 1 := ⟨_, rfl⟩
  have hn4 : n ≤ 10000 := by have := HRt.out.small.max; omega
  obtain ⟨vs, HVs⟩ : ∃ vs, Hid (vs = C.vals st is) := ⟨_, rfl⟩
  have HC : Hid (∀ W, Below w.heap.size w W → Calls Try.prog 41 #[LG, c.v, .slice sa sn sc, .slice ia inn ic] W fun e w' => ∃ sb g, e = .returned (.tuple #[.pointer (some ⟨sb, 0, none⟩), .int .i64 0]) ∧ SigP w' sb (some ⟨g, 0, none⟩) n n vs ∧ Below W.heap.size W w') := fun W hb => (set_good c C w sa ia sn sc inn ic st is h hf hs hsl hi hil hgood W hb).mono (fun e w' hh => by
    obtain ⟨sb, g, rfl, hbx, hown, hbl⟩ := hh
    rw [← hn, ← HVs.out] at hown
    rw [← hn] at hbx
    obtain ⟨a, k, e1, hr, hl⟩ := rowB_own hown
    cases e1
    exact ⟨sb, g, rfl, ⟨hbx, hr, hl, hn4⟩, hbl⟩)
  have HLg : Hid (∀ W, Calls Try.prog 40 #[] W fun e w' => e = .returned (.agg #[.func (.func 76) #[] #[], .func (.func 77) #[] #[]]) ∧ Below W.heap.size W w') := fun W => sLogic_any W
  have hE : Hid (C.stepE st is = C.rowV vs) := by rw [HVs.out]; exact if_pos hgood
  have S0 := hide (step_start w c)
  have HL := hide h
  have hn1 : c.n2 ≤ 64 := by rw [← h.l2]; exact HRt.out.small.lats
  have hn2 : c.n3 ≤ 64 := by rw [← h.l3]; exact HRt.out.small.outs
  have hn3 : c.n4 ≤ 64 := by rw [← h.l4]; exact HRt.out.small.bads
  have hn5 : c.n5 ≤ 64 := by rw [← h.l5]; exact HRt.out.small.cons
  obtain ⟨nb, hnb⟩ : ∃ nb, nb = C.badsOr.length := ⟨_, rfl⟩
  have hnb4 : nb ≤ 64 := by rw [hnb]; exact badsOr_len HRt.out.small
  have HNb := hide hnb
  have HNn := hide hn
  unfold StepPost
  rw [hE.out, hgood]
  clear h hf hgood hs hsl hi hil hE hck hnb hn
  have H1 : Hid (∀ sb g W, ES w c C w.heap.size sb g n vs W → Calls Try.prog 42 #[.slice c.a2 c.n2 c.c2, .func (.func 43) #[.pointer (some ⟨sb, 0, none⟩)] #[]] W fun e w' => ∃ a cp, e = .returned (.slice a c.n2 cp) ∧ w'.ownsRow (w.heap.size + 2) 4 1 (.slice a c.n2 cp) c.n2 ((C.nexts.map (litV vs)).map Value.bool) ∧ Below W.heap.size W w') := fun sb g W t => (eachLatch_any sb _ n n vs c.a2 c.n2 c.c2 C.lats W t.sig t.holds.r2 t.holds.l2 (by omega) (fun x hx => by rw [HNn.out]; exact (in_lats HRt.out x hx).2.1)).mono (fun e w' hh => by
    obtain ⟨v, rfl, hn, hbl⟩ := hh
    rw [List.length_map, t.holds.l2] at hn
    obtain ⟨a, cp, rfl⟩ := own_form hn
    refine ⟨a, cp, rfl, ?_, hbl⟩
    have e1 : C.nexts.map (litV vs) = C.lats.map (fun t => litV vs t.2.1) := by unfold Circ.nexts; rw [List.map_map]; rfl
    rw [e1]
    exact own_le hn t.st.res.lt)
  have H2 : Hid (∀ sb g W, ES w c C w.heap.size sb g n vs W → Calls Try.prog 44 #[.slice c.a3 c.n3 c.c3, .func (.func 45) #[.pointer (some ⟨sb, 0, none⟩)] #[]] W fun e w' => ∃ a cp, e = .returned (.slice a c.n3 cp) ∧ w'.ownsRow (w.heap.size + 2) 4 1 (.slice a c.n3 cp) c.n3 ((C.outs.map (litV vs)).map Value.bool) ∧ Below W.heap.size W w') := fun sb g W t => (eachInt_any sb _ n n vs c.a3 c.n3 c.c3 C.outs W t.sig t.holds.r3 t.holds.l3 (by omega) (by rw [HNn.out]; exact in_outs HRt.out)).mono (fun e w' hh => by
    obtain ⟨v, rfl, hn, hbl⟩ := hh
    rw [List.length_map, t.holds.l3] at hn
    obtain ⟨a, cp, rfl⟩ := own_form hn
    exact ⟨a, cp, rfl, own_le hn t.st.res.lt, hbl⟩)
  have H3 : Hid (∀ sb g W, ES w c C w.heap.size sb g n vs W → Calls Try.prog 46 #[c.v] W fun e w' => ∃ a cp, e = .returned (.slice a nb cp) ∧ RowK .i64 w' a C.badsOr ∧ Below W.heap.size W w') := fun sb g W t => (bads_any c C W t.holds (by omega) (by omega)).mono (fun e w' hh => by
    obtain ⟨v, rfl, hn, hbl⟩ := hh
    obtain ⟨a, cp, rfl, hr, -⟩ := row_of_own hn
    exact ⟨a, cp, by rw [HNb.out], hr, hbl⟩)
  have H4 : Hid (∀ sb g A K W, ES w c C w.heap.size sb g n vs W → RowK .i64 W A C.badsOr → Calls Try.prog 44 #[.slice A nb K, .func (.func 45) #[.pointer (some ⟨sb, 0, none⟩)] #[]] W fun e w' => ∃ a cp, e = .returned (.slice a nb cp) ∧ w'.ownsRow (w.heap.size + 2) 4 1 (.slice a nb cp) nb ((C.badsOr.map (litV vs)).map Value.bool) ∧ Below W.heap.size W w') := fun sb g A K W t hr => (eachInt_any sb _ n n vs A nb K C.badsOr W t.sig hr HNb.out.symm (by omega) (by rw [HNn.out]; exact in_badsOr HRt.out)).mono (fun e w' hh => by
    obtain ⟨v, rfl, hn, hbl⟩ := hh
    rw [List.length_map, ← HNb.out] at hn
    obtain ⟨a, cp, rfl⟩ := own_form hn
    exact ⟨a, cp, rfl, own_le hn t.st.res.lt, hbl⟩)
  have H5 : Hid (∀ sb g W, ES w c C w.heap.size sb g n vs W → Calls Try.prog 44 #[.slice c.a5 c.n5 c.c5, .func (.func 45) #[.pointer (some ⟨sb, 0, none⟩)] #[]] W fun e w' => ∃ a cp, e = .returned (.slice a c.n5 cp) ∧ RowB w' a (C.cons.map (litV vs)) ∧ Below W.heap.size W w') := fun sb g W t => (eachInt_any sb _ n n vs c.a5 c.n5 c.c5 C.cons W t.sig t.holds.r5 t.holds.l5 (by omega) (by rw [HNn.out]; exact in_cons HRt.out)).mono (fun e w' hh => by
    obtain ⟨v, rfl, hn, hbl⟩ := hh
    rw [List.length_map, t.holds.l5] at hn
    obtain ⟨a, cp, rfl, hr, -⟩ := rowB_own hn
    exact ⟨a, cp, rfl, hr, hbl⟩)
  obtain ⟨nh, HHv⟩ : ∃ nh, Hid (nh = !(C.cons.map (litV vs)).all id) := ⟨_, rfl⟩
  have H6 : Hid (∀ A K W, RowB W A (C.cons.map (litV vs)) → Calls Try.prog 47 #[.slice A c.n5 K, .bool false] W fun e w' => e = .returned (.bool nh) ∧ Below W.heap.size W w') := fun A K W hr => by
    rw [HHv.out]; exact (contains_any A c.n5 K _ W hr (by rw [List.length_map]; exact HL.out.l5) (by omega)).mono (fun e w' hh => ⟨hh.1, by rw [hh.2]; exact Below.refl _ _⟩)
  have hcv : c.v = .agg #[.int .i64 c.m, .slice c.a1 c.n1 c.c1, .slice c.a2 c.n2 c.c2, .slice c.a3 c.n3 c.c3, .slice c.a4 c.n4 c.c4, .slice c.a5 c.n5 c.c5, .slice c.a6 c.n6 c.c6, .slice c.a7 c.n7 c.c7] := rfl
  rw [hcv] at HC H3 ⊢
  unfold LG at HC
  clear hcv
  go_enter Try.func17, Try.ntmps17
  go_upto_region 1 with fail
  generalize ((w.alloc (.cells #[.int .i64 c.m, .slice c.a1 c.n1 c.c1, .slice c.a2 c.n2 c.c2, .slice c.a3 c.n3 c.c3, .slice c.a4 c.n4 c.c4, .slice c.a5 c.n5 c.c5, .slice c.a6 c.n6 c.c6, .slice c.a7 c.n7 c.c7] 27)).alloc (.cells #[.slice none 0 0, .slice none 0 0, .slice none 0 0, .bool false] 37)) = W0 at S0 ⊢
  obtain ⟨q0, q1, q2, q3, q4, q5, q6, q7⟩ := S0.out.box.cells
  go_region_held3 (fun w' => w'.cell? ⟨w.heap.size, 0, none⟩ = some (.int .i64 c.m) ∧ w'.cell? ⟨w.heap.size, 1, none⟩ = some (.slice c.a1 c.n1 c.c1) ∧ w'.cell? ⟨w.heap.size, 2, none⟩ = some (.slice c.a2 c.n2 c.c2) ∧ w'.cell? ⟨w.heap.size, 3, none⟩ = some (.slice c.a3 c.n3 c.c3) ∧ w'.cell? ⟨w.heap.size, 4, none⟩ = some (.slice c.a4 c.n4 c.c4) ∧ w'.cell? ⟨w.heap.size, 5, none⟩ = some (.slice c.a5 c.n5 c.c5) ∧ w'.cell? ⟨w.heap.size, 6, none⟩ = some (.slice c.a6 c.n6 c.c6) ∧ w'.cell? ⟨w.heap.size, 7, none⟩ = some (.slice c.a7 c.n7 c.c7)) (go_keep) (first | (go_at_call 40; refine (HLg.out _).mono ?_; rintro e w0 ⟨rfl, hb1⟩; have hB1 : Below W0.heap.size W0 w0 := belowThen (Drew.below ⟨1, rfl⟩) hb1; obtain ⟨p0, p1, p2, p3, p4, p5, p6, p7⟩ := (S0.out.then hB1).box.cells) | (go_at_call 41; refine (HC.out _ (belowThen S0.out.below hB1)).mono ?_; rintro e w1 ⟨sb, g, rfl, hsg, hb2⟩; have S1 := hide (S0.out.then (belowThen hB1 hb2)); obtain ⟨r0, r1, r2, r3, r4, r5, r6, r7⟩ := S1.out.box.cells))
  have T1 : Hid (ES w c C w.heap.size sb g n vs w1) := ⟨HL.out.below (belowThen S0.out.below (belowThen hB1 hb2)), S1.out, hsg⟩
  have T0 : ES w c C w.heap.size sb g n vs w1.drew := T1.out.then (Drew.below ⟨1, rfl⟩)
  clear S0 S1 HC HLg hb1 hb2 hB1 hsg q0 q1 q2 q3 q4 q5 q6 q7 p0 p1 p2 p3 p4 p5 p6 p7 r0 r1 r2 r3 r4 r5 r6 r7
  go_wp2
  --REG
  refine wp_region_held_drew (S := (fun w' => w'.cell? ⟨w.heap.size, 0, none⟩ = some (.int .i64 c.m) ∧ w'.cell? ⟨w.heap.size, 1, none⟩ = some (.slice c.a1 c.n1 c.c1) ∧ w'.cell? ⟨w.heap.size, 2, none⟩ = some (.slice c.a2 c.n2 c.c2) ∧ w'.cell? ⟨w.heap.size, 3, none⟩ = some (.slice c.a3 c.n3 c.c3) ∧ w'.cell? ⟨w.heap.size, 4, none⟩ = some (.slice c.a4 c.n4 c.c4) ∧ w'.cell? ⟨w.heap.size, 5, none⟩ = some (.slice c.a5 c.n5 c.c5) ∧ w'.cell? ⟨w.heap.size, 6, none⟩ = some (.slice c.a6 c.n6 c.c6) ∧ w'.cell? ⟨w.heap.size, 7, none⟩ = some (.slice c.a7 c.n7 c.c7))) (by kernel_rfl) T0.st.box.cells (fun hHeld => ?_)
  refine wpAnyH_take (i := 0) (oi := { dst := some 22, op := Op.fieldAddr 27 (Operand.tmp 3) 2, type := 0, pos := "sim.go:18", after := #[], guard := none }) (v := ?_) rfl (by kernel_rfl) (by kernel_rfl) (by kernel_rfl) (fun _ _ _ h => h) (Or.inl ⟨by rfl, ?_⟩) (by assumption) ?_
  rotate_left
  · (intro w0 hSw; (try dsimp only at hSw); go_simp; try with_reducible rfl)
  try simp only [Act.put, List.setIfInBounds_toArray, List.set_cons_zero, List.set_cons_succ]
  refine wpAnyH_take (i := 1) (oi := { dst := some 23, op := Op.load 23 (Operand.tmp 22), type := 23, pos := "sim.go:18", after := #[{ on := 0, ground := Ground.data }], guard := none }) (v := ?_) rfl (by kernel_rfl) (by kernel_rfl) (by kernel_rfl) (fun _ _ _ h => h) (Or.inl ⟨by rfl, ?_⟩) (by assumption) ?_
  rotate_left
  · (intro w0 hSw; (try dsimp only at hSw); go_simp; try with_reducible rfl)
  try simp only [Act.put, List.setIfInBounds_toArray, List.set_cons_zero, List.set_cons_succ]
  refine wpAnyH_take (i := 2) (oi := { dst := some 24, op := Op.move (Operand.tmp 8), type := 77, pos := "sim.go:18", after := #[], guard := none }) (v := ?_) rfl (by kernel_rfl) (by kernel_rfl) (by kernel_rfl) (fun _ _ _ h => h) (Or.inl ⟨by rfl, ?_⟩) (by assumption) ?_
  rotate_left
  · (intro w0 hSw; (try dsimp only at hSw); go_simp; try with_reducible rfl)
  try simp only [Act.put, List.setIfInBounds_toArray, List.set_cons_zero, List.set_cons_succ]
  refine wpAnyH_take (i := 3) (oi := { dst := some 25, op := Op.makeFunc (Fn.func 43) #[Operand.tmp 24] #[], type := 90, pos := "sim.go:18", after := #[{ on := 2, ground := Ground.data }], guard := none }) (v := ?_) rfl (by kernel_rfl) (by kernel_rfl) (by kernel_rfl) (fun _ _ _ h => h) (Or.inl ⟨by rfl, ?_⟩) (by assumption) ?_
  rotate_left
  · (intro w0 hSw; (try dsimp only at hSw); go_simp; try with_reducible rfl)
  try simp only [Act.put, List.setIfInBounds_toArray, List.set_cons_zero, List.set_cons_succ]
  refine wpAnyH_take (i := 5) (oi := { dst := some 27, op := Op.fieldAddr 27 (Operand.tmp 3) 3, type := 0, pos := "sim.go:18", after := #[], guard := none }) (v := ?_) rfl (by kernel_rfl) (by kernel_rfl) (by kernel_rfl) (fun _ _ _ h => h) (Or.inl ⟨by rfl, ?_⟩) (by assumption) ?_
  rotate_left
  · (intro w0 hSw; (try dsimp only at hSw); go_simp; try with_reducible rfl)
  try simp only [Act.put, List.setIfInBounds_toArray, List.set_cons_zero, List.set_cons_succ]
  refine wpAnyH_take (i := 6) (oi := { dst := some 28, op := Op.load 22 (Operand.tmp 27), type := 22, pos := "sim.go:18", after := #[{ on := 5, ground := Ground.data }], guard := none }) (v := ?_) rfl (by kernel_rfl) (by kernel_rfl) (by kernel_rfl) (fun _ _ _ h => h) (Or.inl ⟨by rfl, ?_⟩) (by assumption) ?_
  rotate_left
  · (intro w0 hSw; (try dsimp only at hSw); go_simp; try with_reducible rfl)
  try simp only [Act.put, List.setIfInBounds_toArray, List.set_cons_zero, List.set_cons_succ]
  refine wpAnyH_take (i := 7) (oi := { dst := some 29, op := Op.move (Operand.tmp 8), type := 77, pos := "sim.go:18", after := #[], guard := none }) (v := ?_) rfl (by kernel_rfl) (by kernel_rfl) (by kernel_rfl) (fun _ _ _ h => h) (Or.inl ⟨by rfl, ?_⟩) (by assumption) ?_
  rotate_left
  · (intro w0 hSw; (try dsimp only at hSw); go_simp; try with_reducible rfl)
  try simp only [Act.put, List.setIfInBounds_toArray, List.set_cons_zero, List.set_cons_succ]
  refine wpAnyH_take (i := 8) (oi := { dst := some 30, op := Op.makeFunc (Fn.func 45) #[Operand.tmp 29] #[], type := 92, pos := "sim.go:18", after := #[{ on := 7, ground := Ground.data }], guard := none }) (v := ?_) rfl (by kernel_rfl) (by kernel_rfl) (by kernel_rfl) (fun _ _ _ h => h) (Or.inl ⟨by rfl, ?_⟩) (by assumption) ?_
  rotate_left
  · (intro w0 hSw; (try dsimp only at hSw); go_simp; try with_reducible rfl)
  try simp only [Act.put, List.setIfInBounds_toArray, List.set_cons_zero, List.set_cons_succ]
  refine wpAnyH_take (i := 10) (oi := { dst := some 32, op := Op.load 27 (Operand.tmp 3), type := 27, pos := "sim.go:18", after := #[], guard := none }) (v := ?_) rfl (by kernel_rfl) (by kernel_rfl) (by kernel_rfl) (fun _ _ _ h => h) (Or.inl ⟨by rfl, ?_⟩) (by assumption) ?_
  rotate_left
  · (intro w0 hSw; (try dsimp only at hSw); go_simp; try with_reducible rfl)
  try simp only [Act.put, List.setIfInBounds_toArray, List.set_cons_zero, List.set_cons_succ]
  refine wpAnyH_take (i := 12) (oi := { dst := some 34, op := Op.move (Operand.tmp 8), type := 77, pos := "sim.go:18", after := #[], guard := none }) (v := ?_) rfl (by kernel_rfl) (by kernel_rfl) (by kernel_rfl) (fun _ _ _ h => h) (Or.inl ⟨by rfl, ?_⟩) (by assumption) ?_
  rotate_left
  · (intro w0 hSw; (try dsimp only at hSw); go_simp; try with_reducible rfl)
  try simp only [Act.put, List.setIfInBounds_toArray, List.set_cons_zero, List.set_cons_succ]
  refine wpAnyH_take (i := 13) (oi := { dst := some 35, op := Op.makeFunc (Fn.func 45) #[Operand.tmp 34] #[], type := 92, pos := "sim.go:18", after := #[{ on := 12, ground := Ground.data }], guard := none }) (v := ?_) rfl (by kernel_rfl) (by kernel_rfl) (by kernel_rfl) (fun _ _ _ h => h) (Or.inl ⟨by rfl, ?_⟩) (by assumption) ?_
  rotate_left
  · (intro w0 hSw; (try dsimp only at hSw); go_simp; try with_reducible rfl)
  try simp only [Act.put, List.setIfInBounds_toArray, List.set_cons_zero, List.set_cons_succ]
  refine wpAnyH_take (i := 15) (oi := { dst := some 37, op := Op.fieldAddr 27 (Operand.tmp 3) 5, type := 0, pos := "sim.go:18", after := #[], guard := none }) (v := ?_) rfl (by kernel_rfl) (by kernel_rfl) (by kernel_rfl) (fun _ _ _ h => h) (Or.inl ⟨by rfl, ?_⟩) (by assumption) ?_
  rotate_left
  · (intro w0 hSw; (try dsimp only at hSw); go_simp; try with_reducible rfl)
  try simp only [Act.put, List.setIfInBounds_toArray, List.set_cons_zero, List.set_cons_succ]
  refine wpAnyH_take (i := 16) (oi := { dst := some 38, op := Op.load 22 (Operand.tmp 37), type := 22, pos := "sim.go:18", after := #[{ on := 15, ground := Ground.data }], guard := none }) (v := ?_) rfl (by kernel_rfl) (by kernel_rfl) (by kernel_rfl) (fun _ _ _ h => h) (Or.inl ⟨by rfl, ?_⟩) (by assumption) ?_
  rotate_left
  · (intro w0 hSw; (try dsimp only at hSw); go_simp; try with_reducible rfl)
  try simp only [Act.put, List.setIfInBounds_toArray, List.set_cons_zero, List.set_cons_succ]
  refine wpAnyH_take (i := 17) (oi := { dst := some 39, op := Op.move (Operand.tmp 8), type := 77, pos := "sim.go:18", after := #[], guard := none }) (v := ?_) rfl (by kernel_rfl) (by kernel_rfl) (by kernel_rfl) (fun _ _ _ h => h) (Or.inl ⟨by rfl, ?_⟩) (by assumption) ?_
  rotate_left
  · (intro w0 hSw; (try dsimp only at hSw); go_simp; try with_reducible rfl)
  try simp only [Act.put, List.setIfInBounds_toArray, List.set_cons_zero, List.set_cons_succ]
  refine wpAnyH_take (i := 18) (oi := { dst := some 40, op := Op.makeFunc (Fn.func 45) #[Operand.tmp 39] #[], type := 92, pos := "sim.go:18", after := #[{ on := 17, ground := Ground.data }], guard := none }) (v := ?_) rfl (by kernel_rfl) (by kernel_rfl) (by kernel_rfl) (fun _ _ _ h => h) (Or.inl ⟨by rfl, ?_⟩) (by assumption) ?_
  rotate_left
  · (intro w0 hSw; (try dsimp only at hSw); go_simp; try with_reducible rfl)
  try simp only [Act.put, List.setIfInBounds_toArray, List.set_cons_zero, List.set_cons_succ]
  refine wpAnyH_ready (rs := [4]) (by kernel_rfl) (by simp) ?_
  refine AllReadyH.cons (o := { dst := some 26, op := Op.call { callee := Callee.value (Operand.func 42), args := #[Operand.tmp 23, Operand.tmp 25], argTypes := #[23, 90] }, type := 28, pos := "sim.go:19", after := #[{ on := 1, ground := Ground.data }, { on := 3, ground := Ground.data }], guard := none }) rfl (fun KZ hKZ => ?_) ?_
  · skip
    go_simp
    go_at_call 42
    refine (H1.out sb g _ T0).mono ?_
    rintro e v1 ⟨A1, K1, rfl, ho, hb⟩
    have t1 := T0.then hb
    have O1 := hide ho
    clear ho hb
    go_wp2_with fail
    refine hKZ.out _ _ ?_ (fun hHeld => ?_)
    · exact t1.st.box.cells
    clear hKZ KZ
    try simp only [Act.put, List.setIfInBounds_toArray, List.set_cons_zero, List.set_cons_succ]
    refine wpAnyH_ready (rs := [9]) (by kernel_rfl) (by simp) ?_
    refine AllReadyH.cons (o := { dst := some 31, op := Op.call { callee := Callee.value (Operand.func 44), args := #[Operand.tmp 28, Operand.tmp 30], argTypes := #[22, 92] }, type := 28, pos := "sim.go:20", after := #[{ on := 6, ground := Ground.data }, { on := 8, ground := Ground.data }, { on := 4, ground := Ground.chain }], guard := none }) rfl (fun KZ hKZ => ?_) ?_
    · skip
      go_simp
      go_at_call 44
      refine (H2.out sb g _ t1).mono ?_
      rintro e v2 ⟨A2, K2, rfl, ho, hb⟩
      have t2 := t1.then hb
      replace O1 := hide (own_below O1.out hb)
      have O2 := hide ho
      clear ho hb
      go_wp2_with fail
      refine hKZ.out _ _ ?_ (fun hHeld => ?_)
      · exact t2.st.box.cells
      clear hKZ KZ
      try simp only [Act.put, List.setIfInBounds_toArray, List.set_cons_zero, List.set_cons_succ]
      refine wpAnyH_ready (rs := [11]) (by kernel_rfl) (by simp) ?_
      refine AllReadyH.cons (o := { dst := some 33, op := Op.call { callee := Callee.value (Operand.func 46), args := #[Operand.tmp 32], argTypes := #[27] }, type := 22, pos := "sim.go:21", after := #[{ on := 10, ground := Ground.data }, { on := 9, ground := Ground.chain }], guard := none }) rfl (fun KZ hKZ => ?_) ?_
      · skip
        go_simp
        go_at_call 46
        refine (H3.out sb g _ t2).mono ?_
        rintro e v3 ⟨A3, K3, rfl, hr3, hb⟩
        have t3 := t2.then hb
        replace O1 := hide (own_below O1.out hb)
        replace O2 := hide (own_below O2.out hb)
        have HR3 := hide hr3
        clear hr3 hb
        go_wp2_with fail
        refine hKZ.out _ _ ?_ (fun hHeld => ?_)
        · exact t3.st.box.cells
        clear hKZ KZ
        try simp only [Act.put, List.setIfInBounds_toArray, List.set_cons_zero, List.set_cons_succ]
        refine wpAnyH_ready (rs := [14]) (by kernel_rfl) (by simp) ?_
        refine AllReadyH.cons (o := { dst := some 36, op := Op.call { callee := Callee.value (Operand.func 44), args := #[Operand.tmp 33, Operand.tmp 35], argTypes := #[22, 92] }, type := 28, pos := "sim.go:21", after := #[{ on := 11, ground := Ground.data }, { on := 13, ground := Ground.data }, { on := 11, ground := Ground.chain }], guard := none }) rfl (fun KZ hKZ => ?_) ?_
        · skip
          go_simp
          go_at_call 44
          refine (H4.out sb g A3 K3 _ t3 HR3.out).mono ?_
          rintro e v4 ⟨A4, K4, rfl, ho, hb⟩
          have t4 := t3.then hb
          replace O1 := hide (own_below O1.out hb)
          replace O2 := hide (own_below O2.out hb)
          have O3 := hide ho
          clear ho hb
          go_wp2_with fail
          refine hKZ.out _ _ ?_ (fun hHeld => ?_)
          · exact t4.st.box.cells
          clear hKZ KZ
          try simp only [Act.put, List.setIfInBounds_toArray, List.set_cons_zero, List.set_cons_succ]
          refine wpAnyH_ready (rs := [19]) (by kernel_rfl) (by simp) ?_
          refine AllReadyH.cons (o := { dst := some 41, op := Op.call { callee := Callee.value (Operand.func 44), args := #[Operand.tmp 38, Operand.tmp 40], argTypes := #[22, 92] }, type := 28, pos := "sim.go:22", after := #[{ on := 16, ground := Ground.data }, { on := 18, ground := Ground.data }, { on := 14, ground := Ground.chain }], guard := none }) rfl (fun KZ hKZ => ?_) ?_
          · skip
            go_simp
            go_at_call 44
            refine (H5.out sb g _ t4).mono ?_
            rintro e v5 ⟨A5, K5, rfl, hr5, hb⟩
            have t5 := t4.then hb
            replace O1 := hide (own_below O1.out hb)
            replace O2 := hide (own_below O2.out hb)
            replace O3 := hide (own_below O3.out hb)
            have HR5 := hide hr5
            clear hr5 hb
            go_wp2_with fail
            refine hKZ.out _ _ ?_ (fun hHeld => ?_)
            · exact t5.st.box.cells
            clear hKZ KZ
            try simp only [Act.put, List.setIfInBounds_toArray, List.set_cons_zero, List.set_cons_succ]
            refine wpAnyH_ready (rs := [20]) (by kernel_rfl) (by simp) ?_
            refine AllReadyH.cons (o := { dst := some 42, op := Op.call { callee := Callee.value (Operand.func 47), args := #[Operand.tmp 41, Operand.const (Value.bool false)], argTypes := #[28, 4] }, type := 4, pos := "sim.go:22", after := #[{ on := 19, ground := Ground.data }, { on := 19, ground := Ground.chain }], guard := none }) rfl (fun KZ hKZ => ?_) ?_
            · skip
              go_simp
              go_at_call 47
              refine (H6.out A5 K5 _ HR5.out).mono ?_
              rintro e v6 ⟨rfl, hb⟩
              have t6 := t5.then hb
              replace O1 := hide (own_below O1.out hb)
              replace O2 := hide (own_below O2.out hb)
              replace O3 := hide (own_below O3.out hb)
              clear hb
              obtain ⟨q0, q1, q2, q3⟩ := t6.st.res.cells
              have f0 := rbox_frozen t6.st.res 0
              have f1 := rbox_frozen t6.st.res 1
              have f2 := rbox_frozen t6.st.res 2
              have f3 := rbox_frozen t6.st.res 3
              go_wp2_with fail
              refine hKZ.out _ _ ?_ (fun hHeld => ?_)
              · exact t6.st.box.cells
              clear hKZ KZ
              try simp only [Act.put, List.setIfInBounds_toArray, List.set_cons_zero, List.set_cons_succ]
              refine wpAnyH_take (i := 21) (oi := { dst := some 43, op := Op.unOp UnOp.not 4 (Operand.tmp 42), type := 4, pos := "sim.go:18", after := #[{ on := 20, ground := Ground.data }], guard := none }) (v := ?_) rfl (by kernel_rfl) (by kernel_rfl) (by kernel_rfl) (fun _ _ _ h => h) (Or.inl ⟨by rfl, ?_⟩) (by assumption) ?_
              rotate_left
              · (intro w0 hSw; (try dsimp only at hSw); go_simp; try with_reducible rfl)
              try simp only [Act.put, List.setIfInBounds_toArray, List.set_cons_zero, List.set_cons_succ]
              refine wpAnyH_take (i := 22) (oi := { dst := some 44, op := Op.build 37 #[(0, Operand.tmp 26), (1, Operand.tmp 31), (2, Operand.tmp 36), (3, Operand.tmp 43)], type := 37, pos := "sim.go:18", after := #[{ on := 4, ground := Ground.data }, { on := 9, ground := Ground.data }, { on := 14, ground := Ground.data }, { on := 21, ground := Ground.data }], guard := none }) (v := ?_) rfl (by kernel_rfl) (by kernel_rfl) (by kernel_rfl) (fun _ _ _ h => h) (Or.inl ⟨by rfl, ?_⟩) (by assumption) ?_
              rotate_left
              · (intro w0 hSw; (try dsimp only at hSw); go_simp; try with_reducible rfl)
              try simp only [Act.put, List.setIfInBounds_toArray, List.set_cons_zero, List.set_cons_succ]
              refine wpAnyH_ready (rs := [23]) (by kernel_rfl) (by simp) ?_
              refine AllReadyH.cons (o := { dst := none, op := Op.store 37 (Operand.tmp 6) (Operand.tmp 44), type := 0, pos := "sim.go:18", after := #[{ on := 22, ground := Ground.data }, { on := 20, ground := Ground.chain }, { on := 0, ground := Ground.phase }, { on := 1, ground := Ground.phase }, { on := 2, ground := Ground.phase }, { on := 3, ground := Ground.phase }, { on := 4, ground := Ground.phase }, { on := 5, ground := Ground.phase }, { on := 6, ground := Ground.phase }, { on := 7, ground := Ground.phase }, { on := 8, ground := Ground.phase }, { on := 9, ground := Ground.phase }, { on := 10, ground := Ground.phase }, { on := 11, ground := Ground.phase }, { on := 12, ground := Ground.phase }, { on := 13, ground := Ground.phase }, { on := 14, ground := Ground.phase }, { on := 15, ground := Ground.phase }, { on := 16, ground := Ground.phase }, { on := 17, ground := Ground.phase }, { on := 18, ground := Ground.phase }, { on := 19, ground := Ground.phase }, { on := 20, ground := Ground.phase }, { on := 21, ground := Ground.phase }, { on := 22, ground := Ground.phase }], guard := none }) rfl (fun KZ hKZ => ?_) ?_
              · skip
                go_simp
                refine hKZ.out _ _ ?_ (fun hHeld => ?_)
                · exact (box_four t6.st.box _ _ _ _).cells
                clear hKZ KZ
                try simp only [Act.put, List.setIfInBounds_toArray, List.set_cons_zero, List.set_cons_succ]
                refine wpAnyH_ready (rs := [24]) (by kernel_rfl) (by simp) ?_
                refine AllReadyH.cons (o := { dst := some 7, op := Op.assign (Operand.const (Value.int IntKind.i64 0)), type := 31, pos := "sim.go:18", after := #[{ on := 23, ground := Ground.chain }, { on := 0, ground := Ground.phase }, { on := 1, ground := Ground.phase }, { on := 2, ground := Ground.phase }, { on := 3, ground := Ground.phase }, { on := 4, ground := Ground.phase }, { on := 5, ground := Ground.phase }, { on := 6, ground := Ground.phase }, { on := 7, ground := Ground.phase }, { on := 8, ground := Ground.phase }, { on := 9, ground := Ground.phase }, { on := 10, ground := Ground.phase }, { on := 11, ground := Ground.phase }, { on := 12, ground := Ground.phase }, { on := 13, ground := Ground.phase }, { on := 14, ground := Ground.phase }, { on := 15, ground := Ground.phase }, { on := 16, ground := Ground.phase }, { on := 17, ground := Ground.phase }, { on := 18, ground := Ground.phase }, { on := 19, ground := Ground.phase }, { on := 20, ground := Ground.phase }, { on := 21, ground := Ground.phase }, { on := 22, ground := Ground.phase }, { on := 23, ground := Ground.phase }], guard := none }) rfl (fun KZ hKZ => ?_) ?_
                · skip
                  go_simp
                  refine hKZ.out _ _ ?_ (fun hHeld => ?_)
                  · exact (box_four t6.st.box _ _ _ _).cells
                  clear hKZ KZ
                  try simp only [Act.put, List.setIfInBounds_toArray, List.set_cons_zero, List.set_cons_succ]
                  refine wpAnyH_done (by kernel_rfl) ?_ _
                  go_wp2
                  have hb := hide (rbox_put ⟨A1, c.n2, K1, A2, c.n3, K2, A4, nb, K4, !nh⟩ t6.st.res)
                  have ht := hide (two_putR v6 (w.heap.size + 1) ⟨A1, c.n2, K1, A2, c.n3, K2, A4, nb, K4, !nh⟩)
                  have hbel : Hid (Below w.heap.size w (putRow v6 (w.heap.size + 1) ⟨A1, c.n2, K1, A2, c.n3, K2, A4, nb, K4, !nh⟩)) := ht.out.below t6.st.below (Nat.le_refl _) (Nat.le_succ _) (Nat.le_succ _)
                  clear q0 q1 q2 q3 f0 f1 f2 f3 hHeld
                  show bodyPost _ _ _ _ _ (putRow v6 (w.heap.size + 1) ⟨A1, c.n2, K1, A2, c.n3, K2, A4, nb, K4, !nh⟩)
                  have R1 := hide (rowC_own' (own_two O1.out ht.out (Nat.lt_succ_self _) (Nat.lt_succ_self _)))
                  have R2 := hide (rowC_own' (own_two O2.out ht.out (Nat.lt_succ_self _) (Nat.lt_succ_self _)))
                  have R3 := hide (rowC_own' (own_two O3.out ht.out (Nat.lt_succ_self _) (Nat.lt_succ_self _)))
                  clear t1 t2 t3 t4 t5 t6 T0 T1 H1 H2 H3 H4 H5 H6 O1 O2 O3 HR3 HR5
                  generalize putRow v6 (w.heap.size + 1) ⟨A1, c.n2, K1, A2, c.n3, K2, A4, nb, K4, !nh⟩ = Wf at *
                  obtain ⟨r0, r1, r2, r3⟩ := hb.out.cells
                  dsimp only at r0 r1 r2 r3
                  refine bodyPost_ret (v := .tuple #[.agg #[.slice A1 c.n2 K1, .slice A2 c.n3 K2, .slice A4 nb K4, .bool (!nh)], .int .i64 0]) (by simp [results, Try.results17, go_sem, *]) rfl ?_
                  refine ⟨⟨A1, c.n2, K1, A2, c.n3, K2, A4, nb, K4, !nh⟩, rfl, ⟨R1.out.1, ?_, R2.out.1, ?_, R3.out.1, ?_, ?_⟩, hbel.out⟩
                  · show (C.nexts.map (litV vs)).length = c.n2; unfold Circ.nexts; rw [List.length_map, List.length_map]; exact HL.out.l2
                  · show (C.outs.map (litV vs)).length = c.n3; rw [List.length_map]; exact HL.out.l3
                  · show (C.badsOr.map (litV vs)).length = nb; rw [List.length_map]; exact HNb.out.symm
                  · show C.cons.all (litV vs) = !nh; rw [HHv.out, Bool.not_not, List.all_map]; rfl
                exact AllReadyH.nil
              exact AllReadyH.nil
            exact AllReadyH.nil
          exact AllReadyH.nil
        exact AllReadyH.nil
      exact AllReadyH.nil
    exact AllReadyH.nil
  exact AllReadyH.nil
  --GER

theorem step_any (c : CV) (C : Circ) (w : World) (sa ia : Option Addr) (sn sc inn ic : Nat) (st is : List Bool) (h : Holds w c C) (hf : Fits c C) (hs : RowB w sa st) (hsl : st.length = sn) (hi : RowB w ia is) (hil : is.length = inn) :
    Calls Try.prog 17 #[c.v, .slice sa sn sc, .slice ia inn ic] w (StepPost w C st is) := by
  by_cases hg : C.stepI st is = 0
  · exact step_good c C w sa ia sn sc inn ic st is h hf hs hsl hi hil hg
  · exact step_bad c C w sa ia sn sc inn ic st is h hf hs hsl hi hil hg
end Go.Proofs.Ytmbbcghhdjpgeaa

namespace Go.Proofs.Ytmbbcghhdjpgeaa
open Go.RowKit

set_option maxRecDepth 100000 in
set_option maxHeartbeats 1000000 in
theorem rLit_any (g n : Nat) (bs : List Bool) (l : Int) (w : World) (h : Sig w g n bs) (hl : LitIn n l) :
    Calls Try.prog 28 #[.slice (some ⟨g, 0, none⟩) n n, .int .i64 l] w fun e w' => e = .returned (.bool (litV bs l)) ∧ w' = w := by
  obtain ⟨h0, h1, hv⟩ := hl
  have hc := h.row (varN l) (by rw [h.len]; exact hv)
  have hq := tdiv_two h0
  have hm := tmod_2 h0
  have hn := h.le
  have HR : Hid (litV bs l = (atP bs (varN l) != decide (l % 2 = 1))) := rfl
  rw [HR.out]
  generalize varN l = v at hq hc hv HR ⊢
  generalize atP bs v = x at hc HR ⊢
  have hy : l % 2 = 0 ∨ l % 2 = 1 := by omega
  generalize l % 2 = y at hm hy HR ⊢
  clear h HR
  rcases hy with rfl | rfl
  · cases x <;>
    · go_enter Try.func28, Try.ntmps28
      go_wp2
      go_ret
      exact ⟨rfl, rfl⟩
  · cases x <;>
    · go_enter Try.func28, Try.ntmps28
      go_wp2
      go_ret
      exact ⟨rfl, rfl⟩

/-- Bools that are appended one by one. -/
structure BAp (w0 : World) (v : Value) (k : Nat) (bs : List Bool) (wr : World) : Prop where
  own : wr.ownsRow w0.heap.size 4 1 v k (bs.map Value.bool)
  below : Below w0.heap.size w0 wr
theorem bap_nil (w : World) : BAp w (.slice none 0 0) 0 [] w := ⟨⟨rfl, .inl ⟨rfl, rfl⟩⟩, Below.refl _ _⟩
theorem BAp.step {w0 wr w2 w3 : World} {v v3 : Value} {k k3 : Nat} {xs ys : List Bool} (h : BAp w0 v k xs wr) (hb : Below wr.heap.size wr w2) (hg : w2.grownBy w3 v.ownBlock) (hown : w3.ownsRow w0.heap.size 4 1 v3 k3 (ys.map Value.bool)) : BAp w0 v3 k3 ys w3 :=
  ⟨hown, (belowThen h.below hb).grown hg (by have := h.below.size; have := hb.size; omega) (fun b hb' => (h.own.lt b hb').1)⟩
theorem take_app {α β : Type} [Inhabited α] (f : α → β) (l : List α) (k : Nat) (h : k < l.length) : (l.take (k + 1)).map f = (l.take k).map f ++ [f (atP l k)] := map_take f l k h

set_option maxRecDepth 100000 in
set_option maxHeartbeats 1000000 in
theorem rLits_any (g n : Nat) (bs : List Bool) (la : Option Addr) (m lc : Nat) (xs : List Int) (w : World) (h : Sig w g n bs) (hr : RowK .i64 w la xs) (hx : xs.length = m) (hm : m ≤ 10000) (hin : ∀ l ∈ xs, LitIn n l) :
    Calls Try.prog 48 #[.slice (some ⟨g, 0, none⟩) n n, .slice la m lc] w fun e w' => ∃ v, e = .returned v ∧ NewBools w (xs.map (litV bs)) v w' := by
  obtain ⟨i0, hi, hz0, hz1, hz2⟩ := info_parts infoBool
  have HH := hide h
  have HR := hide hr
  have HX := hide hx
  have HI := hide hin
  generalize hP : (fun (e : Ending) (w' : World) => ∃ v, e = .returned v ∧ NewBools w (xs.map (litV bs)) v w') = Post
  have HP := hide hP
  clear h hr hx hin hP
  go_enter Try.func48, Try.ntmps48
  go_wp2
  go_loopw [5, 6] (fun v i wr => ∃ k : Nat, i = .int .i64 k ∧ k ≤ m ∧ Hid (BAp w v k ((xs.take k).map (litV bs)) wr)) (fun _ i _ => m - (intOf i).toNat)
  case atStart => exact ⟨0, rfl, Nat.zero_le _, bap_nil w⟩
  case round =>
    obtain ⟨k, rfl, hk, HF⟩ := hrel
    by_cases hlt : k < m
    · obtain ⟨b, off, rfl, hbw, hcell⟩ := HR.out.addr (by rw [HX.out]; omega)
      have hc0 := (HF.out.below.cell (p := ⟨b, off + k, none⟩) hbw).trans (hcell k (by rw [HX.out]; exact hlt))
      rw [atP_getD] at hc0
      have hli := hide (HI.out _ (atP_mem xs k (by rw [HX.out]; exact hlt)))
      have HS := hide (take_app (litV bs) xs k (by rw [HX.out]; exact hlt))
      generalize atP xs k = x at hc0 hli HS
      have HG := hide (rLit_any g n bs x wr (HH.out.below HF.out.below) hli.out)
      generalize litV bs x = y at HS HG
      clear hcell
      go_wp2_with (first | (go_at_call 28; refine HG.out.mono ?_; rintro e w3 ⟨rfl, hw3⟩; obtain rfl := hw3.symm) | (at_builtin; refine wpList_append_own _ rfl (.tmp 13) (.tmp 20) 28 rfl w.heap.size 4 i0 (.bool false) 1 1 Try.underlying28 hi hz0 hz1 hz2 rfl (by decide) _ _ _ rfl (HF.out.own.alloc _) ⟨wr.heap.size, 0, none⟩ 1 1 [.bool y] rfl rfl (cell_one_at rfl _ _) (by intro u hu; simp at hu; subst hu; rfl) (by unfold maxLen; omega) (by omega) (by have := HF.out.below.size; simp; omega) ?_; intro v6 w6 hown6 hg6 _))
      go_roundw
      case rel =>
        refine ⟨k + 1, by go_num, by omega, HF.out.step (below_alloc wr _) hg6 ?_⟩
        rw [HS.out, List.map_append]; exact hown6
      case measure => simp [intOf]; omega
    · obtain rfl : k = m := by omega
      have hfin : Hid (Post (.returned u5) wr) := by
        show Post _ wr
        rw [← HP.out]
        have hm := HF.out
        rw [List.take_of_length_le (by rw [HX.out]; exact Nat.le_refl _)] at hm
        refine ⟨_, rfl, ?_, hm.below⟩
        rw [List.length_map, HX.out]
        exact hm.own
      go_wp2
      exact hfin.out

set_option maxRecDepth 100000 in
set_option maxHeartbeats 1000000 in
theorem rEvery_any (la : Option Addr) (m lc : Nat) (bs : List Bool) (w : World) (hr : RowB w la bs) (hx : bs.length = m) (hm : m ≤ 1000000) :
    Calls Try.prog 51 #[.slice la m lc] w fun e w' => e = .returned (.bool (bs.all id)) ∧ w' = w := by
  have HR := hide hr
  have HX := hide hx
  generalize hP : (fun (e : Ending) (w' : World) => e = .returned (.bool (bs.all id)) ∧ w' = w) = Post
  have HP := hide hP
  clear hr hx hP
  go_enter Try.func51, Try.ntmps51
  go_wp2
  go_loop [3] (fun i => ∃ k : Nat, i = .int .i64 k ∧ k ≤ m ∧ Hid (∀ j, j < k → atP bs j = true)) (fun i => m - (intOf i).toNat)
  case atStart => exact ⟨0, rfl, Nat.zero_le _, fun j hj => absurd hj (Nat.not_lt_zero _)⟩
  case round =>
    obtain ⟨k, rfl, hk, HF⟩ := hrel
    by_cases hlt : k < m
    · obtain ⟨b, off, rfl, -, hcell⟩ := HR.out.addr (by rw [HX.out]; omega)
      have hc := hcell k (by rw [HX.out]; exact hlt)
      have HMem := hide (atP_mem bs k (by rw [HX.out]; exact hlt))
      obtain ⟨y, HY⟩ : ∃ y, Hid (y = atP bs k) := ⟨_, rfl⟩
      rw [← HY.out] at hc HMem
      clear hcell
      cases y with
      | false =>
        have hfin : Hid (Post (.returned (.bool false)) w) := by
          show Post _ w
          rw [← HP.out]
          refine ⟨ret_bool ?_, rfl⟩
          symm
          rw [← Bool.not_eq_true, List.all_eq_true]
          exact fun h => absurd (h _ HMem.out) (by decide)
        clear HY
        go_wp2
        exact hfin.out
      | true =>
        go_wp2
        go_round
        case rel =>
          refine ⟨k + 1, by go_num, by omega, fun j hj => ?_⟩
          by_cases e : j = k
          · rw [e]; exact HY.out.symm
          · exact HF.out j (by omega)
        case measure => simp [intOf]; omega
    · obtain rfl : k = m := by omega
      have hfin : Hid (Post (.returned (.bool true)) w) := by
        show Post _ w
        rw [← HP.out]
        refine ⟨ret_bool ?_, rfl⟩
        symm
        rw [List.all_eq_true]
        intro x hx
        obtain ⟨i, hi, e⟩ := List.getElem_of_mem hx
        rw [← e, ← atP_eq _ _ hi]
        exact HF.out i (by rw [← HX.out]; exact hi)
      go_wp2
      exact hfin.out

theorem bools_same {us bs : List Bool} (hl : us.length = bs.length) (h : ∀ i, i < us.length → atP us i = atP bs i) : us = bs := list_ext_atP hl h

set_option maxRecDepth 100000 in
set_option maxHeartbeats 1000000 in
theorem sameBools_any (la lb : Option Addr) (m k0 lc ld : Nat) (us bs : List Bool) (w : World) (ha : RowB w la us) (hb : RowB w lb bs) (hx : us.length = m) (hy : bs.length = k0) (hm : m ≤ 1000000) (hk0 : k0 ≤ 1000000) :
    Calls Try.prog 19 #[.slice la m lc, .slice lb k0 ld] w fun e w' => e = .returned (.bool (decide (us = bs))) ∧ Below w.heap.size w w' := by
  have HA := hide ha
  have HB := hide hb
  have HX := hide hx
  have HY := hide hy
  generalize hP : (fun (e : Ending) (w' : World) => e = .returned (.bool (decide (us = bs))) ∧ Below w.heap.size w w') = Post
  have HP := hide hP
  clear ha hb hx hy hP
  by_cases hmk : m = k0
  · subst hmk
    go_enter Try.func19, Try.ntmps19
    go_wp2
    go_loopw [5] (fun i wr => ∃ k : Nat, i = .int .i64 k ∧ k ≤ m ∧ Hid ((∀ j, j < k → atP us j = atP bs j) ∧ Below w.heap.size w wr)) (fun i _ => m - (intOf i).toNat)
    case atStart => exact ⟨0, rfl, Nat.zero_le _, fun j hj => absurd hj (Nat.not_lt_zero _), Below.refl _ _⟩
    case round =>
      obtain ⟨k, rfl, hk, HF⟩ := hrel
      by_cases hlt : k < m
      · obtain ⟨b, off, rfl, hbw, hcell⟩ := HA.out.addr (by rw [HX.out]; omega)
        have hc := (HF.out.2.cell (p := ⟨b, off + k, none⟩) hbw).trans (hcell k (by rw [HX.out]; exact hlt))
        obtain ⟨b', off', rfl, hbw', hcell'⟩ := HB.out.addr (by rw [HY.out]; omega)
        have hd := (HF.out.2.cell (p := ⟨b', off' + k, none⟩) hbw').trans (hcell' k (by rw [HY.out]; exact hlt))
        obtain ⟨x, HXX⟩ : ∃ x, Hid (x = atP us k) := ⟨_, rfl⟩
        obtain ⟨y, HYY⟩ : ∃ y, Hid (y = atP bs k) := ⟨_, rfl⟩
        rw [← HXX.out] at hc
        rw [← HYY.out] at hd
        have hk0' : (0 : Int) ≤ (k : Int) := by omega
        have hk1' : (k : Int) < (m : Int) := by omega
        clear hcell hcell'
        by_cases hxy : x = y
        · subst hxy
          have hxx : (x != x) = false := by simp
          go_wp2
          go_quiet (fail)
          go_wp2
          go_roundw
          case rel =>
            refine ⟨k + 1, by go_num, by omega, fun j hj => ?_, belowThen HF.out.2 (Drew.below ⟨_, rfl⟩)⟩
            by_cases e : j = k
            · rw [e, ← HXX.out, ← HYY.out]
            · exact HF.out.1 j (by omega)
          case measure => simp [intOf]; omega
        · have hfin : Hid (∀ q, Post (.returned (.bool false)) (wr.drewN q)) := fun q => by
            show Post _ _
            rw [← HP.out]
            refine ⟨ret_bool ?_, belowThen HF.out.2 (Drew.below ⟨q, rfl⟩)⟩
            symm
            refine decide_eq_false (fun e => hxy ?_)
            rw [HXX.out, HYY.out, e]
          clear HXX HYY
          cases x <;> cases y <;> first | exact absurd rfl hxy | (clear hxy; go_wp2; go_quiet (fail); go_wp2; exact hfin.out _)
      · obtain rfl : k = m := by omega
        have hfin : Hid (Post (.returned (.bool true)) wr) := by
          show Post _ wr
          rw [← HP.out]
          refine ⟨ret_bool ?_, HF.out.2⟩
          symm
          exact decide_eq_true (bools_same (HX.out.trans HY.out.symm) (fun i hi => HF.out.1 i (by rw [← HX.out]; exact hi)))
        go_wp2
        exact hfin.out
  · have hne : ((m : Int) != (k0 : Int)) = true := by simpa using fun h : (m : Int) = (k0 : Int) => hmk (by omega)
    have hfin : Hid (Post (.returned (.bool false)) w) := by
      show Post _ w
      rw [← HP.out]
      refine ⟨ret_bool ?_, Below.refl _ _⟩
      symm
      refine decide_eq_false (fun e => hmk ?_)
      rw [← HX.out, ← HY.out, e]
    clear hmk
    go_enter Try.func19, Try.ntmps19
    go_wp2
    exact hfin.out
end Go.Proofs.Ytmbbcghhdjpgeaa
