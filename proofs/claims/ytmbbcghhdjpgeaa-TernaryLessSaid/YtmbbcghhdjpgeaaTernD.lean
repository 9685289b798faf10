/-
  THE WALKS of layer 9: ofThree, all, logic, settled, Values, Step, Lit.
  THE WALKS of the reference's values of three: not, both, Lit3, threes, lits3; and of the program's ofThree and all.
  THE WALKS of the reference's threes, lits3, Values3, Step3.
  THE WALK of the reference's Step3.
  THE WALKS of layer 9's laws' own functions: num, alive, threes, fits; lists that come in.
  THE WALKS of layer 9's laws' own threes and fits.
-/
import Derived.Test.YtmbbcghhdjpgeaaTernA
import Derived.Test.YtmbbcghhdjpgeaaSimD
import Derived.Test.YtmbbcghhdjpgeaaSimS
import Derived.Test.YtmbbcghhdjpgeaaSimF

namespace Go.Proofs.Ytmbbcghhdjpgeaa
open Go.RowKit

set_option maxRecDepth 100000 in
set_option maxHeartbeats 1000000 in
theorem ofThree_any (la : Option Addr) (m lc : Nat) (bs : List Int) (w : World) (hr : RowT w la bs) (hx : bs.length = m) (hm : m ≤ 1000000) :
    Calls Try.prog 94 #[.slice la m lc] w fun e w' => e = .returned (.bool (all3B bs)) ∧ w' = w := by
  have HR := hide hr
  have HX := hide hx
  generalize hP : (fun (e : Ending) (w' : World) => e = .returned (.bool (all3B bs)) ∧ w' = w) = Post
  have HP := hide hP
  clear hr hx hP
  go_enter Try.func94, Try.ntmps94
  go_wp2
  go_loop [4, 7] (fun _ i => ∃ k : Nat, i = .int .i64 k ∧ k ≤ m ∧ Hid (∀ j, j < k → Is3 (atP bs j))) (fun _ i => m - (intOf i).toNat)
  case atStart => exact ⟨0, rfl, Nat.zero_le _, fun j hj => absurd hj (Nat.not_lt_zero _)⟩
  case round =>
    obtain ⟨k, rfl, hk, HF⟩ := hrel
    by_cases hlt : k < m
    · obtain ⟨b, off, rfl, -, hcell⟩ := HR.out.addr (by rw [HX.out]; omega)
      have hc := hcell k (by rw [HX.out]; exact hlt)
      have HMem := hide (atP_mem bs k (by rw [HX.out]; exact hlt))
      have HNext : Hid (Is3 (atP bs k) → ∀ j, j < k + 1 → Is3 (atP bs j)) := fun h j hj => by
        by_cases e : j = k
        · rw [e]; exact h
        · exact HF.out j (by omega)
      generalize atP bs k = y at hc HMem HNext
      clear hcell
      by_cases h0 : y = 0
      · subst h0
        have HN := hide (HNext.out (.inl rfl))
        go_wp2
        go_round
        case rel => exact ⟨k + 1, by go_num, by omega, HN.out⟩
        case measure => simp [intOf]; omega
      · have b0 : (y != 0) = true := by simpa using h0
        by_cases h1 : y = 1
        · subst h1
          have HN := hide (HNext.out (.inr (.inl rfl)))
          go_wp2
          go_round
          case rel => exact ⟨k + 1, by go_num, by omega, HN.out⟩
          case measure => simp [intOf]; omega
        · have b1 : (y != 1) = true := by simpa using h1
          by_cases h2 : y = 2
          · subst h2
            have HN := hide (HNext.out (.inr (.inr rfl)))
            go_wp2
            go_round
            case rel => exact ⟨k + 1, by go_num, by omega, HN.out⟩
            case measure => simp [intOf]; omega
          · have b2 : (y != 2) = true := by simpa using h2
            have hfin : Hid (Post (.returned (.bool false)) w) := by
              show Post _ w
              rw [← HP.out]
              refine ⟨ret_bool ?_, rfl⟩
              symm
              rw [← Bool.not_eq_true, all3_iff]
              exact fun h => by rcases h _ HMem.out with e | e | e <;> contradiction
            clear HNext
            go_wp2
            exact hfin.out
    · obtain rfl : k = m := by omega
      have hfin : Hid (Post (.returned (.bool true)) w) := by
        show Post _ w
        rw [← HP.out]
        refine ⟨ret_bool ?_, rfl⟩
        symm
        rw [all3_iff]
        intro x hx
        obtain ⟨i, hi, e⟩ := List.getElem_of_mem hx
        rw [← e, ← atP_eq _ _ hi]
        exact HF.out i (by rw [← HX.out]; exact hi)
      go_wp2
      exact hfin.out

set_option maxRecDepth 100000 in
set_option maxHeartbeats 1000000 in
theorem tAll_any (la : Option Addr) (m lc : Nat) (bs : List Int) (w : World) (hr : RowT w la bs) (hx : bs.length = m) (hm : m ≤ 1000000) :
    Calls Try.prog 72 #[.slice la m lc] w fun e w' => e = .returned (.int .i64 (allOf bs)) ∧ w' = w := by
  have HR := hide hr
  have HX := hide hx
  generalize hP : (fun (e : Ending) (w' : World) => e = .returned (.int .i64 (allOf bs)) ∧ w' = w) = Post
  have HP := hide hP
  clear hr hx hP
  go_enter Try.func72, Try.ntmps72
  go_wp2
  go_loop [3, 5, 8] (fun t _ i => ∃ k : Nat, t = .int .i64 (all3K bs k) ∧ i = .int .i64 k ∧ k ≤ m) (fun _ _ i => m - (intOf i).toNat)
  case atStart => exact ⟨0, rfl, rfl, Nat.zero_le _⟩
  case round =>
    obtain ⟨k, rfl, rfl, hk⟩ := hrel
    by_cases hlt : k < m
    · obtain ⟨b, off, rfl, -, hcell⟩ := HR.out.addr (by rw [HX.out]; omega)
      have hc := hcell k (by rw [HX.out]; exact hlt)
      have HS : Hid (all3K bs (k + 1) = both3 (all3K bs k) (atP bs k)) := rfl
      generalize all3K bs k = x at HS ⊢
      generalize atP bs k = y at hc HS
      clear hcell
      go_wp2_with (go_at_call 95; refine (tBoth_any _ _ _).mono ?_; rintro e w' ⟨rfl, hw'⟩; obtain rfl := hw'.symm)
      go_round
      case rel => exact ⟨k + 1, by rw [HS.out], by go_num, by omega⟩
      case measure => simp [intOf]; omega
    · obtain rfl : k = m := by omega
      have hfin : Hid (Post (.returned (.int .i64 (all3K bs k))) w) := by
        show Post _ w
        rw [← HP.out]
        refine ⟨?_, rfl⟩
        unfold allOf
        rw [HX.out]
      generalize all3K bs k = x at hfin ⊢
      go_wp2
      exact hfin.out

theorem tset_bad (c : CV) (C : Circ) (w : World) (sa ia : Option Addr) (sn sc inn ic : Nat) (st is : List Int) (h : Holds w c C) (hf : Fits c C) (hs : RowT w sa st) (hsl : st.length = sn) (hi : RowT w ia is) (hil : is.length = inn) (hbad : C.stepN st.length is.length ≠ 0) :
    ∀ W, Below w.heap.size w W → Calls Try.prog 93 #[TerG, c.v, .slice sa sn sc, .slice ia inn ic] W fun e w' => e = .returned (.tuple #[.pointer none, .int .i64 (C.stepN st.length is.length)]) ∧ Below W.heap.size W w' := fun W hb => (tsettled_any c C W sa ia sn sc inn ic st is (h.below hb) hf (hs.below hb) hsl (hi.below hb) hil).mono (fun e w' hh => by
    rcases hh.2 with ⟨-, he⟩ | ⟨h0, -⟩
    · exact ⟨he, hh.1⟩
    · exact absurd h0 hbad)
theorem tset_good (c : CV) (C : Circ) (w : World) (sa ia : Option Addr) (sn sc inn ic : Nat) (st is : List Int) (h : Holds w c C) (hf : Fits c C) (hs : RowT w sa st) (hsl : st.length = sn) (hi : RowT w ia is) (hil : is.length = inn) (hgood : C.stepN st.length is.length = 0) :
    ∀ W, Below w.heap.size w W → Calls Try.prog 93 #[TerG, c.v, .slice sa sn sc, .slice ia inn ic] W fun e w' => ∃ sb g, e = .returned (.tuple #[.pointer (some ⟨sb, 0, none⟩), .int .i64 0]) ∧ TerBox w' sb (some ⟨g, 0, none⟩) (C.max.toNat + 1) (C.max.toNat + 1) ∧ RowT w' (some ⟨g, 0, none⟩) (C.valsT st is) ∧ Below W.heap.size W w' := fun W hb => (tsettled_any c C W sa ia sn sc inn ic st is (h.below hb) hf (hs.below hb) hsl (hi.below hb) hil).mono (fun e w' hh => by
    rcases hh.2 with ⟨h0, -⟩ | ⟨-, sb, g, rfl, hbx, hown⟩
    · exact absurd hgood h0
    · obtain ⟨a, k, e1, hr, -⟩ := rowT_own hown
      cases e1
      exact ⟨sb, g, rfl, hbx, hr, hh.1⟩)
theorem tLogic_all : ∀ W, Calls Try.prog 74 #[] W fun e w' => e = .returned (.agg #[.func (.func 96) #[] #[], .func (.func 95) #[] #[]]) ∧ Below W.heap.size W w' := fun W => tLogic_any W

/-- What settled tells. -/
def TPtrPost (w : World) (C : Circ) (st is : List Int) (e : Ending) (w' : World) : Prop :=
  Below w.heap.size w w' ∧ ((C.ternI st is ≠ 0 ∧ e = .returned (.tuple #[.pointer none, .int .i64 (C.ternI st is)])) ∨
    (C.ternI st is = 0 ∧ ∃ sb g, e = .returned (.tuple #[.pointer (some ⟨sb, 0, none⟩), .int .i64 0]) ∧ TerBox w' sb (some ⟨g, 0, none⟩) (C.max.toNat + 1) (C.max.toNat + 1) ∧ RowT w' (some ⟨g, 0, none⟩) (C.vals3 st is)))

set_option maxRecDepth 100000 in
set_option maxHeartbeats 4000000 in
theorem tsetl_any (c : CV) (C : Circ) (w : World) (sa ia : Option Addr) (sn sc inn ic : Nat) (st is : List Int) (h : Holds w c C) (hf : Fits c C) (hs : RowT w sa st) (hsl : st.length = sn) (hi : RowT w ia is) (hil : is.length = inn) (hn1 : sn ≤ 1000000) (hn2 : inn ≤ 1000000) :
    Calls Try.prog 65 #[c.v, .slice sa sn sc, .slice ia inn ic] w (TPtrPost w C st is) := by
  obtain ⟨W0, hW0⟩ : ∃ W0, W0 = w.alloc (.cells #[.int .i64 c.m, .slice c.a1 c.n1 c.c1, .slice c.a2 c.n2 c.c2, .slice c.a3 c.n3 c.c3, .slice c.a4 c.n4 c.c4, .slice c.a5 c.n5 c.c5, .slice c.a6 c.n6 c.c6, .slice c.a7 c.n7 c.c7] 27) := ⟨_, rfl⟩
  have HB : Hid (Box W0 w.heap.size c) := by rw [hW0]; exact box_new w c
  have HW : Hid (Below w.heap.size w W0) := by rw [hW0]; exact below_alloc w _
  have HLg := hide tLogic_all
  generalize hP : TPtrPost w C st is = Post
  have HP := hide hP
  clear hP
  by_cases hbad : C.stepN st.length is.length ≠ 0
  · have HC := hide (tset_bad c C w sa ia sn sc inn ic st is h hf hs hsl hi hil hbad)
    have hend : Hid (∀ W, Below w.heap.size w W → Post (.returned (.tuple #[.pointer none, .int .i64 (C.stepN st.length is.length)])) W) := fun W hb => by
      have e : C.ternI st is = C.stepN st.length is.length := by unfold Circ.ternI; rw [if_pos hbad]
      rw [← HP.out]; exact ⟨hb, .inl ⟨by rw [e]; exact hbad, by rw [e]⟩⟩
    generalize C.stepN st.length is.length = ck at HC hbad hend
    have hck : (ck != 0) = true := by simpa using hbad
    unfold TerG CV.v at HC
    unfold CV.v
    clear h hf hs hsl hi hil hbad
    go_enter Try.func65, Try.ntmps65
    go_upto_region 1 with fail
    rw [← hW0]
    clear hW0
    obtain ⟨q0, q1, q2, q3, q4, q5, q6, q7⟩ := HB.out.cells
    go_region_held3 (fun w' => w'.cell? ⟨w.heap.size, 0, none⟩ = some (.int .i64 c.m) ∧ w'.cell? ⟨w.heap.size, 1, none⟩ = some (.slice c.a1 c.n1 c.c1) ∧ w'.cell? ⟨w.heap.size, 2, none⟩ = some (.slice c.a2 c.n2 c.c2) ∧ w'.cell? ⟨w.heap.size, 3, none⟩ = some (.slice c.a3 c.n3 c.c3) ∧ w'.cell? ⟨w.heap.size, 4, none⟩ = some (.slice c.a4 c.n4 c.c4) ∧ w'.cell? ⟨w.heap.size, 5, none⟩ = some (.slice c.a5 c.n5 c.c5) ∧ w'.cell? ⟨w.heap.size, 6, none⟩ = some (.slice c.a6 c.n6 c.c6) ∧ w'.cell? ⟨w.heap.size, 7, none⟩ = some (.slice c.a7 c.n7 c.c7)) (go_keep) (first | (go_at_call 74; refine (HLg.out _).mono ?_; rintro e w1 ⟨rfl, hb1⟩; have hB1 : Below W0.heap.size W0 w1 := belowThen (Drew.below ⟨1, rfl⟩) hb1; obtain ⟨p0, p1, p2, p3, p4, p5, p6, p7⟩ := (HB.out.below hB1).cells) | (go_at_call 93; refine (HC.out _ (belowThen HW.out hB1)).mono ?_; rintro e w2 ⟨rfl, hb2⟩; have hB2 := hide (belowThen HW.out (belowThen hB1 hb2)); obtain ⟨r0, r1, r2, r3, r4, r5, r6, r7⟩ := (HB.out.below (belowThen hB1 hb2)).cells))
    go_wp2
    exact hend.out _ hB2.out
  · have hgood : C.stepN st.length is.length = 0 := by simpa using hbad
    have HC := hide (tset_good c C w sa ia sn sc inn ic st is h hf hs hsl hi hil hgood)
    obtain ⟨n, hn⟩ : ∃ n, n = C.max.toNat + 1 := ⟨_, rfl⟩
    rw [← hn] at HC
    have HT1 : Hid (∀ W, Below w.heap.size w W → Calls Try.prog 94 #[.slice sa sn sc] W fun e w' => e = .returned (.bool (all3B st)) ∧ w' = W) := fun W hb => ofThree_any sa sn sc st W (hs.below hb) hsl hn1
    have HT2 : Hid (∀ W, Below w.heap.size w W → Calls Try.prog 94 #[.slice ia inn ic] W fun e w' => e = .returned (.bool (all3B is)) ∧ w' = W) := fun W hb => ofThree_any ia inn ic is W (hi.below hb) hil hn2
    have hone : Hid (∀ W, Below w.heap.size w W → ¬ (all3B st = true ∧ all3B is = true) → Post (.returned (.tuple #[.pointer none, .int .i64 1])) W) := fun W hb hne => by
      have e : C.ternI st is = 1 := by unfold Circ.ternI; rw [if_neg (fun k => k hgood), if_neg hne]
      rw [← HP.out]; exact ⟨hb, .inl ⟨by rw [e]; decide, by rw [e]⟩⟩
    have hend : Hid (∀ W w1 sb g, Below w.heap.size w w1 → Below w1.heap.size w1 W → TerBox W sb (some ⟨g, 0, none⟩) n n → RowT W (some ⟨g, 0, none⟩) (C.valsT st is) → all3B st = true → all3B is = true → Post (.returned (.tuple #[.pointer (some ⟨sb, 0, none⟩), .int .i64 0])) W) := fun W w1 sb g h1 h2 h3 h4 h5 h6 => by
      have e : C.ternI st is = 0 := by unfold Circ.ternI; rw [if_neg (fun k => k hgood), if_pos ⟨h5, h6⟩]
      rw [vals_T C ((all3_iff _).1 h5) ((all3_iff _).1 h6)] at h4
      rw [← HP.out]
      subst hn
      exact ⟨belowThen h1 h2, .inr ⟨e, sb, g, rfl, h3, h4⟩⟩
    unfold TerG CV.v at HC
    unfold CV.v
    clear h hf hs hsl hi hil hbad hgood hn
    generalize all3B st = b1 at HT1 hone hend
    generalize all3B is = b2 at HT2 hone hend
    cases b1 <;> cases b2
    all_goals
      go_enter Try.func65, Try.ntmps65
      go_upto_region 1 with fail
      rw [← hW0]
      clear hW0
      obtain ⟨q0, q1, q2, q3, q4, q5, q6, q7⟩ := HB.out.cells
      go_region_held3 (fun w' => w'.cell? ⟨w.heap.size, 0, none⟩ = some (.int .i64 c.m) ∧ w'.cell? ⟨w.heap.size, 1, none⟩ = some (.slice c.a1 c.n1 c.c1) ∧ w'.cell? ⟨w.heap.size, 2, none⟩ = some (.slice c.a2 c.n2 c.c2) ∧ w'.cell? ⟨w.heap.size, 3, none⟩ = some (.slice c.a3 c.n3 c.c3) ∧ w'.cell? ⟨w.heap.size, 4, none⟩ = some (.slice c.a4 c.n4 c.c4) ∧ w'.cell? ⟨w.heap.size, 5, none⟩ = some (.slice c.a5 c.n5 c.c5) ∧ w'.cell? ⟨w.heap.size, 6, none⟩ = some (.slice c.a6 c.n6 c.c6) ∧ w'.cell? ⟨w.heap.size, 7, none⟩ = some (.slice c.a7 c.n7 c.c7)) (go_keep) (first | (go_at_call 74; refine (HLg.out _).mono ?_; rintro e w1 ⟨rfl, hb1⟩; have hB1 : Below W0.heap.size W0 w1 := belowThen (Drew.below ⟨1, rfl⟩) hb1; obtain ⟨p0, p1, p2, p3, p4, p5, p6, p7⟩ := (HB.out.below hB1).cells) | (go_at_call 93; refine (HC.out _ (belowThen HW.out hB1)).mono ?_; rintro e w2 ⟨sb, g, rfl, hbx, hrow, hb2⟩; have hB2 := hide (belowThen HW.out (belowThen hB1 hb2)); have hE := hide (fun h5 h6 => hend.out w2 _ sb g (belowThen HW.out hB1) hb2 hbx hrow h5 h6); obtain ⟨r0, r1, r2, r3, r4, r5, r6, r7⟩ := (HB.out.below (belowThen hB1 hb2)).cells))
      have hN := hide (hone.out w2 hB2.out)
      clear hend HC HLg hone q0 q1 q2 q3 q4 q5 q6 q7 p0 p1 p2 p3 p4 p5 p6 p7 r0 r1 r2 r3 r4 r5 r6 r7 hB1 hb2 hb1
      go_wp2_with (first | (go_at_call_of 94 (Value.slice sa sn sc); refine (HT1.out _ hB2.out).mono ?_; rintro e w3 ⟨rfl, hw3⟩; obtain rfl := hw3.symm) | (go_at_call_of 94 (Value.slice ia inn ic); refine (HT2.out _ hB2.out).mono ?_; rintro e w3 ⟨rfl, hw3⟩; obtain rfl := hw3.symm))
      first | exact hN.out (by decide) | exact hE.out trivial trivial

/-- What Values tells. -/
def TValPost (w : World) (C : Circ) (st is : List Int) (e : Ending) (w' : World) : Prop :=
  ∃ a n k, e = .returned (.tuple #[.slice a n k, .int .i64 (C.ternI st is)]) ∧ RowT w' a (C.valsE3 st is) ∧ (C.valsE3 st is).length = n ∧ Below w.heap.size w w'

set_option maxRecDepth 100000 in
set_option maxHeartbeats 2000000 in
theorem tValues_any (c : CV) (C : Circ) (w : World) (sa ia : Option Addr) (sn sc inn ic : Nat) (st is : List Int) (h : Holds w c C) (hf : Fits c C) (hs : RowT w sa st) (hsl : st.length = sn) (hi : RowT w ia is) (hil : is.length = inn) (hn1 : sn ≤ 1000000) (hn2 : inn ≤ 1000000) :
    Calls Try.prog 30 #[c.v, .slice sa sn sc, .slice ia inn ic] w (TValPost w C st is) := by
  have HW : Hid (Below w.heap.size w (w.alloc (.cells #[.int .i64 c.m, .slice c.a1 c.n1 c.c1, .slice c.a2 c.n2 c.c2, .slice c.a3 c.n3 c.c3, .slice c.a4 c.n4 c.c4, .slice c.a5 c.n5 c.c5, .slice c.a6 c.n6 c.c6, .slice c.a7 c.n7 c.c7] 27))) := below_alloc w _
  have HC := hide (tsetl_any c C (w.alloc (.cells #[.int .i64 c.m, .slice c.a1 c.n1 c.c1, .slice c.a2 c.n2 c.c2, .slice c.a3 c.n3 c.c3, .slice c.a4 c.n4 c.c4, .slice c.a5 c.n5 c.c5, .slice c.a6 c.n6 c.c6, .slice c.a7 c.n7 c.c7] 27)) sa ia sn sc inn ic st is (h.below HW.out) hf (hs.below HW.out) hsl (hi.below HW.out) hil hn1 hn2)
  generalize hP : TValPost w C st is = Post
  have HP := hide hP
  clear hP h hf hs hsl hi hil
  unfold CV.v at HC ⊢
  go_enter Try.func30, Try.ntmps30
  go_wp2_with fail
  refine HC.out.mono ?_
  intro e w1 he
  have hb := belowThen HW.out he.1
  rcases he.2 with ⟨hc, rfl⟩ | ⟨hc, sb, g, rfl, hbx, hrow⟩
  · have hend : Hid (Post (.returned (.tuple #[.slice none 0 0, .int .i64 (C.ternI st is)])) w1) := by
      show Post _ w1
      have e : C.valsE3 st is = [] := if_neg hc
      rw [← HP.out]
      exact ⟨none, 0, 0, rfl, by rw [e]; exact .inl ⟨rfl, rfl⟩, by rw [e]; rfl, hb⟩
    generalize C.ternI st is = ck at hc hend ⊢
    have hck : (ck != 0) = true := by simpa using hc
    clear HC HW hb he hc
    go_wp2
    exact hend.out
  · have hend : Hid (Post (.returned (.tuple #[.slice (some ⟨g, 0, none⟩) (C.max.toNat + 1) (C.max.toNat + 1), .int .i64 0])) w1) := by
      show Post _ w1
      have e : C.valsE3 st is = C.vals3 st is := if_pos hc
      rw [← HP.out]
      exact ⟨_, _, _, by rw [hc], by rw [e]; exact hrow, by rw [e, vals3_len], hb⟩
    obtain ⟨c0, c1, c2⟩ := hbx.cells
    generalize C.max.toNat + 1 = n at hend c2 ⊢
    clear HC HW hb he hrow hbx
    go_wp2
    exact hend.out

/-- What Step tells. -/
def TStepPost (w : World) (C : Circ) (st is : List Int) (e : Ending) (w' : World) : Prop :=
  ∃ a1 n1 k1 a2 n2 k2, e = .returned (.tuple #[.slice a1 n1 k1, .slice a2 n2 k2, .int .i64 (C.stepE3 st is).holds, .int .i64 (C.ternI st is)]) ∧ RowT w' a1 (C.stepE3 st is).next ∧ (C.stepE3 st is).next.length = n1 ∧ RowT w' a2 (C.stepE3 st is).bads ∧ (C.stepE3 st is).bads.length = n2 ∧ Below w.heap.size w w'

/-- What stands while Step makes its rows. -/
structure TS (w0 : World) (c : CV) (C : Circ) (b sb g n : Nat) (vs : List Int) (W : World) : Prop where
  holds : Holds W c C
  box : Box W b c
  sig : SigQ W sb (some ⟨g, 0, none⟩) n n vs
  below : Below w0.heap.size w0 W
theorem TS.then {w0 W W' : World} {c : CV} {C : Circ} {b sb g n : Nat} {vs : List Int} (h : TS w0 c C b sb g n vs W) (hb : Below W.heap.size W W') : TS w0 c C b sb g n vs W' := ⟨h.holds.below hb, h.box.below hb, h.sig.below hb, belowThen h.below hb⟩
theorem map_T {v : List Int} (h : All3 v) (ls : List Int) : ls.map (litT v) = ls.map (lit3 v) := List.map_congr_left (fun l _ => lit_T h l)

set_option maxRecDepth 100000 in
set_option maxHeartbeats 4000000 in
theorem tStep_any (c : CV) (C : Circ) (w : World) (sa ia : Option Addr) (sn sc inn ic : Nat) (st is : List Int) (h : Holds w c C) (hf : Fits c C) (hs : RowT w sa st) (hsl : st.length = sn) (hi : RowT w ia is) (hil : is.length = inn) (hn1 : sn ≤ 1000000) (hn2 : inn ≤ 1000000) :
    Calls Try.prog 32 #[c.v, .slice sa sn sc, .slice ia inn ic] w (TStepPost w C st is) := by
  have HB := hide (box_new w c)
  have HH := hide h
  have HW : Hid (Below w.heap.size w (w.alloc (.cells #[.int .i64 c.m, .slice c.a1 c.n1 c.c1, .slice c.a2 c.n2 c.c2, .slice c.a3 c.n3 c.c3, .slice c.a4 c.n4 c.c4, .slice c.a5 c.n5 c.c5, .slice c.a6 c.n6 c.c6, .slice c.a7 c.n7 c.c7] 27))) := below_alloc w _
  have HC := hide (tsetl_any c C (w.alloc (.cells #[.int .i64 c.m, .slice c.a1 c.n1 c.c1, .slice c.a2 c.n2 c.c2, .slice c.a3 c.n3 c.c3, .slice c.a4 c.n4 c.c4, .slice c.a5 c.n5 c.c5, .slice c.a6 c.n6 c.c6, .slice c.a7 c.n7 c.c7] 27)) sa ia sn sc inn ic st is (h.below HW.out) hf (hs.below HW.out) hsl (hi.below HW.out) hil hn1 hn2)
  generalize hP : TStepPost w C st is = Post
  have HP := hide hP
  clear hP h hf hs hsl hi hil
  have hcv : c.v = .agg #[.int .i64 c.m, .slice c.a1 c.n1 c.c1, .slice c.a2 c.n2 c.c2, .slice c.a3 c.n3 c.c3, .slice c.a4 c.n4 c.c4, .slice c.a5 c.n5 c.c5, .slice c.a6 c.n6 c.c6, .slice c.a7 c.n7 c.c7] := rfl
  rw [hcv] at HC ⊢
  go_enter Try.func32, Try.ntmps32
  go_wp2_with fail
  refine HC.out.mono ?_
  intro e w1 he
  have HW1 := hide (belowThen HW.out he.1)
  have HB1 := hide (HB.out.below he.1)
  clear HC HB HW
  rcases he.2 with ⟨hc, rfl⟩ | ⟨hc, sb, g, rfl, hbx, hrow⟩
  · have hend : Hid (Post (.returned (.tuple #[.slice none 0 0, .slice none 0 0, .int .i64 0, .int .i64 (C.ternI st is)])) w1) := by
      show Post _ w1
      have e : C.stepE3 st is = ⟨[], [], 0⟩ := if_neg hc
      rw [← HP.out]
      exact ⟨none, 0, 0, none, 0, 0, by rw [e], by rw [e]; exact .inl ⟨rfl, rfl⟩, by rw [e]; rfl, by rw [e]; exact .inl ⟨rfl, rfl⟩, by rw [e]; rfl, HW1.out⟩
    generalize C.ternI st is = ck at hc hend ⊢
    have hck : (ck != 0) = true := by simpa using hc
    clear he hc
    go_wp2
    refine bodyPost_ret (v := .tuple #[.slice none 0 0, .slice none 0 0, .int .i64 0, .int .i64 ck]) (by simp [results, Try.results32, go_sem, *]) rfl ?_
    exact hend.out
  · obtain ⟨h0, -, -, h3, h4⟩ := ternI_zero hc
    have HRt := hide (right_of h0)
    have HA := hide (vals3_all C h3 h4)
    have HE : Hid (C.stepE3 st is = C.row3 (C.vals3 st is)) := if_pos hc
    have hlen := vals3_len C st is
    generalize C.vals3 st is = vs at HA HE hrow hlen
    obtain ⟨n, hn⟩ : ∃ n, n = C.max.toNat + 1 := ⟨_, rfl⟩
    rw [← hn] at hlen hbx
    have hn4 : n ≤ 10000 := by have := HRt.out.small.max; omega
    have HNn := hide hn
    have T1 : Hid (TS w c C w.heap.size sb g n vs w1) := ⟨HH.out.below HW1.out, HB1.out, ⟨hbx, hrow, hlen, hn4⟩, HW1.out⟩
    have HL := hide HH.out
    have hm2 : c.n2 ≤ 64 := by rw [← HH.out.l2]; exact HRt.out.small.lats
    have hm3 : c.n3 ≤ 64 := by rw [← HH.out.l3]; exact HRt.out.small.outs
    have hm4 : c.n4 ≤ 64 := by rw [← HH.out.l4]; exact HRt.out.small.bads
    have hm5 : c.n5 ≤ 64 := by rw [← HH.out.l5]; exact HRt.out.small.cons
    obtain ⟨nb, hnb⟩ : ∃ nb, nb = C.badsOr.length := ⟨_, rfl⟩
    have hnb4 : nb ≤ 64 := by rw [hnb]; exact badsOr_len HRt.out.small
    have HNb := hide hnb
    have hend : Hid (∀ W a1 k1 a2 k2, TS w c C w.heap.size sb g n vs W → RowT W a1 (C.nexts.map (litT vs)) → RowT W a2 (C.badsOr.map (litT vs)) → Post (.returned (.tuple #[.slice a1 c.n2 k1, .slice a2 nb k2, .int .i64 (allOf (C.cons.map (litT vs))), .int .i64 0])) W) := fun W a1 k1 a2 k2 t g1 g2 => by
      rw [← HP.out]
      rw [map_T HA.out] at g1 g2 ⊢
      refine ⟨a1, c.n2, k1, a2, nb, k2, by rw [HE.out, hc]; rfl, by rw [HE.out]; exact g1, ?_, by rw [HE.out]; exact g2, ?_, t.below⟩
      · rw [HE.out]; show (C.nexts.map _).length = _; unfold Circ.nexts; rw [List.length_map, List.length_map]; exact HL.out.l2
      · rw [HE.out]; show (C.badsOr.map _).length = _; rw [List.length_map]; exact HNb.out.symm
    have H1 : Hid (∀ W, TS w c C w.heap.size sb g n vs W → Calls Try.prog 68 #[.slice c.a2 c.n2 c.c2, .func (.func 69) #[.pointer (some ⟨sb, 0, none⟩)] #[]] W fun e w' => ∃ a cp, e = .returned (.slice a c.n2 cp) ∧ RowT w' a (C.nexts.map (litT vs)) ∧ Below W.heap.size W w') := fun W t => (teachLatch_any sb _ n n vs c.a2 c.n2 c.c2 C.lats W t.sig t.holds.r2 t.holds.l2 (by omega) (fun x hx => by rw [HNn.out]; exact (in_lats HRt.out x hx).2.1)).mono (fun e w' hh => by
      obtain ⟨v, rfl, hn, hbl⟩ := hh
      obtain ⟨a, cp, rfl, hr, hl⟩ := rowT_own hn
      have e1 : C.nexts.map (litT vs) = C.lats.map (fun t => litT vs t.2.1) := by unfold Circ.nexts; rw [List.map_map]; rfl
      rw [e1]
      rw [List.length_map, t.holds.l2] at hl ⊢
      exact ⟨a, cp, rfl, hr, hbl⟩)
    have H3 : Hid (∀ W, TS w c C w.heap.size sb g n vs W → Calls Try.prog 46 #[c.v] W fun e w' => ∃ a cp, e = .returned (.slice a nb cp) ∧ RowK .i64 w' a C.badsOr ∧ Below W.heap.size W w') := fun W t => (bads_any c C W t.holds (by omega) (by omega)).mono (fun e w' hh => by
      obtain ⟨v, rfl, hn, hbl⟩ := hh
      obtain ⟨a, cp, rfl, hr, -⟩ := row_of_own hn
      exact ⟨a, cp, by rw [HNb.out], hr, hbl⟩)
    have H4 : Hid (∀ A K W, TS w c C w.heap.size sb g n vs W → RowK .i64 W A C.badsOr → Calls Try.prog 70 #[.slice A nb K, .func (.func 71) #[.pointer (some ⟨sb, 0, none⟩)] #[]] W fun e w' => ∃ a cp, e = .returned (.slice a nb cp) ∧ RowT w' a (C.badsOr.map (litT vs)) ∧ Below W.heap.size W w') := fun A K W t hr => (teachInt_any sb _ n n vs A nb K C.badsOr W t.sig hr HNb.out.symm (by omega) (by rw [HNn.out]; exact in_badsOr HRt.out)).mono (fun e w' hh => by
      obtain ⟨v, rfl, hn, hbl⟩ := hh
      obtain ⟨a, cp, rfl, hr, hl⟩ := rowT_own hn
      rw [List.length_map, ← HNb.out]
      exact ⟨a, cp, rfl, hr, hbl⟩)
    have H5 : Hid (∀ W, TS w c C w.heap.size sb g n vs W → Calls Try.prog 70 #[.slice c.a5 c.n5 c.c5, .func (.func 71) #[.pointer (some ⟨sb, 0, none⟩)] #[]] W fun e w' => ∃ a cp, e = .returned (.slice a c.n5 cp) ∧ RowT w' a (C.cons.map (litT vs)) ∧ Below W.heap.size W w') := fun W t => (teachInt_any sb _ n n vs c.a5 c.n5 c.c5 C.cons W t.sig t.holds.r5 t.holds.l5 (by omega) (by rw [HNn.out]; exact in_cons HRt.out)).mono (fun e w' hh => by
      obtain ⟨v, rfl, hn, hbl⟩ := hh
      obtain ⟨a, cp, rfl, hr, hl⟩ := rowT_own hn
      rw [List.length_map, t.holds.l5]
      exact ⟨a, cp, rfl, hr, hbl⟩)
    have H6 : Hid (∀ A K W, RowT W A (C.cons.map (litT vs)) → Calls Try.prog 72 #[.slice A c.n5 K] W fun e w' => e = .returned (.int .i64 (allOf (C.cons.map (litT vs)))) ∧ w' = W) := fun A K W hr => tAll_any A c.n5 K _ W hr (by rw [List.length_map]; exact HL.out.l5) (by omega)
    rw [hcv] at H3
    generalize allOf (C.cons.map (litT vs)) = hh at H6 hend
    generalize C.nexts.map (litT vs) = ln at H1 hend
    generalize C.badsOr.map (litT vs) = lb at H4 hend
    generalize C.cons.map (litT vs) = lc at H5 H6
    clear he hrow hbx hlen hc HA HE HP HNn hn HRt h0 h3 h4 hcv HH HL HB1 HW1 hnb HNb
    obtain ⟨q0, q1, q2, q3, q4, q5, q6, q7⟩ := T1.out.box.cells
    go_wp2_with fail
    refine (H1.out _ T1.out).mono ?_
    rintro e w2 ⟨A1, K1, rfl, hr1, hb2⟩
    have T2 := hide (T1.out.then hb2)
    have R1 := hide hr1
    clear T1 H1 hr1 hb2 q0 q1 q2 q3 q4 q5 q6 q7
    obtain ⟨q0, q1, q2, q3, q4, q5, q6, q7⟩ := T2.out.box.cells
    go_wp2_with fail
    refine (H3.out _ T2.out).mono ?_
    rintro e w3 ⟨A2, K2, rfl, hr2, hb3⟩
    have T3 := hide (T2.out.then hb3)
    replace R1 := hide (R1.out.below hb3)
    have R2 := hide hr2
    clear T2 H3 hr2 hb3 q0 q1 q2 q3 q4 q5 q6 q7
    obtain ⟨q0, q1, q2, q3, q4, q5, q6, q7⟩ := T3.out.box.cells
    go_wp2_with fail
    refine (H4.out _ _ _ T3.out R2.out).mono ?_
    rintro e w4 ⟨A3, K3, rfl, hr3, hb4⟩
    have T4 := hide (T3.out.then hb4)
    replace R1 := hide (R1.out.below hb4)
    have R3 := hide hr3
    clear T3 H4 R2 hr3 hb4 q0 q1 q2 q3 q4 q5 q6 q7
    obtain ⟨q0, q1, q2, q3, q4, q5, q6, q7⟩ := T4.out.box.cells
    go_wp2_with fail
    refine (H5.out _ T4.out).mono ?_
    rintro e w5 ⟨A4, K4, rfl, hr4, hb5⟩
    have T5 := hide (T4.out.then hb5)
    replace R1 := hide (R1.out.below hb5)
    replace R3 := hide (R3.out.below hb5)
    have hE := hide (hend.out w5 A1 K1 A3 K3 T5.out R1.out R3.out)
    have HX := hide (H6.out A4 K4 w5 hr4)
    clear T4 H5 H6 hr4 hb5 R1 R3 hend T5 q0 q1 q2 q3 q4 q5 q6 q7
    go_wp2_with (go_at_call 72; refine HX.out.mono ?_; rintro e w6 ⟨rfl, hw6⟩; obtain rfl := hw6.symm)
    refine bodyPost_ret (v := .tuple #[.slice A1 c.n2 K1, .slice A3 nb K3, .int .i64 hh, .int .i64 0]) (by simp [results, Try.results32, go_sem, *]) rfl ?_
    exact hE.out
end Go.Proofs.Ytmbbcghhdjpgeaa

namespace Go.Proofs.Ytmbbcghhdjpgeaa
open Go.RowKit

/-- What a literal is, of whatever number. -/
def lit3E (v : List Int) (l : Int) : Int := if l < 0 ∨ v.length ≤ varN l then 2 else lit3 v l
theorem lit3E_in {v : List Int} {n : Nat} {l : Int} (h : LitIn n l) (hv : v.length = n) : lit3E v l = lit3 v l := by
  obtain ⟨h0, h1, h2⟩ := h
  unfold lit3E; rw [if_neg (by omega)]
theorem lit3_odd (v : List Int) {l : Int} (h : l % 2 = 1) : lit3 v l = not3 (atP v (varN l)) := by unfold lit3; rw [if_pos h]
theorem lit3_even (v : List Int) {l : Int} (h : l % 2 = 0) : lit3 v l = atP v (varN l) := by unfold lit3; rw [if_neg (by omega)]

set_option maxHeartbeats 400000 in
theorem rNot3_any (x : Int) (w : World) : Calls Try.prog 75 #[.int .i64 x] w fun e w' => e = .returned (.int .i64 (not3 x)) ∧ w' = w := by
  unfold not3
  by_cases h0 : x = 0
  · subst h0
    go_enter Try.func75, Try.ntmps75
    go_wp2
    go_ret
    exact ⟨rfl, rfl⟩
  · have b0 : (x == 0) = false := by simpa using h0
    rw [if_neg h0]
    by_cases h1 : x = 1
    · subst h1
      go_enter Try.func75, Try.ntmps75
      go_wp2
      go_ret
      exact ⟨rfl, rfl⟩
    · have b1 : (x == 1) = false := by simpa using h1
      rw [if_neg h1]
      go_enter Try.func75, Try.ntmps75
      go_wp2
      go_ret
      exact ⟨rfl, rfl⟩
set_option maxHeartbeats 1000000 in
theorem rBoth3_any (x y : Int) (w : World) : Calls Try.prog 67 #[.int .i64 x, .int .i64 y] w fun e w' => e = .returned (.int .i64 (both3 x y)) ∧ w' = w := by
  unfold both3
  by_cases h0 : x = 0
  · subst h0
    rw [if_pos (Or.inl rfl)]
    go_enter Try.func67, Try.ntmps67
    go_wp2
    go_ret
    exact ⟨rfl, rfl⟩
  · have b0 : (x == 0) = false := by simpa using h0
    by_cases h1 : y = 0
    · subst h1
      rw [if_pos (Or.inr rfl)]
      go_enter Try.func67, Try.ntmps67
      go_wp2
      go_ret
      exact ⟨rfl, rfl⟩
    · have b1 : (y == 0) = false := by simpa using h1
      rw [if_neg (by omega)]
      by_cases h2 : x = 1
      · subst h2
        by_cases h3 : y = 1
        · subst h3
          rw [if_pos ⟨rfl, rfl⟩]
          go_enter Try.func67, Try.ntmps67
          go_wp2
          go_ret
          exact ⟨rfl, rfl⟩
        · have b3 : (y == 1) = false := by simpa using h3
          rw [if_neg (fun h => h3 h.2)]
          go_enter Try.func67, Try.ntmps67
          go_wp2
          go_ret
          exact ⟨rfl, rfl⟩
      · have b2 : (x == 1) = false := by simpa using h2
        rw [if_neg (fun h => h2 h.1)]
        go_enter Try.func67, Try.ntmps67
        go_wp2
        go_ret
        exact ⟨rfl, rfl⟩

set_option maxRecDepth 100000 in
set_option maxHeartbeats 1000000 in
theorem rLit3_any (la : Option Addr) (m lc : Nat) (bs : List Int) (l : Int) (w : World) (h : RowT w la bs) (hx : bs.length = m) (hm : m ≤ 10000) (hl : -9223372036854775808 ≤ l ∧ l ≤ 9223372036854775807) :
    Calls Try.prog 37 #[.slice la m lc, .int .i64 l] w fun e w' => e = .returned (.int .i64 (lit3E bs l)) ∧ w' = w := by
  by_cases h0 : l < 0
  · have e : lit3E bs l = 2 := by unfold lit3E; rw [if_pos (Or.inl h0)]
    rw [e]
    clear h hx
    go_enter Try.func37, Try.ntmps37
    go_wp2
    go_ret
    exact ⟨rfl, rfl⟩
  · have h0' : 0 ≤ l := by omega
    have hq := tdiv_two h0'
    have hm2 := tmod_2 h0'
    have hb : varN l ≤ 4611686018427387904 := by unfold varN; omega
    by_cases hv : m ≤ varN l
    · have e : lit3E bs l = 2 := by unfold lit3E; rw [if_pos (Or.inr (by omega))]
      rw [e]
      generalize varN l = v at hq hv hb
      clear h hx hm2
      have hv1 : (m : Int) ≤ (v : Int) := by omega
      go_enter Try.func37, Try.ntmps37
      go_wp2
      go_ret
      exact ⟨rfl, rfl⟩
    · have e : lit3E bs l = lit3 bs l := by unfold lit3E; rw [if_neg (by omega)]
      rw [e]
      obtain ⟨b, off, rfl, -, hcell⟩ := h.addr (by omega)
      have hc := hcell (varN l) (by omega)
      have HO := hide (fun h => lit3_odd bs (l := l) h)
      have HE := hide (fun h => lit3_even bs (l := l) h)
      generalize lit3 bs l = r at HO HE ⊢
      have hv : varN l < m := by omega
      generalize varN l = v at hq hc hv HO HE hb ⊢
      generalize atP bs v = x at hc HO HE ⊢
      have hy : l % 2 = 0 ∨ l % 2 = 1 := by omega
      generalize l % 2 = y at hm2 hy HO HE ⊢
      clear h hcell e hx
      have hv1 : (v : Int) < (m : Int) := by omega
      rcases hy with rfl | rfl
      · obtain rfl := HE.out rfl
        clear HO HE
        go_enter Try.func37, Try.ntmps37
        go_wp2
        go_ret
        exact ⟨rfl, rfl⟩
      · obtain rfl := HO.out rfl
        clear HO HE
        go_enter Try.func37, Try.ntmps37
        go_wp2_with (go_at_call 75; refine (rNot3_any _ _).mono ?_; rintro e w' ⟨rfl, hw'⟩; obtain rfl := hw'.symm)
        go_ret
        exact ⟨rfl, rfl⟩
theorem rLit3_in (g n : Nat) (bs : List Int) (l : Int) (w : World) (h : SigT w g n bs) (hl : LitIn n l) :
    Calls Try.prog 37 #[.slice (some ⟨g, 0, none⟩) n n, .int .i64 l] w fun e w' => e = .returned (.int .i64 (lit3 bs l)) ∧ w' = w := by
  have := rLit3_any (some ⟨g, 0, none⟩) n n bs l w (rowT_sig h) h.len h.le ⟨by have := hl.1; omega, by have := hl.2.1; omega⟩
  rw [lit3E_in hl h.len] at this
  exact this

set_option maxRecDepth 100000 in
set_option maxHeartbeats 2000000 in
theorem tLit_all (la : Option Addr) (m lc : Nat) (bs : List Int) (l : Int) (w : World) (h : RowT w la bs) (hx : bs.length = m) (hm : m ≤ 10000) (ha : All3 bs) (hl : -9223372036854775808 ≤ l ∧ l ≤ 9223372036854775807) :
    Calls Try.prog 36 #[.slice la m lc, .int .i64 l] w fun e w' => e = .returned (.int .i64 (lit3E bs l)) ∧ Below w.heap.size w w' := by
  by_cases h0 : l < 0
  · have e : lit3E bs l = 2 := by unfold lit3E; rw [if_pos (Or.inl h0)]
    rw [e]
    clear h hx
    have hend : Hid (Below w.heap.size w w) := Below.refl _ _
    go_enter Try.func36, Try.ntmps36
    go_wp2
    go_ret
    exact ⟨rfl, hend.out⟩
  · have h0' : 0 ≤ l := by omega
    have hq := tdiv_two h0'
    have hb : varN l ≤ 4611686018427387904 := by unfold varN; omega
    by_cases hv : m ≤ varN l
    · have e : lit3E bs l = 2 := by unfold lit3E; rw [if_pos (Or.inr (by omega))]
      rw [e]
      generalize varN l = v at hq hv hb
      clear h hx
      have hv1 : (v : Int) ≥ (m : Int) := by omega
      have hv2 : (m : Int) ≤ (v : Int) := by omega
      have hend : Hid (Below w.heap.size w w) := Below.refl _ _
      go_enter Try.func36, Try.ntmps36
      go_wp2
      go_ret
      exact ⟨rfl, hend.out⟩
    · have e : lit3E bs l = litT bs l := by unfold lit3E; rw [if_neg (by omega), lit_T ha]
      rw [e]
      have hv0 : varN l < m := by omega
      have hv1 : ¬ (m : Int) ≤ (varN l : Int) := by omega
      have hv3 : (varN l : Int) < (m : Int) := by omega
      have HLg := hide tLogic_all
      have HG : Hid (∀ W sb, Below w.heap.size w W → TerBox W sb la m lc → Calls Try.prog 71 #[.pointer (some ⟨sb, 0, none⟩), .int .i64 l] W fun e w' => e = .returned (.int .i64 (litT bs l)) ∧ w' = W) := fun W sb hb' hbx => tLit_any sb la m lc bs l W ⟨hbx, h.below hb', hx, hm⟩ ⟨h0', hv0⟩
      generalize litT bs l = r at HG ⊢
      generalize varN l = v at hq hv hb hv1 hv3
      clear h hx e ha hv0
      go_enter Try.func36, Try.ntmps36
      go_wp2_with fail
      refine (HLg.out _).mono ?_
      rintro e w1 ⟨rfl, hb1⟩
      have HW1 := hide hb1
      clear hb1
      have hX : TerBox (w1.alloc (.cells #[.func (.func 96) #[] #[], .func (.func 95) #[] #[], .slice la m lc] 116)) w1.heap.size la m lc := heap_alloc_new w1 _
      have hBl : Below w.heap.size w (w1.alloc (.cells #[.func (.func 96) #[] #[], .func (.func 95) #[] #[], .slice la m lc] 116)) := belowThen HW1.out (below_alloc w1 _)
      have HX := hide hX
      have HBl := hide hBl
      clear hX hBl
      go_wp2_with fail
      refine (HG.out _ w1.heap.size HBl.out HX.out).mono ?_
      rintro e w2 ⟨rfl, hw2⟩
      have hend : Hid (Below w.heap.size w w2) := by rw [hw2]; exact HBl.out
      clear hw2 HBl HX HG HW1 HLg
      go_wp2
      go_ret
      exact ⟨rfl, hend.out⟩
end Go.Proofs.Ytmbbcghhdjpgeaa

namespace Go.Proofs.Ytmbbcghhdjpgeaa
open Go.RowKit

set_option maxRecDepth 100000 in
set_option maxHeartbeats 1000000 in
theorem rThrees_any (la : Option Addr) (m lc : Nat) (bs : List Int) (w : World) (hr : RowT w la bs) (hx : bs.length = m) (hm : m ≤ 1000000) :
    Calls Try.prog 66 #[.slice la m lc] w fun e w' => e = .returned (.bool (all3B bs)) ∧ w' = w := by
  have HR := hide hr
  have HX := hide hx
  generalize hP : (fun (e : Ending) (w' : World) => e = .returned (.bool (all3B bs)) ∧ w' = w) = Post
  have HP := hide hP
  clear hr hx hP
  go_enter Try.func66, Try.ntmps66
  go_wp2
  go_loop [3] (fun i => ∃ k : Nat, i = .int .i64 k ∧ k ≤ m ∧ Hid (∀ j, j < k → Is3 (atP bs j))) (fun i => m - (intOf i).toNat)
  case atStart => exact ⟨0, rfl, Nat.zero_le _, fun j hj => absurd hj (Nat.not_lt_zero _)⟩
  case round =>
    obtain ⟨k, rfl, hk, HF⟩ := hrel
    by_cases hlt : k < m
    · obtain ⟨b, off, rfl, -, hcell⟩ := HR.out.addr (by rw [HX.out]; omega)
      have hc := hcell k (by rw [HX.out]; exact hlt)
      have HMem := hide (atP_mem bs k (by rw [HX.out]; exact hlt))
      have HNext : Hid (Is3 (atP bs k) → ∀ j, j < k + 1 → Is3 (atP bs j)) := fun h j hj => by
        by_cases e : j = k
        · rw [e]; exact h
        · exact HF.out j (by omega)
      have HNot : Hid (¬ Is3 (atP bs k) → Post (.returned (.bool false)) w) := fun hn => by
        rw [← HP.out]
        refine ⟨ret_bool ?_, rfl⟩
        symm
        rw [← Bool.not_eq_true, all3_iff]
        exact fun h => hn (h _ HMem.out)
      generalize atP bs k = y at hc HNext HNot
      clear hcell HMem
      by_cases h0 : y < 0
      · have hfin : Hid (Post (.returned (.bool false)) w) := HNot.out (by unfold Is3; omega)
        clear HNext HNot
        go_wp2
        exact hfin.out
      · by_cases h1 : 2 < y
        · have hfin : Hid (Post (.returned (.bool false)) w) := HNot.out (by unfold Is3; omega)
          clear HNext HNot
          go_wp2
          exact hfin.out
        · have HN := hide (HNext.out (by unfold Is3; omega))
          clear HNext HNot
          go_wp2
          go_round
          case rel => exact ⟨k + 1, by go_num, by omega, HN.out⟩
          case measure => simp [intOf]; omega
    · obtain rfl : k = m := by omega
      have hfin : Hid (Post (.returned (.bool true)) w) := by
        show Post _ w
        rw [← HP.out]
        refine ⟨ret_bool ?_, rfl⟩
        symm
        rw [all3_iff]
        intro x hx
        obtain ⟨i, hi, e⟩ := List.getElem_of_mem hx
        rw [← e, ← atP_eq _ _ hi]
        exact HF.out i (by rw [← HX.out]; exact hi)
      go_wp2
      exact hfin.out

/-- Values that are appended one by one. -/
structure TAp (w0 : World) (v : Value) (k : Nat) (bs : List Int) (wr : World) : Prop where
  own : wr.ownsRow w0.heap.size 3 1 v k (bs.map (Value.int .i64))
  below : Below w0.heap.size w0 wr
theorem tap_nil (w : World) : TAp w (.slice none 0 0) 0 [] w := ⟨⟨rfl, .inl ⟨rfl, rfl⟩⟩, Below.refl _ _⟩
theorem TAp.step {w0 wr w2 w3 : World} {v v3 : Value} {k k3 : Nat} {xs ys : List Int} (h : TAp w0 v k xs wr) (hb : Below wr.heap.size wr w2) (hg : w2.grownBy w3 v.ownBlock) (hown : w3.ownsRow w0.heap.size 3 1 v3 k3 (ys.map (Value.int .i64))) : TAp w0 v3 k3 ys w3 :=
  ⟨hown, (belowThen h.below hb).grown hg (by have := h.below.size; have := hb.size; omega) (fun b hb' => (h.own.lt b hb').1)⟩

set_option maxRecDepth 100000 in
set_option maxHeartbeats 1000000 in
theorem rLits3_any (g n : Nat) (bs : List Int) (la : Option Addr) (m lc : Nat) (xs : List Int) (w : World) (h : SigT w g n bs) (hr : RowK .i64 w la xs) (hx : xs.length = m) (hm : m ≤ 10000) (hin : ∀ l ∈ xs, LitIn n l) :
    Calls Try.prog 73 #[.slice (some ⟨g, 0, none⟩) n n, .slice la m lc] w fun e w' => ∃ v, e = .returned v ∧ NewTerns w (xs.map (lit3 bs)) v w' := by
  obtain ⟨i0, hi, hz0, hz1, hz2⟩ := info_parts infoInt
  have HH := hide h
  have HR := hide hr
  have HX := hide hx
  have HI := hide hin
  generalize hP : (fun (e : Ending) (w' : World) => ∃ v, e = .returned v ∧ NewTerns w (xs.map (lit3 bs)) v w') = Post
  have HP := hide hP
  clear h hr hx hin hP
  go_enter Try.func73, Try.ntmps73
  go_wp2
  go_loopw [5, 6] (fun v i wr => ∃ k : Nat, i = .int .i64 k ∧ k ≤ m ∧ Hid (TAp w v k ((xs.take k).map (lit3 bs)) wr)) (fun _ i _ => m - (intOf i).toNat)
  case atStart => exact ⟨0, rfl, Nat.zero_le _, tap_nil w⟩
  case round =>
    obtain ⟨k, rfl, hk, HF⟩ := hrel
    by_cases hlt : k < m
    · obtain ⟨b, off, rfl, hbw, hcell⟩ := HR.out.addr (by rw [HX.out]; omega)
      have hc0 := (HF.out.below.cell (p := ⟨b, off + k, none⟩) hbw).trans (hcell k (by rw [HX.out]; exact hlt))
      rw [atP_getD] at hc0
      have hli := hide (HI.out _ (atP_mem xs k (by rw [HX.out]; exact hlt)))
      have HS := hide (take_app (lit3 bs) xs k (by rw [HX.out]; exact hlt))
      generalize atP xs k = x at hc0 hli HS
      have HG := hide (rLit3_in g n bs x wr (HH.out.below HF.out.below) hli.out)
      generalize lit3 bs x = y at HS HG
      clear hcell
      go_wp2_with (first | (go_at_call 37; refine HG.out.mono ?_; rintro e w3 ⟨rfl, hw3⟩; obtain rfl := hw3.symm) | (at_builtin; refine wpList_append_own _ rfl (.tmp 13) (.tmp 20) 22 rfl w.heap.size 3 i0 (.int .i64 0) 1 8 Try.underlying22 hi hz0 hz1 hz2 rfl (by decide) _ _ _ rfl (HF.out.own.alloc _) ⟨wr.heap.size, 0, none⟩ 1 1 [.int .i64 y] rfl rfl (cell_one_at rfl _ _) (by intro u hu; simp at hu; subst hu; rfl) (by unfold maxLen; omega) (by omega) (by have := HF.out.below.size; simp; omega) ?_; intro v6 w6 hown6 hg6 _))
      go_roundw
      case rel =>
        refine ⟨k + 1, by go_num, by omega, HF.out.step (below_alloc wr _) hg6 ?_⟩
        rw [HS.out, List.map_append]; exact hown6
      case measure => simp [intOf]; omega
    · obtain rfl : k = m := by omega
      have hfin : Hid (Post (.returned u5) wr) := by
        show Post _ wr
        rw [← HP.out]
        have hm := HF.out
        rw [List.take_of_length_le (by rw [HX.out]; exact Nat.le_refl _)] at hm
        refine ⟨_, rfl, ?_, hm.below⟩
        rw [List.length_map, HX.out]
        exact hm.own
      go_wp2
      exact hfin.out

theorem sweepG_zero (C : Circ) (v : List Int) : C.sweepG and3 v 0 = (v, false) := rfl
theorem sweepG_one (C : Circ) (v : List Int) (k : Nat) : (C.sweepG and3 v (k + 1)).1 = (C.sweepG and3 v k).1.set (varN (atP C.ands k).1) (both3 (lit3 (C.sweepG and3 v k).1 (atP C.ands k).2.1) (lit3 (C.sweepG and3 v k).1 (atP C.ands k).2.2)) := rfl
theorem sweepG_two (C : Circ) (v : List Int) (k : Nat) : (C.sweepG and3 v (k + 1)).2 = ((C.sweepG and3 v k).2 || (atP (C.sweepG and3 v k).1 (varN (atP C.ands k).1) != both3 (lit3 (C.sweepG and3 v k).1 (atP C.ands k).2.1) (lit3 (C.sweepG and3 v k).1 (atP C.ands k).2.2))) := rfl
theorem iterG_more {C : Circ} {k : Nat} {vs : List Int} {N : Nat} (hN : C.ands.length = N) (hk : k < N) (h : (C.sweepG and3 vs N).2 = true) : C.iterG and3 (N - k) vs = C.iterG and3 (N - (k + 1)) (C.sweepG and3 vs N).1 := by
  have e : N - k = (N - (k + 1)) + 1 := by omega
  rw [e]
  show (if (C.sweepG and3 vs C.ands.length).2 = true then Circ.iterG C and3 (N - (k + 1)) (C.sweepG and3 vs C.ands.length).1 else (C.sweepG and3 vs C.ands.length).1) = _
  rw [hN, if_pos h]
theorem iterG_less {C : Circ} {k : Nat} {vs : List Int} {N : Nat} (hN : C.ands.length = N) (hk : k < N) (h : (C.sweepG and3 vs N).2 = false) : C.iterG and3 (N - k) vs = (C.sweepG and3 vs N).1 := by
  have e : N - k = (N - (k + 1)) + 1 := by omega
  rw [e]
  show (if (C.sweepG and3 vs C.ands.length).2 = true then Circ.iterG C and3 (N - (k + 1)) (C.sweepG and3 vs C.ands.length).1 else (C.sweepG and3 vs C.ands.length).1) = _
  rw [hN, if_neg (by rw [h]; decide)]

theorem ternI_bad {C : Circ} {st is : List Int} {r : Int} (h : C.stepN st.length is.length = r) (hr : r ≠ 0) : C.ternI st is = r := by
  unfold Circ.ternI; rw [if_pos (by rw [h]; exact hr), h]
/-- What the reference's Values3 tells. -/
def TVal3Post (w : World) (C : Circ) (st is : List Int) (e : Ending) (w' : World) : Prop :=
  Below w.heap.size w w' ∧ ((C.ternI st is ≠ 0 ∧ e = .returned (.tuple #[.slice none 0 0, .int .i64 (C.ternI st is)])) ∨
    (C.ternI st is = 0 ∧ ∃ g, e = .returned (.tuple #[.slice (some ⟨g, 0, none⟩) (C.max.toNat + 1) (C.max.toNat + 1), .int .i64 0]) ∧ w'.ownsRow w.heap.size 3 1 (.slice (some ⟨g, 0, none⟩) (C.max.toNat + 1) (C.max.toNat + 1)) (C.max.toNat + 1) ((C.vals3 st is).map (Value.int .i64))))

set_option maxRecDepth 100000 in
set_option maxHeartbeats 8000000 in
theorem rValues3_any (c : CV) (C : Circ) (w : World) (sa ia : Option Addr) (sn sc inn ic : Nat) (st is : List Int) (h : Holds w c C) (hck : ∀ W, Below w.heap.size w W → Calls Try.prog 24 #[c.v] W fun e w' => e = .returned (.int .i64 C.checkI) ∧ Below W.heap.size W w') (hs : RowT w sa st) (hsl : st.length = sn) (hi : RowT w ia is) (hil : is.length = inn) (hn1' : sn ≤ 1000000) (hn2' : inn ≤ 1000000) :
    Calls Try.prog 31 #[c.v, .slice sa sn sc, .slice ia inn ic] w (TVal3Post w C st is) := by
  obtain ⟨i0, hi0, hz0, hz1, hz2⟩ := info_parts infoInt
  have HO := hide hck
  have HB := hide (box_new w c)
  have HH := hide h
  have HS := hide hs
  have HI := hide hi
  have HSl := hide hsl
  have HIl := hide hil
  generalize hP : TVal3Post w C st is = Post
  have HP := hide hP
  have hbad : Hid (∀ r W, C.ternI st is = r → r ≠ 0 → Below w.heap.size w W → Post (.returned (.tuple #[.slice none 0 0, .int .i64 r])) W) := fun r W hr hr0 hW => by rw [← HP.out]; exact ⟨hW, .inl ⟨by rw [hr]; exact hr0, by rw [hr]⟩⟩
  have hgood : Hid (∀ W w1 b g n, C.ternI st is = 0 → n = C.max.toNat + 1 → Below w.heap.size w w1 → TerMid w1 b c g n (C.vals3 st is) W → Post (.returned (.tuple #[.slice (some ⟨g, 0, none⟩) n n, .int .i64 0])) W) := fun W w1 b g n hr hn hb hm => by
    subst hn; rw [← HP.out]; exact ⟨belowThen hb hm.below, .inr ⟨hr, g, rfl, own_le hm.own hb.size⟩⟩
  clear h hck hs hsl hi hil hP
  unfold CV.v at HO ⊢
  unfold Box at HB
  generalize hA1 : c.a1 = A1 at HO HB ⊢
  generalize hA2 : c.a2 = A2 at HO HB ⊢
  generalize hA6 : c.a6 = A6 at HO HB ⊢
  have HA1 := hide hA1
  have HA2 := hide hA2
  have HA6 := hide hA6
  clear hA1 hA2 hA6
  go_enter Try.func31, Try.ntmps31
  go_wp2_with fail
  refine (HO.out _ (below_alloc w _)).mono ?_
  rintro e w1 ⟨rfl, hb1⟩
  have HB1 : Hid (Box w1 w.heap.size c) := by
    have := hb1.block w.heap.size (by simp)
    rw [HB.out] at this
    show w1.heap[w.heap.size]? = _
    rw [this, HA1.out, HA2.out, HA6.out]
  have HW1 := hide (belowThen (below_alloc w _) hb1)
  clear HO HB hb1
  by_cases hc : C.checkI = 0
  case neg =>
    have hend := hide (hbad.out _ w1 (by exact ternI_bad (by unfold Circ.stepN; rw [if_pos hc]) hc) hc HW1.out)
    clear hbad hgood
    generalize C.checkI = ck at hc hend ⊢
    have hck : (ck != 0) = true := by simpa using hc
    clear hc
    go_wp2
    exact hend.out
  case pos =>
    rw [hc]
    have HC := hide hc
    have HRt := hide (right_of hc)
    replace HH := hide (HH.out.below HW1.out)
    replace HS := hide (HS.out.below HW1.out)
    replace HI := hide (HI.out.below HW1.out)
    clear hc
    obtain ⟨q0, q1, q2, q3, q4, q5, q6, q7⟩ := HB1.out.cells
    rw [HA1.out] at q1
    rw [HA2.out] at q2
    by_cases hsn : sn = c.n2
    case neg =>
      have hsb : ((sn : Int) != (c.n2 : Int)) = true := by simpa using fun h : (sn : Int) = (c.n2 : Int) => hsn (by omega)
      have hend := hide (hbad.out 1 w1 (ternI_bad (by unfold Circ.stepN; rw [if_neg (fun h => h HC.out), if_neg (fun h => hsn (HSl.out.symm.trans (h.1.trans HH.out.l2)))]) (by decide)) (by decide) HW1.out)
      clear hbad hgood hsn
      go_wp2
      exact hend.out
    case pos =>
      have Hsn := hide hsn
      have hsb : ((sn : Int) != (c.n2 : Int)) = false := by rw [hsn]; simp
      by_cases hin : inn = c.n1
      case neg =>
        have hib : ((inn : Int) != (c.n1 : Int)) = true := by simpa using fun h : (inn : Int) = (c.n1 : Int) => hin (by omega)
        have hend := hide (hbad.out 1 w1 (ternI_bad (by unfold Circ.stepN; rw [if_neg (fun h => h HC.out), if_neg (fun h => hin (HIl.out.symm.trans (h.2.trans HH.out.l1)))]) (by decide)) (by decide) HW1.out)
        clear hbad hgood hin
        subst hsn
        go_wp2
        exact hend.out
      case pos =>
        have Hin := hide hin
        have hib : ((inn : Int) != (c.n1 : Int)) = false := by rw [hin]; simp
        have HT1 := hide (fun W (hb : Below w1.heap.size w1 W) => rThrees_any sa sn sc st W (HS.out.below hb) HSl.out hn1')
        have HT2 := hide (fun W (hb : Below w1.heap.size w1 W) => rThrees_any ia inn ic is W (HI.out.below hb) HIl.out hn2')
        have HN0 : Hid (C.stepN st.length is.length = 0) := by
          show C.stepN st.length is.length = 0
          unfold Circ.stepN
          rw [if_neg (fun h => h HC.out), if_pos ⟨HSl.out.trans (Hsn.out.trans HH.out.l2.symm), HIl.out.trans (Hin.out.trans HH.out.l1.symm)⟩]
        have H1 : Hid (¬ (all3B st = true ∧ all3B is = true) → Post (.returned (.tuple #[.slice none 0 0, .int .i64 1])) w1) := fun hne => by
          exact hbad.out 1 w1 (by unfold Circ.ternI; rw [if_neg (fun k => k HN0.out), if_neg hne]) (by decide) HW1.out
        have HS1 : Hid (all3B st = true → all3B is = true → C.ternI st is = 0) := fun h5 h6 => by
          unfold Circ.ternI; rw [if_neg (fun k => k HN0.out), if_pos ⟨h5, h6⟩]
        obtain ⟨b1, hb1'⟩ : ∃ b1, all3B st = b1 := ⟨_, rfl⟩
        obtain ⟨b2, hb2'⟩ : ∃ b2, all3B is = b2 := ⟨_, rfl⟩
        rw [hb1'] at HT1 H1 HS1
        rw [hb2'] at HT2 H1 HS1
        clear hb1' hb2' HN0
        have HB0 := hide (Below.refl w1.heap.size w1)
        cases b1 with
        | false =>
          have hend := hide (H1.out (fun h => by cases h.1))
          clear hbad hgood H1 HS1 HT2
          subst hsn
          subst hin
          go_wp2_with (go_at_call 66; refine (HT1.out _ HB0.out).mono ?_; rintro e w3 ⟨rfl, hw3⟩; obtain rfl := hw3.symm)
          exact hend.out
        | true =>
        cases b2 with
        | false =>
          have hend := hide (H1.out (fun h => by cases h.2))
          clear hbad hgood H1 HS1
          subst hsn
          subst hin
          go_wp2_with (first | (go_at_call_of 66 (Value.slice sa c.n2 sc); refine (HT1.out _ HB0.out).mono ?_; rintro e w3 ⟨rfl, hw3⟩; obtain rfl := hw3.symm) | (go_at_call_of 66 (Value.slice ia c.n1 ic); refine (HT2.out _ HB0.out).mono ?_; rintro e w3 ⟨rfl, hw3⟩; obtain rfl := hw3.symm))
          exact hend.out
        | true =>
        have HS0 := hide (HS1.out rfl rfl)
        clear H1 HS1
        replace hgood := hide (fun W b g n => hgood.out W w1 b g n HS0.out)
        have hm0 : 0 ≤ c.m := by rw [HH.out.m]; exact HRt.out.lits.max
        have hm5 : c.m ≤ 5000 := by rw [HH.out.m]; exact HRt.out.small.max
        obtain ⟨n, hn⟩ : ∃ n, n = C.max.toNat + 1 := ⟨_, rfl⟩
        have hnm : c.m + 1 = (n : Int) := by rw [hn, ← HH.out.m]; omega
        have HNn := hide hn
        have hn1 : c.n1 ≤ 64 := by rw [← HH.out.l1]; exact HRt.out.small.ins
        have hn2 : c.n2 ≤ 64 := by rw [← HH.out.l2]; exact HRt.out.small.lats
        have hn6 : c.n6 ≤ 2000 := by rw [← HH.out.l6]; exact HRt.out.small.ands
        have hnn : n ≤ 10000 := by omega
        clear hbad hn
        subst hsn
        subst hin
        go_wp2_with (first | (go_at_call_of 66 (Value.slice sa c.n2 sc); refine (HT1.out _ HB0.out).mono ?_; rintro e w3 ⟨rfl, hw3⟩; obtain rfl := hw3.symm) | (go_at_call_of 66 (Value.slice ia c.n1 ic); refine (HT2.out _ HB0.out).mono ?_; rintro e w3 ⟨rfl, hw3⟩; obtain rfl := hw3.symm) | (at_make; refine wpList_make_full _ rfl _ _ 22 rfl w1.heap.size 3 i0 (.int .i64 0) 1 Try.underlying22 hi0 hz0 hz1 .i64 .i64 _ _ n rfl rfl (by first | rfl | omega) (by first | rfl | omega) (by rw [hz2]; omega) (by unfold maxLen; omega) (Nat.le_refl _) ?_; intro w2 hown hg2; rw [madeI] at hown; have HM0 : Hid (TerMid w1 w.heap.size c w1.heap.size n (List.replicate n 0) w2) := ⟨hown, HB1.out.grown hg2 (by simp), HB1.out.lt, (Below.refl _ _).grown hg2 (Nat.le_refl _) (fun k hk => by cases hk)⟩; clear hown hg2) | fail)
        clear q0 q1 q2 q3 q4 q5 q6 q7 HT1 HT2 HB0
        go_loopw [10] (fun i wr => ∃ (k : Nat), i = .int .i64 k ∧ k ≤ c.n1 ∧ Hid (TerMid w1 w.heap.size c w1.heap.size n (C.startTK st is k 0) wr)) (fun i _ => c.n1 - (intOf i).toNat)
        case atStart => exact ⟨0, rfl, Nat.zero_le _, by rw [HNn.out] at HM0 ⊢; exact HM0.out⟩
        case round =>
          clear HM0
          obtain ⟨k, rfl, hk, HM⟩ := hrel
          obtain ⟨p0, p1, p2, p3, p4, p5, p6, p7⟩ := HM.out.box.cells
          rw [HA1.out] at p1
          by_cases hlt : k < c.n1
          · obtain ⟨b, off, ha, hbw, hcell⟩ := HH.out.r1.addr (by rw [HH.out.l1]; omega)
            rw [HA1.out] at ha
            subst ha
            have hc0 := (HM.out.below.cell (p := ⟨b, off + k, none⟩) hbw).trans (hcell k (by rw [HH.out.l1]; exact hlt))
            rw [atP_getD] at hc0
            obtain ⟨b', off', rfl, hbw', hcell'⟩ := HI.out.addr (by rw [HIl.out]; omega)
            have hc1 := (HM.out.below.cell (p := ⟨b', off' + k, none⟩) hbw').trans (hcell' k (by rw [HIl.out]; exact hlt))
            have hli := in_ins HRt.out _ (atP_mem C.ins k (by rw [HH.out.l1]; exact hlt))
            rw [← HNn.out] at hli
            have HST := hide (startTK_in C st is k)
            generalize atP C.ins k = x at hc0 hli HST
            generalize atP is k = y at hc1 HST
            have hq := tdiv_two hli.1
            have hv := hli.2.2
            generalize varN x = v at hq hv HST
            obtain ⟨hcm, hfm⟩ := HM.out.at hv
            have HM3 : Hid (∀ q, TerMid w1 w.heap.size c w1.heap.size n ((C.startTK st is k 0).set v y) ((wr.drewN q).setCell ⟨w1.heap.size, v, none⟩ (.int .i64 y))) := fun q => (HM.out.then (Drew.below ⟨q, rfl⟩)).set v y
            generalize atP (C.startTK st is k 0) v = y0 at hcm
            have hk0 : (0 : Int) ≤ (k : Int) := by omega
            have hk1 : (k : Int) < (c.n1 : Int) := by omega
            have hv1 : (v : Int) < (n : Int) := by omega
            clear hcell hcell' hli p0 p2 p3 p4 p5 p6 p7
            go_wp2
            go_region
            all_goals go_wp2
            all_goals go_roundw
            case rel => exact ⟨k + 1, by go_num, by omega, by rw [HST.out]; exact HM3.out _⟩
            case measure => simp [intOf]; omega
          · obtain rfl : k = c.n1 := by omega
            have HM1 : Hid (TerMid w1 w.heap.size c w1.heap.size n (C.startTK st is C.ins.length 0) wr) := by rw [HH.out.l1]; exact HM.out
            clear HM hlt hk p0 p2 p3 p4 p5 p6 p7
            go_wp2
            clear p1
            go_loopw [11] (fun i wr => ∃ (k : Nat), i = .int .i64 k ∧ k ≤ c.n2 ∧ Hid (TerMid w1 w.heap.size c w1.heap.size n (C.startTK st is C.ins.length k) wr)) (fun i _ => c.n2 - (intOf i).toNat)
            case atStart => exact ⟨0, rfl, Nat.zero_le _, HM1.out⟩
            case round =>
              clear HM1
              obtain ⟨k, rfl, hk, HM⟩ := hrel
              obtain ⟨p0, p1, p2, p3, p4, p5, p6, p7⟩ := HM.out.box.cells
              rw [HA2.out] at p2
              by_cases hlt : k < c.n2
              · obtain ⟨b, off, ha, hbw, hcell⟩ := HH.out.r2.addr (by rw [cellsT_len, HH.out.l2]; omega)
                rw [HA2.out] at ha
                subst ha
                have hat := cellsT_at C.lats k (by rw [HH.out.l2]; exact hlt)
                have hc0 := (HM.out.below.cell (p := ⟨b, off + k * 3, none⟩) hbw).trans (hcell _ _ hat.1)
                obtain ⟨b', off', rfl, hbw', hcell'⟩ := HS.out.addr (by rw [HSl.out]; omega)
                have hc1 := (HM.out.below.cell (p := ⟨b', off' + k, none⟩) hbw').trans (hcell' k (by rw [HSl.out]; exact hlt))
                have hli := (in_lats HRt.out _ (atP_mem C.lats k (by rw [HH.out.l2]; exact hlt))).1
                rw [← HNn.out] at hli
                have HST := hide (startTK_lat C st is (j := k) (by rw [HH.out.l2]; exact hlt))
                generalize atP C.lats k = x at hc0 hli HST
                obtain ⟨x0, x1, x2⟩ := x
                dsimp only at hc0 hli HST
                generalize atP st k = y at hc1 HST
                have hq := tdiv_two hli.1
                have hv := hli.2.2
                generalize varN x0 = v at hq hv HST
                obtain ⟨hcm, hfm⟩ := HM.out.at hv
                have HM3 : Hid (∀ q, TerMid w1 w.heap.size c w1.heap.size n ((C.startTK st is C.ins.length k).set v y) ((wr.drewN q).setCell ⟨w1.heap.size, v, none⟩ (.int .i64 y))) := fun q => (HM.out.then (Drew.below ⟨q, rfl⟩)).set v y
                generalize atP (C.startTK st is C.ins.length k) v = y0 at hcm
                have hk0 : (0 : Int) ≤ (k : Int) := by omega
                have hk1 : (k : Int) < (c.n2 : Int) := by omega
                have hv1 : (v : Int) < (n : Int) := by omega
                clear hcell hcell' hli hat p0 p1 p3 p4 p5 p6 p7
                go_wp2
                go_region
                all_goals go_wp2
                all_goals go_roundw
                case rel => exact ⟨k + 1, by go_num, by omega, by rw [HST.out]; exact HM3.out _⟩
                case measure => simp [intOf]; omega
              · obtain rfl : k = c.n2 := by omega
                have HM1 : Hid (TerMid w1 w.heap.size c w1.heap.size n (C.startT st is) wr) := by
                  have := HM.out
                  rw [← HH.out.l2] at this
                  exact this
                clear HM hlt hk p0 p1 p3 p4 p5 p6 p7
                go_wp2
                clear p2
                have HIV : Hid (C.iterG and3 c.n6 (C.startT st is) = C.vals3 st is) := by rw [← HH.out.l6]; exact iter_vals3 HRt.out st is
                generalize C.startT st is = v0 at HM1 HIV
                go_loopw [12, 13, 14, 15, 16] (fun i _ _ _ _ wr => ∃ (k : Nat) (vs : List Int), i = .int .i64 k ∧ k ≤ c.n6 ∧ Hid (TerMid w1 w.heap.size c w1.heap.size n vs wr ∧ C.iterG and3 (c.n6 - k) vs = C.vals3 st is)) (fun i _ _ _ _ _ => c.n6 - (intOf i).toNat)
                case atStart => exact ⟨0, v0, rfl, Nat.zero_le _, HM1.out, HIV.out⟩
                case round =>
                  clear HM1 HIV v0
                  obtain ⟨k, vs, rfl, hk, HM⟩ := hrel
                  obtain ⟨p0, p1, p2, p3, p4, p5, p6, p7⟩ := HM.out.1.box.cells
                  by_cases hlt : k < c.n6
                  · clear p0 p1 p2 p3 p4 p5 p7
                    rw [HA6.out] at p6
                    go_wp2
                    clear p6
                    go_loopw [13, 14, 15, 16] (fun mo i _ _ wr => ∃ j : Nat, mo = .bool (C.sweepG and3 vs j).2 ∧ i = .int .i64 j ∧ j ≤ c.n6 ∧ Hid (TerMid w1 w.heap.size c w1.heap.size n (C.sweepG and3 vs j).1 wr)) (fun _ i _ _ _ => c.n6 - (intOf i).toNat)
                    case atStart => exact ⟨0, rfl, rfl, Nat.zero_le _, HM.out.1⟩
                    case round =>
                      obtain ⟨j, rfl, rfl, hj, HN⟩ := hrel
                      obtain ⟨p0, p1, p2, p3, p4, p5, p6, p7⟩ := HN.out.box.cells
                      rw [HA6.out] at p6
                      clear p0 p1 p2 p3 p4 p5 p7
                      by_cases hlt2 : j < c.n6
                      · obtain ⟨b, off, ha, hbw, hcell⟩ := HH.out.r6.addr (by rw [cellsT_len, HH.out.l6]; omega)
                        rw [HA6.out] at ha
                        subst ha
                        have hat := cellsT_at C.ands j (by rw [HH.out.l6]; exact hlt2)
                        have hc0 := (HN.out.below.cell (p := ⟨b, off + j * 3, none⟩) hbw).trans (hcell _ _ hat.1)
                        have hc1 := (HN.out.below.cell (p := ⟨b, off + j * 3 + 1, none⟩) hbw).trans (hcell _ _ hat.2.1)
                        have hc2 := (HN.out.below.cell (p := ⟨b, off + j * 3 + 2, none⟩) hbw).trans (hcell _ _ hat.2.2)
                        have hti := in_ands HRt.out _ (atP_mem C.ands j (by rw [HH.out.l6]; exact hlt2))
                        rw [← HNn.out] at hti
                        have HS1 := hide (sweepG_one C vs j)
                        have HS2 := hide (sweepG_two C vs j)
                        generalize (C.sweepG and3 vs j).1 = us at HN HS1 HS2
                        generalize (C.sweepG and3 vs j).2 = mo at HS2 ⊢
                        generalize atP C.ands j = x at hc0 hc1 hc2 hti HS1 HS2
                        obtain ⟨x0, x1, x2⟩ := x
                        obtain ⟨l0, l1, l2⟩ := hti
                        dsimp only at hc0 hc1 hc2 l0 l1 l2 HS1 HS2
                        have M1 := HN.out.then (below_alloc wr (.cells #[.int .i64 x0, .int .i64 x1, .int .i64 x2] 58))
                        have HG1 := hide (fun q => rLit3_in w1.heap.size n us x1 _ ((M1.then (Drew.below ⟨q, rfl⟩)).sig hnn) l1)
                        have HG2 := hide (fun q => rLit3_in w1.heap.size n us x2 _ ((M1.then (Drew.below ⟨q, rfl⟩)).sig hnn) l2)
                        have hq := tdiv_two l0.1
                        have hv := l0.2.2
                        generalize lit3 us x1 = A at HG1 HS1 HS2
                        generalize lit3 us x2 = B at HG2 HS1 HS2
                        have HG3 := hide (fun W => rBoth3_any A B W)
                        generalize both3 A B = Y at HG3 HS1 HS2
                        generalize varN x0 = v at hq hv HS1 HS2
                        have HM3 : Hid (∀ q y, TerMid w1 w.heap.size c w1.heap.size n (us.set v y) (((wr.alloc (.cells #[.int .i64 x0, .int .i64 x1, .int .i64 x2] 58)).drewN q).setCell ⟨w1.heap.size, v, none⟩ (.int .i64 y))) := fun q y => (M1.then (Drew.below ⟨q, rfl⟩)).set v y
                        obtain ⟨hcm, hfm⟩ := M1.at hv
                        generalize atP us v = y0 at hcm HS2
                        have hr0 : (wr.alloc (.cells #[.int .i64 x0, .int .i64 x1, .int .i64 x2] 58)).cell? ⟨wr.heap.size, 0, none⟩ = some (.int .i64 x0) := cell_of_row _ _ 0 _ _ (0, 0) (heap_alloc_new wr _)
                        have hr1 : (wr.alloc (.cells #[.int .i64 x0, .int .i64 x1, .int .i64 x2] 58)).cell? ⟨wr.heap.size, 1, none⟩ = some (.int .i64 x1) := cell_of_row _ _ 1 _ _ (0, 0) (heap_alloc_new wr _)
                        have hr2 : (wr.alloc (.cells #[.int .i64 x0, .int .i64 x1, .int .i64 x2] 58)).cell? ⟨wr.heap.size, 2, none⟩ = some (.int .i64 x2) := cell_of_row _ _ 2 _ _ (0, 0) (heap_alloc_new wr _)
                        have hv1 : (v : Int) < (n : Int) := by omega
                        clear hcell hat l0 l1 l2 M1
                        clear HM
                        go_upto_region 23 with fail
                        generalize hWW : wr.alloc (.cells #[.int .i64 x0, .int .i64 x1, .int .i64 x2] 58) = W at hr0 hr1 hr2 hcm hfm HG1 HG2 HM3 ⊢
                        clear hWW
                        go_region_held3 (fun w' => w'.cell? ⟨wr.heap.size, 0, none⟩ = some (.int .i64 x0) ∧ w'.cell? ⟨wr.heap.size, 1, none⟩ = some (.int .i64 x1) ∧ w'.cell? ⟨wr.heap.size, 2, none⟩ = some (.int .i64 x2)) (go_keep) (first | (go_at_call_of 37 (Value.int .i64 x1); refine (HG1.out _).mono ?_; rintro e w3 ⟨rfl, hw3⟩; obtain rfl := hw3.symm) | (go_at_call_of 37 (Value.int .i64 x2); refine (HG2.out _).mono ?_; rintro e w3 ⟨rfl, hw3⟩; obtain rfl := hw3.symm) | (go_at_call 67; refine (HG3.out _).mono ?_; rintro e w3 ⟨rfl, hw3⟩; obtain rfl := hw3.symm))
                        clear HG1 HG2 HG3
                        have hfin : Hid (∀ q b, b = (mo || (y0 != Y)) → ∃ j' : Nat, Value.bool b = .bool (C.sweepG and3 vs j').2 ∧ Value.int .i64 ((j : Int) + 1) = .int .i64 j' ∧ j' ≤ c.n6 ∧ Hid (TerMid w1 w.heap.size c w1.heap.size n (C.sweepG and3 vs j').1 ((W.drewN q).setCell ⟨w1.heap.size, v, none⟩ (.int .i64 Y)))) := fun q b hb => ⟨j + 1, by rw [HS2.out, hb], by go_num, by omega, by rw [HS1.out]; exact HM3.out q Y⟩
                        clear HS1 HS2 HM3
                        cases mo with
                        | true =>
                          go_wp2
                          go_roundw
                          case rel => exact hfin.out _ _ (by simp)
                          case measure => simp [intOf]; omega
                        | false =>
                          by_cases hy : y0 = Y
                          · subst hy
                            go_wp2
                            go_roundw
                            case rel => exact hfin.out _ _ (by simp)
                            case measure => simp [intOf]; omega
                          · have hyb : (y0 != Y) = true := by simpa using hy
                            go_wp2
                            go_roundw
                            case rel => exact hfin.out _ _ (by rw [hyb]; rfl)
                            case measure => simp [intOf]; omega
                      · obtain rfl : j = c.n6 := by omega
                        cases hm : (C.sweepG and3 vs c.n6).2 with
                        | true =>
                          have HK : Hid (∃ (k' : Nat) (vs : List Int), Value.int .i64 ((k : Int) + 1) = .int .i64 k' ∧ k' ≤ c.n6 ∧ Hid (TerMid w1 w.heap.size c w1.heap.size n vs wr ∧ C.iterG and3 (c.n6 - k') vs = C.vals3 st is)) := ⟨k + 1, _, by go_num, by omega, HN.out, by rw [← iterG_more HH.out.l6 hlt hm]; exact HM.out.2⟩
                          clear HM HN hm
                          go_wp2
                          go_roundw
                          case rel => exact HK.out
                          case measure => simp [intOf]; omega
                        | false =>
                          have hend := hide (hgood.out wr w.heap.size w1.heap.size n HNn.out HW1.out (by have e := iterG_less HH.out.l6 hlt hm; rw [HM.out.2] at e; rw [e]; exact HN.out))
                          clear HM HN hm
                          go_wp2
                          exact hend.out
                  · obtain rfl : k = c.n6 := by omega
                    have hend := hide (hgood.out wr w.heap.size w1.heap.size n HNn.out HW1.out (by have := HM.out; rw [Nat.sub_self] at this; have e : vs = C.vals3 st is := this.2; rw [← e]; exact this.1))
                    rw [HA6.out] at p6
                    clear HM p0 p1 p2 p3 p4 p5 p7
                    go_wp2
                    exact hend.out
end Go.Proofs.Ytmbbcghhdjpgeaa

namespace Go.Proofs.Ytmbbcghhdjpgeaa
open Go.RowKit

/-- What stands while the reference's Step3 makes its rows. -/
structure TSr (w0 : World) (c : CV) (C : Circ) (b g n : Nat) (vs : List Int) (W : World) : Prop where
  holds : Holds W c C
  box : Box W b c
  sig : SigT W g n vs
  below : Below w0.heap.size w0 W
theorem TSr.then {w0 W W' : World} {c : CV} {C : Circ} {b g n : Nat} {vs : List Int} (h : TSr w0 c C b g n vs W) (hb : Below W.heap.size W W') : TSr w0 c C b g n vs W' := ⟨h.holds.below hb, h.box.below hb, h.sig.below hb, belowThen h.below hb⟩

set_option maxRecDepth 100000 in
set_option maxHeartbeats 4000000 in
theorem rStep3_any (c : CV) (C : Circ) (w : World) (sa ia : Option Addr) (sn sc inn ic : Nat) (st is : List Int) (h : Holds w c C) (hck : ∀ W, Below w.heap.size w W → Calls Try.prog 24 #[c.v] W fun e w' => e = .returned (.int .i64 C.checkI) ∧ Below W.heap.size W w') (hs : RowT w sa st) (hsl : st.length = sn) (hi : RowT w ia is) (hil : is.length = inn) (hn1' : sn ≤ 1000000) (hn2' : inn ≤ 1000000) :
    Calls Try.prog 33 #[c.v, .slice sa sn sc, .slice ia inn ic] w (TStepPost w C st is) := by
  have HB := hide (box_new w c)
  have HH := hide h
  have HW : Hid (Below w.heap.size w (w.alloc (.cells #[.int .i64 c.m, .slice c.a1 c.n1 c.c1, .slice c.a2 c.n2 c.c2, .slice c.a3 c.n3 c.c3, .slice c.a4 c.n4 c.c4, .slice c.a5 c.n5 c.c5, .slice c.a6 c.n6 c.c6, .slice c.a7 c.n7 c.c7] 27))) := below_alloc w _
  have HC := hide (rValues3_any c C (w.alloc (.cells #[.int .i64 c.m, .slice c.a1 c.n1 c.c1, .slice c.a2 c.n2 c.c2, .slice c.a3 c.n3 c.c3, .slice c.a4 c.n4 c.c4, .slice c.a5 c.n5 c.c5, .slice c.a6 c.n6 c.c6, .slice c.a7 c.n7 c.c7] 27)) sa ia sn sc inn ic st is (h.below HW.out) (fun W hb => hck W (belowThen HW.out hb)) (hs.below HW.out) hsl (hi.below HW.out) hil hn1' hn2')
  generalize hP : TStepPost w C st is = Post
  have HP := hide hP
  clear hP h hck hs hsl hi hil
  have hcv : c.v = .agg #[.int .i64 c.m, .slice c.a1 c.n1 c.c1, .slice c.a2 c.n2 c.c2, .slice c.a3 c.n3 c.c3, .slice c.a4 c.n4 c.c4, .slice c.a5 c.n5 c.c5, .slice c.a6 c.n6 c.c6, .slice c.a7 c.n7 c.c7] := rfl
  rw [hcv] at HC ⊢
  go_enter Try.func33, Try.ntmps33
  go_wp2_with fail
  refine HC.out.mono ?_
  intro e w1 he
  have HW1 := hide (belowThen HW.out he.1)
  have HB1 := hide (HB.out.below he.1)
  clear HC HB HW
  have he2 := he.2
  clear he
  generalize hA5 : c.a5 = A5 at hcv ⊢
  have HA5 := hide hA5
  clear hA5
  rcases he2 with ⟨hc, rfl⟩ | ⟨hc, g, rfl, hown⟩
  · have hend : Hid (Post (.returned (.tuple #[.slice none 0 0, .slice none 0 0, .int .i64 0, .int .i64 (C.ternI st is)])) w1) := by
      show Post _ w1
      have e : C.stepE3 st is = ⟨[], [], 0⟩ := if_neg hc
      rw [← HP.out]
      exact ⟨none, 0, 0, none, 0, 0, by rw [e], by rw [e]; exact .inl ⟨rfl, rfl⟩, by rw [e]; rfl, by rw [e]; exact .inl ⟨rfl, rfl⟩, by rw [e]; rfl, HW1.out⟩
    generalize C.ternI st is = ck at hc hend ⊢
    have hck : (ck != 0) = true := by simpa using hc
    clear hc
    go_wp2
    refine bodyPost_ret (v := .tuple #[.slice none 0 0, .slice none 0 0, .int .i64 0, .int .i64 ck]) (by simp [results, Try.results33, go_sem, *]) rfl ?_
    exact hend.out
  · obtain ⟨h0, -, -, h3, h4⟩ := ternI_zero hc
    have HRt := hide (right_of h0)
    have HE : Hid (C.stepE3 st is = C.row3 (C.vals3 st is)) := if_pos hc
    have hlen := vals3_len C st is
    generalize C.vals3 st is = vs at HE hown hlen
    obtain ⟨n, hn⟩ : ∃ n, n = C.max.toNat + 1 := ⟨_, rfl⟩
    rw [← hn] at hlen hown ⊢
    have hn4 : n ≤ 10000 := by have := HRt.out.small.max; omega
    have HNn := hide hn
    have T1 : Hid (TSr w c C w.heap.size g n vs w1) := ⟨HH.out.below HW1.out, HB1.out, ⟨fun i hi => row_at hown i (by rw [← hlen]; exact hi), hlen, hn4, (hown.lt g rfl).2⟩, HW1.out⟩
    have HL := hide HH.out
    have hm2 : c.n2 ≤ 64 := by rw [← HH.out.l2]; exact HRt.out.small.lats
    have hm3 : c.n3 ≤ 64 := by rw [← HH.out.l3]; exact HRt.out.small.outs
    have hm4 : c.n4 ≤ 64 := by rw [← HH.out.l4]; exact HRt.out.small.bads
    have hm5 : c.n5 ≤ 64 := by rw [← HH.out.l5]; exact HRt.out.small.cons
    obtain ⟨nb, hnb⟩ : ∃ nb, nb = C.badsOr.length := ⟨_, rfl⟩
    have hnb4 : nb ≤ 64 := by rw [hnb]; exact badsOr_len HRt.out.small
    have HNb := hide hnb
    have hend : Hid (∀ W a1 k1 a2 k2, TSr w c C w.heap.size g n vs W → RowT W a1 (C.nexts.map (lit3 vs)) → RowT W a2 (C.badsOr.map (lit3 vs)) → Post (.returned (.tuple #[.slice a1 c.n2 k1, .slice a2 nb k2, .int .i64 (allOf (C.cons.map (lit3 vs))), .int .i64 0])) W) := fun W a1 k1 a2 k2 t g1 g2 => by
      rw [← HP.out]
      refine ⟨a1, c.n2, k1, a2, nb, k2, by rw [HE.out, hc]; rfl, by rw [HE.out]; exact g1, ?_, by rw [HE.out]; exact g2, ?_, t.below⟩
      · rw [HE.out]; show (C.nexts.map _).length = _; unfold Circ.nexts; rw [List.length_map, List.length_map]; exact HL.out.l2
      · rw [HE.out]; show (C.badsOr.map _).length = _; rw [List.length_map]; exact HNb.out.symm
    have H0 : Hid (∀ W, TSr w c C w.heap.size g n vs W → Calls Try.prog 49 #[c.v] W fun e w' => ∃ a cp, e = .returned (.slice a c.n2 cp) ∧ RowK .i64 w' a C.nexts ∧ Below W.heap.size W w') := fun W t => (rNexts_any c C W t.holds (by omega)).mono (fun e w' hh => by
      obtain ⟨v, rfl, hn, hbl⟩ := hh
      obtain ⟨a, cp, rfl, hr, -⟩ := row_of_own hn
      exact ⟨a, cp, by unfold Circ.nexts; rw [List.length_map, t.holds.l2], hr, hbl⟩)
    have H1 : Hid (∀ A K W, TSr w c C w.heap.size g n vs W → RowK .i64 W A C.nexts → Calls Try.prog 73 #[.slice (some ⟨g, 0, none⟩) n n, .slice A c.n2 K] W fun e w' => ∃ a cp, e = .returned (.slice a c.n2 cp) ∧ RowT w' a (C.nexts.map (lit3 vs)) ∧ Below W.heap.size W w') := fun A K W t hr => (rLits3_any g n vs A c.n2 K C.nexts W t.sig hr (by unfold Circ.nexts; rw [List.length_map]; exact t.holds.l2) (by omega) (by rw [HNn.out]; exact in_nexts HRt.out)).mono (fun e w' hh => by
      obtain ⟨v, rfl, hn, hbl⟩ := hh
      obtain ⟨a, cp, rfl, hr, hl⟩ := rowT_own hn
      have hll : C.nexts.length = c.n2 := (by unfold Circ.nexts; rw [List.length_map]; exact t.holds.l2)
      rw [List.length_map, hll]
      exact ⟨a, cp, rfl, hr, hbl⟩)
    have H3 : Hid (∀ W, TSr w c C w.heap.size g n vs W → Calls Try.prog 50 #[c.v] W fun e w' => ∃ a cp, e = .returned (.slice a nb cp) ∧ RowK .i64 w' a C.badsOr ∧ Below W.heap.size W w') := fun W t => (refBads_any c C W t.holds).mono (fun e w' hh => by
      obtain ⟨a, k, cp, rfl, hr, hl, hbl⟩ := hh
      exact ⟨a, cp, by rw [HNb.out, hl], hr, hbl⟩)
    have H4 : Hid (∀ A K W, TSr w c C w.heap.size g n vs W → RowK .i64 W A C.badsOr → Calls Try.prog 73 #[.slice (some ⟨g, 0, none⟩) n n, .slice A nb K] W fun e w' => ∃ a cp, e = .returned (.slice a nb cp) ∧ RowT w' a (C.badsOr.map (lit3 vs)) ∧ Below W.heap.size W w') := fun A K W t hr => (rLits3_any g n vs A nb K C.badsOr W t.sig hr HNb.out.symm (by omega) (by rw [HNn.out]; exact in_badsOr HRt.out)).mono (fun e w' hh => by
      obtain ⟨v, rfl, hn, hbl⟩ := hh
      obtain ⟨a, cp, rfl, hr, hl⟩ := rowT_own hn
      rw [List.length_map, ← HNb.out]
      exact ⟨a, cp, rfl, hr, hbl⟩)
    have HG := hide (fun W l (t : TSr w c C w.heap.size g n vs W) (hl : LitIn n l) => rLit3_in g n vs l W t.sig hl)
    have HLi : Hid (∀ l ∈ C.cons, LitIn n l) := by rw [HNn.out]; exact in_cons HRt.out
    rw [hcv] at H0 H3
    have hall : Hid (∀ k, k = c.n5 → all3K (C.cons.map (lit3 vs)) k = allOf (C.cons.map (lit3 vs))) := fun k hk => by
      unfold allOf; rw [List.length_map, HL.out.l5, hk]
    have hstep : Hid (∀ k, k < c.n5 → all3K (C.cons.map (lit3 vs)) (k + 1) = both3 (all3K (C.cons.map (lit3 vs)) k) (lit3 vs (atP C.cons k))) := fun k hk => by
      show both3 _ (atP (C.cons.map (lit3 vs)) k) = _
      rw [atP_map _ _ _ (by rw [HL.out.l5]; exact hk)]
    have h0k : all3K (C.cons.map (lit3 vs)) 0 = 1 := rfl
    have h0h := hide h0k
    generalize C.nexts.map (lit3 vs) = ln at H1 hend
    generalize C.badsOr.map (lit3 vs) = lb at H4 hend
    clear hown hlen hc HE HP hn HRt h0 h3 h4 hcv HB1 HW1 hnb HNb h0k
    generalize C.cons.map (lit3 vs) = lc at hall hstep hend h0h
    obtain ⟨q0, q1, q2, q3, q4, q5, q6, q7⟩ := T1.out.box.cells
    rw [HA5.out] at q5
    go_wp2
    clear q0 q1 q2 q3 q4 q5 q6 q7
    go_loopw [12, 13] (fun t i wr => ∃ k : Nat, t = .int .i64 (all3K lc k) ∧ i = .int .i64 k ∧ k ≤ c.n5 ∧ Hid (TSr w c C w.heap.size g n vs wr)) (fun _ i _ => c.n5 - (intOf i).toNat)
    case atStart => exact ⟨0, by rw [h0h.out], rfl, Nat.zero_le _, T1.out⟩
    case round =>
      clear T1
      obtain ⟨k, rfl, rfl, hk, HT⟩ := hrel
      obtain ⟨q0, q1, q2, q3, q4, q5, q6, q7⟩ := HT.out.box.cells
      rw [HA5.out] at q5
      by_cases hlt : k < c.n5
      · obtain ⟨b, off, ha, hbw, hcell⟩ := HT.out.holds.r5.addr (by rw [HL.out.l5]; exact Nat.lt_of_le_of_lt (Nat.zero_le _) hlt)
        have hc0 := hcell k (by rw [HL.out.l5]; exact hlt)
        rw [atP_getD] at hc0
        rw [HA5.out] at ha
        subst ha
        have HST := hide (hstep.out k hlt)
        have hli := hide (HLi.out _ (atP_mem C.cons k (by rw [HL.out.l5]; exact hlt)))
        generalize atP C.cons k = x at hc0 HST hli
        have HGx := hide (HG.out wr x HT.out hli.out)
        generalize lit3 vs x = y at HST HGx
        generalize all3K lc k = z at HST ⊢
        clear hcell
        go_wp2_with (first | (go_at_call 37; refine HGx.out.mono ?_; rintro e w3 ⟨rfl, hw3⟩; obtain rfl := hw3.symm) | (go_at_call 67; refine (rBoth3_any _ _ _).mono ?_; rintro e w3 ⟨rfl, hw3⟩; obtain rfl := hw3.symm))
        go_roundw
        case rel => exact ⟨k + 1, by rw [HST.out], by go_num, by omega, HT.out⟩
        case measure => simp [intOf]; omega
      · obtain rfl : k = c.n5 := by omega
        rw [hall.out _ rfl]
        generalize allOf lc = hh at hend ⊢
        clear hall hstep h0h HG HLi
        have T0 : TSr w c C w.heap.size g n vs wr.drew := HT.out.then (Drew.below ⟨1, rfl⟩)
        clear HT
        go_wp2
        go_region_held3 (fun w' => w'.cell? ⟨w.heap.size, 0, none⟩ = some (.int .i64 c.m) ∧ w'.cell? ⟨w.heap.size, 1, none⟩ = some (.slice c.a1 c.n1 c.c1) ∧ w'.cell? ⟨w.heap.size, 2, none⟩ = some (.slice c.a2 c.n2 c.c2) ∧ w'.cell? ⟨w.heap.size, 3, none⟩ = some (.slice c.a3 c.n3 c.c3) ∧ w'.cell? ⟨w.heap.size, 4, none⟩ = some (.slice c.a4 c.n4 c.c4) ∧ w'.cell? ⟨w.heap.size, 5, none⟩ = some (.slice A5 c.n5 c.c5) ∧ w'.cell? ⟨w.heap.size, 6, none⟩ = some (.slice c.a6 c.n6 c.c6) ∧ w'.cell? ⟨w.heap.size, 7, none⟩ = some (.slice c.a7 c.n7 c.c7)) (go_keep) (first | (go_at_call 49; refine (H0.out _ T0).mono ?_; rintro e v1 ⟨B1, J1, rfl, hr1, hb1⟩; have t1 := T0.then hb1; obtain ⟨p0, p1, p2, p3, p4, p5, p6, p7⟩ := t1.box.cells; rw [HA5.out] at p5) | (go_at_call_of 73 (Value.slice B1 c.n2 J1); refine (H1.out _ _ _ t1 hr1).mono ?_; rintro e v2 ⟨B2, J2, rfl, hr2, hb2⟩; have t2 := t1.then hb2; obtain ⟨r0, r1, r2, r3, r4, r5, r6, r7⟩ := t2.box.cells; rw [HA5.out] at r5) | (go_at_call 50; refine (H3.out _ t2).mono ?_; rintro e v3 ⟨B3, J3, rfl, hr3, hb3⟩; have t3 := t2.then hb3; obtain ⟨s0, s1, s2, s3, s4, s5, s6, s7⟩ := t3.box.cells; rw [HA5.out] at s5) | (go_at_call_of 73 (Value.slice B3 nb J3); refine (H4.out _ _ _ t3 hr3).mono ?_; rintro e v4 ⟨B4, J4, rfl, hr4, hb4⟩; have t4 := t3.then hb4; obtain ⟨u0, u1, u2, u3, u4, u5, u6, u7⟩ := t4.box.cells; rw [HA5.out] at u5))
        have hE := hide (hend.out v4 B2 J2 B4 J4 t4 ((hr2.below hb3).below hb4) hr4)
        clear hend
        go_wp2
        refine bodyPost_ret (v := .tuple #[.slice B2 c.n2 J2, .slice B4 nb J4, .int .i64 hh, .int .i64 0]) (by simp [results, Try.results33, go_sem, *]) rfl ?_
        exact hE.out
end Go.Proofs.Ytmbbcghhdjpgeaa

namespace Go.Proofs.Ytmbbcghhdjpgeaa
open Go.RowKit

theorem rowT_of_K {w : World} {a : Option Addr} {xs : List Int} (h : RowK .i64 w a xs) : RowT w a xs := by
  rcases h with ⟨rfl, rfl⟩ | ⟨x, rfl, h⟩
  · exact .inl ⟨rfl, rfl⟩
  · refine .inr ⟨x, rfl, fun j u hu => ?_⟩
    rw [List.getElem?_map] at hu
    have hi : j < xs.length := by
      rcases Nat.lt_or_ge j xs.length with h | h
      · exact h
      · rw [List.getElem?_eq_none h] at hu; cases hu
    rw [List.getElem?_eq_getElem hi] at hu
    cases hu
    rw [h j hi, List.getD_eq_getElem?_getD, List.getElem?_eq_getElem hi]
    rfl
/-- A []int that came in. -/
structure CameI (w : World) (a : Option Addr) (len : Nat) (zs : List Int) : Prop where
  row : RowT w a zs
  l : zs.length = len
theorem cameI_of {w : World} {a : Option Addr} {len cap : Nat} {zs : List Int} (h : IsRow .i64 w a len cap zs) : CameI w a len (zs.take len) := ⟨rowT_of_K h.row.1, h.row.2.2.2.1⟩

theorem sameT_any (a b : Option Addr) (n m k l : Nat) (xs : List Int) (w : World) (h1 : RowT w a xs) (h2 : RowT w b xs) (h3 : xs.length = n) (h4 : xs.length = m) (hn : n ≤ 1000000) :
    Calls Try.prog 34 #[.slice a n k, .slice b m l] w fun e w' => e = .returned (.bool true) ∧ Below w.heap.size w w' :=
  (same_any a b n k m l xs xs w (rowK_of_C h1) h3 (rowK_of_C h2) h4 (by omega) (by omega)).mono (fun e w' hh => ⟨hh.1.trans (ret_bool (decide_eq_true rfl)), hh.2.below⟩)

theorem valsE3_len (C : Circ) (st is : List Int) : (C.valsE3 st is).length ≤ 10000 := by
  unfold Circ.valsE3
  split
  · rename_i h
    have := (right_of (ternI_zero h).1).small.max
    rw [vals3_len]; omega
  · exact Nat.zero_le _
theorem valsE3_all (C : Circ) (st is : List Int) : All3 (C.valsE3 st is) := by
  unfold Circ.valsE3
  split
  · rename_i h
    obtain ⟨-, -, -, h3, h4⟩ := ternI_zero h
    exact vals3_all C h3 h4
  · exact fun x hx => by cases hx
theorem stepE3_len (C : Circ) (st is : List Int) : (C.stepE3 st is).next.length ≤ 10000 ∧ (C.stepE3 st is).bads.length ≤ 10000 := by
  unfold Circ.stepE3
  split
  · rename_i h
    have hS := (right_of (ternI_zero h).1).small
    have h1 := hS.lats
    have h3 := badsOr_len hS
    refine ⟨?_, ?_⟩
    · show (C.nexts.map _).length ≤ _; unfold Circ.nexts; rw [List.length_map, List.length_map]; omega
    · show (C.badsOr.map _).length ≤ _; rw [List.length_map]; omega
  · exact ⟨by decide, by decide⟩

/-- The reference's Values3, as Values. -/
theorem rVal3_any (c : CV) (C : Circ) (w : World) (sa ia : Option Addr) (sn sc inn ic : Nat) (st is : List Int) (h : Holds w c C) (hck : ∀ W, Below w.heap.size w W → Calls Try.prog 24 #[c.v] W fun e w' => e = .returned (.int .i64 C.checkI) ∧ Below W.heap.size W w') (hs : RowT w sa st) (hsl : st.length = sn) (hi : RowT w ia is) (hil : is.length = inn) (hn1' : sn ≤ 1000000) (hn2' : inn ≤ 1000000) :
    Calls Try.prog 31 #[c.v, .slice sa sn sc, .slice ia inn ic] w (TValPost w C st is) :=
  (rValues3_any c C w sa ia sn sc inn ic st is h hck hs hsl hi hil hn1' hn2').mono (fun e w' hh => by
    rcases hh.2 with ⟨hc, rfl⟩ | ⟨hc, g, rfl, hown⟩
    · have e : C.valsE3 st is = [] := if_neg hc
      exact ⟨none, 0, 0, rfl, by rw [e]; exact .inl ⟨rfl, rfl⟩, by rw [e]; rfl, hh.1⟩
    · have e : C.valsE3 st is = C.vals3 st is := if_pos hc
      obtain ⟨a, k, e2, hr, hl⟩ := rowT_own hown
      cases e2
      exact ⟨_, _, _, by rw [hc], by rw [e]; exact hr, by rw [e]; exact hl, hh.1⟩)

set_option maxHeartbeats 400000 in
theorem num9_any (n : Int) (w : World) : Calls Try.prog 35 #[.int .i64 n] w fun e w' => e = .returned (.int .i64 n) ∧ w' = w := by
  go_enter Try.func35, Try.ntmps35
  go_wp2
  go_ret
  exact ⟨rfl, rfl⟩

def alive3C : Circ := ⟨2, [2], [], [], [], [], [(4, 2, 3)], []⟩
def alive3W (W : World) : World := ((W.alloc (.cells #[.int .i64 2] 3)).alloc (.cells #[.int .i64 4, .int .i64 2, .int .i64 3] 58)).alloc (.cells #[.int .i64 2] 3)
theorem alive3W_below (W : World) : Below W.heap.size W (alive3W W) := belowThen (belowThen (below_alloc W _) (below_alloc _ _)) (below_alloc _ _)
theorem alive3_holds (W : World) : Holds (alive3W W) (aliveV W.heap.size) alive3C ∧ RowT (alive3W W) (some ⟨W.heap.size + 2, 0, none⟩) [2] := by
  have e1 : (W.alloc (.cells #[.int .i64 2] 3)).heap.size = W.heap.size + 1 := by simp
  have e2 : ((W.alloc (.cells #[.int .i64 2] 3)).alloc (.cells #[.int .i64 4, .int .i64 2, .int .i64 3] 58)).heap.size = W.heap.size + 2 := by simp
  have r1 : RowC (alive3W W) (some ⟨W.heap.size, 0, none⟩) [.int .i64 2] := RowC.below (RowC.below (.inr ⟨_, rfl, cell_one_at rfl _ _⟩) (below_alloc _ _)) (below_alloc _ _)
  have r2 : RowC (alive3W W) (some ⟨W.heap.size + 1, 0, none⟩) (cellsT [(4, 2, 3)]) := RowC.below (rowT_lit [(4, 2, 3)] 58 (by rw [e1])) (below_alloc _ _)
  refine ⟨⟨rfl, rowK_of_C (xs := [2]) r1, rfl, (fun e => by cases e), .inl ⟨rfl, rfl⟩, rfl, fun _ => rfl, .inl ⟨rfl, rfl⟩, rfl, fun _ => rfl, .inl ⟨rfl, rfl⟩, rfl, fun _ => rfl, .inl ⟨rfl, rfl⟩, rfl, fun _ => rfl, r2, rfl, (fun e => by cases e), .inl ⟨rfl, rfl⟩, rfl, fun _ => rfl⟩, ?_⟩
  exact .inr ⟨_, rfl, cell_one_at (by rw [e2]) _ _⟩

set_option maxRecDepth 100000 in
set_option maxHeartbeats 2000000 in
theorem alive9_any (w : World) : Calls Try.prog 29 #[] w fun e w' => e = .returned (.bool true) ∧ Below w.heap.size w w' := by
  have HX : Hid (Calls Try.prog 30 #[.agg #[.int .i64 2, .slice (some ⟨w.heap.size, 0, none⟩) 1 1, .slice none 0 0, .slice none 0 0, .slice none 0 0, .slice none 0 0, .slice (some ⟨w.heap.size + 1, 0, none⟩) 1 1, .slice none 0 0], .slice none 0 0, .slice (some ⟨w.heap.size + 1 + 1, 0, none⟩) 1 1] (((w.alloc (.cells #[.int .i64 2] 3)).alloc (.cells #[.int .i64 4, .int .i64 2, .int .i64 3] 58)).alloc (.cells #[.int .i64 2] 3)) fun e w' => ∃ b off k, e = .returned (.tuple #[.slice (some ⟨b, off, none⟩) 3 k, .int .i64 0]) ∧ w'.cell? ⟨b, off + 2, none⟩ = some (.int .i64 2) ∧ RowT w' (some ⟨b, off, none⟩) [0, 2, 2] ∧ Below w.heap.size w w') := by
    have := tValues_any (aliveV w.heap.size) alive3C (alive3W w) none (some ⟨w.heap.size + 2, 0, none⟩) 0 0 1 1 [] [2] (alive3_holds w).1 ⟨(by show (1 : Nat) ≤ _; decide), Nat.zero_le _, Nat.zero_le _, Nat.zero_le _, Nat.zero_le _, (by show (-9223372036854775808 : Int) ≤ 2; decide), fun s hs => by cases hs⟩ (.inl ⟨rfl, rfl⟩) rfl (alive3_holds w).2 rfl (by decide) (by decide)
    refine this.mono (fun e w' hh => ?_)
    obtain ⟨a, n, k, rfl, hr, hl, hb⟩ := hh
    have e1 : alive3C.ternI [] [2] = 0 := by decide
    have e2 : alive3C.valsE3 [] [2] = [0, 2, 2] := by decide
    rw [e2] at hr hl
    obtain rfl : 3 = n := hl
    obtain ⟨b, off, rfl, -, hc⟩ := hr.addr (by decide)
    exact ⟨b, off, k, by rw [e1], hc 2 (by decide), hr, belowThen (alive3W_below w) hb⟩
  go_enter Try.func29, Try.ntmps29
  go_wp2_with fail
  refine HX.out.mono ?_
  rintro e w1 ⟨b, off, k, rfl, hc2, hr, hb⟩
  have HB := hide hb
  have HL := hide (tLit_all (some ⟨b, off, none⟩) 3 k [0, 2, 2] 1 w1 hr rfl (by decide) (fun x hx => by rcases List.mem_cons.1 hx with rfl | hx; exact .inl rfl; rcases List.mem_cons.1 hx with rfl | hx; exact .inr (.inr rfl); rcases List.mem_cons.1 hx with rfl | hx; exact .inr (.inr rfl); cases hx) (by decide))
  have e3 : lit3E [0, 2, 2] 1 = 1 := by decide
  rw [e3] at HL
  clear HX hb hr e3
  go_wp2_with (first | (go_at_call 35; refine (num9_any _ _).mono ?_; rintro e w' ⟨rfl, hw'⟩; obtain rfl := hw'.symm) | (go_at_call 36; refine HL.out.mono ?_; rintro e w2 ⟨rfl, hb2⟩; have HB2 := hide (belowThen HB.out hb2); clear hb2))
  go_ret
  exact ⟨rfl, HB2.out⟩
end Go.Proofs.Ytmbbcghhdjpgeaa

namespace Go.Proofs.Ytmbbcghhdjpgeaa
open Go.RowKit

def thr (b a : Bool) : Int := if a = true then 2 else enc3 b
def thrK (ls os : List Bool) (k : Nat) : List Int := (List.range k).map (fun i => thr (atP ls i) (atP os i))
theorem thrK_succ (ls os : List Bool) (k : Nat) : thrK ls os (k + 1) = thrK ls os k ++ [thr (atP ls k) (atP os k)] := by unfold thrK; rw [List.range_succ, List.map_append]; rfl
theorem thrK_len (ls os : List Bool) (k : Nat) : (thrK ls os k).length = k := by simp [thrK]
theorem thrK_at (ls os : List Bool) {k i : Nat} (h : i < k) : atP (thrK ls os k) i = thr (atP ls i) (atP os i) := by
  unfold thrK
  rw [atP_map _ _ _ (by rw [List.length_range]; exact h)]
  have : atP (List.range k) i = i := by rw [atP_eq _ _ (by rw [List.length_range]; exact h), List.getElem_range]
  rw [this]
theorem thrK_all (ls os : List Bool) (k : Nat) : All3 (thrK ls os k) := fun x hx => by
  obtain ⟨i, -, rfl⟩ := List.mem_map.1 hx
  unfold thr
  split
  · exact .inr (.inr rfl)
  · exact is3_enc _
theorem thrK_les (ls os : List Bool) : LesL (ls.map enc3) (thrK ls os ls.length) := by
  refine ⟨by rw [List.length_map, thrK_len], fun i hi => ?_⟩
  rw [List.length_map] at hi
  rw [thrK_at _ _ hi, enc_at]
  unfold thr
  split
  · exact .inl rfl
  · exact .inr rfl
theorem thrK_none (ls os : List Bool) (h : ∀ i, atP os i = false) : thrK ls os ls.length = ls.map enc3 := by
  refine list_ext_g (by rw [List.length_map, thrK_len]) (fun i hi => ?_)
  rw [thrK_len] at hi
  rw [thrK_at _ _ hi, enc_at, h]
  rfl

set_option maxRecDepth 100000 in
set_option maxHeartbeats 2000000 in
theorem threes9_any (la aa : Option Addr) (m lc an ac : Nat) (ls os : List Bool) (w : World) (hr : RowB w la ls) (hx : ls.length = m) (hm : m ≤ 1000000) (ha : RowB w aa os) (hy : os.length = an) (hmn : m ≤ an) (han : an ≤ 9223372036854775807) :
    Calls Try.prog 38 #[.slice la m lc, .slice aa an ac] w fun e w' => ∃ v, e = .returned v ∧ w'.ownsRow w.heap.size 3 1 v m ((thrK ls os m).map (Value.int .i64)) ∧ Below w.heap.size w w' := by
  obtain ⟨i0, hi, hz0, hz1, hz2⟩ := info_parts infoInt
  have HR := hide hr
  have HX := hide hx
  have HA := hide ha
  have HY := hide hy
  generalize hP : (fun (e : Ending) (w' : World) => ∃ v, e = .returned v ∧ w'.ownsRow w.heap.size 3 1 v m ((thrK ls os m).map (Value.int .i64)) ∧ Below w.heap.size w w') = Post
  have HP := hide hP
  clear hr hx ha hy hP
  go_enter Try.func38, Try.ntmps38
  go_wp2
  go_loopw [5, 6, 7] (fun v i _ wr => ∃ k : Nat, i = .int .i64 k ∧ k ≤ m ∧ Hid (TAp w v k (thrK ls os k) wr)) (fun _ i _ _ => m - (intOf i).toNat)
  case atStart => exact ⟨0, rfl, Nat.zero_le _, tap_nil w⟩
  case round =>
    obtain ⟨k, rfl, hk, HF⟩ := hrel
    by_cases hlt : k < m
    · obtain ⟨b, off, rfl, hbw, hcell⟩ := HR.out.addr (by rw [HX.out]; omega)
      have hc0 := (HF.out.below.cell (p := ⟨b, off + k, none⟩) hbw).trans (hcell k (by rw [HX.out]; exact hlt))
      obtain ⟨b2, off2, rfl, hbw2, hcell2⟩ := HA.out.addr (by rw [HY.out]; omega)
      have hc1 := (HF.out.below.cell (p := ⟨b2, off2 + k, none⟩) hbw2).trans (hcell2 k (by rw [HY.out]; omega))
      have HS := hide (thrK_succ ls os k)
      generalize atP ls k = x at hc0 HS
      generalize atP os k = a at hc1 HS
      have hk2 : (k : Int) < (an : Int) := by omega
      clear hcell hcell2
      obtain ⟨y, hy⟩ : ∃ y, thr x a = y := ⟨_, rfl⟩
      rw [hy] at HS
      cases x <;> cases a
      all_goals (simp only [thr, enc3, if_true, if_false, Bool.false_eq_true] at hy; subst hy)
      all_goals go_wp2_with (at_builtin; refine wpList_append_own _ rfl (.tmp 22) (.tmp 24) 22 rfl w.heap.size 3 i0 (.int .i64 0) 1 8 Try.underlying22 hi hz0 hz1 hz2 rfl (by decide) _ _ _ rfl (HF.out.own.alloc _) ⟨wr.heap.size, 0, none⟩ 1 1 _ rfl rfl (cell_one_at rfl _ _) (by intro u hu; simp at hu; subst hu; rfl) (by unfold maxLen; omega) (by omega) (by have := HF.out.below.size; simp; omega) ?_; intro v6 w6 hown6 hg6 _)
      all_goals go_roundw
      all_goals first | (show ∃ k : Nat, _; refine ⟨k + 1, by go_num, by omega, HF.out.step (below_alloc wr _) hg6 ?_⟩; rw [HS.out, List.map_append]; exact hown6) | (simp [intOf]; omega)
    · obtain rfl : k = m := by omega
      have hfin : Hid (Post (.returned u5) wr) := by
        show Post _ wr
        rw [← HP.out]
        exact ⟨_, rfl, HF.out.own, HF.out.below⟩
      go_wp2
      exact hfin.out

set_option maxRecDepth 100000 in
set_option maxHeartbeats 2000000 in
theorem fits9_any (la ba : Option Addr) (m lc n bc : Nat) (xs : List Int) (bs : List Bool) (w : World) (hr : RowT w la xs) (hx : xs.length = m) (hb : RowB w ba bs) (hy : bs.length = n) (hf : LesL (bs.map enc3) xs) (hm : m ≤ 1000000) :
    Calls Try.prog 39 #[.slice la m lc, .slice ba n bc] w fun e w' => e = .returned (.bool true) ∧ Below w.heap.size w w' := by
  obtain rfl : n = m := by have := hf.len; rw [List.length_map] at this; omega
  have HR := hide hr
  have HX := hide hx
  have HS := hide hb
  have HYL := hide hy
  have HFt : Hid (∀ k, k < n → atP xs k = 2 ∨ atP xs k = enc3 (atP bs k)) := fun k hk => by
    have := hf.at' k (by rw [List.length_map, hy]; exact hk)
    rw [enc_at] at this
    exact this
  generalize hP : (fun (e : Ending) (w' : World) => e = .returned (.bool true) ∧ Below w.heap.size w w') = Post
  have HP := hide hP
  clear hr hx hP hb hy hf
  go_enter Try.func39, Try.ntmps39
  go_wp2
  go_loopw [5] (fun i wr => ∃ k : Nat, i = .int .i64 k ∧ k ≤ n ∧ Hid (Drew w wr)) (fun i _ => n - (intOf i).toNat)
  case atStart => exact ⟨0, rfl, Nat.zero_le _, ⟨0, rfl⟩⟩
  case round =>
    obtain ⟨k, rfl, hk, HF⟩ := hrel
    by_cases hlt : k < n
    · obtain ⟨g, off, rfl, -, hcell⟩ := HR.out.addr (by rw [HX.out]; omega)
      obtain ⟨g2, off2, rfl, -, hcell2⟩ := HS.out.addr (by rw [HYL.out]; omega)
      have hc := (cell_heap HF.out.heap _).trans (hcell k (by rw [HX.out]; omega))
      have hc2 := (cell_heap HF.out.heap _).trans (hcell2 k (by rw [HYL.out]; omega))
      have hor := HFt.out k hlt
      generalize atP xs k = x at hc hor
      generalize atP bs k = y at hc2 hor
      clear hcell hcell2
      rcases hor with rfl | rfl
      · go_wp2
        go_quiet (fail)
        go_wp2
        go_roundw
        case rel =>
          refine ⟨k + 1, by go_num, by omega, ?_⟩
          obtain ⟨q, e⟩ := HF.out
          exact ⟨q + _, by rw [e, World.drewN_drewN]⟩
        case measure => simp [intOf]; omega
      · cases y
        all_goals simp only [enc3, if_true, if_false, Bool.false_eq_true] at hc
        all_goals go_wp2
        all_goals go_quiet (fail)
        all_goals go_wp2
        all_goals go_roundw
        all_goals first | (show ∃ k : Nat, _; refine ⟨k + 1, by go_num, by omega, ?_⟩; obtain ⟨q, e⟩ := HF.out; exact ⟨q + _, by rw [e, World.drewN_drewN]⟩) | (simp [intOf]; omega)
    · obtain rfl : k = n := by omega
      have hfin : Hid (Post (.returned (.bool true)) wr) := by
        show Post _ wr
        rw [← HP.out]
        exact ⟨rfl, HF.out.below⟩
      go_wp2
      exact hfin.out
end Go.Proofs.Ytmbbcghhdjpgeaa
