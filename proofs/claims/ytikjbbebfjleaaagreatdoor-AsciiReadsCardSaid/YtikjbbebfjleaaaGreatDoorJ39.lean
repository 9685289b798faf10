/-
  THE WALKS of the reference's lits, own, count, symbol.
  What the reference's args asks, no function of the program.
  THE WALK of the reference's symbol.
-/
import Derived.Test.YtikjbbebfjleaaaGreatDoorJ26
import Derived.BigQuiet
namespace Go.Proofs.YtikjbbebfjleaaaGreatDoor
open Go.RowKit

theorem own_any (l : Int) (w : World) :
    Calls Tryz.prog 91 #[.int .i64 l] w fun e w' => e = .returned (.bool (decide (0 < l) && decide (l % 2 = 0))) ∧ w' = w := by
  by_cases h0 : 0 < l
  · have ht := tmod_two h0
    have hd : decide (0 < l) = true := decide_eq_true h0
    by_cases h2 : l % 2 = 0
    · have ht0 : l.tmod 2 = 0 := by omega
      rw [hd, decide_eq_true h2]
      clear ht h2
      go_enter Tryz.func91, Tryz.ntmps91
      go_wp2
      go_ret
      exact ⟨rfl, rfl⟩
    · have ht0 : l.tmod 2 = 1 := by omega
      rw [hd, decide_eq_false h2]
      clear ht h2
      go_enter Tryz.func91, Tryz.ntmps91
      go_wp2
      go_ret
      exact ⟨rfl, rfl⟩
  · have hd : decide (0 < l) = false := decide_eq_false h0
    rw [hd]
    go_enter Tryz.func91, Tryz.ntmps91
    go_wp2
    go_ret
    exact ⟨rfl, rfl⟩

theorem lits_any (a : Option Addr) (n c : Nat) (xs : List Int) (top : Int) (w : World) (hr : RowK .i64 w a xs) (hx : xs.length = n) (hn : n ≤ 9223372036854775807) :
    Calls Tryz.prog 90 #[.slice a n c, .int .i64 top] w fun e w' => e = .returned (.bool (xs.all (litB top))) ∧ w' = w := by
  have HR := hide hr
  have HX := hide hx
  generalize hP : (fun (e : Ending) (w' : World) => e = .returned (.bool (xs.all (litB top))) ∧ w' = w) = Post
  have HP := hide hP
  clear hr hx hP
  go_enter Tryz.func90, Tryz.ntmps90
  go_wp2
  go_loop [5] (fun i => ∃ k : Nat, i = .int .i64 k ∧ k ≤ n ∧ Hid (∀ j, j < k → litB top (atP xs j) = true)) (fun i => n - (intOf i).toNat)
  case atStart => exact ⟨0, rfl, Nat.zero_le _, fun j hj => absurd hj (Nat.not_lt_zero _)⟩
  case round =>
    obtain ⟨k, rfl, hk, HF⟩ := hrel
    by_cases hlt : k < n
    · obtain ⟨b, off, rfl, -, hcell⟩ := HR.out.addr (by rw [HX.out]; omega)
      have hc := hcell k (by rw [HX.out]; omega)
      rw [atP_getD] at hc
      obtain ⟨y, HY⟩ : ∃ y, Hid (y = atP xs k) := ⟨_, rfl⟩
      rw [← HY.out] at hc
      clear hcell
      have hno : Hid (litB top y = false → Post (.returned (.bool false)) w) := fun hf => by
        rw [← HP.out]
        exact ⟨ret_bool (List.all_eq_false.2 ⟨y, by rw [HY.out]; exact atP_mem xs k (by rw [HX.out]; exact hlt), by rw [hf]; decide⟩).symm, rfl⟩
      by_cases q1 : y < 0
      · have hfin := hide (hno.out (by unfold litB; rw [decide_eq_false (show ¬ 0 ≤ y by omega)]; rfl))
        clear hno
        go_wp2
        exact hfin.out
      · by_cases q2 : top < y
        · have hfin := hide (hno.out (by unfold litB; rw [decide_eq_false (show ¬ y ≤ top by omega)]; simp))
          clear hno
          go_wp2
          exact hfin.out
        · clear hno
          have HO : Hid (litB top y = true) := by
            show litB top y = true
            unfold litB
            rw [decide_eq_true (show 0 ≤ y by omega), decide_eq_true (show y ≤ top by omega)]; rfl
          go_wp2
          go_round
          case rel =>
            refine ⟨k + 1, by go_num, by omega, fun j hj => ?_⟩
            by_cases hjk : j < k
            · exact HF.out j hjk
            · obtain rfl : j = k := by omega
              rw [← HY.out]; exact HO.out
          case measure => simp [intOf]; omega
    · obtain rfl : k = n := by omega
      have hfin : Hid (Post (.returned (.bool true)) w) := by
        show Post (.returned (.bool true)) w
        rw [← HP.out]
        exact ⟨ret_bool (List.all_eq_true.2 (all_of (p := fun y => litB top y = true) (fun j hj => HF.out j (by rw [← HX.out]; exact hj)))).symm, rfl⟩
      go_wp2
      exact hfin.out

set_option maxHeartbeats 1000000 in
theorem count_any (c : CV) (C : Circ) (kind : Int) (w : World) (h : Holds w c C) :
    Calls Tryz.prog 82 #[c.v, .int .u8 kind] w fun e w' => e = .returned (.int .i64 (C.countK kind (-1))) ∧ Below w.heap.size w w' := by
  have e : C.countK kind (-1) = if kind = 105 then (c.n1 : Int) else if kind = 108 then c.n2 else if kind = 111 then c.n3 else if kind = 98 then c.n4 else if kind = 99 then c.n5 else -1 := by
    unfold Circ.countK; rw [h.l1, h.l2, h.l3, h.l4, h.l5]
  rw [e]
  have HB := hide (below_alloc w (.cells #[.int .i64 c.m, .slice c.a1 c.n1 c.c1, .slice c.a2 c.n2 c.c2, .slice c.a3 c.n3 c.c3, .slice c.a4 c.n4 c.c4, .slice c.a5 c.n5 c.c5, .slice c.a6 c.n6 c.c6, .slice c.a7 c.n7 c.c7] 29))
  clear h e
  unfold CV.v
  by_cases k1 : kind = 105
  · subst k1
    go_enter Tryz.func82, Tryz.ntmps82
    go_wp2
    go_ret
    exact ⟨rfl, HB.out⟩
  · have b1 : (kind == 105) = false := by rw [beq_eq_false_iff_ne]; exact k1
    rw [if_neg k1]
    clear k1
    by_cases k2 : kind = 108
    · subst k2
      go_enter Tryz.func82, Tryz.ntmps82
      go_wp2
      go_ret
      exact ⟨rfl, HB.out⟩
    · have b2 : (kind == 108) = false := by rw [beq_eq_false_iff_ne]; exact k2
      rw [if_neg k2]
      clear k2
      by_cases k3 : kind = 111
      · subst k3
        go_enter Tryz.func82, Tryz.ntmps82
        go_wp2
        go_ret
        exact ⟨rfl, HB.out⟩
      · have b3 : (kind == 111) = false := by rw [beq_eq_false_iff_ne]; exact k3
        rw [if_neg k3]
        clear k3
        by_cases k4 : kind = 98
        · subst k4
          go_enter Tryz.func82, Tryz.ntmps82
          go_wp2
          go_ret
          exact ⟨rfl, HB.out⟩
        · have b4 : (kind == 98) = false := by rw [beq_eq_false_iff_ne]; exact k4
          rw [if_neg k4]
          clear k4
          by_cases k5 : kind = 99
          · subst k5
            go_enter Tryz.func82, Tryz.ntmps82
            go_wp2
            go_ret
            exact ⟨rfl, HB.out⟩
          · have b5 : (kind == 99) = false := by rw [beq_eq_false_iff_ne]; exact k5
            rw [if_neg k5]
            clear k5
            go_enter Tryz.func82, Tryz.ntmps82
            go_wp2
            go_ret
            exact ⟨rfl, HB.out⟩


theorem sym_kind (C : Circ) (k i : Int) (h : 0 ≤ i) : decide (i < C.countK k (-1)) = decide (i < C.countK k 0) := by
  unfold Circ.countK
  split
  · rfl
  split
  · rfl
  split
  · rfl
  split
  · rfl
  split
  · rfl
  rw [decide_eq_false (by omega), decide_eq_false (by omega)]
end Go.Proofs.YtikjbbebfjleaaaGreatDoor

namespace Go.Proofs.YtikjbbebfjleaaaGreatDoor
open Go.RowKit

def evenB (l : Int) : Bool := decide (0 < l) && decide (l % 2 = 0)
def triB (top : Int) (x : Tri) : Bool := [x.1, x.2.1, x.2.2].all (litB top) && evenB x.1
def latOkB (top : Int) (x : Tri) : Bool := triB top x && resetB x
def Circ.portsB (C : Circ) : Bool := C.ins.all (litB C.top) && (C.outs.all (litB C.top) && (C.bads.all (litB C.top) && C.cons.all (litB C.top)))
def Circ.argsB (C : Circ) : Bool := decide (0 ≤ C.max) && ((((C.portsB && C.ins.all evenB) && C.lats.all (latOkB C.top)) && C.ands.all (triB C.top)) && C.namesB)

theorem all_take {α : Type} [Inhabited α] (p : α → Bool) (l : List α) (k : Nat) (h : k < l.length) : (l.take (k + 1)).all p = ((l.take k).all p && p (atP l k)) := by
  rw [List.take_succ_eq_append_getElem h, List.all_append, ← atP_eq l k h]; simp

theorem args_same (C : Circ) : C.argsB = (C.litsB && C.namesB) := by
  unfold Circ.argsB Circ.litsB
  by_cases hm : 0 ≤ C.max
  · rw [decide_eq_true hm, Bool.true_and, Bool.true_and]
    congr 1
    rw [Bool.eq_iff_iff]
    unfold Circ.portsB Circ.made Circ.used
    simp only [Bool.and_eq_true, List.all_eq_true, List.mem_append, List.mem_map, List.mem_flatMap, latOkB, triB, evenB, ownB, litB, resetB, decide_eq_true_eq, Bool.or_eq_true, List.mem_cons, List.not_mem_nil, or_false, Circ.top]
    constructor
    · rintro ⟨⟨⟨⟨p1, p3, p4, p5⟩, e1⟩, l2⟩, a6⟩
      refine ⟨?_, ?_, fun x hx => (l2 x hx).2⟩
      · rintro y ((hy | ⟨x, hx, rfl⟩) | ⟨x, hx, rfl⟩)
        · exact ⟨(e1 y hy).1, (p1 y hy).2, (e1 y hy).2⟩
        · exact ⟨(l2 x hx).1.2.1, ((l2 x hx).1.1 _ (.inl rfl)).2, (l2 x hx).1.2.2⟩
        · exact ⟨(a6 x hx).2.1, ((a6 x hx).1 _ (.inl rfl)).2, (a6 x hx).2.2⟩
      · rintro y ((((⟨x, hx, rfl⟩ | hy) | hy) | hy) | ⟨x, hx, rfl | rfl⟩)
        · exact (l2 x hx).1.1 _ (.inr (.inl rfl))
        · exact p3 y hy
        · exact p4 y hy
        · exact p5 y hy
        · exact (a6 x hx).1 _ (.inr (.inl rfl))
        · exact (a6 x hx).1 _ (.inr (.inr rfl))
    · rintro ⟨m, u, r⟩
      refine ⟨⟨⟨⟨fun y hy => ?_, fun y hy => u y (.inl (.inl (.inl (.inr hy)))), fun y hy => u y (.inl (.inl (.inr hy))), fun y hy => u y (.inl (.inr hy))⟩, fun y hy => ?_⟩, fun x hx => ⟨⟨?_, ?_⟩, r x hx⟩⟩, fun x hx => ⟨?_, ?_⟩⟩
      · have := m y (.inl (.inl hy)); omega
      · have := m y (.inl (.inl hy)); omega
      · have h1 := m x.1 (.inl (.inr ⟨x, hx, rfl⟩))
        have h2 := u x.2.1 (.inl (.inl (.inl (.inl ⟨x, hx, rfl⟩))))
        have h3 := r x hx
        rintro y (rfl | rfl | rfl) <;> omega
      · have h1 := m x.1 (.inl (.inr ⟨x, hx, rfl⟩)); omega
      · have h1 := m x.1 (.inr ⟨x, hx, rfl⟩)
        have h2 := u x.2.1 (.inr ⟨x, hx, .inl rfl⟩)
        have h3 := u x.2.2 (.inr ⟨x, hx, .inr rfl⟩)
        rintro y (rfl | rfl | rfl) <;> omega
      · have h1 := m x.1 (.inr ⟨x, hx, rfl⟩); omega
  · rw [decide_eq_false hm, Bool.false_and, Bool.false_and, Bool.false_and]

theorem row_three {w : World} {b : Nat} (hb : b = w.heap.size) (x y z : Int) (t : TypeId) : RowK .i64 (w.alloc (.cells #[.int .i64 x, .int .i64 y, .int .i64 z] t)) (some ⟨b, 0, none⟩) [x, y, z] := by
  subst hb
  refine .inr ⟨_, rfl, fun i hi => ?_⟩
  rw [add_plain, Nat.zero_add, cell_of_row _ _ i _ t (0, 0) (heap_alloc_new w _)]
  rcases (by simp at hi; omega : i = 0 ∨ i = 1 ∨ i = 2) with rfl | rfl | rfl <;> rfl
/-- Names of any size that there is. -/
def NamesWide (C : Circ) : Prop := ∀ s ∈ C.names, s.2.2.size ≤ 9223372036854775807
end Go.Proofs.YtikjbbebfjleaaaGreatDoor

namespace Go.Proofs.YtikjbbebfjleaaaGreatDoor
open Go.RowKit

set_option maxRecDepth 100000 in
set_option maxHeartbeats 6000000 in
theorem symbol_any (c : CV) (C : Circ) (x0 x1 : Int) (x2 : ByteArray) (w : World) (h : Holds w c C) (hs : x2.size ≤ 9223372036854775807) :
    Calls Tryz.prog 92 #[c.v, .agg #[.int .u8 x0, .int .i64 x1, .string x2]] w fun e w' => e = .returned (.bool (C.symB (x0, x1, x2))) ∧ Below w.heap.size w w' := by
  have hK := hide (fun W (hb : Below w.heap.size w W) => count_any c C x0 W (h.below hb))
  have HSK := hide (sym_kind C x0 x1)
  have HB := hide (box_new w c)
  have HHd : Hid (∀ q, Held w.heap.size (w.heap.size + 1) c c.a7 x0 x1 x2 (((w.alloc (.cells #[.int .i64 c.m, .slice c.a1 c.n1 c.c1, .slice c.a2 c.n2 c.c2, .slice c.a3 c.n3 c.c3, .slice c.a4 c.n4 c.c4, .slice c.a5 c.n5 c.c5, .slice c.a6 c.n6 c.c6, .slice c.a7 c.n7 c.c7] 29)).alloc (.cells #[.int .u8 x0, .int .i64 x1, .string x2] 77)).drewN q)) := fun q => by
    have := held_new HB.out x0 x1 x2
    rw [show (w.alloc (.cells #[.int .i64 c.m, .slice c.a1 c.n1 c.c1, .slice c.a2 c.n2 c.c2, .slice c.a3 c.n3 c.c3, .slice c.a4 c.n4 c.c4, .slice c.a5 c.n5 c.c5, .slice c.a6 c.n6 c.c6, .slice c.a7 c.n7 c.c7] 29)).heap.size = w.heap.size + 1 from Array.size_push _] at this
    exact this
  have HD : Hid (∀ q, Below w.heap.size w (((w.alloc (.cells #[.int .i64 c.m, .slice c.a1 c.n1 c.c1, .slice c.a2 c.n2 c.c2, .slice c.a3 c.n3 c.c3, .slice c.a4 c.n4 c.c4, .slice c.a5 c.n5 c.c5, .slice c.a6 c.n6 c.c6, .slice c.a7 c.n7 c.c7] 29)).alloc (.cells #[.int .u8 x0, .int .i64 x1, .string x2] 77)).drewN q)) := fun q => belowThen (below_two w _ _) (Drew.below ⟨q, rfl⟩)
  obtain ⟨ct, HCT⟩ : ∃ ct, Hid (ct = C.countK x0 (-1)) := ⟨_, rfl⟩
  rw [← HCT.out] at hK
  have hfin : Hid (∀ r W, C.symB (x0, x1, x2) = r → Below w.heap.size w W → (fun (e : Ending) (w' : World) => e = .returned (.bool (C.symB (x0, x1, x2))) ∧ Below w.heap.size w w') (.returned (.bool r)) W) := fun r W hr hW => ⟨ret_bool hr.symm, hW⟩
  generalize hP : (fun (e : Ending) (w' : World) => e = .returned (.bool (C.symB (x0, x1, x2))) ∧ Below w.heap.size w w') = Post at hfin ⊢
  clear h hP HB
  have he := isEmpty_of x2
  unfold CV.v at hK ⊢
  by_cases r0 : x1 < 0
  · have hf := hide (fun W hW => hfin.out false W (by unfold Circ.symB; rw [decide_eq_false (show ¬ 0 ≤ x1 by omega)]; rfl) hW)
    clear hfin
    go_enter Tryz.func92, Tryz.ntmps92
    go_wp2
    go_quiet (fail)
    go_wp2
    exact hf.out _ (HD.out _)
  · have hd0 : decide (x1 < 0) = false := decide_eq_false r0
    have HSB : Hid (C.symB (x0, x1, x2) = (decide (x1 < ct) && nameB x2)) := by
      show C.symB (x0, x1, x2) = (decide (x1 < ct) && nameB x2)
      unfold Circ.symB
      rw [decide_eq_true (show 0 ≤ x1 by omega), HCT.out, HSK.out (by omega)]; rfl
    by_cases r1 : x1 < ct
    · have hd1 : decide (ct ≤ x1) = false := decide_eq_false (by omega)
      by_cases h0 : x2.size = 0
      · have hf := hide (fun W hW => hfin.out false W (by rw [HSB.out]; unfold nameB; simp [h0]) hW)
        rw [decide_eq_true h0] at he
        clear hfin
        go_enter Tryz.func92, Tryz.ntmps92
        go_wp2
        first | (go_region_with (first | (go_at_call 82; refine (hK.out _ (HD.out _)).mono ?_; rintro e w2 ⟨rfl, hb2⟩; obtain ⟨p0, p1, p2, p3, p4, p5, p6, p7, p8, p9, p10⟩ := Held.below (HHd.out _) hb2))) | skip
        all_goals go_wp2
        all_goals exact hf.out _ (belowThen (HD.out _) hb2)
      · rw [decide_eq_false h0] at he
        by_cases h1 : (100 : Int) < x2.size
        · have hf := hide (fun W hW => hfin.out false W (by rw [HSB.out]; unfold nameB; rw [decide_eq_false (show ¬ x2.size ≤ 100 by omega)]; simp) hW)
          have hd2 : decide ((100 : Int) < x2.size) = true := decide_eq_true h1
          clear hfin
          go_enter Tryz.func92, Tryz.ntmps92
          go_wp2
          go_region_held3 (fun w' => w'.cell? ⟨w.heap.size, 0, none⟩ = some (.int .i64 c.m) ∧ w'.cell? ⟨w.heap.size, 1, none⟩ = some (.slice c.a1 c.n1 c.c1) ∧ w'.cell? ⟨w.heap.size, 2, none⟩ = some (.slice c.a2 c.n2 c.c2) ∧ w'.cell? ⟨w.heap.size, 3, none⟩ = some (.slice c.a3 c.n3 c.c3) ∧ w'.cell? ⟨w.heap.size, 4, none⟩ = some (.slice c.a4 c.n4 c.c4) ∧ w'.cell? ⟨w.heap.size, 5, none⟩ = some (.slice c.a5 c.n5 c.c5) ∧ w'.cell? ⟨w.heap.size, 6, none⟩ = some (.slice c.a6 c.n6 c.c6) ∧ w'.cell? ⟨w.heap.size, 7, none⟩ = some (.slice c.a7 c.n7 c.c7) ∧ w'.cell? ⟨w.heap.size + 1, 0, none⟩ = some (.int .u8 x0) ∧ w'.cell? ⟨w.heap.size + 1, 1, none⟩ = some (.int .i64 x1) ∧ w'.cell? ⟨w.heap.size + 1, 2, none⟩ = some (.string x2)) (first | go_keep | exact Held.below (HHd.out _) hb2) (first | (go_at_call 82; refine (hK.out _ (HD.out _)).mono ?_; rintro e w2 ⟨rfl, hb2⟩))
          all_goals go_wp2
          all_goals exact hf.out _ (belowThen (HD.out _) hb2)
        · have hd2 : decide ((100 : Int) < x2.size) = false := decide_eq_false h1
          have hf := hide (fun r W (hr : x2.data.toList.all (fun b => decide (32 ≤ b.toNat)) = r) hW => hfin.out r W (by rw [HSB.out]; unfold nameB; rw [decide_eq_true r1, decide_eq_true (show x2.size ≠ 0 from h0), decide_eq_true (show x2.size ≤ 100 by omega), Bool.true_and, Bool.true_and, Bool.true_and]; exact hr) hW)
          clear hfin
          go_enter Tryz.func92, Tryz.ntmps92
          go_wp2
          go_region_held3 (fun w' => w'.cell? ⟨w.heap.size, 0, none⟩ = some (.int .i64 c.m) ∧ w'.cell? ⟨w.heap.size, 1, none⟩ = some (.slice c.a1 c.n1 c.c1) ∧ w'.cell? ⟨w.heap.size, 2, none⟩ = some (.slice c.a2 c.n2 c.c2) ∧ w'.cell? ⟨w.heap.size, 3, none⟩ = some (.slice c.a3 c.n3 c.c3) ∧ w'.cell? ⟨w.heap.size, 4, none⟩ = some (.slice c.a4 c.n4 c.c4) ∧ w'.cell? ⟨w.heap.size, 5, none⟩ = some (.slice c.a5 c.n5 c.c5) ∧ w'.cell? ⟨w.heap.size, 6, none⟩ = some (.slice c.a6 c.n6 c.c6) ∧ w'.cell? ⟨w.heap.size, 7, none⟩ = some (.slice c.a7 c.n7 c.c7) ∧ w'.cell? ⟨w.heap.size + 1, 0, none⟩ = some (.int .u8 x0) ∧ w'.cell? ⟨w.heap.size + 1, 1, none⟩ = some (.int .i64 x1) ∧ w'.cell? ⟨w.heap.size + 1, 2, none⟩ = some (.string x2)) (first | go_keep | exact Held.below (HHd.out _) hb2) (first | (go_at_call 82; refine (hK.out _ (HD.out _)).mono ?_; rintro e w2 ⟨rfl, hb2⟩))
          have HW := hide (belowThen (HD.out _) hb2)
          obtain ⟨p0, p1, p2, p3, p4, p5, p6, p7, p8, p9, p10⟩ := Held.below (HHd.out _) hb2
          clear hb2
          go_wp2
          go_loop [5] (fun i => ∃ k : Nat, i = .int .i64 k ∧ k ≤ x2.size ∧ Hid (∀ j (hj : j < x2.size), j < k → 32 ≤ x2[j].toNat)) (fun i => x2.size - (intOf i).toNat)
          case atStart => exact ⟨0, rfl, Nat.zero_le _, fun j _ hj => absurd hj (Nat.not_lt_zero _)⟩
          case round =>
            obtain ⟨k, rfl, hk, HF⟩ := hrel
            by_cases hlt : k < x2.size
            · by_cases h32 : ((x2[k]'hlt).toNat : Int) < 32
              · have hn := hide (hf.out false _ (name_not x2 k hlt (by omega)) HW.out)
                clear hf
                go_wp2
                exact hn.out
              · go_wp2
                go_round
                case rel =>
                  refine ⟨k + 1, by go_num, by omega, fun j hj hjk => ?_⟩
                  by_cases h : j < k
                  · exact HF.out j hj h
                  · obtain rfl : j = k := by omega
                    omega
                case measure => simp [intOf]; omega
            · have hn := hide (hf.out true _ (name_all x2 (fun j hj => HF.out j hj (by omega))) HW.out)
              clear hf
              go_wp2
              exact hn.out
    · have hd1 : decide (ct ≤ x1) = true := decide_eq_true (by omega)
      have hf := hide (fun W hW => hfin.out false W (by rw [HSB.out, decide_eq_false r1]; rfl) hW)
      clear hfin
      go_enter Tryz.func92, Tryz.ntmps92
      go_wp2
      replace r1 : ct ≤ x1 := by omega
      first | (go_region_with (first | (go_at_call 82; refine (hK.out _ (HD.out _)).mono ?_; rintro e w2 ⟨rfl, hb2⟩; obtain ⟨p0, p1, p2, p3, p4, p5, p6, p7, p8, p9, p10⟩ := Held.below (HHd.out _) hb2))) | skip
      all_goals go_wp2
      all_goals exact hf.out _ (belowThen (HD.out _) hb2)
end Go.Proofs.YtikjbbebfjleaaaGreatDoor
