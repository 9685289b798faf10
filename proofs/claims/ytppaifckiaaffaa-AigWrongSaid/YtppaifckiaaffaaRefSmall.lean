/-
  THE WALKS of Vars and Bads, the program's and the reference's, and of the reference's known.
-/
import Derived.Test.YtppaifckiaaffaaAigCheck
namespace Go.Proofs.Ytppaifckiaaffaa
open Go.RowKit

def Circ.numVars (C : Circ) : Nat := C.ins.length + C.lats.length + C.ands.length
def Circ.badsOr (C : Circ) : List Int := if C.bads.length = 0 then C.outs else C.bads

set_option maxHeartbeats 1000000 in
theorem vars_of (c : CV) (C : Circ) (w : World) (h : Holds w c C) (h1 : c.n1 ≤ 281474976710656) (h2 : c.n2 ≤ 281474976710656) (h6 : c.n6 ≤ 281474976710656) :
    Calls Try.prog 21 #[c.v] w fun e w' => e = .returned (.int .i64 C.numVars) ∧ Below w.heap.size w w' := by
  have e : ((C.numVars : Nat) : Int) = c.n1 + c.n2 + c.n6 := by unfold Circ.numVars; rw [h.l1, h.l2, h.l6]; omega
  rw [e]
  clear e h
  unfold CV.v
  go_enter Try.func21, Try.ntmps21
  go_wp2
  go_ret
  exact ⟨by go_num, below_alloc w _⟩

set_option maxHeartbeats 1000000 in
theorem refVars_any (c : CV) (C : Circ) (w : World) (h : Holds w c C) (h1 : c.n1 ≤ 281474976710656) (h2 : c.n2 ≤ 281474976710656) (h6 : c.n6 ≤ 281474976710656) :
    Calls Try.prog 22 #[c.v] w fun e w' => e = .returned (.int .i64 C.numVars) ∧ Below w.heap.size w w' := by
  have e : ((C.numVars : Nat) : Int) = c.n1 + c.n2 + c.n6 := by unfold Circ.numVars; rw [h.l1, h.l2, h.l6]; omega
  rw [e]
  clear e h
  unfold CV.v
  go_enter Try.func22, Try.ntmps22
  go_wp2
  go_ret
  exact ⟨by go_num, below_alloc w _⟩

set_option maxHeartbeats 1000000 in
theorem refBads_any (c : CV) (C : Circ) (w : World) (h : Holds w c C) :
    Calls Try.prog 25 #[c.v] w fun e w' => ∃ a n cp, e = .returned (.slice a n cp) ∧ RowK .i64 w' a C.badsOr ∧ C.badsOr.length = n ∧ Below w.heap.size w w' := by
  by_cases h0 : c.n4 = 0
  · have e : C.badsOr = C.outs := by unfold Circ.badsOr; rw [if_pos (h.l4.trans h0)]
    rw [e]
    have HR := hide (fun W (hb : Below w.heap.size w W) => (⟨h.r3.below hb, h.l3⟩ : RowK .i64 W c.a3 C.outs ∧ C.outs.length = c.n3))
    clear h e
    unfold CV.v
    go_enter Try.func25, Try.ntmps25
    go_wp2
    go_ret
    exact ⟨_, _, _, rfl, (HR.out _ (below_alloc w _)).1, (HR.out w (Below.refl _ _)).2, below_alloc w _⟩
  · have e : C.badsOr = C.bads := by unfold Circ.badsOr; rw [if_neg (by rw [h.l4]; exact h0)]
    rw [e]
    have HR := hide (fun W (hb : Below w.heap.size w W) => (⟨h.r4.below hb, h.l4⟩ : RowK .i64 W c.a4 C.bads ∧ C.bads.length = c.n4))
    clear h e
    have hp : (0 : Int) < c.n4 := by omega
    unfold CV.v
    go_enter Try.func25, Try.ntmps25
    go_wp2
    go_ret
    exact ⟨_, _, _, rfl, (HR.out _ (below_alloc w _)).1, (HR.out w (Below.refl _ _)).2, below_alloc w _⟩

/-- Which literals are of variables that are there (the reference's). -/
def knowB (ks : List Int) (l : Int) : Bool := !(decide (1 < l) && decide (atP ks (varN l) = 0))

set_option maxRecDepth 100000 in
set_option maxHeartbeats 1000000 in
theorem known_any (a b : Option Addr) (n c m d : Nat) (ks xs : List Int) (w : World) (hk : RowK .i64 w a ks) (hkl : ks.length = n) (hr : RowK .i64 w b xs) (hx : xs.length = m) (hn : n ≤ 9223372036854775807) (hm : m ≤ 9223372036854775807) (hin : ∀ l ∈ xs, varN l < ks.length) :
    Calls Try.prog 42 #[.slice a n c, .slice b m d] w fun e w' => e = .returned (.bool (xs.all (knowB ks))) ∧ w' = w := by
  have HR := hide hr
  have HX := hide hx
  have HK := hide hk
  have HKL := hide hkl
  have HI := hide hin
  generalize hP : (fun (e : Ending) (w' : World) => e = .returned (.bool (xs.all (knowB ks))) ∧ w' = w) = Post
  have HP := hide hP
  clear hr hx hP hk hkl hin
  go_enter Try.func42, Try.ntmps42
  go_wp2
  go_loop [5] (fun i => ∃ k : Nat, i = .int .i64 k ∧ k ≤ m ∧ Hid (∀ j, j < k → knowB ks (atP xs j) = true)) (fun i => m - (intOf i).toNat)
  case atStart => exact ⟨0, rfl, Nat.zero_le _, fun j hj => absurd hj (Nat.not_lt_zero _)⟩
  case round =>
    obtain ⟨k, rfl, hk, HF⟩ := hrel
    by_cases hlt : k < m
    · obtain ⟨b1, off, rfl, -, hcell⟩ := HR.out.addr (by rw [HX.out]; omega)
      have hc := hcell k (by rw [HX.out]; omega)
      rw [atP_getD] at hc
      have hmem := HI.out _ (atP_mem xs k (by rw [HX.out]; exact hlt))
      obtain ⟨y, HY⟩ : ∃ y, Hid (y = atP xs k) := ⟨_, rfl⟩
      rw [← HY.out] at hc hmem
      clear hcell
      have hgo : Hid (knowB ks y = true → ∀ j, j < k + 1 → knowB ks (atP xs j) = true) := fun hy j hj => by
        by_cases hjk : j < k
        · exact HF.out j hjk
        · obtain rfl : j = k := by omega
          rw [← HY.out]; exact hy
      by_cases q1 : 1 < y
      · have hq : decide (1 < y) = true := decide_eq_true q1
        have hv : y.tdiv 2 = (varN y : Nat) := tdiv_two (by omega)
        obtain ⟨b2, off2, rfl, -, hkc⟩ := HK.out.addr (by omega)
        have hc2 := hkc (varN y) hmem
        rw [HKL.out] at hmem
        rw [atP_getD] at hc2
        obtain ⟨v, HV⟩ : ∃ v, Hid (v = varN y) := ⟨_, rfl⟩
        obtain ⟨z, HZ⟩ : ∃ z, Hid (z = atP ks (varN y)) := ⟨_, rfl⟩
        rw [← HZ.out, ← HV.out] at hc2
        rw [← HV.out] at hv hmem
        clear hkc
        by_cases hz : z = 0
        · subst hz
          have hfin : Hid (Post (.returned (.bool false)) w) := by
            show Post (.returned (.bool false)) w
            rw [← HP.out]
            exact ⟨ret_bool (List.all_eq_false.2 ⟨y, by rw [HY.out]; exact atP_mem xs k (by rw [HX.out]; exact hlt), by unfold knowB; rw [hq, ← HZ.out]; decide⟩).symm, rfl⟩
          clear hgo
          go_wp2
          exact hfin.out
        · have hzb : (z == 0) = false := by rw [beq_eq_false_iff_ne]; exact hz
          have hg := hide (hgo.out (by unfold knowB; rw [hq, ← HZ.out, decide_eq_false hz]; rfl))
          clear hgo
          go_wp2
          go_round
          case rel => exact ⟨k + 1, by go_num, by omega, hg.out⟩
          case measure => simp [intOf]; omega
      · have hq : decide (1 < y) = false := decide_eq_false q1
        have hg := hide (hgo.out (by unfold knowB; rw [hq]; rfl))
        clear hgo hmem
        go_wp2
        go_round
        case rel => exact ⟨k + 1, by go_num, by omega, hg.out⟩
        case measure => simp [intOf]; omega
    · obtain rfl : k = m := by omega
      have hfin : Hid (Post (.returned (.bool true)) w) := by
        show Post (.returned (.bool true)) w
        rw [← HP.out]
        exact ⟨ret_bool (List.all_eq_true.2 (all_of (p := fun y => knowB ks y = true) (fun j hj => HF.out j (by rw [← HX.out]; exact hj)))).symm, rfl⟩
      go_wp2
      exact hfin.out
set_option maxRecDepth 100000 in
set_option maxHeartbeats 1000000 in
theorem bads_any (c : CV) (C : Circ) (w : World) (h : Holds w c C) (h3 : c.n3 ≤ 1048576) (h4 : c.n4 ≤ 1048576) :
    Calls Try.prog 24 #[c.v] w fun e w' => ∃ v, e = .returned v ∧ NewInts w C.badsOr v w' := by
  obtain ⟨i0, hi, hz0, hz1, hz2⟩ := info_parts infoInt
  by_cases h0 : c.n4 = 0
  · have e : C.badsOr = C.outs := by unfold Circ.badsOr; rw [if_pos (h.l4.trans h0)]
    rw [e]
    have hb := fun o => below_alloc w o
    have HR := hide (fun W (hb : Below w.heap.size w W) => h.r3.below hb)
    have HL := hide h.l3
    have HZ := hide h.z3
    clear h e
    unfold CV.v
    go_enter Try.func24, Try.ntmps24
    go_wp2_with (at_builtin; refine wpList_append_row _ rfl (.const (.slice none 0 0)) (.tmp 11) 22 rfl .i64 w.heap.size 3 i0 (.int .i64 0) 8 Try.underlying22 hi hz0 hz1 hz2 rfl _ 0 [] rfl (World.ownsRow_nil _ _ _ _) c.a3 c.n3 c.c3 C.outs rfl HL.out (HR.out _ (below_alloc _ _)) HZ.out (by unfold maxLen; omega) (by omega) (by simp) ?_; intro v1 w1 hown hg1)
    go_ret
    refine ⟨v1, rfl, ?_, below_grow (hb _) hg1 (by simp) (fun k hk => by cases hk)⟩
    have e := HL.out
    rw [Nat.zero_add, List.nil_append] at hown
    rw [e]
    exact hown
  · have e : C.badsOr = C.bads := by unfold Circ.badsOr; rw [if_neg (by rw [h.l4]; exact h0)]
    rw [e]
    have hb := fun o => below_alloc w o
    have HR := hide (fun W (hb : Below w.heap.size w W) => h.r4.below hb)
    have HL := hide h.l4
    have HZ := hide h.z4
    clear h e
    have hp : ((c.n4 : Int) == 0) = false := by rw [beq_eq_false_iff_ne]; omega
    unfold CV.v
    go_enter Try.func24, Try.ntmps24
    go_wp2_with (at_builtin; refine wpList_append_row _ rfl (.const (.slice none 0 0)) (.tmp 11) 22 rfl .i64 w.heap.size 3 i0 (.int .i64 0) 8 Try.underlying22 hi hz0 hz1 hz2 rfl _ 0 [] rfl (World.ownsRow_nil _ _ _ _) c.a4 c.n4 c.c4 C.bads rfl HL.out (HR.out _ (below_alloc _ _)) HZ.out (by unfold maxLen; omega) (by omega) (by simp) ?_; intro v1 w1 hown hg1)
    go_ret
    refine ⟨v1, rfl, ?_, below_grow (hb _) hg1 (by simp) (fun k hk => by cases hk)⟩
    have e := HL.out
    rw [Nat.zero_add, List.nil_append] at hown
    rw [e]
    exact hown
end Go.Proofs.Ytppaifckiaaffaa
