/-
  THE WALK of the law's own 'met'; what of two lists is left is met where both are.
-/
import Derived.Test.YtcbgnmkipbhncaaRefResolve
namespace Go.Proofs.Ytcbgnmkipbhncaa
open Go.RowKit

/-- The value that a row of bits gives a size. -/
def bitB (bs m : Int) : Bool := bits .and .i64 (bs / 2 ^ min (IntKind.u64.wrap (bits .and .i64 m 31)).toNat 64) 1 == 1
def litB (bs n : Int) : Bool := bitB bs (mag n) == decide (0 < n)
def metB (bs : Int) (xs : List Int) : Bool := xs.any (litB bs)

theorem metB_iff (bs : Int) (xs : List Int) : metB bs xs = true ↔ ∃ x ∈ xs, litB bs x = true := by unfold metB; simp

set_option maxRecDepth 100000 in
set_option maxHeartbeats 1000000 in
theorem met_any (a : Option Addr) (n c : Nat) (xs : List Int) (bs : Int) (w : World) (hr : RowK .i64 w a xs) (hx : xs.length = n) (hn : n ≤ 1048576) (hf : ∀ x ∈ xs, Fits x) :
    Calls Try.prog 23 #[.slice a n c, .int .i64 bs] w fun e w' => e = .returned (.bool (metB bs xs)) ∧ w' = w := by
  have HR := hide hr
  have HX := hide hx
  have HF := hide hf
  generalize hP : (fun (e : Ending) (w' : World) => e = .returned (.bool (metB bs xs)) ∧ w' = w) = Post
  have HP := hide hP
  clear hr hx hf hP
  go_enter Try.func23, Try.ntmps23
  go_wp2
  go_loop [5] (fun i => ∃ k : Nat, i = .int .i64 k ∧ k ≤ n ∧ Hid (∀ j, j < k → litB bs (atP xs j) = false)) (fun i => n - (intOf i).toNat)
  case atStart => exact ⟨0, rfl, Nat.zero_le _, fun j hj => absurd hj (Nat.not_lt_zero _)⟩
  case round =>
    obtain ⟨k, rfl, hk, HL⟩ := hrel
    by_cases hlt : k < n
    · obtain ⟨g, off, rfl, -, hcell⟩ := HR.out.addr (by rw [HX.out]; omega)
      have hc := hcell k (by rw [HX.out]; exact hlt)
      rw [atP_getD] at hc
      have hfy := HF.out _ (atP_mem xs k (by rw [HX.out]; exact hlt))
      have hmem := atP_mem xs k (by rw [HX.out]; exact hlt)
      obtain ⟨y, HYY⟩ : ∃ y, Hid (y = atP xs k) := ⟨_, rfl⟩
      rw [← HYY.out] at hc hfy hmem
      obtain ⟨hy0, hy1, hy2⟩ := hfy
      have hyes : Hid (litB bs y = true → Post (.returned (.bool true)) w) := fun h => by
        rw [← HP.out]
        exact ⟨ret_bool ((metB_iff bs xs).2 ⟨y, hmem, h⟩).symm, rfl⟩
      have hgo : Hid (litB bs y = false → ∀ j, j < k + 1 → litB bs (atP xs j) = false) := fun h j hj => by
        by_cases hjk : j < k
        · exact HL.out j hjk
        · obtain rfl : j = k := by omega
          rw [← HYY.out]; exact h
      clear hcell hmem
      by_cases hneg : y < 0
      · have em : mag y = -y := if_pos hneg
        have ed : decide (0 < y) = false := decide_eq_false (by omega)
        cases hbit : bitB bs (mag y) with
        | true =>
          have hl : Hid (litB bs y = false) := by show litB bs y = false; unfold litB; rw [hbit, ed]; rfl
          rw [em] at hbit
          unfold bitB at hbit
          clear em
          go_wp2
          go_round
          case rel => exact ⟨k + 1, by go_num, by omega, hgo.out hl.out⟩
          case measure => simp [intOf]; omega
        | false =>
          have hl : Hid (litB bs y = true) := by show litB bs y = true; unfold litB; rw [hbit, ed]; rfl
          have hfin : Hid (Post (.returned (.bool true)) w) := hyes.out hl.out
          rw [em] at hbit
          unfold bitB at hbit
          clear em
          go_wp2
          exact hfin.out
      · have em : mag y = y := if_neg hneg
        have hpos : 0 < y := by omega
        have ed : decide (0 < y) = true := decide_eq_true hpos
        cases hbit : bitB bs (mag y) with
        | false =>
          have hl : Hid (litB bs y = false) := by show litB bs y = false; unfold litB; rw [hbit, ed]; rfl
          rw [em] at hbit
          unfold bitB at hbit
          clear em
          go_wp2
          go_round
          case rel => exact ⟨k + 1, by go_num, by omega, hgo.out hl.out⟩
          case measure => simp [intOf]; omega
        | true =>
          have hl : Hid (litB bs y = true) := by show litB bs y = true; unfold litB; rw [hbit, ed]; rfl
          have hfin : Hid (Post (.returned (.bool true)) w) := hyes.out hl.out
          rw [em] at hbit
          unfold bitB at hbit
          clear em
          go_wp2
          exact hfin.out
    · obtain rfl : k = n := by omega
      have hfin : Hid (Post (.returned (.bool false)) w) := by
        show Post (.returned (.bool false)) w
        rw [← HP.out]
        refine ⟨ret_bool ?_, rfl⟩
        cases hm : metB bs xs with
        | false => rfl
        | true =>
          obtain ⟨x, hx, h⟩ := (metB_iff bs xs).1 hm
          have := all_of (p := fun y => litB bs y = false) (fun j hj => HL.out j (by rw [← HX.out]; exact hj)) x hx
          rw [this] at h
          cases h
      go_wp2
      exact hfin.out

/-- A list that is right has one sign of a size at most. -/
theorem rt_one {xs : List Int} (h : Rt xs) {m n : Int} (hm : m ∈ xs) (hn : n ∈ xs) (e : mag m = mag n) : m = n := by
  obtain ⟨i, hi, e1⟩ := List.getElem_of_mem hm
  obtain ⟨j, hj, e2⟩ := List.getElem_of_mem hn
  rcases Nat.lt_trichotomy i j with hij | hij | hij
  · have := List.pairwise_iff_getElem.1 h.2 i j hi hj hij
    rw [e1, e2] at this; omega
  · subst hij; rw [← e1, e2]
  · have := List.pairwise_iff_getElem.1 h.2 j i hj hi hij
    rw [e1, e2] at this; omega

theorem met_rest {xs ys : List Int} {v bs : Int} (hok : resOk xs ys v = true) (hg : goodB (restL xs ys v) = true) (h1 : metB bs xs = true) (h2 : metB bs ys = true) : metB bs (resL xs ys v) = true := by
  have hk := hok
  unfold resOk at hk
  simp only [Bool.and_eq_true, Bool.or_eq_true, decide_eq_true_eq] at hk
  obtain ⟨hv, hra, hrb, hp⟩ := hk
  have ra := (rightB_iff xs).1 hra
  have rb := (rightB_iff ys).1 hrb
  have hkeep : ∀ x, (x ∈ xs ∨ x ∈ ys) → mag x ≠ v → litB bs x = true → metB bs (resL xs ys v) = true := fun x hx hne hl => by
    refine (metB_iff _ _).2 ⟨x, ?_, hl⟩
    rw [resL, if_pos hok, cubeA_mem ((goodB_iff _).1 hg)]
    exact List.mem_filter.2 ⟨List.mem_append.2 hx, decide_eq_true hne⟩
  have emv : mag v = v := if_neg (by omega)
  have emn : mag (-v) = v := by rw [mag_neg]; exact emv
  obtain ⟨x, hx, hlx⟩ := (metB_iff _ _).1 h1
  obtain ⟨y, hy, hly⟩ := (metB_iff _ _).1 h2
  by_cases hxv : mag x = v
  · by_cases hyv : mag y = v
    · have key : ∀ {p q : Int}, litB bs p = true → litB bs q = true → mag p = v → mag q = v → p = v → q = -v → False := fun {p q} hp1 hq1 mp mq ep eq => by
        unfold litB at hp1 hq1
        rw [mp] at hp1
        rw [mq] at hq1
        rw [ep, decide_eq_true hv] at hp1
        rw [eq, decide_eq_false (by omega)] at hq1
        simp at hp1 hq1
        rw [hp1] at hq1
        cases hq1
      rcases hp with ⟨q1, q2⟩ | ⟨q1, q2⟩
      · exact absurd (key hlx hly hxv hyv (rt_one ra hx q1 (hxv.trans emv.symm)) (rt_one rb hy q2 (hyv.trans emn.symm))) (fun h => h)
      · exact absurd (key hly hlx hyv hxv (rt_one rb hy q1 (hyv.trans emv.symm)) (rt_one ra hx q2 (hxv.trans emn.symm))) (fun h => h)
    · exact hkeep y (.inr hy) hyv hly
  · exact hkeep x (.inl hx) hxv hlx
end Go.Proofs.Ytcbgnmkipbhncaa
