/-
  container/heap, for whatever pile whose methods are those of its address: down, up, Push, Pop are walked once.
-/
import Derived.Test.YtikjbbebfjleaaaGreatDoorJ15
import Derived.Deep.LoopGhost
import Derived.Shelf.Abstract
namespace Go.Proofs.YtikjbbebfjleaaaGreatDoor
open Go.RowKit

/-- A bool, whichever. -/
def TellsB (e : Ending) : Prop := ∃ b, e = .returned (.bool b)

/-- A PILE: an interface value '.iface T rv' (rv: its address), its methods by number; R v w xs: in w its value is v, and it holds xs; C v w w': what less and swap may have turned; M v v1 w w': what push and pop may have. -/
structure HeapsV {α : Type} [Inhabited α] (T : TypeId) (rv : Value) (fN fL fS fP fU : Nat) (enc : α → Value) (lt : α → α → Bool) (R : Value → World → List α → Prop) (C : Value → World → World → Prop) (M : Value → Value → World → World → Prop) : Prop where
  mN : ∀ v w xs, R v w xs → Sem.run Tryz.prog (method 352 T rv "Len") w = .ok (fN, rv) w
  mL : ∀ v w xs, R v w xs → Sem.run Tryz.prog (method 352 T rv "Less") w = .ok (fL, rv) w
  mS : ∀ v w xs, R v w xs → Sem.run Tryz.prog (method 352 T rv "Swap") w = .ok (fS, rv) w
  mP : ∀ w, Sem.run Tryz.prog (method 352 T rv "Pop") w = .ok (fP, rv) w
  mU : ∀ w, Sem.run Tryz.prog (method 352 T rv "Push") w = .ok (fU, rv) w
  eN : ∀ args w, (callFunc fN args).run Tryz.prog w = .ok (.enter fN args) w
  eL : ∀ args w, (callFunc fL args).run Tryz.prog w = .ok (.enter fL args) w
  eS : ∀ args w, (callFunc fS args).run Tryz.prog w = .ok (.enter fS args) w
  eP : ∀ args w, (callFunc fP args).run Tryz.prog w = .ok (.enter fP args) w
  eU : ∀ args w, (callFunc fU args).run Tryz.prog w = .ok (.enter fU args) w
  len : ∀ v w xs, R v w xs → Calls Tryz.prog fN #[rv] w fun e w' => e = .returned (.int .i64 xs.length) ∧ w' = w
  less : ∀ v w xs, R v w xs → ∀ (i j : Nat) (I J : Int), I = i → J = j → i < xs.length → j < xs.length → Calls Tryz.prog fL #[rv, .int .i64 I, .int .i64 J] w fun e w' => e = .returned (.bool (lt (atP xs i) (atP xs j))) ∧ R v w' xs ∧ C v w w'
  swap : ∀ v w xs, R v w xs → ∀ (i j : Nat) (I J : Int), I = i → J = j → i < xs.length → j < xs.length → Calls Tryz.prog fS #[rv, .int .i64 I, .int .i64 J] w fun e w' => e = .returned (.tuple #[]) ∧ R v w' (swpP xs i j) ∧ C v w w'
  pop : ∀ v w xs x, R v w (xs ++ [x]) → Calls Tryz.prog fP #[rv] w fun e w' => e = .returned (enc x) ∧ ∃ v1, R v1 w' xs ∧ M v v1 w w'
  push : ∀ v w xs x, R v w xs → xs.length ≤ 1000000 → Calls Tryz.prog fU #[rv, enc x] w fun e w' => e = .returned (.tuple #[]) ∧ ∃ v1, R v1 w' (xs ++ [x]) ∧ M v v1 w w'
  crefl : ∀ v w, C v w w
  ctrans : ∀ v a b c, C v a b → C v b c → C v a c
  small : ∀ v w xs, R v w xs → xs.length ≤ 1152921504606846976

section
variable {α : Type} [Inhabited α] {T : TypeId} {rv : Value} {fN fL fS fP fU : Nat} {enc : α → Value} {lt : α → α → Bool} {R : Value → World → List α → Prop} {C : Value → World → World → Prop} {M : Value → Value → World → World → Prop}

set_option maxRecDepth 100000 in
set_option maxHeartbeats 1000000 in
theorem down_any (H : HeapsV T rv fN fL fS fP fU enc lt R C M) (O : Weak lt) (v : Value) (w : World) (xs : List α) (hR : R v w xs) (i n : Nat) (I N : Int) (hI : I = i) (hN : N = n) (hn : n ≤ xs.length) (hin : InvP lt i n i xs) (hi : i ≤ n) :
    Calls Tryz.prog 179 #[.iface T rv, .int .i64 I, .int .i64 N] w fun e w' => TellsB e ∧ ∃ ys, R v w' ys ∧ C v w w' ∧ DownP n xs ys ∧ ∀ j, i ≤ j → OkP lt ys n j := by
  subst hI
  subst hN
  have hs := H.small v w xs hR
  have eL := H.eL
  have eS := H.eS
  have HH := hide (And.intro H O)
  have HI0 := hide hin
  have HR0 := hide hR
  clear H O hin hR
  go_enter Tryz.func179, Tryz.ntmps179
  go_wp2
  go_loopg [7] (n - i) (fun kx s7 wr => ∃ k : Nat, s7 = .int .i64 k ∧ i ≤ k ∧ k ≤ n ∧ kx = n - k ∧ ∃ ys : List α, Hid (R v wr ys ∧ C v w wr ∧ DownP n xs ys ∧ InvP lt i n k ys))
  case atStart => exact ⟨i, rfl, Nat.le_refl _, hi, rfl, xs, HR0.out, HH.out.1.crefl v w, DownP.refl _ _, HI0.out⟩
  case round =>
    obtain ⟨k, rfl, hik, hkn, rfl, ys, HY⟩ := hrel
    clear HI0 HR0
    have hyl : ys.length = xs.length := HY.out.2.2.1.len
    by_cases h1 : 2 * k + 1 < n
    · have hk : k < ys.length := by omega
      have hc1 : 2 * k + 1 < ys.length := by omega
      by_cases h2 : 2 * k + 2 < n
      · have hc2 : 2 * k + 2 < ys.length := by omega
        have HA := hide (fun W (hW : R v W ys) => HH.out.1.less v W ys hW (2 * k + 2) (2 * k + 1) (2 * (k : Int) + 1 + 1) (2 * (k : Int) + 1) (by omega) (by omega) hc2 hc1)
        cases hq : lt (atP ys (2 * k + 2)) (atP ys (2 * k + 1)) with
        | true =>
          rw [hq] at HA
          have HB := hide (fun W (hW : R v W ys) => HH.out.1.less v W ys hW (2 * k + 2) k ((2 * (k : Int) + 1 + 1)) k (by omega) rfl (by omega) hk)
          have HS := hide (fun W (hW : R v W ys) => HH.out.1.swap v W ys hW k (2 * k + 2) k ((2 * (k : Int) + 1 + 1)) rfl (by omega) hk (by omega))
          have hRy : R v wr ys := HY.out.1
          have mLr := HH.out.1.mL v wr ys hRy
          cases hq2 : lt (atP ys (2 * k + 2)) (atP ys k) with
          | true =>
            rw [hq2] at HB
            go_wp2_with (first | (go_at_fn fL; refine (HA.out _ (by assumption)).mono ?_; rintro e w1 ⟨rfl, hR1, hC1⟩; have mL1 := HH.out.1.mL v w1 ys hR1) | (go_at_fn fL; refine (HB.out _ (by assumption)).mono ?_; rintro e w2 ⟨rfl, hR2, hC2⟩; have mS2 := HH.out.1.mS v w2 ys hR2) | (go_at_fn fS; refine (HS.out _ (by assumption)).mono ?_; rintro e w3 ⟨rfl, hR3, hC3⟩))
            go_roundg (n - (2 * k + 2))
            case measure => omega
            case rel =>
              refine ⟨2 * k + 2, by go_num, by omega, by omega, rfl, swpP ys k (2 * k + 2), hR3, HH.out.1.ctrans _ _ _ _ (HH.out.1.ctrans _ _ _ _ HY.out.2.1 (HH.out.1.ctrans _ _ _ _ hC1 hC2)) hC3, HY.out.2.2.1.swap (by omega) (by omega) (by omega), ?_⟩
              exact HY.out.2.2.2.swap HH.out.2 (by omega) (by omega) (by omega) (by omega) hq2 (fun c hc hcn => by rcases hc with rfl | rfl; exact HH.out.2.asymm _ _ hq; exact HH.out.2.irr _)
          | false =>
            rw [hq2] at HB
            go_wp2_with (first | (go_at_fn fL; refine (HA.out _ (by assumption)).mono ?_; rintro e w1 ⟨rfl, hR1, hC1⟩; have mL1 := HH.out.1.mL v w1 ys hR1) | (go_at_fn fL; refine (HB.out _ (by assumption)).mono ?_; rintro e w2 ⟨rfl, hR2, hC2⟩; have mS2 := HH.out.1.mS v w2 ys hR2))
            go_ret
            exact ⟨⟨_, rfl⟩, ys, hR2, (HH.out.1.ctrans _ _ _ _ HY.out.2.1 (HH.out.1.ctrans _ _ _ _ hC1 hC2)), HY.out.2.2.1, HY.out.2.2.2.done (fun c hc hcn => by rcases hc with rfl | rfl; exact HH.out.2.trans _ _ _ hq2 (HH.out.2.asymm _ _ hq); exact hq2)⟩
        | false =>
          rw [hq] at HA
          have HB := hide (fun W (hW : R v W ys) => HH.out.1.less v W ys hW (2 * k + 1) k ((2 * (k : Int) + 1)) k (by omega) rfl (by omega) hk)
          have HS := hide (fun W (hW : R v W ys) => HH.out.1.swap v W ys hW k (2 * k + 1) k ((2 * (k : Int) + 1)) rfl (by omega) hk (by omega))
          have hRy : R v wr ys := HY.out.1
          have mLr := HH.out.1.mL v wr ys hRy
          cases hq2 : lt (atP ys (2 * k + 1)) (atP ys k) with
          | true =>
            rw [hq2] at HB
            go_wp2_with (first | (go_at_fn fL; refine (HA.out _ (by assumption)).mono ?_; rintro e w1 ⟨rfl, hR1, hC1⟩; have mL1 := HH.out.1.mL v w1 ys hR1) | (go_at_fn fL; refine (HB.out _ (by assumption)).mono ?_; rintro e w2 ⟨rfl, hR2, hC2⟩; have mS2 := HH.out.1.mS v w2 ys hR2) | (go_at_fn fS; refine (HS.out _ (by assumption)).mono ?_; rintro e w3 ⟨rfl, hR3, hC3⟩))
            go_roundg (n - (2 * k + 1))
            case measure => omega
            case rel =>
              refine ⟨2 * k + 1, by go_num, by omega, by omega, rfl, swpP ys k (2 * k + 1), hR3, HH.out.1.ctrans _ _ _ _ (HH.out.1.ctrans _ _ _ _ HY.out.2.1 (HH.out.1.ctrans _ _ _ _ hC1 hC2)) hC3, HY.out.2.2.1.swap (by omega) (by omega) (by omega), ?_⟩
              exact HY.out.2.2.2.swap HH.out.2 (by omega) (by omega) (by omega) (by omega) hq2 (fun c hc hcn => by rcases hc with rfl | rfl; exact HH.out.2.irr _; exact hq)
          | false =>
            rw [hq2] at HB
            go_wp2_with (first | (go_at_fn fL; refine (HA.out _ (by assumption)).mono ?_; rintro e w1 ⟨rfl, hR1, hC1⟩; have mL1 := HH.out.1.mL v w1 ys hR1) | (go_at_fn fL; refine (HB.out _ (by assumption)).mono ?_; rintro e w2 ⟨rfl, hR2, hC2⟩; have mS2 := HH.out.1.mS v w2 ys hR2))
            go_ret
            exact ⟨⟨_, rfl⟩, ys, hR2, (HH.out.1.ctrans _ _ _ _ HY.out.2.1 (HH.out.1.ctrans _ _ _ _ hC1 hC2)), HY.out.2.2.1, HY.out.2.2.2.done (fun c hc hcn => by rcases hc with rfl | rfl; exact hq2; exact HH.out.2.trans _ _ _ hq2 hq)⟩
      · have HB := hide (fun W (hW : R v W ys) => HH.out.1.less v W ys hW (2 * k + 1) k ((2 * (k : Int) + 1)) k (by omega) rfl (by omega) hk)
        have HS := hide (fun W (hW : R v W ys) => HH.out.1.swap v W ys hW k (2 * k + 1) k ((2 * (k : Int) + 1)) rfl (by omega) hk (by omega))
        have hRy : R v wr ys := HY.out.1
        have mLr := HH.out.1.mL v wr ys hRy
        cases hq2 : lt (atP ys (2 * k + 1)) (atP ys k) with
        | true =>
          rw [hq2] at HB
          go_wp2_with (first | (go_at_fn fL; refine (HB.out _ (by assumption)).mono ?_; rintro e w2 ⟨rfl, hR2, hC2⟩; have mS2 := HH.out.1.mS v w2 ys hR2) | (go_at_fn fS; refine (HS.out _ (by assumption)).mono ?_; rintro e w3 ⟨rfl, hR3, hC3⟩))
          go_roundg (n - (2 * k + 1))
          case measure => omega
          case rel =>
            refine ⟨2 * k + 1, by go_num, by omega, by omega, rfl, swpP ys k (2 * k + 1), hR3, HH.out.1.ctrans _ _ _ _ (HH.out.1.ctrans _ _ _ _ HY.out.2.1 hC2) hC3, HY.out.2.2.1.swap (by omega) (by omega) (by omega), ?_⟩
            exact HY.out.2.2.2.swap HH.out.2 (by omega) (by omega) (by omega) (by omega) hq2 (fun c hc hcn => by rcases hc with rfl | rfl; exact HH.out.2.irr _; exact absurd hcn h2)
        | false =>
          rw [hq2] at HB
          go_wp2_with (first | (go_at_fn fL; refine (HB.out _ (by assumption)).mono ?_; rintro e w2 ⟨rfl, hR2, hC2⟩; have mS2 := HH.out.1.mS v w2 ys hR2))
          go_ret
          exact ⟨⟨_, rfl⟩, ys, hR2, (HH.out.1.ctrans _ _ _ _ HY.out.2.1 hC2), HY.out.2.2.1, HY.out.2.2.2.done (fun c hc hcn => by rcases hc with rfl | rfl; exact hq2; exact absurd hcn h2)⟩
    · go_wp2
      go_ret
      exact ⟨⟨_, rfl⟩, ys, HY.out.1, HY.out.2.1, HY.out.2.2.1, HY.out.2.2.2.done (fun c hc hcn => by omega)⟩

set_option maxRecDepth 100000 in
set_option maxHeartbeats 1000000 in
theorem up_any (H : HeapsV T rv fN fL fS fP fU enc lt R C M) (O : Weak lt) (v : Value) (w : World) (xs : List α) (hR : R v w xs) (j0 : Nat) (J : Int) (hJ : J = j0) (hj0 : j0 < xs.length) (hu : UpP lt xs j0) :
    Calls Tryz.prog 178 #[.iface T rv, .int .i64 J] w fun e w' => e = .returned (.tuple #[]) ∧ ∃ ys, R v w' ys ∧ C v w w' ∧ ys.Perm xs ∧ HeapP lt ys := by
  subst hJ
  have hs := H.small v w xs hR
  have eL := H.eL
  have eS := H.eS
  have HH := hide (And.intro H O)
  have HI0 := hide hu
  have HR0 := hide hR
  clear H O hu hR
  go_enter Tryz.func178, Tryz.ntmps178
  go_wp2
  go_loopg [1, 4] j0 (fun kx s1 _ wr => ∃ k : Nat, s1 = .int .i64 k ∧ k < xs.length ∧ kx = k ∧ ∃ ys : List α, Hid (R v wr ys ∧ C v w wr ∧ ys.Perm xs ∧ UpP lt ys k))
  case atStart => exact ⟨j0, rfl, hj0, rfl, xs, HR0.out, HH.out.1.crefl v w, List.Perm.refl _, HI0.out⟩
  case round =>
    obtain ⟨k, rfl, hkn, hgk, ys, HY⟩ := hrel
    replace hgk := hgk.symm
    subst hgk
    clear HI0 HR0
    have hyl : ys.length = xs.length := HY.out.2.2.1.length_eq
    have mLw := HH.out.1.mL v wr ys HY.out.1
    by_cases hk0 : k = 0
    · subst hk0
      go_wp2
      go_end0
      exact ⟨rfl, ys, HY.out.1, HY.out.2.1, HY.out.2.2.1, HY.out.2.2.2.done (fun p hp _ => by omega)⟩
    · obtain ⟨i, hi⟩ : ∃ i, i = (k - 1) / 2 := ⟨_, rfl⟩
      have hdiv : ((k : Int) - 1).tdiv 2 = (i : Int) := by rw [Int.tdiv_eq_ediv_of_nonneg (by omega)]; omega
      have hne : ((i : Int) == (k : Int)) = false := by rw [beq_eq_false_iff_ne]; omega
      have hne2 : ¬ i = k := by omega
      have hib : i < xs.length := by omega
      have hik : i < k := by omega
      have hL := hide (HH.out.1.less v wr ys HY.out.1 k i k i rfl rfl (by omega) (by omega))
      have hS := hide (fun W (hW : R v W ys) => HH.out.1.swap v W ys hW i k i k rfl rfl (by omega) (by omega))
      cases hq : lt (atP ys k) (atP ys i) with
      | false =>
        rw [hq] at hL
        have hdone : Hid (HeapP lt ys) := HY.out.2.2.2.done (fun p hp _ => by
          obtain rfl : p = i := by omega
          exact hq)
        clear hi
        go_wp2_with (first | (go_at_fn fL; refine hL.out.mono ?_; rintro e w1 ⟨rfl, hR1, hC1⟩))
        go_end0
        exact ⟨rfl, ys, hR1, HH.out.1.ctrans _ _ _ _ HY.out.2.1 hC1, HY.out.2.2.1, hdone.out⟩
      | true =>
        rw [hq] at hL
        have HQ := hide hq
        have HI := hide hi
        clear hi hq
        go_wp2_with (first | (go_at_fn fL; refine hL.out.mono ?_; rintro e w1 ⟨rfl, hR1, hC1⟩; have mS1 := HH.out.1.mS v w1 ys hR1) | (go_at_fn fS; refine (hS.out _ hR1).mono ?_; rintro e w2 ⟨rfl, hR2, hC2⟩))
        go_roundg i
        case measure => have := HI.out; omega
        case rel =>
          have e1 := HI.out
          exact ⟨i, by go_num, by omega, rfl, swpP ys i k, hR2, HH.out.1.ctrans _ _ _ _ HY.out.2.1 (HH.out.1.ctrans _ _ _ _ hC1 hC2), (swpP_perm ys i k (by omega) (by omega)).trans HY.out.2.2.1, HY.out.2.2.2.swap HH.out.2 (by omega) (by omega) HQ.out⟩

set_option maxRecDepth 100000 in
set_option maxHeartbeats 1000000 in
theorem hpush_any (H : HeapsV T rv fN fL fS fP fU enc lt R C M) (O : Weak lt) (v : Value) (w : World) (xs : List α) (x : α) (hR : R v w xs) (hh : HeapP lt xs) (hn : xs.length ≤ 1000000) :
    Calls Tryz.prog 162 #[.iface T rv, enc x] w fun e w' => e = .returned (.tuple #[]) ∧ ∃ v1 w1 ys, M v v1 w w1 ∧ C v1 w1 w' ∧ R v1 w' ys ∧ HeapP lt ys ∧ ys.Perm (xs ++ [x]) := by
  have mU := H.mU
  have eU := H.eU
  have eN := H.eN
  have hpu := H.push v w xs x hR hn
  have HH := hide (And.intro H O)
  have HX := hide hh
  obtain ⟨n, hnn⟩ : ∃ n, n = xs.length := ⟨_, rfl⟩
  rw [← hnn] at hn
  have HN := hide hnn
  clear H O hR hh hnn
  generalize enc x = ex at hpu ⊢
  go_enter Tryz.func162, Tryz.ntmps162
  go_wp2_with fail
  refine hpu.mono ?_
  rintro e w1 ⟨rfl, v1, hR1, hM1⟩
  have mN1 := HH.out.1.mN v1 w1 _ hR1
  have hlen := HH.out.1.len v1 w1 _ hR1
  rw [List.length_append, List.length_singleton, ← HN.out] at hlen
  have HUp := hide (up_any HH.out.1 HH.out.2 v1 w1 (xs ++ [x]) hR1 n ((n : Int)) rfl (by rw [List.length_append, List.length_singleton, ← HN.out]; omega) (by rw [HN.out]; exact up_start HX.out x))
  have HM := hide hM1
  clear hpu hM1 hR1
  go_wp2_with (first | (go_at_fn fN; refine hlen.mono ?_; rintro e w2 ⟨rfl, hw2⟩; obtain rfl := hw2.symm) | (go_at_call 178; refine HUp.out.mono ?_; rintro e w3 ⟨rfl, ys, hys⟩))
  go_end0
  exact ⟨rfl, v1, _, ys, HM.out, hys.2.1, hys.1, hys.2.2.2, hys.2.2.1⟩

set_option maxRecDepth 100000 in
set_option maxHeartbeats 1000000 in
theorem hpop_any (H : HeapsV T rv fN fL fS fP fU enc lt R C M) (O : Weak lt) (v : Value) (w : World) (xs : List α) (hR : R v w xs) (n : Nat) (hl : xs.length = n + 1) (hh : HeapP lt xs) :
    Calls Tryz.prog 163 #[.iface T rv] w fun e w' => e = .returned (enc (atP xs 0)) ∧ ∃ v1 w1 ys, C v w w1 ∧ M v v1 w1 w' ∧ R v1 w' ys ∧ HeapP lt ys ∧ (atP xs 0 :: ys).Perm xs ∧ ∀ y ∈ ys, lt y (atP xs 0) = false := by
  have hs := H.small v w xs hR
  rw [hl] at hs
  have mN := H.mN v w xs hR
  have eN := H.eN
  have mS := H.mS v w xs hR
  have eS := H.eS
  have mP := H.mP
  have eP := H.eP
  have hlen := H.len v w xs hR
  rw [hl] at hlen
  have hsw := H.swap v w xs hR 0 n 0 n rfl rfl (by omega) (by omega)
  have HD := hide (fun W hW => down_any H O v W (swpP xs 0 n) hW 0 n 0 n rfl rfl (by rw [swpP_len]; omega) (pop_inv hh hl) (Nat.zero_le _))
  have HH := hide (And.intro H O)
  have HX := hide (And.intro hl hh)
  obtain ⟨x, hx⟩ : ∃ x, x = atP xs 0 := ⟨_, rfl⟩
  have HE := hide (fun zs => pop_end (zs := zs) O hh hl)
  rw [← hx] at HE
  rw [← hx]
  clear H O hR hl hh hx
  go_enter Tryz.func163, Tryz.ntmps163
  go_wp2_with (first | (go_at_fn fN; refine hlen.mono ?_; rintro e w1 ⟨rfl, hw1⟩; obtain rfl := hw1.symm) | (go_at_fn fS; refine hsw.mono ?_; rintro e w2 ⟨rfl, hR2, hC2⟩) | (go_at_call 179; refine (HD.out _ (by assumption)).mono ?_; rintro e w3 ⟨⟨b, rfl⟩, zs, hz⟩))
  have he := HE.out zs hz.2.2.1 hz.2.2.2
  obtain ⟨ys, hys⟩ : ∃ ys, ys = zs.take n := ⟨_, rfl⟩
  rw [← hys] at he
  have hR3 := hz.1
  rw [he.1] at hR3
  have hp := HH.out.1.pop v w3 ys x hR3
  refine hp.mono ?_
  rintro e w4 ⟨rfl, v1, hR4, hM4⟩
  have HF := hide (And.intro he.2 (And.intro (HH.out.1.ctrans _ _ _ _ hC2 hz.2.1) hM4))
  clear he hys hz hR3 hp hC2 hM4
  go_wp2
  go_ret
  exact ⟨rfl, v1, w3, ys, HF.out.2.1, HF.out.2.2, hR4, HF.out.1.1, HF.out.1.2.1, HF.out.1.2.2⟩
end
end Go.Proofs.YtikjbbebfjleaaaGreatDoor
