/-
  container/heap, for whatever pile: what its four methods do is asked; down, Init, Pop are walked once.
-/
import Derived.Test.YtcbgnmkipbhncaaHeapPlain
import Derived.Deep.LoopGhost
import Derived.Shelf.Abstract
namespace Go.Proofs.Ytcbgnmkipbhncaa
open Go.RowKit

/-- A bool, whichever. -/
def TellsB (e : Ending) : Prop := ∃ b, e = .returned (.bool b)

/-- A PILE: an interface value '.iface T rv', its methods by number; R w xs: in w it holds xs; C w w': what a call may have turned. -/
structure Heaps {α : Type} [Inhabited α] (T : TypeId) (rv : Value) (fN fL fS fP : Nat) (enc : α → Value) (lt : α → α → Bool) (R : World → List α → Prop) (C : World → World → Prop) : Prop where
  mN : ∀ w, Sem.run Try.prog (method 197 T rv "Len") w = .ok (fN, rv) w
  mL : ∀ w, Sem.run Try.prog (method 197 T rv "Less") w = .ok (fL, rv) w
  mS : ∀ w, Sem.run Try.prog (method 197 T rv "Swap") w = .ok (fS, rv) w
  mP : ∀ w, Sem.run Try.prog (method 197 T rv "Pop") w = .ok (fP, rv) w
  eN : ∀ args w, (callFunc fN args).run Try.prog w = .ok (.enter fN args) w
  eL : ∀ args w, (callFunc fL args).run Try.prog w = .ok (.enter fL args) w
  eS : ∀ args w, (callFunc fS args).run Try.prog w = .ok (.enter fS args) w
  eP : ∀ args w, (callFunc fP args).run Try.prog w = .ok (.enter fP args) w
  len : ∀ w xs, R w xs → Calls Try.prog fN #[rv] w fun e w' => e = .returned (.int .i64 xs.length) ∧ w' = w
  less : ∀ w xs, R w xs → ∀ (i j : Nat) (I J : Int), I = i → J = j → i < xs.length → j < xs.length → Calls Try.prog fL #[rv, .int .i64 I, .int .i64 J] w fun e w' => e = .returned (.bool (lt (atP xs i) (atP xs j))) ∧ R w' xs ∧ C w w'
  swap : ∀ w xs, R w xs → ∀ (i j : Nat) (I J : Int), I = i → J = j → i < xs.length → j < xs.length → Calls Try.prog fS #[rv, .int .i64 I, .int .i64 J] w fun e w' => e = .returned (.tuple #[]) ∧ R w' (swpP xs i j) ∧ C w w'
  pop : ∀ w xs x, R w (xs ++ [x]) → Calls Try.prog fP #[rv] w fun e w' => e = .returned (enc x) ∧ R w' xs ∧ C w w'
  crefl : ∀ w, C w w
  ctrans : ∀ a b c, C a b → C b c → C a c
  small : ∀ w xs, R w xs → xs.length ≤ 1152921504606846976

section
variable {α : Type} [Inhabited α] {T : TypeId} {rv : Value} {fN fL fS fP : Nat} {enc : α → Value} {lt : α → α → Bool} {R : World → List α → Prop} {C : World → World → Prop}

set_option maxRecDepth 100000 in
set_option maxHeartbeats 1000000 in
theorem down_any (H : Heaps T rv fN fL fS fP enc lt R C) (O : Weak lt) (w : World) (xs : List α) (hR : R w xs) (i n : Nat) (I N : Int) (hI : I = i) (hN : N = n) (hn : n ≤ xs.length) (hin : InvP lt i n i xs) (hi : i ≤ n) :
    Calls Try.prog 57 #[.iface T rv, .int .i64 I, .int .i64 N] w fun e w' => TellsB e ∧ ∃ ys, R w' ys ∧ C w w' ∧ DownP n xs ys ∧ ∀ j, i ≤ j → OkP lt ys n j := by
  subst hI
  subst hN
  have hs := H.small w xs hR
  have mL := H.mL
  have mS := H.mS
  have eL := H.eL
  have eS := H.eS
  have HH := hide (And.intro H O)
  have HI0 := hide hin
  have HR0 := hide hR
  clear H O hin hR
  go_enter Try.func57, Try.ntmps57
  go_wp2
  go_loopg [7] (n - i) (fun kx s7 wr => ∃ k : Nat, s7 = .int .i64 k ∧ i ≤ k ∧ k ≤ n ∧ kx = n - k ∧ ∃ ys : List α, Hid (R wr ys ∧ C w wr ∧ DownP n xs ys ∧ InvP lt i n k ys))
  case atStart => exact ⟨i, rfl, Nat.le_refl _, hi, rfl, xs, HR0.out, HH.out.1.crefl w, DownP.refl _ _, HI0.out⟩
  case round =>
    obtain ⟨k, rfl, hik, hkn, rfl, ys, HY⟩ := hrel
    clear HI0 HR0
    have hyl : ys.length = xs.length := HY.out.2.2.1.len
    by_cases h1 : 2 * k + 1 < n
    · have hk : k < ys.length := by omega
      have hc1 : 2 * k + 1 < ys.length := by omega
      by_cases h2 : 2 * k + 2 < n
      · have hc2 : 2 * k + 2 < ys.length := by omega
        have HA := hide (fun W (hW : R W ys) => HH.out.1.less W ys hW (2 * k + 2) (2 * k + 1) (2 * (k : Int) + 1 + 1) (2 * (k : Int) + 1) (by omega) (by omega) hc2 hc1)
        cases hq : lt (atP ys (2 * k + 2)) (atP ys (2 * k + 1)) with
        | true =>
          rw [hq] at HA
          have HB := hide (fun W (hW : R W ys) => HH.out.1.less W ys hW (2 * k + 2) k ((2 * (k : Int) + 1 + 1)) k (by omega) rfl (by omega) hk)
          have HS := hide (fun W (hW : R W ys) => HH.out.1.swap W ys hW k (2 * k + 2) k ((2 * (k : Int) + 1 + 1)) rfl (by omega) hk (by omega))
          have hRy : R wr ys := HY.out.1
          cases hq2 : lt (atP ys (2 * k + 2)) (atP ys k) with
          | true =>
            rw [hq2] at HB
            go_wp2_with (first | (go_at_fn fL; refine (HA.out _ (by assumption)).mono ?_; rintro e w1 ⟨rfl, hR1, hC1⟩) | (go_at_fn fL; refine (HB.out _ (by assumption)).mono ?_; rintro e w2 ⟨rfl, hR2, hC2⟩) | (go_at_fn fS; refine (HS.out _ (by assumption)).mono ?_; rintro e w3 ⟨rfl, hR3, hC3⟩))
            go_roundg (n - (2 * k + 2))
            case measure => omega
            case rel =>
              refine ⟨2 * k + 2, by go_num, by omega, by omega, rfl, swpP ys k (2 * k + 2), hR3, HH.out.1.ctrans _ _ _ (HH.out.1.ctrans _ _ _ HY.out.2.1 (HH.out.1.ctrans _ _ _ hC1 hC2)) hC3, HY.out.2.2.1.swap (by omega) (by omega) (by omega), ?_⟩
              exact HY.out.2.2.2.swap HH.out.2 (by omega) (by omega) (by omega) (by omega) hq2 (fun c hc hcn => by rcases hc with rfl | rfl; exact HH.out.2.asymm _ _ hq; exact HH.out.2.irr _)
          | false =>
            rw [hq2] at HB
            go_wp2_with (first | (go_at_fn fL; refine (HA.out _ (by assumption)).mono ?_; rintro e w1 ⟨rfl, hR1, hC1⟩) | (go_at_fn fL; refine (HB.out _ (by assumption)).mono ?_; rintro e w2 ⟨rfl, hR2, hC2⟩))
            go_ret
            exact ⟨⟨_, rfl⟩, ys, hR2, (HH.out.1.ctrans _ _ _ HY.out.2.1 (HH.out.1.ctrans _ _ _ hC1 hC2)), HY.out.2.2.1, HY.out.2.2.2.done (fun c hc hcn => by rcases hc with rfl | rfl; exact HH.out.2.trans _ _ _ hq2 (HH.out.2.asymm _ _ hq); exact hq2)⟩
        | false =>
          rw [hq] at HA
          have HB := hide (fun W (hW : R W ys) => HH.out.1.less W ys hW (2 * k + 1) k ((2 * (k : Int) + 1)) k (by omega) rfl (by omega) hk)
          have HS := hide (fun W (hW : R W ys) => HH.out.1.swap W ys hW k (2 * k + 1) k ((2 * (k : Int) + 1)) rfl (by omega) hk (by omega))
          have hRy : R wr ys := HY.out.1
          cases hq2 : lt (atP ys (2 * k + 1)) (atP ys k) with
          | true =>
            rw [hq2] at HB
            go_wp2_with (first | (go_at_fn fL; refine (HA.out _ (by assumption)).mono ?_; rintro e w1 ⟨rfl, hR1, hC1⟩) | (go_at_fn fL; refine (HB.out _ (by assumption)).mono ?_; rintro e w2 ⟨rfl, hR2, hC2⟩) | (go_at_fn fS; refine (HS.out _ (by assumption)).mono ?_; rintro e w3 ⟨rfl, hR3, hC3⟩))
            go_roundg (n - (2 * k + 1))
            case measure => omega
            case rel =>
              refine ⟨2 * k + 1, by go_num, by omega, by omega, rfl, swpP ys k (2 * k + 1), hR3, HH.out.1.ctrans _ _ _ (HH.out.1.ctrans _ _ _ HY.out.2.1 (HH.out.1.ctrans _ _ _ hC1 hC2)) hC3, HY.out.2.2.1.swap (by omega) (by omega) (by omega), ?_⟩
              exact HY.out.2.2.2.swap HH.out.2 (by omega) (by omega) (by omega) (by omega) hq2 (fun c hc hcn => by rcases hc with rfl | rfl; exact HH.out.2.irr _; exact hq)
          | false =>
            rw [hq2] at HB
            go_wp2_with (first | (go_at_fn fL; refine (HA.out _ (by assumption)).mono ?_; rintro e w1 ⟨rfl, hR1, hC1⟩) | (go_at_fn fL; refine (HB.out _ (by assumption)).mono ?_; rintro e w2 ⟨rfl, hR2, hC2⟩))
            go_ret
            exact ⟨⟨_, rfl⟩, ys, hR2, (HH.out.1.ctrans _ _ _ HY.out.2.1 (HH.out.1.ctrans _ _ _ hC1 hC2)), HY.out.2.2.1, HY.out.2.2.2.done (fun c hc hcn => by rcases hc with rfl | rfl; exact hq2; exact HH.out.2.trans _ _ _ hq2 hq)⟩
      · have HB := hide (fun W (hW : R W ys) => HH.out.1.less W ys hW (2 * k + 1) k ((2 * (k : Int) + 1)) k (by omega) rfl (by omega) hk)
        have HS := hide (fun W (hW : R W ys) => HH.out.1.swap W ys hW k (2 * k + 1) k ((2 * (k : Int) + 1)) rfl (by omega) hk (by omega))
        have hRy : R wr ys := HY.out.1
        cases hq2 : lt (atP ys (2 * k + 1)) (atP ys k) with
        | true =>
          rw [hq2] at HB
          go_wp2_with (first | (go_at_fn fL; refine (HB.out _ (by assumption)).mono ?_; rintro e w2 ⟨rfl, hR2, hC2⟩) | (go_at_fn fS; refine (HS.out _ (by assumption)).mono ?_; rintro e w3 ⟨rfl, hR3, hC3⟩))
          go_roundg (n - (2 * k + 1))
          case measure => omega
          case rel =>
            refine ⟨2 * k + 1, by go_num, by omega, by omega, rfl, swpP ys k (2 * k + 1), hR3, HH.out.1.ctrans _ _ _ (HH.out.1.ctrans _ _ _ HY.out.2.1 hC2) hC3, HY.out.2.2.1.swap (by omega) (by omega) (by omega), ?_⟩
            exact HY.out.2.2.2.swap HH.out.2 (by omega) (by omega) (by omega) (by omega) hq2 (fun c hc hcn => by rcases hc with rfl | rfl; exact HH.out.2.irr _; exact absurd hcn h2)
        | false =>
          rw [hq2] at HB
          go_wp2_with (first | (go_at_fn fL; refine (HB.out _ (by assumption)).mono ?_; rintro e w2 ⟨rfl, hR2, hC2⟩))
          go_ret
          exact ⟨⟨_, rfl⟩, ys, hR2, (HH.out.1.ctrans _ _ _ HY.out.2.1 hC2), HY.out.2.2.1, HY.out.2.2.2.done (fun c hc hcn => by rcases hc with rfl | rfl; exact hq2; exact absurd hcn h2)⟩
    · go_wp2
      go_ret
      exact ⟨⟨_, rfl⟩, ys, HY.out.1, HY.out.2.1, HY.out.2.2.1, HY.out.2.2.2.done (fun c hc hcn => by omega)⟩
end
end Go.Proofs.Ytcbgnmkipbhncaa
