/-
  container/heap's Init and Pop, for whatever pile.
-/
import Derived.Test.YtcbgnmkipbhncaaHeap
namespace Go.Proofs.Ytcbgnmkipbhncaa
open Go.RowKit
section
variable {α : Type} [Inhabited α] {T : TypeId} {rv : Value} {fN fL fS fP : Nat} {enc : α → Value} {lt : α → α → Bool} {R : World → List α → Prop} {C : World → World → Prop}

set_option maxRecDepth 100000 in
set_option maxHeartbeats 1000000 in
theorem init_any (H : Heaps T rv fN fL fS fP enc lt R C) (O : Weak lt) (w : World) (xs : List α) (hR : R w xs) :
    Calls Try.prog 49 #[.iface T rv] w fun e w' => e = .returned (.tuple #[]) ∧ ∃ ys, R w' ys ∧ C w w' ∧ ys.Perm xs ∧ HeapP lt ys := by
  have hs := H.small w xs hR
  have mN := H.mN
  have eN := H.eN
  have hlen := H.len w xs hR
  have HH := hide (And.intro H O)
  have HR0 := hide hR
  obtain ⟨n, hn⟩ : ∃ n, n = xs.length := ⟨_, rfl⟩
  rw [← hn] at hs hlen
  have HN := hide hn
  clear H O hR hn
  go_enter Try.func49, Try.ntmps49
  go_wp2_with (go_at_fn fN; refine hlen.mono ?_; rintro e w1 ⟨rfl, hw1⟩; obtain rfl := hw1.symm)
  go_loopg [3] (n / 2) (fun kx s3 wr => s3 = .int .i64 ((kx : Int) - 1) ∧ kx ≤ n / 2 ∧ ∃ ys : List α, Hid (R wr ys ∧ C w wr ∧ ys.Perm xs ∧ ∀ j, kx ≤ j → OkP lt ys n j))
  case atStart => exact ⟨by go_num, Nat.le_refl _, xs, HR0.out, HH.out.1.crefl _, List.Perm.refl _, fun j hj c hc hcn => by omega⟩
  case round =>
    obtain ⟨rfl, hk, ys, HY⟩ := hrel
    clear HR0 hlen
    cases gk with
    | zero =>
      go_wp2
      go_end0
      refine ⟨rfl, ys, HY.out.1, HY.out.2.1, HY.out.2.2.1, fun j => ?_⟩
      rw [HY.out.2.2.1.length_eq, ← HN.out]
      exact HY.out.2.2.2 j (Nat.zero_le _)
    | succ kx =>
      have HD := hide (down_any HH.out.1 HH.out.2 wr ys HY.out.1 kx n kx n rfl rfl (by rw [HY.out.2.2.1.length_eq, ← HN.out]; exact Nat.le_refl _) ⟨fun j hj hne => HY.out.2.2.2 j (by omega), fun p c hp hc => by omega⟩ (by omega))
      go_wp2_with (go_at_call 57; refine HD.out.mono ?_; rintro e w2 ⟨⟨b, rfl⟩, zs, hz⟩)
      go_roundg kx
      case measure => omega
      case rel => exact ⟨by simp, by omega, zs, hz.1, HH.out.1.ctrans _ _ _ HY.out.2.1 hz.2.1, hz.2.2.1.1.trans HY.out.2.2.1, hz.2.2.2⟩

set_option maxRecDepth 100000 in
set_option maxHeartbeats 1000000 in
theorem hpop_any (H : Heaps T rv fN fL fS fP enc lt R C) (O : Weak lt) (w : World) (xs : List α) (hR : R w xs) (n : Nat) (hl : xs.length = n + 1) (hh : HeapP lt xs) :
    Calls Try.prog 51 #[.iface T rv] w fun e w' => e = .returned (enc (atP xs 0)) ∧ ∃ ys, R w' ys ∧ C w w' ∧ HeapP lt ys ∧ (atP xs 0 :: ys).Perm xs ∧ ∀ y ∈ ys, lt y (atP xs 0) = false := by
  have hs := H.small w xs hR
  rw [hl] at hs
  have mN := H.mN
  have eN := H.eN
  have mS := H.mS
  have eS := H.eS
  have mP := H.mP
  have eP := H.eP
  have hlen := H.len w xs hR
  rw [hl] at hlen
  have hsw := H.swap w xs hR 0 n 0 n rfl rfl (by omega) (by omega)
  have HD := hide (fun W hW => down_any H O W (swpP xs 0 n) hW 0 n 0 n rfl rfl (by rw [swpP_len]; omega) (pop_inv hh hl) (Nat.zero_le _))
  have HH := hide (And.intro H O)
  have HX := hide (And.intro hl hh)
  obtain ⟨x, hx⟩ : ∃ x, x = atP xs 0 := ⟨_, rfl⟩
  have HE := hide (fun zs => pop_end (zs := zs) O hh hl)
  rw [← hx] at HE
  rw [← hx]
  clear H O hR hl hh hx
  go_enter Try.func51, Try.ntmps51
  go_wp2_with (first | (go_at_fn fN; refine hlen.mono ?_; rintro e w1 ⟨rfl, hw1⟩; obtain rfl := hw1.symm) | (go_at_fn fS; refine hsw.mono ?_; rintro e w2 ⟨rfl, hR2, hC2⟩) | (go_at_call 57; refine (HD.out _ (by assumption)).mono ?_; rintro e w3 ⟨⟨b, rfl⟩, zs, hz⟩))
  have he := HE.out zs hz.2.2.1 hz.2.2.2
  obtain ⟨ys, hys⟩ : ∃ ys, ys = zs.take n := ⟨_, rfl⟩
  rw [← hys] at he
  have hR3 := hz.1
  rw [he.1] at hR3
  have hp := HH.out.1.pop w3 ys x hR3
  refine hp.mono ?_
  rintro e w4 ⟨rfl, hR4, hC4⟩
  have HF := hide (And.intro he.2 (HH.out.1.ctrans _ _ _ hC2 (HH.out.1.ctrans _ _ _ hz.2.1 hC4)))
  clear he hys hz hR3 hp hC2 hC4
  go_wp2
  go_ret
  exact ⟨rfl, ys, hR4, HF.out.2, HF.out.1.1, HF.out.1.2.1, HF.out.1.2.2⟩
end
end Go.Proofs.Ytcbgnmkipbhncaa
