/-
  THE WALKS of the keeper: rarest, keep, hasPartOf.
-/
import Derived.Test.YtcbgnmkipbhncaaKeeper
import Derived.Test.YtcbgnmkipbhncaaRefResolve
namespace Go.Proofs.Ytcbgnmkipbhncaa
open Go.RowKit Go.Maps
set_option linter.unusedSectionVars false
variable [Inhabited El]

theorem own_map_like {H : Type} {w W : World} {R : Value → Option (DataW H × List MemPlace)} {b n : Nat} {D : DataW H} (h : w.ownsMap Try.prog 3 R b n D) (e : W.heap = w.heap) : W.ownsMap Try.prog 3 R b n D := by
  unfold World.ownsMap at h ⊢
  rw [e]
  exact h
theorem cnt_look {w : World} {b n : Nat} {D : DataW Unit} (h : w.ownsMap Try.prog 3 (plainElem Try.prog 3) b n D) {m : Int} (hm : (Lit.int .i64 m).wf = true) :
    ∃ c, ∀ W : World, W.heap = w.heap → (Instr.lookup 65 (.map (some b)) (.int .i64 m) false).run Try.prog W = .ok (.int .i64 c) W := by
  obtain ⟨c, _, hat, _⟩ := h.lookup_int keyI Try.underlying65 Try.underlying3 (zeroInt w) (keyI_of hm)
  refine ⟨c, fun W e => ?_⟩
  obtain ⟨c', hrun, hat', _⟩ := (own_map_like h e).lookup_int keyI Try.underlying65 Try.underlying3 (zeroInt W) (keyI_of hm)
  rw [hat] at hat'
  cases hat'
  exact hrun

set_option maxRecDepth 100000 in
set_option maxHeartbeats 2000000 in
theorem rarest_any (kb cb : Nat) (a : Option Addr) (n c : Nat) (xs : List Int) (w : World) (h0 : w.cell? ⟨kb, 0, none⟩ = some (.map (some cb))) (hcnt : ∃ (nC : Nat) (DC : DataW Unit), w.ownsMap Try.prog 3 (plainElem Try.prog 3) cb nC DC) (hr : RowK .i64 w a xs) (hx : xs.length = n) (hn : n ≤ 1000) (hf : ∀ x ∈ xs, Fits x) :
    Calls Try.prog 56 #[.pointer (some ⟨kb, 0, none⟩), .slice a n c] w fun e w' => ∃ r : Int, e = .returned (.int .i64 r) ∧ (xs = [] → r = 0) ∧ (0 < xs.length → r ∈ xs) ∧ Drew w w' := by
  obtain ⟨nC, DC, hc⟩ := hcnt
  have HL := hide (fun m (hm : (Lit.int .i64 m).wf = true) => cnt_look hc hm)
  have HR := hide hr
  have HX := hide hx
  have HF := hide hf
  have HC := hide h0
  generalize hP : (fun (e : Ending) (w' : World) => ∃ r : Int, e = .returned (.int .i64 r) ∧ (xs = [] → r = 0) ∧ (0 < xs.length → r ∈ xs) ∧ Drew w w') = Post
  have HP := hide hP
  clear hr hx hf hP hc h0
  go_enter Try.func56, Try.ntmps56
  go_wp2
  go_loopw [5, 10] (fun b i wr => ∃ (k : Nat) (r : Int), i = .int .i64 k ∧ k ≤ n ∧ b = .int .i64 r ∧ Hid ((k = 0 → r = 0) ∧ (0 < k → r ∈ xs) ∧ Drew w wr)) (fun _ i _ => n - (intOf i).toNat)
  case atStart => exact ⟨0, 0, rfl, Nat.zero_le _, rfl, fun _ => rfl, fun h => absurd h (Nat.lt_irrefl _), Drew.refl w⟩
  case round =>
    obtain ⟨k, r, rfl, hk, rfl, HM⟩ := hrel
    by_cases hlt : k < n
    · obtain ⟨b, off, rfl, hbw, hcell⟩ := HR.out.addr (by rw [HX.out]; omega)
      have hc := (cell_heap HM.out.2.2.heap _).trans (hcell k (by rw [HX.out]; exact hlt))
      rw [atP_getD] at hc
      have hmem := atP_mem xs k (by rw [HX.out]; exact hlt)
      obtain ⟨y, HY⟩ : ∃ y, Hid (y = atP xs k) := ⟨_, rfl⟩
      rw [← HY.out] at hc hmem
      have hfy := HF.out y hmem
      have HMem := hide hmem
      have hk0 : wr.cell? ⟨kb, 0, none⟩ = some (.map (some cb)) := (cell_heap HM.out.2.2.heap _).trans HC.out
      have HD := hide HM.out.2.2
      clear hcell hmem
      by_cases h0 : k = 0
      · subst h0
        have hr0 := HM.out.1 rfl
        rw [Nat.add_zero] at hc
        clear HM
        subst hr0
        go_wp2
        go_quiet (fail)
        go_wp2
        go_roundw
        case rel => exact ⟨1, y, by go_num, by omega, rfl, fun h => by omega, fun _ => HMem.out, HD.out.trans ⟨_, rfl⟩⟩
        case measure => simp [intOf]; omega
      · have hrm := HM.out.2.1 (by omega)
        have hfr := HF.out r hrm
        have HRm := hide hrm
        have hr0 : (r == 0) = false := by rw [beq_eq_false_iff_ne]; exact hfr.1
        obtain ⟨c1, hl1⟩ := HL.out y (WalkArith.wf_i64 (n := y) (by have := hfy.2.1; have := hfy.2.2; omega))
        obtain ⟨c2, hl2⟩ := HL.out r (WalkArith.wf_i64 (n := r) (by have := hfr.2.1; have := hfr.2.2; omega))
        have hl1 : ∀ q, (Instr.lookup 65 (.map (some cb)) (.int .i64 y) false).run Try.prog (wr.drewN q) = .ok (.int .i64 c1) (wr.drewN q) := fun q => hl1 _ HD.out.heap
        have hl2 : ∀ q, (Instr.lookup 65 (.map (some cb)) (.int .i64 r) false).run Try.prog (wr.drewN q) = .ok (.int .i64 c2) (wr.drewN q) := fun q => hl2 _ HD.out.heap
        clear HM hrm hfr hfy
        by_cases hlc : c1 < c2
        · go_wp2
          go_quiet (fail)
          go_wp2
          go_roundw
          case rel => exact ⟨k + 1, y, by go_num, by omega, rfl, fun h => by omega, fun _ => HMem.out, HD.out.trans ⟨_, rfl⟩⟩
          case measure => simp [intOf]; omega
        · go_wp2
          go_quiet (fail)
          go_wp2
          go_roundw
          case rel => exact ⟨k + 1, r, by go_num, by omega, rfl, fun h => by omega, fun _ => HRm.out, HD.out.trans ⟨_, rfl⟩⟩
          case measure => simp [intOf]; omega
    · obtain rfl : k = n := by omega
      have hfin : Hid (Post (.returned (.int .i64 r)) wr) := by
        show Post (.returned (.int .i64 r)) wr
        rw [← HP.out]
        exact ⟨r, rfl, fun e => HM.out.1 (by rw [← HX.out, e]; rfl), fun h => HM.out.2.1 (by rw [← HX.out]; exact h), HM.out.2.2⟩
      go_wp2
      exact hfin.out
end Go.Proofs.Ytcbgnmkipbhncaa
