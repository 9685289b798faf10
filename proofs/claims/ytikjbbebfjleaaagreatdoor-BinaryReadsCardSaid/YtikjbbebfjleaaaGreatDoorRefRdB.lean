/-
  THE WALK of the reference's ReadBinary: which circuit any bytes are, or why they are none.
-/
import Derived.Test.YtikjbbebfjleaaaGreatDoorRefRdBP
namespace Go.Proofs.YtikjbbebfjleaaaGreatDoor
open Go.RowKit


set_option maxRecDepth 100000 in
set_option maxHeartbeats 40000000 in
theorem readBinary_any (a : Option Addr) (n c : Nat) (xs : List Int) (w : World) (h : Txt w a n c xs) :
    Calls Tryz.prog 22 #[.slice a n c] w (ReadPost gramB xs w) := by
  have hsz : (⟨#[97, 105, 103]⟩ : ByteArray).size ≤ 100 := by decide
  obtain ⟨hr0, hx0, hb0⟩ := rdR_new h
  have HBg := hide (refBegin_any (w.heap.size + 1) a n c xs ⟨#[97, 105, 103]⟩ hsz _ hr0)
  have HRE := hide (readB_eq xs (by have := h.len; have := h.small; omega))
  have BX0 := hide hx0
  have BL0 := hide hb0
  have HR0 := hide hr0
  unfold BegR at HBg
  rw [show (⟨#[97, 105, 103]⟩ : ByteArray).data.toList = [97, 105, 103] from rfl] at HBg
  clear hr0 hx0 hb0 hsz
  by_cases hE : begE [97, 105, 103] xs = 0
  · skip
    have hF := hdr_fit (beg_hdr hE)
    rw [if_pos hE] at HRE
    have HRd : Hid (gramB.read xs = if gramB.readE xs = 0 then gramB.circ xs else noCirc) := rfl
    have hcirc : (hdrL (restW [97, 105, 103] xs)).getD 0 0 = (hdrL (restW [97, 105, 103] xs)).getD 1 0 + (hdrL (restW [97, 105, 103] xs)).getD 2 0 + (hdrL (restW [97, 105, 103] xs)).getD 4 0 → gramB.circ xs = rCirc gramB xs (hdrL (restW [97, 105, 103] xs)) (lineS xs (some 0)).2 ∧ gramB.last xs = (rNames gramB xs (hdrL (restW [97, 105, 103] xs)) (lineS xs (some 0)).2).2 := fun hs => by
      have e : gramB.hL (gramB.rest xs) = hdrL (restW [97, 105, 103] xs) := hdrLB_eq (beg_hdr hE) hs
      exact ⟨by show rCirc gramB xs (gramB.hL (gramB.rest xs)) _ = _; rw [e], by show (rNames gramB xs (gramB.hL (gramB.rest xs)) _).2 = _; rw [e]⟩
    have HCi := hide hcirc
    have HSm := hide (circ_small gramB xs (hdrL (restW [97, 105, 103] xs)) (lineS xs (some 0)).2 hF (by have := h.len; have := h.small; omega))
    clear hcirc
    generalize hdrL (restW [97, 105, 103] xs) = H at *
    obtain ⟨j0, hj0⟩ := begB_some hE
    generalize (lineS xs (some 0)).2 = ST at *
    subst hj0
    have HE0 := hide hE
    have hT0 : 0 ≤ rTop H := by have := hF.pos 0; unfold rTop; omega
    have hT1 : rTop H ≤ 9223372036854775807 := by have := hF.b0; unfold rTop; omega
    obtain ⟨N0, hN0⟩ := nat_of (hF.pos 0)
    obtain ⟨N1, hN1⟩ := nat_of (hF.pos 1)
    obtain ⟨N2, hN2⟩ := nat_of (hF.pos 2)
    obtain ⟨N3, hN3⟩ := nat_of (hF.pos 3)
    obtain ⟨N4, hN4⟩ := nat_of (hF.pos 4)
    obtain ⟨N5, hN5⟩ := nat_of (hF.pos 5)
    obtain ⟨N6, hN6⟩ := nat_of (hF.pos 6)
    have b1 := hF.b1
    have b2 := hF.b2
    have b3 := hF.b3
    have b4 := hF.b4
    have b5 := hF.b5
    have b6 := hF.b6
    rw [hN1] at b1
    rw [hN2] at b2
    rw [hN3] at b3
    rw [hN4] at b4
    rw [hN5] at b5
    rw [hN6] at b6
    have HFi := hide hF
    have HOn := hide (fun st k (hk : k ≤ 10000) W (hr : RdR (w.heap.size + 1) a n c xs (rTop H) st W) => refOnes_any (w.heap.size + 1) a n c xs (rTop H) st W hr hT0 hT1 k hk)
    unfold OnesR at HOn
    have HTx := hide h.row
    have HTn : Hid (0 < n) := by
      have := begB_pos HE0.out
      have := h.len
      show 0 < n
      omega
    clear hF h hE
    go_enter Tryz.func22, Tryz.ntmps22
    go_wp2_with fail
    refine HBg.out.mono ?_
    rintro e w1 ⟨v, rfl, hcase⟩
    rcases hcase with ⟨-, ho, hw⟩ | ⟨h0, -⟩
    rotate_left
    · exact absurd HE0.out h0
    obtain ⟨hg, hcap, rfl, hcl, hge⟩ := ownI_at ho HFi.out.len (by decide)
    have BX : Hid (Box w1 w.heap.size cvN) := (hw.2.block w.heap.size BX0.out.lt (by omega) (by omega)).trans BX0.out
    have BL := hide (hw.2.below BL0.out (Nat.le_refl _) (Nat.le_succ _) (Nat.le_succ _))
    have RD := hide hw.1
    have HO9 : Hid (w1.ownsRow w.heap.size 3 1 (.slice (some ⟨hg, 0, none⟩) 9 hcap) 9 (H.map (Value.int .i64))) := own_le (by have := ho; unfold OwnI at this; rw [HFi.out.len] at this; exact this) (by simp; omega)
    have g0 := hcl 0 (by decide)
    have g1 := hcl 1 (by decide)
    have g2 := hcl 2 (by decide)
    have g4 := hcl 4 (by decide)
    rw [hN0] at g0
    rw [hN1] at g1
    rw [hN2] at g2
    rw [hN4] at g4
    have hl1 : hg < w1.heap.size := block_lt_of_cell g0
    clear HBg BX0 BL0 HR0 hw ho hcl
    obtain ⟨k1, hk1, c0, c1, c2, c3⟩ := RD.out.cells
    rw [show errR (some j0) = 0 from rfl] at c3
    clear hk1 c0 c1 c2
    obtain ⟨S, hS⟩ : ∃ S, S = N1 + N2 + N4 := ⟨_, rfl⟩
    obtain ⟨S2, hS2⟩ : ∃ S2, S2 = N1 + N2 := ⟨_, rfl⟩
    have s1 : (N1 : Int) + (N2 : Int) = (S2 : Int) := by omega
    have s2 : (S2 : Int) + (N4 : Int) = (S : Int) := by omega
    have s3 : S2 ≤ 10000 := by omega
    have s4 : S ≤ 10000 := by omega
    have HS0 : Hid (S = N1 + N2 + N4) := hS
    clear hS hS2
    go_upto_region 5 with fail
    go_quiet (fail)
    have RDd := hide (RD.out.below (Drew.below ⟨_, rfl⟩) : RdR (w.heap.size + 1) a n c xs (rTop H) (some j0) (w1.drewN nq))
    have BXd : Hid (Box (w1.drewN nq) w.heap.size cvN) := BX.out.below (Drew.below ⟨_, rfl⟩)
    have BLd : Hid (Below w.heap.size w (w1.drewN nq)) := belowThen BL.out (Drew.below ⟨_, rfl⟩)
    have HO9d : Hid ((w1.drewN nq).ownsRow w.heap.size 3 1 (.slice (some ⟨hg, 0, none⟩) 9 hcap) 9 (H.map (Value.int .i64))) := own_below HO9.out (Drew.below ⟨_, rfl⟩)
    have g0d : (w1.drewN nq).cell? ⟨hg, 0, none⟩ = some (.int .i64 N0) := g0
    have hlt1 : hg < (w1.drewN nq).heap.size := block_lt_of_cell g0d
    have hlt2 : w.heap.size < (w1.drewN nq).heap.size := Nat.lt_trans (Nat.lt_succ_self _) RDd.out.lt
    clear g0 g1 g2 g4 c3 RD BX BL HO9 s1 s2 s3 hl1 hge
    generalize w1.drewN nq = W1 at *
    clear w1
    by_cases hsum : N0 = S
    case neg =>
      have hne : ((N0 : Int) != (S : Int)) = true := by
        have : ¬ (N0 : Int) = (S : Int) := by omega
        simpa using this
      have hRE2 : gramB.readE xs = 2 := by
        rw [HRE.out, if_neg]
        rw [hN0, hN1, hN2, hN4]
        have := HS0.out
        omega
      have HR2 := hide hRE2
      clear hRE2 HCi HSm HOn g0d HO9d s4 HS0 HFi HRd HRE HTn RDd
      obtain ⟨z0, z1, z2, z3, z4, z5, z6, z7⟩ := BXd.out.cells
      simp only [cvN] at z0 z1 z2 z3 z4 z5 z6 z7
      have f0 := box_frozen BXd.out 0
      have f1 := box_frozen BXd.out 1
      have f2 := box_frozen BXd.out 2
      have f3 := box_frozen BXd.out 3
      have f4 := box_frozen BXd.out 4
      have f5 := box_frozen BXd.out 5
      have f6 := box_frozen BXd.out 6
      have f7 := box_frozen BXd.out 7
      go_wp2
      have hb := hide (box_put cvN BXd.out)
      have hbel := hide ((two_put W1 w.heap.size cvN).below BLd.out (Nat.le_refl _) (Nat.le_refl _) (Nat.le_refl _))
      show bodyPost _ _ _ _ _ (putBox W1 w.heap.size cvN)
      generalize (putBox W1 w.heap.size cvN) = Wf at *
      obtain ⟨r0, r1, r2, r3, r4, r5, r6, r7⟩ := hb.out.cells
      simp only [cvN] at r0 r1 r2 r3 r4 r5 r6 r7
      clear z0 z1 z2 z3 z4 z5 z6 z7 f0 f1 f2 f3 f4 f5 f6 f7
      refine bodyPost_ret (v := .tuple #[.agg #[.int .i64 0, .slice none 0 0, .slice none 0 0, .slice none 0 0, .slice none 0 0, .slice none 0 0, .slice none 0 0, .slice none 0 0], .int .i64 2]) (by simp [results, Tryz.results22, go_sem, *]) rfl ?_
      exact ⟨cvN, by rw [HR2.out]; rfl, by unfold Gram.read; rw [HR2.out, if_neg (by decide)]; exact holdsN _, ⟨by decide, by decide, by decide, by decide, by decide, by decide, by decide⟩, aboveN _, hbel.out⟩
    case pos =>
      have hN0S : H.getD 0 0 = H.getD 1 0 + H.getD 2 0 + H.getD 4 0 := by
        rw [hN0, hN1, hN2, hN4]
        have := HS0.out
        omega
      obtain ⟨hci, hla⟩ := HCi.out hN0S
      rw [if_pos hN0S, hci, hla] at HRE
      rw [hci] at HRd
      clear hci hla hN0S HCi s4
      subst hsum
      go_upto_region 7 with fail
      go_cut [6] from 7 to 225 (fun v wx => ∃ lc : Nat, v = .pointer (some ⟨lc, 0, none⟩) ∧ Hid (hg < lc) ∧ Hid (RX w a n c xs hg hcap H lc ⟨(N0 : Int), [], [], [], [], [], [], []⟩ ⟨(N0 : Int), none, 0, 0, none, 0, 0, none, 0, 0, none, 0, 0, none, 0, 0, none, 0, 0, none, 0, 0⟩ (some j0) wx))
      case first =>
        rename_i J K2 hJ hK
        have hMK : ∀ a w, J a w → K2 a w := fun a w h => hK a w (Met.intro h)
        clear hK
        go_light
        have hRX : Hid (RX w a n c xs hg hcap H W1.heap.size ⟨(N0 : Int), [], [], [], [], [], [], []⟩ ⟨(N0 : Int), none, 0, 0, none, 0, 0, none, 0, 0, none, 0, 0, none, 0, 0, none, 0, 0, none, 0, 0⟩ (some j0) (W1.alloc (.cells #[.int .i64 (N0 : Int), .slice none 0 0, .slice none 0 0, .slice none 0 0, .slice none 0 0, .slice none 0 0, .slice none 0 0, .slice none 0 0] 29))) :=
          rx_start (L := []) (RDd.out.below (below_alloc W1 _)) (BXd.out.alloc _) (own_below HO9d.out (below_alloc W1 _)) (Nat.le_refl _) (World.ownsRow_nil _ _ _ _) (belowThen BLd.out (below_alloc W1 _)) HTx.out hlt2 (box_new W1 ⟨(N0 : Int), none, 0, 0, none, 0, 0, none, 0, 0, none, 0, 0, none, 0, 0, none, 0, 0, none, 0, 0⟩)
        clear HRE HRd HSm HE0 HOn HFi RDd BXd BLd HO9d
        go_wp2
        (repeat apply Exists.intro)
        refine ⟨?_, rfl⟩
        refine ⟨W1.heap.size, rfl, hlt1, ?_⟩
        exact hRX
      case rest =>
        obtain ⟨lc, rfl, HLt, HX0⟩ := hcut
        rename_i KR hKR
        refine hKR _ _ ?_
        refine wp_seq_k (fun KS hKS => ?_)
        go_cut [7] from 53 to 225 (fun i wx => ∃ (d : CV), Hid (RX w a n c xs hg hcap H lc ⟨(N0 : Int), (insL N1), [], [], [], [], [], []⟩ d (some j0) wx))
        case first =>
          rename_i J K2 hJ hK
          have hMK : ∀ a w, J a w → K2 a w := fun a w h => hK a w (Met.intro h)
          clear hK
          go_light
          clear HRE HRd HSm HE0 HOn RDd BXd BLd HO9d g0d
          go_wp2
          go_loopw [7] (fun i wr => ∃ (k : Nat) (A : Option Addr) (K : Nat), i = .int .i64 ((k + 1 : Nat) : Int) ∧ k ≤ N1 ∧ Hid (RX w a n c xs hg hcap H lc ⟨(N0 : Int), (insL k), [], [], [], [], [], []⟩ ⟨(N0 : Int), A, k, K, none, 0, 0, none, 0, 0, none, 0, 0, none, 0, 0, none, 0, 0, none, 0, 0⟩ (some j0) wr) ∧ Hid (wr.ownsRow lc 3 1 (.slice A k K) k ((insL k).map (Value.int .i64)))) (fun i _ => (N1 + 1) - (intOf i).toNat)
          case atStart => exact ⟨0, none, 0, rfl, Nat.zero_le _, HX0, World.ownsRow_nil _ _ _ _⟩
          case round =>
            obtain ⟨k, A, K, rfl, hk, HX, HO⟩ := hrel
            have g1 := HX.out.rr.hd HFi.out.len 1 (by decide)
            rw [hN1] at g1
            obtain ⟨p, hp⟩ : ∃ p : Nat, p = k + 1 := ⟨_, rfl⟩
            rw [← hp]
            by_cases hex : k < N1
            · have hpI : (p : Int) ≤ (N1 : Int) := by omega
              have hqk : Hid (2 * (p : Int) = 2 * (1 + (k : Int))) := by show 2 * (p : Int) = 2 * (1 + (k : Int)); omega
              have hpk : Hid (p = k + 1) := hp
              have hlb : Hid (∀ o, lc ≤ (wr.alloc o).heap.size) := fun o => by have := HX.out.rr.box.lt; simp; omega
              have HPu : Hid (∀ o w4 A4 K4, (wr.alloc o).grownBy w4 (Value.slice A k K).ownBlock → w4.ownsRow lc 3 1 (.slice A4 (k + 1) K4) (k + 1) ((insL k).map (Value.int .i64) ++ [2 * (p : Int)].map (Value.int .i64)) → (RX w a n c xs hg hcap H lc ⟨(N0 : Int), (insL (k + 1)), [], [], [], [], [], []⟩ ⟨(N0 : Int), A4, (k + 1), K4, none, 0, 0, none, 0, 0, none, 0, 0, none, 0, 0, none, 0, 0, none, 0, 0⟩ (some j0) (w4.setCell ⟨lc, 1, none⟩ (.slice A4 (k + 1) K4)) ∧ Box w4 lc ⟨(N0 : Int), A, k, K, none, 0, 0, none, 0, 0, none, 0, 0, none, 0, 0, none, 0, 0, none, 0, 0⟩) ∧ w4.ownsRow lc 3 1 (.slice A4 (k + 1) K4) (k + 1) ((insL (k + 1)).map (Value.int .i64))) := fun o w4 A4 K4 hg4 ho4 => by
                have ho5 : w4.ownsRow lc 3 1 (.slice A4 (k + 1) K4) (k + 1) ((insL (k + 1)).map (Value.int .i64)) := by
                  rw [insL, List.map_append, ← hqk.out]; exact ho4
                exact ⟨RX.in HX.out HLt.out HX.out.rr.lb HO.out hg4 ho5, ho5⟩
              have q1 := HX.out.rr.box.cells.2.1
              have hk63 : Hid (k + 1 ≤ 10001) := by show k + 1 ≤ 10001; omega
              clear hp
              obtain ⟨i0, hi, hz0, hz1, hz2⟩ := info_parts infoInt
              go_wp2_with (first | (at_builtin; refine wpList_append_row _ rfl (.tmp 61) (.tmp 64) 24 rfl .i64 lc 3 i0 (.int .i64 0) 8 Tryz.underlying24 hi hz0 hz1 hz2 rfl _ k _ rfl (own_below HO.out (below_alloc wr _)) (some ⟨wr.heap.size, 0, none⟩) 1 1 [2 * (p : Int)] rfl rfl (rowI_new wr _) (fun e => by cases e) (by have := hk63.out; unfold maxLen; omega) (by have := hk63.out; omega) (hlb.out _) ?_; intro v4 w4 hown4 hg4; obtain ⟨A4, K4, rfl⟩ := own_is hown4; obtain ⟨⟨hr4, hbx⟩, ho5⟩ := HPu.out _ w4 A4 K4 hg4 hown4; have HR4 := hide hr4; have hq4 := hbx.cells.2.1; have hf4 := box_frozen hbx 1; have HO5 : Hid ((w4.setCell ⟨lc, 1, none⟩ (.slice A4 (k + 1) K4)).ownsRow lc 3 1 (.slice A4 (k + 1) K4) (k + 1) ((insL (k + 1)).map (Value.int .i64))) := own_cellQ ho5 hbx (by decide); clear hr4 hbx ho5 hown4 hg4))
              go_roundw
              case rel => exact ⟨k + 1, A4, K4, by rw [hpk.out]; go_num, by omega, HR4, HO5⟩
              case measure => have := hpk.out; simp [intOf]; omega
            · obtain rfl : k = N1 := by omega
              have hpI : ¬ (p : Int) ≤ (k : Int) := by omega
              clear hp
              go_wp2
              (repeat apply Exists.intro)
              refine ⟨?_, rfl⟩
              exact ⟨_, HX⟩
        case rest =>
          obtain ⟨d, HX0'⟩ := hcut
          have e1 : rIns gramB xs H (some j0) = (insL N1, some j0) := by unfold rIns; rw [hN1]; exact insB_items xs (rTop H) (some j0) N1
          have e2 : (rIns gramB xs H (some j0)).2 = some j0 := by rw [e1]
          rw [← e2] at HX0'
          have HX1 := HX0'
          have HOk1 : Hid (OkL (rIns gramB xs H (some j0)).2 (insL N1) (rIns gramB xs H (some j0)).1) := fun _ => by rw [e1]
          have HLl1 : Hid ((insL N1).length ≤ N1) := Nat.le_of_eq (insL_len N1)
          clear e1 e2 HX0' HX0 RDd BXd BLd HO9d g0d
          generalize insL N1 = L at *
          obtain ⟨P2, hP2⟩ : ∃ P2 : Nat → List Tri × Option Nat, P2 = fun k => itemsS (fun i => latB xs (rTop H) (2 * (1 + H.getD 1 0 + (i : Int)))) (rIns gramB xs H (some j0)).2 k := ⟨_, rfl⟩
          have HP0 : Hid (P2 0 = ([], (rIns gramB xs H (some j0)).2)) := by rw [hP2]; exact rfl
          have HPn : Hid (∀ k, (P2 k).2 = none → ∀ m, k ≤ m → (P2 m).2 = none) := fun k hk m hm => by rw [hP2] at hk ⊢; exact itemsS_stuck (fun n => latB_none xs (rTop H) _) hk m hm
          have HPs : Hid (∀ k j, (P2 k).2 = some j → (P2 (k + 1)).2 = (rowS xs (rTop H) 1 2 (some j)).2 ∧ ((rowS xs (rTop H) 1 2 (some j)).2.isSome = true → 1 ≤ (rowL xs (rTop H) 1 2 (some j)).length ∧ (rowL xs (rTop H) 1 2 (some j)).length ≤ 2 ∧ (P2 (k + 1)).1 = (P2 k).1 ++ [(2 * (1 + H.getD 1 0 + (k : Int)), (rowL xs (rTop H) 1 2 (some j) ++ [0]).getD 0 0, (rowL xs (rTop H) 1 2 (some j) ++ [0]).getD 1 0)])) := fun k j hk => by
            obtain ⟨q1, q2⟩ := latB_row xs (rTop H) (2 * (1 + H.getD 1 0 + (k : Int))) j
            rw [hP2] at hk ⊢
            dsimp only at hk ⊢
            refine ⟨by rw [itemsS, hk]; exact q1, fun hs => ⟨(q2 hs).1, (q2 hs).2.1, by rw [itemsS, hk, (q2 hs).2.2]⟩⟩
          have HPe : Hid (rLats gramB xs H (some j0) = P2 N2) := by rw [hP2]; unfold rLats; rw [hN2]; exact rfl
          have HS1 := hide (congrArg Prod.snd HP0.out)
          dsimp only at HS1
          clear hP2
          generalize hR1 : rIns gramB xs H (some j0) = R1 at *
          refine hKS _ _ ?_
          refine wp_seq_k (fun KT hKT => ?_)
          go_cut [8, 9] from 67 to 225 (fun i r wx => ∃ (L2 : List Tri) (d2 : CV), Hid (RX w a n c xs hg hcap H lc ⟨(N0 : Int), L, L2, [], [], [], [], []⟩ d2 (P2 N2).2 wx) ∧ Hid (OkL (P2 N2).2 L2 (P2 N2).1) ∧ Hid (L2.length ≤ N2))
          case first =>
            rename_i J K2 hJ hK
            have hMK : ∀ a w, J a w → K2 a w := fun a w h => hK a w (Met.intro h)
            clear hK
            go_light
            clear HRE HRd HSm HE0 HOn HTx
            go_wp2
            go_loopw [8, 9] (fun i _ wr => ∃ (k : Nat) (L2 : List Tri) (d2 : CV), i = .int .i64 k ∧ k ≤ N2 ∧ Hid (RX w a n c xs hg hcap H lc ⟨(N0 : Int), L, L2, [], [], [], [], []⟩ d2 (P2 k).2 wr) ∧ Hid (OkL (P2 k).2 L2 (P2 k).1) ∧ Hid (L2.length ≤ k)) (fun i _ _ => N2 - (intOf i).toNat)
            case atStart =>
              refine ⟨0, [], d, rfl, Nat.zero_le _, ?_, ?_, Nat.le_refl _⟩
              · rw [HS1.out]; exact HX1
              · intro _; rw [HP0.out]
            case round => as_aux_lemma =>
              obtain ⟨k, L2, d2, rfl, hk, HX, HOk, HLl⟩ := hrel
              have g2 := HX.out.rr.hd HFi.out.len 2 (by decide)
              rw [hN2] at g2
              obtain ⟨kk, hkk, c0, c1, c2, c3⟩ := HX.out.rr.rd.cells
              by_cases hex : k < N2 ∧ (P2 k).2.isSome = true
              · obtain ⟨hlt, hso⟩ := hex
                obtain ⟨j, hj⟩ := Option.isSome_iff_exists.1 hso
                rw [hj] at HX c3
                rw [show errR (some j) = 0 from rfl] at c3
                have HRow := hide (refRow_any (w.heap.size + 1) a n c xs (rTop H) (some j) 1 2 wr HX.out.rr.rd (by decide) (by decide) hT0 hT1)
                obtain ⟨q1, q2⟩ := HPs.out k j hj
                have Q1 := hide q1
                have Q2 := hide q2
                have hkI : (k : Int) < (N2 : Int) := by omega
                have hR3 := rowL_le xs (rTop H) 1 2 (some j)
                clear c0 c1 c2 hkk hso q1 q2 HPs HP0 HPn
                obtain ⟨i0, hi, hz0, hz1, hz2⟩ := info_parts infoInt
                go_wp2_with fail
                refine HRow.out.mono ?_
                rintro e w3 ⟨v3, rfl, ho3, hw3⟩
                unfold OwnI at ho3
                generalize rowL xs (rTop H) 1 2 (some j) = R at *
                generalize (rowS xs (rTop H) 1 2 (some j)).2 = sj at *
                clear HRow g2 c3
                cases sj with
                | none =>
                  go_wp2_with (first | (at_builtin; refine wpList_append_row _ rfl (.tmp 82) (.tmp 83) 24 rfl .i64 wr.heap.size 3 i0 (.int .i64 0) 8 Tryz.underlying24 hi hz0 hz1 hz2 rfl _ _ _ rfl (own_below ho3 (below_alloc w3 _)) (some ⟨w3.heap.size, 0, none⟩) 1 1 [0] rfl rfl (rowI_new w3 0) (fun e => by cases e) (by unfold maxLen; omega) (by omega) (Nat.le_trans hw3.2.size (below_alloc w3 _).size) ?_; intro v4 w4 hown4 hg4; have HX4 := hide (HX.out.went (went_on HX.out.rr.rd hw3 ((Below.grown (Below.grown (Below.refl _ w3) (World.grownBy_alloc w3 _ none) hw3.2.size (fun k hk => by cases hk)) hg4 (Nat.le_trans hw3.2.size (below_alloc w3 _).size) (fun k hk => (ho3.lt k hk).1))))); obtain ⟨k4, hk4, c0, c1, c2, c3⟩ := HX4.out.rr.rd.cells; clear hk4 c0 c1 c2; rw [show errR none = 2 from rfl] at c3))
                  go_roundw
                  case rel => exact ⟨k + 1, L2, d2, by go_num, by omega, by rw [Q1.out]; exact HX4, (fun e => by rw [Q1.out] at e; cases e), Nat.le_succ_of_le HLl.out⟩
                  case measure => simp [intOf]; omega
                | some j1 =>
                  go_wp2_with (first | (at_builtin; refine wpList_append_row _ rfl (.tmp 82) (.tmp 83) 24 rfl .i64 wr.heap.size 3 i0 (.int .i64 0) 8 Tryz.underlying24 hi hz0 hz1 hz2 rfl _ _ _ rfl (own_below ho3 (below_alloc w3 _)) (some ⟨w3.heap.size, 0, none⟩) 1 1 [0] rfl rfl (rowI_new w3 0) (fun e => by cases e) (by unfold maxLen; omega) (by omega) (Nat.le_trans hw3.2.size (below_alloc w3 _).size) ?_; intro v4 w4 hown4 hg4; have HX4 := hide (HX.out.went (went_on HX.out.rr.rd hw3 ((Below.grown (Below.grown (Below.refl _ w3) (World.grownBy_alloc w3 _ none) hw3.2.size (fun k hk => by cases hk)) hg4 (Nat.le_trans hw3.2.size (below_alloc w3 _).size) (fun k hk => (ho3.lt k hk).1))))); obtain ⟨k4, hk4, c0, c1, c2, c3⟩ := HX4.out.rr.rd.cells; clear hk4 c0 c1 c2; rw [show errR (some j1) = 0 from rfl] at c3))
                  clear hg4 ho3 hw3
                  have hqs := Q2.out rfl
                  have hown5 : OwnI wr.heap.size w4 v4 (R ++ [0]) := by unfold OwnI; rw [List.length_append, List.map_append]; exact hown4
                  have hlen5 : (R ++ [0]).length = R.length + 1 := by rw [List.length_append]; rfl
                  obtain ⟨lg, cap4, rfl, hcl4, hge4⟩ := ownI_at hown5 hlen5 (Nat.succ_pos _)
                  have x0c := hcl4 0 (by omega)
                  have x1c := hcl4 1 (by omega)
                  have h1c : w4.cell? ⟨hg, 1, none⟩ = some (.int .i64 N1) := by
                    have := HX4.out.rr.hd HFi.out.len 1 (by decide)
                    rw [hN1] at this
                    exact this
                  have hLen : L2.length ≤ k := HLl.out
                  have hn2 : d2.n2 = L2.length := by
                    have h1 : L2.length * 3 = d2.n2 * 3 := by have := HX4.out.rr.o2.1; rw [cellsT_len] at this; exact this
                    omega
                  obtain ⟨LT, hLT⟩ : ∃ LT : Nat, LT = 2 * (1 + N1 + k) := ⟨_, rfl⟩
                  have hLI : 2 * (1 + H.getD 1 0 + (k : Int)) = (LT : Int) := by rw [hN1]; omega
                  have HOk2 : Hid ((P2 (k + 1)).1 = L2 ++ [((LT : Int), (R ++ [0]).getD 0 0, (R ++ [0]).getD 1 0)]) := by
                    show _ = _
                    rw [hqs.2.2, ← HOk.out (by rw [hj]; rfl), hLI]
                  have hlr := hqs.1
                  generalize (R ++ [0]).getD 0 0 = x0 at *
                  generalize (R ++ [0]).getD 1 0 = x1 at *
                  have HNq : Hid (lc ≠ lg) := fun e => own_ne_box hown4 HX4.out.rr.box (by decide) (by rw [e]; rfl)
                  have HNh : Hid (lc ≠ hg) := fun e => own_ne_box HX4.out.rr.oh HX4.out.rr.box (by decide) (by rw [e]; rfl)
                  have HNe : Hid (some lg ≠ (Value.slice d2.a2 d2.n2 d2.c2).ownBlock) := by
                    rcases own_ne_own hown4 HX4.out.rr.o2 (by decide) with h0 | h0
                    · cases h0
                    · exact h0
                  have HNg : Hid (some hg ≠ (Value.slice d2.a2 d2.n2 d2.c2).ownBlock) := by
                    rcases own_ne_own HX4.out.rr.oh HX4.out.rr.o2 (by decide) with h0 | h0
                    · cases h0
                    · exact h0
                  generalize hm : R.length + 1 = m at *
                  have hm0 : 0 < m := by omega
                  have hm1 : (1 : Int) < (m : Int) := by omega
                  obtain ⟨M1, hM1⟩ : ∃ M1 : Nat, M1 = N1 + 1 := ⟨_, rfl⟩
                  obtain ⟨M2, hM2⟩ : ∃ M2 : Nat, M2 = M1 + k := ⟨_, rfl⟩
                  have a1 : (N1 : Int) + 1 = (M1 : Int) := by omega
                  have a2 : (M1 : Int) + (k : Int) = (M2 : Int) := by omega
                  have a3 : 2 * (M2 : Int) = (LT : Int) := by omega
                  have a4 : IntKind.i64.wrap (2 * (M2 : Int)) = (LT : Int) := by rw [IntKind.wrap_i64]; omega
                  have aw1 : IntKind.i64.wrap (M1 : Int) = (M1 : Int) := by rw [IntKind.wrap_i64]; omega
                  have aw2 : IntKind.i64.wrap (M2 : Int) = (M2 : Int) := by rw [IntKind.wrap_i64]; omega
                  have aw3 : IntKind.i64.wrap (LT : Int) = (LT : Int) := by rw [IntKind.wrap_i64]; omega
                  have a5 : M1 ≤ 10001 := by omega
                  have a6 : M2 ≤ 20001 := by omega
                  have HT3 := hide (And.intro x0c (And.intro x1c h1c))
                  have HTa : Hid (∀ o, (w4.alloc o).drew.cell? ⟨lg, 0, none⟩ = some (.int .i64 x0) ∧ (w4.alloc o).drew.cell? ⟨lg, 1, none⟩ = some (.int .i64 x1) ∧ (w4.alloc o).drew.cell? ⟨hg, 1, none⟩ = some (.int .i64 N1)) := fun o => mix_belowB HT3.out (belowThen (below_alloc w4 o) (Drew.below ⟨1, rfl⟩))
                  obtain ⟨i2, hi2, hy0, hy1, hy2⟩ := info_parts infoLatR
                  have hd : w4.drew.cell? ⟨lc, 2, none⟩ = some (.slice d2.a2 d2.n2 d2.c2) := HX4.out.rr.box.cells.2.2.1
                  have hda : ∀ o, (w4.alloc o).drew.cell? ⟨lc, 2, none⟩ = some (.slice d2.a2 d2.n2 d2.c2) := fun o => ((HX4.out.then (below_alloc w4 o)).rr.box.cells).2.2.1
                  have HO : Hid (∀ o, (w4.alloc o).drew.ownsRow w.heap.size 73 3 (.slice d2.a2 d2.n2 d2.c2) d2.n2 (cellsT L2)) := fun o => (HX4.out.then (below_alloc w4 o)).rr.o2
                  have HSz : Hid (∀ o, w.heap.size ≤ (w4.alloc o).drew.heap.size) := fun o => (HX4.out.then (below_alloc w4 o)).rr.below.size
                  have HPu : Hid (∀ o w5 A5 K5, (w4.drew.alloc o).grownBy w5 (Value.slice d2.a2 d2.n2 d2.c2).ownBlock → w5.ownsRow w.heap.size 73 3 (.slice A5 (d2.n2 + 1) K5) (d2.n2 + 1) (cellsT L2 ++ [.int .i64 (LT : Int), .int .i64 x0, .int .i64 x1]) → RX w a n c xs hg hcap H lc ⟨(N0 : Int), L, L2 ++ [((LT : Int), x0, x1)], [], [], [], [], []⟩ { d2 with a2 := A5, n2 := d2.n2 + 1, c2 := K5 } (some j1) (w5.setCell ⟨lc, 2, none⟩ (.slice A5 (d2.n2 + 1) K5)) ∧ Box w5 lc d2) := fun o w5 A5 K5 hg' ho =>
                    RX.lat (W := w4.drew) (HX4.out.then (Drew.below ⟨1, rfl⟩)) (o := o) hg' (by rw [cellsT_append]; exact ho)
                  have HXx : Hid (d2.n2 + 1 ≤ maxLen) := by show d2.n2 + 1 ≤ maxLen; unfold maxLen; omega
                  have HY : Hid ((d2.n2 + 1) * 24 ≤ 140737488355328) := by show (d2.n2 + 1) * 24 ≤ 140737488355328; omega
                  have HOne : Hid (∀ u ∈ [Value.int .i64 (LT : Int), .int .i64 x0, .int .i64 x1], u.oneCell' = true) := fun u hu => by simp at hu; rcases hu with rfl | rfl | rfl <;> rfl
                  clear hown4 hown5 hcl4 hge4 hqs HOk HX4 x0c x1c h1c c3 hi hz0 hz1 hz2 hn2 hlen5 hm hj Q2 hLT hLI hM1 hM2
                  refine wp_region_held_drew (S := fun w' => w'.cell? ⟨lg, 0, none⟩ = some (.int .i64 x0) ∧ w'.cell? ⟨lg, 1, none⟩ = some (.int .i64 x1) ∧ w'.cell? ⟨hg, 1, none⟩ = some (.int .i64 N1)) (by kernel_rfl) HT3.out (fun hHeld => ?_)
                  refine wpAnyH_take (i := 0) (oi := { dst := some 90, op := Op.fieldAddr 29 (Operand.tmp 6) 2, type := 0, pos := "text.go:174", after := #[], guard := none }) (v := ?_) rfl (by kernel_rfl) (by kernel_rfl) (by kernel_rfl) (fun _ _ _ h => h) (Or.inl ⟨by rfl, ?_⟩) (by assumption) ?_
                  rotate_left
                  · (intro w0 hSw; (try dsimp only at hSw); go_simp; try with_reducible rfl)
                  try simp only [Act.put, List.setIfInBounds_toArray, List.set_cons_zero, List.set_cons_succ]
                  refine wpAnyH_take (i := 2) (oi := { dst := some 92, op := Op.move (Operand.tmp 5), type := 24, pos := "text.go:174", after := #[], guard := none }) (v := ?_) rfl (by kernel_rfl) (by kernel_rfl) (by kernel_rfl) (fun _ _ _ h => h) (Or.inl ⟨by rfl, ?_⟩) (by assumption) ?_
                  rotate_left
                  · (intro w0 hSw; (try dsimp only at hSw); go_simp; try with_reducible rfl)
                  try simp only [Act.put, List.setIfInBounds_toArray, List.set_cons_zero, List.set_cons_succ]
                  refine wpAnyH_take (i := 3) (oi := { dst := some 93, op := Op.indexAddr 24 (Operand.tmp 92) (Operand.const (Value.int IntKind.i64 1)), type := 0, pos := "text.go:174", after := #[{ on := 2, ground := Ground.data }], guard := none }) (v := ?_) rfl (by kernel_rfl) (by kernel_rfl) (by kernel_rfl) (fun _ _ _ h => h) (Or.inl ⟨by rfl, ?_⟩) (by assumption) ?_
                  rotate_left
                  · (intro w0 hSw; (try dsimp only at hSw); go_simp; try with_reducible rfl)
                  try simp only [Act.put, List.setIfInBounds_toArray, List.set_cons_zero, List.set_cons_succ]
                  refine wpAnyH_take (i := 4) (oi := { dst := some 94, op := Op.load 3 (Operand.tmp 93), type := 3, pos := "text.go:174", after := #[{ on := 3, ground := Ground.data }], guard := none }) (v := ?_) rfl (by kernel_rfl) (by kernel_rfl) (by kernel_rfl) (fun _ _ _ h => h) (Or.inl ⟨by rfl, ?_⟩) (by assumption) ?_
                  rotate_left
                  · (intro w0 hSw; (try dsimp only at hSw); go_simp; try with_reducible rfl)
                  try simp only [Act.put, List.setIfInBounds_toArray, List.set_cons_zero, List.set_cons_succ]
                  refine wpAnyH_take (i := 5) (oi := { dst := some 95, op := Op.binOp BinOp.add 3 (Operand.tmp 94) (Operand.const (Value.int IntKind.i64 1)) 3, type := 3, pos := "text.go:174", after := #[{ on := 4, ground := Ground.data }], guard := none }) (v := ?_) rfl (by kernel_rfl) (by kernel_rfl) (by kernel_rfl) (fun _ _ _ h => h) (Or.inl ⟨by rfl, ?_⟩) (by assumption) ?_
                  rotate_left
                  · (intro w0 hSw; (try dsimp only at hSw); go_simp; try with_reducible rfl)
                  try simp only [Act.put, List.setIfInBounds_toArray, List.set_cons_zero, List.set_cons_succ]
                  refine wpAnyH_take (i := 6) (oi := { dst := some 96, op := Op.move (Operand.tmp 8), type := 3, pos := "text.go:174", after := #[], guard := none }) (v := ?_) rfl (by kernel_rfl) (by kernel_rfl) (by kernel_rfl) (fun _ _ _ h => h) (Or.inl ⟨by rfl, ?_⟩) (by assumption) ?_
                  rotate_left
                  · (intro w0 hSw; (try dsimp only at hSw); go_simp; try with_reducible rfl)
                  try simp only [Act.put, List.setIfInBounds_toArray, List.set_cons_zero, List.set_cons_succ]
                  refine wpAnyH_take (i := 7) (oi := { dst := some 97, op := Op.binOp BinOp.add 3 (Operand.tmp 95) (Operand.tmp 96) 3, type := 3, pos := "text.go:174", after := #[{ on := 5, ground := Ground.data }, { on := 6, ground := Ground.data }], guard := none }) (v := ?_) rfl (by kernel_rfl) (by kernel_rfl) (by kernel_rfl) (fun _ _ _ h => h) (Or.inl ⟨by rfl, ?_⟩) (by assumption) ?_
                  rotate_left
                  · (intro w0 hSw; (try dsimp only at hSw); go_simp; try with_reducible rfl)
                  try simp only [Act.put, List.setIfInBounds_toArray, List.set_cons_zero, List.set_cons_succ]
                  refine wpAnyH_take (i := 8) (oi := { dst := some 98, op := Op.binOp BinOp.mul 3 (Operand.const (Value.int IntKind.i64 2)) (Operand.tmp 97) 3, type := 3, pos := "text.go:174", after := #[{ on := 7, ground := Ground.data }], guard := none }) (v := ?_) rfl (by kernel_rfl) (by kernel_rfl) (by kernel_rfl) (fun _ _ _ h => h) (Or.inl ⟨by rfl, ?_⟩) (by assumption) ?_
                  rotate_left
                  · (intro w0 hSw; (try dsimp only at hSw); go_simp; try with_reducible rfl)
                  try simp only [Act.put, List.setIfInBounds_toArray, List.set_cons_zero, List.set_cons_succ]
                  refine wpAnyH_take (i := 9) (oi := { dst := some 99, op := Op.move (Operand.tmp 9), type := 24, pos := "text.go:174", after := #[], guard := none }) (v := ?_) rfl (by kernel_rfl) (by kernel_rfl) (by kernel_rfl) (fun _ _ _ h => h) (Or.inl ⟨by rfl, ?_⟩) (by assumption) ?_
                  rotate_left
                  · (intro w0 hSw; (try dsimp only at hSw); go_simp; try with_reducible rfl)
                  try simp only [Act.put, List.setIfInBounds_toArray, List.set_cons_zero, List.set_cons_succ]
                  refine wpAnyH_take (i := 10) (oi := { dst := some 100, op := Op.indexAddr 24 (Operand.tmp 99) (Operand.const (Value.int IntKind.i64 0)), type := 0, pos := "text.go:174", after := #[{ on := 9, ground := Ground.data }], guard := none }) (v := ?_) rfl (by kernel_rfl) (by kernel_rfl) (by kernel_rfl) (fun _ _ _ h => h) (Or.inl ⟨by rfl, ?_⟩) (by assumption) ?_
                  rotate_left
                  · (intro w0 hSw; (try dsimp only at hSw); go_simp; try with_reducible rfl)
                  try simp only [Act.put, List.setIfInBounds_toArray, List.set_cons_zero, List.set_cons_succ]
                  refine wpAnyH_take (i := 11) (oi := { dst := some 101, op := Op.load 3 (Operand.tmp 100), type := 3, pos := "text.go:174", after := #[{ on := 10, ground := Ground.data }], guard := none }) (v := ?_) rfl (by kernel_rfl) (by kernel_rfl) (by kernel_rfl) (fun _ _ _ h => h) (Or.inl ⟨by rfl, ?_⟩) (by assumption) ?_
                  rotate_left
                  · (intro w0 hSw; (try dsimp only at hSw); go_simp; try with_reducible rfl)
                  try simp only [Act.put, List.setIfInBounds_toArray, List.set_cons_zero, List.set_cons_succ]
                  refine wpAnyH_take (i := 12) (oi := { dst := some 102, op := Op.move (Operand.tmp 9), type := 24, pos := "text.go:174", after := #[], guard := none }) (v := ?_) rfl (by kernel_rfl) (by kernel_rfl) (by kernel_rfl) (fun _ _ _ h => h) (Or.inl ⟨by rfl, ?_⟩) (by assumption) ?_
                  rotate_left
                  · (intro w0 hSw; (try dsimp only at hSw); go_simp; try with_reducible rfl)
                  try simp only [Act.put, List.setIfInBounds_toArray, List.set_cons_zero, List.set_cons_succ]
                  refine wpAnyH_take (i := 13) (oi := { dst := some 103, op := Op.indexAddr 24 (Operand.tmp 102) (Operand.const (Value.int IntKind.i64 1)), type := 0, pos := "text.go:174", after := #[{ on := 12, ground := Ground.data }], guard := none }) (v := ?_) rfl (by kernel_rfl) (by kernel_rfl) (by kernel_rfl) (fun _ _ _ h => h) (Or.inl ⟨by rfl, ?_⟩) (by assumption) ?_
                  rotate_left
                  · (intro w0 hSw; (try dsimp only at hSw); go_simp; try with_reducible rfl)
                  try simp only [Act.put, List.setIfInBounds_toArray, List.set_cons_zero, List.set_cons_succ]
                  refine wpAnyH_take (i := 14) (oi := { dst := some 104, op := Op.load 3 (Operand.tmp 103), type := 3, pos := "text.go:174", after := #[{ on := 13, ground := Ground.data }], guard := none }) (v := ?_) rfl (by kernel_rfl) (by kernel_rfl) (by kernel_rfl) (fun _ _ _ h => h) (Or.inl ⟨by rfl, ?_⟩) (by assumption) ?_
                  rotate_left
                  · (intro w0 hSw; (try dsimp only at hSw); go_simp; try with_reducible rfl)
                  try simp only [Act.put, List.setIfInBounds_toArray, List.set_cons_zero, List.set_cons_succ]
                  refine wpAnyH_take (i := 15) (oi := { dst := some 105, op := Op.build 73 #[(0, Operand.tmp 98), (1, Operand.tmp 101), (2, Operand.tmp 104)], type := 73, pos := "text.go:174", after := #[{ on := 8, ground := Ground.data }, { on := 11, ground := Ground.data }, { on := 14, ground := Ground.data }], guard := none }) (v := ?_) rfl (by kernel_rfl) (by kernel_rfl) (by kernel_rfl) (fun _ _ _ h => h) (Or.inl ⟨by rfl, ?_⟩) (by assumption) ?_
                  rotate_left
                  · (intro w0 hSw; (try dsimp only at hSw); go_simp; try with_reducible rfl)
                  try simp only [Act.put, List.setIfInBounds_toArray, List.set_cons_zero, List.set_cons_succ]
                  refine wpAnyH_ready (rs := [1, 16]) (by kernel_rfl) (by simp) ?_
                  refine AllReadyH.cons (o := { dst := some 91, op := Op.load 25 (Operand.tmp 90), type := 25, pos := "text.go:174", after := #[{ on := 0, ground := Ground.data }], guard := none }) rfl (fun KZ hKZ => ?_) ?_
                  · skip
                    go_simp
                    refine hKZ.out _ _ ?_ (fun hHeld => ?_)
                    · exact HT3.out
                    clear hKZ KZ
                    try simp only [Act.put, List.setIfInBounds_toArray, List.set_cons_zero, List.set_cons_succ]
                    refine wpAnyH_ready (rs := [16]) (by kernel_rfl) (by simp) ?_
                    refine AllReadyH.cons (o := { dst := some 106, op := Op.buildSlice 25 1 #[(0, Operand.tmp 105)], type := 25, pos := "text.go:174", after := #[{ on := 15, ground := Ground.data }], guard := none }) rfl (fun KZ hKZ => ?_) ?_
                    · skip
                      go_simp
                      refine hKZ.out _ _ ?_ (fun hHeld => ?_)
                      · exact HTa.out _
                      clear hKZ KZ
                      try simp only [Act.put, List.setIfInBounds_toArray, List.set_cons_zero, List.set_cons_succ]
                      refine wpAnyH_ready (rs := [17]) (by kernel_rfl) (by simp) ?_
                      refine AllReadyH.cons (o := { dst := some 107, op := Op.call { callee := Callee.builtin Builtin.append, args := #[Operand.tmp 91, Operand.tmp 106], argTypes := #[25, 25] }, type := 25, pos := "text.go:174", after := #[{ on := 1, ground := Ground.data }, { on := 16, ground := Ground.data }], guard := none }) rfl (fun KZ hKZ => ?_) ?_
                      · skip
                        (refine step_append_wr (.tmp 91) (.tmp 106) 25 w.heap.size 73 i2 (.agg #[.int .i64 0, .int .i64 0, .int .i64 0]) 3 24 Tryz.underlying25 hi2 hy0 hy1 hy2 rfl (Nat.succ_pos 2) (.slice d2.a2 d2.n2 d2.c2) d2.n2 (cellsT L2) (some ⟨w4.heap.size, 0, none⟩) 1 1 [.int .i64 (LT : Int), .int .i64 x0, .int .i64 x1] rfl (fun e => by cases e) HOne.out HXx.out HY.out (by simp [Act.eval]) (by simp [Act.eval]) (HO.out _) ((rowC_three (t := 73) (w := w4) rfl rfl).below (Drew.below ⟨1, rfl⟩)) (HSz.out _) ?_; intro v5 w5 ho hg'; obtain ⟨A5, K5, rfl⟩ := own_is ho; obtain ⟨hr5, hbx⟩ := HPu.out _ w5 A5 K5 hg' ho; have HR5 := hide hr5; have hq5 := hbx.cells.2.2.1; have hf5 := box_frozen hbx 2; have HT5 := hide (mix_grownB (HTa.out _) hg' HNe.out HNg.out); clear ho hg' hbx hr5)
                        refine hKZ.out _ _ ?_ (fun hHeld => ?_)
                        · exact HT5.out
                        clear hKZ KZ
                        try simp only [Act.put, List.setIfInBounds_toArray, List.set_cons_zero, List.set_cons_succ]
                        refine wpAnyH_take (i := 18) (oi := { dst := some 108, op := Op.fieldAddr 29 (Operand.tmp 6) 2, type := 0, pos := "text.go:174", after := #[{ on := 0, ground := Ground.phase }, { on := 1, ground := Ground.phase }, { on := 2, ground := Ground.phase }, { on := 3, ground := Ground.phase }, { on := 4, ground := Ground.phase }, { on := 5, ground := Ground.phase }, { on := 6, ground := Ground.phase }, { on := 7, ground := Ground.phase }, { on := 8, ground := Ground.phase }, { on := 9, ground := Ground.phase }, { on := 10, ground := Ground.phase }, { on := 11, ground := Ground.phase }, { on := 12, ground := Ground.phase }, { on := 13, ground := Ground.phase }, { on := 14, ground := Ground.phase }, { on := 15, ground := Ground.phase }, { on := 16, ground := Ground.phase }, { on := 17, ground := Ground.phase }], guard := none }) (v := ?_) rfl (by kernel_rfl) (by kernel_rfl) (by kernel_rfl) (fun _ _ _ h => h) (Or.inl ⟨by rfl, ?_⟩) (by assumption) ?_
                        rotate_left
                        · (intro w0 hSw; (try dsimp only at hSw); go_simp; try with_reducible rfl)
                        try simp only [Act.put, List.setIfInBounds_toArray, List.set_cons_zero, List.set_cons_succ]
                        refine wpAnyH_ready (rs := [19]) (by kernel_rfl) (by simp) ?_
                        refine AllReadyH.cons (o := { dst := none, op := Op.store 25 (Operand.tmp 108) (Operand.tmp 107), type := 0, pos := "text.go:174", after := #[{ on := 18, ground := Ground.data }, { on := 17, ground := Ground.data }, { on := 17, ground := Ground.chain }, { on := 0, ground := Ground.phase }, { on := 1, ground := Ground.phase }, { on := 2, ground := Ground.phase }, { on := 3, ground := Ground.phase }, { on := 4, ground := Ground.phase }, { on := 5, ground := Ground.phase }, { on := 6, ground := Ground.phase }, { on := 7, ground := Ground.phase }, { on := 8, ground := Ground.phase }, { on := 9, ground := Ground.phase }, { on := 10, ground := Ground.phase }, { on := 11, ground := Ground.phase }, { on := 12, ground := Ground.phase }, { on := 13, ground := Ground.phase }, { on := 14, ground := Ground.phase }, { on := 15, ground := Ground.phase }, { on := 16, ground := Ground.phase }, { on := 17, ground := Ground.phase }], guard := none }) rfl (fun KZ hKZ => ?_) ?_
                        · skip
                          go_simp
                          refine hKZ.out _ _ ?_ (fun hHeld => ?_)
                          · exact mix_setB HT5.out HNq.out HNh.out
                          clear hKZ KZ
                          try simp only [Act.put, List.setIfInBounds_toArray, List.set_cons_zero, List.set_cons_succ]
                          refine wpAnyH_done (by kernel_rfl) ?_ _
                          clear hq5 hf5 HT5 hHeld hd hda HO HSz HPu HXx HY HOne HT3 HTa HNe HNg HNq HNh hi2 hy0 hy1 hy2
                          go_wp2
                          go_roundw
                          case rel => exact ⟨k + 1, L2 ++ [((LT : Int), x0, x1)], _, by go_num, by omega, by rw [Q1.out]; exact HR5.out, (fun _ => HOk2.out.symm), by rw [List.length_append]; exact Nat.succ_le_succ hLen⟩
                          case measure => simp [intOf]; omega
                        exact AllReadyH.nil
                      exact AllReadyH.nil
                    exact AllReadyH.nil
                  refine AllReadyH.cons (o := { dst := some 106, op := Op.buildSlice 25 1 #[(0, Operand.tmp 105)], type := 25, pos := "text.go:174", after := #[{ on := 15, ground := Ground.data }], guard := none }) rfl (fun KZ hKZ => ?_) ?_
                  · skip
                    go_simp
                    refine hKZ.out _ _ ?_ (fun hHeld => ?_)
                    · exact HTa.out _
                    clear hKZ KZ
                    try simp only [Act.put, List.setIfInBounds_toArray, List.set_cons_zero, List.set_cons_succ]
                    refine wpAnyH_ready (rs := [1]) (by kernel_rfl) (by simp) ?_
                    refine AllReadyH.cons (o := { dst := some 91, op := Op.load 25 (Operand.tmp 90), type := 25, pos := "text.go:174", after := #[{ on := 0, ground := Ground.data }], guard := none }) rfl (fun KZ hKZ => ?_) ?_
                    · skip
                      go_simp
                      refine hKZ.out _ _ ?_ (fun hHeld => ?_)
                      · exact HTa.out _
                      clear hKZ KZ
                      try simp only [Act.put, List.setIfInBounds_toArray, List.set_cons_zero, List.set_cons_succ]
                      refine wpAnyH_ready (rs := [17]) (by kernel_rfl) (by simp) ?_
                      refine AllReadyH.cons (o := { dst := some 107, op := Op.call { callee := Callee.builtin Builtin.append, args := #[Operand.tmp 91, Operand.tmp 106], argTypes := #[25, 25] }, type := 25, pos := "text.go:174", after := #[{ on := 1, ground := Ground.data }, { on := 16, ground := Ground.data }], guard := none }) rfl (fun KZ hKZ => ?_) ?_
                      · skip
                        (refine step_append_wr (.tmp 91) (.tmp 106) 25 w.heap.size 73 i2 (.agg #[.int .i64 0, .int .i64 0, .int .i64 0]) 3 24 Tryz.underlying25 hi2 hy0 hy1 hy2 rfl (Nat.succ_pos 2) (.slice d2.a2 d2.n2 d2.c2) d2.n2 (cellsT L2) (some ⟨w4.heap.size, 0, none⟩) 1 1 [.int .i64 (LT : Int), .int .i64 x0, .int .i64 x1] rfl (fun e => by cases e) HOne.out HXx.out HY.out (by simp [Act.eval]) (by simp [Act.eval]) (HO.out _) ((rowC_three (t := 73) (w := w4) rfl rfl).below (Drew.below ⟨1, rfl⟩)) (HSz.out _) ?_; intro v5 w5 ho hg'; obtain ⟨A5, K5, rfl⟩ := own_is ho; obtain ⟨hr5, hbx⟩ := HPu.out _ w5 A5 K5 hg' ho; have HR5 := hide hr5; have hq5 := hbx.cells.2.2.1; have hf5 := box_frozen hbx 2; have HT5 := hide (mix_grownB (HTa.out _) hg' HNe.out HNg.out); clear ho hg' hbx hr5)
                        refine hKZ.out _ _ ?_ (fun hHeld => ?_)
                        · exact HT5.out
                        clear hKZ KZ
                        try simp only [Act.put, List.setIfInBounds_toArray, List.set_cons_zero, List.set_cons_succ]
                        refine wpAnyH_take (i := 18) (oi := { dst := some 108, op := Op.fieldAddr 29 (Operand.tmp 6) 2, type := 0, pos := "text.go:174", after := #[{ on := 0, ground := Ground.phase }, { on := 1, ground := Ground.phase }, { on := 2, ground := Ground.phase }, { on := 3, ground := Ground.phase }, { on := 4, ground := Ground.phase }, { on := 5, ground := Ground.phase }, { on := 6, ground := Ground.phase }, { on := 7, ground := Ground.phase }, { on := 8, ground := Ground.phase }, { on := 9, ground := Ground.phase }, { on := 10, ground := Ground.phase }, { on := 11, ground := Ground.phase }, { on := 12, ground := Ground.phase }, { on := 13, ground := Ground.phase }, { on := 14, ground := Ground.phase }, { on := 15, ground := Ground.phase }, { on := 16, ground := Ground.phase }, { on := 17, ground := Ground.phase }], guard := none }) (v := ?_) rfl (by kernel_rfl) (by kernel_rfl) (by kernel_rfl) (fun _ _ _ h => h) (Or.inl ⟨by rfl, ?_⟩) (by assumption) ?_
                        rotate_left
                        · (intro w0 hSw; (try dsimp only at hSw); go_simp; try with_reducible rfl)
                        try simp only [Act.put, List.setIfInBounds_toArray, List.set_cons_zero, List.set_cons_succ]
                        refine wpAnyH_ready (rs := [19]) (by kernel_rfl) (by simp) ?_
                        refine AllReadyH.cons (o := { dst := none, op := Op.store 25 (Operand.tmp 108) (Operand.tmp 107), type := 0, pos := "text.go:174", after := #[{ on := 18, ground := Ground.data }, { on := 17, ground := Ground.data }, { on := 17, ground := Ground.chain }, { on := 0, ground := Ground.phase }, { on := 1, ground := Ground.phase }, { on := 2, ground := Ground.phase }, { on := 3, ground := Ground.phase }, { on := 4, ground := Ground.phase }, { on := 5, ground := Ground.phase }, { on := 6, ground := Ground.phase }, { on := 7, ground := Ground.phase }, { on := 8, ground := Ground.phase }, { on := 9, ground := Ground.phase }, { on := 10, ground := Ground.phase }, { on := 11, ground := Ground.phase }, { on := 12, ground := Ground.phase }, { on := 13, ground := Ground.phase }, { on := 14, ground := Ground.phase }, { on := 15, ground := Ground.phase }, { on := 16, ground := Ground.phase }, { on := 17, ground := Ground.phase }], guard := none }) rfl (fun KZ hKZ => ?_) ?_
                        · skip
                          go_simp
                          refine hKZ.out _ _ ?_ (fun hHeld => ?_)
                          · exact mix_setB HT5.out HNq.out HNh.out
                          clear hKZ KZ
                          try simp only [Act.put, List.setIfInBounds_toArray, List.set_cons_zero, List.set_cons_succ]
                          refine wpAnyH_done (by kernel_rfl) ?_ _
                          clear hq5 hf5 HT5 hHeld hd hda HO HSz HPu HXx HY HOne HT3 HTa HNe HNg HNq HNh hi2 hy0 hy1 hy2
                          go_wp2
                          go_roundw
                          case rel => exact ⟨k + 1, L2 ++ [((LT : Int), x0, x1)], _, by go_num, by omega, by rw [Q1.out]; exact HR5.out, (fun _ => HOk2.out.symm), by rw [List.length_append]; exact Nat.succ_le_succ hLen⟩
                          case measure => simp [intOf]; omega
                        exact AllReadyH.nil
                      exact AllReadyH.nil
                    exact AllReadyH.nil
                  exact AllReadyH.nil
              · have HE : Hid (∀ q, ∃ (L2 : List Tri) (d2 : CV), Hid (RX w a n c xs hg hcap H lc ⟨(N0 : Int), L, L2, [], [], [], [], []⟩ d2 (P2 N2).2 (wr.drewN q)) ∧ Hid (OkL (P2 N2).2 L2 (P2 N2).1) ∧ Hid (L2.length ≤ N2)) := fun q => by
                  have h1 : RX w a n c xs hg hcap H lc ⟨(N0 : Int), L, L2, [], [], [], [], []⟩ d2 (P2 k).2 (wr.drewN q) := HX.out.then (Drew.below ⟨q, rfl⟩)
                  by_cases hkn : k = N2
                  · subst hkn
                    exact ⟨L2, d2, h1, HOk, HLl⟩
                  · have hn : (P2 k).2 = none := by
                      cases e : (P2 k).2 with
                      | none => rfl
                      | some j => exact absurd ⟨by omega, by rw [e]; rfl⟩ hex
                    have hm := HPn.out k hn N2 hk
                    rw [hm]
                    rw [hn] at h1
                    exact ⟨L2, d2, h1, (fun e => by cases e), Nat.le_trans HLl.out hk⟩
                by_cases hkn : k = N2
                · subst hkn
                  clear c0 c1 c2 c3 hkk
                  go_wp2
                  (repeat apply Exists.intro)
                  refine ⟨HE.out 0, rfl⟩
                · have hn : (P2 k).2 = none := by
                    cases e : (P2 k).2 with
                    | none => rfl
                    | some j => exact absurd ⟨by omega, by rw [e]; rfl⟩ hex
                  rw [hn, show errR none = 2 from rfl] at c3
                  have hlt : (k : Int) < (N2 : Int) := by omega
                  clear c0 c1 c2 hkk
                  go_wp2
                  (repeat apply Exists.intro)
                  refine ⟨HE.out 0, rfl⟩
          case rest =>
            obtain ⟨L2, d2, HX2, HOk2, HLl2⟩ := hcut
            have e3 : itemsS (fun i => litS xs (rTop H) (2 * (0 + (i : Int)))) (P2 N2).2 N3 = rOuts gramB xs H (some j0) := by unfold rOuts; rw [HPe.out, hN3]; rfl
            have HO3 := hide (HOn.out (P2 N2).2 N3 (by omega) _ HX2.out.rr.rd)
            rw [e3] at HO3
            have g3 := HX2.out.rr.hd HFi.out.len 3 (by decide)
            rw [hN3] at g3
            have e4 : itemsS (fun i => litS xs (rTop H) (2 * (0 + (i : Int)))) (rOuts gramB xs H (some j0)).2 N5 = rBads gramB xs H (some j0) := by unfold rBads; rw [hN5]; rfl
            have HO4 := hide (HOn.out (rOuts gramB xs H (some j0)).2 N5 (by omega))
            rw [e4] at HO4
            have e5 : itemsS (fun i => litS xs (rTop H) (2 * (0 + (i : Int)))) (rBads gramB xs H (some j0)).2 N6 = rCons gramB xs H (some j0) := by unfold rCons; rw [hN6]; rfl
            have HO5 := hide (HOn.out (rBads gramB xs H (some j0)).2 N6 (by omega))
            rw [e5] at HO5
            clear e3 e4 e5 HOn HPn HPs HP0 HS1
            go_wp2_with fail
            refine HO3.out.mono ?_
            rintro e w3 ⟨v3, Lo, rfl, ho3, hl3, hok3, hw3⟩
            obtain ⟨A3, K3, rfl⟩ := own_is ho3
            have HX3 := hide (HX2.out.went hw3)
            have HY3 := hide (HX3.out.set3 HX2.out.rr.below.size ho3)
            have HOk3 := hide hok3
            have HLo := hide hl3
            have y3 := HX3.out.rr.box.cells.2.2.2.1
            have f3 := box_frozen HX3.out.rr.box 3
            clear hok3 hl3 ho3 hw3 HX2 g3 HO3
            go_upto_region 19 with fail
            generalize w3.setCell ⟨lc, 3, none⟩ (.slice A3 Lo.length K3) = W3 at *
            clear y3 f3 HX3
            have HO4' := hide (HO4.out _ HY3.out.rr.rd)
            have g5 := HY3.out.rr.hd HFi.out.len 5 (by decide)
            rw [hN5] at g5
            clear HO4
            go_wp2_with fail
            refine HO4'.out.mono ?_
            rintro e w4 ⟨v4, Lb, rfl, ho4, hl4, hok4, hw4⟩
            obtain ⟨A4, K4, rfl⟩ := own_is ho4
            have HX4 := hide (HY3.out.went hw4)
            have HY4 := hide (HX4.out.set4 HY3.out.rr.below.size ho4)
            have HOk4 := hide hok4
            have HLb := hide hl4
            have y4 := HX4.out.rr.box.cells.2.2.2.2.1
            have f4 := box_frozen HX4.out.rr.box 4
            clear hok4 hl4 ho4 hw4 HY3 g5 HO4'
            go_upto_region 20 with fail
            generalize w4.setCell ⟨lc, 4, none⟩ (.slice A4 Lb.length K4) = W4 at *
            clear y4 f4 HX4
            go_cut [126] from 67 to 225 (fun _ wx => ∃ (Lc : List Int) (d5 : CV), Hid (RX w a n c xs hg hcap H lc ⟨(N0 : Int), L, L2, Lo, Lb, Lc, [], []⟩ d5 (rCons gramB xs H (some j0)).2 wx) ∧ Hid (OkL (rCons gramB xs H (some j0)).2 Lc (rCons gramB xs H (some j0)).1) ∧ Hid (Lc.length ≤ N6))
            case first =>
              rename_i J K2 hJ hK
              have hMK : ∀ a w, J a w → K2 a w := fun a w h => hK a w (Met.intro h)
              clear hK
              go_light
              have HO5' := hide (HO5.out _ HY4.out.rr.rd)
              have g6 := HY4.out.rr.hd HFi.out.len 6 (by decide)
              rw [hN6] at g6
              clear HO5
              go_wp2_with fail
              refine HO5'.out.mono ?_
              rintro e w5 ⟨v5, Lc, rfl, ho5, hl5, hok5, hw5⟩
              obtain ⟨A5, K5, rfl⟩ := own_is ho5
              have HX5 := hide (HY4.out.went hw5)
              have HY5 := hide (HX5.out.set5 HY4.out.rr.below.size ho5)
              have HOk5 := hide hok5
              have HLc := hide hl5
              have y5 := HX5.out.rr.box.cells.2.2.2.2.2.1
              have f5 := box_frozen HX5.out.rr.box 5
              clear hok5 hl5 ho5 hw5 HY4 g6 HO5'
              go_wp2_with fail
              (repeat apply Exists.intro)
              exact ⟨⟨Lc, _, HY5, HOk5, HLc⟩, rfl⟩
            case rest =>
              obtain ⟨Lc, d5, HX5, HOk5, HLc⟩ := hcut
              rename_i KR hKR
              refine hKR _ _ ?_
              refine wp_seq_k (fun KS hKS => ?_)
              obtain ⟨P6, hP6⟩ : ∃ P6 : Nat → List Tri × Option Nat, P6 = fun k => itemsS (fun i => andB xs (rTop H) (2 * (1 + H.getD 1 0 + H.getD 2 0 + (i : Int)))) (rCons gramB xs H (some j0)).2 k := ⟨_, rfl⟩
              have HQ0 : Hid (P6 0 = ([], (rCons gramB xs H (some j0)).2)) := by rw [hP6]; exact rfl
              have HQn : Hid (∀ k, (P6 k).2 = none → ∀ m, k ≤ m → (P6 m).2 = none) := fun k hk m hm => by rw [hP6] at hk ⊢; exact itemsS_stuck (fun n => andB_none xs (rTop H) _) hk m hm
              have HQs : Hid (∀ k j, (P6 k).2 = some j → P6 (k + 1) = ((P6 k).1 ++ [(andB xs (rTop H) (2 * (1 + H.getD 1 0 + H.getD 2 0 + (k : Int))) (some j)).1], (andB xs (rTop H) (2 * (1 + H.getD 1 0 + H.getD 2 0 + (k : Int))) (some j)).2)) := fun k j hk => by
                rw [hP6] at hk ⊢
                dsimp only at hk ⊢
                rw [itemsS, hk]
              have HQe : Hid (rAnds gramB xs H (some j0) = P6 N4) := by rw [hP6]; unfold rAnds; rw [hN4]; exact rfl
              have HS6 := hide (congrArg Prod.snd HQ0.out)
              dsimp only at HS6
              clear hP6
              go_cut [10, 11, 12, 13, 14, 15, 16, 17] from 127 to 225 (fun _ _ _ _ _ _ _ _ wx => ∃ (L6 : List Tri) (d6 : CV), Hid (RX w a n c xs hg hcap H lc ⟨(N0 : Int), L, L2, Lo, Lb, Lc, L6, []⟩ d6 (P6 N4).2 wx) ∧ Hid (OkL (P6 N4).2 L6 (P6 N4).1) ∧ Hid (L6.length ≤ N4))
              case first =>
                rename_i J K2 hJ hK
                have hMK : ∀ a w, J a w → K2 a w := fun a w h => hK a w (Met.intro h)
                clear hK
                go_light
                clear HRE HRd HSm HE0 HTx
                go_wp2
                go_loopw [10, 11, 12, 13, 14, 15, 16, 17] (fun i _ _ _ _ _ _ _ wr => ∃ (k : Nat) (L6 : List Tri) (d6 : CV), i = .int .i64 k ∧ k ≤ N4 ∧ Hid (RX w a n c xs hg hcap H lc ⟨(N0 : Int), L, L2, Lo, Lb, Lc, L6, []⟩ d6 (P6 k).2 wr) ∧ Hid (OkL (P6 k).2 L6 (P6 k).1) ∧ Hid (L6.length ≤ k)) (fun i _ _ _ _ _ _ _ _ => N4 - (intOf i).toNat)
                case atStart =>
                  refine ⟨0, [], d5, rfl, Nat.zero_le _, ?_, ?_, Nat.le_refl _⟩
                  · rw [HS6.out]; exact HX5
                  · intro _; rw [HQ0.out]
                case round => as_aux_lemma =>
                  obtain ⟨k, L6, d6, rfl, hk, HX, HOk, HLl⟩ := hrel
                  have g4 := HX.out.rr.hd HFi.out.len 4 (by decide)
                  rw [hN4] at g4
                  obtain ⟨kk, hkk, c0, c1, c2, c3⟩ := HX.out.rr.rd.cells
                  by_cases hex : k < N4 ∧ (P6 k).2.isSome = true
                  · obtain ⟨hlt, hso⟩ := hex
                    obtain ⟨j, hj⟩ := Option.isSome_iff_exists.1 hso
                    have hkj : kk = (j : Int) := hkk j hj
                    subst hkj
                    rw [hj] at HX c3
                    rw [show errR (some j) = 0 from rfl] at c3
                    have g1 := HX.out.rr.hd HFi.out.len 1 (by decide)
                    rw [hN1] at g1
                    have g2 := HX.out.rr.hd HFi.out.len 2 (by decide)
                    rw [hN2] at g2
                    have hjn : j ≤ n := by
                      have := HX.out.rr.rd.inb j rfl
                      rw [HX.out.rr.rd.len] at this
                      exact this
                    obtain ⟨x1, p1, e1, ⟨bx0, bx1, bp1⟩, hd1, HG1⟩ := refGet_w a n c j xs HX.out.rr.rd.bytes HX.out.rr.rd.len HX.out.rr.rd.small HTn.out hjn
                    obtain ⟨x2, p2, e2, ⟨cx0, cx1, bp2⟩, hd2, HG2⟩ := refGet_w a n c p1 xs HX.out.rr.rd.bytes HX.out.rr.rd.len HX.out.rr.rd.small HTn.out bp1
                    have HC1 := hide HG1
                    have HC2 := hide HG2
                    have HR8 := hide HX.out.rr.rd.text
                    obtain ⟨LT, hLT⟩ : ∃ LT : Nat, LT = 2 * (1 + N1 + N2 + k) := ⟨_, rfl⟩
                    have hLI : 2 * (1 + H.getD 1 0 + H.getD 2 0 + (k : Int)) = (LT : Int) := by rw [hN1, hN2]; omega
                    have hAB := andB_pair hd1 hd2 bx0 (rTop H) (LT : Int)
                    have HAb := hide hAB.1
                    have HAg := hide hAB.2
                    have hqs := HQs.out k j hj
                    rw [hLI] at hqs
                    have HQk := hide hqs
                    have hkI : (k : Int) < (N4 : Int) := by omega
                    obtain ⟨M0, hM0⟩ : ∃ M0 : Nat, M0 = N1 + N2 := ⟨_, rfl⟩
                    obtain ⟨M1, hM1⟩ : ∃ M1 : Nat, M1 = M0 + 1 := ⟨_, rfl⟩
                    obtain ⟨M2, hM2⟩ : ∃ M2 : Nat, M2 = M1 + k := ⟨_, rfl⟩
                    have a0 : (N1 : Int) + (N2 : Int) = (M0 : Int) := by omega
                    have a1 : (M0 : Int) + 1 = (M1 : Int) := by omega
                    have a2 : (M1 : Int) + (k : Int) = (M2 : Int) := by omega
                    have a3 : 2 * (M2 : Int) = (LT : Int) := by omega
                    have a4 : IntKind.i64.wrap (2 * (M2 : Int)) = (LT : Int) := by rw [IntKind.wrap_i64]; omega
                    have aw0 : IntKind.i64.wrap (M0 : Int) = (M0 : Int) := by rw [IntKind.wrap_i64]; omega
                    have aw1 : IntKind.i64.wrap (M1 : Int) = (M1 : Int) := by rw [IntKind.wrap_i64]; omega
                    have aw2 : IntKind.i64.wrap (M2 : Int) = (M2 : Int) := by rw [IntKind.wrap_i64]; omega
                    have aw3 : IntKind.i64.wrap (LT : Int) = (LT : Int) := by rw [IntKind.wrap_i64]; omega
                    have a5 : M0 ≤ 20000 := by omega
                    have a6 : M1 ≤ 20001 := by omega
                    have a7 : M2 ≤ 30001 := by omega
                    have HLb : Hid (LT ≤ 60002) := by show LT ≤ 60002; omega
                    have hLb := HLb.out
                    -- out of a round that has failed
                    have HEb : Hid (∀ W, RX w a n c xs hg hcap H lc ⟨(N0 : Int), L, L2, Lo, Lb, Lc, L6, []⟩ d6 none W → (P6 (k + 1)).2 = none → ∃ (L6 : List Tri) (d6 : CV), Hid (RX w a n c xs hg hcap H lc ⟨(N0 : Int), L, L2, Lo, Lb, Lc, L6, []⟩ d6 (P6 N4).2 W) ∧ Hid (OkL (P6 N4).2 L6 (P6 N4).1) ∧ Hid (L6.length ≤ N4)) := fun W hW hn => by
                      have hm := HQn.out (k + 1) hn N4 hlt
                      rw [hm]
                      exact ⟨L6, d6, hW, (fun e => by cases e), Nat.le_trans HLl.out hk⟩
                    clear c2 hkk hso hqs hAB HG1 HG2 hd1 hd2 HQs HQ0 HQn hLT hLI hM0 hM1 hM2
                    go_upto_region 24 with fail
                    go_quiet (fail)
                    have HXq : Hid (RX w a n c xs hg hcap H lc ⟨(N0 : Int), L, L2, Lo, Lb, Lc, L6, []⟩ d6 (some j) (wr.drewN nq)) := HX.out.then (Drew.below ⟨_, rfl⟩)
                    clear HX g1 g2 g4 c0 c1 c3 HR8
                    generalize wr.drewN nq = W4 at *
                    obtain ⟨kk, hkk, c0, c1, c2, c3⟩ := HXq.out.rr.rd.cells
                    obtain rfl : kk = (j : Int) := hkk j rfl
                    have HR8 := hide HXq.out.rr.rd.text
                    clear hkk c2 c3
                    go_upto_region 25 with fail
                    go_quiet (first | (go_at_call 55; refine Calls.quiet_of_same (HC1.out _ (by first | exact HR8.out | exact HR8.out.below (Drew.below ⟨_, rfl⟩)))))
                    have HXr : Hid (RX w a n c xs hg hcap H lc ⟨(N0 : Int), L, L2, Lo, Lb, Lc, L6, []⟩ d6 (some j) (W4.drewN nq)) := HXq.out.then (Drew.below ⟨_, rfl⟩)
                    clear HXq c0 c1 HR8
                    generalize W4.drewN nq = W5 at *
                    obtain ⟨kk, hkk, c0, c1, c2, c3⟩ := HXr.out.rr.rd.cells
                    obtain rfl : kk = (j : Int) := hkk j rfl
                    have HR8 := hide HXr.out.rr.rd.text
                    rw [show errR (some j) = 0 from rfl] at c3
                    clear hkk c2
                    go_upto_region 27 with (first | (go_at_call 55; refine (HC2.out _ HR8.out).mono ?_; rintro e w5 ⟨rfl, hw5⟩; subst hw5))
                    have hfr3 := HXr.out.rr.rd.free 3
                    have hfr1 := HXr.out.rr.rd.free 1
                    have HXf : Hid (RX w a n c xs hg hcap H lc ⟨(N0 : Int), L, L2, Lo, Lb, Lc, L6, []⟩ d6 none (w5.setCell ⟨w.heap.size + 1, 3, none⟩ (.int .i64 2))) := HXr.out.went HXr.out.rr.rd.fail
                    clear HC1 HC2 HR8
                    by_cases hgood : e1 = 0 ∧ e2 = 0 ∧ x1 ≠ 0 ∧ x1 ≤ (LT : Int) ∧ x2 ≤ (LT : Int) - x1
                    · obtain ⟨rfl, rfl, y1, y2, y3⟩ := hgood
                      obtain ⟨z, hz⟩ : ∃ z : Int, z = (LT : Int) - x1 := ⟨_, rfl⟩
                      obtain ⟨y, hy⟩ : ∃ y : Int, y = z - x2 := ⟨_, rfl⟩
                      have hP : Hid (P6 (k + 1) = ((P6 k).1 ++ [((LT : Int), z, y)], some p2)) := by
                        show _ = _
                        rw [HQk.out, HAg.out rfl rfl y1 y2 y3, hy, hz]
                      have f1 : (x1 == 0) = false := by simpa using y1
                      have f2 : ¬ (LT : Int) < x1 := by omega
                      have f3 : ¬ z < x2 := by omega
                      have z1 : (LT : Int) - x1 = z := hz.symm
                      have z2 : IntKind.i64.wrap z = z := by rw [IntKind.wrap_i64]; omega
                      have z3 : z - x2 = y := hy.symm
                      have z4 : IntKind.i64.wrap y = y := by rw [IntKind.wrap_i64]; omega
                      have HXm : Hid (RX w a n c xs hg hcap H lc ⟨(N0 : Int), L, L2, Lo, Lb, Lc, L6, []⟩ d6 (some p2) (w5.setCell ⟨w.heap.size + 1, 1, none⟩ (.int .i64 (p2 : Int)))) := HXr.out.went (HXr.out.rr.rd.move p2 bp2)
                      clear hz hy y1 y2 y3 HAb HAg HQk HEb HXf
                      go_upto_region 30 with fail
                      generalize w5.setCell ⟨w.heap.size + 1, 1, none⟩ (.int .i64 (p2 : Int)) = W6 at *
                      clear c0 c1 c3 hfr3 hfr1 HXr
                      have hq6 := HXm.out.rr.box.cells.2.2.2.2.2.2.1
                      have hLen : L6.length ≤ k := HLl.out
                      have hn2 : d6.n6 = L6.length := by
                        have h1 : L6.length * 3 = d6.n6 * 3 := by have := HXm.out.rr.o6.1; rw [cellsT_len] at this; exact this
                        omega
                      obtain ⟨i6, hi6, hx0, hx1, hx2⟩ := info_parts infoAndR
                      have HO : Hid (∀ o, (W6.alloc o).ownsRow w.heap.size 53 3 (.slice d6.a6 d6.n6 d6.c6) d6.n6 (cellsT L6)) := fun o => (HXm.out.then (below_alloc W6 o)).rr.o6
                      have HSz : Hid (∀ o, w.heap.size ≤ (W6.alloc o).heap.size) := fun o => (HXm.out.then (below_alloc W6 o)).rr.below.size
                      have HPu : Hid (∀ o w7 A7 K7, (W6.alloc o).grownBy w7 (Value.slice d6.a6 d6.n6 d6.c6).ownBlock → w7.ownsRow w.heap.size 53 3 (.slice A7 (d6.n6 + 1) K7) (d6.n6 + 1) (cellsT L6 ++ [.int .i64 (LT : Int), .int .i64 z, .int .i64 y]) → RX w a n c xs hg hcap H lc ⟨(N0 : Int), L, L2, Lo, Lb, Lc, (L6 ++ [((LT : Int), z, y)]), []⟩ { d6 with a6 := A7, n6 := d6.n6 + 1, c6 := K7 } (some p2) (w7.setCell ⟨lc, 6, none⟩ (.slice A7 (d6.n6 + 1) K7)) ∧ Box w7 lc d6) := fun o w7 A7 K7 hg' ho =>
                        RX.and (W := W6) HXm.out (o := o) hg' (by rw [cellsT_append]; exact ho)
                      have HXx : Hid (d6.n6 + 1 ≤ maxLen) := by show d6.n6 + 1 ≤ maxLen; unfold maxLen; omega
                      have HY : Hid ((d6.n6 + 1) * 24 ≤ 140737488355328) := by show (d6.n6 + 1) * 24 ≤ 140737488355328; omega
                      have HOne : Hid (∀ u ∈ [Value.int .i64 (LT : Int), .int .i64 z, .int .i64 y], u.oneCell' = true) := fun u hu => by simp at hu; rcases hu with rfl | rfl | rfl <;> rfl
                      clear hn2
                      go_wp2_with (first | (at_builtin; refine wpList_append_rowC _ rfl (.tmp 205) (.tmp 216) 26 rfl w.heap.size 53 i6 (.agg #[.int .i64 0, .int .i64 0, .int .i64 0]) 3 24 Tryz.underlying26 hi6 hx0 hx1 hx2 rfl (by decide) _ d6.n6 (cellsT L6) rfl (HO.out _) (some ⟨W6.heap.size, 0, none⟩) 1 1 [.int .i64 (LT : Int), .int .i64 z, .int .i64 y] rfl rfl (rowC_three (t := 53) (w := W6) rfl rfl) (fun e => by cases e) HOne.out HXx.out HY.out (HSz.out _) ?_; intro v7 w7 ho7 hg7; obtain ⟨A7, K7, rfl⟩ := own_is ho7; obtain ⟨hr7, hbx⟩ := HPu.out _ w7 A7 K7 hg7 ho7; have HR7 := hide hr7; have hq7 := hbx.cells.2.2.2.2.2.2.1; have hf7 := box_frozen hbx 6; clear hr7 hbx ho7 hg7))
                      go_roundw
                      case rel => exact ⟨k + 1, L6 ++ [((LT : Int), z, y)], _, by go_num, by omega, by rw [hP.out]; exact HR7, (fun _ => by rw [hP.out, ← HOk.out (by rw [hj]; rfl)]), by rw [List.length_append]; exact Nat.succ_le_succ hLen⟩
                      case measure => simp [intOf]; omega
                    · have hn : (P6 (k + 1)).2 = none := by rw [HQk.out]; exact HAb.out hgood
                      have HB := hide (HEb.out _ HXf.out hn)
                      have z0 : IntKind.i64.wrap ((LT : Int) - x1) = (LT : Int) - x1 := by rw [IntKind.wrap_i64]; omega
                      clear hn HAb HAg HQk HEb HXr HXf HOk
                      by_cases q1 : e1 = 0
                      · subst q1
                        by_cases q2 : e2 = 0
                        · subst q2
                          by_cases q3 : x1 = 0
                          · subst q3
                            clear hgood z0
                            go_wp2
                            (repeat apply Exists.intro)
                            refine ⟨?_, rfl⟩
                            exact HB.out
                          · have f1 : (x1 == 0) = false := by simpa using q3
                            by_cases q4 : (LT : Int) < x1
                            · clear hgood z0
                              go_wp2
                              (repeat apply Exists.intro)
                              refine ⟨?_, rfl⟩
                              exact HB.out
                            · obtain ⟨z, hz⟩ : ∃ z : Int, z = (LT : Int) - x1 := ⟨_, rfl⟩
                              have q5 : z < x2 := by
                                have : ¬ x2 ≤ (LT : Int) - x1 := fun h5 => hgood ⟨rfl, rfl, q3, by omega, h5⟩
                                omega
                              have z1 : (LT : Int) - x1 = z := hz.symm
                              have z2 : IntKind.i64.wrap z = z := by rw [IntKind.wrap_i64]; omega
                              clear hgood hz z0
                              go_wp2
                              (repeat apply Exists.intro)
                              refine ⟨?_, rfl⟩
                              exact HB.out
                        · have f1 : (e2 != 0) = true := by simpa using q2
                          clear hgood z0
                          go_wp2
                          (repeat apply Exists.intro)
                          refine ⟨?_, rfl⟩
                          exact HB.out
                      · have f1 : (e1 != 0) = true := by simpa using q1
                        clear hgood z0
                        go_wp2
                        (repeat apply Exists.intro)
                        refine ⟨?_, rfl⟩
                        exact HB.out
                  · have HE : Hid (∀ q, ∃ (L6 : List Tri) (d6 : CV), Hid (RX w a n c xs hg hcap H lc ⟨(N0 : Int), L, L2, Lo, Lb, Lc, L6, []⟩ d6 (P6 N4).2 (wr.drewN q)) ∧ Hid (OkL (P6 N4).2 L6 (P6 N4).1) ∧ Hid (L6.length ≤ N4)) := fun q => by
                      have h1 : RX w a n c xs hg hcap H lc ⟨(N0 : Int), L, L2, Lo, Lb, Lc, L6, []⟩ d6 (P6 k).2 (wr.drewN q) := HX.out.then (Drew.below ⟨q, rfl⟩)
                      by_cases hkn : k = N4
                      · subst hkn
                        exact ⟨L6, d6, h1, HOk, HLl⟩
                      · have hn : (P6 k).2 = none := by
                          cases e : (P6 k).2 with
                          | none => rfl
                          | some j => exact absurd ⟨by omega, by rw [e]; rfl⟩ hex
                        have hm := HQn.out k hn N4 hk
                        rw [hm]
                        rw [hn] at h1
                        exact ⟨L6, d6, h1, (fun e => by cases e), Nat.le_trans HLl.out hk⟩
                    by_cases hkn : k = N4
                    · subst hkn
                      clear c0 c1 c2 c3 hkk
                      go_wp2
                      (repeat apply Exists.intro)
                      refine ⟨HE.out 0, rfl⟩
                    · have hn : (P6 k).2 = none := by
                        cases e : (P6 k).2 with
                        | none => rfl
                        | some j => exact absurd ⟨by omega, by rw [e]; rfl⟩ hex
                      rw [hn, show errR none = 2 from rfl] at c3
                      have hlt : (k : Int) < (N4 : Int) := by omega
                      clear c0 c1 c2 hkk
                      go_wp2
                      (repeat apply Exists.intro)
                      refine ⟨HE.out 0, rfl⟩
              case rest =>
                obtain ⟨L6, d6, HX6, HOk6, HLl6⟩ := hcut
                rename World => W6
                obtain ⟨e71, e72, e73⟩ := HX6.out.z7
                have h70 : Box W6 lc { d6 with a7 := none, n7 := 0, c7 := 0 } := by
                  have e : ({ d6 with a7 := none, n7 := 0, c7 := 0 } : CV) = d6 := by
                    cases d6
                    dsimp only at e71 e72 e73
                    subst e71; subst e72; subst e73
                    rfl
                  rw [e]; exact HX6.out.rr.box
                have HNm := hide (refNames_any (w.heap.size + 1) lc a n c xs (rTop H) d6 (P6 N4).2 W6 HX6.out.rr.rd h70 HX6.out.rr.ne)
                unfold NamesR at HNm
                have hLast : rNames gramB xs H (some j0) = namesS xs (P6 N4).2 := by
                  show namesS xs (rAnds gramB xs H (some j0)).2 = _
                  rw [HQe.out]
                have HCC : Hid (∀ L7, OkL (namesS xs (P6 N4).2).2 L7 (namesS xs (P6 N4).2).1 → (namesS xs (P6 N4).2).2.isSome = true → (⟨(N0 : Int), L, L2, Lo, Lb, Lc, L6, L7⟩ : Circ) = rCirc gramB xs H (some j0)) := by
                  intro L7 ho hs
                  have s6 := names_back hs
                  have sA : (rAnds gramB xs H (some j0)).2.isSome = true := by rw [HQe.out]; exact s6
                  have sC : (rCons gramB xs H (some j0)).2.isSome = true := some_back (f := fun i => andB xs (rTop H) (2 * (1 + H.getD 1 0 + H.getD 2 0 + (i : Int)))) (fun n => andB_none xs (rTop H) _) sA
                  have sB : (rBads gramB xs H (some j0)).2.isSome = true := some_back (f := fun i => litS xs (rTop H) (2 * (0 + (i : Int)))) (fun n => litS_none xs (rTop H) _) sC
                  have sO : (rOuts gramB xs H (some j0)).2.isSome = true := some_back (f := fun i => litS xs (rTop H) (2 * (0 + (i : Int)))) (fun n => litS_none xs (rTop H) _) sB
                  have sL : (rLats gramB xs H (some j0)).2.isSome = true := some_back (f := fun i => litS xs (rTop H) (2 * (0 + (i : Int)))) (fun n => litS_none xs (rTop H) _) sO
                  have s1 : (rIns gramB xs H (some j0)).2.isSome = true := some_back (f := fun i => latB xs (rTop H) (2 * (1 + H.getD 1 0 + (i : Int)))) (fun n => latB_none xs (rTop H) _) sL
                  rw [hR1] at s1
                  rw [HPe.out] at sL
                  unfold rCirc
                  rw [hR1, HPe.out, HQe.out, hLast, hN0, ← HOk1.out s1, ← HOk2.out sL, ← HOk3.out sO, ← HOk4.out sB, ← HOk5.out sC, ← HOk6.out s6, ← ho hs]
                rw [hLast] at HRE
                generalize namesS xs (P6 N4).2 = PN at HNm HCC HRE
                have hmx : (rCirc gramB xs H (some j0)).max ≤ 100000 := by
                  have := HFi.out.b0
                  show H.getD 0 0 ≤ 100000
                  omega
                generalize rCirc gramB xs H (some j0) = CC at HCC HRE HRd HSm hmx
                clear hLast HOk1 HOk2 HOk3 HOk4 HOk5 HOk6 HQe HPe HQ0 HQn HQs HS6 HX5 h70 HTx HFi
                go_wp2_with fail
                refine HNm.out.mono ?_
                rintro e w7 ⟨L7, A7, K7, rfl, hnr, hok7, hl7⟩
                have RR7 := HX6.out.rr.syms hnr
                have bx7 : Box w7 w.heap.size cvN := (hnr.two.block w.heap.size HX6.out.bx.lt (by omega) (Ne.symm HX6.out.ne)).trans HX6.out.bx
                obtain ⟨d7, hd7⟩ : ∃ d7, d7 = ({ d6 with a7 := A7, n7 := L7.length, c7 := K7 } : CV) := ⟨_, rfl⟩
                rw [← hd7] at RR7
                have HEn := hide (refEnd_any (w.heap.size + 1) a n c xs (rTop H) PN.2 w7 hnr.rd d7 CC (fun hs => by rw [← HCC.out L7 hok7 hs]; exact RR7.holds.1) (fun _ => HSm.out) hmx)
                have hcv7 : d7.v = .agg #[.int .i64 d7.m, .slice d7.a1 d7.n1 d7.c1, .slice d7.a2 d7.n2 d7.c2, .slice d7.a3 d7.n3 d7.c3, .slice d7.a4 d7.n4 d7.c4, .slice d7.a5 d7.n5 d7.c5, .slice d7.a6 d7.n6 d7.c6, .slice d7.a7 d7.n7 d7.c7] := rfl
                rw [hcv7] at HEn
                have HR7 := hide RR7
                have BX7 := hide bx7
                have HOk7 := hide hok7
                clear hd7 hcv7 RR7 bx7 hok7 hl7 hnr HNm HX6
                obtain ⟨q0, q1, q2, q3, q4, q5, q6, q7⟩ := HR7.out.box.cells
                go_wp2_with fail
                refine HEn.out.mono ?_
                rintro e w8 ⟨d', rfl, h0, h1, hb8⟩
                have BX := hide (BX7.out.below hb8)
                have BL := hide (belowThen HR7.out.below hb8)
                have HR8 := hide (HR7.out.then hb8)
                have HFin : Hid (ReadPost gramB xs w (.returned (.tuple #[d'.v, .int .i64 (endE CC PN.2)])) (putBox w8 w.heap.size d')) := by
                  have hbel := (two_put w8 w.heap.size d').below BL.out (Nat.le_refl _) (Nat.le_refl _) (Nat.le_refl _)
                  by_cases hE0 : endE CC PN.2 = 0
                  · have hs : PN.2.isSome = true := by
                      cases e : PN.2.isSome with
                      | true => rfl
                      | false => unfold endE at hE0; rw [e, if_neg (by decide)] at hE0; exact absurd hE0 (by decide)
                    obtain rfl := h0 hE0
                    obtain ⟨g1, g2⟩ := rr_out (d' := d') HR8.out BX.out
                    rw [HCC.out L7 HOk7.out hs] at g1
                    refine ⟨d', by rw [HRE.out], ?_, (small_fits g1 HSm.out).2, g2, hbel⟩
                    rw [HRd.out, HRE.out, if_pos hE0]
                    exact g1
                  · obtain rfl := h1 hE0
                    refine ⟨cvN, by rw [HRE.out], ?_, ⟨by decide, by decide, by decide, by decide, by decide, by decide, by decide⟩, aboveN _, hbel⟩
                    rw [HRd.out, HRE.out, if_neg hE0]
                    exact holdsN _
                have hb := hide (box_put d' BX.out)
                rw [show d'.v = .agg #[.int .i64 d'.m, .slice d'.a1 d'.n1 d'.c1, .slice d'.a2 d'.n2 d'.c2, .slice d'.a3 d'.n3 d'.c3, .slice d'.a4 d'.n4 d'.c4, .slice d'.a5 d'.n5 d'.c5, .slice d'.a6 d'.n6 d'.c6, .slice d'.a7 d'.n7 d'.c7] from rfl] at HFin ⊢
                generalize endE CC PN.2 = EE at *
                obtain ⟨z0, z1, z2, z3, z4, z5, z6, z7⟩ := BX.out.cells
                simp only [cvN] at z0 z1 z2 z3 z4 z5 z6 z7
                have f0 := box_frozen BX.out 0
                have f1 := box_frozen BX.out 1
                have f2 := box_frozen BX.out 2
                have f3 := box_frozen BX.out 3
                have f4 := box_frozen BX.out 4
                have f5 := box_frozen BX.out 5
                have f6 := box_frozen BX.out 6
                have f7 := box_frozen BX.out 7
                clear h0 h1 hb8 HR7 HR8 BX7 HEn HCC HRE HRd HSm hmx HOk7 q0 q1 q2 q3 q4 q5 q6 q7 BL
                go_wp2
                show bodyPost _ _ _ _ _ (putBox w8 w.heap.size d')
                clear z0 z1 z2 z3 z4 z5 z6 z7 f0 f1 f2 f3 f4 f5 f6 f7 BX
                generalize putBox w8 w.heap.size d' = Wf at *
                obtain ⟨r0, r1, r2, r3, r4, r5, r6, r7⟩ := hb.out.cells
                refine bodyPost_ret (v := .tuple #[.agg #[.int .i64 d'.m, .slice d'.a1 d'.n1 d'.c1, .slice d'.a2 d'.n2 d'.c2, .slice d'.a3 d'.n3 d'.c3, .slice d'.a4 d'.n4 d'.c4, .slice d'.a5 d'.n5 d'.c5, .slice d'.a6 d'.n6 d'.c6, .slice d'.a7 d'.n7 d'.c7], .int .i64 EE]) (by simp [results, Tryz.results22, go_sem, *]) rfl ?_
                exact HFin.out
  · rw [if_neg hE] at HRE
    have HEr := hide hE
    generalize begE [97, 105, 103] xs = E at *
    have hE1 : (E == 0) = false := by rw [beq_eq_false_iff_ne]; exact hE
    have hE2 : (E != 0) = true := by rw [bne, hE1]; rfl
    clear hE h
    go_enter Tryz.func22, Tryz.ntmps22
    go_wp2_with fail
    refine HBg.out.mono ?_
    rintro e w1 ⟨v, rfl, hcase⟩
    rcases hcase with ⟨h0, -⟩ | ⟨-, ht, hc3⟩
    · exact absurd h0 HEr.out
    have BX : Hid (Box w1 w.heap.size cvN) := (ht.block w.heap.size BX0.out.lt (by omega) (by omega)).trans BX0.out
    have BL := hide (ht.below BL0.out (Nat.le_refl _) (Nat.le_succ _) (Nat.le_succ _))
    clear HBg BX0 BL0 HR0 ht
    go_upto_region 4 with fail
    have e3d : w1.drew.cell? ⟨w.heap.size + 1, 3, none⟩ = some (.int .i64 E) := hc3
    have hne : w.heap.size + 1 ≠ w.heap.size := by omega
    obtain ⟨z0, z1, z2, z3, z4, z5, z6, z7⟩ := BX.out.cells
    simp only [cvN] at z0 z1 z2 z3 z4 z5 z6 z7
    have f0 := box_frozen BX.out 0
    have f1 := box_frozen BX.out 1
    have f2 := box_frozen BX.out 2
    have f3 := box_frozen BX.out 3
    have f4 := box_frozen BX.out 4
    have f5 := box_frozen BX.out 5
    have f6 := box_frozen BX.out 6
    have f7 := box_frozen BX.out 7
    go_region_held3 (fun w' => w'.cell? ⟨w.heap.size + 1, 3, none⟩ = some (.int .i64 E)) (first | with_reducible exact e3d | with_reducible exact nil_far hne hc3) (fail)
    all_goals go_wp2
    have hb := hide (box_put cvN BX.out).drew
    have hbel := hide (below_drew ((two_put w1 w.heap.size cvN).below BL.out (Nat.le_refl _) (Nat.le_refl _) (Nat.le_refl _)))
    show bodyPost _ _ _ _ _ (putBox w1 w.heap.size cvN).drew
    generalize (putBox w1 w.heap.size cvN).drew = Wf at *
    obtain ⟨r0, r1, r2, r3, r4, r5, r6, r7⟩ := hb.out.cells
    simp only [cvN] at r0 r1 r2 r3 r4 r5 r6 r7
    clear z0 z1 z2 z3 z4 z5 z6 z7 f0 f1 f2 f3 f4 f5 f6 f7 hc3 e3d
    refine bodyPost_ret (v := .tuple #[.agg #[.int .i64 0, .slice none 0 0, .slice none 0 0, .slice none 0 0, .slice none 0 0, .slice none 0 0, .slice none 0 0, .slice none 0 0], .int .i64 E]) (by simp [results, Tryz.results22, go_sem, *]) rfl ?_
    exact ⟨cvN, by rw [HRE.out]; rfl, by unfold Gram.read; rw [HRE.out, if_neg HEr.out]; exact holdsN _, ⟨by decide, by decide, by decide, by decide, by decide, by decide, by decide⟩, aboveN _, hbel.out⟩
end Go.Proofs.YtikjbbebfjleaaaGreatDoor
