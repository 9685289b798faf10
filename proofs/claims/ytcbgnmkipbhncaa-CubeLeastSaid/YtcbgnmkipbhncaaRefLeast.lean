/-
  THE WALK of the reference's Least.
-/
import Derived.Test.YtcbgnmkipbhncaaLawCubeStands
namespace Go.Proofs.Ytcbgnmkipbhncaa
open Go.RowKit
set_option linter.unusedSectionVars false
variable [Inhabited El]

/-- One stands in another's place. -/
def killB (R : List (List Int)) (i k : Nat) : Bool := (decide (atP R k = atP R i) && decide (k < i)) || (!decide (atP R k = atP R i) && withinB (atP R k) (atP R i))
def keepI (R : List (List Int)) (i : Nat) (m : Nat) : Bool := (List.range m).all fun k => !killB R i k
def keptL (R : List (List Int)) (n : Nat) : List (List Int) := ((List.range n).filter fun i => keepI R i R.length).map fun i => atP R i

theorem keepI_succ (R : List (List Int)) (i m : Nat) : keepI R i (m + 1) = (keepI R i m && !killB R i m) := by
  unfold keepI; rw [List.range_succ, List.all_append]; simp
theorem keepI_no {R : List (List Int)} {i m : Nat} (h : keepI R i m = false) (n : Nat) (hmn : m ≤ n) : keepI R i n = false := by
  unfold keepI at h ⊢
  rw [List.all_eq_false] at h ⊢
  obtain ⟨k, hk, hh⟩ := h
  exact ⟨k, by simp at hk ⊢; omega, hh⟩
theorem keptL_succ (R : List (List Int)) (n : Nat) : keptL R (n + 1) = keptL R n ++ (if keepI R n R.length = true then [atP R n] else []) := by
  unfold keptL
  rw [List.range_succ, List.filter_append, List.map_append]
  congr 1
  by_cases h : keepI R n R.length = true
  · simp [h]
  · simp [h]

theorem filter_idx {α : Type} [Inhabited α] (p : α → Bool) (l : List α) : l.filter p = ((List.range l.length).filter fun i => p (atP l i)).map fun i => atP l i := by
  have : ∀ n, n ≤ l.length → (l.take n).filter p = ((List.range n).filter fun i => p (atP l i)).map fun i => atP l i := by
    intro n
    induction n with
    | zero => intro _; simp
    | succ n ih =>
      intro hn
      rw [List.take_succ_eq_append_getElem (by omega), List.filter_append, ih (by omega), List.range_succ, List.filter_append, List.map_append, ← atP_eq l n (by omega)]
      congr 1
      by_cases h : p (atP l n) = true
      · simp [h]
      · simp [h]
  have h := this l.length (Nat.le_refl _)
  rwa [List.take_length] at h

/-- The reference's way: by places. -/
theorem keptL_least (ls : List (List Int)) : keptL ((rights 0 ls).map Prod.snd) ((rights 0 ls).map Prod.snd).length = leastL ls := by
  obtain ⟨R, hR⟩ : ∃ R, R = rights 0 ls := ⟨_, rfl⟩
  have hasc : Asc R := by rw [hR]; exact (rights_asc ls 0).1
  unfold leastL leastP
  rw [← hR, filter_idx (idealB R) R]
  unfold keptL
  rw [List.length_map, List.map_map]
  have hat : ∀ i, i < R.length → atP (R.map Prod.snd) i = (atP R i).2 := fun i hi => by rw [atP_eq _ i (by simpa using hi), atP_eq R i hi]; simp
  have hk : ∀ i, i < R.length → keepI (R.map Prod.snd) i R.length = idealB R (atP R i) := fun i hi => by
    rw [Bool.eq_iff_iff, idealB_iff]
    unfold keepI Ideal
    rw [List.all_eq_true]
    constructor
    · intro h q hq hh
      obtain ⟨k, hk, rfl⟩ := List.getElem_of_mem hq
      have h1 := h k (by simpa using hk)
      unfold killB at h1
      rw [hat k hk, hat i hi, atP_eq R k hk] at h1
      simp only [Bool.not_eq_true', Bool.or_eq_false_iff, Bool.and_eq_false_iff, decide_eq_false_iff_not, Bool.not_eq_false', decide_eq_true_eq] at h1
      rcases hh with ⟨e1, e2⟩ | ⟨e1, e2⟩
      · have hki : k < i := by
          rcases Nat.lt_or_ge k i with hlt | hge
          · exact hlt
          · rcases Nat.eq_or_lt_of_le hge with he | hgt
            · subst he; rw [atP_eq R i hi] at e2; omega
            · have := List.pairwise_iff_getElem.1 hasc i k hi hk hgt
              rw [atP_eq R i hi] at e2; omega
        rcases h1.1 with h2 | h2
        · exact h2 e1
        · exact h2 hki
      · rcases h1.2 with h2 | h2
        · exact e1 h2
        · rw [(withinB_iff _ _).2 e2] at h2; cases h2
    · intro h k hk
      have hk' : k < R.length := by simpa using hk
      have h1 := h R[k] (List.getElem_mem hk')
      unfold killB
      rw [hat k hk', hat i hi, atP_eq R k hk']
      simp only [Bool.not_eq_true', Bool.or_eq_false_iff, Bool.and_eq_false_iff, decide_eq_false_iff_not, Bool.not_eq_false', decide_eq_true_eq]
      constructor
      · by_cases e : R[k].2 = (atP R i).2
        · refine .inr fun hki => h1 (.inl ⟨e, ?_⟩)
          have := List.pairwise_iff_getElem.1 hasc k i hk' hi hki
          rw [atP_eq R i hi]; exact this
        · exact .inl e
      · by_cases e : R[k].2 = (atP R i).2
        · exact .inl e
        · refine .inr ?_
          cases hw : withinB R[k].2 (atP R i).2 with
          | false => rfl
          | true => exact absurd (.inr ⟨e, (withinB_iff _ _).1 hw⟩) h1
  have hf : (List.range R.length).filter (fun i => keepI (R.map Prod.snd) i R.length) = (List.range R.length).filter fun i => idealB R (atP R i) :=
    List.filter_congr fun i hi => hk i (by simpa using hi)
  rw [hf]
  refine List.map_congr_left fun i hi => ?_
  have := (List.mem_filter.1 hi).1
  exact hat i (by simpa using this)

theorem rights_snd_step (es : List El) (k : Nat) (h : k < es.length) : (rights 0 (xsOf (es.take (k + 1)))).map Prod.snd = (rights 0 (xsOf (es.take k))).map Prod.snd ++ (if goodB (atP es k).xs = true then [cubeA (atP es k).xs] else []) := by
  rw [rights_step es k h, List.map_append]
  congr 1
  split <;> rfl

set_option maxRecDepth 100000 in
set_option maxHeartbeats 4000000 in
theorem refLeast_any (a : Option Addr) (n c : Nat) (es : List El) (w : World) (hr : RowL w a es) (hx : es.length = n) (hn : n ≤ 1000) (hok : ∀ e ∈ es, ElArg w e ∧ e.xs.length ≤ 1000) :
    Calls Try.prog 28 #[.slice a n c] w (NewLists w (leastL (xsOf es))) := by
  obtain ⟨i1, hi1, hy0, hy1, hy2⟩ := info_parts infoS
  have HR := hide hr
  have HX := hide hx
  have HK := hide hok
  generalize hP : NewLists w (leastL (xsOf es)) = Post
  have HP := hide hP
  clear hr hx hok hP
  go_enter Try.func28, Try.ntmps28
  go_wp2
  go_loopw [3, 4] (fun v i wr => ∃ (k q : Nat) (rs : List El), i = .int .i64 k ∧ k ≤ n ∧ q ≤ k ∧ Hid (Making w v q rs wr ∧ xsOf rs = (rights 0 (xsOf (es.take k))).map Prod.snd ∧ ∀ r ∈ rs, r.xs.length ≤ 1000)) (fun _ i _ => n - (intOf i).toNat)
  case atStart => exact ⟨0, 0, [], rfl, Nat.zero_le _, Nat.le_refl _, ⟨World.ownsRow_nil _ _ _ _, Below.refl _ _, (fun r hr => by cases hr), (fun r hr => by cases hr), rfl⟩, rfl, (fun r hr => by cases hr)⟩
  case round =>
    obtain ⟨k, q, rs, rfl, hk, hq, HM⟩ := hrel
    by_cases hlt : k < n
    · obtain ⟨b, off, rfl, hbw, hcell⟩ := HR.out.addr (by rw [HX.out]; omega)
      have hc := (HM.out.1.below.cell (p := ⟨b, off + k, none⟩) hbw).trans (hcell k (by rw [HX.out]; exact hlt))
      have hek := HK.out _ (atP_mem es k (by rw [HX.out]; exact hlt))
      have hst := rights_snd_step es k (by rw [HX.out]; exact hlt)
      obtain ⟨x, HXX⟩ : ∃ x, Hid (x = atP es k) := ⟨_, rfl⟩
      rw [← HXX.out] at hc hek hst
      obtain ⟨pl, xa, xc, xs⟩ := x
      replace hc : wr.cell? ⟨b, off + k, none⟩ = some (.slice xa xs.length xc) := hc
      dsimp only at hek hst
      have HST := hide hst
      have HO := hide (refOf_any xa xs.length xc xs wr ((hek.1.below HM.out.1.below).1) rfl (by have := hek.2; omega))
      have hlc : (cubeA xs).length ≤ 1000 := by have := cubeA_len xs; have := hek.2; omega
      have hszr := HM.out.1.below.size
      obtain ⟨ln, HLN⟩ : ∃ ln, Hid (ln = xs.length) := ⟨_, rfl⟩
      rw [← HLN.out] at hc HO
      clear hcell hst hek
      go_wp2_with fail
      refine HO.out.mono ?_
      rintro e w2 ⟨v2, rfl, hown2, hb2⟩
      have hlt2 := hown2.lt
      obtain ⟨a2, c2, rfl, hrow2, hnc2, -, -, -⟩ := row_of_own hown2
      have hblk : ∀ y, a2 = some y → wr.heap.size ≤ y.block ∧ y.block < w2.heap.size := fun y hy => by subst hy; exact hlt2 _ rfl
      have H2 := hide (And.intro hrow2 (And.intro hnc2 (And.intro hblk hb2)))
      have hsz2 := hb2.size
      have HMu := hide (HM.out.1.under hb2)
      obtain ⟨cl, HCL⟩ : ∃ cl, Hid (cl = (cubeA xs).length) := ⟨_, rfl⟩
      rw [← HCL.out] at hlc ⊢
      clear hown2 hlt2 hrow2 hnc2 hblk hb2 HO
      cases hg : goodB xs with
      | false =>
        go_wp2_with fail
        go_roundw
        case rel => exact ⟨k + 1, q, rs, by go_num, by omega, by omega, HMu.out, by rw [HST.out, hg, HM.out.2.1]; simp, HM.out.2.2⟩
        case measure => simp [intOf]; omega
      | true =>
        have hown3 := HMu.out.own
        go_wp2_with (at_builtin; refine wpList_append_own_at _ rfl (.tmp 27) (.tmp 29) 33 rfl w.heap.size 22 i1 (.slice none 0 0) 1 24 Try.underlying33 hi1 hy0 hy1 hy2 rfl (by decide) _ _ _ rfl (hown3.alloc _) ⟨w2.heap.size, 0, none⟩ 1 1 [.slice a2 cl c2] rfl rfl (cell_one_new _ _ _) (by intro u hu; simp at hu; subst hu; rfl) (by unfold maxLen; omega) (by omega) (by simp; omega) ?_; intro v6 w6 hown6 hg6 _ hat6)
        go_roundw
        case rel =>
          have ev : (.slice a2 cl c2 : Value) = (⟨0, a2, c2, cubeA xs⟩ : El).v := by unfold El.v; rw [HCL.out]
          rw [ev] at hown6
          refine ⟨k + 1, q + 1, rs ++ [⟨0, a2, c2, cubeA xs⟩], by go_num, by omega, by omega, HMu.out.step ⟨H2.out.1, H2.out.2.1, fun y hy => (H2.out.2.2.1 y hy).2⟩ (fun y hy e => ?_) hown6 hg6 hat6, ?_, fun r hr => ?_⟩
          · have h1 := (HM.out.1.own.lt _ e).2
            have h2 := (H2.out.2.2.1 y hy).1
            omega
          · rw [HST.out, hg, if_pos rfl, ← HM.out.2.1]; simp [xsOf]
          · rcases List.mem_append.1 hr with h | h
            · exact HM.out.2.2 r h
            · rw [List.mem_singleton] at h; subst h; show (cubeA xs).length ≤ 1000; rw [← HCL.out]; exact hlc
        case measure => simp [intOf]; omega
    · obtain rfl : k = n := by omega
      obtain ⟨wA, hwA⟩ : ∃ wA, wA = wr := ⟨_, rfl⟩
      subst hwA
      obtain ⟨a3, c3, hu3, hrow3, -, -⟩ := rowL_of_own HM.out.1.own
      subst hu3
      have hxs := HM.out.2.1
      rw [List.take_of_length_le (by rw [HX.out]; exact Nat.le_refl _)] at hxs
      have hL : keptL (xsOf rs) (xsOf rs).length = leastL (xsOf es) := by rw [hxs]; exact keptL_least (xsOf es)
      have hql : (xsOf rs).length = q := by simp [xsOf, HM.out.1.len]
      have hat : ∀ i, i < q → atP (xsOf rs) i = (atP rs i).xs := fun i hi => by
        have h1 := xsOf_at rs i (by rw [HM.out.1.len]; exact hi)
        rw [atP_some (xsOf rs) i (by omega)] at h1
        exact Option.some.inj h1
      rw [hql] at hL
      have H3 := hide (And.intro hrow3 (And.intro hL (And.intro hql hat)))
      clear hrow3 hxs hL hql hat hlt
      go_wp2
      go_loopw [7, 8] (fun v i wr => ∃ (k q2 : Nat) (ts : List El), i = .int .i64 k ∧ k ≤ q ∧ q2 ≤ k ∧ Hid (wr.ownsRow wA.heap.size 22 1 v q2 (ts.map El.v) ∧ Below wA.heap.size wA wr ∧ ts.length = q2 ∧ (∀ r ∈ ts, r ∈ rs) ∧ xsOf ts = keptL (xsOf rs) k)) (fun _ i _ => q - (intOf i).toNat)
      case atStart => exact ⟨0, 0, [], rfl, Nat.zero_le _, Nat.le_refl _, World.ownsRow_nil _ _ _ _, Below.refl _ _, rfl, (fun r hr => by cases hr), rfl⟩
      case round =>
        obtain ⟨i, q2, ts, rfl, hik, hq2, HT⟩ := hrel
        obtain ⟨wo, hwo⟩ : ∃ wo, wo = wr := ⟨_, rfl⟩
        subst hwo
        by_cases hiq : i < q
        · obtain ⟨g, off2, rfl, hgl, hcell⟩ := H3.out.1.addr (by rw [HM.out.1.len]; omega)
          have hci := (HT.out.2.1.cell (p := ⟨g, off2 + i, none⟩) hgl).trans (hcell i (by rw [HM.out.1.len]; exact hiq))
          have hmi := atP_mem rs i (by rw [HM.out.1.len]; exact hiq)
          have hoi := HM.out.1.oks _ hmi
          have hli := HM.out.2.2 _ hmi
          have hati := H3.out.2.2.2 i hiq
          have hks := keptL_succ (xsOf rs) i
          obtain ⟨x, HXX⟩ : ∃ x, Hid (x = atP rs i) := ⟨_, rfl⟩
          rw [← HXX.out] at hci hmi hoi hli hati
          obtain ⟨pl, xa, xc, xs⟩ := x
          replace hci : wo.cell? ⟨g, off2 + i, none⟩ = some (.slice xa xs.length xc) := hci
          dsimp only at hli hati
          rw [hati, H3.out.2.2.1] at hks
          have HI := hide (And.intro hmi (And.intro hoi (And.intro hati hks)))
          obtain ⟨ln, HLN⟩ : ∃ ln, Hid (ln = xs.length) := ⟨_, rfl⟩
          rw [← HLN.out] at hci hli
          clear hcell hmi hoi hati hks
          go_wp2
          go_loopw [9, 10] (fun kp i2 wr => ∃ (k : Nat) (kb : Bool), i2 = .int .i64 k ∧ k ≤ q ∧ kp = .bool kb ∧ Hid (Drew wo wr ∧ kb = keepI (xsOf rs) i k)) (fun _ i2 _ => q - (intOf i2).toNat)
          case atStart => exact ⟨0, true, rfl, Nat.zero_le _, rfl, Drew.refl wo, rfl⟩
          case round =>
            obtain ⟨k2, kb, rfl, hk2, rfl, HB⟩ := hrel
            by_cases hgo : k2 < q ∧ kb = true
            · obtain ⟨hk2q, rfl⟩ := hgo
              obtain ⟨g', off', e', hgl', hcell⟩ := H3.out.1.addr (by rw [HM.out.1.len]; omega)
              cases e'
              have Bt : Hid (Below wA.heap.size wA wr) := HT.out.2.1.trans (HB.out.1.below.mono HT.out.2.1.size)
              have hck := (Bt.out.cell (p := ⟨g, off2 + k2, none⟩) hgl').trans (hcell k2 (by rw [HM.out.1.len]; exact hk2q))
              have hmk := atP_mem rs k2 (by rw [HM.out.1.len]; exact hk2q)
              have hok2 := HM.out.1.oks _ hmk
              have hlk := HM.out.2.2 _ hmk
              have hatk := H3.out.2.2.2 k2 hk2q
              obtain ⟨y, HYY⟩ : ∃ y, Hid (y = atP rs k2) := ⟨_, rfl⟩
              rw [← HYY.out] at hck hok2 hlk hatk
              obtain ⟨ql, ya, yc, ys⟩ := y
              replace hck : wr.cell? ⟨g, off2 + k2, none⟩ = some (.slice ya ys.length yc) := hck
              dsimp only at hlk hatk
              have hcx : wr.cell? ⟨g, off2 + i, none⟩ = some (.slice xa ln xc) := (cell_heap HB.out.1.heap _).trans hci
              have HSm : Hid (∀ q, Calls Try.prog 12 #[.slice ya ys.length yc, .slice xa xs.length xc] (wr.drewN q) fun e w' => e = .returned (.bool (decide (ys = xs))) ∧ ∃ m, w' = (wr.drewN q).drewN m) := fun q =>
                same_any ya xa ys.length yc xs.length xc ys xs (wr.drewN q) (row_like (hok2.below Bt.out).1 rfl) rfl (row_like (HI.out.2.1.below Bt.out).1 rfl) rfl (by omega) (by rw [← HLN.out]; omega)
              have HWn : Hid (∀ W : World, W.heap = wr.heap → Calls Try.prog 18 #[.slice ya ys.length yc, .slice xa xs.length xc] W fun e w' => e = .returned (.bool (withinB ys xs)) ∧ w' = W) := fun W hW =>
                refWithin_any ya xa ys.length yc xs.length xc ys xs W (row_like (hok2.below Bt.out).1 hW) rfl (row_like (HI.out.2.1.below Bt.out).1 hW) rfl (by omega) (by rw [← HLN.out]; omega)
              have hks2 : keepI (xsOf rs) i (k2 + 1) = !killB (xsOf rs) i k2 := by rw [keepI_succ, ← HB.out.2]; rfl
              unfold killB at hks2
              rw [hatk, HI.out.2.2.1] at hks2
              obtain ⟨l2, HL2⟩ : ∃ l2, Hid (l2 = ys.length) := ⟨_, rfl⟩
              rw [← HL2.out] at hck HSm HWn
              rw [← HLN.out] at HSm HWn
              have HKS := hide hks2
              clear hcell hmk hok2 hlk hatk hks2 hgl'
              by_cases he : ys = xs
              · have HE := hide he
                rw [decide_eq_true he] at HSm HKS
                clear he
                by_cases hki : (k2 : Int) < (i : Int)
                · have hd : decide (k2 < i) = true := decide_eq_true (by omega)
                  rw [hd] at HKS
                  clear hd
                  go_wp2
                  go_quiet (first | (go_at_call 12; refine Calls.quiet_of (HSm.out _)))
                  go_wp2
                  go_quiet (fail)
                  go_wp2
                  go_roundw
                  case rel => exact ⟨k2 + 1, false, by go_num, by omega, rfl, HB.out.1.trans (by first | exact ⟨_, rfl⟩ | exact Drew.trans ⟨_, rfl⟩ ⟨_, rfl⟩), HKS.out.symm⟩
                  case measure => simp [intOf]; omega
                · have hd : decide (k2 < i) = false := decide_eq_false (by omega)
                  rw [hd] at HKS
                  have hdI : decide ((k2 : Int) < (i : Int)) = false := decide_eq_false hki
                  go_wp2
                  go_quiet (first | (go_at_call 12; refine Calls.quiet_of (HSm.out _)))
                  go_wp2
                  go_quiet (fail)
                  go_wp2
                  go_roundw
                  case rel => exact ⟨k2 + 1, true, by go_num, by omega, rfl, HB.out.1.trans (by first | exact ⟨_, rfl⟩ | exact Drew.trans ⟨_, rfl⟩ ⟨_, rfl⟩), HKS.out.symm⟩
                  case measure => simp [intOf]; omega
              · have HE := hide he
                rw [decide_eq_false he] at HSm HKS
                clear he
                obtain ⟨wb, HWB⟩ : ∃ wb, Hid (wb = withinB ys xs) := ⟨_, rfl⟩
                rw [← HWB.out] at HWn HKS
                cases wb with
                | true =>
                  go_wp2
                  go_quiet (first | (go_at_call 12; refine Calls.quiet_of (HSm.out _)))
                  go_wp2
                  go_quiet (first | (go_at_call 18; refine (HWn.out _ (by rfl)).mono ?_; rintro e w' ⟨rfl, rfl⟩; exact ⟨rfl, _, rfl⟩))
                  go_wp2
                  go_roundw
                  case rel => exact ⟨k2 + 1, false, by go_num, by omega, rfl, HB.out.1.trans (by first | exact ⟨_, rfl⟩ | exact Drew.trans ⟨_, rfl⟩ ⟨_, rfl⟩), HKS.out.symm⟩
                  case measure => simp [intOf]; omega
                | false =>
                  go_wp2
                  go_quiet (first | (go_at_call 12; refine Calls.quiet_of (HSm.out _)))
                  go_wp2
                  go_quiet (first | (go_at_call 18; refine (HWn.out _ (by rfl)).mono ?_; rintro e w' ⟨rfl, rfl⟩; exact ⟨rfl, _, rfl⟩))
                  go_wp2
                  go_roundw
                  case rel => exact ⟨k2 + 1, true, by go_num, by omega, rfl, HB.out.1.trans (by first | exact ⟨_, rfl⟩ | exact Drew.trans ⟨_, rfl⟩ ⟨_, rfl⟩), HKS.out.symm⟩
                  case measure => simp [intOf]; omega
            · have hkq : Hid (kb = keepI (xsOf rs) i q) := by
                show kb = keepI (xsOf rs) i q
                by_cases hk2q : k2 < q
                · have hkb : kb = false := by cases kb with | false => rfl | true => exact absurd ⟨hk2q, rfl⟩ hgo
                  rw [keepI_no (HB.out.2.symm.trans hkb) q (by omega)]; exact hkb
                · obtain rfl : k2 = q := by omega
                  exact HB.out.2
              have hszo := HT.out.2.1.size
              cases kb with
              | false =>
                by_cases hk2q : k2 < q
                all_goals
                  go_wp2
                  go_roundw
                  case rel => exact ⟨i + 1, q2, ts, by go_num, by omega, by omega, own_like HT.out.1 HB.out.1.heap, HT.out.2.1.trans (HB.out.1.below.mono hszo), HT.out.2.2.1, HT.out.2.2.2.1, by rw [HI.out.2.2.2, ← hkq.out, HT.out.2.2.2.2]; simp⟩
                  case measure => simp [intOf]; omega
              | true =>
                have hk2q : k2 = q := by
                  rcases Nat.lt_or_ge k2 q with h | h
                  · exact absurd ⟨h, rfl⟩ hgo
                  · omega
                subst hk2q
                clear hgo
                have hcx : wr.cell? ⟨g, off2 + i, none⟩ = some (.slice xa ln xc) := (cell_heap HB.out.1.heap _).trans hci
                have hown3 : wr.ownsRow wA.heap.size 22 1 u7 q2 (ts.map El.v) := own_like HT.out.1 HB.out.1.heap
                have hszr : wA.heap.size ≤ wr.heap.size := by rw [HB.out.1.heap]; exact hszo
                go_wp2_with (at_builtin; refine wpList_append_own _ rfl (.tmp 78) (.tmp 83) 33 rfl wA.heap.size 22 i1 (.slice none 0 0) 1 24 Try.underlying33 hi1 hy0 hy1 hy2 rfl (by decide) _ _ _ rfl (hown3.alloc _) ⟨wr.heap.size, 0, none⟩ 1 1 [.slice xa ln xc] rfl rfl (cell_one_new _ _ _) (by intro u hu; simp at hu; subst hu; rfl) (by unfold maxLen; omega) (by omega) (by simp; omega) ?_; intro v6 w6 hown6 hg6 _)
                go_roundw
                case rel =>
                  have ev : (.slice xa ln xc : Value) = (⟨pl, xa, xc, xs⟩ : El).v := by unfold El.v; rw [HLN.out]
                  rw [ev] at hown6
                  have hbr : Below wA.heap.size wA wr := HT.out.2.1.trans (HB.out.1.below.mono hszo)
                  refine ⟨i + 1, q2 + 1, ts ++ [⟨pl, xa, xc, xs⟩], by go_num, by omega, by omega, by rw [List.map_append]; exact hown6, below_step hbr hg6 hszr (fun j hj => (hown3.lt j hj).1) ⟨rfl, rfl, rfl, rfl⟩, by simp [HT.out.2.2.1], fun r hr => ?_, ?_⟩
                  · rcases List.mem_append.1 hr with h | h
                    · exact HT.out.2.2.2.1 r h
                    · rw [List.mem_singleton] at h; subst h; exact HI.out.1
                  · rw [HI.out.2.2.2, ← hkq.out, if_pos rfl, ← HT.out.2.2.2.2]; simp [xsOf]
                case measure => simp [intOf]; omega
        · obtain rfl : i = q := by omega
          have hfin : Hid (Post (.returned u7) wo) := by
            show Post (.returned u7) wo
            rw [← HP.out]
            obtain ⟨t1, t2, t3, t4, t5⟩ := HT.out
            have hb := HM.out.1.below
            exact ⟨u7, ts, rfl, by rw [t3]; exact own_le t1 hb.size, hb.trans (t2.mono hb.size), fun r hr => (HM.out.1.oks r (t4 r hr)).below t2, by rw [t5]; exact H3.out.2.1⟩
          go_wp2
          exact hfin.out
end Go.Proofs.Ytcbgnmkipbhncaa
