/-
  THE WALK of the law CubeStands.
-/
import Derived.Test.YtcbgnmkipbhncaaLists
namespace Go.Proofs.Ytcbgnmkipbhncaa
open Go.RowKit
set_option linter.unusedSectionVars false
variable [Inhabited El]

theorem rights_of_mem (ls : List (List Int)) : ∀ i, ∀ l ∈ ls, Good l → ∃ p ∈ rights i ls, p.2 = cubeA l := by
  induction ls with
  | nil => intro i l hl; cases hl
  | cons x r ih =>
    intro i l hl hg
    rw [rights]
    rcases List.mem_cons.1 hl with rfl | hl
    · rw [if_pos ((goodB_iff l).2 hg)]
      exact ⟨_, List.mem_cons_self, rfl⟩
    · obtain ⟨p, h1, h2⟩ := ih (i + 1) l hl hg
      split
      · exact ⟨p, List.mem_cons_of_mem _ h1, h2⟩
      · exact ⟨p, h1, h2⟩

theorem ideal_under {ls : List (List Int)} : ∀ n m : Nat, ∀ p ∈ rights 0 ls, p.2.length = n → p.1.toNat = m → ∃ q ∈ rights 0 ls, Ideal (rights 0 ls) q ∧ ∀ x ∈ q.2, x ∈ p.2 := by
  intro n
  induction n using Nat.strongRecOn with
  | _ n ihn =>
    intro m
    induction m using Nat.strongRecOn with
    | _ m ihm =>
      intro p hp hn hm
      by_cases hid : Ideal (rights 0 ls) p
      · exact ⟨p, hp, hid, fun x hx => hx⟩
      · have : ∃ q ∈ rights 0 ls, (q.2 = p.2 ∧ q.1 < p.1) ∨ (q.2 ≠ p.2 ∧ ∀ x ∈ q.2, x ∈ p.2) := Classical.byContradiction fun hn => hid fun q hq hh => hn ⟨q, hq, hh⟩
        obtain ⟨q, hq, hh⟩ := this
        have hq0 := (rights_asc ls 0).2 q hq
        have hp0 := (rights_asc ls 0).2 p hp
        rcases hh with ⟨h1, h2⟩ | ⟨h1, h2⟩
        · obtain ⟨r, hr, hi, hs⟩ := ihm q.1.toNat (by omega) q hq (by rw [h1]; exact hn) rfl
          exact ⟨r, hr, hi, fun x hx => by rw [← h1]; exact hs x hx⟩
        · have hs := up_sub (rights_rt ls 0 q hq).2 (rights_rt ls 0 p hp).2 h2
          have hl : q.2.length < n := by
            rw [← hn]
            rcases Nat.lt_or_ge q.2.length p.2.length with h | h
            · exact h
            · exact absurd (hs.2 (Nat.le_antisymm hs.1 h)) h1
          obtain ⟨r, hr, hi, hs2⟩ := ihn q.2.length hl q.1.toNat q hq rfl rfl
          exact ⟨r, hr, hi, fun x hx => h2 x (hs2 x hx)⟩

theorem least_stands {ls : List (List Int)} {l : List Int} (hl : l ∈ ls) (hg : Good l) : ∃ s ∈ leastL ls, withinB s (cubeA l) = true := by
  obtain ⟨p, hp, e⟩ := rights_of_mem ls 0 l hl hg
  obtain ⟨q, hq, hi, hs⟩ := ideal_under _ _ p hp rfl rfl
  exact ⟨q.2, List.mem_map.2 ⟨q, List.mem_filter.2 ⟨hq, (idealB_iff _ _).2 hi⟩, rfl⟩, (withinB_iff _ _).2 (by rw [← e]; exact hs)⟩

theorem least_apart {ls : List (List Int)} {i k : Nat} (hi : i < (leastL ls).length) (hk : k < (leastL ls).length) (hne : i ≠ k) : withinB (atP (leastL ls) i) (atP (leastL ls) k) = false := by
  have hasc : Asc (leastP ls) := List.Pairwise.filter _ (rights_asc ls 0).1
  have hi' : i < (leastP ls).length := by simpa [leastL] using hi
  have hk' : k < (leastP ls).length := by simpa [leastL] using hk
  have ei : atP (leastL ls) i = (leastP ls)[i].2 := by rw [atP_eq _ i hi]; simp [leastL]
  have ek : atP (leastL ls) k = (leastP ls)[k].2 := by rw [atP_eq _ k hk]; simp [leastL]
  rw [ei, ek]
  cases hw : withinB (leastP ls)[i].2 (leastP ls)[k].2 with
  | false => rfl
  | true =>
    have hs := (withinB_iff _ _).1 hw
    obtain ⟨hpi, hii⟩ := List.mem_filter.1 (List.getElem_mem hi')
    obtain ⟨hpk, hik⟩ := List.mem_filter.1 (List.getElem_mem hk')
    rw [idealB_iff] at hii hik
    have h1 := hik _ hpi
    have h2 := hii _ hpk
    have hne1 : (leastP ls)[i].1 ≠ (leastP ls)[k].1 := by
      rcases Nat.lt_or_gt_of_ne hne with h | h
      · have := List.pairwise_iff_getElem.1 hasc i k hi' hk' h; omega
      · have := List.pairwise_iff_getElem.1 hasc k i hk' hi' h; omega
    by_cases e : (leastP ls)[i].2 = (leastP ls)[k].2
    · refine absurd (?_ : (leastP ls)[i].1 < (leastP ls)[k].1 ∨ (leastP ls)[k].1 < (leastP ls)[i].1) ?_
      · omega
      · rintro (h | h)
        · exact h1 (.inl ⟨e, h⟩)
        · exact h2 (.inl ⟨e.symm, h⟩)
    · exact absurd (.inr ⟨e, hs⟩) h1

theorem leastL_short {ls : List (List Int)} : ∀ s ∈ leastL ls, ∃ l ∈ ls, s = cubeA l := fun s hs => by
  obtain ⟨p, hp, rfl⟩ := List.mem_map.1 hs
  exact rights_src ls 0 p (List.mem_filter.1 hp).1
theorem leastL_len (ls : List (List Int)) : (leastL ls).length ≤ ls.length := by
  unfold leastL leastP
  rw [List.length_map]
  exact Nat.le_trans (List.length_filter_le _ _) (rights_len ls 0)

def thereB (p : Bool) (rs : List El) (k : Nat) (cs : List Int) : Bool := !p || (rs.take k).any fun r => withinB r.xs cs
theorem thereB_step (p : Bool) (rs : List El) (k : Nat) (cs : List Int) (h : k < rs.length) : thereB p rs (k + 1) cs = (thereB p rs k cs || withinB (atP rs k).xs cs) := by
  unfold thereB
  rw [List.take_succ_eq_append_getElem h, List.any_append, ← atP_eq rs k h]
  simp [Bool.or_assoc]

set_option maxRecDepth 100000 in
set_option maxHeartbeats 4000000 in
theorem cubeStands_mid (a : Option Addr) (n c : Nat) (es : List El) (w : World) (hr : RowL w a es) (hx : es.length = n) (hn : n ≤ 40) (hok : ∀ e ∈ es, ElArg w e ∧ e.xs.length ≤ 60) (hbig : bigB (xsOf es) = false) :
    Calls Try.prog 7 #[.slice a n c] w fun e w' => e = .returned (.bool true) ∧ Below w.heap.size w w' := by
  have HR := hide (And.intro hr (And.intro hx hok))
  have HBg := hide hbig
  clear hr hx hok hbig
  go_enter Try.func7, Try.ntmps7
  go_wp2_with (go_at_call 9; refine (alive_any _).mono ?_; rintro e w1 ⟨rfl, hb1⟩)
  have B1 := hide hb1
  clear hb1
  refine (big_any a n c es w1 (HR.out.1.below B1.out) HR.out.2.1 (by omega) (fun e he => by have := (HR.out.2.2 e he).2; omega)).mono ?_
  rintro e w2 ⟨he2, hw2⟩
  rw [HBg.out] at he2
  subst he2
  obtain rfl := hw2.symm
  go_wp2_with fail
  refine (least_any a n c es w1 (HR.out.1.below B1.out) HR.out.2.1 (by omega) (fun e he => ⟨(HR.out.2.2 e he).1.below B1.out, by have := (HR.out.2.2 e he).2; omega⟩)).mono ?_
  rintro e w3 ⟨v3, rs, rfl, hown3, hb3, hoks3, hxs3⟩
  obtain ⟨a3, c3, rfl, hrow3, -, -⟩ := rowL_of_own hown3
  have B3 : Hid (Below w.heap.size w w3) := B1.out.trans (hb3.mono B1.out.size)
  have hxl : (xsOf rs).length = rs.length := by simp [xsOf]
  have hql : rs.length ≤ n := by
    have h1 := leastL_len (xsOf es)
    rw [← hxs3, hxl] at h1
    have h2 : (xsOf es).length = n := by simp [xsOf, HR.out.2.1]
    omega
  have hrl : ∀ r ∈ rs, ElOk w3 r ∧ r.xs.length ≤ 60 := fun r hr => by
    obtain ⟨l, hl, e⟩ := leastL_short r.xs (by rw [← hxs3]; exact List.mem_map.2 ⟨r, hr, rfl⟩)
    obtain ⟨e', he', rfl⟩ := List.mem_map.1 hl
    have h1 := (HR.out.2.2 e' he').2
    have h2 := cubeA_len e'.xs
    exact ⟨hoks3 r hr, by rw [e]; omega⟩
  have H3 := hide (And.intro hrow3 (And.intro hrl hxs3))
  obtain ⟨q, HQ⟩ : ∃ q, Hid (q = rs.length) := ⟨_, rfl⟩
  rw [← HQ.out] at hql ⊢
  clear hown3 hb3 hoks3 hxs3 hrow3 hrl hxl
  go_wp2
  go_loopw [6] (fun i wr => ∃ k : Nat, i = .int .i64 k ∧ k ≤ n ∧ Hid (Below w3.heap.size w3 wr)) (fun i _ => n - (intOf i).toNat)
  case atStart => exact ⟨0, rfl, Nat.zero_le _, Below.refl _ _⟩
  case round =>
    obtain ⟨k, rfl, hk, HM⟩ := hrel
    rename World => wo
    have Bo : Hid (Below w.heap.size w wo) := B3.out.trans (HM.out.mono B3.out.size)
    by_cases hlt : k < n
    · obtain ⟨b, off, rfl, hbw, hcell⟩ := HR.out.1.addr (by rw [HR.out.2.1]; omega)
      have hc := (Bo.out.cell (p := ⟨b, off + k, none⟩) hbw).trans (hcell k (by rw [HR.out.2.1]; exact hlt))
      have hm := atP_mem es k (by rw [HR.out.2.1]; exact hlt)
      have hek := HR.out.2.2 _ hm
      obtain ⟨x, HXX⟩ : ∃ x, Hid (x = atP es k) := ⟨_, rfl⟩
      rw [← HXX.out] at hc hm hek
      obtain ⟨pl, xa, xc, xs⟩ := x
      replace hc : wo.cell? ⟨b, off + k, none⟩ = some (.slice xa xs.length xc) := hc
      dsimp only at hek
      have HO := hide (refOf_any xa xs.length xc xs wo ((hek.1.below Bo.out).1) rfl (by omega))
      have HIn : Hid (xs ∈ xsOf es) := List.mem_map.2 ⟨_, hm, rfl⟩
      obtain ⟨ln, HLN⟩ : ∃ ln, Hid (ln = xs.length) := ⟨_, rfl⟩
      rw [← HLN.out] at hc HO
      have hl60 : (cubeA xs).length ≤ 60 := by have := cubeA_len xs; omega
      clear hcell hm hek
      go_wp2_with fail
      refine HO.out.mono ?_
      rintro e w4 ⟨v4, rfl, hown4, hb4⟩
      obtain ⟨a4, c4, rfl, hrow4, -, -, -, -⟩ := row_of_own hown4
      have H4 := hide (And.intro hrow4 hb4)
      obtain ⟨cl, HCL⟩ : ∃ cl, Hid (cl = (cubeA xs).length) := ⟨_, rfl⟩
      rw [← HCL.out] at hl60 ⊢
      obtain ⟨p, HPg⟩ : ∃ p, Hid (p = goodB xs) := ⟨_, rfl⟩
      rw [← HPg.out]
      clear hown4 hrow4 hb4 HO
      have B34 : Hid (Below w3.heap.size w3 w4) := HM.out.trans (H4.out.2.mono HM.out.size)
      go_wp2
      go_loop [9, 10] (fun t i => ∃ (j : Nat) (tb : Bool), i = .int .i64 j ∧ j ≤ q ∧ t = .bool tb ∧ Hid (tb = thereB p rs j (cubeA xs))) (fun _ i => q - (intOf i).toNat)
      case atStart => exact ⟨0, !p, rfl, Nat.zero_le _, rfl, by show (!p) = thereB p rs 0 (cubeA xs); simp [thereB]⟩
      case round =>
        obtain ⟨j, tb, rfl, hj, rfl, HT⟩ := hrel
        by_cases hjq : j < q
        · have hst := thereB_step p rs j (cubeA xs) (by rw [← HQ.out]; exact hjq)
          obtain ⟨g, off2, rfl, hgl, hcell⟩ := H3.out.1.addr (by rw [← HQ.out]; omega)
          have hcj := (B34.out.cell (p := ⟨g, off2 + j, none⟩) hgl).trans (hcell j (by rw [← HQ.out]; exact hjq))
          have hmr := H3.out.2.1 _ (atP_mem rs j (by rw [← HQ.out]; exact hjq))
          obtain ⟨y, HYY⟩ : ∃ y, Hid (y = atP rs j) := ⟨_, rfl⟩
          rw [← HYY.out] at hcj hmr hst
          obtain ⟨ql, ya, yc, ys⟩ := y
          replace hcj : w4.cell? ⟨g, off2 + j, none⟩ = some (.slice ya ys.length yc) := hcj
          dsimp only at hmr hst
          have HW := hide (refWithin_any ya a4 ys.length yc cl c4 ys (cubeA xs) w4 ((hmr.1.below B34.out).1) rfl H4.out.1 HCL.out.symm (by omega) (by omega))
          obtain ⟨l2, HL2⟩ : ∃ l2, Hid (l2 = ys.length) := ⟨_, rfl⟩
          rw [← HL2.out] at hcj HW
          have HST := hide hst
          clear hcell hmr hst
          cases tb with
          | true =>
            go_wp2
            go_round
            case rel => exact ⟨j + 1, true, by go_num, by omega, rfl, by show true = _; rw [HST.out, ← HT.out]; rfl⟩
            case measure => simp [intOf]; omega
          | false =>
            obtain ⟨wb, HWB⟩ : ∃ wb, Hid (wb = withinB ys (cubeA xs)) := ⟨_, rfl⟩
            rw [← HWB.out] at HW
            go_wp2_with (go_at_call 18; refine HW.out.mono ?_; rintro e w5 ⟨rfl, hw5⟩; obtain rfl := hw5.symm)
            go_round
            case rel => exact ⟨j + 1, wb, by go_num, by omega, rfl, by show wb = _; rw [HST.out, ← HT.out, HWB.out]; rfl⟩
            case measure => simp [intOf]; omega
        · obtain rfl : j = q := by omega
          have htb : tb = true := by
            rw [HT.out]
            unfold thereB
            rw [List.take_of_length_le (by rw [HQ.out]; exact Nat.le_refl _)]
            cases p with
            | false => rfl
            | true =>
              obtain ⟨s, hs, hw⟩ := least_stands HIn.out ((goodB_iff xs).1 HPg.out.symm)
              rw [← H3.out.2.2] at hs
              obtain ⟨r, hr, rfl⟩ := List.mem_map.1 hs
              show (false || _) = true
              rw [Bool.false_or]
              exact List.any_eq_true.2 ⟨r, hr, hw⟩
          subst htb
          go_wp2
          go_roundw
          case rel => exact ⟨k + 1, by go_num, by omega, B34.out⟩
          case measure => simp [intOf]; omega
    · obtain rfl : k = n := by omega
      clear hlt
      go_wp2
      go_loopw [11] (fun i wr => ∃ j : Nat, i = .int .i64 j ∧ j ≤ q ∧ Hid (Drew wo wr)) (fun i _ => q - (intOf i).toNat)
      case atStart => exact ⟨0, rfl, Nat.zero_le _, Drew.refl wo⟩
      case round =>
        obtain ⟨j, rfl, hj, HD⟩ := hrel
        obtain ⟨wy, hwy⟩ : ∃ wy, wy = wr := ⟨_, rfl⟩
        subst hwy
        by_cases hjq : j < q
        · go_wp2
          go_loopw [12] (fun i wr => ∃ t : Nat, i = .int .i64 t ∧ t ≤ q ∧ Hid (Drew wo wr)) (fun i _ => q - (intOf i).toNat)
          case atStart => exact ⟨0, rfl, Nat.zero_le _, HD.out⟩
          case round =>
            obtain ⟨t, rfl, ht, HD2⟩ := hrel
            by_cases htq : t < q
            · have Bt : Hid (Below w3.heap.size w3 wr) := HM.out.trans (HD2.out.below.mono HM.out.size)
              obtain ⟨g, off2, rfl, hgl, hcell⟩ := H3.out.1.addr (by rw [← HQ.out]; omega)
              have hcj := (Bt.out.cell (p := ⟨g, off2 + j, none⟩) hgl).trans (hcell j (by rw [← HQ.out]; exact hjq))
              have hct := (Bt.out.cell (p := ⟨g, off2 + t, none⟩) hgl).trans (hcell t (by rw [← HQ.out]; exact htq))
              by_cases hjt : j = t
              · subst hjt
                clear hcell hcj hct
                go_wp2
                go_quiet (fail)
                go_wp2
                go_roundw
                case rel => exact ⟨j + 1, by go_num, by omega, HD2.out.trans ⟨_, rfl⟩⟩
                case measure => simp [intOf]; omega
              · have hne : ((j : Int) == (t : Int)) = false := by rw [beq_eq_false_iff_ne]; omega
                have hne2 : ((j : Int) != (t : Int)) = true := by rw [bne, hne]; rfl
                have hne3 : ¬ (j : Int) = (t : Int) := by omega
                have hmj := H3.out.2.1 _ (atP_mem rs j (by rw [← HQ.out]; exact hjq))
                have hmt := H3.out.2.1 _ (atP_mem rs t (by rw [← HQ.out]; exact htq))
                have hwf : withinB (atP rs j).xs (atP rs t).xs = false := by
                  have hl : (leastL (xsOf es)).length = q := by rw [← H3.out.2.2]; simp [xsOf, HQ.out]
                  have := least_apart (ls := xsOf es) (i := j) (k := t) (by omega) (by omega) hjt
                  rw [← H3.out.2.2] at this
                  have ej : ∀ u, u < q → atP (xsOf rs) u = (atP rs u).xs := fun u hu => by
                    have h1 := xsOf_at rs u (by rw [← HQ.out]; exact hu)
                    rw [atP_some (xsOf rs) u (by simp [xsOf, ← HQ.out]; exact hu)] at h1
                    exact Option.some.inj h1
                  rwa [ej j hjq, ej t htq] at this
                obtain ⟨y, HYY⟩ : ∃ y, Hid (y = atP rs j) := ⟨_, rfl⟩
                obtain ⟨z, HZZ⟩ : ∃ z, Hid (z = atP rs t) := ⟨_, rfl⟩
                rw [← HYY.out] at hcj hmj hwf
                rw [← HZZ.out] at hct hmt hwf
                obtain ⟨ql, ya, yc, ys⟩ := y
                obtain ⟨zl, za, zc, zs⟩ := z
                replace hcj : wr.cell? ⟨g, off2 + j, none⟩ = some (.slice ya ys.length yc) := hcj
                replace hct : wr.cell? ⟨g, off2 + t, none⟩ = some (.slice za zs.length zc) := hct
                dsimp only at hmj hmt hwf
                have HW : Hid (∀ q, Calls Try.prog 18 #[.slice ya ys.length yc, .slice za zs.length zc] (wr.drewN q) fun e w' => e = .returned (.bool false) ∧ w' = wr.drewN q) := fun q => by
                  have := refWithin_any ya za ys.length yc zs.length zc ys zs (wr.drewN q) (row_like (hmj.1.below Bt.out).1 rfl) rfl (row_like (hmt.1.below Bt.out).1 rfl) rfl (by omega) (by omega)
                  rw [hwf] at this
                  exact this
                obtain ⟨l1, HL1⟩ : ∃ l1, Hid (l1 = ys.length) := ⟨_, rfl⟩
                obtain ⟨l2, HL2⟩ : ∃ l2, Hid (l2 = zs.length) := ⟨_, rfl⟩
                rw [← HL1.out] at hcj HW
                rw [← HL2.out] at hct HW
                clear hcell hmj hmt hwf
                go_wp2
                go_quiet (first | (go_at_call 18; refine Calls.quiet_of_same (HW.out _)))
                go_wp2
                go_roundw
                case rel => exact ⟨t + 1, by go_num, by omega, HD2.out.trans ⟨_, rfl⟩⟩
                case measure => simp [intOf]; omega
            · obtain rfl : t = q := by omega
              go_wp2
              go_roundw
              case rel => exact ⟨j + 1, by go_num, by omega, HD2.out⟩
              case measure => simp [intOf]; omega
        · obtain rfl : j = q := by omega
          go_wp2
          go_ret
          exact ⟨rfl, Bo.out.trans (HD.out.below.mono Bo.out.size)⟩

/-- WHAT A WALK IS TOLD OF A SLICE OF SLICES OF INTS THAT CAME IN. -/
def IsLists (w : World) (a : Option Addr) (len _cap : Nat) (es : List El) : Prop := RowL w a es ∧ es.length = len ∧ len ≤ 9223372036854775807 ∧ ∀ e ∈ es, ElArg w e ∧ e.xs.length ≤ 9223372036854775807

theorem lists_of_rows {w : World} {a : Addr} {len cap : Nat} {A : Nat → Option Addr} {L C : Nat → Nat} {Z : Nat → List Int} (hl : len ≤ cap) (hm : cap ≤ maxLen)
    (h : ∀ r, r < cap → w.cell? (a.add r) = some (.slice (A r) (L r) (C r)) ∧ L r ≤ C r ∧ C r ≤ maxLen ∧ (Z r).length = C r ∧ (∀ n ∈ Z r, (Lit.int .i64 n).wf = true) ∧ (A r = none → C r = 0) ∧ ∀ a', A r = some a' → 0 ≤ a'.block ∧ ∀ c, c < C r → w.cell? (a'.add c) = some (.int .i64 ((Z r).getD c 0))) :
    ∃ es, IsLists w (some a) len cap es := by
  refine ⟨(List.range len).map fun r => ⟨0, A r, C r, (Z r).take (L r)⟩, .inr ⟨a, rfl, fun i hi => ?_⟩, by simp, Nat.le_trans hl hm, fun e he => ?_⟩
  · simp at hi
    obtain ⟨h1, h2, h3, h4, -⟩ := h i (by omega)
    rw [h1, atP_eq _ i (by simp; exact hi)]
    simp [El.v]
    omega
  · obtain ⟨r, hr, rfl⟩ := List.mem_map.1 he
    simp at hr
    obtain ⟨h1, h2, h3, h4, h5, h6, h7⟩ := h r (by omega)
    have hlen : ((Z r).take (L r)).length = L r := by rw [List.length_take]; omega
    refine ⟨⟨?_, h6⟩, by show ((Z r).take (L r)).length ≤ _; rw [hlen]; exact Nat.le_trans h2 h3⟩
    cases hA : A r with
    | none =>
      refine .inl ⟨rfl, ?_⟩
      have := h6 hA
      exact List.eq_nil_of_length_eq_zero (by show ((Z r).take (L r)).length = 0; rw [hlen]; omega)
    | some a' =>
      refine .inr ⟨a', rfl, fun i hi => ?_⟩
      have hi' : i < L r := by rw [← hlen]; exact hi
      show w.cell? (a'.add i) = some (.int .i64 (((Z r).take (L r)).getD i 0))
      rw [(h7 a' hA).2 i (by omega), List.getD_eq_getElem?_getD, List.getD_eq_getElem?_getD, List.getElem?_take_of_lt hi']

set_option maxHeartbeats 1000000 in
theorem cubeStands_any (a : Option Addr) (len cap : Nat) (es : List El) (w : World) (hr : IsLists w a len cap es) :
    Calls Try.prog 7 #[.slice a len cap] w fun e w' => e = .returned (.bool true) ∧ Below w.heap.size w w' := by
  obtain ⟨r1, r2, r3, r4⟩ := hr
  cases hb : bigB (xsOf es) with
  | false =>
    obtain ⟨h1, h2⟩ := bigB_no hb
    exact cubeStands_mid a len cap es w r1 r2 (by omega) (fun e he => ⟨(r4 e he).1, h2 e he⟩) hb
  | true =>
    have HB := hide (fun w1 (hb1 : Below w.heap.size w w1) => big_any a len cap es w1 (r1.below hb1) r2 r3 (fun e he => (r4 e he).2))
    rw [hb] at HB
    clear r1 r2 r4 hb
    go_enter Try.func7, Try.ntmps7
    go_wp2_with (first | (go_at_call 9; refine (alive_any _).mono ?_; rintro e w1 ⟨rfl, hb1⟩) | (go_at_call 24; refine (HB.out _ hb1).mono ?_; rintro e w2 ⟨rfl, hw2⟩; obtain rfl := hw2.symm))
    go_ret
    exact ⟨rfl, hb1⟩
end Go.Proofs.Ytcbgnmkipbhncaa
