/-
  THE WALK of Resolve.
-/
import Derived.Test.YtcbgnmkipbhncaaCubeConcat
import Derived.Deep.QuietTactic
namespace Go.Proofs.Ytcbgnmkipbhncaa
open Go.RowKit

def resOk (a b : List Int) (v : Int) : Bool := decide (0 < v) && (rightB a && (rightB b && ((decide (v ∈ a) && decide (-v ∈ b)) || (decide (v ∈ b) && decide (-v ∈ a)))))
def keepB (v n : Int) : Bool := decide (mag n ≠ v)
def restL (a b : List Int) (v : Int) : List Int := (a ++ b).filter (keepB v)
def resL (a b : List Int) (v : Int) : List Int := if resOk a b v = true then cubeA (restL a b v) else []
def resB (a b : List Int) (v : Int) : Bool := resOk a b v && goodB (restL a b v)
/-- WHAT Resolve TELLS. -/
def ResPost (w : World) (a b : List Int) (v : Int) (e : Ending) (w' : World) : Prop := ∃ u, e = .returned (.tuple #[u, .bool (resB a b v)]) ∧ NewInts w (resL a b v) u w'

theorem NewInts.up {w w1 w2 : World} {xs : List Int} {v : Value} (h : NewInts w1 xs v w2) (hb : Below w.heap.size w w1) : NewInts w xs v w2 := ⟨own_le h.1 hb.size, hb.trans (h.2.mono hb.size)⟩
theorem res_no {w w' : World} {a b : List Int} {v : Int} (h : resOk a b v = false) (hb : Below w.heap.size w w') : ResPost w a b v (.returned (.tuple #[.slice none 0 0, .bool false])) w' :=
  ⟨_, by rw [resB, h]; rfl, by rw [resL, h]; exact ⟨World.ownsRow_nil _ _ _ _, hb⟩⟩
theorem res_yes {w w1 w' : World} {a b : List Int} {v : Int} {e : Ending} (h : resOk a b v = true) (hb : Below w.heap.size w w1) (ho : OfPost w1 (restL a b v) e w') : ResPost w a b v e w' := by
  obtain ⟨u, rfl, hn⟩ := ho
  exact ⟨u, by rw [resB, h, Bool.true_and], by rw [resL, if_pos h]; exact hn.up hb⟩

theorem filter_take (p : Int → Bool) (xs : List Int) (k : Nat) (h : k < xs.length) : (xs.take (k + 1)).filter p = (xs.take k).filter p ++ (if p (atP xs k) = true then [atP xs k] else []) := by
  rw [List.take_succ_eq_append_getElem h, List.filter_append, ← atP_eq xs k h]
  by_cases hp : p (atP xs k) = true
  · simp [hp]
  · simp [hp]

set_option maxRecDepth 100000 in
set_option maxHeartbeats 2000000 in
theorem resolve_any (a b : Option Addr) (n c m d : Nat) (xs ys : List Int) (v : Int) (w : World) (hr : RowK .i64 w a xs) (hx : xs.length = n) (hnc : a = none → c = 0) (hs : RowK .i64 w b ys) (hy : ys.length = m) (hmd : b = none → d = 0) (hn : n ≤ 500000) (hm : m ≤ 500000) (hv2 : v ≤ 9223372036854775807) :
    Calls Try.prog 21 #[.slice a n c, .slice b m d, .int .i64 v] w (ResPost w xs ys v) := by
  obtain ⟨i0, hi, hz0, hz1, hz2⟩ := info_parts infoInt
  generalize hP : ResPost w xs ys v = Post
  have HP := hide hP
  have hno : Hid (resOk xs ys v = false → Post (.returned (.tuple #[.slice none 0 0, .bool false])) w) := fun h => by rw [← HP.out]; exact res_no h (Below.refl _ _)
  clear hP
  by_cases hv : ¬ 0 < v
  · have hfin : Hid (Post (.returned (.tuple #[.slice none 0 0, .bool false])) w) := hno.out (by unfold resOk; rw [decide_eq_false hv]; rfl)
    clear hno
    go_enter Try.func21, Try.ntmps21
    go_wp2
    exact hfin.out
  have hv : 0 < v := Decidable.not_not.1 hv
  have hRa := right_any a n c xs w hr hx (by omega)
  have hRb := right_any b m d ys w hs hy (by omega)
  have hPa := parted_any a b n c m d xs ys v w hr hx hs hy (by omega) (by omega) hv hv2
  have hPb := parted_any b a m d n c ys xs v w hs hy hr hx (by omega) (by omega) hv hv2
  have HOK : Hid (resOk xs ys v = (rightB xs && (rightB ys && ((decide (v ∈ xs) && decide (-v ∈ ys)) || (decide (v ∈ ys) && decide (-v ∈ xs)))))) := by
    show resOk xs ys v = _
    unfold resOk
    rw [decide_eq_true hv, Bool.true_and]
  have HRa : Hid (rightB xs = true → Rt xs) := (rightB_iff xs).1
  have HRb : Hid (rightB ys = true → Rt ys) := (rightB_iff ys).1
  have HR := hide (And.intro hr (And.intro hx hnc))
  have HS := hide (And.intro hs (And.intro hy hmd))
  clear hr hx hnc hs hy hmd
  obtain ⟨ra, hra⟩ : ∃ ra, ra = rightB xs := ⟨_, rfl⟩
  obtain ⟨rb, hrb⟩ : ∃ rb, rb = rightB ys := ⟨_, rfl⟩
  obtain ⟨pa, hpa⟩ : ∃ pa, pa = (decide (v ∈ xs) && decide (-v ∈ ys)) := ⟨_, rfl⟩
  obtain ⟨pb, hpb⟩ : ∃ pb, pb = (decide (v ∈ ys) && decide (-v ∈ xs)) := ⟨_, rfl⟩
  rw [← hra] at hRa HRa HOK
  rw [← hrb] at hRb HRb HOK
  rw [← hpa] at hPa HOK
  rw [← hpb] at hPb HOK
  clear hra hrb hpa hpb
  by_cases hok : ¬ (ra = true ∧ rb = true ∧ (pa = true ∨ pb = true))
  · have hfin : Hid (Post (.returned (.tuple #[.slice none 0 0, .bool false])) w) := hno.out (by
      rw [HOK.out]
      revert hok
      cases ra <;> cases rb <;> cases pa <;> cases pb <;> simp)
    clear hno HOK HRa HRb
    cases ra
    · clear hok
      go_enter Try.func21, Try.ntmps21
      go_wp2_with (first | (go_at_call_of 13 (Value.slice a n c); refine hRa.mono ?_; rintro e w1 ⟨rfl, hw1⟩; obtain rfl := hw1.symm))
      exact hfin.out
    · cases rb
      · clear hok
        go_enter Try.func21, Try.ntmps21
        go_wp2_with (first | (go_at_call_of 13 (Value.slice a n c); refine hRa.mono ?_; rintro e w1 ⟨rfl, hw1⟩; obtain rfl := hw1.symm) | (go_at_call_of 13 (Value.slice b m d); refine hRb.mono ?_; rintro e w1 ⟨rfl, hw1⟩; obtain rfl := hw1.symm))
        exact hfin.out
      · obtain rfl : pa = false := by cases pa <;> simp at hok ⊢
        obtain rfl : pb = false := by cases pb <;> simp at hok ⊢
        clear hok
        go_enter Try.func21, Try.ntmps21
        go_wp2_with (first | (go_at_call_of 13 (Value.slice a n c); refine hRa.mono ?_; rintro e w1 ⟨rfl, hw1⟩; obtain rfl := hw1.symm) | (go_at_call_of 13 (Value.slice b m d); refine hRb.mono ?_; rintro e w1 ⟨rfl, hw1⟩; obtain rfl := hw1.symm) | (go_at_call_of 39 [Value.slice a n c, Value.slice b m d, Value.int .i64 v]; refine hPa.mono ?_; rintro e w1 ⟨rfl, hw1⟩; obtain rfl := hw1.symm) | (go_at_call_of 39 [Value.slice b m d, Value.slice a n c, Value.int .i64 v]; refine hPb.mono ?_; rintro e w1 ⟨rfl, hw1⟩; obtain rfl := hw1.symm))
        exact hfin.out
  obtain ⟨rfl, rfl, hpp⟩ := Decidable.not_not.1 hok
  clear hok
  have HY : Hid (resOk xs ys v = true) := by
    show resOk xs ys v = true
    rw [HOK.out]
    rcases hpp with rfl | rfl <;> simp
  have HF : Hid (∀ x ∈ xs ++ ys, Fits x) := fun x hx => by
    rcases List.mem_append.1 hx with h | h
    · exact (HRa.out rfl).1 x h
    · exact (HRb.out rfl).1 x h
  clear hno HOK HRa HRb
  have HCon : Hid (∀ W : World, Below w.heap.size w W → ∀ p, W.cell? ⟨p, 0, none⟩ = some (.slice a n c) → W.cell? ⟨p, 1, none⟩ = some (.slice b m d) → Calls Try.prog 40 #[.slice (some ⟨p, 0, none⟩) 2 2] W fun e w' => ∃ v, e = .returned v ∧ NewInts W (xs ++ ys) v w') := fun W hb p q1 q2 =>
    concat_any p n c m d a b xs ys W q1 q2 (HR.out.1.below hb) HR.out.2.1 HR.out.2.2 (HS.out.1.below hb) HS.out.2.1 HS.out.2.2 hn hm
  have hba : Hid (∀ o, Below w.heap.size w (w.alloc o)) := fun o => (Below.refl _ _).grown (World.grownBy_alloc w o none) (Nat.le_refl _) (fun k hk => by cases hk)
  have HZL : Hid ((xs ++ ys).length = n + m) := by show (xs ++ ys).length = n + m; rw [List.length_append, HR.out.2.1, HS.out.2.1]
  obtain ⟨zs, hzs⟩ : ∃ zs, zs = xs ++ ys := ⟨_, rfl⟩
  have HRest : Hid (restL xs ys v = zs.filter (keepB v)) := by show restL xs ys v = _; rw [hzs]; rfl
  rw [← hzs] at HF HCon HZL
  clear hzs HR HS
  rcases hpp with rfl | rfl
  all_goals try cases pa
  all_goals
    go_enter Try.func21, Try.ntmps21
    go_wp2_with (first | (go_at_call_of 13 (Value.slice a n c); refine hRa.mono ?_; rintro e w1 ⟨rfl, hw1⟩; obtain rfl := hw1.symm) | (go_at_call_of 13 (Value.slice b m d); refine hRb.mono ?_; rintro e w1 ⟨rfl, hw1⟩; obtain rfl := hw1.symm) | (go_at_call_of 39 [Value.slice a n c, Value.slice b m d, Value.int .i64 v]; refine hPa.mono ?_; rintro e w1 ⟨rfl, hw1⟩; obtain rfl := hw1.symm) | (go_at_call_of 39 [Value.slice b m d, Value.slice a n c, Value.int .i64 v]; refine hPb.mono ?_; rintro e w1 ⟨rfl, hw1⟩; obtain rfl := hw1.symm))
    refine (HCon.out _ (hba.out _) w.heap.size (by simp) (by simp)).mono ?_
    rintro e w2 ⟨vz, rfl, hzo, hb2⟩
    rw [HZL.out] at hzo
    obtain ⟨az, cz, rfl, -, -, -, -, -⟩ := row_of_own hzo
    have hb3 : Below w.heap.size w w2 := (hba.out _).trans (hb2.mono (hba.out _).size)
    have H2 := hide (And.intro hzo hb3)
    have hw2 := hb3.size
    clear hzo hb2 hb3
    go_wp2
    go_loopw [8, 40] (fun u i wr => ∃ (k q : Nat), i = .int .i64 k ∧ k ≤ n + m ∧ q ≤ k ∧ Hid (wr.ownsRow w2.heap.size 3 1 u q (((zs.take k).filter (keepB v)).map (Value.int .i64)) ∧ Below w2.heap.size w2 wr)) (fun _ i _ => n + m - (intOf i).toNat)
    case atStart => exact ⟨0, 0, rfl, Nat.zero_le _, Nat.le_refl _, World.ownsRow_nil _ _ _ _, Below.refl _ _⟩
    case round =>
      obtain ⟨k, q, rfl, hk, hq, HM⟩ := hrel
      by_cases hlt : k < n + m
      · have hzr := own_below H2.out.1 HM.out.2
        obtain ⟨az', cz', e, hrow, -⟩ := row_of_own hzr
        cases e
        obtain ⟨g, off, rfl, -, hcell⟩ := hrow.addr (by rw [HZL.out]; omega)
        have hc := hcell k (by rw [HZL.out]; exact hlt)
        rw [atP_getD] at hc
        have hfy := HF.out _ (atP_mem zs k (by rw [HZL.out]; exact hlt))
        have hft := filter_take (keepB v) zs k (by rw [HZL.out]; exact hlt)
        obtain ⟨y, HYY⟩ : ∃ y, Hid (y = atP zs k) := ⟨_, rfl⟩
        rw [← HYY.out] at hc hfy hft
        clear hcell hrow hzr
        have hz := size_any y wr hfy.2
        have HFT := hide hft
        clear hft
        have HKB : Hid (keepB v y = decide (mag y ≠ v)) := rfl
        obtain ⟨my, HMY⟩ : ∃ my, Hid (my = mag y) := ⟨_, rfl⟩
        rw [← HMY.out] at hz HKB
        clear hfy
        have hsz := HM.out.2.size
        by_cases he : my = v
        · have hkb : keepB v y = false := by rw [HKB.out, he]; simp
          have HE := hide he
          subst he
          go_wp2_with (first | (go_at_call 34; refine hz.mono ?_; rintro e w1 ⟨rfl, hw1⟩; obtain rfl := hw1.symm))
          go_roundw
          case rel =>
            refine ⟨k + 1, q, by go_num, by omega, by omega, ?_, HM.out.2⟩
            rw [HFT.out, hkb]
            simpa using HM.out.1
          case measure => simp [intOf]; omega
        · have hkb : Hid (keepB v y = true) := by show keepB v y = true; rw [HKB.out]; simpa using he
          have hb : (my == v) = false := by rw [beq_eq_false_iff_ne]; exact he
          have hown := HM.out.1
          go_wp2_with (first | (go_at_call 34; refine hz.mono ?_; rintro e w1 ⟨rfl, hw1⟩; obtain rfl := hw1.symm) | (at_builtin; refine wpList_append_own _ rfl (.tmp 48) (.tmp 50) 22 rfl w2.heap.size 3 i0 (.int .i64 0) 1 8 Try.underlying22 hi hz0 hz1 hz2 rfl (by decide) _ _ _ rfl (hown.alloc _) ⟨wr.heap.size, 0, none⟩ 1 1 [.int .i64 y] rfl rfl (cell_one_new _ _ _) (by intro u hu; simp at hu; subst hu; rfl) (by unfold maxLen; omega) (by omega) (by simp; omega) ?_; intro v6 w6 hown6 hg6 _))
          go_roundw
          case rel =>
            have hlt2 := (HM.out.1).lt
            refine ⟨k + 1, q + 1, by go_num, by omega, by omega, ?_, below_step HM.out.2 hg6 hsz (fun k hk => (hlt2 k hk).1) ⟨rfl, rfl, rfl, rfl⟩⟩
            rw [HFT.out, hkb.out, if_pos rfl, List.map_append]
            exact hown6
          case measure => simp [intOf]; omega
      · obtain rfl : k = n + m := by omega
        have hown := HM.out.1
        rw [List.take_of_length_le (by rw [HZL.out]; exact Nat.le_refl _), ← HRest.out] at hown
        obtain ⟨au, cu, rfl, hrow, hncu, hlu, -, -⟩ := row_of_own hown
        have HO := hide (of_any au q cu (restL xs ys v) wr hrow hlu hncu (by omega))
        clear hown hrow hncu hlu
        go_wp2_with fail
        refine HO.out.mono ?_
        rintro e w7 hof
        obtain ⟨u, rfl, hof2⟩ := hof
        have hfin : Hid (Post (.returned (.tuple #[u, .bool (goodB (restL xs ys v))])) w7) := by
          show Post (.returned (.tuple #[u, .bool (goodB (restL xs ys v))])) w7
          rw [← HP.out]
          exact res_yes HY.out (H2.out.2.trans (HM.out.2.mono hw2)) ⟨u, rfl, hof2⟩
        clear hof2
        go_wp2
        exact hfin.out
end Go.Proofs.Ytcbgnmkipbhncaa
