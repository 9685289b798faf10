/-
  THE WALK of the reference's Header.
  THE WALK of the reference's kinds.
  THE WALKS of Vars and Bads, the program's and the reference's, and of the reference's known.
  THE WALK of the reference's uses.
  THE WALKS of the reference's lits, own, count, symbol.
  What the reference's args asks, no function of the program.
  THE WALK of the reference's symbol.
-/
import Derived.Test.YtimpddokepbabaaGreatDoorRd2
import Derived.Test.YtimpddokepbabaaGreatDoorJ46
import Derived.Deep.LoopGhost
import Derived.Test.YtimpddokepbabaaGreatDoorAigCheck
import Derived.Deep.Cut
import Derived.BigQuiet
namespace Go.Proofs.YtimpddokepbabaaGreatDoor
open Go.RowKit

theorem zeros_snoc (L : List Int) (l k : Nat) (hk : l ≤ k) : (L ++ List.replicate (k + 1 - l) 0).map (Value.int .i64) = (L ++ List.replicate (k - l) 0).map (Value.int .i64) ++ [.int .i64 0] := by
  rw [show k + 1 - l = (k - l) + 1 by omega, List.replicate_succ', ← List.append_assoc, List.map_append]
  rfl
theorem long_cases (y0 y1 y2 y3 y4 y5 y6 : Int) : (decide (64 < y1) || (decide (64 < y2) || (decide (64 < y3) || (decide (64 < y5) || (decide (64 < y6) || (decide (5000 < y0) || decide (2000 < y4))))))) = true ↔ (5000 < y0 ∨ 64 < y1 ∨ 64 < y2 ∨ 64 < y3 ∨ 64 < y5 ∨ 64 < y6 ∨ 2000 < y4) := by
  simp only [Bool.or_eq_true, decide_eq_true_eq]
  omega

set_option maxRecDepth 100000 in
set_option maxHeartbeats 2000000 in
theorem refHeader_any (s : ByteArray) (w : World) (hs : s.size ≤ 100000) :
    Calls Tryz.prog 17 #[.string s] w fun e w' => ∃ v, e = .returned (.tuple #[v, .int .i64 (hdrE s)]) ∧ OwnI w.heap.size w' v (hdrL s) ∧ Below w.heap.size w w' := by
  obtain ⟨i0, hi, hz0, hz1, hz2⟩ := info_parts infoInt
  have HN := hide (refNumbers_any s 5 9 2147483647 w hs (by omega) (by omega))
  unfold NumsPost at HN
  have hl9 := hdr9_len s
  have hle : (nsL s 5 9 2147483647).length ≤ 9 := nsL_le s 5 9 2147483647
  have HB : Hid (∀ w', Below w.heap.size w w' → ¬ hdrE s = 0 → OwnI w.heap.size w' (.slice none 0 0) (hdrL s) ∧ Below w.heap.size w w') := fun w' hb hne => ⟨by rw [hdrL, if_neg hne]; exact OwnI.nil _ _, hb⟩
  by_cases hE0 : nsE s 5 9 2147483647 = 0
  · have e1 : hdrE s = if (hdr9 s).getD 7 0 ≠ 0 ∨ (hdr9 s).getD 8 0 ≠ 0 then 2 else if hdrLong (hdr9 s) = true then 3 else 0 := by rw [hdrE, if_pos hE0]
    have e2 : hdr9 s = nsL s 5 9 2147483647 ++ List.replicate (9 - (nsL s 5 9 2147483647).length) 0 := rfl
    have HG : Hid (∀ v w', hdrE s = 0 → OwnI w.heap.size w' v (hdr9 s) → Below w.heap.size w w' → OwnI w.heap.size w' v (hdrL s) ∧ Below w.heap.size w w') := fun v w' h0 ho hb => ⟨by rw [hdrL, if_pos h0]; exact ho, hb⟩
    rw [hE0] at HN
    rw [e1] at HB HG ⊢
    have HE2 := hide e2
    have hlc := long_cases ((hdr9 s).getD 0 0) ((hdr9 s).getD 1 0) ((hdr9 s).getD 2 0) ((hdr9 s).getD 3 0) ((hdr9 s).getD 4 0) ((hdr9 s).getD 5 0) ((hdr9 s).getD 6 0)
    rw [show (decide (64 < (hdr9 s).getD 1 0) || (decide (64 < (hdr9 s).getD 2 0) || (decide (64 < (hdr9 s).getD 3 0) || (decide (64 < (hdr9 s).getD 5 0) || (decide (64 < (hdr9 s).getD 6 0) || (decide (5000 < (hdr9 s).getD 0 0) || decide (2000 < (hdr9 s).getD 4 0))))))) = hdrLong (hdr9 s) from rfl] at hlc
    generalize hdrL s = HLs at *
    generalize nsL s 5 9 2147483647 = L at *
    generalize hdr9 s = H at *
    obtain ⟨l, hl⟩ : ∃ l, l = L.length := ⟨_, rfl⟩
    have HLen := hide hl
    rw [← hl] at hle
    have HL9 := hide hl9
    obtain ⟨y0, h0⟩ : ∃ x, x = H.getD 0 0 := ⟨_, rfl⟩
    obtain ⟨y1, h1⟩ : ∃ x, x = H.getD 1 0 := ⟨_, rfl⟩
    obtain ⟨y2, h2⟩ : ∃ x, x = H.getD 2 0 := ⟨_, rfl⟩
    obtain ⟨y3, h3⟩ : ∃ x, x = H.getD 3 0 := ⟨_, rfl⟩
    obtain ⟨y4, h4⟩ : ∃ x, x = H.getD 4 0 := ⟨_, rfl⟩
    obtain ⟨y5, h5⟩ : ∃ x, x = H.getD 5 0 := ⟨_, rfl⟩
    obtain ⟨y6, h6⟩ : ∃ x, x = H.getD 6 0 := ⟨_, rfl⟩
    obtain ⟨y7, h7⟩ : ∃ x, x = H.getD 7 0 := ⟨_, rfl⟩
    obtain ⟨y8, h8⟩ : ∃ x, x = H.getD 8 0 := ⟨_, rfl⟩
    rw [← h7, ← h8] at HB HG ⊢
    rw [← h0, ← h1, ← h2, ← h3, ← h4, ← h5, ← h6] at hlc
    have HX := hide (And.intro h0 (And.intro h1 (And.intro h2 (And.intro h3 (And.intro h4 (And.intro h5 (And.intro h6 (And.intro h7 h8))))))))
    generalize hdrLong H = lg at *
    clear hE0 e1 e2 hl hl9 h0 h1 h2 h3 h4 h5 h6 h7 h8
    generalize hP : (fun (e : Ending) (w' : World) => ∃ v, e = .returned (.tuple #[v, .int .i64 (if y7 ≠ 0 ∨ y8 ≠ 0 then 2 else if lg = true then 3 else 0)]) ∧ OwnI w.heap.size w' v HLs ∧ Below w.heap.size w w') = Post
    have F2 : Hid (y7 ≠ 0 ∨ y8 ≠ 0 → ∀ w', Below w.heap.size w w' → Post (.returned (.tuple #[.slice none 0 0, .int .i64 2])) w') := fun hy w' hb => by
      rw [← hP]; exact ⟨_, by rw [if_pos hy], HB.out w' hb (by rw [if_pos hy]; decide)⟩
    have F3 : Hid (¬ (y7 ≠ 0 ∨ y8 ≠ 0) → lg = true → ∀ w', Below w.heap.size w w' → Post (.returned (.tuple #[.slice none 0 0, .int .i64 3])) w') := fun hy hlg w' hb => by
      rw [← hP]; exact ⟨_, by rw [if_neg hy, if_pos hlg], HB.out w' hb (by rw [if_neg hy, if_pos hlg]; decide)⟩
    have F0 : Hid (¬ (y7 ≠ 0 ∨ y8 ≠ 0) → ¬ lg = true → ∀ v w', OwnI w.heap.size w' v H → Below w.heap.size w w' → Post (.returned (.tuple #[v, .int .i64 0])) w') := fun hy hlg v w' ho hb => by
      rw [← hP]; exact ⟨_, by rw [if_neg hy, if_neg hlg], HG.out v w' (by rw [if_neg hy, if_neg hlg]) ho hb⟩
    clear hP HB HG
    go_enter Tryz.func17, Tryz.ntmps17
    go_wp2_with (first | (go_at_call 46; refine HN.out.mono ?_; rintro e w1 ⟨v, rfl, ho, hb⟩; have HB1 := hide hb; have ho' : w1.ownsRow w.heap.size 3 1 v l (L.map (Value.int .i64)) := (by rw [HLen.out]; exact ho); obtain ⟨va, vc, rfl⟩ := own_is ho'; have O1 := hide ho'; clear ho ho' hb))
    go_loopg [4] (9 - l) (fun kx o wr => ∃ k : Nat, kx = 9 - k ∧ l ≤ k ∧ k ≤ 9 ∧ Hid (wr.ownsRow w.heap.size 3 1 o k ((L ++ List.replicate (k - l) 0).map (Value.int .i64))) ∧ Hid (Below w.heap.size w wr))
    case atStart => exact ⟨l, rfl, Nat.le_refl _, hle, by rw [Nat.sub_self, List.replicate_zero, List.append_nil]; exact O1, HB1⟩
    case round =>
      obtain ⟨k, rfl, hlk, hk9, HO, HBr⟩ := hrel
      obtain ⟨ka, kc, hvf⟩ := own_is HO.out
      subst hvf
      clear O1 HB1
      by_cases hk : k < 9
      · have hs9 := HBr.out.size
        have HZ := hide (zeros_snoc L l k hlk)
        go_wp2_with (first | (at_builtin; refine wpList_append_rowC _ rfl (.tmp 17) (.tmp 18) 24 rfl w.heap.size 3 i0 (.int .i64 0) 1 8 Tryz.underlying24 hi hz0 hz1 hz2 rfl (by decide) (.slice ka k kc) k ((L ++ List.replicate (k - l) 0).map (Value.int .i64)) rfl (HO.out.alloc _) (some ⟨wr.heap.size, 0, none⟩) 1 1 [.int .i64 0] rfl rfl (cells_one_at _ _) (fun e => by cases e) (fun u hu => by simp at hu; subst hu; rfl) (by unfold maxLen; omega) (by omega) (by simp; omega) ?_; intro v4 w4 hown4 hg4; rw [← HZ.out] at hown4; have HO4 := hide hown4; have HB4 := hide ((belowThen HBr.out (below_alloc wr (.cells #[.int .i64 0] 3))).grown hg4 (by simp; omega) (fun q hq => (HO.out.lt q hq).1)); clear hown4 hg4))
        go_roundg (9 - (k + 1))
        case measure => omega
        case rel => exact ⟨k + 1, rfl, by omega, by omega, HO4, HB4⟩
      · obtain rfl : k = 9 := by omega
        have hO : OwnI w.heap.size wr (.slice ka 9 kc) H := by
          unfold OwnI
          rw [HL9.out, HE2.out, ← HLen.out]
          exact HO.out
        obtain ⟨hg, cap, ee, hc, -⟩ := ownI_at hO HL9.out (by omega)
        cases ee
        have c0 := hc 0 (by omega)
        have c1 := hc 1 (by omega)
        have c2 := hc 2 (by omega)
        have c3 := hc 3 (by omega)
        have c4 := hc 4 (by omega)
        have c5 := hc 5 (by omega)
        have c6 := hc 6 (by omega)
        have c7 := hc 7 (by omega)
        have c8 := hc 8 (by omega)
        rw [← HX.out.1] at c0
        rw [← HX.out.2.1] at c1
        rw [← HX.out.2.2.1] at c2
        rw [← HX.out.2.2.2.1] at c3
        rw [← HX.out.2.2.2.2.1] at c4
        rw [← HX.out.2.2.2.2.2.1] at c5
        rw [← HX.out.2.2.2.2.2.2.1] at c6
        rw [← HX.out.2.2.2.2.2.2.2.1] at c7
        rw [← HX.out.2.2.2.2.2.2.2.2] at c8
        have HOI := hide hO
        have HLC := hide hlc
        clear hc hO hlc HO HX
        by_cases h7 : y7 = 0
        · by_cases h8 : y8 = 0
          · have hno : ¬ (y7 ≠ 0 ∨ y8 ≠ 0) := by omega
            have HNo := hide hno
            subst h7
            subst h8
            clear hno
            by_cases g0 : 5000 < y0
            · go_wp2
              exact F3.out HNo.out (HLC.out.2 (by omega)) _ HBr.out
            by_cases g1 : 64 < y1
            · go_wp2
              exact F3.out HNo.out (HLC.out.2 (by omega)) _ HBr.out
            by_cases g2 : 64 < y2
            · go_wp2
              exact F3.out HNo.out (HLC.out.2 (by omega)) _ HBr.out
            by_cases g3 : 64 < y3
            · go_wp2
              exact F3.out HNo.out (HLC.out.2 (by omega)) _ HBr.out
            by_cases g5 : 64 < y5
            · go_wp2
              exact F3.out HNo.out (HLC.out.2 (by omega)) _ HBr.out
            by_cases g6 : 64 < y6
            · go_wp2
              exact F3.out HNo.out (HLC.out.2 (by omega)) _ HBr.out
            by_cases g4 : 2000 < y4
            · go_wp2
              exact F3.out HNo.out (HLC.out.2 (by omega)) _ HBr.out
            · have HNl : Hid (¬ lg = true) := fun e => by have := HLC.out.1 e; omega
              go_wp2
              exact F0.out HNo.out HNl.out _ _ HOI.out HBr.out
          · subst h7
            have hE1 : (y8 == 0) = false := by rw [beq_eq_false_iff_ne]; exact h8
            have hE2 : (y8 != 0) = true := by rw [bne, hE1]; rfl
            have HN8 := hide h8
            clear h8
            go_wp2
            exact F2.out (.inr HN8.out) _ HBr.out
        · have hE1 : (y7 == 0) = false := by rw [beq_eq_false_iff_ne]; exact h7
          have hE2 : (y7 != 0) = true := by rw [bne, hE1]; rfl
          have HN7 := hide h7
          clear h7
          go_wp2
          exact F2.out (.inl HN7.out) _ HBr.out
  · have e1 : hdrE s = nsE s 5 9 2147483647 := by rw [hdrE, if_neg hE0]
    rw [e1] at HB ⊢
    generalize hdrL s = HLs at *
    generalize nsE s 5 9 2147483647 = E at *
    generalize nsL s 5 9 2147483647 = L at *
    have hE1 : (E == 0) = false := by rw [beq_eq_false_iff_ne]; exact hE0
    have hE2 : (E != 0) = true := by rw [bne, hE1]; rfl
    clear hl9 e1 hle
    go_enter Tryz.func17, Tryz.ntmps17
    go_wp2_with (first | (go_at_call 46; refine HN.out.mono ?_; rintro e w1 ⟨v, rfl, ho, hb⟩))
    go_ret2
    exact ⟨_, rfl, HB.out _ hb hE0⟩
end Go.Proofs.YtimpddokepbabaaGreatDoor

namespace Go.Proofs.YtimpddokepbabaaGreatDoor
open Go.RowKit

/-- Which variables are of which kind. -/
structure Kd (n : Nat) (ts : List (Nat × Int)) (ks : List Int) : Prop where
  len : ks.length = n
  none : ∀ v, v < n → (atP ks v = 0 ↔ v ∉ ts.map (·.1))
  kind : (ts.map (·.1)).Nodup → ∀ t ∈ ts, atP ks t.1 = t.2
  low : ∀ t ∈ ts, t.1 < n

theorem kd_nil (n : Nat) : Kd n [] (List.replicate n 0) := ⟨by simp, fun v hv => by simp [atP_replicate _ _ _ hv], fun _ t ht => by (cases ht), fun t ht => by (cases ht)⟩
theorem kd_step {n v : Nat} {k : Int} {ts : List (Nat × Int)} {ks : List Int} (h : Kd n ts ks) (hv : v < n) (hk : k ≠ 0) : Kd n (ts ++ [(v, k)]) (ks.set v k) := by
  have hl := h.len
  refine ⟨by simpa using hl, fun u hu => ?_, fun hnd t ht => ?_, fun t ht => ?_⟩
  · by_cases e : u = v
    · subst e; rw [atP_set_same _ _ _ (by omega)]; simp [hk]
    · rw [atP_set_other _ _ _ _ (fun h => e h.symm), h.none u hu]; simp [e]
  · rw [List.map_append] at hnd
    obtain ⟨h1, -, h3⟩ := List.nodup_append.1 hnd
    rcases List.mem_append.1 ht with ht | ht
    · have hne : v ≠ t.1 := fun e => h3 t.1 (List.mem_map.2 ⟨t, ht, rfl⟩) v (by simp) e.symm
      rw [atP_set_other _ _ _ _ hne]; exact h.kind h1 t ht
    · rw [List.mem_singleton] at ht; subst ht; exact atP_set_same _ _ _ (by omega)
  · rcases List.mem_append.1 ht with ht | ht
    · exact h.low t ht
    · rw [List.mem_singleton] at ht; subst ht; exact hv

theorem nodup_snoc (ts : List Nat) (v : Nat) : decide ((ts ++ [v]).Nodup) = (decide ts.Nodup && decide (v ∉ ts)) := by
  rw [Bool.eq_iff_iff]
  simp only [decide_eq_true_eq, Bool.and_eq_true]
  constructor
  · intro h
    obtain ⟨h1, -, h3⟩ := List.nodup_append.1 h
    exact ⟨h1, fun hm => h3 v hm v (by simp) rfl⟩
  · rintro ⟨h1, h2⟩
    exact List.nodup_append.2 ⟨h1, List.nodup_cons.2 ⟨List.not_mem_nil, List.nodup_nil⟩, fun a ha b hb e => by rw [List.mem_singleton] at hb; subst hb; subst e; exact h2 ha⟩

def kI (l : Int) : Nat × Int := (varN l, 1)
def kL (t : Tri) : Nat × Int := (varN t.1, 2)
def kA (t : Tri) : Nat × Int := (varN t.1, 3)
def Circ.kindT (C : Circ) : List (Nat × Int) := C.ins.map kI ++ C.lats.map kL ++ C.ands.map kA
theorem kindT_vars (C : Circ) : C.kindT.map (·.1) = C.vars := by
  unfold Circ.kindT Circ.vars Circ.made
  simp only [List.map_append, List.map_map]
  rfl

structure KMid (w0 : World) (c : CV) (n : Nat) (ts : List (Nat × Int)) (ks : List Int) (ok : Bool) (wr : World) : Prop where
  own : wr.ownsRow (w0.heap.size + 1) 3 1 (.slice (some ⟨w0.heap.size + 1, 0, none⟩) n n) n (ks.map (Value.int .i64))
  below : Below w0.heap.size w0 wr
  box : Box wr w0.heap.size c
  kd : Kd n ts ks
  ok : ok = decide (ts.map (·.1)).Nodup

theorem KMid.step {w0 : World} {c : CV} {n : Nat} {ts : List (Nat × Int)} {ks : List Int} {ok : Bool} {wr : World} (h : KMid w0 c n ts ks ok wr) (v : Nat) (k : Int) (hv : v < n) (hk : k ≠ 0) :
    KMid w0 c n (ts ++ [(v, k)]) (ks.set v k) (ok && decide (atP ks v = 0)) (wr.setCell ⟨w0.heap.size + 1, v, none⟩ (.int .i64 k)) := by
  obtain ⟨hown2, hg3⟩ := h.own.stored v (.int .i64 k)
  refine ⟨by rw [List.map_set]; exact hown2, h.below.grown hg3 h.below.size (fun j hj => by cases hj; omega), h.box.grown hg3 (by simp), kd_step h.kd hv hk, ?_⟩
  rw [List.map_append, List.map_cons, List.map_nil, nodup_snoc, h.ok]
  congr 1
  rw [Bool.eq_iff_iff, decide_eq_true_eq, decide_eq_true_eq]
  exact h.kd.none v hv

/-- WHAT kinds TELLS. -/
def KindsPost (w : World) (C : Circ) (n : Nat) (e : Ending) (w' : World) : Prop :=
  Below w.heap.size w w' ∧ ∃ g ks, e = .returned (.tuple #[.slice (some ⟨g, 0, none⟩) n n, .bool C.onceB]) ∧ Kd n C.kindT ks ∧ w'.ownsRow w.heap.size 3 1 (.slice (some ⟨g, 0, none⟩) n n) n (ks.map (Value.int .i64))

set_option maxRecDepth 100000 in
set_option maxHeartbeats 2000000 in
theorem kinds_any (c : CV) (C : Circ) (w : World) (h : Holds w c C) (hS : Small C) (hL : Lits C) :
    Calls Tryz.prog 59 #[c.v] w (KindsPost w C (C.max.toNat + 1)) := by
  obtain ⟨i0, hi, hz0, hz1, hz2⟩ := info_parts infoInt
  have hm0 : 0 ≤ c.m := by rw [h.m]; exact hL.max
  have hm5 : c.m ≤ 5000 := by rw [h.m]; exact hS.max
  have h1 : c.n1 ≤ 64 := by rw [← h.l1]; exact hS.ins
  have h2 : c.n2 ≤ 64 := by rw [← h.l2]; exact hS.lats
  have h6 : c.n6 ≤ 2000 := by rw [← h.l6]; exact hS.ands
  obtain ⟨n, hn⟩ : ∃ n, n = C.max.toNat + 1 := ⟨_, rfl⟩
  have hnm : c.m + 1 = (n : Int) := by rw [hn, ← h.m]; omega
  have HV : Hid (∀ y ∈ C.made, 0 < y ∧ varN y < n) := fun y hy => by
    have := hL.own y hy
    have e := h.m
    refine ⟨this.1, ?_⟩
    unfold varN; omega
  have HV1 : Hid (∀ y ∈ C.ins, 0 < y ∧ varN y < n) := fun y hy => HV.out y (by unfold Circ.made; simp [hy])
  have HV2 : Hid (∀ y ∈ C.lats, 0 < y.1 ∧ varN y.1 < n) := fun y hy => HV.out y.1 (by unfold Circ.made; exact List.mem_append_left _ (List.mem_append_right _ (List.mem_map.2 ⟨y, hy, rfl⟩)))
  have HV6 : Hid (∀ y ∈ C.ands, 0 < y.1 ∧ varN y.1 < n) := fun y hy => HV.out y.1 (by unfold Circ.made; exact List.mem_append_right _ (List.mem_map.2 ⟨y, hy, rfl⟩))
  rw [← hn]
  have HH := hide h
  have HB := hide (box_new w c)
  generalize hP : KindsPost w C n = Post
  have HP := hide hP
  clear h hS hL hP hn HV
  have ez : ∀ o, (w.alloc o).heap.size = w.heap.size + 1 := fun o => by simp
  unfold CV.v
  unfold Box at HB
  generalize hA1 : c.a1 = A1 at HB ⊢
  generalize hA2 : c.a2 = A2 at HB ⊢
  generalize hA6 : c.a6 = A6 at HB ⊢
  have HA1 := hide hA1
  have HA2 := hide hA2
  have HA6 := hide hA6
  clear hA1 hA2 hA6
  go_enter Tryz.func59, Tryz.ntmps59
  go_wp2_with (first | (at_make; refine wpList_make_full _ rfl _ _ 24 rfl (w.heap.size + 1) 3 i0 (.int .i64 0) 1 Tryz.underlying24 hi hz0 hz1 .i64 .i64 _ _ n rfl rfl (by first | rfl | omega) (by first | rfl | omega) (by rw [hz2]; omega) (by unfold maxLen; omega) (by simp) ?_; intro w2 hown hg2; rw [madeI, ez] at hown; have HW2 := hide (And.intro hown hg2); clear hown hg2) | fail)
  have HM : Hid (KMid w c n [] (List.replicate n 0) true w2) := by
    have hbx : Box w2 w.heap.size c := by
      have hb : Box (w.alloc _) w.heap.size c := box_new w c
      rw [← HA1.out, ← HA2.out, ← HA6.out] at HW2
      exact hb.grown HW2.out.2 (by simp)
    exact ⟨HW2.out.1, (below_alloc w _).grown HW2.out.2 (by simp) (fun k hk => by cases hk), hbx, kd_nil n, by simp⟩
  clear HW2 HB
  have HT0 : Hid (([] : List (Nat × Int)) = [] ++ (C.ins.take 0).map kI) := rfl
  go_wp2
  go_loopw [5, 6] (fun s i wr => ∃ (k : Nat) (ok : Bool) (ks : List Int), i = .int .i64 k ∧ s = .bool ok ∧ k ≤ c.n1 ∧ Hid (KMid w c n ([] ++ (C.ins.take k).map kI) ks ok wr)) (fun _ i _ => c.n1 - (intOf i).toNat)
  case atStart => exact ⟨0, _, _, rfl, rfl, Nat.zero_le _, hide (by simpa using HM.out)⟩
  case round =>
    clear HM
    obtain ⟨k, ok, ks, rfl, rfl, hk, HM⟩ := hrel
    obtain ⟨q0, q1, q2, q3, q4, q5, q6, q7⟩ := HM.out.box.cells
    rw [HA1.out] at q1
    rw [HA2.out] at q2
    rw [HA6.out] at q6
    by_cases hlt : k < c.n1
    · obtain ⟨b, off, ha, hbw, hcell⟩ := HH.out.r1.addr (by rw [HH.out.l1]; omega)
      rw [HA1.out] at ha
      subst ha
      have hc0 := (HM.out.below.cell (p := ⟨b, off + k, none⟩) hbw).trans (hcell k (by rw [HH.out.l1]; exact hlt))
      rw [atP_getD] at hc0
      have hy := HV1.out _ (atP_mem C.ins k (by rw [HH.out.l1]; exact hlt))
      have HST := hide (map_take kI C.ins k (by rw [HH.out.l1]; exact hlt))
      obtain ⟨y, HY⟩ : ∃ y, Hid (y = (atP C.ins k)) := ⟨_, rfl⟩
      rw [← HY.out] at hc0 hy
      have hq := tdiv_two (show 0 ≤ y by omega)
      have hv := hy.2
      obtain ⟨v, HVV⟩ : ∃ v, Hid (v = varN y) := ⟨_, rfl⟩
      rw [← HVV.out] at hq hv
      have hcv := row_at HM.out.own v hv
      have hfv := HM.out.own.frozenAt v
      have HS := hide (HM.out.step v 1 hv (by decide))
      have HN : Hid ([] ++ (C.ins.take (k + 1)).map kI = ([] ++ (C.ins.take k).map kI) ++ [(v, 1)]) := by show _ = _; rw [HST.out, ← List.append_assoc]; show _ ++ [(varN (atP C.ins k), 1)] = _; rw [← HY.out, ← HVV.out]
      obtain ⟨z, HZ⟩ : ∃ z, Hid (z = atP ks v) := ⟨_, rfl⟩
      rw [← HZ.out] at hcv HS
      clear hcell hy HY HZ HST HVV
      cases ok with
      | false =>
        go_wp2
        go_roundw
        case rel => exact ⟨k + 1, false, _, by go_num, rfl, by omega, by rw [HN.out]; exact HS.out⟩
        case measure => simp [intOf]; omega
      | true =>
        by_cases hz : z = 0
        · subst hz
          go_wp2
          go_roundw
          case rel => exact ⟨k + 1, true, _, by go_num, rfl, by omega, by rw [HN.out]; exact HS.out⟩
          case measure => simp [intOf]; omega
        · have hzb : (z == 0) = false := by rw [beq_eq_false_iff_ne]; exact hz
          rw [decide_eq_false hz] at HS
          go_wp2
          go_roundw
          case rel => exact ⟨k + 1, false, _, by go_num, rfl, by omega, by rw [HN.out]; exact HS.out⟩
          case measure => simp [intOf]; omega
    · obtain rfl : k = c.n1 := by omega
      rw [List.take_of_length_le (by rw [HH.out.l1]; exact Nat.le_refl _)] at HM
      clear hlt hk
      go_wp2
      go_loopw [5, 7] (fun s i wr => ∃ (k : Nat) (ok : Bool) (ks : List Int), i = .int .i64 k ∧ s = .bool ok ∧ k ≤ c.n2 ∧ Hid (KMid w c n (C.ins.map kI ++ (C.lats.take k).map kL) ks ok wr)) (fun _ i _ => c.n2 - (intOf i).toNat)
      case atStart => exact ⟨0, _, _, rfl, rfl, Nat.zero_le _, hide (by simpa using HM.out)⟩
      case round =>
        clear HM
        obtain ⟨k, ok, ks, rfl, rfl, hk, HM⟩ := hrel
        obtain ⟨q0, q1, q2, q3, q4, q5, q6, q7⟩ := HM.out.box.cells
        rw [HA1.out] at q1
        rw [HA2.out] at q2
        rw [HA6.out] at q6
        by_cases hlt : k < c.n2
        · obtain ⟨b, off, ha, hbw, hcell⟩ := HH.out.r2.addr (by rw [cellsT_len, HH.out.l2]; omega)
          rw [HA2.out] at ha
          subst ha
          have hat := cellsT_at C.lats k (by rw [HH.out.l2]; exact hlt)
          have hc0 := (HM.out.below.cell (p := ⟨b, off + k * 3, none⟩) hbw).trans (hcell _ _ hat.1)
          clear hat
          have hy := HV2.out _ (atP_mem C.lats k (by rw [HH.out.l2]; exact hlt))
          have HST := hide (map_take kL C.lats k (by rw [HH.out.l2]; exact hlt))
          obtain ⟨y, HY⟩ : ∃ y, Hid (y = (atP C.lats k).1) := ⟨_, rfl⟩
          rw [← HY.out] at hc0 hy
          have hq := tdiv_two (show 0 ≤ y by omega)
          have hv := hy.2
          obtain ⟨v, HVV⟩ : ∃ v, Hid (v = varN y) := ⟨_, rfl⟩
          rw [← HVV.out] at hq hv
          have hcv := row_at HM.out.own v hv
          have hfv := HM.out.own.frozenAt v
          have HS := hide (HM.out.step v 2 hv (by decide))
          have HN : Hid (C.ins.map kI ++ (C.lats.take (k + 1)).map kL = (C.ins.map kI ++ (C.lats.take k).map kL) ++ [(v, 2)]) := by show _ = _; rw [HST.out, ← List.append_assoc]; show _ ++ [(varN (atP C.lats k).1, 2)] = _; rw [← HY.out, ← HVV.out]
          obtain ⟨z, HZ⟩ : ∃ z, Hid (z = atP ks v) := ⟨_, rfl⟩
          rw [← HZ.out] at hcv HS
          clear hcell hy HY HZ HST HVV
          cases ok with
          | false =>
            go_wp2
            go_roundw
            case rel => exact ⟨k + 1, false, _, by go_num, rfl, by omega, by rw [HN.out]; exact HS.out⟩
            case measure => simp [intOf]; omega
          | true =>
            by_cases hz : z = 0
            · subst hz
              go_wp2
              go_roundw
              case rel => exact ⟨k + 1, true, _, by go_num, rfl, by omega, by rw [HN.out]; exact HS.out⟩
              case measure => simp [intOf]; omega
            · have hzb : (z == 0) = false := by rw [beq_eq_false_iff_ne]; exact hz
              rw [decide_eq_false hz] at HS
              go_wp2
              go_roundw
              case rel => exact ⟨k + 1, false, _, by go_num, rfl, by omega, by rw [HN.out]; exact HS.out⟩
              case measure => simp [intOf]; omega
        · obtain rfl : k = c.n2 := by omega
          rw [List.take_of_length_le (by rw [HH.out.l2]; exact Nat.le_refl _)] at HM
          clear hlt hk
          go_wp2
          go_loopw [5, 8] (fun s i wr => ∃ (k : Nat) (ok : Bool) (ks : List Int), i = .int .i64 k ∧ s = .bool ok ∧ k ≤ c.n6 ∧ Hid (KMid w c n ((C.ins.map kI ++ C.lats.map kL) ++ (C.ands.take k).map kA) ks ok wr)) (fun _ i _ => c.n6 - (intOf i).toNat)
          case atStart => exact ⟨0, _, _, rfl, rfl, Nat.zero_le _, hide (by simpa using HM.out)⟩
          case round =>
            clear HM
            obtain ⟨k, ok, ks, rfl, rfl, hk, HM⟩ := hrel
            obtain ⟨q0, q1, q2, q3, q4, q5, q6, q7⟩ := HM.out.box.cells
            rw [HA1.out] at q1
            rw [HA2.out] at q2
            rw [HA6.out] at q6
            by_cases hlt : k < c.n6
            · obtain ⟨b, off, ha, hbw, hcell⟩ := HH.out.r6.addr (by rw [cellsT_len, HH.out.l6]; omega)
              rw [HA6.out] at ha
              subst ha
              have hat := cellsT_at C.ands k (by rw [HH.out.l6]; exact hlt)
              have hc0 := (HM.out.below.cell (p := ⟨b, off + k * 3, none⟩) hbw).trans (hcell _ _ hat.1)
              clear hat
              have hy := HV6.out _ (atP_mem C.ands k (by rw [HH.out.l6]; exact hlt))
              have HST := hide (map_take kA C.ands k (by rw [HH.out.l6]; exact hlt))
              obtain ⟨y, HY⟩ : ∃ y, Hid (y = (atP C.ands k).1) := ⟨_, rfl⟩
              rw [← HY.out] at hc0 hy
              have hq := tdiv_two (show 0 ≤ y by omega)
              have hv := hy.2
              obtain ⟨v, HVV⟩ : ∃ v, Hid (v = varN y) := ⟨_, rfl⟩
              rw [← HVV.out] at hq hv
              have hcv := row_at HM.out.own v hv
              have hfv := HM.out.own.frozenAt v
              have HS := hide (HM.out.step v 3 hv (by decide))
              have HN : Hid ((C.ins.map kI ++ C.lats.map kL) ++ (C.ands.take (k + 1)).map kA = ((C.ins.map kI ++ C.lats.map kL) ++ (C.ands.take k).map kA) ++ [(v, 3)]) := by show _ = _; rw [HST.out, ← List.append_assoc]; show _ ++ [(varN (atP C.ands k).1, 3)] = _; rw [← HY.out, ← HVV.out]
              obtain ⟨z, HZ⟩ : ∃ z, Hid (z = atP ks v) := ⟨_, rfl⟩
              rw [← HZ.out] at hcv HS
              clear hcell hy HY HZ HST HVV
              cases ok with
              | false =>
                go_wp2
                go_roundw
                case rel => exact ⟨k + 1, false, _, by go_num, rfl, by omega, by rw [HN.out]; exact HS.out⟩
                case measure => simp [intOf]; omega
              | true =>
                by_cases hz : z = 0
                · subst hz
                  go_wp2
                  go_roundw
                  case rel => exact ⟨k + 1, true, _, by go_num, rfl, by omega, by rw [HN.out]; exact HS.out⟩
                  case measure => simp [intOf]; omega
                · have hzb : (z == 0) = false := by rw [beq_eq_false_iff_ne]; exact hz
                  rw [decide_eq_false hz] at HS
                  go_wp2
                  go_roundw
                  case rel => exact ⟨k + 1, false, _, by go_num, rfl, by omega, by rw [HN.out]; exact HS.out⟩
                  case measure => simp [intOf]; omega
            · obtain rfl : k = c.n6 := by omega
              rw [List.take_of_length_le (by rw [HH.out.l6]; exact Nat.le_refl _)] at HM
              clear hlt hk
              have hfin : Hid (Post (.returned (.tuple #[.slice (some ⟨w.heap.size + 1, 0, none⟩) n n, .bool ok])) wr) := by
                show Post _ wr
                rw [← HP.out]
                have hm := HM.out
                have e : ok = C.onceB := by rw [hm.ok]; unfold Circ.onceB; rw [← kindT_vars]; rfl
                rw [e]
                exact ⟨hm.below, _, ks, rfl, hm.kd, own_le hm.own (Nat.le_succ _)⟩
              go_wp2
              exact hfin.out
end Go.Proofs.YtimpddokepbabaaGreatDoor

namespace Go.Proofs.YtimpddokepbabaaGreatDoor
open Go.RowKit

def Circ.numVars (C : Circ) : Nat := C.ins.length + C.lats.length + C.ands.length
def Circ.badsOr (C : Circ) : List Int := if C.bads.length = 0 then C.outs else C.bads

set_option maxHeartbeats 1000000 in
theorem vars_of (c : CV) (C : Circ) (w : World) (h : Holds w c C) (h1 : c.n1 ≤ 281474976710656) (h2 : c.n2 ≤ 281474976710656) (h6 : c.n6 ≤ 281474976710656) :
    Calls Tryz.prog 99 #[c.v] w fun e w' => e = .returned (.int .i64 C.numVars) ∧ Below w.heap.size w w' := by
  have e : ((C.numVars : Nat) : Int) = c.n1 + c.n2 + c.n6 := by unfold Circ.numVars; rw [h.l1, h.l2, h.l6]; omega
  rw [e]
  clear e h
  unfold CV.v
  go_enter Tryz.func99, Tryz.ntmps99
  go_wp2
  go_ret
  exact ⟨by go_num, below_alloc w _⟩

/-- Which literals are of variables that are there (the reference's). -/
def knowB (ks : List Int) (l : Int) : Bool := !(decide (1 < l) && decide (atP ks (varN l) = 0))

set_option maxRecDepth 100000 in
set_option maxHeartbeats 1000000 in
theorem known_any (a b : Option Addr) (n c m d : Nat) (ks xs : List Int) (w : World) (hk : RowK .i64 w a ks) (hkl : ks.length = n) (hr : RowK .i64 w b xs) (hx : xs.length = m) (hn : n ≤ 9223372036854775807) (hm : m ≤ 9223372036854775807) (hin : ∀ l ∈ xs, varN l < ks.length) :
    Calls Tryz.prog 60 #[.slice a n c, .slice b m d] w fun e w' => e = .returned (.bool (xs.all (knowB ks))) ∧ w' = w := by
  have HR := hide hr
  have HX := hide hx
  have HK := hide hk
  have HKL := hide hkl
  have HI := hide hin
  generalize hP : (fun (e : Ending) (w' : World) => e = .returned (.bool (xs.all (knowB ks))) ∧ w' = w) = Post
  have HP := hide hP
  clear hr hx hP hk hkl hin
  go_enter Tryz.func60, Tryz.ntmps60
  go_wp2
  go_loop [5] (fun i => ∃ k : Nat, i = .int .i64 k ∧ k ≤ m ∧ Hid (∀ j, j < k → knowB ks (atP xs j) = true)) (fun i => m - (intOf i).toNat)
  case atStart => exact ⟨0, rfl, Nat.zero_le _, fun j hj => absurd hj (Nat.not_lt_zero _)⟩
  case round =>
    obtain ⟨k, rfl, hk, HF⟩ := hrel
    by_cases hlt : k < m
    · obtain ⟨b1, off, rfl, -, hcell⟩ := HR.out.addr (by rw [HX.out]; omega)
      have hc := hcell k (by rw [HX.out]; omega)
      rw [atP_getD] at hc
      have hmem := HI.out _ (atP_mem xs k (by rw [HX.out]; exact hlt))
      obtain ⟨y, HY⟩ : ∃ y, Hid (y = atP xs k) := ⟨_, rfl⟩
      rw [← HY.out] at hc hmem
      clear hcell
      have hgo : Hid (knowB ks y = true → ∀ j, j < k + 1 → knowB ks (atP xs j) = true) := fun hy j hj => by
        by_cases hjk : j < k
        · exact HF.out j hjk
        · obtain rfl : j = k := by omega
          rw [← HY.out]; exact hy
      by_cases q1 : 1 < y
      · have hq : decide (1 < y) = true := decide_eq_true q1
        have hv : y.tdiv 2 = (varN y : Nat) := tdiv_two (by omega)
        obtain ⟨b2, off2, rfl, -, hkc⟩ := HK.out.addr (by omega)
        have hc2 := hkc (varN y) hmem
        rw [HKL.out] at hmem
        rw [atP_getD] at hc2
        obtain ⟨v, HV⟩ : ∃ v, Hid (v = varN y) := ⟨_, rfl⟩
        obtain ⟨z, HZ⟩ : ∃ z, Hid (z = atP ks (varN y)) := ⟨_, rfl⟩
        rw [← HZ.out, ← HV.out] at hc2
        rw [← HV.out] at hv hmem
        clear hkc
        by_cases hz : z = 0
        · subst hz
          have hfin : Hid (Post (.returned (.bool false)) w) := by
            show Post (.returned (.bool false)) w
            rw [← HP.out]
            exact ⟨ret_bool (List.all_eq_false.2 ⟨y, by rw [HY.out]; exact atP_mem xs k (by rw [HX.out]; exact hlt), by unfold knowB; rw [hq, ← HZ.out]; decide⟩).symm, rfl⟩
          clear hgo
          go_wp2
          exact hfin.out
        · have hzb : (z == 0) = false := by rw [beq_eq_false_iff_ne]; exact hz
          have hg := hide (hgo.out (by unfold knowB; rw [hq, ← HZ.out, decide_eq_false hz]; rfl))
          clear hgo
          go_wp2
          go_round
          case rel => exact ⟨k + 1, by go_num, by omega, hg.out⟩
          case measure => simp [intOf]; omega
      · have hq : decide (1 < y) = false := decide_eq_false q1
        have hg := hide (hgo.out (by unfold knowB; rw [hq]; rfl))
        clear hgo hmem
        go_wp2
        go_round
        case rel => exact ⟨k + 1, by go_num, by omega, hg.out⟩
        case measure => simp [intOf]; omega
    · obtain rfl : k = m := by omega
      have hfin : Hid (Post (.returned (.bool true)) w) := by
        show Post (.returned (.bool true)) w
        rw [← HP.out]
        exact ⟨ret_bool (List.all_eq_true.2 (all_of (p := fun y => knowB ks y = true) (fun j hj => HF.out j (by rw [← HX.out]; exact hj)))).symm, rfl⟩
      go_wp2
      exact hfin.out
end Go.Proofs.YtimpddokepbabaaGreatDoor

namespace Go.Proofs.YtimpddokepbabaaGreatDoor
open Go.RowKit

def urA (C : Circ) (k : Nat) : List Int := C.outs ++ C.bads ++ C.cons ++ (C.lats.take k).map (·.2.1)
def urB (C : Circ) (k : Nat) : List Int := C.outs ++ C.bads ++ C.cons ++ C.lats.map (·.2.1) ++ (C.ands.take k).flatMap (fun a => [a.2.1, a.2.2])
def Circ.usesL (C : Circ) : List Int := C.outs ++ C.bads ++ C.cons ++ C.lats.map (·.2.1) ++ C.ands.flatMap (fun a => [a.2.1, a.2.2])
theorem urA_step (C : Circ) (k : Nat) (h : k < C.lats.length) : urA C (k + 1) = urA C k ++ [(atP C.lats k).2.1] := by
  unfold urA; rw [map_take _ _ _ h, ← List.append_assoc]
theorem urB_step (C : Circ) (k : Nat) (h : k < C.ands.length) : urB C (k + 1) = urB C k ++ [(atP C.ands k).2.1, (atP C.ands k).2.2] := by
  unfold urB; rw [flat_take _ _ h, ← List.append_assoc]
theorem urA_zero (C : Circ) : urA C 0 = C.outs ++ C.bads ++ C.cons := by simp [urA]
theorem urA_end (C : Circ) : urB C 0 = urA C C.lats.length := by simp [urA, urB]
theorem urB_end (C : Circ) : urB C C.ands.length = C.usesL := by simp [urB, Circ.usesL]
theorem uses_mem (C : Circ) (x : Int) : x ∈ C.usesL ↔ x ∈ C.used := by
  unfold Circ.usesL Circ.used
  simp only [List.mem_append]
  constructor <;> (rintro ((((h | h) | h) | h) | h) <;> simp [h])
theorem uses_all (C : Circ) (p : Int → Bool) : C.usesL.all p = C.used.all p := by
  rw [Bool.eq_iff_iff, List.all_eq_true, List.all_eq_true]
  exact ⟨fun h x hx => h x ((uses_mem C x).2 hx), fun h x hx => h x ((uses_mem C x).1 hx)⟩

theorem row_two {w : World} {b : Nat} (hb : b = w.heap.size) (x y : Int) (t : TypeId) : RowK .i64 (w.alloc (.cells #[.int .i64 x, .int .i64 y] t)) (some ⟨b, 0, none⟩) [x, y] := by
  subst hb
  refine .inr ⟨_, rfl, fun i hi => ?_⟩
  rw [add_plain, Nat.zero_add, cell_of_row _ _ i _ t (0, 0) (heap_alloc_new w _)]
  rcases (by simp at hi; omega : i = 0 ∨ i = 1) with rfl | rfl <;> rfl

set_option maxRecDepth 100000 in
set_option maxHeartbeats 4000000 in
theorem uses_any (c : CV) (C : Circ) (w : World) (h : Holds w c C) (hS : Small C) :
    Calls Tryz.prog 61 #[c.v] w fun e w' => ∃ v, e = .returned v ∧ NewInts w C.usesL v w' := by
  obtain ⟨i0, hi, hz0, hz1, hz2⟩ := info_parts infoInt
  have h2 : c.n2 ≤ 64 := by rw [← h.l2]; exact hS.lats
  have h3 : c.n3 ≤ 64 := by rw [← h.l3]; exact hS.outs
  have h4 : c.n4 ≤ 64 := by rw [← h.l4]; exact hS.bads
  have h5 : c.n5 ≤ 64 := by rw [← h.l5]; exact hS.cons
  have h6 : c.n6 ≤ 2000 := by rw [← h.l6]; exact hS.ands
  have HH := hide h
  have HB := hide (box_new w c)
  have HR3 := hide (fun W (hb : Below w.heap.size w W) => h.r3.below hb)
  have HR4 := hide (fun W (hb : Below w.heap.size w W) => h.r4.below hb)
  have HR5 := hide (fun W (hb : Below w.heap.size w W) => h.r5.below hb)
  generalize hP : (fun (e : Ending) (w' : World) => ∃ v, e = .returned v ∧ NewInts w C.usesL v w') = Post
  have HP := hide hP
  clear h hS hP
  unfold CV.v
  unfold Box at HB
  generalize hA2 : c.a2 = A2 at HB ⊢
  generalize hA6 : c.a6 = A6 at HB ⊢
  have HA2 := hide hA2
  have HA6 := hide hA6
  clear hA2 hA6
  go_enter Tryz.func61, Tryz.ntmps61
  go_upto_region 2 with (at_builtin; refine wpList_append_row _ rfl (.const (.slice none 0 0)) (.tmp 7) 24 rfl .i64 (w.heap.size + 1) 3 i0 (.int .i64 0) 8 Tryz.underlying24 hi hz0 hz1 hz2 rfl _ 0 [] rfl (World.ownsRow_nil _ _ _ _) c.a3 c.n3 c.c3 C.outs rfl HH.out.l3 (HR3.out _ (below_alloc _ _)) HH.out.z3 (by unfold maxLen; omega) (by omega) (by simp) ?_; intro v1 w1 hown1 hg1)
  have HM1 : Hid (Mk w c v1 c.n3 C.outs w1) := by
    rw [Nat.zero_add, List.nil_append] at hown1
    refine ⟨hown1, (below_alloc w _).grown hg1 (by simp) (fun k hk => by cases hk), ?_⟩
    have hb : Box (w.alloc (.cells #[.int .i64 c.m, .slice c.a1 c.n1 c.c1, .slice A2 c.n2 c.c2, .slice c.a3 c.n3 c.c3, .slice c.a4 c.n4 c.c4, .slice c.a5 c.n5 c.c5, .slice A6 c.n6 c.c6, .slice c.a7 c.n7 c.c7] 29)) w.heap.size c := by
      show _ = some (Obj.cells _ _ _)
      rw [HA2.out, HA6.out]; exact HB.out
    exact hb.grown hg1 (fun e => by cases e)
  clear hown1 hg1 HB
  go_cut [3] from 9 to 15 (fun v wx => Hid (Mk w c v (c.n3 + c.n4 + c.n5) (C.outs ++ C.bads ++ C.cons) wx))
  case first =>
    obtain ⟨q0, q1, q2, q3, q4, q5, q6, q7⟩ := HM1.out.box.cells
    have hbig := HM1.out.big
    have HR4w := hide (HR4.out w1 HM1.out.below)
    have HR5w := hide (HR5.out w1 HM1.out.below)
    have HV1 : Hid (∀ k, v1.ownBlock = some k → w.heap.size + 1 ≤ k) := fun k hk => (HM1.out.own.lt k hk).1
    go_region_law ((first | (refine step_append_row _ (by rfl) (.tmp 9) (.tmp 11) 24 (by rfl) .i64 (w.heap.size + 1) 3 i0 (.int .i64 0) 8 Tryz.underlying24 hi hz0 hz1 hz2 (by rfl) v1 c.n3 (C.outs.map (Value.int .i64)) (by simp [Act.eval]) (own_like HM1.out.own rfl) c.a4 c.n4 c.c4 C.bads (by simp [Act.eval]) HH.out.l4 (row_like HR4w.out rfl) HH.out.z4 (by unfold maxLen; omega) (by omega) (by exact hbig) ?_; intro v2 w2 hown2 hg2; have hbl2 := below_like HM1.out.below hg2 HM1.out.below.size (fun k hk => by have := HV1.out k hk; omega) ⟨rfl, rfl, rfl, rfl⟩; have hbx2 : Box w2 w.heap.size c := (hg2.block w.heap.size hbig (fun e => by have := HV1.out _ e.symm; omega)).trans HM1.out.box; have hbg2 : w.heap.size + 1 ≤ w2.heap.size := hbx2.lt; obtain ⟨r0, r1, r2, r3, r4, r5, r6, r7⟩ := hbx2.cells) | (refine step_append_row _ (by rfl) (.tmp 12) (.tmp 14) 24 (by rfl) .i64 (w.heap.size + 1) 3 i0 (.int .i64 0) 8 Tryz.underlying24 hi hz0 hz1 hz2 (by rfl) _ _ _ (by simp [Act.eval]) hown2 c.a5 c.n5 c.c5 C.cons (by simp [Act.eval]) HH.out.l5 (HR5.out _ hbl2) HH.out.z5 (by unfold maxLen; omega) (by omega) (by omega) ?_; intro v3 w3 hown3 hg3)))
    all_goals
      go_wp2_with fail
      go_meet
      refine ⟨?_, hbl2.grown hg3 hbl2.size (fun k hk => by have := (hown2.lt k hk).1; omega), hbx2.grown hg3 (fun e => by have := (hown2.lt _ e).1; omega)⟩
      rw [List.map_append, List.map_append]; exact hown3
  case rest =>
    rename World => wx
    have HM : Hid (Mk w c u3 (c.n3 + c.n4 + c.n5) (C.outs ++ C.bads ++ C.cons) wx) := hcut
    clear hcut HM1 HR3 HR4 HR5
    go_wp2
    go_loopw [3, 4] (fun v i wr => ∃ k : Nat, i = .int .i64 k ∧ k ≤ c.n2 ∧ Hid (Mk w c v (c.n3 + c.n4 + c.n5 + k) (urA C k) wr)) (fun _ i _ => c.n2 - (intOf i).toNat)
    case atStart => exact ⟨0, rfl, Nat.zero_le _, hide (by rw [Nat.add_zero, urA_zero]; exact HM.out)⟩
    case round =>
      clear HM
      obtain ⟨k, rfl, hk, HM⟩ := hrel
      obtain ⟨q0, q1, q2, q3, q4, q5, q6, q7⟩ := HM.out.box.cells
      rw [HA2.out] at q2
      rw [HA6.out] at q6
      by_cases hlt : k < c.n2
      · obtain ⟨b, off, ha, hbw, hcell⟩ := HH.out.r2.addr (by rw [cellsT_len, HH.out.l2]; omega)
        rw [HA2.out] at ha
        subst ha
        have hat := cellsT_at C.lats k (by rw [HH.out.l2]; exact hlt)
        have hc1 := (HM.out.below.cell (p := ⟨b, off + k * 3 + 1, none⟩) hbw).trans (hcell _ _ hat.2.1)
        have hst := urA_step C k (by rw [HH.out.l2]; exact hlt)
        obtain ⟨x, HX⟩ : ∃ x, Hid (x = atP C.lats k) := ⟨_, rfl⟩
        rw [← HX.out] at hc1 hst
        obtain ⟨x0, x1, x2⟩ := x
        dsimp only at hc1 hst
        have HST := hide hst
        have hbig := HM.out.big
        clear hcell hat hst HX
        go_wp2_with (at_builtin; refine wpList_append_own _ rfl (.tmp 23) (.tmp 30) 24 rfl (w.heap.size + 1) 3 i0 (.int .i64 0) 1 8 Tryz.underlying24 hi hz0 hz1 hz2 rfl (by decide) _ _ _ rfl (HM.out.own.alloc _) ⟨wr.heap.size, 0, none⟩ 1 1 [.int .i64 x1] rfl rfl (cell_one_at (by simp) _ _) (by intro u hu; simp at hu; subst hu; rfl) (by unfold maxLen; omega) (by omega) (by simp; omega) ?_; intro v6 w6 hown6 hg6 _)
        go_roundw
        case rel =>
          refine ⟨k + 1, by go_num, by omega, HM.out.step (below_alloc wr _) hg6 ?_⟩
          rw [HST.out, List.map_append]; exact hown6
        case measure => simp [intOf]; omega
      · obtain rfl : k = c.n2 := by omega
        have HM2 : Hid (Mk w c u3 (c.n3 + c.n4 + c.n5 + c.n2) (urB C 0) wr) := hide (by rw [urA_end, HH.out.l2]; exact HM.out)
        clear HM hlt hk
        go_wp2
        clear q0 q1 q2 q3 q4 q5 q6 q7
        go_loopw [3, 5] (fun v i wr => ∃ k : Nat, i = .int .i64 k ∧ k ≤ c.n6 ∧ Hid (Mk w c v (c.n3 + c.n4 + c.n5 + c.n2 + k * 2) (urB C k) wr)) (fun _ i _ => c.n6 - (intOf i).toNat)
        case atStart => exact ⟨0, rfl, Nat.zero_le _, hide (by rw [Nat.zero_mul, Nat.add_zero]; exact HM2.out)⟩
        case round =>
          clear HM2
          obtain ⟨k, rfl, hk, HM⟩ := hrel
          obtain ⟨q0, q1, q2, q3, q4, q5, q6, q7⟩ := HM.out.box.cells
          rw [HA2.out] at q2
          rw [HA6.out] at q6
          by_cases hlt : k < c.n6
          · obtain ⟨b, off, ha, hbw, hcell⟩ := HH.out.r6.addr (by rw [cellsT_len, HH.out.l6]; omega)
            rw [HA6.out] at ha
            subst ha
            have hat := cellsT_at C.ands k (by rw [HH.out.l6]; exact hlt)
            have hc1 := (HM.out.below.cell (p := ⟨b, off + k * 3 + 1, none⟩) hbw).trans (hcell _ _ hat.2.1)
            have hc2 := (HM.out.below.cell (p := ⟨b, off + k * 3 + 2, none⟩) hbw).trans (hcell _ _ hat.2.2)
            have hst := urB_step C k (by rw [HH.out.l6]; exact hlt)
            obtain ⟨x, HX⟩ : ∃ x, Hid (x = atP C.ands k) := ⟨_, rfl⟩
            rw [← HX.out] at hc1 hc2 hst
            obtain ⟨x0, x1, x2⟩ := x
            dsimp only at hc1 hc2 hst
            have HST := hide hst
            have hbig := HM.out.big
            have HV1 : Hid (∀ j, (u3).ownBlock = some j → w.heap.size + 1 ≤ j) := fun j hj => (HM.out.own.lt j hj).1
            clear hcell hat hst HX
            go_wp2
            go_region_law ((refine step_append_row _ (by rfl) (.tmp 39) (.tmp 52) 24 (by rfl) .i64 (w.heap.size + 1) 3 i0 (.int .i64 0) 8 Tryz.underlying24 hi hz0 hz1 hz2 (by rfl) _ (c.n3 + c.n4 + c.n5 + c.n2 + k * 2) ((urB C k).map (Value.int .i64)) (by simp [Act.eval]) (own_like (HM.out.own.alloc (.cells #[.int .i64 x1, .int .i64 x2] 3)) rfl) (some ⟨wr.heap.size, 0, none⟩) 2 2 [x1, x2] (by simp [Act.eval]) (by rfl) (row_like (row_two (w := wr) rfl x1 x2 3) rfl) (fun e => by cases e) (by unfold maxLen; omega) (by omega) (by simp; omega) ?_; intro v6 w6 hown6 hg6))
            all_goals
              go_wp2
              go_roundw
              case rel =>
                refine ⟨k + 1, by go_num, by omega, ?_, ?_, ?_⟩
                · rw [HST.out, List.map_append, show c.n3 + c.n4 + c.n5 + c.n2 + (k + 1) * 2 = c.n3 + c.n4 + c.n5 + c.n2 + k * 2 + 2 by omega]; exact hown6
                · exact below_like (belowThen HM.out.below (below_alloc wr (.cells #[.int .i64 x1, .int .i64 x2] 3))) hg6 (by have := HM.out.below.size; simp; omega) (fun j hj => by have := HV1.out j hj; omega) ⟨rfl, rfl, rfl, rfl⟩
                · exact (hg6.block w.heap.size (by simp; omega) (fun e => by have := HV1.out _ e.symm; omega)).trans (HM.out.box.alloc (.cells #[.int .i64 x1, .int .i64 x2] 3))
              case measure => simp [intOf]; omega
          · obtain rfl : k = c.n6 := by omega
            have hfin : Hid (Post (.returned u3) wr) := by
              show Post (.returned u3) wr
              rw [← HP.out]
              have hm := HM.out
              rw [← HH.out.l6, urB_end] at hm
              refine ⟨u3, rfl, ?_, hm.below⟩
              have e : C.usesL.length = c.n3 + c.n4 + c.n5 + c.n2 + C.ands.length * 2 := by
                have := hm.own.1
                simpa using this
              rw [e]
              exact own_le hm.own (Nat.le_succ _)
            go_wp2
            exact hfin.out
end Go.Proofs.YtimpddokepbabaaGreatDoor

namespace Go.Proofs.YtimpddokepbabaaGreatDoor
open Go.RowKit

theorem own_any (l : Int) (w : World) :
    Calls Tryz.prog 91 #[.int .i64 l] w fun e w' => e = .returned (.bool (decide (0 < l) && decide (l % 2 = 0))) ∧ w' = w := by
  by_cases h0 : 0 < l
  · have ht := tmod_two h0
    have hd : decide (0 < l) = true := decide_eq_true h0
    by_cases h2 : l % 2 = 0
    · have ht0 : l.tmod 2 = 0 := by omega
      rw [hd, decide_eq_true h2]
      clear ht h2
      go_enter Tryz.func91, Tryz.ntmps91
      go_wp2
      go_ret
      exact ⟨rfl, rfl⟩
    · have ht0 : l.tmod 2 = 1 := by omega
      rw [hd, decide_eq_false h2]
      clear ht h2
      go_enter Tryz.func91, Tryz.ntmps91
      go_wp2
      go_ret
      exact ⟨rfl, rfl⟩
  · have hd : decide (0 < l) = false := decide_eq_false h0
    rw [hd]
    go_enter Tryz.func91, Tryz.ntmps91
    go_wp2
    go_ret
    exact ⟨rfl, rfl⟩

theorem lits_any (a : Option Addr) (n c : Nat) (xs : List Int) (top : Int) (w : World) (hr : RowK .i64 w a xs) (hx : xs.length = n) (hn : n ≤ 9223372036854775807) :
    Calls Tryz.prog 90 #[.slice a n c, .int .i64 top] w fun e w' => e = .returned (.bool (xs.all (litB top))) ∧ w' = w := by
  have HR := hide hr
  have HX := hide hx
  generalize hP : (fun (e : Ending) (w' : World) => e = .returned (.bool (xs.all (litB top))) ∧ w' = w) = Post
  have HP := hide hP
  clear hr hx hP
  go_enter Tryz.func90, Tryz.ntmps90
  go_wp2
  go_loop [5] (fun i => ∃ k : Nat, i = .int .i64 k ∧ k ≤ n ∧ Hid (∀ j, j < k → litB top (atP xs j) = true)) (fun i => n - (intOf i).toNat)
  case atStart => exact ⟨0, rfl, Nat.zero_le _, fun j hj => absurd hj (Nat.not_lt_zero _)⟩
  case round =>
    obtain ⟨k, rfl, hk, HF⟩ := hrel
    by_cases hlt : k < n
    · obtain ⟨b, off, rfl, -, hcell⟩ := HR.out.addr (by rw [HX.out]; omega)
      have hc := hcell k (by rw [HX.out]; omega)
      rw [atP_getD] at hc
      obtain ⟨y, HY⟩ : ∃ y, Hid (y = atP xs k) := ⟨_, rfl⟩
      rw [← HY.out] at hc
      clear hcell
      have hno : Hid (litB top y = false → Post (.returned (.bool false)) w) := fun hf => by
        rw [← HP.out]
        exact ⟨ret_bool (List.all_eq_false.2 ⟨y, by rw [HY.out]; exact atP_mem xs k (by rw [HX.out]; exact hlt), by rw [hf]; decide⟩).symm, rfl⟩
      by_cases q1 : y < 0
      · have hfin := hide (hno.out (by unfold litB; rw [decide_eq_false (show ¬ 0 ≤ y by omega)]; rfl))
        clear hno
        go_wp2
        exact hfin.out
      · by_cases q2 : top < y
        · have hfin := hide (hno.out (by unfold litB; rw [decide_eq_false (show ¬ y ≤ top by omega)]; simp))
          clear hno
          go_wp2
          exact hfin.out
        · clear hno
          have HO : Hid (litB top y = true) := by
            show litB top y = true
            unfold litB
            rw [decide_eq_true (show 0 ≤ y by omega), decide_eq_true (show y ≤ top by omega)]; rfl
          go_wp2
          go_round
          case rel =>
            refine ⟨k + 1, by go_num, by omega, fun j hj => ?_⟩
            by_cases hjk : j < k
            · exact HF.out j hjk
            · obtain rfl : j = k := by omega
              rw [← HY.out]; exact HO.out
          case measure => simp [intOf]; omega
    · obtain rfl : k = n := by omega
      have hfin : Hid (Post (.returned (.bool true)) w) := by
        show Post (.returned (.bool true)) w
        rw [← HP.out]
        exact ⟨ret_bool (List.all_eq_true.2 (all_of (p := fun y => litB top y = true) (fun j hj => HF.out j (by rw [← HX.out]; exact hj)))).symm, rfl⟩
      go_wp2
      exact hfin.out

set_option maxHeartbeats 1000000 in
theorem count_any (c : CV) (C : Circ) (kind : Int) (w : World) (h : Holds w c C) :
    Calls Tryz.prog 82 #[c.v, .int .u8 kind] w fun e w' => e = .returned (.int .i64 (C.countK kind (-1))) ∧ Below w.heap.size w w' := by
  have e : C.countK kind (-1) = if kind = 105 then (c.n1 : Int) else if kind = 108 then c.n2 else if kind = 111 then c.n3 else if kind = 98 then c.n4 else if kind = 99 then c.n5 else -1 := by
    unfold Circ.countK; rw [h.l1, h.l2, h.l3, h.l4, h.l5]
  rw [e]
  have HB := hide (below_alloc w (.cells #[.int .i64 c.m, .slice c.a1 c.n1 c.c1, .slice c.a2 c.n2 c.c2, .slice c.a3 c.n3 c.c3, .slice c.a4 c.n4 c.c4, .slice c.a5 c.n5 c.c5, .slice c.a6 c.n6 c.c6, .slice c.a7 c.n7 c.c7] 29))
  clear h e
  unfold CV.v
  by_cases k1 : kind = 105
  · subst k1
    go_enter Tryz.func82, Tryz.ntmps82
    go_wp2
    go_ret
    exact ⟨rfl, HB.out⟩
  · have b1 : (kind == 105) = false := by rw [beq_eq_false_iff_ne]; exact k1
    rw [if_neg k1]
    clear k1
    by_cases k2 : kind = 108
    · subst k2
      go_enter Tryz.func82, Tryz.ntmps82
      go_wp2
      go_ret
      exact ⟨rfl, HB.out⟩
    · have b2 : (kind == 108) = false := by rw [beq_eq_false_iff_ne]; exact k2
      rw [if_neg k2]
      clear k2
      by_cases k3 : kind = 111
      · subst k3
        go_enter Tryz.func82, Tryz.ntmps82
        go_wp2
        go_ret
        exact ⟨rfl, HB.out⟩
      · have b3 : (kind == 111) = false := by rw [beq_eq_false_iff_ne]; exact k3
        rw [if_neg k3]
        clear k3
        by_cases k4 : kind = 98
        · subst k4
          go_enter Tryz.func82, Tryz.ntmps82
          go_wp2
          go_ret
          exact ⟨rfl, HB.out⟩
        · have b4 : (kind == 98) = false := by rw [beq_eq_false_iff_ne]; exact k4
          rw [if_neg k4]
          clear k4
          by_cases k5 : kind = 99
          · subst k5
            go_enter Tryz.func82, Tryz.ntmps82
            go_wp2
            go_ret
            exact ⟨rfl, HB.out⟩
          · have b5 : (kind == 99) = false := by rw [beq_eq_false_iff_ne]; exact k5
            rw [if_neg k5]
            clear k5
            go_enter Tryz.func82, Tryz.ntmps82
            go_wp2
            go_ret
            exact ⟨rfl, HB.out⟩


theorem sym_kind (C : Circ) (k i : Int) (h : 0 ≤ i) : decide (i < C.countK k (-1)) = decide (i < C.countK k 0) := by
  unfold Circ.countK
  split
  · rfl
  split
  · rfl
  split
  · rfl
  split
  · rfl
  split
  · rfl
  rw [decide_eq_false (by omega), decide_eq_false (by omega)]
end Go.Proofs.YtimpddokepbabaaGreatDoor

namespace Go.Proofs.YtimpddokepbabaaGreatDoor
open Go.RowKit

def evenB (l : Int) : Bool := decide (0 < l) && decide (l % 2 = 0)
def triB (top : Int) (x : Tri) : Bool := [x.1, x.2.1, x.2.2].all (litB top) && evenB x.1
def latOkB (top : Int) (x : Tri) : Bool := triB top x && resetB x
def Circ.portsB (C : Circ) : Bool := C.ins.all (litB C.top) && (C.outs.all (litB C.top) && (C.bads.all (litB C.top) && C.cons.all (litB C.top)))
def Circ.argsB (C : Circ) : Bool := decide (0 ≤ C.max) && ((((C.portsB && C.ins.all evenB) && C.lats.all (latOkB C.top)) && C.ands.all (triB C.top)) && C.namesB)

theorem all_take {α : Type} [Inhabited α] (p : α → Bool) (l : List α) (k : Nat) (h : k < l.length) : (l.take (k + 1)).all p = ((l.take k).all p && p (atP l k)) := by
  rw [List.take_succ_eq_append_getElem h, List.all_append, ← atP_eq l k h]; simp

theorem args_same (C : Circ) : C.argsB = (C.litsB && C.namesB) := by
  unfold Circ.argsB Circ.litsB
  by_cases hm : 0 ≤ C.max
  · rw [decide_eq_true hm, Bool.true_and, Bool.true_and]
    congr 1
    rw [Bool.eq_iff_iff]
    unfold Circ.portsB Circ.made Circ.used
    simp only [Bool.and_eq_true, List.all_eq_true, List.mem_append, List.mem_map, List.mem_flatMap, latOkB, triB, evenB, ownB, litB, resetB, decide_eq_true_eq, Bool.or_eq_true, List.mem_cons, List.not_mem_nil, or_false, Circ.top]
    constructor
    · rintro ⟨⟨⟨⟨p1, p3, p4, p5⟩, e1⟩, l2⟩, a6⟩
      refine ⟨?_, ?_, fun x hx => (l2 x hx).2⟩
      · rintro y ((hy | ⟨x, hx, rfl⟩) | ⟨x, hx, rfl⟩)
        · exact ⟨(e1 y hy).1, (p1 y hy).2, (e1 y hy).2⟩
        · exact ⟨(l2 x hx).1.2.1, ((l2 x hx).1.1 _ (.inl rfl)).2, (l2 x hx).1.2.2⟩
        · exact ⟨(a6 x hx).2.1, ((a6 x hx).1 _ (.inl rfl)).2, (a6 x hx).2.2⟩
      · rintro y ((((⟨x, hx, rfl⟩ | hy) | hy) | hy) | ⟨x, hx, rfl | rfl⟩)
        · exact (l2 x hx).1.1 _ (.inr (.inl rfl))
        · exact p3 y hy
        · exact p4 y hy
        · exact p5 y hy
        · exact (a6 x hx).1 _ (.inr (.inl rfl))
        · exact (a6 x hx).1 _ (.inr (.inr rfl))
    · rintro ⟨m, u, r⟩
      refine ⟨⟨⟨⟨fun y hy => ?_, fun y hy => u y (.inl (.inl (.inl (.inr hy)))), fun y hy => u y (.inl (.inl (.inr hy))), fun y hy => u y (.inl (.inr hy))⟩, fun y hy => ?_⟩, fun x hx => ⟨⟨?_, ?_⟩, r x hx⟩⟩, fun x hx => ⟨?_, ?_⟩⟩
      · have := m y (.inl (.inl hy)); omega
      · have := m y (.inl (.inl hy)); omega
      · have h1 := m x.1 (.inl (.inr ⟨x, hx, rfl⟩))
        have h2 := u x.2.1 (.inl (.inl (.inl (.inl ⟨x, hx, rfl⟩))))
        have h3 := r x hx
        rintro y (rfl | rfl | rfl) <;> omega
      · have h1 := m x.1 (.inl (.inr ⟨x, hx, rfl⟩)); omega
      · have h1 := m x.1 (.inr ⟨x, hx, rfl⟩)
        have h2 := u x.2.1 (.inr ⟨x, hx, .inl rfl⟩)
        have h3 := u x.2.2 (.inr ⟨x, hx, .inr rfl⟩)
        rintro y (rfl | rfl | rfl) <;> omega
      · have h1 := m x.1 (.inr ⟨x, hx, rfl⟩); omega
  · rw [decide_eq_false hm, Bool.false_and, Bool.false_and, Bool.false_and]

theorem row_three {w : World} {b : Nat} (hb : b = w.heap.size) (x y z : Int) (t : TypeId) : RowK .i64 (w.alloc (.cells #[.int .i64 x, .int .i64 y, .int .i64 z] t)) (some ⟨b, 0, none⟩) [x, y, z] := by
  subst hb
  refine .inr ⟨_, rfl, fun i hi => ?_⟩
  rw [add_plain, Nat.zero_add, cell_of_row _ _ i _ t (0, 0) (heap_alloc_new w _)]
  rcases (by simp at hi; omega : i = 0 ∨ i = 1 ∨ i = 2) with rfl | rfl | rfl <;> rfl
/-- Names of any size that there is. -/
def NamesWide (C : Circ) : Prop := ∀ s ∈ C.names, s.2.2.size ≤ 9223372036854775807
end Go.Proofs.YtimpddokepbabaaGreatDoor

namespace Go.Proofs.YtimpddokepbabaaGreatDoor
open Go.RowKit

set_option maxRecDepth 100000 in
set_option maxHeartbeats 6000000 in
theorem symbol_any (c : CV) (C : Circ) (x0 x1 : Int) (x2 : ByteArray) (w : World) (h : Holds w c C) (hs : x2.size ≤ 9223372036854775807) :
    Calls Tryz.prog 92 #[c.v, .agg #[.int .u8 x0, .int .i64 x1, .string x2]] w fun e w' => e = .returned (.bool (C.symB (x0, x1, x2))) ∧ Below w.heap.size w w' := by
  have hK := hide (fun W (hb : Below w.heap.size w W) => count_any c C x0 W (h.below hb))
  have HSK := hide (sym_kind C x0 x1)
  have HB := hide (box_new w c)
  have HHd : Hid (∀ q, Held w.heap.size (w.heap.size + 1) c c.a7 x0 x1 x2 (((w.alloc (.cells #[.int .i64 c.m, .slice c.a1 c.n1 c.c1, .slice c.a2 c.n2 c.c2, .slice c.a3 c.n3 c.c3, .slice c.a4 c.n4 c.c4, .slice c.a5 c.n5 c.c5, .slice c.a6 c.n6 c.c6, .slice c.a7 c.n7 c.c7] 29)).alloc (.cells #[.int .u8 x0, .int .i64 x1, .string x2] 77)).drewN q)) := fun q => by
    have := held_new HB.out x0 x1 x2
    rw [show (w.alloc (.cells #[.int .i64 c.m, .slice c.a1 c.n1 c.c1, .slice c.a2 c.n2 c.c2, .slice c.a3 c.n3 c.c3, .slice c.a4 c.n4 c.c4, .slice c.a5 c.n5 c.c5, .slice c.a6 c.n6 c.c6, .slice c.a7 c.n7 c.c7] 29)).heap.size = w.heap.size + 1 from Array.size_push _] at this
    exact this
  have HD : Hid (∀ q, Below w.heap.size w (((w.alloc (.cells #[.int .i64 c.m, .slice c.a1 c.n1 c.c1, .slice c.a2 c.n2 c.c2, .slice c.a3 c.n3 c.c3, .slice c.a4 c.n4 c.c4, .slice c.a5 c.n5 c.c5, .slice c.a6 c.n6 c.c6, .slice c.a7 c.n7 c.c7] 29)).alloc (.cells #[.int .u8 x0, .int .i64 x1, .string x2] 77)).drewN q)) := fun q => belowThen (below_two w _ _) (Drew.below ⟨q, rfl⟩)
  obtain ⟨ct, HCT⟩ : ∃ ct, Hid (ct = C.countK x0 (-1)) := ⟨_, rfl⟩
  rw [← HCT.out] at hK
  have hfin : Hid (∀ r W, C.symB (x0, x1, x2) = r → Below w.heap.size w W → (fun (e : Ending) (w' : World) => e = .returned (.bool (C.symB (x0, x1, x2))) ∧ Below w.heap.size w w') (.returned (.bool r)) W) := fun r W hr hW => ⟨ret_bool hr.symm, hW⟩
  generalize hP : (fun (e : Ending) (w' : World) => e = .returned (.bool (C.symB (x0, x1, x2))) ∧ Below w.heap.size w w') = Post at hfin ⊢
  clear h hP HB
  have he := isEmpty_of x2
  unfold CV.v at hK ⊢
  by_cases r0 : x1 < 0
  · have hf := hide (fun W hW => hfin.out false W (by unfold Circ.symB; rw [decide_eq_false (show ¬ 0 ≤ x1 by omega)]; rfl) hW)
    clear hfin
    go_enter Tryz.func92, Tryz.ntmps92
    go_wp2
    go_quiet (fail)
    go_wp2
    exact hf.out _ (HD.out _)
  · have hd0 : decide (x1 < 0) = false := decide_eq_false r0
    have HSB : Hid (C.symB (x0, x1, x2) = (decide (x1 < ct) && nameB x2)) := by
      show C.symB (x0, x1, x2) = (decide (x1 < ct) && nameB x2)
      unfold Circ.symB
      rw [decide_eq_true (show 0 ≤ x1 by omega), HCT.out, HSK.out (by omega)]; rfl
    by_cases r1 : x1 < ct
    · have hd1 : decide (ct ≤ x1) = false := decide_eq_false (by omega)
      by_cases h0 : x2.size = 0
      · have hf := hide (fun W hW => hfin.out false W (by rw [HSB.out]; unfold nameB; simp [h0]) hW)
        rw [decide_eq_true h0] at he
        clear hfin
        go_enter Tryz.func92, Tryz.ntmps92
        go_wp2
        first | (go_region_with (first | (go_at_call 82; refine (hK.out _ (HD.out _)).mono ?_; rintro e w2 ⟨rfl, hb2⟩; obtain ⟨p0, p1, p2, p3, p4, p5, p6, p7, p8, p9, p10⟩ := Held.below (HHd.out _) hb2))) | skip
        all_goals go_wp2
        all_goals exact hf.out _ (belowThen (HD.out _) hb2)
      · rw [decide_eq_false h0] at he
        by_cases h1 : (100 : Int) < x2.size
        · have hf := hide (fun W hW => hfin.out false W (by rw [HSB.out]; unfold nameB; rw [decide_eq_false (show ¬ x2.size ≤ 100 by omega)]; simp) hW)
          have hd2 : decide ((100 : Int) < x2.size) = true := decide_eq_true h1
          clear hfin
          go_enter Tryz.func92, Tryz.ntmps92
          go_wp2
          go_region_held3 (fun w' => w'.cell? ⟨w.heap.size, 0, none⟩ = some (.int .i64 c.m) ∧ w'.cell? ⟨w.heap.size, 1, none⟩ = some (.slice c.a1 c.n1 c.c1) ∧ w'.cell? ⟨w.heap.size, 2, none⟩ = some (.slice c.a2 c.n2 c.c2) ∧ w'.cell? ⟨w.heap.size, 3, none⟩ = some (.slice c.a3 c.n3 c.c3) ∧ w'.cell? ⟨w.heap.size, 4, none⟩ = some (.slice c.a4 c.n4 c.c4) ∧ w'.cell? ⟨w.heap.size, 5, none⟩ = some (.slice c.a5 c.n5 c.c5) ∧ w'.cell? ⟨w.heap.size, 6, none⟩ = some (.slice c.a6 c.n6 c.c6) ∧ w'.cell? ⟨w.heap.size, 7, none⟩ = some (.slice c.a7 c.n7 c.c7) ∧ w'.cell? ⟨w.heap.size + 1, 0, none⟩ = some (.int .u8 x0) ∧ w'.cell? ⟨w.heap.size + 1, 1, none⟩ = some (.int .i64 x1) ∧ w'.cell? ⟨w.heap.size + 1, 2, none⟩ = some (.string x2)) (first | go_keep | exact Held.below (HHd.out _) hb2) (first | (go_at_call 82; refine (hK.out _ (HD.out _)).mono ?_; rintro e w2 ⟨rfl, hb2⟩))
          all_goals go_wp2
          all_goals exact hf.out _ (belowThen (HD.out _) hb2)
        · have hd2 : decide ((100 : Int) < x2.size) = false := decide_eq_false h1
          have hf := hide (fun r W (hr : x2.data.toList.all (fun b => decide (32 ≤ b.toNat)) = r) hW => hfin.out r W (by rw [HSB.out]; unfold nameB; rw [decide_eq_true r1, decide_eq_true (show x2.size ≠ 0 from h0), decide_eq_true (show x2.size ≤ 100 by omega), Bool.true_and, Bool.true_and, Bool.true_and]; exact hr) hW)
          clear hfin
          go_enter Tryz.func92, Tryz.ntmps92
          go_wp2
          go_region_held3 (fun w' => w'.cell? ⟨w.heap.size, 0, none⟩ = some (.int .i64 c.m) ∧ w'.cell? ⟨w.heap.size, 1, none⟩ = some (.slice c.a1 c.n1 c.c1) ∧ w'.cell? ⟨w.heap.size, 2, none⟩ = some (.slice c.a2 c.n2 c.c2) ∧ w'.cell? ⟨w.heap.size, 3, none⟩ = some (.slice c.a3 c.n3 c.c3) ∧ w'.cell? ⟨w.heap.size, 4, none⟩ = some (.slice c.a4 c.n4 c.c4) ∧ w'.cell? ⟨w.heap.size, 5, none⟩ = some (.slice c.a5 c.n5 c.c5) ∧ w'.cell? ⟨w.heap.size, 6, none⟩ = some (.slice c.a6 c.n6 c.c6) ∧ w'.cell? ⟨w.heap.size, 7, none⟩ = some (.slice c.a7 c.n7 c.c7) ∧ w'.cell? ⟨w.heap.size + 1, 0, none⟩ = some (.int .u8 x0) ∧ w'.cell? ⟨w.heap.size + 1, 1, none⟩ = some (.int .i64 x1) ∧ w'.cell? ⟨w.heap.size + 1, 2, none⟩ = some (.string x2)) (first | go_keep | exact Held.below (HHd.out _) hb2) (first | (go_at_call 82; refine (hK.out _ (HD.out _)).mono ?_; rintro e w2 ⟨rfl, hb2⟩))
          have HW := hide (belowThen (HD.out _) hb2)
          obtain ⟨p0, p1, p2, p3, p4, p5, p6, p7, p8, p9, p10⟩ := Held.below (HHd.out _) hb2
          clear hb2
          go_wp2
          go_loop [5] (fun i => ∃ k : Nat, i = .int .i64 k ∧ k ≤ x2.size ∧ Hid (∀ j (hj : j < x2.size), j < k → 32 ≤ x2[j].toNat)) (fun i => x2.size - (intOf i).toNat)
          case atStart => exact ⟨0, rfl, Nat.zero_le _, fun j _ hj => absurd hj (Nat.not_lt_zero _)⟩
          case round =>
            obtain ⟨k, rfl, hk, HF⟩ := hrel
            by_cases hlt : k < x2.size
            · by_cases h32 : ((x2[k]'hlt).toNat : Int) < 32
              · have hn := hide (hf.out false _ (name_not x2 k hlt (by omega)) HW.out)
                clear hf
                go_wp2
                exact hn.out
              · go_wp2
                go_round
                case rel =>
                  refine ⟨k + 1, by go_num, by omega, fun j hj hjk => ?_⟩
                  by_cases h : j < k
                  · exact HF.out j hj h
                  · obtain rfl : j = k := by omega
                    omega
                case measure => simp [intOf]; omega
            · have hn := hide (hf.out true _ (name_all x2 (fun j hj => HF.out j hj (by omega))) HW.out)
              clear hf
              go_wp2
              exact hn.out
    · have hd1 : decide (ct ≤ x1) = true := decide_eq_true (by omega)
      have hf := hide (fun W hW => hfin.out false W (by rw [HSB.out, decide_eq_false r1]; rfl) hW)
      clear hfin
      go_enter Tryz.func92, Tryz.ntmps92
      go_wp2
      replace r1 : ct ≤ x1 := by omega
      first | (go_region_with (first | (go_at_call 82; refine (hK.out _ (HD.out _)).mono ?_; rintro e w2 ⟨rfl, hb2⟩; obtain ⟨p0, p1, p2, p3, p4, p5, p6, p7, p8, p9, p10⟩ := Held.below (HHd.out _) hb2))) | skip
      all_goals go_wp2
      all_goals exact hf.out _ (belowThen (HD.out _) hb2)
end Go.Proofs.YtimpddokepbabaaGreatDoor
