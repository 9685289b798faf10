/-
  THE WALK of inOrder at ints: a new slice of the same numbers, rising by size.
-/
import Derived.Test.YtcbgnmkipbhncaaCubeClone
namespace Go.Proofs.Ytcbgnmkipbhncaa
open Go.RowKit

theorem pile_new {w : World} {B : Nat} {a : Option Addr} {n c : Nat} {xs : List Int} (h : w.ownsRow B 3 1 (.slice a n c) n (xs.map (Value.int .i64))) (hs : ∀ x ∈ xs, SignB x) (hn : n ≤ 1048576) (hBw : B ≤ w.heap.size) :
    ∃ g, g ≤ w.heap.size ∧ B ≤ g ∧ PileI w.heap.size g (w.alloc (.cells #[.slice a n c, .func (.func 31) #[] #[]] 58)) xs := by
  have hl : xs.length = n := by simpa using h.1
  have hb := h.lt
  by_cases h0 : n = 0
  · refine ⟨w.heap.size, Nat.le_refl _, hBw, hs, by omega, fun h => by omega, by simp, by simp, a, c, by rw [hl]; simp, ?_, ?_, fun h => by omega⟩
    · omega
    · rcases h.2 with ⟨e, _⟩ | ⟨g, cap, cur, e, _, _, _, hm, _⟩
      · cases e; omega
      · cases e; exact hm
  · rcases h.2 with ⟨e, e2⟩ | ⟨g, cap, cur, e, hB, hg, hc, hm, hcs, ht⟩
    · exact absurd e2 h0
    · cases e
      have hlt : g < w.heap.size := (Array.getElem?_eq_some_iff.1 hg).1
      have hold : (w.alloc (.cells #[.slice (some ⟨g, 0, none⟩) n c, .func (.func 31) #[] #[]] 58)).heap[g]? = w.heap[g]? := (World.grownBy_alloc w _ none).block g hlt (by simp)
      refine ⟨g, by omega, hB, hs, by omega, fun _ => by omega, by simp, by simp, _, c, by rw [hl]; simp, by omega, hm, fun _ => ⟨rfl, fun i hi => ⟨?_, ?_⟩⟩⟩
      · rw [World.cell?_of_block (w := w) (a := ⟨g, i, none⟩) hold]
        have := h.cells (g := g) rfl i (.int .i64 (atP xs i)) (by rw [List.getElem?_map, atP_some xs i hi]; rfl)
        rwa [add_plain, Nat.zero_add] at this
      · rw [World.frozen?_of_block (w := w) (a := ⟨g, i, none⟩) hold]
        exact frozen_of_row w g i cur _ hg

theorem isInt (w : World) (x : Int) : (Instr.typeAssert (.iface 3 (.int .i64 x)) 20 3 false).run Try.prog w = .ok (.int .i64 x) w := by kernel_rfl

/-- WHAT inOrder TELLS. -/
def InOrd (w : World) (xs : List Int) (e : Ending) (w' : World) : Prop := ∃ v ys, e = .returned v ∧ NewInts w ys v w' ∧ ys.Perm xs ∧ RiseP ltI ys

/-- What stands between two rounds. -/
structure Mid (w0 : World) (p g B : Nat) (xs : List Int) (v : Value) (k : Nat) (acc rest : List Int) (wr : World) : Prop where
  own : wr.ownsRow B 3 1 v k (acc.map (Value.int .i64))
  pile : PileI p g wr rest
  below : Below w0.heap.size w0 wr
  heap : HeapP ltI rest
  rise : RiseP ltI acc
  ge : ∀ a ∈ acc, ∀ y ∈ rest, ltI y a = false
  perm : (acc ++ rest).Perm xs
  len : acc.length = k
  big : B ≤ wr.heap.size

set_option maxRecDepth 100000 in
set_option maxHeartbeats 1000000 in
theorem inOrder_any (a : Option Addr) (n c : Nat) (xs : List Int) (w : World) (hr : RowK .i64 w a xs) (hx : xs.length = n) (hnc : a = none → c = 0) (hn : n ≤ 1048576) (hs : ∀ x ∈ xs, SignB x) :
    Calls Try.prog 30 #[.slice a n c, .func (.func 31) #[] #[]] w (InOrd w xs) := by
  obtain ⟨i0, hi, hz0, hz1, hz2⟩ := info_parts infoInt
  have HC := hide (clone_any a n c xs w hr hx hnc hn)
  have HS := hide hs
  have HX := hide hx
  generalize hP : InOrd w xs = Post
  have HP := hide hP
  clear hr hx hnc hs hP
  go_enter Try.func30, Try.ntmps30
  go_wp2_with fail
  refine HC.out.mono ?_
  rintro e w1 ⟨v, rfl, hown, hb1⟩
  have hsz1 := hb1.size
  rw [HX.out] at hown
  obtain ⟨a1, c1, rfl, hrow1, hnc1, hl1, hc1, hcm1⟩ := row_of_own hown
  obtain ⟨g, hg1, hg2, hpile⟩ := pile_new hown HS.out hn hsz1
  have HI := hide (init_any (pileI_heaps w1.heap.size g) weakI _ xs hpile)
  clear hown hrow1 hnc1 hl1 hpile HC
  have HB1 := hide hb1
  clear hb1
  go_wp2_with fail
  refine HI.out.mono ?_
  rintro e w2 ⟨rfl, ys, hp2, ht2, hperm, hheap⟩
  have hs2 : w1.heap.size + 1 ≤ w2.heap.size := by have := ht2.size; simpa using this
  have hb2 : Below w.heap.size w w2 := ht2.below (HB1.out.grown (World.grownBy_alloc w1 _ none) (by omega) (fun k hk => by cases hk)) (Nat.le_refl _) (by omega) hg2
  have H2 := hide (And.intro hp2 (And.intro hb2 (And.intro hperm hheap)))
  clear hp2 ht2 hb2 hperm hheap HI
  go_wp2_with (at_make; refine wpList_make_len _ rfl (.const (.int .i64 0)) (.tmp 16) 22 rfl 3 i0 (.int .i64 0) Try.underlying22 hi hz0 hz1 .i64 .i64 _ _ 0 n rfl rfl rfl (by omega) (by omega) (by rw [hz2]; omega) (by unfold maxLen; omega) ?_; intro w3 cur hgc hcs hgr)
  have hM : Mid w w1.heap.size g w2.heap.size xs (.slice (some ⟨w2.heap.size, 0, none⟩) 0 n) 0 [] ys w3 := by
    obtain ⟨k1, k2, k3, k4⟩ := H2.out
    refine ⟨⟨by simp, .inr ⟨w2.heap.size, n, cur, rfl, Nat.le_refl _, hgc, Nat.zero_le _, by unfold maxLen; omega, by simpa using hcs, by simp⟩⟩, k1.kept (hgr.block _ (by omega) (by simp)) (hgr.block _ (by omega) (by simp)), k2.grown hgr (by have := k2.size; omega) (fun k hk => by cases hk), k4, List.Pairwise.nil, (fun a ha => by cases ha), by simpa using k3, rfl, hgr.size⟩
  have HM := hide hM
  clear hM hgc hcs hgr H2
  go_simp
  go_loopg [6] ys.length (fun kx v wr => ∃ (k : Nat) (acc rest : List Int), kx = rest.length ∧ k + rest.length ≤ n ∧ Hid (Mid w w1.heap.size g w2.heap.size xs v k acc rest wr))
  case atStart =>
    have e := HM.out.perm.length_eq
    rw [List.nil_append, HX.out] at e
    exact ⟨0, [], ys, rfl, by omega, HM.out⟩
  case round =>
    clear HM
    obtain ⟨k, acc, rest, hgk, hkr, HM⟩ := hrel
    have hlen := (pileI_heaps w1.heap.size g).len wr rest HM.out.pile
    have HO := hide (fun m (hm : rest.length = m + 1) => hpop_any (pileI_heaps w1.heap.size g) weakI wr rest HM.out.pile m hm HM.out.heap)
    obtain ⟨L, hL⟩ : ∃ L, L = rest.length := ⟨_, rfl⟩
    rw [← hL] at hlen hkr hgk
    subst hgk
    have HL := hide hL
    clear hL
    cases gk with
    | zero =>
      have hfin : Post (.returned u6) wr := by
        rw [← HP.out]
        have e : rest = [] := List.eq_nil_of_length_eq_zero HL.out.symm
        have hm := HM.out
        rw [e] at hm
        refine ⟨u6, acc, rfl, ⟨?_, hm.below⟩, by simpa using hm.perm, hm.rise⟩
        rw [hm.len]
        exact own_le hm.own (by omega)
      go_wp2_with (go_at_call 50; refine hlen.mono ?_; rintro e w4 ⟨rfl, hw4⟩; obtain rfl := hw4.symm)
      exact hfin
    | succ m =>
      have hpop := HO.out m HL.out.symm
      obtain ⟨x, HXX⟩ : ∃ x, Hid (x = atP rest 0) := ⟨_, rfl⟩
      rw [← HXX.out] at hpop
      have HPop := hide hpop
      clear hpop HO
      have hty := fun W => isInt W x
      have HSZ := hide HM.out.big
      go_wp2_with (first | (go_at_call 50; refine hlen.mono ?_; rintro e w4 ⟨rfl, hw4⟩; obtain rfl := hw4.symm) | (go_at_call 51; refine HPop.out.mono ?_; rintro e w5 ⟨rfl, zs, hz⟩; have hown5 : w5.ownsRow w2.heap.size 3 1 u6 k (acc.map (Value.int .i64)) := own_two HM.out.own hz.2.1 (by omega) (by omega)) | (at_builtin; refine wpList_append_own _ rfl (.tmp 21) (.tmp 26) 22 rfl w2.heap.size 3 i0 (.int .i64 0) 1 8 Try.underlying22 hi hz0 hz1 hz2 rfl (by decide) _ _ _ rfl (hown5.alloc _) ⟨w5.heap.size, 0, none⟩ 1 1 [.int .i64 x] rfl rfl (cell_one_new _ _ _) (by intro u hu; simp at hu; subst hu; rfl) (by unfold maxLen; omega) (by omega) (by simp; have := hz.2.1.size; have := HSZ.out; omega) ?_; intro v6 w6 hown6 hg6 _))
      go_roundg m
      case measure => omega
      case rel =>
        obtain ⟨q1, q2, q3, q4, q5⟩ := hz
        have hm := HM.out
        have hst := rise_step hm.rise hm.ge hm.perm q4 q5
        have hzl : zs.length = m := by have := q4.length_eq; rw [← HL.out] at this; simpa using this
        have hsz5 := q2.size
        have hsz := HSZ.out
        have hal : w5.grownBy (w5.alloc (.cells #[.int .i64 x] 3)) none := World.grownBy_alloc _ _ _
        have hlt := (hown5.alloc (.cells #[.int .i64 x] 3)).lt
        have hks : ∀ j, j < w2.heap.size → w6.heap[j]? = w5.heap[j]? := fun j hj =>
          (hg6.block j (by simp; omega) (fun e => by have := hlt j e.symm; omega)).trans (hal.block j (by omega) (by simp))
        refine ⟨k + 1, acc ++ [x], zs, hzl.symm, by omega, ?_, q1.kept (hks _ (by omega)) (hks _ (by omega)), ?_, q3, hst.1, hst.2.1, hst.2.2, by simp [hm.len], by have := hg6.size; simp at this; omega⟩
        · rw [List.map_append]; exact hown6
        · exact ⟨hg6.os.trans (hal.os.trans (q2.below hm.below (Nat.le_refl _) (by omega) hg2).os), hg6.tape.trans (hal.tape.trans (q2.below hm.below (Nat.le_refl _) (by omega) hg2).tape), hg6.output.trans (hal.output.trans (q2.below hm.below (Nat.le_refl _) (by omega) hg2).output), by have := hg6.size; simp at this; have := hm.below.size; omega, fun j hj => (hks j (by omega)).trans ((q2.below hm.below (Nat.le_refl _) (by omega) hg2).block j hj)⟩
end Go.Proofs.Ytcbgnmkipbhncaa
