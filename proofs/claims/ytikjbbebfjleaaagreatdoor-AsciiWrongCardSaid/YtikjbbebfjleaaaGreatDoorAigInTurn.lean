/-
  THE WALK of layer 4's inTurn.
-/
import Derived.Test.YtikjbbebfjleaaaGreatDoorAigNewQW
import Derived.Deep.LoopGhost
namespace Go.Proofs.YtikjbbebfjleaaaGreatDoor
open Go.RowKit

section
variable {B0 B q pq gw gu n : Nat} {rv : Value} {xs wts : List Int} {vs : List Value} {us : List (List Nat)} {w : World}

theorem QM.keptS {S : Nat → Prop} {w' : World} (h : QM B0 B q pq gw gu n rv xs wts vs us w) (hk : Kept S w w') (s1 : ¬ S q) (s0 : ¬ S pq) (s2 : ¬ S gw) (s3 : ¬ S gu) (s4 : ∀ b, rv.ownBlock = some b → ¬ S b) (s5 : ∀ i, i < n → ∀ b, (atP vs i).ownBlock = some b → ¬ S b) : QM B0 B q pq gw gu n rv xs wts vs us w' := by
  have hq := hk.block q h.qlt s1
  exact ⟨⟨h.pile.1.kept hk s0 s4, Nat.le_trans h.pile.2.1 hk.size, h.pile.2.2⟩, h.heap, (World.cell?_of_block (w := w) (a := ⟨q, 0, none⟩) hq).trans h.c0, (World.cell?_of_block (w := w) (a := ⟨q, 1, none⟩) hq).trans h.c1, (World.cell?_of_block (w := w) (a := ⟨q, 2, none⟩) hq).trans h.c2, hk.own h.ow (fun b hb => by cases hb; exact s2), hk.own h.ou (fun b hb => by cases hb; exact s3), fun i hi => hk.own (h.rows i hi) (s5 i hi), h.sep, h.sep2, h.lt⟩

/-- In the midst of taking. -/
structure TMid (w0 : World) (C : Circ) (B q pq gw gu Bo : Nat) (vs : List Value) (us : List (List Nat)) (T : List Nat) (rv : Value) (xs wts : List Int) (rs : List Nat) (v : Value) (wr : World) : Prop where
  qm : QM (w0.heap.size + 1) B q pq gw gu C.ands.length rv xs wts vs us wr
  taken : Taken C T wts rs
  perm : xs.Perm (rs.map (fun k : Nat => (k : Int)))
  own : wr.ownsRow Bo 3 1 v T.length (T.map natV)
  turn : C.turnA (C.ands.length - T.length) T = C.turn
  below : Below w0.heap.size w0 wr
  sep : ∀ b, v.ownBlock = some b → rv.ownBlock ≠ some b
  lo : ∀ i, i < C.ands.length → ∀ b, (atP vs i).ownBlock = some b → b < Bo
  big : B ≤ Bo ∧ Bo ≤ wr.heap.size ∧ w0.heap.size ≤ Bo

theorem perm_rest {xs ys : List Int} {rs : List Nat} {f : Nat} (h1 : ((f : Int) :: ys).Perm xs) (h2 : xs.Perm (rs.map (fun k : Nat => (k : Int)))) (hf : f ∈ rs) : (f :: rs.erase f).Perm rs ∧ ys.Perm ((rs.erase f).map (fun k : Nat => (k : Int))) := by
  have h3 : rs.Perm (f :: rs.erase f) := List.perm_cons_erase hf
  refine ⟨h3.symm, ?_⟩
  have h4 := (h1.trans h2).trans (h3.map (fun k : Nat => (k : Int)))
  rw [List.map_cons] at h4
  exact List.Perm.cons_inv h4

theorem first_of {xs : List Int} {rs : List Nat} (h : xs.Perm (rs.map (fun k : Nat => (k : Int)))) (hh : HeapP ltN xs) (hp : 0 < xs.length) : ∃ f : Nat, atP xs 0 = (f : Int) ∧ f ∈ rs ∧ ∀ y ∈ rs, f ≤ y := by
  have hm := h.mem_iff.1 (atP_mem xs 0 hp)
  obtain ⟨f, hf, e⟩ := List.mem_map.1 hm
  refine ⟨f, e.symm, hf, fun y hy => ?_⟩
  have hy2 : (y : Int) ∈ xs := h.mem_iff.2 (List.mem_map.2 ⟨y, hy, rfl⟩)
  obtain ⟨i, hi, e2⟩ := List.getElem_of_mem hy2
  have := hh.min weakN i hi
  rw [atP_eq xs i hi, e2, ← e] at this
  unfold ltN at this
  simp at this
  exact this

theorem tmid_take {w0 wr w1 : World} {C : Circ} {B q pq gw gu Bo : Nat} {vs : List Value} {us : List (List Nat)} {T : List Nat} {rv : Value} {xs wts : List Int} {rs : List Nat} {v : Value} {f : Nat} (hG : C.gates.Nodup) (hus : ∀ p, p < C.ands.length → atP us p = C.users p)
    (h : TMid w0 C B q pq gw gu Bo vs us T rv xs wts rs v wr) (hf : f ∈ rs) (hmin : ∀ y ∈ rs, f ≤ y) {e : Ending} (ht : TakePost (w0.heap.size + 1) B q pq gw gu C.ands.length f rv xs wts vs us wr e w1) :
    ∃ rv1 xs1 wts1 rs1, QM (w0.heap.size + 1) B q pq gw gu C.ands.length rv1 xs1 wts1 vs us w1 ∧ Taken C (T ++ [f]) wts1 rs1 ∧ xs1.Perm (rs1.map (fun k : Nat => (k : Int))) ∧ w1.ownsRow Bo 3 1 v T.length (T.map natV) ∧ C.turnA (C.ands.length - (T ++ [f]).length) (T ++ [f]) = C.turn ∧ Below w0.heap.size w0 w1 ∧ (∀ b, v.ownBlock = some b → rv1.ownBlock ≠ some b) ∧ Bo ≤ w1.heap.size := by
  obtain ⟨-, rv1, ys, zs, hq1, hp1, hp2, hk, hat⟩ := ht
  obtain ⟨f1, f2, f3⟩ := (h.taken.mem f).1 hf
  rw [hus f f1] at hq1 hp2
  obtain ⟨hr1, hr2⟩ := perm_rest hp1 h.perm hf
  have htk := taken_step hG h.taken hr1 (List.Perm.refl _)
  have hl := taken_len htk
  obtain ⟨l1, l2, l3, l4, l5, l6, l7, l8, l9, l10, l11, l12⟩ := h.qm.lt
  have hvB := fun b hb => (h.own.lt b hb)
  have hbig := h.big
  refine ⟨rv1, zs, _, _, hq1, htk, ?_, ?_, ?_, ?_, ?_, ?_⟩
  · rw [List.map_append]
    exact hp2.trans (List.Perm.append_right _ hr2)
  · refine hk.own h.own (fun b hb e => ?_)
    have := (hvB b hb).1
    rcases e with e | e | e
    · omega
    · omega
    · exact h.sep b hb e
  · rw [← turn_go (next_some h.taken hf hmin) (by simp at hl; omega)]; exact h.turn
  · refine hk.below h.below h.below.size (fun b hb => ?_)
    have h1 := h.qm.gwB.1
    rcases hb with e | e | e
    · omega
    · omega
    · have := h.qm.rvB b e; omega
  · intro b hb e
    rcases hat with h1 | ⟨b', h1, h2⟩
    · rw [h1] at e; exact h.sep b hb e
    · rw [h1] at e
      have := Option.some.inj e
      have := (hvB b hb).2
      omega
  · have := hk.size; omega
end

set_option maxRecDepth 100000 in
set_option maxHeartbeats 2000000 in
theorem inTurn_any (c : CV) (C : Circ) (w : World) (h : Holds w c C) (hS : Small C) (hL : Lits C) (hG : C.gates.Nodup) :
    Calls Tryz.prog 127 #[c.v] w fun e w' => ∃ v, e = .returned v ∧ NewInts w (C.turn.map (fun k : Nat => (k : Int))) v w' := by
  obtain ⟨i0, hi, hz0, hz1, hz2⟩ := info_parts infoInt
  have h6 : c.n6 ≤ 2000 := by rw [← h.l6]; exact hS.ands
  have hNQ := newQueue_any c C (w.alloc (.cells #[.int .i64 c.m, .slice c.a1 c.n1 c.c1, .slice c.a2 c.n2 c.c2, .slice c.a3 c.n3 c.c3, .slice c.a4 c.n4 c.c4, .slice c.a5 c.n5 c.c5, .slice c.a6 c.n6 c.c6, .slice c.a7 c.n7 c.c7] 29)) (h.below (below_alloc w _)) hS hL hG
  have HNQ := hide hNQ
  have HB := hide (box_new w c)
  have HG := hide hG
  have HN6 : Hid (C.ands.length = c.n6) := h.l6
  generalize hP : (fun (e : Ending) (w' : World) => ∃ v, e = .returned v ∧ NewInts w (C.turn.map (fun k : Nat => (k : Int))) v w') = Post
  have HP := hide hP
  clear h hS hL hG hP hNQ
  unfold CV.v at HNQ ⊢
  go_enter Tryz.func127, Tryz.ntmps127
  go_wp2_with fail
  refine HNQ.out.mono ?_
  rintro e w1 ⟨B, q, pq, gw, gu, rv, xs, wts, vs, us, rfl, hq1, hb1, hperm, hinv⟩
  have HB1 := hide (HB.out.below hb1)
  obtain ⟨-, -, -, -, -, -, q6, -⟩ := HB1.out.cells
  have hs1 : w.heap.size + 1 ≤ w1.heap.size := HB1.out.lt
  have HUs : Hid (∀ p, p < C.ands.length → atP us p = C.users p) := fun p hp => by rw [hinv.u1 p hp]; simp [Circ.users, Circ.hits]
  obtain ⟨wb, hwb1, hwb2, hwb3⟩ : ∃ wb, Hid (Below w.heap.size w wb) ∧ Hid (Below wb.heap.size wb w1) ∧ Hid (QM (wb.heap.size + 1) B q pq gw gu C.ands.length rv xs wts vs us w1 ∧ w.heap.size + 1 = wb.heap.size) := ⟨_, below_alloc w _, hb1, hq1, by simp⟩
  have HQ1 := hide (And.intro hperm (frees_taken hinv))
  clear hq1 hperm hinv hb1 HNQ HB
  go_wp2_with (first | (at_make; refine wpList_make_own _ rfl _ _ 24 rfl w1.heap.size 3 i0 (.int .i64 0) 1 Tryz.underlying24 hi hz0 hz1 .i64 .i64 _ c.n6 rfl rfl rfl (by rw [hz2]; omega) (by unfold maxLen; omega) (Nat.le_refl _) ?_; intro w2 hown2 hg2))
  have HT0 : Hid (TMid wb C B q pq gw gu w1.heap.size vs us [] rv xs wts (C.frees C.ands.length) (.slice (some ⟨w1.heap.size, 0, none⟩) 0 c.n6) w2) := by
    have hk : Kept (fun _ => False) w1 w2 := (Kept.refl (fun _ => False) w1).grown hg2 (fun k hk => by cases hk)
    refine ⟨hwb3.out.1.kept hk, HQ1.out.2, HQ1.out.1, hown2, by simp [Circ.turn], hwb2.out.grown hg2 hwb2.out.size (fun k hk => by cases hk), fun b hb e => ?_, fun i hi b hb => (hwb3.out.1.vsB i hi b hb).2, hwb3.out.1.pile.2.1, hg2.size, hwb2.out.size⟩
    have h1 : w1.heap.size = b := Option.some.inj hb
    have h2 := (hwb3.out.1.pile.1.own.lt b e).2
    omega
  have HL0 : Hid (w.heap.size + 1 ≤ wb.heap.size ∧ Below w.heap.size w wb) := ⟨by rw [hwb3.out.2]; exact Nat.le_refl _, hwb1.out⟩
  clear hown2 hg2 HQ1 hwb1 hwb2 hwb3 q6 HB1
  go_simp
  go_loopg [4] c.n6 (fun kx v wr => ∃ (T : List Nat) (rv : Value) (xs wts : List Int) (rs : List Nat), kx = c.n6 - T.length ∧ T.length ≤ c.n6 ∧ Hid (TMid wb C B q pq gw gu w1.heap.size vs us T rv xs wts rs v wr))
  case atStart => exact ⟨[], rv, xs, wts, _, rfl, Nat.zero_le _, HT0.out⟩
  case round =>
    clear HT0
    obtain ⟨T, rv, xs, wts, rs, hgk, hTl, HT⟩ := hrel
    subst hgk
    have hcq := HT.out.qm.c0
    have hc0 := HT.out.qm.pile.1.c0
    obtain ⟨ra, rc, hre⟩ := own_form HT.out.qm.pile.1.own
    rw [hre] at hc0
    have hrl : rs.length ≤ c.n6 := by rw [← HN6.out]; exact nodup_len _ rs HT.out.taken.nd (fun i hi => ((HT.out.taken.mem i).1 hi).1)
    have hxl : xs.length = rs.length := by have := HT.out.perm.length_eq; simpa using this
    obtain ⟨X, HXl⟩ : ∃ X, Hid (X = xs.length) := ⟨_, rfl⟩
    rw [← HXl.out] at hc0 hxl
    have hX5 : X ≤ 2000 := by omega
    have HXR := hide hxl
    clear hxl
    have hlen := fun W (hW : W.cell? ⟨pq, 0, none⟩ = some (.slice ra X rc)) => plLen pq ra X rc W hW
    have HRE := hide hre
    clear hre
    cases X with
    | zero =>
      have hfin : Hid (Post (.returned u4) wr) := by
        show Post _ wr
        rw [← HP.out]
        have e0 : rs = [] := List.eq_nil_of_length_eq_zero HXR.out.symm
        have hm := HT.out
        rw [e0] at hm
        have ht := hm.turn
        rw [turn_end (next_none hm.taken)] at ht
        refine ⟨u4, rfl, ?_, belowThen HL0.out.2 hm.below⟩
        rw [List.length_map, List.map_map, ← ht]
        have hb := hm.big
        have hl := HL0.out.1
        exact own_le hm.own (by omega)
      go_wp2_with (first | (go_at_call 145; refine (hlen _ (by assumption)).mono ?_; rintro e w4 ⟨rfl, hw4⟩; obtain rfl := hw4.symm))
      exact hfin.out
    | succ m =>
      obtain ⟨f, hf0, hf1, hf2⟩ := first_of HT.out.perm HT.out.qm.heap (by rw [← HXl.out]; omega)
      have hfn := ((HT.out.taken.mem f).1 hf1).1
      have htake := take_any HT.out.qm m f HXl.out.symm (by omega) hf0 hfn (by rw [HN6.out]; exact h6) (by rw [HUs.out f hfn]; have := C.upTo_len f C.ands.length; have h7 := HN6.out; unfold Circ.users; omega) (fun u hu => by rw [HUs.out f hfn] at hu; exact C.users_lt f u hu) (fun i hi => by rw [HT.out.taken.wait i hi]; have := C.wl_le T i; omega)
      have HTake := hide htake
      have hTn : T.length < c.n6 := by
        have h1 := List.nodup_append.2 ⟨HT.out.taken.tnd, List.nodup_cons.2 ⟨List.not_mem_nil, List.nodup_nil⟩, fun a ha b hb e => by rw [List.mem_singleton] at hb; rw [e, hb] at ha; exact ((HT.out.taken.mem f).1 hf1).2.1 ha⟩
        have h2 := nodup_len C.ands.length (T ++ [f]) h1 (fun t ht => by rcases List.mem_append.1 ht with h | h; exact HT.out.taken.lt t h; rw [List.mem_singleton] at h; subst h; exact hfn)
        have h3 := HN6.out
        simp at h2
        omega
      have HStep : Hid (∀ e w5, TakePost (wb.heap.size + 1) B q pq gw gu C.ands.length f rv xs wts vs us wr e w5 → _) := fun e w5 ht => tmid_take HG.out HUs.out HT.out hf1 hf2 ht
      have hTL : Hid (wr.ownsRow w1.heap.size 3 1 u4 T.length (T.map natV)) := HT.out.own
      clear htake hf0 hf1 hf2
      go_wp2_with (first | (go_at_call 145; refine (hlen _ (by assumption)).mono ?_; rintro e w4 ⟨rfl, hw4⟩; obtain rfl := hw4.symm) | (go_at_call 146; refine HTake.out.mono ?_; intro e w5 htp; obtain ⟨rv5, xs5, wts5, rs5, hs5⟩ := HStep.out e w5 htp; obtain rfl := htp.1; have hown5 := hs5.2.2.2.1; have hsz5 := hs5.2.2.2.2.2.2.2; have HS5 := hide hs5; clear hs5 htp) | (at_builtin; refine wpList_append_own_at _ rfl (.tmp 17) (.tmp 20) 24 rfl w1.heap.size 3 i0 (.int .i64 0) 1 8 Tryz.underlying24 hi hz0 hz1 hz2 rfl (by decide) _ _ _ rfl (hown5.alloc _) ⟨w5.heap.size, 0, none⟩ 1 1 [.int .i64 (f : Int)] rfl rfl (cell_one_new _ _ _) (by intro u hu; simp at hu; subst hu; rfl) (by unfold maxLen; omega) (by omega) (by simp; omega) ?_; intro v6 w6 hown6 hg6 _ hat6))
      go_roundg (c.n6 - (T ++ [f]).length)
      case measure => simp; omega
      case rel =>
        obtain ⟨k1, k2, k3, k4, k5, k6, k7, k8⟩ := HS5.out
        have hbig := HT.out.big
        obtain ⟨l1, l2, l3, l4, l5, l6, l7, l8, l9, l10, l11, l12⟩ := k1.lt
        have hk6 : Kept (fun b => u4.ownBlock = some b) w5 w6 := ((Kept.of_below (below_alloc w5 _)).grown hg6 (fun k hk _ => hk))
        have hub := fun b hb => k4.lt b hb
        refine ⟨T ++ [f], rv5, xs5, wts5, rs5, rfl, by simp; omega, ?_, k2, k3, ?_, k5, ?_, ?_, HT.out.lo, hbig.1, ?_, hbig.2.2⟩
        · refine k1.keptS hk6 (fun e => ?_) (fun e => ?_) (fun e => ?_) (fun e => ?_) (fun b hb e => k7 b e hb) (fun i hi b hb e => ?_)
          · have := (hub _ e).1; omega
          · have := (hub _ e).1; omega
          · have := (hub _ e).1; omega
          · have := (hub _ e).1; omega
          · have := (hub _ e).1; have := HT.out.lo i hi b hb; omega
        · rw [List.length_append, List.length_singleton, List.map_append]; exact hown6
        · exact hk6.below k6 k6.size (fun b hb => by have := (hub _ hb).1; omega)
        · intro b hb e
          have hrl := (k1.pile.1.own.lt b e).2
          rcases hat6 with h1 | h1
          · rw [h1] at hb; exact k7 b hb e
          · rw [h1] at hb; have := Option.some.inj hb; simp at this; omega
        · have := hk6.size; omega
end Go.Proofs.YtikjbbebfjleaaaGreatDoor
