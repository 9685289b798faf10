/-
  THE WALK of the keeper's keep.
-/
import Derived.Test.YtcbgnmkipbhncaaKeeperW
namespace Go.Proofs.Ytcbgnmkipbhncaa
open Go.RowKit Go.Maps
set_option linter.unusedSectionVars false
variable [Inhabited El]

theorem infoS : (Try.prog.info? 22).map (fun i => (i.zero, i.size, i.bytes)) = some (some (.slice none 0 0), 1, 24) := by kernel_rfl

/-- 'append' as a step of a region that draws, and where the new slice lies. -/
theorem step_append_at {P : Program} (w : World) {ops : Array Oper} {o : Oper} {a : Act} {K : Act → World → Prop} {Q : Exit → Act → World → Prop} {E : Prop} (hgd : o.guard = none) (s x : Operand) (t : TypeId)
    (ho : o.op = .call { callee := .builtin .append, args := #[s, x], argTypes := #[t, t] })
    (base : Nat) (e : TypeId) (i : TypeInfo) (z : Value) (size bytes : Nat) (ht : P.underlying t = some (.slice e)) (hi : P.info? e = some i) (hz : i.zero = some z)
    (hsize : i.size = size) (hby : i.bytes = bytes) (hzs : z.cells.size = size) (hsz : 0 < size)
    (v : Value) (n : Nat) (xs : List Value) (hs : a.eval s = v) (hown : w.ownsRow base e size v n xs)
    (ad : Addr) (m c : Nat) (news : List Value) (hx : a.eval x = .slice (some ad) m c) (hl : news.length = m * size) (hnews : ∀ j u, news[j]? = some u → w.cell? (ad.add j) = some u) (h1 : ∀ u ∈ news, u.oneCell' = true)
    (h63 : n + m ≤ maxLen) (hbytes : (n + m) * bytes ≤ 140737488355328) (hbase : base ≤ w.heap.size)
    (h : ∀ v' w', w'.ownsRow base e size v' (n + m) (xs ++ news) → w.grownBy w' v.ownBlock → (v'.ownBlock = v.ownBlock ∨ v'.ownBlock = some w.heap.size) → K (a.put o.dst v') w') :
    if Region.wanted o (yielded ops a.tmps) = true then Oper.wp P o a w K Q else E := by
  have hw : Region.wanted o (yielded ops a.tmps) = true := by simp [Region.wanted, hgd]
  rw [if_pos hw]
  obtain ⟨v', w', hr, h2, h3, _, h5⟩ := run_append_own_at (P := P) w base t o.type e i z size bytes ht hi hz hsize hby hzs hsz v n xs hown ad m c news hl hnews h1 h63 hbytes hbase
  unfold Oper.wp execOp
  simp only [ho, resolve, invoke, builtin, Sem.run_bind, Sem.run_pure, Result.andThen_ok, List.map_toArray, List.map_cons, List.map_nil, hs, hx, hr]
  exact h v' w' h2 h3 h5

def putG (G : Int → List El) (r : Int) (e : El) : Int → List El := fun n => if n = r then G r ++ [e] else G n
def putV (gv : Int → Value) (r : Int) (v : Value) : Int → Value := fun n => if n = r then v else gv n

/-- WHAT keep LEAVES. -/
def KeepPost (w : World) (kb cb ub B nU : Nat) (wA : World) (gv : Int → Value) (G : Int → List El) (x : El) (e : Ending) (w' : World) : Prop :=
  e = .returned (.tuple #[]) ∧ ∃ (r : Int) (D' : DataW Value) (v' : Value), Keeper w' kb cb ub B (nU + 1) wA D' (putV gv r v') (putG G r x) ∧ (x.xs = [] → r = 0) ∧ (0 < x.xs.length → r ∈ x.xs) ∧
    w.heap.size ≤ w'.heap.size ∧ (∀ k, k < w.heap.size → k ≠ ub → (∀ n, (gv n).ownBlock ≠ some k) → w'.heap[k]? = w.heap[k]?) ∧ (∀ k, v'.ownBlock = some k → (gv r).ownBlock = some k ∨ w.heap.size ≤ k)

theorem keep_end {w w2 w4 w5 : World} {kb cb ub B nU : Nat} {wA : World} {D : DataW Value} {gv : Int → Value} {G : Int → List El} {x : El} {r : Int} {v' : Value} {W3 : World} {o : Obj} (hK : Keeper w kb cb ub B nU wA D gv G) (hd : Drew w w2) (hW : W3.heap = (w2.alloc o).heap) (hWo : W3.os = w2.os ∧ W3.tape = w2.tape ∧ W3.output = w2.output)
    (hown : w4.ownsRow B 22 1 v' ((G r).length + 1) ((G r).map El.v ++ [x.v])) (hg : W3.grownBy w4 (gv r).ownBlock) (hat : v'.ownBlock = (gv r).ownBlock ∨ v'.ownBlock = some W3.heap.size)
    (hu : w5.ownsMap Try.prog 3 rawElem ub (nU + 1) (D.put (.int .i64 r) (.held v'))) (hg5 : w4.grownBy w5 (some ub)) (hx : ElOk wA x) (h1 : x.xs = [] → r = 0) (h2 : 0 < x.xs.length → r ∈ x.xs) :
    KeepPost w kb cb ub B nU wA gv G x (.returned (.tuple #[])) w5 := by
  have hs2 : w2.heap = w.heap := hd.heap
  have hs3 : W3.heap.size = w.heap.size + 1 := by rw [hW]; simp [hs2]
  have gal : w.grownBy W3 none := by
    obtain ⟨q, rfl⟩ := hd
    refine ⟨hWo.1, hWo.2.1, hWo.2.2, by omega, fun k hk _ => ?_⟩
    rw [hW]
    exact (World.grownBy_alloc (w.drewN q) o none).block k hk (by simp)
  have hne : ∀ n, (gv n).ownBlock = none ∨ (gv n).ownBlock ≠ some ub := fun n => by
    cases h : (gv n).ownBlock with
    | none => exact .inl rfl
    | some g => refine .inr fun e => ?_; have := ((hK.own n).lt g h).1; cases e; have := hK.ubB; omega
  have k3 : Keeper W3 kb cb ub B nU wA D gv G := hK.kept gal (by simp) (by simp) (by simp) (fun n => by cases (gv n).ownBlock <;> simp) (fun k hk => by cases hk)
  have hrow : ∀ k, (gv r).ownBlock = some k → B ≤ k := fun k hk => ((hK.own r).lt k hk).1
  have hv'lt := hown.lt
  have hfar : ∀ j, j < B → some j ≠ (gv r).ownBlock := fun j hj e => by have := hrow j e.symm; omega
  have ownr : ∀ n, n ≠ r → w4.ownsRow B 22 1 (gv n) (G n).length ((G n).map El.v) := fun n hn => (k3.own n).kept hg (by
    cases h : (gv n).ownBlock with
    | none => exact .inl rfl
    | some g => exact .inr (fun e => hK.apart n r hn g h e.symm))
  have hnew : ∀ k, v'.ownBlock = some k → (gv r).ownBlock = some k ∨ w.heap.size ≤ k := fun k hk => by
    rcases hat with e | e
    · exact .inl (by rw [← e]; exact hk)
    · rw [e] at hk; have := Option.some.inj hk; exact .inr (by omega)
  obtain ⟨nC, DC, hcn⟩ := k3.cnt
  have isM := hK.und.isMap
  refine ⟨rfl, r, _, v', ⟨?_, ?_, ⟨nC, DC, (hcn.kept hg (hfar _ hK.cbB)).kept hg5 (by have := hK.cu; simpa using this)⟩, hu, fun n => ?_, fun n => ?_, fun m n hmn g hm hn => ?_, hK.kbB, hK.cbB, hK.ubB, hK.cu, hK.ku, ?_, fun n e he => ?_, ?_, hK.wAB⟩, h1, h2, ?_, fun k hk hku hkn => ?_, hnew⟩
  · exact hg5.cell (hg.cell k3.c0 (hfar _ hK.kbB)) (by have := hK.ku; simpa using this)
  · exact hg5.cell (hg.cell k3.c1 (hfar _ hK.kbB)) (by have := hK.ku; simpa using this)
  · unfold lookG putV
    by_cases h : n = r
    · subst h
      rw [if_pos rfl]
      exact atKey_put_same isM (isKeyI n) _ _
    · rw [if_neg h, atKey_put_other (fun e => h (by cases e; rfl))]
      exact hK.look n
  · unfold putV putG
    by_cases h : n = r
    · subst h
      rw [if_pos rfl, if_pos rfl, List.length_append, List.map_append]
      refine hown.kept hg5 ?_
      cases hv : v'.ownBlock with
      | none => exact .inl rfl
      | some k => refine .inr fun e => ?_; have := (hv'lt k hv).1; cases e; have := hK.ubB; omega
    · rw [if_neg h, if_neg h]
      exact (ownr n h).kept hg5 (hne n)
  · unfold putV at hm hn
    by_cases h : m = r
    · by_cases h' : n = r
      · exact hmn (h.trans h'.symm)
      · rw [if_pos h] at hm
        rw [if_neg h'] at hn
        rcases hnew g hm with e | e
        · exact hK.apart r n (fun e => h' e.symm) g e hn
        · have := ((hK.own n).lt g hn).2; omega
    · rw [if_neg h] at hm
      by_cases h' : n = r
      · rw [if_pos h'] at hn
        rcases hnew g hn with e | e
        · exact hK.apart m r h g hm e
        · have := ((hK.own m).lt g hm).2; omega
      · rw [if_neg h'] at hn
        exact hK.apart m n hmn g hm hn
  · have := hg.size; have := hg5.size; have := hK.big; omega
  · unfold putG at he
    by_cases h : n = r
    · rw [if_pos h] at he
      rcases List.mem_append.1 he with he | he
      · exact hK.oks r e he
      · rw [List.mem_singleton] at he; subst he; exact hx
    · rw [if_neg h] at he; exact hK.oks n e he
  · exact (k3.below.grown hg k3.below.size (fun k hk => by have := hrow k hk; have := hK.ubB; have := hK.wAB.2.2; omega)).grown hg5 (by have := hg.size; have := k3.below.size; omega) (fun k hk => by cases hk; exact hK.wAB.2.2)
  · have := hg.size; have := hg5.size; omega
  · exact (hg5.block k (by have := hg.size; omega) (by simpa using hku)).trans ((hg.block k (by omega) (fun e => hkn r e.symm)).trans (gal.block k hk (by simp)))

set_option maxRecDepth 100000 in
set_option maxHeartbeats 4000000 in
theorem keep_any (kb cb ub B nU : Nat) (wA : World) (D : DataW Value) (gv : Int → Value) (G : Int → List El) (x : El) (w : World) (hK : Keeper w kb cb ub B nU wA D gv G) (hx : ElOk wA x) (hl : x.xs.length ≤ 1000) (hf : ∀ y ∈ x.xs, Fits y) (hn : nU ≤ 1000) (hG : ∀ n, (G n).length ≤ 1000) :
    Calls Try.prog 46 #[.pointer (some ⟨kb, 0, none⟩), x.v] w (KeepPost w kb cb ub B nU wA gv G x) := by
  obtain ⟨i0, hi, hz0, hz1, hz2⟩ := info_parts infoS
  have HRr := hide (rarest_any kb cb x.a x.xs.length x.c x.xs w hK.c0 hK.cnt ((hx.below hK.below).1) rfl hl hf)
  have HEnd := hide (fun (w2 w4 w5 W3 : World) (r : Int) (v' : Value) (o : Obj) => @keep_end _ w w2 w4 w5 kb cb ub B nU wA D gv G x r v' W3 o hK)
  have HKK := hide hK
  have HXX := hide (And.intro hx hf)
  have HGG := hide hG
  have hbig := hK.big
  unfold El.v
  obtain ⟨pl, xa, xc, xs⟩ := x
  dsimp only at hl HRr ⊢
  generalize hP : KeepPost w kb cb ub B nU wA gv G ⟨pl, xa, xc, xs⟩ = Post
  have HP := hide hP
  obtain ⟨ln, HLN⟩ : ∃ ln, Hid (ln = xs.length) := ⟨_, rfl⟩
  rw [← HLN.out] at HRr ⊢
  clear hK hx hf hG hP
  go_enter Try.func46, Try.ntmps46
  go_wp2_with fail
  refine HRr.out.mono ?_
  rintro e w2 ⟨r, rfl, hr1, hr2, hd⟩
  have hrw : (Lit.int .i64 r).wf = true := by
    by_cases h0 : 0 < ln
    · have hfr := HXX.out.2 r (hr2 h0)
      exact WalkArith.wf_i64 (n := r) (by have := hfr.2.1; have := hfr.2.2; omega)
    · have := hr1 (List.eq_nil_of_length_eq_zero (by rw [← HLN.out]; omega))
      subst this; rfl
  obtain ⟨v0, hlk, hv0⟩ := look_raw (own_map_like HKK.out.und (W := w2.drew) hd.heap) hrw
  rw [HKK.out.look r] at hv0
  cases hv0
  obtain ⟨v1, hlk2, hv1⟩ := look_raw (own_map_like ((own_map_like HKK.out.und hd.heap).alloc (.cells #[.slice xa ln xc] 22)) (W := (w2.alloc (.cells #[.slice xa ln xc] 22)).drew) rfl) hrw
  rw [HKK.out.look r] at hv1
  cases hv1
  have hc1 : w2.cell? ⟨kb, 1, none⟩ = some (.map (some ub)) := (cell_heap hd.heap _).trans HKK.out.c1
  have hbig2 : B ≤ w2.heap.size := by rw [hd.heap]; exact hbig
  clear hbig
  obtain ⟨q, HQ⟩ : ∃ q, Hid (q = (G r).length) := ⟨_, rfl⟩
  have hq : q ≤ 1000 := by rw [HQ.out]; exact HGG.out r
  have HO : Hid (w2.ownsRow B 22 1 (gv r) q ((G r).map El.v)) := by rw [HQ.out]; exact own_like (HKK.out.own r) hd.heap
  have HD := hide (And.intro hd (And.intro hr1 hr2))
  obtain ⟨g0, HG0⟩ : ∃ g0, Hid (g0 = gv r) := ⟨_, rfl⟩
  rw [← HG0.out] at hlk hlk2 HO
  have hkbl : kb < w2.heap.size := by have := HKK.out.kbB; omega
  have hkbB := HKK.out.kbB
  have hku : some kb ≠ some ub := by have := HKK.out.ku; simpa using this
  have HNE : Hid (∀ j, j < B → some j ≠ g0.ownBlock) := fun j hj e => by have := (HO.out.lt j e.symm).1; omega
  have HCA : Hid ((w2.alloc (.cells #[.slice xa ln xc] 22)).cell? ⟨kb, 1, none⟩ = some (.map (some ub))) := (World.grownBy_alloc w2 _ none).cell hc1 (by simp)
  have HUP : Hid (∀ (W3 w4 : World) (v4 : Value), W3.heap = (w2.alloc (.cells #[.slice xa ln xc] 22)).heap → W3.grownBy w4 g0.ownBlock → ∃ w5, (Instr.mapUpdate 66 (.map (some ub)) (.int .i64 r) v4).run Try.prog w4 = .ok () w5 ∧ w5.ownsMap Try.prog 3 rawElem ub (nU + 1) (D.put (.int .i64 r) (.held v4)) ∧ w4.grownBy w5 (some ub)) := fun W3 w4 v4 e hg4 =>
    ((own_map_like ((own_map_like HKK.out.und hd.heap).alloc (.cells #[.slice xa ln xc] 22)) e).kept hg4 (HNE.out ub HKK.out.ubB)).update keyI Try.underlying66 (by unfold maxLen; omega) (keyI_of hrw) (d := .held v4) (ps := []) rfl
  clear hd hr1 hr2 HRr hrw
  go_wp2_with fail
  go_region_held3 (fun w' => w'.cell? ⟨kb, 1, none⟩ = some (.map (some ub))) (first | go_keep | exact hc4 | exact hc5) ((refine step_append_at _ (by rfl) (.tmp 18) (.tmp 20) 33 (by rfl) B 22 i0 (.slice none 0 0) 1 24 Try.underlying33 hi hz0 hz1 hz2 (by rfl) (by decide) g0 q ((G r).map El.v) (by simp [Act.eval]) (own_like (HO.out.alloc (.cells #[.slice xa ln xc] 22)) rfl) ⟨w2.heap.size, 0, none⟩ 1 1 [.slice xa ln xc] (by simp [Act.eval]) (by rfl) (fun j u hu => (cell_heap rfl _).trans (cell_one_new w2 (.slice xa ln xc) 22 j u hu)) (by intro u hu; simp at hu; subst hu; rfl) (by unfold maxLen; omega) (by omega) (by simp; omega) ?_; intro v4 w4 hown4 hg4 hat4; have hc4 : w4.cell? ⟨kb, 1, none⟩ = some (.map (some ub)) := cell_like hg4 rfl HCA.out (HNE.out kb hkbB); obtain ⟨w5, hup, hund5, hg5⟩ : ∃ w5, (Instr.mapUpdate 66 (.map (some ub)) (.int .i64 r) v4).run Try.prog w4 = .ok () w5 ∧ w5.ownsMap Try.prog 3 rawElem ub (nU + 1) (D.put (.int .i64 r) (.held v4)) ∧ w4.grownBy w5 (some ub) := HUP.out _ w4 v4 (by rfl) hg4; have hc5 : w5.cell? ⟨kb, 1, none⟩ = some (.map (some ub)) := hg5.cell hc4 hku))
  all_goals
    have hfin : Post (.returned (.tuple #[])) w5 := by
      rw [← HP.out]
      rw [HG0.out] at hg4 hat4
      rw [HQ.out] at hown4
      have ev : (.slice xa ln xc : Value) = (⟨pl, xa, xc, xs⟩ : El).v := by unfold El.v; rw [HLN.out]
      rw [ev] at hown4
      exact HEnd.out w2 w4 w5 _ r v4 (.cells #[.slice xa ln xc] 22) HD.out.1 (by rfl) ⟨by rfl, by rfl, by rfl⟩ hown4 hg4 hat4 hund5 hg5 HXX.out.1 HD.out.2.1 (fun h => HD.out.2.2 (by rw [HLN.out]; exact h))
    go_end0
    exact hfin
end Go.Proofs.Ytcbgnmkipbhncaa
