/-
  THE WALKS of slices.Clone and inOrder at placed lists.
-/
import Derived.Test.YtcbgnmkipbhncaaPilePH
namespace Go.Proofs.Ytcbgnmkipbhncaa
open Go.RowKit
set_option linter.unusedSectionVars false
variable [Inhabited El]

/-- The cells of placed lists. -/
def cellsE (es : List El) : List Value := es.flatMap fun e => [.int .i64 e.place, e.v]
theorem cellsE_len (es : List El) : (cellsE es).length = es.length * 2 := by
  induction es with
  | nil => rfl
  | cons e r ih => simp [cellsE] at ih ⊢; omega
theorem cellsE_append (a b : List El) : cellsE (a ++ b) = cellsE a ++ cellsE b := List.flatMap_append
theorem cellsE_at (es : List El) : ∀ i, i < es.length → (cellsE es)[i * 2]? = some (.int .i64 (atP es i).place) ∧ (cellsE es)[i * 2 + 1]? = some (atP es i).v := by
  induction es with
  | nil => intro i h; simp at h
  | cons e r ih =>
    intro i h
    cases i with
    | zero => exact ⟨rfl, rfl⟩
    | succ i =>
      have := ih i (by simpa using h)
      have e1 : (i + 1) * 2 = i * 2 + 2 := by omega
      rw [e1]
      exact this
theorem cellsE_one (es : List El) : ∀ u ∈ cellsE es, u.oneCell' = true := fun u hu => by
  obtain ⟨e, _, h⟩ := List.mem_flatMap.1 hu
  simp [El.v] at h
  rcases h with rfl | rfl <;> rfl

theorem infoE : (Try.prog.info? 53).map (fun i => (i.zero, i.size, i.bytes)) = some (some (.agg #[.int .i64 0, .slice none 0 0]), 2, 32) := by kernel_rfl

/-- A slice of placed lists that can be read. -/
def RowE (w : World) (a : Option Addr) (es : List El) : Prop := (a = none ∧ es = []) ∨ ∃ x, a = some x ∧ ∀ j u, (cellsE es)[j]? = some u → w.cell? (x.add j) = some u
theorem RowE.below {w w' : World} {a : Option Addr} {es : List El} (h : RowE w a es) (hb : Below w.heap.size w w') : RowE w' a es := by
  rcases h with h | ⟨x, rfl, hx⟩
  · exact .inl h
  · exact .inr ⟨x, rfl, fun j u hu => by have h1 := hx j u hu; exact (hb.cell (block_lt_of_cell h1)).trans h1⟩

theorem rowE_of_own {w : World} {base : Nat} {v : Value} {n : Nat} {es : List El} (h : w.ownsRow base 53 2 v n (cellsE es)) :
    ∃ a cap, v = .slice a n cap ∧ RowE w a es ∧ (a = none → cap = 0) ∧ es.length = n ∧ n ≤ cap ∧ cap ≤ 9223372036854775807 ∧ (0 < n → ∃ g, a = some ⟨g, 0, none⟩) := by
  have hl := h.1
  rw [cellsE_len] at hl
  have hlen : es.length = n := by omega
  rcases h.2 with ⟨rfl, rfl⟩ | ⟨g, cap, cur, rfl, hb, hg, hc, hm, hcs, ht⟩
  · exact ⟨none, 0, rfl, .inl ⟨rfl, List.eq_nil_of_length_eq_zero hlen⟩, fun _ => rfl, hlen, Nat.le_refl _, by decide, fun h => absurd h (Nat.lt_irrefl _)⟩
  · exact ⟨some ⟨g, 0, none⟩, cap, rfl, .inr ⟨_, rfl, h.cells rfl⟩, (fun e => by cases e), hlen, hc, hm, fun _ => ⟨g, rfl⟩⟩

/-- A new slice of placed lists. -/
def NewEls (w : World) (es : List El) (v : Value) (w' : World) : Prop := w'.ownsRow w.heap.size 53 2 v es.length (cellsE es) ∧ Below w.heap.size w w'

/-- 'make([]T, n, c)' for elements of several cells. -/
theorem wpList_make_size {P : Program} (w : World) {ops : Array Oper} {rest : List Oper} {o : Oper} {a : Act} {Q : Exit → Act → World → Prop}
    (hg : o.guard = none) (l c : Operand) (t : TypeId) (hop : o.op = Op.makeSlice t l c)
    (e : TypeId) (i : TypeInfo) (z : Value) (size : Nat) (h1 : P.underlying t = some (.slice e)) (h2 : P.info? e = some i) (h3 : i.zero = some z) (h4 : i.size = size)
    (kl kc : IntKind) (L C : Int) (n m : Nat) (hl : a.eval l = .int kl L) (hc : a.eval c = .int kc C) (hL : L = (n : Int)) (hC : C = (m : Int)) (hnm : n ≤ m) (b2 : i.bytes * m ≤ 281474976710656) (b3 : m ≤ maxLen) (_hzs : z.cells.size = size)
    (hK : ∀ w' cur, w'.heap[w.heap.size]? = some (.cells cur e (0, 0)) → cur.size = m * size → w.grownBy w' none → wpList P ops Q rest (a.put o.dst (.slice (some ⟨w.heap.size, 0, none⟩) n m)) w') :
    wpList P ops Q (o :: rest) a w := by
  refine wpList_plain hg fun K hK' => ?_
  subst hL
  subst hC
  have b3' : m ≤ 9223372036854775807 := b3
  have hb' : (i.bytes : Int) * (m : Int) ≤ 281474976710656 := by
    have h : ((i.bytes * m : Nat) : Int) ≤ 281474976710656 := by omega
    rwa [Int.natCast_mul] at h
  have hrun := run_make (P := P) w t e i z h1 h2 h3 kl kc n m (by omega) (by omega) hb' (by omega)
  simp only [Int.toNat_natCast] at hrun
  unfold Oper.wp
  simp [execOp, hop, hl, hc, hrun, Result.andThen]
  refine hK' _ _ (hK _ (madeCells z.cells (m * i.size)) ?_ (by rw [size_madeCells, h4]) (World.grownBy_alloc w _ none))
  show (w.heap.push _)[w.heap.size]? = _
  simp

theorem eqNilE (w : World) : (binOp .eql 47 (.slice none 0 0) (.slice none 0 0)).run Try.prog w = .ok (.bool true) w := by kernel_rfl
theorem neNilE (w : World) (x : Addr) (n c : Nat) : (binOp .eql 47 (.slice (some x) n c) (.slice none 0 0)).run Try.prog w = .ok (.bool false) w := by kernel_rfl

set_option maxRecDepth 100000 in
set_option maxHeartbeats 1000000 in
theorem cloneE_any (a : Option Addr) (n c : Nat) (es : List El) (w : World) (hr : RowE w a es) (hx : es.length = n) (hnc : a = none → c = 0) (hn : n ≤ 1048576) :
    Calls Try.prog 54 #[.slice a n c] w fun e w' => ∃ v, e = .returned v ∧ NewEls w es v w' := by
  obtain ⟨i0, hi, hz0, hz1, hz2⟩ := info_parts infoE
  rcases hr with ⟨rfl, rfl⟩ | ⟨x, rfl, hcell⟩
  · obtain rfl : n = 0 := hx.symm
    obtain rfl := hnc rfl
    have he := eqNilE w
    go_enter Try.func54, Try.ntmps54
    go_wp2
    go_ret
    exact ⟨_, rfl, World.ownsRow_nil _ _ _ _, Below.refl _ _⟩
  · have hb0 : ∀ o, Below w.heap.size w (w.alloc o) := fun o => (Below.refl _ _).grown (World.grownBy_alloc w o none) (Nat.le_refl _) (fun k hk => by cases hk)
    have HC : Hid (∀ o, ∀ j u, (cellsE es)[j]? = some u → (w.alloc o).cell? (x.add j) = some u) := fun o j u hu => by have h1 := hcell j u hu; exact ((hb0 o).cell (block_lt_of_cell h1)).trans h1
    have HX := hide hx
    clear hcell hx hnc
    have he := neNilE w x n c
    go_enter Try.func54, Try.ntmps54
    go_wp2_with (at_builtin; refine wpList_append_own _ rfl (.tmp 5) (.tmp 6) 47 rfl w.heap.size 53 i0 (.agg #[.int .i64 0, .slice none 0 0]) 2 32 Try.underlying47 hi hz0 hz1 hz2 rfl (by decide) _ 0 [] rfl (World.ownsRow_made w #[] 0 (Nat.le_refl _) (by decide) (by simp)) x n c (cellsE es) rfl (by rw [cellsE_len, HX.out]) (HC.out _) (cellsE_one es) (by unfold maxLen; omega) (by omega) (by simp) ?_; intro v1 w1 hown hg1 _)
    go_ret
    refine ⟨v1, rfl, ?_, below_grow (hb0 _) hg1 (by simp) (fun k hk => by cases hk; exact Nat.le_refl _)⟩
    rw [Nat.zero_add, List.nil_append] at hown
    rw [HX.out]
    exact hown

theorem pileE_new {w : World} {B f : Nat} {a : Option Addr} {n c : Nat} {es : List El} (h : w.ownsRow B 53 2 (.slice a n c) n (cellsE es)) (hn : n ≤ 1048576) (hBw : B ≤ w.heap.size) :
    ∃ g, g ≤ w.heap.size ∧ B ≤ g ∧ PileE f w.heap.size g (w.alloc (.cells #[.slice a n c, .func (.func f) #[] #[]] 72)) es := by
  have hl : es.length = n := by have := h.1; rw [cellsE_len] at this; omega
  by_cases h0 : n = 0
  · refine ⟨w.heap.size, Nat.le_refl _, hBw, by omega, fun h => by omega, by simp, by simp, a, c, by rw [hl]; simp, ?_, ?_, fun h => by omega⟩
    · omega
    · rcases h.2 with ⟨e, _⟩ | ⟨g, cap, cur, e, _, _, _, hm, _⟩
      · cases e; omega
      · cases e; exact hm
  · rcases h.2 with ⟨e, e2⟩ | ⟨g, cap, cur, e, hB, hg, hc, hm, hcs, ht⟩
    · exact absurd e2 h0
    · cases e
      have hlt : g < w.heap.size := (Array.getElem?_eq_some_iff.1 hg).1
      have hold : (w.alloc (.cells #[.slice (some ⟨g, 0, none⟩) n c, .func (.func f) #[] #[]] 72)).heap[g]? = w.heap[g]? := (World.grownBy_alloc w _ none).block g hlt (by simp)
      have hcell : ∀ j u, (cellsE es)[j]? = some u → (w.alloc (.cells #[.slice (some ⟨g, 0, none⟩) n c, .func (.func f) #[] #[]] 72)).cell? ⟨g, j, none⟩ = some u := fun j u hu => by
        rw [World.cell?_of_block (w := w) (a := ⟨g, j, none⟩) hold]
        have := h.cells (g := g) rfl j u hu
        rwa [add_plain, Nat.zero_add] at this
      have hfr : ∀ j, (w.alloc (.cells #[.slice (some ⟨g, 0, none⟩) n c, .func (.func f) #[] #[]] 72)).frozen? ⟨g, j, none⟩ = false := fun j => by
        rw [World.frozen?_of_block (w := w) (a := ⟨g, j, none⟩) hold]
        exact frozen_of_row w g j cur _ hg
      exact ⟨g, by omega, hB, by omega, fun _ => by omega, by simp, by simp, _, c, by rw [hl]; simp, by omega, hm, fun _ => ⟨rfl, fun i hi => ⟨⟨hcell _ _ (cellsE_at es i hi).1, hcell _ _ (cellsE_at es i hi).2⟩, hfr _, hfr _⟩⟩⟩

theorem isE (w : World) (pl : Int) (a : Option Addr) (n c : Nat) : (Instr.typeAssert (.iface 53 (.agg #[.int .i64 pl, .slice a n c])) 20 53 false).run Try.prog w = .ok (.agg #[.int .i64 pl, .slice a n c]) w := by kernel_rfl

/-- WHAT inOrder TELLS. -/
def InOrdE (w : World) (lt : El → El → Bool) (es : List El) (e : Ending) (w' : World) : Prop := ∃ v ys, e = .returned v ∧ NewEls w ys v w' ∧ ys.Perm es ∧ RiseP lt ys

structure MidE (w0 : World) (f : Nat) (lt : El → El → Bool) (p g B : Nat) (es : List El) (v : Value) (k : Nat) (acc rest : List El) (wr : World) : Prop where
  own : wr.ownsRow B 53 2 v k (cellsE acc)
  pile : PileE f p g wr rest
  below : Below w0.heap.size w0 wr
  heap : HeapP lt rest
  rise : RiseP lt acc
  ge : ∀ a ∈ acc, ∀ y ∈ rest, lt y a = false
  perm : (acc ++ rest).Perm es
  len : acc.length = k
  big : B ≤ wr.heap.size

theorem cell_two_new (w : World) (x y : Value) (t : TypeId) : ∀ j u, [x, y][j]? = some u → (w.alloc (.cells #[x, y] t)).cell? ((⟨w.heap.size, 0, none⟩ : Addr).add j) = some u := by
  intro j u hj
  rw [add_plain, Nat.zero_add, cell_of_row _ _ j #[x, y] t (0, 0) (heap_alloc_new w _)]
  simpa using hj

set_option maxRecDepth 100000 in
set_option maxHeartbeats 1000000 in
theorem inOrderE_any {f : Nat} {lt : El → El → Bool} (hB : Before f lt) (a : Option Addr) (n c : Nat) (es : List El) (w : World) (hr : RowE w a es) (hx : es.length = n) (hnc : a = none → c = 0) (hn : n ≤ 1048576) :
    Calls Try.prog 43 #[.slice a n c, .func (.func f) #[] #[]] w (InOrdE w lt es) := by
  obtain ⟨i0, hi, hz0, hz1, hz2⟩ := info_parts infoE
  have HC := hide (cloneE_any a n c es w hr hx hnc hn)
  have HBf := hide hB
  have HX := hide hx
  generalize hP : InOrdE w lt es = Post
  have HP := hide hP
  clear hr hx hnc hP hB
  go_enter Try.func43, Try.ntmps43
  go_wp2_with fail
  refine HC.out.mono ?_
  rintro e w1 ⟨v, rfl, hown, hb1⟩
  have hsz1 := hb1.size
  rw [HX.out] at hown
  obtain ⟨a1, c1, rfl, -, -, -, hc1, hcm1, -⟩ := rowE_of_own hown
  obtain ⟨g, hg1, hg2, hpile⟩ := pileE_new (f := f) hown hn hsz1
  have HI := hide (init_any (pileE_heaps HBf.out w1.heap.size g) HBf.out.weak _ es hpile)
  clear hown hpile HC
  have HB1 := hide hb1
  clear hb1
  go_wp2_with fail
  refine HI.out.mono ?_
  rintro e w2 ⟨rfl, ys, hp2, ht2, hperm, hheap⟩
  have hs2 : w1.heap.size + 1 ≤ w2.heap.size := by have := ht2.size; simpa using this
  have hb2 : Below w.heap.size w w2 := ht2.below (HB1.out.grown (World.grownBy_alloc w1 _ none) (by omega) (fun k hk => by cases hk)) (Nat.le_refl _) (by omega) hg2
  have H2 := hide (And.intro hp2 (And.intro hb2 (And.intro hperm hheap)))
  clear hp2 ht2 hb2 hperm hheap HI
  go_wp2_with (at_make; refine wpList_make_size _ rfl (.const (.int .i64 0)) (.tmp 16) 47 rfl 53 i0 (.agg #[.int .i64 0, .slice none 0 0]) 2 Try.underlying47 hi hz0 hz1 .i64 .i64 _ _ 0 n rfl rfl rfl (by omega) (by omega) (by rw [hz2]; omega) (by unfold maxLen; omega) rfl ?_; intro w3 cur hgc hcs hgr)
  have hM : MidE w f lt w1.heap.size g w2.heap.size es (.slice (some ⟨w2.heap.size, 0, none⟩) 0 n) 0 [] ys w3 := by
    obtain ⟨k1, k2, k3, k4⟩ := H2.out
    exact ⟨⟨by simp [cellsE], .inr ⟨w2.heap.size, n, cur, rfl, Nat.le_refl _, hgc, Nat.zero_le _, by unfold maxLen; omega, hcs, by simp [cellsE]⟩⟩, k1.kept (hgr.block _ (by omega) (by simp)) (fun _ => hgr.block _ (by omega) (by simp)), k2.grown hgr (by have := k2.size; omega) (fun k hk => by cases hk), k4, List.Pairwise.nil, (fun a ha => by cases ha), by simpa using k3, rfl, hgr.size⟩
  have HM := hide hM
  clear hM hgc hcs hgr H2
  go_simp
  go_loopg [6] ys.length (fun kx v wr => ∃ (k : Nat) (acc rest : List El), kx = rest.length ∧ k + rest.length ≤ n ∧ Hid (MidE w f lt w1.heap.size g w2.heap.size es v k acc rest wr))
  case atStart =>
    have e := HM.out.perm.length_eq
    rw [List.nil_append, HX.out] at e
    exact ⟨0, [], ys, rfl, by omega, HM.out⟩
  case round =>
    clear HM
    obtain ⟨k, acc, rest, hgk, hkr, HM⟩ := hrel
    have hlen := (pileE_heaps HBf.out w1.heap.size g).len wr rest HM.out.pile
    have HO := hide (fun m (hm : rest.length = m + 1) => hpop_any (pileE_heaps HBf.out w1.heap.size g) HBf.out.weak wr rest HM.out.pile m hm HM.out.heap)
    obtain ⟨L, hL⟩ : ∃ L, L = rest.length := ⟨_, rfl⟩
    rw [← hL] at hlen hkr hgk
    subst hgk
    have HL := hide hL
    clear hL
    cases gk with
    | zero =>
      have hfin : Post (.returned u6) wr := by
        rw [← HP.out]
        have e : rest = [] := List.eq_nil_of_length_eq_zero HL.out.symm
        have hm := HM.out
        rw [e] at hm
        refine ⟨u6, acc, rfl, ⟨?_, hm.below⟩, by simpa using hm.perm, hm.rise⟩
        rw [hm.len]
        exact own_le hm.own (by omega)
      go_wp2_with (go_at_call 55; refine hlen.mono ?_; rintro e w4 ⟨rfl, hw4⟩; obtain rfl := hw4.symm)
      exact hfin
    | succ m =>
      have hpop := HO.out m HL.out.symm
      obtain ⟨x, HXX⟩ : ∃ x, Hid (x = atP rest 0) := ⟨_, rfl⟩
      rw [← HXX.out] at hpop
      obtain ⟨pl, xa, xc, xs⟩ := x
      have HPop : Hid (Calls Try.prog 51 #[.iface 69 (.pointer (some ⟨w1.heap.size, 0, none⟩))] wr fun e w' => e = .returned (.iface 53 (.agg #[.int .i64 pl, .slice xa xs.length xc])) ∧ ∃ ys, PileE f w1.heap.size g w' ys ∧ Two w1.heap.size g wr w' ∧ HeapP lt ys ∧ (⟨pl, xa, xc, xs⟩ :: ys).Perm rest ∧ ∀ y ∈ ys, lt y ⟨pl, xa, xc, xs⟩ = false) := hpop
      clear hpop HO
      have hty := fun W => isE W pl xa xs.length xc
      have HSZ := hide HM.out.big
      go_wp2_with (first | (go_at_call 55; refine hlen.mono ?_; rintro e w4 ⟨rfl, hw4⟩; obtain rfl := hw4.symm) | (go_at_call 51; refine HPop.out.mono ?_; rintro e w5 ⟨rfl, zs, hz⟩; have hown5 : w5.ownsRow w2.heap.size 53 2 u6 k (cellsE acc) := own_two HM.out.own hz.2.1 (by omega) (by omega)) | (at_builtin; refine wpList_append_own _ rfl (.tmp 21) (.tmp 26) 47 rfl w2.heap.size 53 i0 (.agg #[.int .i64 0, .slice none 0 0]) 2 32 Try.underlying47 hi hz0 hz1 hz2 rfl (by decide) _ _ _ rfl (hown5.alloc _) ⟨w5.heap.size, 0, none⟩ 1 1 [.int .i64 pl, .slice xa xs.length xc] rfl rfl (cell_two_new _ _ _ _) (by intro u hu; simp at hu; rcases hu with rfl | rfl <;> rfl) (by unfold maxLen; omega) (by omega) (by simp; have := hz.2.1.size; have := HSZ.out; omega) ?_; intro v6 w6 hown6 hg6 _))
      go_roundg m
      case measure => omega
      case rel =>
        obtain ⟨q1, q2, q3, q4, q5⟩ := hz
        have hm := HM.out
        have hst := rise_step hm.rise hm.ge hm.perm q4 q5
        have hzl : zs.length = m := by have := q4.length_eq; rw [← HL.out] at this; simpa using this
        have hsz5 := q2.size
        have hsz := HSZ.out
        have hal : w5.grownBy (w5.alloc (.cells #[.int .i64 pl, .slice xa xs.length xc] 53)) none := World.grownBy_alloc _ _ _
        have hlt := (hown5.alloc (.cells #[.int .i64 pl, .slice xa xs.length xc] 53)).lt
        have hks : ∀ j, j < w2.heap.size → w6.heap[j]? = w5.heap[j]? := fun j hj =>
          (hg6.block j (by simp; omega) (fun e => by have := hlt j e.symm; omega)).trans (hal.block j (by omega) (by simp))
        have hbl := q2.below hm.below (Nat.le_refl _) (by omega) hg2
        refine ⟨k + 1, acc ++ [⟨pl, xa, xc, xs⟩], zs, hzl.symm, by omega, ?_, q1.kept (hks _ (by omega)) (fun _ => hks _ (by omega)), ?_, q3, hst.1, hst.2.1, hst.2.2, by simp [hm.len], by have := hg6.size; simp at this; omega⟩
        · rw [cellsE_append]; exact hown6
        · exact ⟨hg6.os.trans (hal.os.trans hbl.os), hg6.tape.trans (hal.tape.trans hbl.tape), hg6.output.trans (hal.output.trans hbl.output), by have := hg6.size; simp at this; have := hm.below.size; omega, fun j hj => (hks j (by omega)).trans (hbl.block j hj)⟩
end Go.Proofs.Ytcbgnmkipbhncaa
