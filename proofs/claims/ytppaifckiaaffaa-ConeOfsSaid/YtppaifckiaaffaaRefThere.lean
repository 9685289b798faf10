/-
  THE WALKS of the reference's has, there and Of (layer 10).
-/
import Derived.Test.YtppaifckiaaffaaConeOf
namespace Go.Proofs.Ytppaifckiaaffaa
open Go.RowKit

set_option maxRecDepth 100000 in
set_option maxHeartbeats 400000 in
theorem has8_any (a : Option Addr) (n c : Nat) (xs : List Int) (x : Int) (w : World) (hr : RowK .i64 w a xs) (hx : xs.length = n) (hn : n ≤ 9223372036854775807) :
    Calls Try.prog 71 #[.slice a n c, .int .i64 x] w fun e w' => e = .returned (.bool (decide (x ∈ xs))) ∧ w' = w := by
  have HR := hide hr
  have HX := hide hx
  generalize hP : (fun (e : Ending) (w' : World) => e = .returned (.bool (decide (x ∈ xs))) ∧ w' = w) = Post
  have HP := hide hP
  clear hr hx hP
  go_enter Try.func71, Try.ntmps71
  go_wp2
  go_loop [5] (fun i => ∃ k : Nat, i = .int .i64 k ∧ k ≤ n ∧ Hid (∀ j, j < k → atP xs j ≠ x)) (fun i => n - (intOf i).toNat)
  case atStart => exact ⟨0, rfl, Nat.zero_le _, fun j hj => absurd hj (Nat.not_lt_zero _)⟩
  case round =>
    obtain ⟨k, rfl, hk, HF⟩ := hrel
    by_cases hlt : k < n
    · obtain ⟨b, off, rfl, -, hcell⟩ := HR.out.addr (by rw [HX.out]; omega)
      have hc := hcell k (by rw [HX.out]; omega)
      rw [atP_getD] at hc
      obtain ⟨y, HY⟩ : ∃ y, Hid (y = atP xs k) := ⟨_, rfl⟩
      rw [← HY.out] at hc
      clear hcell
      by_cases he : y = x
      · subst he
        have hfin : Hid (Post (.returned (.bool true)) w) := by
          show Post (.returned (.bool true)) w
          rw [← HP.out]
          exact ⟨by rw [decide_eq_true (by rw [HY.out]; exact atP_mem xs k (by rw [HX.out]; exact hlt))], rfl⟩
        go_wp2
        exact hfin.out
      · have hb : (y == x) = false := by rw [beq_eq_false_iff_ne]; exact he
        go_wp2
        go_round
        case rel =>
          refine ⟨k + 1, by go_num, by omega, fun j hj => ?_⟩
          by_cases hjk : j < k
          · exact HF.out j hjk
          · obtain rfl : j = k := by omega
            rw [← HY.out]; exact he
        case measure => simp [intOf]; omega
    · obtain rfl : k = n := by omega
      have hfin : Hid (Post (.returned (.bool false)) w) := by
        show Post (.returned (.bool false)) w
        rw [← HP.out]
        refine ⟨?_, rfl⟩
        rw [decide_eq_false]
        intro hm
        obtain ⟨j, hj, e⟩ := List.getElem_of_mem hm
        exact HF.out j (by rw [← HX.out]; exact hj) (by rw [atP_eq xs j hj]; exact e)
      go_wp2
      exact hfin.out

theorem mem_snoc {x y : Int} {l : List Int} : decide (x ∈ l ++ [y]) = (decide (x ∈ l) || decide (y = x)) := by
  by_cases h1 : x ∈ l <;> by_cases h2 : y = x <;> simp [h1, h2, eq_comm]
  exact fun h => h2 h.symm

set_option maxRecDepth 100000 in
set_option maxHeartbeats 1000000 in
theorem there_any (c : CV) (C : Circ) (w : World) (v : Nat) (h : Holds w c C) (h1 : c.n1 ≤ 10000) (h2 : c.n2 ≤ 10000) (h6 : c.n6 ≤ 10000) (hv : v ≤ 100000) :
    Calls Try.prog 60 #[c.v, .int .i64 v] w fun e w' => e = .returned (.bool (decide (2 * (v : Int) ∈ C.made))) ∧ Below w.heap.size w w' := by
  have HH := hide h
  have HB := hide (And.intro (box_new w c) (below_alloc w (.cells #[.int .i64 c.m, .slice c.a1 c.n1 c.c1, .slice c.a2 c.n2 c.c2, .slice c.a3 c.n3 c.c3, .slice c.a4 c.n4 c.c4, .slice c.a5 c.n5 c.c5, .slice c.a6 c.n6 c.c6, .slice c.a7 c.n7 c.c7] 27)))
  have HHas := hide (has8_any c.a1 c.n1 c.c1 C.ins (2 * (v : Int)) (w.alloc (.cells #[.int .i64 c.m, .slice c.a1 c.n1 c.c1, .slice c.a2 c.n2 c.c2, .slice c.a3 c.n3 c.c3, .slice c.a4 c.n4 c.c4, .slice c.a5 c.n5 c.c5, .slice c.a6 c.n6 c.c6, .slice c.a7 c.n7 c.c7] 27)) (h.r1.below (below_alloc w _)) h.l1 (by omega))
  generalize hP : (fun (e : Ending) (w' : World) => e = .returned (.bool (decide (2 * (v : Int) ∈ C.made))) ∧ Below w.heap.size w w') = Post
  have HP := hide hP
  clear h hP
  unfold CV.v
  generalize hA2 : c.a2 = A2 at HB HHas ⊢
  generalize hA6 : c.a6 = A6 at HB HHas ⊢
  have HA2 := hide hA2
  have HA6 := hide hA6
  clear hA2 hA6
  obtain ⟨W, HW⟩ : ∃ W, Hid (W = w.alloc (.cells #[.int .i64 c.m, .slice c.a1 c.n1 c.c1, .slice A2 c.n2 c.c2, .slice c.a3 c.n3 c.c3, .slice c.a4 c.n4 c.c4, .slice c.a5 c.n5 c.c5, .slice A6 c.n6 c.c6, .slice c.a7 c.n7 c.c7] 27)) := ⟨_, rfl⟩
  go_enter Try.func60, Try.ntmps60
  have hBx : Hid (Box W w.heap.size c ∧ Below w.heap.size w W) := by
    show _ ∧ _
    rw [HW.out]
    have := HB.out
    rw [← HA2.out, ← HA6.out]
    exact ⟨box_new w c, below_alloc w _⟩
  obtain ⟨q0, q1, q2, q3, q4, q5, q6, q7⟩ := hBx.out.1.cells
  rw [HA2.out] at q2
  rw [HA6.out] at q6
  rw [← HW.out] at HHas
  go_wp2_with fail
  rw [← HW.out]
  go_wp2_with (go_at_call 71; refine HHas.out.mono ?_; rintro e w1 ⟨rfl, hw1⟩; obtain rfl := hw1.symm)
  go_loop [5, 6] (fun b i => ∃ k : Nat, i = .int .i64 k ∧ k ≤ c.n2 ∧ b = .bool (decide (2 * (v : Int) ∈ mkA C k))) (fun _ i => c.n2 - (intOf i).toNat)
  case atStart => exact ⟨0, rfl, Nat.zero_le _, by rw [mkA_zero]⟩
  case round =>
    obtain ⟨k, rfl, hk, rfl⟩ := hrel
    by_cases hlt : k < c.n2
    · obtain ⟨b, off, ha, hbw, hcell⟩ := HH.out.r2.addr (by rw [cellsT_len, HH.out.l2]; omega)
      rw [HA2.out] at ha
      subst ha
      have hat := cellsT_at C.lats k (by rw [HH.out.l2]; exact hlt)
      have hc0 := (hBx.out.2.cell (p := ⟨b, off + k * 3, none⟩) hbw).trans (hcell _ _ hat.1)
      have hst := mkA_step C k (by rw [HH.out.l2]; exact hlt)
      obtain ⟨x, HX⟩ : ∃ x, Hid (x = (atP C.lats k).1) := ⟨_, rfl⟩
      rw [← HX.out] at hc0 hst
      have HSt := hide hst
      clear hcell hat hst
      cases hb : decide (2 * (v : Int) ∈ mkA C k) with
      | true =>
        have HBb := hide hb
        clear hb
        go_wp2
        go_round
        case rel => exact ⟨k + 1, by go_num, by omega, by rw [HSt.out, mem_snoc, HBb.out]; rfl⟩
        case measure => simp [intOf]; omega
      | false =>
        have HBb := hide hb
        clear hb
        by_cases he : x = 2 * (v : Int)
        · have HE := hide he
          have heb : (x == 2 * (v : Int)) = true := by rw [he]; simp
          clear he
          go_wp2
          go_round
          case rel => exact ⟨k + 1, by go_num, by omega, by rw [HSt.out, mem_snoc, HBb.out, decide_eq_true HE.out]; rfl⟩
          case measure => simp [intOf]; omega
        · have HE := hide he
          have heb : (x == 2 * (v : Int)) = false := by rw [beq_eq_false_iff_ne]; exact he
          go_wp2
          go_round
          case rel => exact ⟨k + 1, by go_num, by omega, by rw [HSt.out, mem_snoc, HBb.out, decide_eq_false HE.out]; rfl⟩
          case measure => simp [intOf]; omega
    · obtain rfl : k = c.n2 := by omega
      have hme : Hid (mkA C c.n2 = mkB C 0) := by
        have := mkA_end C
        rw [HH.out.l2] at this
        exact this.symm
      go_wp2
      go_loop [5, 7] (fun b i => ∃ k : Nat, i = .int .i64 k ∧ k ≤ c.n6 ∧ b = .bool (decide (2 * (v : Int) ∈ mkB C k))) (fun _ i => c.n6 - (intOf i).toNat)
      case atStart => exact ⟨0, rfl, Nat.zero_le _, by rw [hme.out]⟩
      case round =>
        obtain ⟨k, rfl, hk, rfl⟩ := hrel
        by_cases hlt : k < c.n6
        · obtain ⟨b, off, ha, hbw, hcell⟩ := HH.out.r6.addr (by rw [cellsT_len, HH.out.l6]; omega)
          rw [HA6.out] at ha
          subst ha
          have hat := cellsT_at C.ands k (by rw [HH.out.l6]; exact hlt)
          have hc0 := (hBx.out.2.cell (p := ⟨b, off + k * 3, none⟩) hbw).trans (hcell _ _ hat.1)
          have hst := mkB_step C k (by rw [HH.out.l6]; exact hlt)
          obtain ⟨x, HX⟩ : ∃ x, Hid (x = (atP C.ands k).1) := ⟨_, rfl⟩
          rw [← HX.out] at hc0 hst
          have HSt := hide hst
          clear hcell hat hst
          cases hb : decide (2 * (v : Int) ∈ mkB C k) with
          | true =>
            have HBb := hide hb
            clear hb
            go_wp2
            go_round
            case rel => exact ⟨k + 1, by go_num, by omega, by rw [HSt.out, mem_snoc, HBb.out]; rfl⟩
            case measure => simp [intOf]; omega
          | false =>
            have HBb := hide hb
            clear hb
            by_cases he : x = 2 * (v : Int)
            · have HE := hide he
              have heb : (x == 2 * (v : Int)) = true := by rw [he]; simp
              clear he
              go_wp2
              go_round
              case rel => exact ⟨k + 1, by go_num, by omega, by rw [HSt.out, mem_snoc, HBb.out, decide_eq_true HE.out]; rfl⟩
              case measure => simp [intOf]; omega
            · have HE := hide he
              have heb : (x == 2 * (v : Int)) = false := by rw [beq_eq_false_iff_ne]; exact he
              go_wp2
              go_round
              case rel => exact ⟨k + 1, by go_num, by omega, by rw [HSt.out, mem_snoc, HBb.out, decide_eq_false HE.out]; rfl⟩
              case measure => simp [intOf]; omega
        · obtain rfl : k = c.n6 := by omega
          have hfin : Hid (Post (.returned (.bool (decide (2 * (v : Int) ∈ mkB C c.n6)))) W) := by
            show Post _ W
            rw [← HP.out]
            have e := mkB_end C
            rw [HH.out.l6] at e
            exact ⟨by rw [e], hBx.out.2⟩
          generalize decide (2 * (v : Int) ∈ mkB C c.n6) = bb at hfin ⊢
          go_wp2
          exact hfin.out

theorem there_vars {C : Circ} (hL : Lits C) (v : Nat) : decide (2 * (v : Int) ∈ C.made) = decide (v ∈ C.vars) := by
  have e : (2 * (v : Int) ∈ C.made) ↔ v ∈ C.vars := by
    unfold Circ.vars
    rw [List.mem_map]
    constructor
    · intro h
      exact ⟨_, h, by unfold varN; omega⟩
    · rintro ⟨l, hl, e⟩
      have := hL.own l hl
      have e2 : l = 2 * (v : Int) := by unfold varN at e; omega
      rw [← e2]; exact hl
  rw [Bool.eq_iff_iff, decide_eq_true_eq, decide_eq_true_eq]
  exact e

/-- In the midst of finding, sweep by sweep. -/
structure RIn (C : Circ) (L : List Int) (n : Nat) (bs : List Bool) : Prop where
  len : bs.length = n
  sound : ∀ v, v < n → v ≠ 0 → atP bs v = true → C.Hang L v
  lits : ∀ l ∈ L, atP bs (varN l) = true

theorem cnt_set_le : ∀ (l : List Bool) (i : Nat), (l.set i true).count false ≤ l.count false
  | [], _ => Nat.le_refl _
  | b :: l, 0 => by rw [List.set_cons_zero, List.count_cons, List.count_cons]; simp
  | b :: l, i + 1 => by
    have := cnt_set_le l i
    rw [List.set_cons_succ, List.count_cons, List.count_cons]
    omega
theorem cnt_set2 {l : List Bool} {i j : Nat} (hi : i < l.length) (hj : j < l.length) (h : atP l i = false ∨ atP l j = false) : ((l.set i true).set j true).count false < l.count false := by
  by_cases h1 : atP l i = false
  · have := count_mark l i hi h1
    have := cnt_set_le (l.set i true) j
    omega
  · have h2 : atP l j = false := by
      rcases h with h | h
      · exact absurd h h1
      · exact h
    have h3 : atP (l.set i true) j = false := by
      rw [bSet hi]
      split
      · rename_i e; subst e; exact absurd h2 h1
      · exact h2
    have := count_mark (l.set i true) j (by simpa using hj) h3
    have := cnt_set_le l i
    omega
theorem rin_set {C : Circ} {L : List Int} {n : Nat} {bs : List Bool} (h : RIn C L n bs) {i : Nat} (hi : i < n) (hs : i ≠ 0 → C.Hang L i) : RIn C L n (bs.set i true) := by
  have hb := fun v => bSet (j := v) (x := true) (show i < bs.length by rw [h.len]; exact hi)
  refine ⟨by simpa using h.len, fun v hv h0 hf => ?_, fun l hl => ?_⟩
  · rw [hb v] at hf
    split at hf
    · rename_i e; subst e; exact hs h0
    · exact h.sound v hv h0 hf
  · rw [hb]
    split
    · rfl
    · exact h.lits l hl

/-- A sweep: nothing was new so far, and the Ands and Latches that were looked at are closed; or something was. -/
def Swept (C : Circ) (M : Nat) (bs : List Bool) (more : Bool) (ka kl : Nat) : Prop :=
  bs.count false ≤ M ∧ (more = true → bs.count false < M) ∧ (more = false → (∀ k, k < ka → atP bs (varN (atP C.ands k).1) = true → atP bs (varN (atP C.ands k).2.1) = true ∧ atP bs (varN (atP C.ands k).2.2) = true) ∧ ∀ k, k < kl → atP bs (varN (atP C.lats k).1) = true → atP bs (varN (atP C.lats k).2.1) = true)
theorem swept_and {C : Circ} {M ka kl : Nat} {bs : List Bool} {more : Bool} (h : Swept C M bs more ka kl) (hk : atP bs (varN (atP C.ands ka).1) = true → atP bs (varN (atP C.ands ka).2.1) = true ∧ atP bs (varN (atP C.ands ka).2.2) = true) : Swept C M bs more (ka + 1) kl :=
  ⟨h.1, h.2.1, fun hm => ⟨fun k hk2 => by
    by_cases e : k = ka
    · subst e; exact hk
    · exact (h.2.2 hm).1 k (by omega), (h.2.2 hm).2⟩⟩
theorem swept_lat {C : Circ} {M ka kl : Nat} {bs : List Bool} {more : Bool} (h : Swept C M bs more ka kl) (hk : atP bs (varN (atP C.lats kl).1) = true → atP bs (varN (atP C.lats kl).2.1) = true) : Swept C M bs more ka (kl + 1) :=
  ⟨h.1, h.2.1, fun hm => ⟨(h.2.2 hm).1, fun k hk2 => by
    by_cases e : k = kl
    · subst e; exact hk
    · exact (h.2.2 hm).2 k (by omega)⟩⟩
theorem swept_new {C : Circ} {M ka kl ka' kl' : Nat} {bs bs' : List Bool} {more : Bool} (h : Swept C M bs more ka kl) (hc : bs'.count false < bs.count false) : Swept C M bs' true ka' kl' :=
  ⟨by have := h.1; omega, fun _ => by have := h.1; omega, fun hm => by cases hm⟩

theorem rin_full {C : Circ} {L : List Int} {n M : Nat} {bs : List Bool} (hn : 0 < n) (h : RIn C L n bs) (hs : Swept C M bs false C.ands.length C.lats.length) (hL : ∀ l ∈ L, varN l < n) (hO : ∀ v l, C.On v l → varN l < n) : Full C L n (bs.set 0 false) := by
  have hb := fun v => bSet (j := v) (x := false) (show 0 < bs.length by rw [h.len]; exact hn)
  refine ⟨by simpa using h.len, fun v hv => ?_⟩
  rw [hb v]
  split
  · rename_i e
    subst e
    exact ⟨fun h => (by cases h), fun h => absurd rfl (hang_ne h)⟩
  · rename_i e
    refine ⟨h.sound v hv e, fun hh => ?_⟩
    refine (hh (fun u => u < n ∧ atP bs u = true) (fun l hl _ => ⟨hL l hl, h.lits l hl⟩) (fun u l hu ho _ => ⟨hO u l ho, ?_⟩)).2
    obtain ⟨s1, s2⟩ := hs.2.2 rfl
    rcases ho with ⟨k, hk, rfl, rfl⟩ | ⟨k, hk, rfl, h2⟩
    · exact s2 k hk hu.2
    · rcases h2 with rfl | rfl
      · exact (s1 k hk hu.2).1
      · exact (s1 k hk hu.2).2

/-- The bools while they are turned. -/
structure BMid (w0 : World) (c : CV) (g n : Nat) (bs : List Bool) (wr : World) : Prop where
  own : wr.ownsRow (w0.heap.size + 1) 4 1 (.slice (some ⟨g, 0, none⟩) n n) n (bs.map Value.bool)
  below : Below w0.heap.size w0 wr
  box : Box wr w0.heap.size c
theorem BMid.set {w0 wr : World} {c : CV} {g n : Nat} {bs : List Bool} (h : BMid w0 c g n bs wr) (i : Nat) : BMid w0 c g n (bs.set i true) (wr.setCell ⟨g, i, none⟩ (.bool true)) := by
  obtain ⟨h1, h2⟩ := h.own.stored i (.bool true)
  have hgb := (h.own.lt g rfl).1
  exact ⟨by rw [List.map_set]; exact h1, h.below.grown h2 h.below.size (fun k hk => by cases hk; omega), h.box.grown h2 (by simp; omega)⟩
theorem BMid.then {w0 wr w' : World} {c : CV} {g n : Nat} {bs : List Bool} (h : BMid w0 c g n bs wr) (hb : Below wr.heap.size wr w') : BMid w0 c g n bs w' := ⟨own_below h.own hb, belowThen h.below hb, h.box.below hb⟩
end Go.Proofs.Ytppaifckiaaffaa
