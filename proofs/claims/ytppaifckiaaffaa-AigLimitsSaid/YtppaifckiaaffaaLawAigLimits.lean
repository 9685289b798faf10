/-
  THE WALK of the law AigLimits.
-/
import Derived.Test.YtppaifckiaaffaaAigAlive
import Derived.Test.YtppaifckiaaffaaAigBox
namespace Go.Proofs.Ytppaifckiaaffaa
open Go.RowKit

def limIns (N : Nat) : List Int := (List.range N).map (fun i : Nat => 2 * ((i : Int) + 1))
def limLats (N : Nat) : List Tri := (List.range N).map (fun i : Nat => (2 * ((i : Int) + 1), 2 * ((i : Int) + 1), ((i : Int) + 1) % 2))
theorem limIns_succ (N : Nat) : limIns (N + 1) = limIns N ++ [2 * ((N : Int) + 1)] := by unfold limIns; rw [List.range_succ, List.map_append]; rfl
theorem limLats_succ (N : Nat) : limLats (N + 1) = limLats N ++ [(2 * ((N : Int) + 1), 2 * ((N : Int) + 1), ((N : Int) + 1) % 2)] := by unfold limLats; rw [List.range_succ, List.map_append]; rfl
theorem limIns_len (N : Nat) : (limIns N).length = N := by simp [limIns]
theorem limLats_len (N : Nat) : (limLats N).length = N := by simp [limLats]

def limC (which N : Nat) : Circ := ⟨2500, if which = 0 then limIns N else [], if which = 1 then limLats N else [], if which = 2 then List.replicate N 0 else [], if which = 3 then List.replicate N 0 else [], if which = 4 then List.replicate N 0 else [], [], []⟩
theorem lim_all : ∀ which, which < 5 → (limC which 63).checkI = 0 ∧ (limC which 64).checkI = 0 ∧ (limC which 65).checkI = 3 := by decide +kernel
theorem lim_max : (⟨4999, [], [], [], [], [], [], []⟩ : Circ).checkI = 0 ∧ (⟨5000, [], [], [], [], [], [], []⟩ : Circ).checkI = 0 ∧ (⟨5001, [], [], [], [], [], [], []⟩ : Circ).checkI = 3 := by decide +kernel

theorem lim_check {which N : Nat} {more : Int} (hw : which < 5) (hN : (N : Int) = 64 + more) (h1 : -1 ≤ more) (h2 : more ≤ 1) : (limC which N).checkI = if 0 < more then 3 else 0 := by
  obtain ⟨a, b, c⟩ := lim_all which hw
  rcases (by omega : more = -1 ∨ more = 0 ∨ more = 1) with rfl | rfl | rfl
  · obtain rfl : N = 63 := by omega
    exact a
  · obtain rfl : N = 64 := by omega
    exact b
  · obtain rfl : N = 65 := by omega
    exact c

/-- The variable in which a circuit is made: one of its slices is the call's own. -/
structure LMid (w0 : World) (b : Nat) (c : CV) (v : Value) (e : TypeId) (size k : Nat) (xs : List Value) (wr : World) : Prop where
  box : Box wr b c
  own : wr.ownsRow (b + 1) e size v k xs
  below : Below w0.heap.size w0 wr
  le : w0.heap.size ≤ b


theorem LMid.step {w0 wr w4 : World} {b : Nat} {c c' : CV} {v v4 : Value} {e : TypeId} {size k k4 j : Nat} {xs ys : List Value} {o : Obj} (h : LMid w0 b c v e size k xs wr) (hg : (wr.alloc o).grownBy w4 v.ownBlock) (hown : w4.ownsRow (b + 1) e size v4 k4 ys)
    (hc : ((#[.int .i64 c.m, .slice c.a1 c.n1 c.c1, .slice c.a2 c.n2 c.c2, .slice c.a3 c.n3 c.c3, .slice c.a4 c.n4 c.c4, .slice c.a5 c.n5 c.c5, .slice c.a6 c.n6 c.c6, .slice c.a7 c.n7 c.c7] : Array Value).setIfInBounds j v4) = #[.int .i64 c'.m, .slice c'.a1 c'.n1 c'.c1, .slice c'.a2 c'.n2 c'.c2, .slice c'.a3 c'.n3 c'.c3, .slice c'.a4 c'.n4 c'.c4, .slice c'.a5 c'.n5 c'.c5, .slice c'.a6 c'.n6 c'.c6, .slice c'.a7 c'.n7 c'.c7]) :
    LMid w0 b c' v4 e size k4 ys (w4.setCell ⟨b, j, none⟩ v4) := by
  have hb4 : Box w4 b c := (h.box.alloc o).grown hg (fun e => by have := (h.own.lt _ e).1; omega)
  have hbl := h.box.lt
  have hle := h.le
  refine ⟨?_, ?_, ?_, h.le⟩
  · have := box_set hb4 j v4
    rw [hc] at this
    exact this
  · exact ownsRow_setCell_below hown (a := ⟨b, j, none⟩) (Nat.lt_succ_self b) v4
  · have h1 : Below w0.heap.size w0 w4 := (belowThen h.below (below_alloc wr o)).grown hg (by simp; omega) (fun k hk => by have := (h.own.lt k hk).1; have := h.le; omega)
    exact h1.setCell (p := ⟨b, j, none⟩) h.le v4

theorem holds_in {w : World} {a : Option Addr} {k cap : Nat} (h : RowK .i64 w a (limIns k)) (hz : a = none → cap = 0) : Holds w ⟨2500, a, k, cap, none, 0, 0, none, 0, 0, none, 0, 0, none, 0, 0, none, 0, 0, none, 0, 0⟩ (limC 0 k) :=
  ⟨rfl, h, limIns_len k, hz, .inl ⟨rfl, rfl⟩, rfl, fun _ => rfl, .inl ⟨rfl, rfl⟩, rfl, fun _ => rfl, .inl ⟨rfl, rfl⟩, rfl, fun _ => rfl, .inl ⟨rfl, rfl⟩, rfl, fun _ => rfl, .inl ⟨rfl, rfl⟩, rfl, fun _ => rfl, .inl ⟨rfl, rfl⟩, rfl, fun _ => rfl⟩
theorem holds_lat {w : World} {a : Option Addr} {k cap : Nat} (h : RowC w a (cellsT (limLats k))) (hz : a = none → cap = 0) : Holds w ⟨2500, none, 0, 0, a, k, cap, none, 0, 0, none, 0, 0, none, 0, 0, none, 0, 0, none, 0, 0⟩ (limC 1 k) :=
  ⟨rfl, .inl ⟨rfl, rfl⟩, rfl, fun _ => rfl, h, limLats_len k, hz, .inl ⟨rfl, rfl⟩, rfl, fun _ => rfl, .inl ⟨rfl, rfl⟩, rfl, fun _ => rfl, .inl ⟨rfl, rfl⟩, rfl, fun _ => rfl, .inl ⟨rfl, rfl⟩, rfl, fun _ => rfl, .inl ⟨rfl, rfl⟩, rfl, fun _ => rfl⟩

theorem holds_zero2 {w : World} {g N : Nat} (h : RowK .i64 w (some ⟨g, 0, none⟩) (List.replicate N 0)) : Holds w ⟨2500, none, 0, 0, none, 0, 0, some ⟨g, 0, none⟩, N, N, none, 0, 0, none, 0, 0, none, 0, 0, none, 0, 0⟩ (limC 2 N) :=
  ⟨rfl, .inl ⟨rfl, rfl⟩, rfl, fun _ => rfl, .inl ⟨rfl, rfl⟩, rfl, fun _ => rfl, h, List.length_replicate, (fun e => by cases e), .inl ⟨rfl, rfl⟩, rfl, fun _ => rfl, .inl ⟨rfl, rfl⟩, rfl, fun _ => rfl, .inl ⟨rfl, rfl⟩, rfl, fun _ => rfl, .inl ⟨rfl, rfl⟩, rfl, fun _ => rfl⟩
theorem holds_zero3 {w : World} {g N : Nat} (h : RowK .i64 w (some ⟨g, 0, none⟩) (List.replicate N 0)) : Holds w ⟨2500, none, 0, 0, none, 0, 0, none, 0, 0, some ⟨g, 0, none⟩, N, N, none, 0, 0, none, 0, 0, none, 0, 0⟩ (limC 3 N) :=
  ⟨rfl, .inl ⟨rfl, rfl⟩, rfl, fun _ => rfl, .inl ⟨rfl, rfl⟩, rfl, fun _ => rfl, .inl ⟨rfl, rfl⟩, rfl, fun _ => rfl, h, List.length_replicate, (fun e => by cases e), .inl ⟨rfl, rfl⟩, rfl, fun _ => rfl, .inl ⟨rfl, rfl⟩, rfl, fun _ => rfl, .inl ⟨rfl, rfl⟩, rfl, fun _ => rfl⟩
theorem holds_zero4 {w : World} {g N : Nat} (h : RowK .i64 w (some ⟨g, 0, none⟩) (List.replicate N 0)) : Holds w ⟨2500, none, 0, 0, none, 0, 0, none, 0, 0, none, 0, 0, some ⟨g, 0, none⟩, N, N, none, 0, 0, none, 0, 0⟩ (limC 4 N) :=
  ⟨rfl, .inl ⟨rfl, rfl⟩, rfl, fun _ => rfl, .inl ⟨rfl, rfl⟩, rfl, fun _ => rfl, .inl ⟨rfl, rfl⟩, rfl, fun _ => rfl, .inl ⟨rfl, rfl⟩, rfl, fun _ => rfl, h, List.length_replicate, (fun e => by cases e), .inl ⟨rfl, rfl⟩, rfl, fun _ => rfl, .inl ⟨rfl, rfl⟩, rfl, fun _ => rfl⟩
theorem zero_row {w : World} {g N b j : Nat} {v : Value} (h : w.ownsRow (b + 1) 3 1 (.slice (some ⟨g, 0, none⟩) N N) N ((List.replicate N (0 : Int)).map (Value.int .i64))) : RowK .i64 (w.setCell ⟨b, j, none⟩ v) (some ⟨g, 0, none⟩) (List.replicate N 0) := by
  have h2 := ownsRow_setCell_below h (a := ⟨b, j, none⟩) (Nat.lt_succ_self b) v
  obtain ⟨a, c, e, hr, -⟩ := row_of_own h2
  cases e
  exact hr

theorem ret_eq {_w : World} {a b : Int} (h : a = b) : Ending.returned (.bool (a == b)) = .returned (.bool true) := by rw [h]; simp

set_option maxRecDepth 100000 in
set_option maxHeartbeats 4000000 in
theorem aigLimits_any (which more : Int) (w : World) (_b1 : -9223372036854775808 ≤ which) (_b2 : which ≤ 9223372036854775807) (_b3 : -9223372036854775808 ≤ more) (_b4 : more ≤ 9223372036854775807) :
    Calls Try.prog 7 #[.int .i64 which, .int .i64 more] w fun e w' => e = .returned (.bool true) ∧ Below w.heap.size w w' := by
  obtain ⟨i0, hi, hz0, hz1, hz2⟩ := info_parts infoInt
  obtain ⟨i2, hi2, hy0, hy1, hy2⟩ := info_parts infoT2
  have HAl := hide (alive_any w)
  by_cases g1 : which < 0
  · go_enter Try.func7, Try.ntmps7
    go_wp2_with (go_at_call 14; refine HAl.out.mono ?_; rintro e w1 ⟨rfl, hb1⟩)
    go_ret
    exact ⟨rfl, hb1⟩
  · by_cases g2 : 5 < which
    · go_enter Try.func7, Try.ntmps7
      go_wp2_with (go_at_call 14; refine HAl.out.mono ?_; rintro e w1 ⟨rfl, hb1⟩)
      go_ret
      exact ⟨rfl, hb1⟩
    · by_cases g3 : more < -1
      · go_enter Try.func7, Try.ntmps7
        go_wp2_with (go_at_call 14; refine HAl.out.mono ?_; rintro e w1 ⟨rfl, hb1⟩)
        go_ret
        exact ⟨rfl, hb1⟩
      · by_cases g4 : 1 < more
        · go_enter Try.func7, Try.ntmps7
          go_wp2_with (go_at_call 14; refine HAl.out.mono ?_; rintro e w1 ⟨rfl, hb1⟩)
          go_ret
          exact ⟨rfl, hb1⟩
        · obtain ⟨N, hN⟩ : ∃ N : Nat, (N : Int) = 64 + more := ⟨(64 + more).toNat, by omega⟩
          have HN := hide hN
          have hN65 : N ≤ 65 := by omega
          rcases (by omega : which = 0 ∨ which = 1 ∨ which = 2 ∨ which = 3 ∨ which = 4 ∨ which = 5) with rfl | rfl | rfl | rfl | rfl | rfl
          · have HChk := hide (lim_check (which := 0) (by decide) HN.out (by omega) (by omega))
            clear hN g1 g2
            go_enter Try.func7, Try.ntmps7
            go_wp2_with (go_at_call 14; refine HAl.out.mono ?_; rintro e w1 ⟨rfl, hb1⟩)
            have HL0 : Hid (LMid w w1.heap.size ⟨2500, none, 0, 0, none, 0, 0, none, 0, 0, none, 0, 0, none, 0, 0, none, 0, 0, none, 0, 0⟩ (.slice none 0 0) 3 1 0 ((limIns 0).map (Value.int .i64)) (w1.alloc (.cells #[.int .i64 2500, .slice none 0 0, .slice none 0 0, .slice none 0 0, .slice none 0 0, .slice none 0 0, .slice none 0 0, .slice none 0 0] 27))) := ⟨heap_alloc_new w1 _, World.ownsRow_nil _ _ _ _, belowThen hb1 (below_alloc w1 _), hb1.size⟩
            clear hb1 HAl
            go_loopw [8] (fun i wr => ∃ (k : Nat) (a : Option Addr) (cap : Nat), i = .int .i64 ((k : Int) + 1) ∧ k ≤ N ∧ Hid (LMid w w1.heap.size ⟨2500, a, k, cap, none, 0, 0, none, 0, 0, none, 0, 0, none, 0, 0, none, 0, 0, none, 0, 0⟩ (.slice a k cap) 3 1 k ((limIns k).map (Value.int .i64)) wr)) (fun i _ => N + 1 - (intOf i).toNat)
            case atStart => exact ⟨0, none, 0, rfl, Nat.zero_le _, HL0.out⟩
            case round =>
              clear HL0
              obtain ⟨k, a, cap, rfl, hk, HF⟩ := hrel
              obtain ⟨q0, q1, q2, q3, q4, q5, q6, q7⟩ := HF.out.box.cells
              dsimp only at q0 q1 q2 q3 q4 q5 q6 q7
              have hfz := box_frozen HF.out.box 1
              by_cases hlt : k < N
              · have hle : (k : Int) + 1 ≤ 64 + more := by have := HN.out; omega
                have hbl := HF.out.box.lt
                have HST := hide (limIns_succ k)
                go_wp2_with (at_builtin; refine wpList_append_own_at _ rfl (.tmp 46) (.tmp 49) 22 rfl (w1.heap.size + 1) 3 i0 (.int .i64 0) 1 8 Try.underlying22 hi hz0 hz1 hz2 rfl (by decide) _ _ _ rfl (HF.out.own.alloc _) ⟨wr.heap.size, 0, none⟩ 1 1 [.int .i64 (2 * ((k : Int) + 1))] rfl rfl (cell_one_new _ _ _) (by intro u hu; simp at hu; subst hu; rfl) (by unfold maxLen; omega) (by omega) (by simp; omega) ?_; intro v4 w4 hown4 hg4 _ _; obtain ⟨a4, c4, rfl⟩ := own_form hown4; have hB4 := (HF.out.box.alloc (.cells #[.int .i64 (2 * ((k : Int) + 1))] 3)).grown hg4 (fun e => by have := (HF.out.own.lt _ e).1; omega); obtain ⟨-, p1, -⟩ := hB4.cells; have hf4 := box_frozen hB4 1)
                go_roundw
                case rel => exact ⟨k + 1, a4, c4, by go_num, by omega, HF.out.step hg4 (by rw [HST.out, List.map_append]; exact hown4) rfl⟩
                case measure => simp [intOf]; omega
              · obtain rfl : k = N := by omega
                have hle : ¬ (k : Int) + 1 ≤ 64 + more := by have := HN.out; omega
                have HBel := hide HF.out.below
                have HCk : Hid (Calls Try.prog 18 #[.agg #[.int .i64 2500, .slice a k cap, .slice none 0 0, .slice none 0 0, .slice none 0 0, .slice none 0 0, .slice none 0 0, .slice none 0 0]] wr fun e w' => e = .returned (.int .i64 (if 0 < more then 3 else 0)) ∧ Below wr.heap.size wr w') := by
                  obtain ⟨a', c', e1, hr, hz, -⟩ := row_of_own HF.out.own
                  cases e1
                  have := check_any _ _ wr (holds_in hr hz) ⟨(by show k ≤ 281474976710656; omega), Nat.zero_le _, Nat.zero_le _, Nat.zero_le _, Nat.zero_le _, (by show (-9223372036854775808 : Int) ≤ 2500; decide), fun s hs => by cases hs⟩
                  rw [HChk.out] at this
                  exact this
                clear HChk
                by_cases hpos : 0 < more
                · rw [if_pos hpos] at HCk
                  go_wp2_with (first | (go_at_call 18; refine HCk.out.mono ?_; rintro e w5 ⟨rfl, hb5⟩) | (go_at_call 17; refine (num_any _ _).mono ?_; rintro e w' ⟨rfl, hw'⟩; obtain rfl := hw'.symm))
                  go_ret
                  exact ⟨rfl, belowThen HBel.out hb5⟩
                · rw [if_neg hpos] at HCk
                  go_wp2_with (first | (go_at_call 18; refine HCk.out.mono ?_; rintro e w5 ⟨rfl, hb5⟩) | (go_at_call 17; refine (num_any _ _).mono ?_; rintro e w' ⟨rfl, hw'⟩; obtain rfl := hw'.symm))
                  go_ret
                  exact ⟨rfl, belowThen HBel.out hb5⟩
          · have HChk := hide (lim_check (which := 1) (by decide) HN.out (by omega) (by omega))
            clear hN g1 g2
            go_enter Try.func7, Try.ntmps7
            go_wp2_with (go_at_call 14; refine HAl.out.mono ?_; rintro e w1 ⟨rfl, hb1⟩)
            have HL0 : Hid (LMid w w1.heap.size ⟨2500, none, 0, 0, none, 0, 0, none, 0, 0, none, 0, 0, none, 0, 0, none, 0, 0, none, 0, 0⟩ (.slice none 0 0) 43 3 0 (cellsT (limLats 0)) (w1.alloc (.cells #[.int .i64 2500, .slice none 0 0, .slice none 0 0, .slice none 0 0, .slice none 0 0, .slice none 0 0, .slice none 0 0, .slice none 0 0] 27))) := ⟨heap_alloc_new w1 _, World.ownsRow_nil _ _ _ _, belowThen hb1 (below_alloc w1 _), hb1.size⟩
            clear hb1 HAl
            go_loopw [9] (fun i wr => ∃ (k : Nat) (a : Option Addr) (cap : Nat), i = .int .i64 ((k : Int) + 1) ∧ k ≤ N ∧ Hid (LMid w w1.heap.size ⟨2500, none, 0, 0, a, k, cap, none, 0, 0, none, 0, 0, none, 0, 0, none, 0, 0, none, 0, 0⟩ (.slice a k cap) 43 3 k (cellsT (limLats k)) wr)) (fun i _ => N + 1 - (intOf i).toNat)
            case atStart => exact ⟨0, none, 0, rfl, Nat.zero_le _, HL0.out⟩
            case round =>
              clear HL0
              obtain ⟨k, a, cap, rfl, hk, HF⟩ := hrel
              obtain ⟨q0, q1, q2, q3, q4, q5, q6, q7⟩ := HF.out.box.cells
              dsimp only at q0 q1 q2 q3 q4 q5 q6 q7
              have hfz := box_frozen HF.out.box 2
              by_cases hlt : k < N
              · have hle : (k : Int) + 1 ≤ 64 + more := by have := HN.out; omega
                have hbl := HF.out.box.lt
                have HST := hide (limLats_succ k)
                have htm : ((k : Int) + 1).tmod 2 = ((k : Int) + 1) % 2 := Int.tmod_eq_emod_of_nonneg (by omega)
                go_wp2_with (at_builtin; refine wpList_append_own_at _ rfl (.tmp 60) (.tmp 68) 23 rfl (w1.heap.size + 1) 43 i2 (.agg #[.int .i64 0, .int .i64 0, .int .i64 0]) 3 24 Try.underlying23 hi2 hy0 hy1 hy2 rfl (by decide) _ _ _ rfl (HF.out.own.alloc _) ⟨wr.heap.size, 0, none⟩ 1 1 [.int .i64 (2 * ((k : Int) + 1)), .int .i64 (2 * ((k : Int) + 1)), .int .i64 (((k : Int) + 1) % 2)] rfl rfl (cell_three_at rfl _ _ _ _) (by intro u hu; simp at hu; rcases hu with rfl | rfl | rfl <;> rfl) (by unfold maxLen; omega) (by omega) (by simp; omega) ?_; intro v4 w4 hown4 hg4 _ _; obtain ⟨a4, c4, rfl⟩ := own_form hown4; have hB4 := (HF.out.box.alloc (.cells #[.int .i64 (2 * ((k : Int) + 1)), .int .i64 (2 * ((k : Int) + 1)), .int .i64 (((k : Int) + 1) % 2)] 43)).grown hg4 (fun e => by have := (HF.out.own.lt _ e).1; omega); obtain ⟨-, -, p1, -⟩ := hB4.cells; have hf4 := box_frozen hB4 2)
                go_roundw
                case rel => exact ⟨k + 1, a4, c4, by go_num, by omega, HF.out.step hg4 (by rw [HST.out, cellsT_append]; exact hown4) rfl⟩
                case measure => simp [intOf]; omega
              · obtain rfl : k = N := by omega
                have hle : ¬ (k : Int) + 1 ≤ 64 + more := by have := HN.out; omega
                have HBel := hide HF.out.below
                have HCk : Hid (Calls Try.prog 18 #[.agg #[.int .i64 2500, .slice none 0 0, .slice a k cap, .slice none 0 0, .slice none 0 0, .slice none 0 0, .slice none 0 0, .slice none 0 0]] wr fun e w' => e = .returned (.int .i64 (if 0 < more then 3 else 0)) ∧ Below wr.heap.size wr w') := by
                  obtain ⟨a', c', e1, hr, hz⟩ := rowC_own HF.out.own
                  cases e1
                  have := check_any _ _ wr (holds_lat hr hz) ⟨Nat.zero_le _, (by show k ≤ 281474976710656; omega), Nat.zero_le _, Nat.zero_le _, Nat.zero_le _, (by show (-9223372036854775808 : Int) ≤ 2500; decide), fun s hs => by cases hs⟩
                  rw [HChk.out] at this
                  exact this
                clear HChk
                by_cases hpos : 0 < more
                · rw [if_pos hpos] at HCk
                  go_wp2_with (first | (go_at_call 18; refine HCk.out.mono ?_; rintro e w5 ⟨rfl, hb5⟩) | (go_at_call 17; refine (num_any _ _).mono ?_; rintro e w' ⟨rfl, hw'⟩; obtain rfl := hw'.symm))
                  go_ret
                  exact ⟨rfl, belowThen HBel.out hb5⟩
                · rw [if_neg hpos] at HCk
                  go_wp2_with (first | (go_at_call 18; refine HCk.out.mono ?_; rintro e w5 ⟨rfl, hb5⟩) | (go_at_call 17; refine (num_any _ _).mono ?_; rintro e w' ⟨rfl, hw'⟩; obtain rfl := hw'.symm))
                  go_ret
                  exact ⟨rfl, belowThen HBel.out hb5⟩
          · have HChk := hide (lim_check (which := 2) (by decide) HN.out (by omega) (by omega))
            have hN2 : 64 + more = (N : Int) := HN.out.symm
            clear hN g1 g2
            go_enter Try.func7, Try.ntmps7
            go_wp2_with fail
            refine HAl.out.mono ?_
            rintro e w1 ⟨rfl, hb1⟩
            have HB1 : Hid (Box (w1.alloc (.cells #[.int .i64 2500, .slice none 0 0, .slice none 0 0, .slice none 0 0, .slice none 0 0, .slice none 0 0, .slice none 0 0, .slice none 0 0] 27)) w1.heap.size ⟨2500, none, 0, 0, none, 0, 0, none, 0, 0, none, 0, 0, none, 0, 0, none, 0, 0, none, 0, 0⟩) := heap_alloc_new w1 _
            have HW1 := hide hb1
            have ez : ∀ o, (w1.alloc o).heap.size = w1.heap.size + 1 := fun o => by simp
            clear hb1 HAl
            have HCk : Hid (∀ W, RowK .i64 W (some ⟨w1.heap.size + 1, 0, none⟩) (List.replicate N 0) → Calls Try.prog 18 #[.agg #[.int .i64 2500, .slice none 0 0, .slice none 0 0, .slice (some ⟨w1.heap.size + 1, 0, none⟩) N N, .slice none 0 0, .slice none 0 0, .slice none 0 0, .slice none 0 0]] W fun e w' => e = .returned (.int .i64 (if 0 < more then 3 else 0)) ∧ Below W.heap.size W w') := fun W hr => by
              have := check_any _ _ W (holds_zero2 hr) ⟨Nat.zero_le _, Nat.zero_le _, (by show N ≤ 281474976710656; omega), Nat.zero_le _, Nat.zero_le _, (by show (-9223372036854775808 : Int) ≤ 2500; decide), fun s hs => by cases hs⟩
              rw [HChk.out] at this
              exact this
            clear HChk
            by_cases hpos : 0 < more
            · rw [if_pos hpos] at HCk
              go_wp2_with (first | (at_make; refine wpList_make_full _ rfl _ _ 22 rfl (w1.heap.size + 1) 3 i0 (.int .i64 0) 1 Try.underlying22 hi hz0 hz1 .i64 .i64 _ _ N rfl rfl (by first | rfl | omega) (by first | rfl | omega) (by rw [hz2]; omega) (by unfold maxLen; omega) (by simp) ?_; intro w2 hown hg2; rw [madeI, ez] at hown; have hB2 := HB1.out.grown hg2 (by simp); have hbw2 := (belowThen HW1.out (below_alloc w1 _)).grown hg2 (by have := HW1.out.size; simp; omega) (fun k hk => by cases hk); obtain ⟨q0, q1, q2, q3, q4, q5, q6, q7⟩ := hB2.cells; dsimp only at q0 q1 q2 q3 q4 q5 q6 q7; have hfz := box_frozen hB2 3; have HO := hide hown; have HBW := hide hbw2; clear hown hg2 hbw2 hB2) | (go_at_call 18; refine (HCk.out _ (zero_row HO.out)).mono ?_; rintro e w5 ⟨rfl, hb5⟩) | (go_at_call 17; refine (num_any _ _).mono ?_; rintro e w' ⟨rfl, hw'⟩; obtain rfl := hw'.symm))
              go_ret
              exact ⟨rfl, belowThen (HBW.out.setCell (p := ⟨w1.heap.size, 3, none⟩) HW1.out.size _) hb5⟩
            · rw [if_neg hpos] at HCk
              go_wp2_with (first | (at_make; refine wpList_make_full _ rfl _ _ 22 rfl (w1.heap.size + 1) 3 i0 (.int .i64 0) 1 Try.underlying22 hi hz0 hz1 .i64 .i64 _ _ N rfl rfl (by first | rfl | omega) (by first | rfl | omega) (by rw [hz2]; omega) (by unfold maxLen; omega) (by simp) ?_; intro w2 hown hg2; rw [madeI, ez] at hown; have hB2 := HB1.out.grown hg2 (by simp); have hbw2 := (belowThen HW1.out (below_alloc w1 _)).grown hg2 (by have := HW1.out.size; simp; omega) (fun k hk => by cases hk); obtain ⟨q0, q1, q2, q3, q4, q5, q6, q7⟩ := hB2.cells; dsimp only at q0 q1 q2 q3 q4 q5 q6 q7; have hfz := box_frozen hB2 3; have HO := hide hown; have HBW := hide hbw2; clear hown hg2 hbw2 hB2) | (go_at_call 18; refine (HCk.out _ (zero_row HO.out)).mono ?_; rintro e w5 ⟨rfl, hb5⟩) | (go_at_call 17; refine (num_any _ _).mono ?_; rintro e w' ⟨rfl, hw'⟩; obtain rfl := hw'.symm))
              go_ret
              exact ⟨rfl, belowThen (HBW.out.setCell (p := ⟨w1.heap.size, 3, none⟩) HW1.out.size _) hb5⟩
          · have HChk := hide (lim_check (which := 3) (by decide) HN.out (by omega) (by omega))
            have hN2 : 64 + more = (N : Int) := HN.out.symm
            clear hN g1 g2
            go_enter Try.func7, Try.ntmps7
            go_wp2_with fail
            refine HAl.out.mono ?_
            rintro e w1 ⟨rfl, hb1⟩
            have HB1 : Hid (Box (w1.alloc (.cells #[.int .i64 2500, .slice none 0 0, .slice none 0 0, .slice none 0 0, .slice none 0 0, .slice none 0 0, .slice none 0 0, .slice none 0 0] 27)) w1.heap.size ⟨2500, none, 0, 0, none, 0, 0, none, 0, 0, none, 0, 0, none, 0, 0, none, 0, 0, none, 0, 0⟩) := heap_alloc_new w1 _
            have HW1 := hide hb1
            have ez : ∀ o, (w1.alloc o).heap.size = w1.heap.size + 1 := fun o => by simp
            clear hb1 HAl
            have HCk : Hid (∀ W, RowK .i64 W (some ⟨w1.heap.size + 1, 0, none⟩) (List.replicate N 0) → Calls Try.prog 18 #[.agg #[.int .i64 2500, .slice none 0 0, .slice none 0 0, .slice none 0 0, .slice (some ⟨w1.heap.size + 1, 0, none⟩) N N, .slice none 0 0, .slice none 0 0, .slice none 0 0]] W fun e w' => e = .returned (.int .i64 (if 0 < more then 3 else 0)) ∧ Below W.heap.size W w') := fun W hr => by
              have := check_any _ _ W (holds_zero3 hr) ⟨Nat.zero_le _, Nat.zero_le _, Nat.zero_le _, (by show N ≤ 281474976710656; omega), Nat.zero_le _, (by show (-9223372036854775808 : Int) ≤ 2500; decide), fun s hs => by cases hs⟩
              rw [HChk.out] at this
              exact this
            clear HChk
            by_cases hpos : 0 < more
            · rw [if_pos hpos] at HCk
              go_wp2_with (first | (at_make; refine wpList_make_full _ rfl _ _ 22 rfl (w1.heap.size + 1) 3 i0 (.int .i64 0) 1 Try.underlying22 hi hz0 hz1 .i64 .i64 _ _ N rfl rfl (by first | rfl | omega) (by first | rfl | omega) (by rw [hz2]; omega) (by unfold maxLen; omega) (by simp) ?_; intro w2 hown hg2; rw [madeI, ez] at hown; have hB2 := HB1.out.grown hg2 (by simp); have hbw2 := (belowThen HW1.out (below_alloc w1 _)).grown hg2 (by have := HW1.out.size; simp; omega) (fun k hk => by cases hk); obtain ⟨q0, q1, q2, q3, q4, q5, q6, q7⟩ := hB2.cells; dsimp only at q0 q1 q2 q3 q4 q5 q6 q7; have hfz := box_frozen hB2 4; have HO := hide hown; have HBW := hide hbw2; clear hown hg2 hbw2 hB2) | (go_at_call 18; refine (HCk.out _ (zero_row HO.out)).mono ?_; rintro e w5 ⟨rfl, hb5⟩) | (go_at_call 17; refine (num_any _ _).mono ?_; rintro e w' ⟨rfl, hw'⟩; obtain rfl := hw'.symm))
              go_ret
              exact ⟨rfl, belowThen (HBW.out.setCell (p := ⟨w1.heap.size, 4, none⟩) HW1.out.size _) hb5⟩
            · rw [if_neg hpos] at HCk
              go_wp2_with (first | (at_make; refine wpList_make_full _ rfl _ _ 22 rfl (w1.heap.size + 1) 3 i0 (.int .i64 0) 1 Try.underlying22 hi hz0 hz1 .i64 .i64 _ _ N rfl rfl (by first | rfl | omega) (by first | rfl | omega) (by rw [hz2]; omega) (by unfold maxLen; omega) (by simp) ?_; intro w2 hown hg2; rw [madeI, ez] at hown; have hB2 := HB1.out.grown hg2 (by simp); have hbw2 := (belowThen HW1.out (below_alloc w1 _)).grown hg2 (by have := HW1.out.size; simp; omega) (fun k hk => by cases hk); obtain ⟨q0, q1, q2, q3, q4, q5, q6, q7⟩ := hB2.cells; dsimp only at q0 q1 q2 q3 q4 q5 q6 q7; have hfz := box_frozen hB2 4; have HO := hide hown; have HBW := hide hbw2; clear hown hg2 hbw2 hB2) | (go_at_call 18; refine (HCk.out _ (zero_row HO.out)).mono ?_; rintro e w5 ⟨rfl, hb5⟩) | (go_at_call 17; refine (num_any _ _).mono ?_; rintro e w' ⟨rfl, hw'⟩; obtain rfl := hw'.symm))
              go_ret
              exact ⟨rfl, belowThen (HBW.out.setCell (p := ⟨w1.heap.size, 4, none⟩) HW1.out.size _) hb5⟩
          · have HChk := hide (lim_check (which := 4) (by decide) HN.out (by omega) (by omega))
            have hN2 : 64 + more = (N : Int) := HN.out.symm
            clear hN g1 g2
            go_enter Try.func7, Try.ntmps7
            go_wp2_with fail
            refine HAl.out.mono ?_
            rintro e w1 ⟨rfl, hb1⟩
            have HB1 : Hid (Box (w1.alloc (.cells #[.int .i64 2500, .slice none 0 0, .slice none 0 0, .slice none 0 0, .slice none 0 0, .slice none 0 0, .slice none 0 0, .slice none 0 0] 27)) w1.heap.size ⟨2500, none, 0, 0, none, 0, 0, none, 0, 0, none, 0, 0, none, 0, 0, none, 0, 0, none, 0, 0⟩) := heap_alloc_new w1 _
            have HW1 := hide hb1
            have ez : ∀ o, (w1.alloc o).heap.size = w1.heap.size + 1 := fun o => by simp
            clear hb1 HAl
            have HCk : Hid (∀ W, RowK .i64 W (some ⟨w1.heap.size + 1, 0, none⟩) (List.replicate N 0) → Calls Try.prog 18 #[.agg #[.int .i64 2500, .slice none 0 0, .slice none 0 0, .slice none 0 0, .slice none 0 0, .slice (some ⟨w1.heap.size + 1, 0, none⟩) N N, .slice none 0 0, .slice none 0 0]] W fun e w' => e = .returned (.int .i64 (if 0 < more then 3 else 0)) ∧ Below W.heap.size W w') := fun W hr => by
              have := check_any _ _ W (holds_zero4 hr) ⟨Nat.zero_le _, Nat.zero_le _, Nat.zero_le _, Nat.zero_le _, (by show N ≤ 281474976710656; omega), (by show (-9223372036854775808 : Int) ≤ 2500; decide), fun s hs => by cases hs⟩
              rw [HChk.out] at this
              exact this
            clear HChk
            by_cases hpos : 0 < more
            · rw [if_pos hpos] at HCk
              go_wp2_with (first | (at_make; refine wpList_make_full _ rfl _ _ 22 rfl (w1.heap.size + 1) 3 i0 (.int .i64 0) 1 Try.underlying22 hi hz0 hz1 .i64 .i64 _ _ N rfl rfl (by first | rfl | omega) (by first | rfl | omega) (by rw [hz2]; omega) (by unfold maxLen; omega) (by simp) ?_; intro w2 hown hg2; rw [madeI, ez] at hown; have hB2 := HB1.out.grown hg2 (by simp); have hbw2 := (belowThen HW1.out (below_alloc w1 _)).grown hg2 (by have := HW1.out.size; simp; omega) (fun k hk => by cases hk); obtain ⟨q0, q1, q2, q3, q4, q5, q6, q7⟩ := hB2.cells; dsimp only at q0 q1 q2 q3 q4 q5 q6 q7; have hfz := box_frozen hB2 5; have HO := hide hown; have HBW := hide hbw2; clear hown hg2 hbw2 hB2) | (go_at_call 18; refine (HCk.out _ (zero_row HO.out)).mono ?_; rintro e w5 ⟨rfl, hb5⟩) | (go_at_call 17; refine (num_any _ _).mono ?_; rintro e w' ⟨rfl, hw'⟩; obtain rfl := hw'.symm))
              go_ret
              exact ⟨rfl, belowThen (HBW.out.setCell (p := ⟨w1.heap.size, 5, none⟩) HW1.out.size _) hb5⟩
            · rw [if_neg hpos] at HCk
              go_wp2_with (first | (at_make; refine wpList_make_full _ rfl _ _ 22 rfl (w1.heap.size + 1) 3 i0 (.int .i64 0) 1 Try.underlying22 hi hz0 hz1 .i64 .i64 _ _ N rfl rfl (by first | rfl | omega) (by first | rfl | omega) (by rw [hz2]; omega) (by unfold maxLen; omega) (by simp) ?_; intro w2 hown hg2; rw [madeI, ez] at hown; have hB2 := HB1.out.grown hg2 (by simp); have hbw2 := (belowThen HW1.out (below_alloc w1 _)).grown hg2 (by have := HW1.out.size; simp; omega) (fun k hk => by cases hk); obtain ⟨q0, q1, q2, q3, q4, q5, q6, q7⟩ := hB2.cells; dsimp only at q0 q1 q2 q3 q4 q5 q6 q7; have hfz := box_frozen hB2 5; have HO := hide hown; have HBW := hide hbw2; clear hown hg2 hbw2 hB2) | (go_at_call 18; refine (HCk.out _ (zero_row HO.out)).mono ?_; rintro e w5 ⟨rfl, hb5⟩) | (go_at_call 17; refine (num_any _ _).mono ?_; rintro e w' ⟨rfl, hw'⟩; obtain rfl := hw'.symm))
              go_ret
              exact ⟨rfl, belowThen (HBW.out.setCell (p := ⟨w1.heap.size, 5, none⟩) HW1.out.size _) hb5⟩
          · have HCk : Hid (∀ W, Calls Try.prog 18 #[.agg #[.int .i64 (5000 + more), .slice none 0 0, .slice none 0 0, .slice none 0 0, .slice none 0 0, .slice none 0 0, .slice none 0 0, .slice none 0 0]] W fun e w' => e = .returned (.int .i64 (if 0 < more then 3 else 0)) ∧ Below W.heap.size W w') := fun W => by
              have := check_any ⟨5000 + more, none, 0, 0, none, 0, 0, none, 0, 0, none, 0, 0, none, 0, 0, none, 0, 0, none, 0, 0⟩ ⟨5000 + more, [], [], [], [], [], [], []⟩ W ⟨rfl, .inl ⟨rfl, rfl⟩, rfl, fun _ => rfl, .inl ⟨rfl, rfl⟩, rfl, fun _ => rfl, .inl ⟨rfl, rfl⟩, rfl, fun _ => rfl, .inl ⟨rfl, rfl⟩, rfl, fun _ => rfl, .inl ⟨rfl, rfl⟩, rfl, fun _ => rfl, .inl ⟨rfl, rfl⟩, rfl, fun _ => rfl, .inl ⟨rfl, rfl⟩, rfl, fun _ => rfl⟩ ⟨Nat.zero_le _, Nat.zero_le _, Nat.zero_le _, Nat.zero_le _, Nat.zero_le _, (by show (-9223372036854775808 : Int) ≤ 5000 + more; omega), fun s hs => by cases hs⟩
              have e : (⟨5000 + more, [], [], [], [], [], [], []⟩ : Circ).checkI = if 0 < more then 3 else 0 := by
                obtain ⟨a, b, c⟩ := lim_max
                rcases (by omega : more = -1 ∨ more = 0 ∨ more = 1) with rfl | rfl | rfl
                · exact a
                · exact b
                · exact c
              rw [e] at this
              exact this
            clear hN
            by_cases hpos : 0 < more
            · rw [if_pos hpos] at HCk
              go_enter Try.func7, Try.ntmps7
              go_wp2_with (first | (go_at_call 14; refine HAl.out.mono ?_; rintro e w1 ⟨rfl, hb1⟩) | (go_at_call 18; refine (HCk.out _).mono ?_; rintro e w5 ⟨rfl, hb5⟩) | (go_at_call 17; refine (num_any _ _).mono ?_; rintro e w' ⟨rfl, hw'⟩; obtain rfl := hw'.symm))
              go_ret
              exact ⟨rfl, belowThen (belowThen hb1 (below_alloc w1 _)) hb5⟩
            · rw [if_neg hpos] at HCk
              go_enter Try.func7, Try.ntmps7
              go_wp2_with (first | (go_at_call 14; refine HAl.out.mono ?_; rintro e w1 ⟨rfl, hb1⟩) | (go_at_call 18; refine (HCk.out _).mono ?_; rintro e w5 ⟨rfl, hb5⟩) | (go_at_call 17; refine (num_any _ _).mono ?_; rintro e w' ⟨rfl, hw'⟩; obtain rfl := hw'.symm))
              go_ret
              exact ⟨rfl, belowThen (belowThen hb1 (below_alloc w1 _)) hb5⟩
end Go.Proofs.Ytppaifckiaaffaa
