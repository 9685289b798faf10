/-
  THE WALK of layer 4's Normal.
-/
import Derived.Test.YtppaifckiaaffaaAigCopy
import Derived.Test.YtppaifckiaaffaaNormLats
import Derived.Test.YtppaifckiaaffaaNormNames
import Derived.Test.YtppaifckiaaffaaRefSmall
namespace Go.Proofs.Ytppaifckiaaffaa
open Go.RowKit

/-- A circuit that Check lets by. -/
structure Right (C : Circ) : Prop where
  small : Small C
  lits : Lits C
  names : C.namesB = true
  once : C.onceB = true
  named : C.namedB = true
  known : C.knownB = true
  turn : C.turn.length = C.ands.length
theorem right_of {C : Circ} (h : C.checkI = 0) : Right C := by
  unfold Circ.checkI at h
  split at h
  · cases h
  · rename_i h1
    split at h
    · cases h
    · rename_i h2
      split at h
      · cases h
      · rename_i h3
        split at h
        · cases h
        · rename_i h4
          split at h
          · cases h
          · rename_i h5
            simp only [Bool.and_eq_false_iff, not_or, Bool.not_eq_false] at h2 h3
            have := turn_le C
            exact ⟨small_of (by simpa using h1), lits_of h2.1, h2.2, h3.1, h3.2, by simpa using h4, by omega⟩
def Circ.normE (C : Circ) : Circ := if C.checkI = 0 then C.norm else Circ.nil

theorem lit_in {C : Circ} (hR : Right C) {l : Int} (h0 : 0 ≤ l) (h1 : l ≤ 2 * C.max + 1) : LitIn (C.max.toNat + 1) l := by
  have := hR.small.max
  have := hR.lits.max
  unfold LitIn varN
  omega
theorem in_ins {C : Circ} (hR : Right C) : ∀ l ∈ C.ins, LitIn (C.max.toNat + 1) l := fun l hl => by
  have := hR.lits.own l (by unfold Circ.made; simp [hl])
  exact lit_in hR (by omega) this.2.1
theorem in_used {C : Circ} (hR : Right C) {l : Int} (hl : l ∈ C.used) : LitIn (C.max.toNat + 1) l := lit_in hR (hR.lits.lit l hl).1 (hR.lits.lit l hl).2
theorem in_outs {C : Circ} (hR : Right C) : ∀ l ∈ C.outs, LitIn (C.max.toNat + 1) l := fun l hl => in_used hR (by unfold Circ.used; simp [hl])
theorem in_bads {C : Circ} (hR : Right C) : ∀ l ∈ C.bads, LitIn (C.max.toNat + 1) l := fun l hl => in_used hR (by unfold Circ.used; simp [hl])
theorem in_cons {C : Circ} (hR : Right C) : ∀ l ∈ C.cons, LitIn (C.max.toNat + 1) l := fun l hl => in_used hR (by unfold Circ.used; simp [hl])
theorem in_lats {C : Circ} (hR : Right C) : ∀ t ∈ C.lats, TriIn (C.max.toNat + 1) t := fun t ht => by
  have h1 := hR.lits.own t.1 (by unfold Circ.made; simp; exact .inr (.inl ⟨_, _, ht⟩))
  have h2 := in_used hR (l := t.2.1) (by unfold Circ.used; simp; exact .inl ⟨_, _, ht⟩)
  have h3 := hR.lits.reset t ht
  have h4 := hR.lits.max
  exact ⟨lit_in hR (by omega) h1.2.1, h2, lit_in hR (by omega) (by omega)⟩
theorem in_ands {C : Circ} (hR : Right C) : ∀ t ∈ C.ands, TriIn (C.max.toNat + 1) t := fun t ht => by
  have h1 := hR.lits.own t.1 (by unfold Circ.made; simp; exact .inr (.inr ⟨_, _, ht⟩))
  have hm : ∀ l, l = t.2.1 ∨ l = t.2.2 → l ∈ C.used := fun l hl => by
    unfold Circ.used
    refine List.mem_append_right _ (List.mem_flatMap.2 ⟨t, ht, ?_⟩)
    rcases hl with rfl | rfl <;> simp
  exact ⟨lit_in hR (by omega) h1.2.1, in_used hR (hm _ (.inl rfl)), in_used hR (hm _ (.inr rfl))⟩

/-- What stands while Normal makes its rows. -/
structure NS (w0 : World) (c : CV) (C : Circ) (b g n : Nat) (oa : Option Addr) (W : World) : Prop where
  holds : Holds W c C
  box : Box W b c
  res : Box W (b + 1) CV.nil
  ren : Ren W g n C.ren
  ord : RowK .i64 W oa (C.turn.map (fun k : Nat => (k : Int)))
  below : Below w0.heap.size w0 W
theorem NS.then {w0 W W' : World} {c : CV} {C : Circ} {b g n : Nat} {oa : Option Addr} (h : NS w0 c C b g n oa W) (hb : Below W.heap.size W W') : NS w0 c C b g n oa W' :=
  ⟨h.holds.below hb, h.box.below hb, h.res.below hb, h.ren.below hb, h.ord.below hb, belowThen h.below hb⟩

set_option maxRecDepth 100000 in
set_option maxHeartbeats 4000000 in
theorem normal_bad (c : CV) (C : Circ) (w : World) (h : Holds w c C) (hf : Fits c C) (hbad : C.checkI ≠ 0) :
    Calls Try.prog 26 #[c.v] w fun e w' => e = .returned (.tuple #[CV.nil.v, .int .i64 C.checkI]) ∧ Below w.heap.size w w' := by
  have HC : Hid (∀ W, Below w.heap.size w W → Calls Try.prog 39 #[c.v] W fun e w' => e = .returned (.tuple #[.slice none 0 0, .int .i64 C.checkI]) ∧ Below W.heap.size W w') := fun W hb => (order_any c C W (h.below hb) hf).mono (fun e w' hh => by
    rcases hh.2 with ⟨-, he⟩ | ⟨h0, -⟩
    · exact ⟨he, hh.1⟩
    · exact absurd h0 hbad)
  have S0 := hide (copy_start w c)
  generalize C.checkI = ck at HC hbad ⊢
  have hck : (ck != 0) = true := by simpa using hbad
  clear h hf hbad
  unfold CV.v at HC ⊢
  go_enter Try.func26, Try.ntmps26
  go_wp2_with fail
  refine (HC.out _ S0.out.below).mono ?_
  rintro e w1 ⟨rfl, hb1⟩
  have B1 := hide (S0.out.res.below hb1)
  have HW := hide (belowThen S0.out.below hb1)
  obtain ⟨q0, q1, q2, q3, q4, q5, q6, q7⟩ := B1.out.cells
  have f0 := box_frozen B1.out 0
  have f1 := box_frozen B1.out 1
  have f2 := box_frozen B1.out 2
  have f3 := box_frozen B1.out 3
  have f4 := box_frozen B1.out 4
  have f5 := box_frozen B1.out 5
  have f6 := box_frozen B1.out 6
  have f7 := box_frozen B1.out 7
  clear S0 HC hb1
  go_wp2
  have hb := hide (box_put CV.nil B1.out)
  have hbel : Hid (Below w.heap.size w (putBox w1 (w.heap.size + 1) CV.nil)) := (two_put w1 (w.heap.size + 1) CV.nil).below HW.out (Nat.le_refl _) (Nat.le_succ _) (Nat.le_succ _)
  clear q0 q1 q2 q3 q4 q5 q6 q7 f0 f1 f2 f3 f4 f5 f6 f7
  show bodyPost _ _ _ _ _ (putBox w1 (w.heap.size + 1) CV.nil)
  generalize putBox w1 (w.heap.size + 1) CV.nil = Wf at *
  obtain ⟨r0, r1, r2, r3, r4, r5, r6, r7⟩ := hb.out.cells
  simp only [CV.nil] at r0 r1 r2 r3 r4 r5 r6 r7
  refine bodyPost_ret (v := .tuple #[.agg #[.int .i64 0, .slice none 0 0, .slice none 0 0, .slice none 0 0, .slice none 0 0, .slice none 0 0, .slice none 0 0, .slice none 0 0], .int .i64 ck]) (by simp [results, Try.results26, go_sem, *]) rfl ?_
  exact ⟨rfl, hbel.out⟩
end Go.Proofs.Ytppaifckiaaffaa
