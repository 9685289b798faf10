/-
  CIRCUITS OF ANY KIND OF VALUES, no function of the program: going over all Ands again and again tells what the Ands in turn tell, whatever an And is of its sides.
  VALUES OF THREE (0 no, 1 yes, 2 any), no function of the program: less known of what goes in is no more known of what comes out; all known is what bools tell.
  STEPS OF THREE VALUES, no function of the program: of values of three the program's own turning over is the document's; what comes of a step.
  THE WALKS of package signals at one kind of values: Literal, Next, and, Each, Settle.
-/
import Derived.Test.YtmbbcghhdjpgeaaSimP
import Derived.Test.YtmbbcghhdjpgeaaSimA
import Derived.Laws.EntriesVeiled

namespace Go.Proofs.Ytmbbcghhdjpgeaa
open Go.RowKit

set_option linter.unusedSectionVars false
section
variable {α : Type} [Inhabited α]

/-- What an And is hangs on its sides alone. -/
def BySides (ev : List α → Tri → α) : Prop := ∀ (v u : List α) (t : Tri), atP v (varN t.2.1) = atP u (varN t.2.1) → atP v (varN t.2.2) = atP u (varN t.2.2) → ev v t = ev u t
def setV (ev : List α → Tri → α) (v : List α) (t : Tri) : List α := v.set (varN t.1) (ev v t)
def Circ.settleG (C : Circ) (ev : List α → Tri → α) (v : List α) : Nat → List α
  | 0 => v
  | k + 1 => setV ev (Circ.settleG C ev v k) (atP C.ands (atP C.turn k))
def Circ.sweepG [BEq α] (C : Circ) (ev : List α → Tri → α) (v : List α) : Nat → List α × Bool
  | 0 => (v, false)
  | k + 1 => (setV ev (Circ.sweepG C ev v k).1 (atP C.ands k), (Circ.sweepG C ev v k).2 || (atP (Circ.sweepG C ev v k).1 (varN (atP C.ands k).1) != ev (Circ.sweepG C ev v k).1 (atP C.ands k)))
def Circ.iterG [BEq α] (C : Circ) (ev : List α → Tri → α) : Nat → List α → List α
  | 0, v => v
  | f + 1, v => if (C.sweepG ev v C.ands.length).2 = true then Circ.iterG C ev f (C.sweepG ev v C.ands.length).1 else (C.sweepG ev v C.ands.length).1

theorem gSet {v : List α} {i j : Nat} {x : α} (hi : i < v.length) : atP (v.set i x) j = if j = i then x else atP v j := by
  by_cases h : j = i
  · subst h; rw [if_pos rfl, at_set_same v j x hi]
  · rw [if_neg h, at_set_other v i j x (fun e => h e.symm)]
theorem settleG_len (C : Circ) (ev : List α → Tri → α) (v : List α) : ∀ k, (C.settleG ev v k).length = v.length
  | 0 => rfl
  | k + 1 => by show (setV ev (C.settleG ev v k) _).length = _; unfold setV; rw [List.length_set, settleG_len C ev v k]
theorem list_ext_g {u v : List α} (hl : u.length = v.length) (h : ∀ i, i < u.length → atP u i = atP v i) : u = v := by
  refine List.ext_getElem hl (fun i h1 h2 => ?_)
  have := h i h1
  rwa [atP_eq _ _ h1, atP_eq _ _ h2] at this

theorem settleG_keeps {C : Circ} (hR : Right C) {ev : List α → Tri → α} (v : List α) (hv : v.length = C.max.toNat + 1) {k : Nat} : ∀ d, k + d ≤ C.ands.length → ∀ x, (∀ i, k ≤ i → i < k + d → x ≠ C.gateOf (atP C.turn i)) → atP (C.settleG ev v (k + d)) x = atP (C.settleG ev v k) x
  | 0, _, _, _ => rfl
  | d + 1, hd, x, hx => by
    show atP (setV ev (C.settleG ev v (k + d)) (atP C.ands (atP C.turn (k + d)))) x = _
    unfold setV
    rw [gSet (by rw [settleG_len, hv]; exact gateLt hR (turn_in hR (by omega))), if_neg (by exact hx (k + d) (by omega) (by omega))]
    exact settleG_keeps hR v hv d (by omega) x (fun i h1 h2 => hx i h1 (by omega))

theorem valsG_and {C : Circ} (hR : Right C) {ev : List α → Tri → α} (hE : BySides ev) (v : List α) (hv : v.length = C.max.toNat + 1) {i : Nat} (hi : i < C.ands.length) : atP (C.settleG ev v C.turn.length) (C.gateOf i) = ev (C.settleG ev v C.turn.length) (atP C.ands i) := by
  obtain ⟨j, hj, rfl⟩ := turn_at hR hi
  rw [hR.turn]
  have hkeep : ∀ x, (∀ i, j + 1 ≤ i → i < C.ands.length → x ≠ C.gateOf (atP C.turn i)) → atP (C.settleG ev v C.ands.length) x = atP (C.settleG ev v (j + 1)) x := fun x hx => by
    have e : C.ands.length = (j + 1) + (C.ands.length - (j + 1)) := by omega
    rw [e]
    exact settleG_keeps hR v hv _ (by omega) x (fun i h1 h2 => hx i h1 (by omega))
  have hne : ∀ i i', i < C.ands.length → i' < C.ands.length → i ≠ i' → C.gateOf (atP C.turn i) ≠ C.gateOf (atP C.turn i') := fun i i' h1 h2 hn e =>
    hn (turn_inj (by rw [hR.turn]; exact h1) (by rw [hR.turn]; exact h2) (gate_inj (gates_nodup hR.once) (turn_in hR h1) (turn_in hR h2) e))
  have hside : ∀ s ∈ C.sides (atP C.turn j), atP (C.settleG ev v C.ands.length) s = atP (C.settleG ev v j) s := fun s hs => by
    have h1 : s ≠ C.gateOf (atP C.turn j) ∧ (∀ i, j + 1 ≤ i → i < C.ands.length → s ≠ C.gateOf (atP C.turn i)) := by
      rcases side_at hR hj hs with hg | ⟨i, hij, rfl⟩
      · exact ⟨fun e => hg (e ▸ gate_mem C _ (turn_in hR hj)), fun i h1 h2 e => hg (e ▸ gate_mem C _ (turn_in hR h2))⟩
      · exact ⟨hne _ _ (by omega) hj (by omega), fun i' h1 h2 => hne _ _ (by omega) h2 (by omega)⟩
    rw [hkeep s h1.2]
    show atP (setV ev (C.settleG ev v j) _) s = _
    unfold setV
    rw [gSet (by rw [settleG_len, hv]; exact gateLt hR (turn_in hR hj))]
    exact if_neg h1.1
  rw [hkeep _ (fun i h1 h2 => hne _ _ hj h2 (by omega))]
  rw [hE _ _ _ (hside _ (by unfold Circ.sides; simp)) (hside _ (by unfold Circ.sides; simp))]
  show atP (setV ev (C.settleG ev v j) _) _ = _
  unfold setV
  rw [gSet (by rw [settleG_len, hv]; exact gateLt hR (turn_in hR hj))]
  exact if_pos rfl
theorem valsG_other {C : Circ} (hR : Right C) {ev : List α → Tri → α} (v : List α) (hv : v.length = C.max.toNat + 1) {x : Nat} (hx : x ∉ C.gates) : atP (C.settleG ev v C.turn.length) x = atP v x := by
  rw [hR.turn]
  have := settleG_keeps hR (ev := ev) v hv (k := 0) C.ands.length (by omega) x (fun i _ h2 e => hx (e ▸ gate_mem C _ (turn_in hR (by omega))))
  rw [Nat.zero_add] at this
  exact this

structure BasedG (C : Circ) (v0 v : List α) : Prop where
  len : v.length = C.max.toNat + 1
  other : ∀ x, x ∉ C.gates → atP v x = atP v0 x
def UpToG (C : Circ) (s v : List α) (k : Nat) : Prop := ∀ j, j < k → j < C.ands.length → atP v (C.gateOf (atP C.turn j)) = atP s (C.gateOf (atP C.turn j))

variable {C : Circ} {v0 : List α} {ev : List α → Tri → α}

theorem andG_key (hR : Right C) (hE : BySides ev) (hl : v0.length = C.max.toNat + 1) {v : List α} (hb : BasedG C v0 v) {k : Nat} (hk : UpToG C (C.settleG ev v0 C.turn.length) v k) {j : Nat} (hj : j < C.ands.length) (hjk : j ≤ k) :
    ev v (atP C.ands (atP C.turn j)) = atP (C.settleG ev v0 C.turn.length) (C.gateOf (atP C.turn j)) := by
  rw [valsG_and hR hE v0 hl (turn_in hR hj)]
  have hside : ∀ s ∈ C.sides (atP C.turn j), atP v s = atP (C.settleG ev v0 C.turn.length) s := fun s hs => by
    rcases side_at hR hj hs with hg | ⟨i, hij, rfl⟩
    · rw [hb.other s hg, valsG_other hR v0 hl hg]
    · exact hk i (by omega) (by omega)
  exact hE _ _ _ (hside _ (by unfold Circ.sides; simp)) (hside _ (by unfold Circ.sides; simp))
theorem upToG_all (hR : Right C) (hl : v0.length = C.max.toNat + 1) {v : List α} (hb : BasedG C v0 v) (hk : UpToG C (C.settleG ev v0 C.turn.length) v C.ands.length) : v = C.settleG ev v0 C.turn.length := by
  refine list_ext_g (by rw [hb.len, settleG_len, hl]) (fun x _ => ?_)
  by_cases hg : x ∈ C.gates
  · rw [gates_eq] at hg
    obtain ⟨i, hi, rfl⟩ := List.mem_map.1 hg
    obtain ⟨j, hj, rfl⟩ := turn_at hR (List.mem_range.1 hi)
    exact hk j hj hj
  · rw [hb.other x hg, valsG_other hR v0 hl hg]
/-- Values that meet every And are those that are settled. -/
theorem fixG_all (hR : Right C) (hE : BySides ev) (hl : v0.length = C.max.toNat + 1) {v : List α} (hb : BasedG C v0 v) (hf : ∀ i, i < C.ands.length → atP v (C.gateOf i) = ev v (atP C.ands i)) : v = C.settleG ev v0 C.turn.length := by
  refine upToG_all hR hl hb ?_
  have h : ∀ k, UpToG C (C.settleG ev v0 C.turn.length) v k := fun k => by
    induction k with
    | zero => exact fun j hj => absurd hj (Nat.not_lt_zero _)
    | succ k ih =>
      intro j hj hj2
      rw [hf _ (turn_in hR hj2)]
      exact andG_key hR hE hl hb ih hj2 (by omega)
  exact h _
theorem basedG_set (hR : Right C) {v : List α} (hb : BasedG C v0 v) {i : Nat} (hi : i < C.ands.length) : BasedG C v0 (setV ev v (atP C.ands i)) := by
  refine ⟨by unfold setV; rw [List.length_set]; exact hb.len, fun x hx => ?_⟩
  unfold setV
  rw [gSet (by rw [hb.len]; exact gateLt hR hi), if_neg (fun e => hx (by rw [e]; exact gate_mem C i hi))]
  exact hb.other x hx
theorem upToG_set (hR : Right C) (hE : BySides ev) (hl : v0.length = C.max.toNat + 1) {v : List α} (hb : BasedG C v0 v) {k : Nat} (hk : UpToG C (C.settleG ev v0 C.turn.length) v k) {i : Nat} (hi : i < C.ands.length) :
    UpToG C (C.settleG ev v0 C.turn.length) (setV ev v (atP C.ands i)) k ∧ (k < C.ands.length → atP C.turn k = i ∨ atP v (C.gateOf (atP C.turn k)) = atP (C.settleG ev v0 C.turn.length) (C.gateOf (atP C.turn k)) → UpToG C (C.settleG ev v0 C.turn.length) (setV ev v (atP C.ands i)) (k + 1)) := by
  have hg : ∀ x, atP (setV ev v (atP C.ands i)) x = if x = C.gateOf i then ev v (atP C.ands i) else atP v x := fun x => by
    unfold setV
    exact gSet (by rw [hb.len]; exact gateLt hR hi)
  have hone : ∀ j, j ≤ k → j < C.ands.length → (atP C.turn j = i ∨ atP v (C.gateOf (atP C.turn j)) = atP (C.settleG ev v0 C.turn.length) (C.gateOf (atP C.turn j))) → atP (setV ev v (atP C.ands i)) (C.gateOf (atP C.turn j)) = atP (C.settleG ev v0 C.turn.length) (C.gateOf (atP C.turn j)) := fun j hjk hj hor => by
    rw [hg]
    by_cases e : C.gateOf (atP C.turn j) = C.gateOf i
    · rw [if_pos e]
      have e2 := gate_inj (gates_nodup hR.once) (turn_in hR hj) hi e
      rw [← e2]
      exact andG_key hR hE hl hb hk hj hjk
    · rw [if_neg e]
      rcases hor with h | h
      · exact absurd (by rw [h]) e
      · exact h
  refine ⟨fun j hj hj2 => hone j (by omega) hj2 (.inr (hk j hj hj2)), fun hkn hor j hj hj2 => ?_⟩
  by_cases e : j = k
  · subst e; exact hone j (Nat.le_refl _) hj2 hor
  · exact hone j (by omega) hj2 (.inr (hk j (by omega) hj2))

theorem sweepG_good [BEq α] [LawfulBEq α] (hR : Right C) (hE : BySides ev) (hl : v0.length = C.max.toNat + 1) {v : List α} (hb : BasedG C v0 v) {k : Nat} (hk : UpToG C (C.settleG ev v0 C.turn.length) v k) : ∀ m, m ≤ C.ands.length →
    BasedG C v0 (C.sweepG ev v m).1 ∧ UpToG C (C.settleG ev v0 C.turn.length) (C.sweepG ev v m).1 k ∧ (k < C.ands.length → atP C.turn k < m → UpToG C (C.settleG ev v0 C.turn.length) (C.sweepG ev v m).1 (k + 1)) ∧
    ((C.sweepG ev v m).2 = false → (C.sweepG ev v m).1 = v ∧ ∀ i, i < m → atP v (C.gateOf i) = ev v (atP C.ands i))
  | 0, _ => ⟨hb, hk, fun _ h => absurd h (Nat.not_lt_zero _), fun _ => ⟨rfl, fun i h => absurd h (Nat.not_lt_zero _)⟩⟩
  | m + 1, hm => by
    obtain ⟨h1, h2, h3, h4⟩ := sweepG_good hR hE hl hb hk m (by omega)
    obtain ⟨g1, g2⟩ := upToG_set hR hE hl h1 h2 (show m < C.ands.length by omega)
    refine ⟨basedG_set hR h1 (by omega), g1, fun hkn ht => ?_, fun hf => ?_⟩
    · refine g2 hkn ?_
      by_cases e : atP C.turn k = m
      · exact .inl e
      · exact .inr (h3 hkn (by omega) k (by omega) hkn)
    · have hf' : ((C.sweepG ev v m).2 || (atP (C.sweepG ev v m).1 (varN (atP C.ands m).1) != ev (C.sweepG ev v m).1 (atP C.ands m))) = false := hf
      rw [Bool.or_eq_false_iff] at hf'
      obtain ⟨e1, e2⟩ := h4 hf'.1
      have e3 := hf'.2
      rw [e1] at e3
      have e4 : atP v (varN (atP C.ands m).1) = ev v (atP C.ands m) := by simpa using e3
      refine ⟨?_, fun i hi => ?_⟩
      · show setV ev (C.sweepG ev v m).1 (atP C.ands m) = v
        rw [e1]
        refine list_ext_g (by unfold setV; rw [List.length_set]) (fun x _ => ?_)
        unfold setV
        rw [gSet (by rw [hb.len]; exact gateLt hR (by omega))]
        split
        · rename_i e; rw [e, e4]
        · rfl
      · by_cases e : i = m
        · subst e; exact e4
        · exact e2 i (by omega)

/-- Going over all Ands as often as there are Ands tells what the turn tells. -/
theorem iterG_good [BEq α] [LawfulBEq α] (hR : Right C) (hE : BySides ev) (hl : v0.length = C.max.toNat + 1) : ∀ (f : Nat) (v : List α) (k : Nat), BasedG C v0 v → UpToG C (C.settleG ev v0 C.turn.length) v k → C.ands.length ≤ k + f → C.iterG ev f v = C.settleG ev v0 C.turn.length
  | 0, v, k, hb, hk, hn => upToG_all hR hl hb (fun j hj hj2 => hk j (by omega) hj2)
  | f + 1, v, k, hb, hk, hn => by
    obtain ⟨h1, h2, h3, h4⟩ := sweepG_good hR hE hl hb hk C.ands.length (Nat.le_refl _)
    show (if (C.sweepG ev v C.ands.length).2 = true then Circ.iterG C ev f (C.sweepG ev v C.ands.length).1 else (C.sweepG ev v C.ands.length).1) = _
    split
    · refine iterG_good hR hE hl f _ (k + 1) h1 ?_ (by omega)
      by_cases hkn : k < C.ands.length
      · exact h3 hkn (turn_in hR hkn)
      · exact fun j hj hj2 => h2 j (by omega) hj2
    · rename_i hm
      obtain ⟨e1, e2⟩ := h4 (by simpa using hm)
      rw [e1]
      exact fixG_all hR hE hl hb e2
theorem iterG_vals [BEq α] [LawfulBEq α] (hR : Right C) (hE : BySides ev) (hl : v0.length = C.max.toNat + 1) : C.iterG ev C.ands.length v0 = C.settleG ev v0 C.turn.length :=
  iterG_good hR hE hl _ _ 0 ⟨hl, fun _ _ => rfl⟩ (fun _ h => absurd h (Nat.not_lt_zero _)) (by omega)
end
end Go.Proofs.Ytmbbcghhdjpgeaa

namespace Go.Proofs.Ytmbbcghhdjpgeaa
open Go.RowKit

def not3 (a : Int) : Int := if a = 0 then 1 else if a = 1 then 0 else 2
def both3 (a b : Int) : Int := if a = 0 ∨ b = 0 then 0 else if a = 1 ∧ b = 1 then 1 else 2
/-- What a literal of a variable that is there is. -/
def lit3 (v : List Int) (l : Int) : Int := if l % 2 = 1 then not3 (atP v (varN l)) else atP v (varN l)
def and3 (v : List Int) (t : Tri) : Int := both3 (lit3 v t.2.1) (lit3 v t.2.2)
theorem and3_sides : BySides and3 := fun v u t h1 h2 => by unfold and3 lit3; rw [h1, h2]
def putG {α : Type} [Inhabited α] (v : List α) (ls : List Int) (bs : List α) : Nat → List α
  | 0 => v
  | k + 1 => (putG v ls bs k).set (varN (atP ls k)) (atP bs k)
theorem putG_len {α : Type} [Inhabited α] (v : List α) (ls : List Int) (bs : List α) : ∀ k, (putG v ls bs k).length = v.length
  | 0 => rfl
  | k + 1 => by show ((putG v ls bs k).set _ _).length = _; rw [List.length_set, putG_len v ls bs k]

/-- b is a, or nothing is known of it. -/
def Les (a b : Int) : Prop := b = 2 ∨ b = a
theorem les_not {a b : Int} (h : Les a b) : Les (not3 a) (not3 b) := by
  rcases h with rfl | rfl
  · exact .inl rfl
  · exact .inr rfl
theorem les_both {a b c d : Int} (h : Les a c) (k : Les b d) : Les (both3 a b) (both3 c d) := by
  unfold Les both3 at *
  rcases h with rfl | rfl <;> rcases k with rfl | rfl
  · left; simp
  · by_cases h0 : d = 0
    · subst h0; right; simp
    · left; simp [h0]
  · by_cases h0 : c = 0
    · subst h0; right; simp
    · left; simp [h0]
  · right; rfl
/-- Of two lists the second tells no more. -/
structure LesL (v u : List Int) : Prop where
  len : v.length = u.length
  at' : ∀ i, i < v.length → Les (atP v i) (atP u i)
theorem les_out {v u : List Int} (h : LesL v u) (i : Nat) : Les (atP v i) (atP u i) := by
  by_cases hi : i < v.length
  · exact h.at' i hi
  · have e1 : atP v i = default := by simp [atP, List.getD_eq_getElem?_getD, List.getElem?_eq_none (show v.length ≤ i by omega)]
    have e2 : atP u i = default := by simp [atP, List.getD_eq_getElem?_getD, List.getElem?_eq_none (show u.length ≤ i by have := h.len; omega)]
    rw [e1, e2]; exact .inr rfl
theorem les_lit {v u : List Int} (h : LesL v u) (l : Int) : Les (lit3 v l) (lit3 u l) := by
  unfold lit3
  split
  · exact les_not (les_out h _)
  · exact les_out h _
theorem les_set {v u : List Int} (h : LesL v u) {a b : Int} (k : Les a b) (i : Nat) : LesL (v.set i a) (u.set i b) := by
  refine ⟨by rw [List.length_set, List.length_set]; exact h.len, fun j hj => ?_⟩
  rw [List.length_set] at hj
  by_cases e : j = i
  · subst e
    rw [at_set_same _ _ _ hj, at_set_same _ _ _ (by rw [← h.len]; exact hj)]
    exact k
  · rw [at_set_other _ _ _ _ (fun x => e x.symm), at_set_other _ _ _ _ (fun x => e x.symm)]
    exact h.at' j hj
theorem les_settle (C : Circ) {v u : List Int} (h : LesL v u) : ∀ k, LesL (C.settleG and3 v k) (C.settleG and3 u k)
  | 0 => h
  | k + 1 => by
    have ih := les_settle C h k
    exact les_set ih (les_both (les_lit ih _) (les_lit ih _)) _
theorem les_put {v u : List Int} (h : LesL v u) (ls : List Int) {bs cs : List Int} (k : LesL bs cs) : ∀ j, LesL (putG v ls bs j) (putG u ls cs j)
  | 0 => h
  | j + 1 => les_set (les_put h ls k j) (les_out k j) _

/-- Bools as values of three. -/
def enc3 (b : Bool) : Int := if b = true then 1 else 0
theorem enc_not (b : Bool) : not3 (enc3 b) = enc3 (!b) := by cases b <;> rfl
theorem enc_both (a b : Bool) : both3 (enc3 a) (enc3 b) = enc3 (a && b) := by cases a <;> cases b <;> rfl
theorem enc_at (v : List Bool) (i : Nat) : atP (v.map enc3) i = enc3 (atP v i) := by
  by_cases hi : i < v.length
  · exact atP_map _ _ _ hi
  · simp [atP, List.getD_eq_getElem?_getD, List.getElem?_eq_none (show v.length ≤ i by omega), enc3]
theorem enc_lit (v : List Bool) (l : Int) : lit3 (v.map enc3) l = enc3 (litV v l) := by
  unfold lit3 litV
  rw [enc_at]
  by_cases h : l % 2 = 1
  · rw [if_pos h, decide_eq_true h, enc_not]; congr 1; cases atP v (varN l) <;> rfl
  · rw [if_neg h, decide_eq_false h]; congr 1; cases atP v (varN l) <;> rfl
theorem enc_set (v : List Bool) (i : Nat) (b : Bool) : (v.map enc3).set i (enc3 b) = (v.set i b).map enc3 := by rw [List.map_set]
theorem enc_settle (C : Circ) (v : List Bool) : ∀ k, C.settleG and3 (v.map enc3) k = (C.settleN v k).map enc3
  | 0 => rfl
  | k + 1 => by
    show setV and3 (C.settleG and3 (v.map enc3) k) _ = (andV (C.settleN v k) _).map enc3
    rw [enc_settle C v k]
    unfold setV and3 andV andB
    rw [enc_lit, enc_lit, enc_both, enc_set]
theorem enc_put (v : List Bool) (ls : List Int) (bs : List Bool) : ∀ k, putG (v.map enc3) ls (bs.map enc3) k = (putN v ls bs k).map enc3
  | 0 => rfl
  | k + 1 => by
    show (putG (v.map enc3) ls (bs.map enc3) k).set _ _ = ((putN v ls bs k).set _ _).map enc3
    rw [enc_put v ls bs k, enc_at, enc_set]
end Go.Proofs.Ytmbbcghhdjpgeaa

namespace Go.Proofs.Ytmbbcghhdjpgeaa
open Go.RowKit

/-- Turned over as the program does it: what is none of three stays as it is. -/
def turnT (a : Int) : Int := if a = 0 then 1 else if a = 1 then 0 else a
def litT (v : List Int) (l : Int) : Int := if l % 2 = 1 then turnT (atP v (varN l)) else atP v (varN l)
def andT (v : List Int) (t : Tri) : Int := both3 (litT v t.2.1) (litT v t.2.2)
def Is3 (a : Int) : Prop := a = 0 ∨ a = 1 ∨ a = 2
def All3 (v : List Int) : Prop := ∀ x ∈ v, Is3 x
def all3B (v : List Int) : Bool := v.all (fun x => x == 0 || x == 1 || x == 2)
theorem all3_iff (v : List Int) : all3B v = true ↔ All3 v := by
  unfold all3B All3 Is3
  rw [List.all_eq_true]
  refine ⟨fun h x hx => ?_, fun h x hx => ?_⟩
  · have := h x hx
    simp only [Bool.or_eq_true, beq_iff_eq] at this
    omega
  · have := h x hx
    simp only [Bool.or_eq_true, beq_iff_eq]
    omega
theorem turn_not {a : Int} (h : Is3 a) : turnT a = not3 a := by rcases h with rfl | rfl | rfl <;> rfl
theorem is3_not (a : Int) : Is3 (not3 a) := by unfold not3 Is3; (repeat' split) <;> simp
theorem is3_both (a b : Int) : Is3 (both3 a b) := by unfold both3 Is3; (repeat' split) <;> simp
theorem all3_at {v : List Int} (h : All3 v) (i : Nat) : Is3 (atP v i) := by
  by_cases hi : i < v.length
  · exact h _ (atP_mem v i hi)
  · left; simp [atP, List.getD_eq_getElem?_getD, List.getElem?_eq_none (show v.length ≤ i by omega)]
theorem lit_T {v : List Int} (h : All3 v) (l : Int) : litT v l = lit3 v l := by
  unfold litT lit3; rw [turn_not (all3_at h _)]
theorem is3_lit {v : List Int} (h : All3 v) (l : Int) : Is3 (lit3 v l) := by
  unfold lit3; split
  · exact is3_not _
  · exact all3_at h _
theorem and_T {v : List Int} (h : All3 v) (t : Tri) : andT v t = and3 v t := by unfold andT and3; rw [lit_T h, lit_T h]
theorem all3_set {v : List Int} (h : All3 v) {a : Int} (ha : Is3 a) (i : Nat) : All3 (v.set i a) := fun x hx => by
  rcases List.mem_or_eq_of_mem_set hx with h1 | rfl
  · exact h x h1
  · exact ha
theorem all3_put {v : List Int} (h : All3 v) (ls : List Int) {bs : List Int} (hb : All3 bs) : ∀ k, All3 (putG v ls bs k)
  | 0 => h
  | k + 1 => all3_set (all3_put h ls hb k) (all3_at hb k) _
theorem all3_settle (C : Circ) {v : List Int} (h : All3 v) : ∀ k, All3 (C.settleG and3 v k)
  | 0 => h
  | k + 1 => all3_set (all3_settle C h k) (is3_both _ _) _
theorem settle_T (C : Circ) {v : List Int} (h : All3 v) : ∀ k, C.settleG andT v k = C.settleG and3 v k
  | 0 => rfl
  | k + 1 => by
    show setV andT (C.settleG andT v k) _ = setV and3 (C.settleG and3 v k) _
    rw [settle_T C h k]
    unfold setV
    rw [and_T (all3_settle C h k)]
theorem all3_zero (n : Nat) : All3 (List.replicate n 0) := fun _x hx => .inl (List.eq_of_mem_replicate hx)

def Circ.startTK (C : Circ) (st is : List Int) (k j : Nat) : List Int := putG (putG (List.replicate (C.max.toNat + 1) 0) C.ins is k) (C.lats.map (·.1)) st j
def Circ.startT (C : Circ) (st is : List Int) : List Int := C.startTK st is C.ins.length C.lats.length
/-- What the program settles, of whatever values. -/
def Circ.valsT (C : Circ) (st is : List Int) : List Int := C.settleG andT (C.startT st is) C.turn.length
/-- What is known of each variable. -/
def Circ.vals3 (C : Circ) (st is : List Int) : List Int := C.settleG and3 (C.startT st is) C.turn.length
theorem startT_len (C : Circ) (st is : List Int) : (C.startT st is).length = C.max.toNat + 1 := by
  unfold Circ.startT Circ.startTK; rw [putG_len, putG_len, List.length_replicate]
theorem valsT_len (C : Circ) (st is : List Int) : (C.valsT st is).length = C.max.toNat + 1 := by unfold Circ.valsT; rw [settleG_len, startT_len]
theorem vals3_len (C : Circ) (st is : List Int) : (C.vals3 st is).length = C.max.toNat + 1 := by unfold Circ.vals3; rw [settleG_len, startT_len]
theorem startT_all (C : Circ) {st is : List Int} (hs : All3 st) (hi : All3 is) : All3 (C.startT st is) := all3_put (all3_put (all3_zero _) _ hi _) _ hs _
theorem vals_T (C : Circ) {st is : List Int} (hs : All3 st) (hi : All3 is) : C.valsT st is = C.vals3 st is := settle_T C (startT_all C hs hi) _
theorem vals3_all (C : Circ) {st is : List Int} (hs : All3 st) (hi : All3 is) : All3 (C.vals3 st is) := all3_settle C (startT_all C hs hi) _
theorem iter_vals3 {C : Circ} (hR : Right C) (st is : List Int) : C.iterG and3 C.ands.length (C.startT st is) = C.vals3 st is := iterG_vals hR and3_sides (startT_len C st is)
theorem startTK_in (C : Circ) (st is : List Int) (k : Nat) : C.startTK st is (k + 1) 0 = (C.startTK st is k 0).set (varN (atP C.ins k)) (atP is k) := rfl
theorem startTK_lat (C : Circ) (st is : List Int) {j : Nat} (hj : j < C.lats.length) : C.startTK st is C.ins.length (j + 1) = (C.startTK st is C.ins.length j).set (varN (atP C.lats j).1) (atP st j) := by
  show (C.startTK st is C.ins.length j).set (varN (atP (C.lats.map (·.1)) j)) (atP st j) = _
  rw [atP_map _ _ _ hj]

/-- The error of a step of three values. -/
def Circ.ternI (C : Circ) (st is : List Int) : Int := if C.stepN st.length is.length ≠ 0 then C.stepN st.length is.length else if all3B st = true ∧ all3B is = true then 0 else 1
theorem ternI_zero {C : Circ} {st is : List Int} (h : C.ternI st is = 0) : C.checkI = 0 ∧ st.length = C.lats.length ∧ is.length = C.ins.length ∧ All3 st ∧ All3 is := by
  unfold Circ.ternI at h
  by_cases h1 : C.stepN st.length is.length = 0
  · rw [if_neg (fun k => k h1)] at h
    by_cases h2 : all3B st = true ∧ all3B is = true
    · unfold Circ.stepN at h1
      by_cases h3 : C.checkI = 0
      · rw [if_neg (fun k => k h3)] at h1
        by_cases h4 : st.length = C.lats.length ∧ is.length = C.ins.length
        · exact ⟨h3, h4.1, h4.2, (all3_iff _).1 h2.1, (all3_iff _).1 h2.2⟩
        · rw [if_neg h4] at h1; exact absurd h1 (by decide)
      · rw [if_pos h3] at h1; exact absurd h1 h3
    · rw [if_neg h2] at h; exact absurd h (by decide)
  · rw [if_pos h1] at h; exact absurd h h1
theorem ternI_good {C : Circ} {st is : List Int} (hc : C.checkI = 0) (h1 : st.length = C.lats.length) (h2 : is.length = C.ins.length) (h3 : All3 st) (h4 : All3 is) : C.ternI st is = 0 := by
  have e : C.stepN st.length is.length = 0 := by
    unfold Circ.stepN; rw [if_neg (fun k => k hc), if_pos ⟨h1, h2⟩]
  unfold Circ.ternI
  rw [if_neg (fun k => k e), if_pos ⟨(all3_iff _).2 h3, (all3_iff _).2 h4⟩]
def Circ.valsE3 (C : Circ) (st is : List Int) : List Int := if C.ternI st is = 0 then C.vals3 st is else []

/-- All of them together. -/
def all3K (ls : List Int) : Nat → Int
  | 0 => 1
  | k + 1 => both3 (all3K ls k) (atP ls k)
def allOf (ls : List Int) : Int := all3K ls ls.length
theorem all3K_is (ls : List Int) : ∀ k, Is3 (all3K ls k)
  | 0 => .inr (.inl rfl)
  | _ + 1 => is3_both _ _
structure Row3 where
  next : List Int
  bads : List Int
  holds : Int
def Circ.row3 (C : Circ) (v : List Int) : Row3 := ⟨C.nexts.map (lit3 v), C.badsOr.map (lit3 v), allOf (C.cons.map (lit3 v))⟩
def Circ.stepE3 (C : Circ) (st is : List Int) : Row3 := if C.ternI st is = 0 then C.row3 (C.vals3 st is) else ⟨[], [], 0⟩

/-- Less known: no more comes out. -/
theorem les_all {a b : List Int} (h : LesL a b) : ∀ k, Les (all3K a k) (all3K b k)
  | 0 => .inr rfl
  | k + 1 => les_both (les_all h k) (les_out h k)
theorem les_map {v u : List Int} (h : LesL v u) (ls : List Int) : LesL (ls.map (lit3 v)) (ls.map (lit3 u)) := by
  refine ⟨by rw [List.length_map, List.length_map], fun i hi => ?_⟩
  rw [List.length_map] at hi
  rw [atP_map _ _ _ hi, atP_map _ _ _ hi]
  exact les_lit h _
theorem les_zero (n : Nat) : LesL (List.replicate n 0) (List.replicate n 0) := ⟨rfl, fun _ _ => .inr rfl⟩
theorem les_vals (C : Circ) {st is s x : List Int} (hs : LesL st s) (hi : LesL is x) : LesL (C.vals3 st is) (C.vals3 s x) :=
  les_settle C (les_put (les_put (les_zero _) _ hi _) _ hs _) _
theorem les_row (C : Circ) {v u : List Int} (h : LesL v u) : LesL (C.row3 v).next (C.row3 u).next ∧ LesL (C.row3 v).bads (C.row3 u).bads ∧ Les (C.row3 v).holds (C.row3 u).holds := by
  refine ⟨les_map h _, les_map h _, ?_⟩
  show Les (all3K _ (C.cons.map (lit3 v)).length) (all3K _ (C.cons.map (lit3 u)).length)
  rw [List.length_map, List.length_map]
  exact les_all (les_map h _) _

/-- All known: as bools. -/
theorem enc_vals (C : Circ) (st is : List Bool) : C.vals3 (st.map enc3) (is.map enc3) = (C.vals st is).map enc3 := by
  have e : C.startT (st.map enc3) (is.map enc3) = (C.start st is).map enc3 := by
    unfold Circ.startT Circ.startTK Circ.start Circ.startK
    have e0 : (List.replicate (C.max.toNat + 1) (0 : Int)) = (List.replicate (C.max.toNat + 1) false).map enc3 := by rw [List.map_replicate]; rfl
    rw [e0, enc_put, enc_put]
  unfold Circ.vals3 Circ.vals
  rw [e, enc_settle]
theorem enc_map (v : List Bool) (ls : List Int) : ls.map (lit3 (v.map enc3)) = (ls.map (litV v)).map enc3 := by
  rw [List.map_map]; exact List.map_congr_left (fun l _ => enc_lit v l)
theorem enc_all (b : List Bool) : ∀ k, k ≤ b.length → all3K (b.map enc3) k = enc3 ((b.take k).all id)
  | 0, _ => by simp [all3K, enc3]
  | k + 1, h => by
    show both3 (all3K (b.map enc3) k) (atP (b.map enc3) k) = _
    rw [enc_all b k (by omega), enc_at, enc_both, List.take_add_one, List.all_append, atP_eq _ _ (show k < b.length by omega), List.getElem?_eq_getElem (show k < b.length by omega)]
    simp
theorem enc_row (C : Circ) (v : List Bool) : C.row3 (v.map enc3) = ⟨(C.rowV v).next.map enc3, (C.rowV v).bads.map enc3, enc3 (C.rowV v).holds⟩ := by
  unfold Circ.row3 Circ.rowV allOf
  rw [enc_map, enc_map, enc_map, enc_all _ _ (by rw [List.length_map]; exact Nat.le_refl _)]
  congr 2
  rw [List.length_map, List.take_of_length_le (by rw [List.length_map]; exact Nat.le_refl _), List.all_map]
  rfl
theorem is3_enc (b : Bool) : Is3 (enc3 b) := by cases b <;> simp [Is3, enc3]
theorem all3_enc (b : List Bool) : All3 (b.map enc3) := fun x hx => by
  obtain ⟨y, -, rfl⟩ := List.mem_map.1 hx
  exact is3_enc y
end Go.Proofs.Ytmbbcghhdjpgeaa

namespace Go.Proofs.Ytmbbcghhdjpgeaa
open Go.RowKit

/-- A list of values that can be read. -/
def RowT (w : World) (a : Option Addr) (bs : List Int) : Prop := RowC w a (bs.map (Value.int .i64))
theorem RowT.below {w w' : World} {a : Option Addr} {bs : List Int} (h : RowT w a bs) (hb : Below w.heap.size w w') : RowT w' a bs := RowC.below h hb
theorem RowT.addr {w : World} {a : Option Addr} {bs : List Int} (h : RowT w a bs) (hp : 0 < bs.length) : ∃ b off, a = some ⟨b, off, none⟩ ∧ b < w.heap.size ∧ ∀ i, i < bs.length → w.cell? ⟨b, off + i, none⟩ = some (.int .i64 (atP bs i)) := by
  obtain ⟨b, off, e, hlt, hc⟩ := RowC.addr h (by rw [List.length_map]; exact hp)
  exact ⟨b, off, e, hlt, fun i hi => hc i _ (by rw [List.getElem?_map, List.getElem?_eq_getElem hi, atP_eq _ _ hi]; rfl)⟩

/-- Values that the call made. -/
def NewTerns (w : World) (bs : List Int) (v : Value) (w' : World) : Prop := w'.ownsRow w.heap.size 3 1 v bs.length (bs.map (Value.int .i64)) ∧ Below w.heap.size w w'
theorem rowT_own {w : World} {base n : Nat} {e : TypeId} {v : Value} {bs : List Int} (h : w.ownsRow base e 1 v n (bs.map (Value.int .i64))) : ∃ a k, v = .slice a n k ∧ RowT w a bs ∧ bs.length = n := by
  obtain ⟨a, k, rfl⟩ := own_form h
  have h2 := rowC_own' h
  refine ⟨a, k, rfl, h2.1, ?_⟩
  have hl := h.1
  simpa using hl

/-- The signals that can be read. -/
structure SigT (w : World) (g n : Nat) (bs : List Int) : Prop where
  row : ∀ i, i < bs.length → w.cell? ⟨g, i, none⟩ = some (.int .i64 (atP bs i))
  len : bs.length = n
  le : n ≤ 10000
  lt : g < w.heap.size
theorem SigT.below {w w' : World} {g n : Nat} {bs : List Int} (h : SigT w g n bs) (hb : Below w.heap.size w w') : SigT w' g n bs :=
  ⟨fun i hi => (hb.cell (p := ⟨g, i, none⟩) h.lt).trans (h.row i hi), h.len, h.le, Nat.lt_of_lt_of_le h.lt hb.size⟩

/-- The box of the signals: how values are reckoned with, and where they lie. -/
def TerBox (w : World) (b : Nat) (a : Option Addr) (n k : Nat) : Prop := w.heap[b]? = some (.cells #[.func (.func 96) #[] #[], .func (.func 95) #[] #[], .slice a n k] 116 (0, 0))
theorem TerBox.lt {w : World} {b : Nat} {a : Option Addr} {n k : Nat} (h : TerBox w b a n k) : b < w.heap.size := (Array.getElem?_eq_some_iff.1 h).1
theorem TerBox.below {w w' : World} {b : Nat} {a : Option Addr} {n k : Nat} (h : TerBox w b a n k) (hb : Below w.heap.size w w') : TerBox w' b a n k := (hb.block b h.lt).trans h
theorem TerBox.cells {w : World} {b : Nat} {a : Option Addr} {n k : Nat} (h : TerBox w b a n k) : w.cell? ⟨b, 0, none⟩ = some (.func (.func 96) #[] #[]) ∧ w.cell? ⟨b, 1, none⟩ = some (.func (.func 95) #[] #[]) ∧ w.cell? ⟨b, 2, none⟩ = some (.slice a n k) :=
  ⟨cell_of_row _ _ 0 _ _ (0, 0) h, cell_of_row _ _ 1 _ _ (0, 0) h, cell_of_row _ _ 2 _ _ (0, 0) h⟩
theorem rowT_sig {w : World} {g n : Nat} {bs : List Int} (h : SigT w g n bs) : RowT w (some ⟨g, 0, none⟩) bs := by
  refine .inr ⟨_, rfl, fun j u hu => ?_⟩
  rw [List.getElem?_map] at hu
  have hi : j < bs.length := by
    rcases Nat.lt_or_ge j bs.length with h | h
    · exact h
    · rw [List.getElem?_eq_none h] at hu; cases hu
  rw [List.getElem?_eq_getElem hi] at hu
  have := h.row j hi
  rw [atP_eq _ _ hi] at this
  cases hu
  rw [add_plain, Nat.zero_add]
  exact this
structure SigQ (w : World) (b : Nat) (a : Option Addr) (n k : Nat) (bs : List Int) : Prop where
  box : TerBox w b a n k
  row : RowT w a bs
  len : bs.length = n
  le : n ≤ 10000
theorem SigQ.below {w w' : World} {b : Nat} {a : Option Addr} {n k : Nat} {bs : List Int} (h : SigQ w b a n k bs) (hb : Below w.heap.size w w') : SigQ w' b a n k bs := ⟨h.box.below hb, h.row.below hb, h.len, h.le⟩

set_option maxHeartbeats 400000 in
theorem tNot_any (x : Int) (w : World) : Calls Try.prog 96 #[.int .i64 x] w fun e w' => e = .returned (.int .i64 (turnT x)) ∧ w' = w := by
  unfold turnT
  by_cases h0 : x = 0
  · subst h0
    go_enter Try.func96, Try.ntmps96
    go_wp2
    go_ret
    exact ⟨rfl, rfl⟩
  · have b0 : (x == 0) = false := by simpa using h0
    rw [if_neg h0]
    by_cases h1 : x = 1
    · subst h1
      go_enter Try.func96, Try.ntmps96
      go_wp2
      go_ret
      exact ⟨rfl, rfl⟩
    · have b1 : (x == 1) = false := by simpa using h1
      rw [if_neg h1]
      go_enter Try.func96, Try.ntmps96
      go_wp2
      go_ret
      exact ⟨rfl, rfl⟩
set_option maxHeartbeats 1000000 in
theorem tBoth_any (x y : Int) (w : World) : Calls Try.prog 95 #[.int .i64 x, .int .i64 y] w fun e w' => e = .returned (.int .i64 (both3 x y)) ∧ w' = w := by
  unfold both3
  by_cases h0 : x = 0
  · subst h0
    rw [if_pos (Or.inl rfl)]
    go_enter Try.func95, Try.ntmps95
    go_wp2
    go_ret
    exact ⟨rfl, rfl⟩
  · have b0 : (x == 0) = false := by simpa using h0
    by_cases h1 : y = 0
    · subst h1
      rw [if_pos (Or.inr rfl)]
      go_enter Try.func95, Try.ntmps95
      go_wp2
      go_ret
      exact ⟨rfl, rfl⟩
    · have b1 : (y == 0) = false := by simpa using h1
      rw [if_neg (by omega)]
      by_cases h2 : x = 1
      · subst h2
        by_cases h3 : y = 1
        · subst h3
          rw [if_pos ⟨rfl, rfl⟩]
          go_enter Try.func95, Try.ntmps95
          go_wp2
          go_ret
          exact ⟨rfl, rfl⟩
        · have b3 : (y == 1) = false := by simpa using h3
          rw [if_neg (fun h => h3 h.2)]
          go_enter Try.func95, Try.ntmps95
          go_wp2
          go_ret
          exact ⟨rfl, rfl⟩
      · have b2 : (x == 1) = false := by simpa using h2
        rw [if_neg (fun h => h2 h.1)]
        go_enter Try.func95, Try.ntmps95
        go_wp2
        go_ret
        exact ⟨rfl, rfl⟩
theorem litT_odd (v : List Int) {l : Int} (h : l % 2 = 1) : litT v l = turnT (atP v (varN l)) := by unfold litT; rw [if_pos h]
theorem litT_even (v : List Int) {l : Int} (h : l % 2 = 0) : litT v l = atP v (varN l) := by unfold litT; rw [if_neg (by omega)]

set_option maxRecDepth 100000 in
set_option maxHeartbeats 1000000 in
theorem tLit_any (sb : Nat) (sa : Option Addr) (n sk : Nat) (bs : List Int) (l : Int) (w : World) (h : SigQ w sb sa n sk bs) (hl : 0 ≤ l ∧ varN l < n) :
    Calls Try.prog 71 #[.pointer (some ⟨sb, 0, none⟩), .int .i64 l] w fun e w' => e = .returned (.int .i64 (litT bs l)) ∧ w' = w := by
  obtain ⟨h0, hv⟩ := hl
  obtain ⟨gb, off, rfl, -, hcell⟩ := h.row.addr (by rw [h.len]; omega)
  have hc := hcell (varN l) (by rw [h.len]; exact hv)
  have hq := tdiv_two h0
  have hm := tmod_2 h0
  have hn := h.le
  have HO := hide (fun h => litT_odd bs (l := l) h)
  have HE := hide (fun h => litT_even bs (l := l) h)
  obtain ⟨c0, c1, c2⟩ := h.box.cells
  generalize litT bs l = r at HO HE ⊢
  generalize varN l = v at hq hc hv HO HE ⊢
  generalize atP bs v = x at hc HO HE ⊢
  have hy : l % 2 = 0 ∨ l % 2 = 1 := by omega
  generalize l % 2 = y at hm hy HO HE ⊢
  clear h hcell
  rcases hy with rfl | rfl
  · obtain rfl := HE.out rfl
    clear HO HE
    go_enter Try.func71, Try.ntmps71
    go_wp2
    go_ret
    exact ⟨rfl, rfl⟩
  · obtain rfl := HO.out rfl
    clear HO HE
    have HN := hide (fun W => tNot_any x W)
    go_enter Try.func71, Try.ntmps71
    go_wp2_with (go_at_call 96; refine (HN.out _).mono ?_; rintro e w' ⟨rfl, hw'⟩; obtain rfl := hw'.symm)
    go_ret
    exact ⟨rfl, rfl⟩

set_option maxRecDepth 100000 in
set_option maxHeartbeats 1000000 in
theorem tNext_any (sb : Nat) (sa : Option Addr) (n sk : Nat) (bs : List Int) (t : Tri) (w : World) (h : SigQ w sb sa n sk bs) (hl : LitIn n t.2.1) :
    Calls Try.prog 69 #[.pointer (some ⟨sb, 0, none⟩), .agg #[.int .i64 t.1, .int .i64 t.2.1, .int .i64 t.2.2]] w fun e w' => e = .returned (.int .i64 (litT bs t.2.1)) ∧ Below w.heap.size w w' := by
  obtain ⟨x0, x1, x2⟩ := t
  dsimp only at hl ⊢
  have HG := hide (tLit_any sb sa n sk bs x1 (w.alloc (.cells #[.int .i64 x0, .int .i64 x1, .int .i64 x2] 88)) (h.below (below_alloc w _)) ⟨hl.1, hl.2.2⟩)
  have hend : Hid (Below w.heap.size w (w.alloc (.cells #[.int .i64 x0, .int .i64 x1, .int .i64 x2] 88))) := below_alloc w _
  clear h hl
  go_enter Try.func69, Try.ntmps69
  go_wp2_with (go_at_call 71; refine HG.out.mono ?_; rintro e w' ⟨rfl, hw'⟩; obtain rfl := hw'.symm)
  go_ret
  exact ⟨rfl, hend.out⟩

/-- Values while they are filled. -/
structure TerMk (w0 : World) (g m : Nat) (bs : List Int) (wr : World) : Prop where
  own : wr.ownsRow w0.heap.size 3 1 (.slice (some ⟨g, 0, none⟩) m m) m (bs.map (Value.int .i64))
  below : Below w0.heap.size w0 wr
theorem TerMk.set {w0 wr : World} {g m : Nat} {bs : List Int} (h : TerMk w0 g m bs wr) (i : Nat) (x : Int) : TerMk w0 g m (bs.set i x) (wr.setCell ⟨g, i, none⟩ (.int .i64 x)) := by
  obtain ⟨h1, h2⟩ := h.own.stored i (.int .i64 x)
  have hgb := (h.own.lt g rfl).1
  exact ⟨by rw [List.map_set]; exact h1, h.below.grown h2 h.below.size (fun k hk => by cases hk; omega)⟩
theorem TerMk.then {w0 wr w' : World} {g m : Nat} {bs : List Int} (h : TerMk w0 g m bs wr) (hb : Below wr.heap.size wr w') : TerMk w0 g m bs w' := ⟨own_below h.own hb, belowThen h.below hb⟩

set_option maxRecDepth 100000 in
set_option maxHeartbeats 1000000 in
theorem teachInt_any (sb : Nat) (sa : Option Addr) (n sk : Nat) (bs : List Int) (la : Option Addr) (m lc : Nat) (xs : List Int) (w : World) (h : SigQ w sb sa n sk bs) (hr : RowK .i64 w la xs) (hx : xs.length = m) (hm : m ≤ 10000) (hin : ∀ l ∈ xs, LitIn n l) :
    Calls Try.prog 70 #[.slice la m lc, .func (.func 71) #[.pointer (some ⟨sb, 0, none⟩)] #[]] w fun e w' => ∃ v, e = .returned v ∧ NewTerns w (xs.map (litT bs)) v w' := by
  obtain ⟨i0, hi, hz0, hz1, hz2⟩ := info_parts infoInt
  have HH := hide h
  have HR := hide hr
  have HX := hide hx
  have HI := hide hin
  generalize hP : (fun (e : Ending) (w' : World) => ∃ v, e = .returned v ∧ NewTerns w (xs.map (litT bs)) v w') = Post
  have HP := hide hP
  clear h hr hx hin hP
  go_enter Try.func70, Try.ntmps70
  go_wp2_with (first | (at_make; refine wpList_make_full _ rfl _ _ 22 rfl w.heap.size 3 i0 (.int .i64 0) 1 Try.underlying22 hi hz0 hz1 .i64 .i64 _ _ m rfl rfl (by first | rfl | omega) (by first | rfl | omega) (by rw [hz2]; omega) (by unfold maxLen; omega) (by simp) ?_; intro w2 hown hg2; rw [madeI] at hown; have HM0 : Hid (TerMk w w.heap.size m (List.replicate m 0) w2) := ⟨hown, (Below.refl _ _).grown hg2 (Nat.le_refl _) (fun k hk => by cases hk)⟩; clear hown hg2))
  go_loopw [6, 7, 13] (fun _ _ i wr => ∃ (k : Nat), i = .int .i64 k ∧ k ≤ m ∧ Hid (TerMk w w.heap.size m (doneK (litT bs) 0 xs k) wr)) (fun _ _ i _ => m - (intOf i).toNat)
  case atStart => exact ⟨0, rfl, Nat.zero_le _, by rw [doneK_zero, HX.out]; exact HM0.out⟩
  case round =>
    clear HM0
    obtain ⟨k, rfl, hk, HF⟩ := hrel
    by_cases hlt : k < m
    · obtain ⟨b, off, rfl, hbw, hcell⟩ := HR.out.addr (by rw [HX.out]; omega)
      have hc0 := (HF.out.below.cell (p := ⟨b, off + k, none⟩) hbw).trans (hcell k (by rw [HX.out]; exact hlt))
      rw [atP_getD] at hc0
      have hli := hide (HI.out _ (atP_mem xs k (by rw [HX.out]; exact hlt)))
      have HS := hide (doneK_succ (litT bs) 0 xs k (by rw [HX.out]; exact hlt))
      have hcm := row_at HF.out.own k hlt
      have hfm := HF.out.own.frozenAt k
      generalize atP (doneK (litT bs) 0 xs k) k = y0 at hcm
      generalize atP xs k = x at hc0 hli HS
      have HG := hide (tLit_any sb sa n sk bs x wr (HH.out.below HF.out.below) ⟨hli.out.1, hli.out.2.2⟩)
      clear hcell
      go_wp2_with (go_at_call 71; refine HG.out.mono ?_; rintro e w3 ⟨rfl, hw3⟩; obtain rfl := hw3.symm)
      go_roundw
      case rel => exact ⟨k + 1, by go_num, by omega, by rw [HS.out]; exact HF.out.set k _⟩
      case measure => simp [intOf]; omega
    · obtain rfl : k = m := by omega
      have hfin : Hid (Post (.returned (.slice (some ⟨w.heap.size, 0, none⟩) k k)) wr) := by
        show Post _ wr
        rw [← HP.out]
        refine ⟨_, rfl, ?_, HF.out.below⟩
        have := HF.out.own
        rw [doneK_all _ _ _ HX.out] at this
        rw [List.length_map, HX.out]
        exact this
      go_wp2
      exact hfin.out

set_option maxRecDepth 100000 in
set_option maxHeartbeats 1000000 in
theorem teachLatch_any (sb : Nat) (sa : Option Addr) (n sk : Nat) (bs : List Int) (la : Option Addr) (m lc : Nat) (xs : List Tri) (w : World) (h : SigQ w sb sa n sk bs) (hr : RowC w la (cellsT xs)) (hx : xs.length = m) (hm : m ≤ 10000) (hin : ∀ t ∈ xs, LitIn n t.2.1) :
    Calls Try.prog 68 #[.slice la m lc, .func (.func 69) #[.pointer (some ⟨sb, 0, none⟩)] #[]] w fun e w' => ∃ v, e = .returned v ∧ NewTerns w (xs.map (fun t => litT bs t.2.1)) v w' := by
  obtain ⟨i0, hi, hz0, hz1, hz2⟩ := info_parts infoInt
  have HH := hide h
  have HR := hide hr
  have HX := hide hx
  have HI := hide hin
  generalize hP : (fun (e : Ending) (w' : World) => ∃ v, e = .returned v ∧ NewTerns w (xs.map (fun t => litT bs t.2.1)) v w') = Post
  have HP := hide hP
  clear h hr hx hin hP
  go_enter Try.func68, Try.ntmps68
  go_wp2_with (first | (at_make; refine wpList_make_full _ rfl _ _ 22 rfl w.heap.size 3 i0 (.int .i64 0) 1 Try.underlying22 hi hz0 hz1 .i64 .i64 _ _ m rfl rfl (by first | rfl | omega) (by first | rfl | omega) (by rw [hz2]; omega) (by unfold maxLen; omega) (by simp) ?_; intro w2 hown hg2; rw [madeI] at hown; have HM0 : Hid (TerMk w w.heap.size m (List.replicate m 0) w2) := ⟨hown, (Below.refl _ _).grown hg2 (Nat.le_refl _) (fun k hk => by cases hk)⟩; clear hown hg2))
  go_loopw [6, 7, 13] (fun _ _ i wr => ∃ (k : Nat), i = .int .i64 k ∧ k ≤ m ∧ Hid (TerMk w w.heap.size m (doneK (fun t : Tri => litT bs t.2.1) 0 xs k) wr)) (fun _ _ i _ => m - (intOf i).toNat)
  case atStart => exact ⟨0, rfl, Nat.zero_le _, by rw [doneK_zero, HX.out]; exact HM0.out⟩
  case round =>
    clear HM0
    obtain ⟨k, rfl, hk, HF⟩ := hrel
    by_cases hlt : k < m
    · obtain ⟨b, off, rfl, hbw, hcell⟩ := HR.out.addr (by rw [cellsT_len, HX.out]; omega)
      have hat := cellsT_at xs k (by rw [HX.out]; exact hlt)
      have hc0 := (HF.out.below.cell (p := ⟨b, off + k * 3, none⟩) hbw).trans (hcell _ _ hat.1)
      have hc1 := (HF.out.below.cell (p := ⟨b, off + k * 3 + 1, none⟩) hbw).trans (hcell _ _ hat.2.1)
      have hc2 := (HF.out.below.cell (p := ⟨b, off + k * 3 + 2, none⟩) hbw).trans (hcell _ _ hat.2.2)
      have hli := hide (HI.out _ (atP_mem xs k (by rw [HX.out]; exact hlt)))
      have HS := hide (doneK_succ (fun t : Tri => litT bs t.2.1) 0 xs k (by rw [HX.out]; exact hlt))
      generalize atP xs k = x at hc0 hc1 hc2 hli HS
      obtain ⟨x0, x1, x2⟩ := x
      dsimp only at hc0 hc1 hc2
      have HF1 : Hid (TerMk w w.heap.size m (doneK (fun t : Tri => litT bs t.2.1) 0 xs k) (wr.alloc (.cells #[.int .i64 x0, .int .i64 x1, .int .i64 x2] 88))) := HF.out.then (below_alloc wr _)
      have hr0 : (wr.alloc (.cells #[.int .i64 x0, .int .i64 x1, .int .i64 x2] 88)).cell? ⟨wr.heap.size, 0, none⟩ = some (.int .i64 x0) := cell_of_row _ _ 0 _ _ (0, 0) (heap_alloc_new wr _)
      have hr1 : (wr.alloc (.cells #[.int .i64 x0, .int .i64 x1, .int .i64 x2] 88)).cell? ⟨wr.heap.size, 1, none⟩ = some (.int .i64 x1) := cell_of_row _ _ 1 _ _ (0, 0) (heap_alloc_new wr _)
      have hr2 : (wr.alloc (.cells #[.int .i64 x0, .int .i64 x1, .int .i64 x2] 88)).cell? ⟨wr.heap.size, 2, none⟩ = some (.int .i64 x2) := cell_of_row _ _ 2 _ _ (0, 0) (heap_alloc_new wr _)
      have HG := hide (tNext_any sb sa n sk bs (x0, x1, x2) (wr.alloc (.cells #[.int .i64 x0, .int .i64 x1, .int .i64 x2] 88)) ((HH.out.below HF.out.below).below (below_alloc wr _)) hli.out)
      clear hcell hat
      go_wp2_with (go_at_call 69; refine HG.out.mono ?_; rintro e w3 ⟨rfl, hb3⟩; have HF3 := hide (HF1.out.then hb3); have hcm := row_at HF3.out.own k hlt; have hfm := HF3.out.own.frozenAt k; clear hb3)
      go_roundw
      case rel => exact ⟨k + 1, by go_num, by omega, by rw [HS.out]; exact HF3.out.set k _⟩
      case measure => simp [intOf]; omega
    · obtain rfl : k = m := by omega
      have hfin : Hid (Post (.returned (.slice (some ⟨w.heap.size, 0, none⟩) k k)) wr) := by
        show Post _ wr
        rw [← HP.out]
        refine ⟨_, rfl, ?_, HF.out.below⟩
        have := HF.out.own
        rw [doneK_all _ _ _ HX.out] at this
        rw [List.length_map, HX.out]
        exact this
      go_wp2
      exact hfin.out
end Go.Proofs.Ytmbbcghhdjpgeaa

namespace Go.Proofs.Ytmbbcghhdjpgeaa
open Go.RowKit

/-- The signals while they are settled, and the circuit. -/
structure TerMid (w1 : World) (b : Nat) (c : CV) (g n : Nat) (bs : List Int) (wr : World) : Prop where
  own : wr.ownsRow w1.heap.size 3 1 (.slice (some ⟨g, 0, none⟩) n n) n (bs.map (Value.int .i64))
  box : Box wr b c
  blt : b < w1.heap.size
  below : Below w1.heap.size w1 wr
theorem TerMid.gLt {w1 wr : World} {b : Nat} {c : CV} {g n : Nat} {bs : List Int} (h : TerMid w1 b c g n bs wr) : w1.heap.size ≤ g ∧ g < wr.heap.size := h.own.lt g rfl
theorem TerMid.len {w1 wr : World} {b : Nat} {c : CV} {g n : Nat} {bs : List Int} (h : TerMid w1 b c g n bs wr) : bs.length = n := by
  have hl := h.own.1
  simpa using hl
theorem TerMid.then {w1 wr w' : World} {b : Nat} {c : CV} {g n : Nat} {bs : List Int} (h : TerMid w1 b c g n bs wr) (hb : Below wr.heap.size wr w') : TerMid w1 b c g n bs w' :=
  ⟨own_below h.own hb, h.box.below hb, h.blt, belowThen h.below hb⟩
theorem TerMid.set {w1 wr : World} {b : Nat} {c : CV} {g n : Nat} {bs : List Int} (h : TerMid w1 b c g n bs wr) (i : Nat) (x : Int) : TerMid w1 b c g n (bs.set i x) (wr.setCell ⟨g, i, none⟩ (.int .i64 x)) := by
  obtain ⟨h1, h2⟩ := h.own.stored i (.int .i64 x)
  have hg := h.gLt
  have hb := h.blt
  exact ⟨by rw [List.map_set]; exact h1, (heap_setCell_other wr ⟨g, i, none⟩ b _ (by show b ≠ g; omega)).trans h.box, h.blt, h.below.grown h2 h.below.size (fun k hk => by cases hk; omega)⟩
theorem TerMid.sig {w1 wr : World} {b : Nat} {c : CV} {g n : Nat} {bs : List Int} (h : TerMid w1 b c g n bs wr) (hn : n ≤ 10000) : SigT wr g n bs :=
  ⟨fun i hi => row_at h.own i (by rw [← h.len]; exact hi), h.len, hn, h.gLt.2⟩
theorem TerMid.at {w1 wr : World} {b : Nat} {c : CV} {g n : Nat} {bs : List Int} (h : TerMid w1 b c g n bs wr) {i : Nat} (hi : i < n) : wr.cell? ⟨g, i, none⟩ = some (.int .i64 (atP bs i)) ∧ wr.frozen? ⟨g, i, none⟩ = false := ⟨row_at h.own i hi, h.own.frozenAt i⟩

/-- The same, and the signals' box. -/
structure TerPid (w1 : World) (b : Nat) (c : CV) (sb g n : Nat) (bs : List Int) (wr : World) : Prop where
  mid : TerMid w1 b c g n bs wr
  box : TerBox wr sb (some ⟨g, 0, none⟩) n n
  ne : sb ≠ g
theorem TerPid.then {w1 wr w' : World} {b : Nat} {c : CV} {sb g n : Nat} {bs : List Int} (h : TerPid w1 b c sb g n bs wr) (hb : Below wr.heap.size wr w') : TerPid w1 b c sb g n bs w' := ⟨h.mid.then hb, h.box.below hb, h.ne⟩
theorem TerPid.set {w1 wr : World} {b : Nat} {c : CV} {sb g n : Nat} {bs : List Int} (h : TerPid w1 b c sb g n bs wr) (i : Nat) (x : Int) : TerPid w1 b c sb g n (bs.set i x) (wr.setCell ⟨g, i, none⟩ (.int .i64 x)) :=
  ⟨h.mid.set i x, (heap_setCell_other wr ⟨g, i, none⟩ sb _ h.ne).trans h.box, h.ne⟩
theorem TerPid.sig {w1 wr : World} {b : Nat} {c : CV} {sb g n : Nat} {bs : List Int} (h : TerPid w1 b c sb g n bs wr) (hn : n ≤ 10000) : SigQ wr sb (some ⟨g, 0, none⟩) n n bs := ⟨h.box, rowT_sig (h.mid.sig hn), h.mid.len, hn⟩

set_option maxRecDepth 100000 in
set_option maxHeartbeats 2000000 in
theorem tAnd_any (w0 : World) (b0 : Nat) (c : CV) (sb g n : Nat) (bs : List Int) (t : Tri) (w : World) (h : TerPid w0 b0 c sb g n bs w) (hn : n ≤ 10000) (ht : TriIn n t) :
    Calls Try.prog 106 #[.pointer (some ⟨sb, 0, none⟩), .agg #[.int .i64 t.1, .int .i64 t.2.1, .int .i64 t.2.2]] w fun e w' => e = .returned (.tuple #[]) ∧ TerPid w0 b0 c sb g n (setV andT bs t) w' := by
  have HE : Hid (setV andT bs t = bs.set (varN t.1) (andT bs t)) := rfl
  have HAB : Hid (∀ A B, litT bs t.2.1 = A → litT bs t.2.2 = B → andT bs t = (both3 A B)) := fun A B h1 h2 => by rw [← h1, ← h2]; rfl
  rw [HE.out]
  obtain ⟨x0, x1, x2⟩ := t
  obtain ⟨l0, l1, l2⟩ := ht
  dsimp only at l0 l1 l2 HAB ⊢
  have S1 : TerPid w0 b0 c sb g n bs (w.alloc (.cells #[.int .i64 x0, .int .i64 x1, .int .i64 x2] 58)) := h.then (below_alloc w _)
  have hr0 : (w.alloc (.cells #[.int .i64 x0, .int .i64 x1, .int .i64 x2] 58)).cell? ⟨w.heap.size, 0, none⟩ = some (.int .i64 x0) := cell_of_row _ _ 0 _ _ (0, 0) (heap_alloc_new w _)
  have hr1 : (w.alloc (.cells #[.int .i64 x0, .int .i64 x1, .int .i64 x2] 58)).cell? ⟨w.heap.size, 1, none⟩ = some (.int .i64 x1) := cell_of_row _ _ 1 _ _ (0, 0) (heap_alloc_new w _)
  have hr2 : (w.alloc (.cells #[.int .i64 x0, .int .i64 x1, .int .i64 x2] 58)).cell? ⟨w.heap.size, 2, none⟩ = some (.int .i64 x2) := cell_of_row _ _ 2 _ _ (0, 0) (heap_alloc_new w _)
  have hv := l0.2.2
  have hq := tdiv_two l0.1
  have HA : Hid (∀ q, Calls Try.prog 71 #[.pointer (some ⟨sb, 0, none⟩), .int .i64 x1] ((w.alloc (.cells #[.int .i64 x0, .int .i64 x1, .int .i64 x2] 58)).drewN q) fun e w' => e = .returned (.int .i64 (litT bs x1)) ∧ w' = (w.alloc (.cells #[.int .i64 x0, .int .i64 x1, .int .i64 x2] 58)).drewN q) := fun q => tLit_any sb _ n n bs x1 _ (((S1.then (Drew.below ⟨q, rfl⟩)).sig hn)) ⟨l1.1, l1.2.2⟩
  have HB : Hid (∀ q, Calls Try.prog 71 #[.pointer (some ⟨sb, 0, none⟩), .int .i64 x2] ((w.alloc (.cells #[.int .i64 x0, .int .i64 x1, .int .i64 x2] 58)).drewN q) fun e w' => e = .returned (.int .i64 (litT bs x2)) ∧ w' = (w.alloc (.cells #[.int .i64 x0, .int .i64 x1, .int .i64 x2] 58)).drewN q) := fun q => tLit_any sb _ n n bs x2 _ (((S1.then (Drew.below ⟨q, rfl⟩)).sig hn)) ⟨l2.1, l2.2.2⟩
  have hfin : Hid (∀ q x, TerPid w0 b0 c sb g n (bs.set (varN x0) x) (((w.alloc (.cells #[.int .i64 x0, .int .i64 x1, .int .i64 x2] 58)).drewN q).setCell ⟨g, varN x0, none⟩ (.int .i64 x))) := fun q x => (S1.then (Drew.below ⟨q, rfl⟩)).set (varN x0) x
  obtain ⟨A, hA⟩ : ∃ A, litT bs x1 = A := ⟨_, rfl⟩
  obtain ⟨B, hB⟩ : ∃ B, litT bs x2 = B := ⟨_, rfl⟩
  rw [HAB.out A B hA hB]
  rw [hA] at HA
  rw [hB] at HB
  clear HAB hA hB HE
  generalize varN x0 = v at hv hq hfin ⊢
  obtain ⟨hcv, hfv⟩ := S1.mid.at hv
  obtain ⟨c0, c1, c2⟩ := S1.box.cells
  generalize atP bs v = y at hcv
  have hn2 : n ≤ 10000 := hn
  have hne : g ≠ w.heap.size := by have := h.mid.gLt; omega
  have hne2 : g ≠ sb := fun e => h.ne e.symm
  have hv0 : (0 : Int) ≤ (v : Int) := by omega
  have hv1 : (v : Int) < (n : Int) := by omega
  have hqw : IntKind.i64.wrap (x0.tdiv 2) = (v : Int) := by rw [hq, IntKind.wrap_i64]; omega
  have hwv : IntKind.i64.wrap (v : Int) = (v : Int) := by rw [IntKind.wrap_i64]; omega
  have HC : Hid (∀ W, Calls Try.prog 95 #[.int .i64 A, .int .i64 B] W fun e w' => e = .returned (.int .i64 (both3 A B)) ∧ w' = W) := fun W => tBoth_any A B W
  generalize (both3 A B) = r at HC ⊢
  clear h l0 l1 l2 S1 hn
  go_enter Try.func106, Try.ntmps106
  go_wp2
  generalize w.alloc (.cells #[.int .i64 x0, .int .i64 x1, .int .i64 x2] 58) = W at hr0 hr1 hr2 HA HB hfin hcv hfv c0 c1 c2 ⊢
  refine wp_region_held_drew (S := (fun w' => w'.cell? ⟨w.heap.size, 0, none⟩ = some (.int .i64 x0) ∧ w'.cell? ⟨w.heap.size, 1, none⟩ = some (.int .i64 x1) ∧ w'.cell? ⟨w.heap.size, 2, none⟩ = some (.int .i64 x2) ∧ w'.cell? ⟨sb, 0, none⟩ = some (.func (.func 96) #[] #[]) ∧ w'.cell? ⟨sb, 1, none⟩ = some (.func (.func 95) #[] #[]) ∧ w'.cell? ⟨sb, 2, none⟩ = some (.slice (some ⟨g, 0, none⟩) n n))) (by kernel_rfl) ⟨hr0, hr1, hr2, c0, c1, c2⟩ (fun hHeld => ?_)
  refine wpAnyH_take (i := 0) (oi := { dst := some 4, op := Op.move (Operand.tmp 0), type := 108, pos := "signals.go:60", after := #[], guard := none }) (v := ?_) rfl (by kernel_rfl) (by kernel_rfl) (by kernel_rfl) (fun _ _ _ h => h) (Or.inl ⟨by rfl, ?_⟩) (by assumption) ?_
  rotate_left
  · (intro w0 hSw; (try dsimp only at hSw); go_simp; try with_reducible rfl)
  try simp only [Act.put, List.setIfInBounds_toArray, List.set_cons_zero, List.set_cons_succ]
  refine wpAnyH_take (i := 1) (oi := { dst := some 5, op := Op.nilCheck (Operand.tmp 4), type := 0, pos := "signals.go:60", after := #[{ on := 0, ground := Ground.data }], guard := none }) (v := ?_) rfl (by kernel_rfl) (by kernel_rfl) (by kernel_rfl) (fun _ _ _ h => h) (Or.inl ⟨by rfl, ?_⟩) (by assumption) ?_
  rotate_left
  · (intro w0 hSw; (try dsimp only at hSw); go_simp; try with_reducible rfl)
  try simp only [Act.put, List.setIfInBounds_toArray, List.set_cons_zero, List.set_cons_succ]
  refine wpAnyH_take (i := 2) (oi := { dst := some 6, op := Op.fieldAddr 116 (Operand.tmp 5) 1, type := 0, pos := "signals.go:60", after := #[{ on := 1, ground := Ground.data }], guard := none }) (v := ?_) rfl (by kernel_rfl) (by kernel_rfl) (by kernel_rfl) (fun _ _ _ h => h) (Or.inl ⟨by rfl, ?_⟩) (by assumption) ?_
  rotate_left
  · (intro w0 hSw; (try dsimp only at hSw); go_simp; try with_reducible rfl)
  try simp only [Act.put, List.setIfInBounds_toArray, List.set_cons_zero, List.set_cons_succ]
  refine wpAnyH_take (i := 3) (oi := { dst := some 7, op := Op.load 22 (Operand.tmp 6), type := 22, pos := "signals.go:60", after := #[{ on := 2, ground := Ground.data }], guard := none }) (v := ?_) rfl (by kernel_rfl) (by kernel_rfl) (by kernel_rfl) (fun _ _ _ h => h) (Or.inl ⟨by rfl, ?_⟩) (by assumption) ?_
  rotate_left
  · (intro w0 hSw; (try dsimp only at hSw); go_simp; try with_reducible rfl)
  try simp only [Act.put, List.setIfInBounds_toArray, List.set_cons_zero, List.set_cons_succ]
  refine wpAnyH_take (i := 4) (oi := { dst := some 8, op := Op.fieldAddr 58 (Operand.tmp 3) 0, type := 0, pos := "signals.go:60", after := #[], guard := none }) (v := ?_) rfl (by kernel_rfl) (by kernel_rfl) (by kernel_rfl) (fun _ _ _ h => h) (Or.inl ⟨by rfl, ?_⟩) (by assumption) ?_
  rotate_left
  · (intro w0 hSw; (try dsimp only at hSw); go_simp; try with_reducible rfl)
  try simp only [Act.put, List.setIfInBounds_toArray, List.set_cons_zero, List.set_cons_succ]
  refine wpAnyH_take (i := 5) (oi := { dst := some 9, op := Op.load 3 (Operand.tmp 8), type := 3, pos := "signals.go:60", after := #[{ on := 4, ground := Ground.data }], guard := none }) (v := ?_) rfl (by kernel_rfl) (by kernel_rfl) (by kernel_rfl) (fun _ _ _ h => h) (Or.inl ⟨by rfl, ?_⟩) (by assumption) ?_
  rotate_left
  · (intro w0 hSw; (try dsimp only at hSw); go_simp; try with_reducible rfl)
  try simp only [Act.put, List.setIfInBounds_toArray, List.set_cons_zero, List.set_cons_succ]
  refine wpAnyH_take (i := 6) (oi := { dst := some 10, op := Op.binOp BinOp.quo 3 (Operand.tmp 9) (Operand.const (Value.int IntKind.i64 2)) 3, type := 3, pos := "signals.go:60", after := #[{ on := 5, ground := Ground.data }], guard := none }) (v := ?_) rfl (by kernel_rfl) (by kernel_rfl) (by kernel_rfl) (fun _ _ _ h => h) (Or.inl ⟨by rfl, ?_⟩) (by assumption) ?_
  rotate_left
  · (intro w0 hSw; (try dsimp only at hSw); go_simp; try with_reducible rfl)
  try simp only [Act.put, List.setIfInBounds_toArray, List.set_cons_zero, List.set_cons_succ]
  refine wpAnyH_take (i := 7) (oi := { dst := some 11, op := Op.move (Operand.tmp 0), type := 108, pos := "signals.go:60", after := #[], guard := none }) (v := ?_) rfl (by kernel_rfl) (by kernel_rfl) (by kernel_rfl) (fun _ _ _ h => h) (Or.inl ⟨by rfl, ?_⟩) (by assumption) ?_
  rotate_left
  · (intro w0 hSw; (try dsimp only at hSw); go_simp; try with_reducible rfl)
  try simp only [Act.put, List.setIfInBounds_toArray, List.set_cons_zero, List.set_cons_succ]
  refine wpAnyH_take (i := 8) (oi := { dst := some 12, op := Op.nilCheck (Operand.tmp 11), type := 0, pos := "signals.go:60", after := #[{ on := 7, ground := Ground.data }], guard := none }) (v := ?_) rfl (by kernel_rfl) (by kernel_rfl) (by kernel_rfl) (fun _ _ _ h => h) (Or.inl ⟨by rfl, ?_⟩) (by assumption) ?_
  rotate_left
  · (intro w0 hSw; (try dsimp only at hSw); go_simp; try with_reducible rfl)
  try simp only [Act.put, List.setIfInBounds_toArray, List.set_cons_zero, List.set_cons_succ]
  refine wpAnyH_take (i := 9) (oi := { dst := some 13, op := Op.fieldAddr 116 (Operand.tmp 12) 0, type := 0, pos := "signals.go:60", after := #[{ on := 8, ground := Ground.data }], guard := none }) (v := ?_) rfl (by kernel_rfl) (by kernel_rfl) (by kernel_rfl) (fun _ _ _ h => h) (Or.inl ⟨by rfl, ?_⟩) (by assumption) ?_
  rotate_left
  · (intro w0 hSw; (try dsimp only at hSw); go_simp; try with_reducible rfl)
  try simp only [Act.put, List.setIfInBounds_toArray, List.set_cons_zero, List.set_cons_succ]
  refine wpAnyH_take (i := 10) (oi := { dst := some 14, op := Op.fieldAddr 114 (Operand.tmp 13) 1, type := 0, pos := "signals.go:60", after := #[{ on := 9, ground := Ground.data }], guard := none }) (v := ?_) rfl (by kernel_rfl) (by kernel_rfl) (by kernel_rfl) (fun _ _ _ h => h) (Or.inl ⟨by rfl, ?_⟩) (by assumption) ?_
  rotate_left
  · (intro w0 hSw; (try dsimp only at hSw); go_simp; try with_reducible rfl)
  try simp only [Act.put, List.setIfInBounds_toArray, List.set_cons_zero, List.set_cons_succ]
  refine wpAnyH_take (i := 11) (oi := { dst := some 15, op := Op.load 112 (Operand.tmp 14), type := 112, pos := "signals.go:60", after := #[{ on := 10, ground := Ground.data }], guard := none }) (v := ?_) rfl (by kernel_rfl) (by kernel_rfl) (by kernel_rfl) (fun _ _ _ h => h) (Or.inl ⟨by rfl, ?_⟩) (by assumption) ?_
  rotate_left
  · (intro w0 hSw; (try dsimp only at hSw); go_simp; try with_reducible rfl)
  try simp only [Act.put, List.setIfInBounds_toArray, List.set_cons_zero, List.set_cons_succ]
  refine wpAnyH_take (i := 12) (oi := { dst := some 16, op := Op.move (Operand.tmp 0), type := 108, pos := "signals.go:60", after := #[], guard := none }) (v := ?_) rfl (by kernel_rfl) (by kernel_rfl) (by kernel_rfl) (fun _ _ _ h => h) (Or.inl ⟨by rfl, ?_⟩) (by assumption) ?_
  rotate_left
  · (intro w0 hSw; (try dsimp only at hSw); go_simp; try with_reducible rfl)
  try simp only [Act.put, List.setIfInBounds_toArray, List.set_cons_zero, List.set_cons_succ]
  refine wpAnyH_take (i := 13) (oi := { dst := some 17, op := Op.fieldAddr 58 (Operand.tmp 3) 1, type := 0, pos := "signals.go:60", after := #[], guard := none }) (v := ?_) rfl (by kernel_rfl) (by kernel_rfl) (by kernel_rfl) (fun _ _ _ h => h) (Or.inl ⟨by rfl, ?_⟩) (by assumption) ?_
  rotate_left
  · (intro w0 hSw; (try dsimp only at hSw); go_simp; try with_reducible rfl)
  try simp only [Act.put, List.setIfInBounds_toArray, List.set_cons_zero, List.set_cons_succ]
  refine wpAnyH_take (i := 14) (oi := { dst := some 18, op := Op.load 3 (Operand.tmp 17), type := 3, pos := "signals.go:60", after := #[{ on := 13, ground := Ground.data }], guard := none }) (v := ?_) rfl (by kernel_rfl) (by kernel_rfl) (by kernel_rfl) (fun _ _ _ h => h) (Or.inl ⟨by rfl, ?_⟩) (by assumption) ?_
  rotate_left
  · (intro w0 hSw; (try dsimp only at hSw); go_simp; try with_reducible rfl)
  try simp only [Act.put, List.setIfInBounds_toArray, List.set_cons_zero, List.set_cons_succ]
  refine wpAnyH_take (i := 16) (oi := { dst := some 20, op := Op.move (Operand.tmp 0), type := 108, pos := "signals.go:60", after := #[], guard := none }) (v := ?_) rfl (by kernel_rfl) (by kernel_rfl) (by kernel_rfl) (fun _ _ _ h => h) (Or.inl ⟨by rfl, ?_⟩) (by assumption) ?_
  rotate_left
  · (intro w0 hSw; (try dsimp only at hSw); go_simp; try with_reducible rfl)
  try simp only [Act.put, List.setIfInBounds_toArray, List.set_cons_zero, List.set_cons_succ]
  refine wpAnyH_take (i := 17) (oi := { dst := some 21, op := Op.fieldAddr 58 (Operand.tmp 3) 2, type := 0, pos := "signals.go:60", after := #[], guard := none }) (v := ?_) rfl (by kernel_rfl) (by kernel_rfl) (by kernel_rfl) (fun _ _ _ h => h) (Or.inl ⟨by rfl, ?_⟩) (by assumption) ?_
  rotate_left
  · (intro w0 hSw; (try dsimp only at hSw); go_simp; try with_reducible rfl)
  try simp only [Act.put, List.setIfInBounds_toArray, List.set_cons_zero, List.set_cons_succ]
  refine wpAnyH_take (i := 18) (oi := { dst := some 22, op := Op.load 3 (Operand.tmp 21), type := 3, pos := "signals.go:60", after := #[{ on := 17, ground := Ground.data }], guard := none }) (v := ?_) rfl (by kernel_rfl) (by kernel_rfl) (by kernel_rfl) (fun _ _ _ h => h) (Or.inl ⟨by rfl, ?_⟩) (by assumption) ?_
  rotate_left
  · (intro w0 hSw; (try dsimp only at hSw); go_simp; try with_reducible rfl)
  try simp only [Act.put, List.setIfInBounds_toArray, List.set_cons_zero, List.set_cons_succ]
  refine wpAnyH_ready (rs := [15]) (by kernel_rfl) (by simp) ?_
  refine AllReadyH.cons (o := { dst := some 19, op := Op.call { callee := Callee.value (Operand.func 71), args := #[Operand.tmp 16, Operand.tmp 18], argTypes := #[108, 3] }, type := 3, pos := "signals.go:60", after := #[{ on := 12, ground := Ground.data }, { on := 14, ground := Ground.data }], guard := none }) rfl (fun KZ hKZ => ?_) ?_
  · skip
    go_simp
    go_at_call 71
    refine (HA.out _).mono ?_
    rintro e w3 ⟨rfl, hw3⟩
    obtain rfl := hw3.symm
    go_wp2_with fail
    refine hKZ.out _ _ ?_ (fun hHeld => ?_)
    · exact ⟨hr0, hr1, hr2, c0, c1, c2⟩
    clear hKZ KZ
    try simp only [Act.put, List.setIfInBounds_toArray, List.set_cons_zero, List.set_cons_succ]
    refine wpAnyH_ready (rs := [19]) (by kernel_rfl) (by simp) ?_
    refine AllReadyH.cons (o := { dst := some 23, op := Op.call { callee := Callee.value (Operand.func 71), args := #[Operand.tmp 20, Operand.tmp 22], argTypes := #[108, 3] }, type := 3, pos := "signals.go:60", after := #[{ on := 16, ground := Ground.data }, { on := 18, ground := Ground.data }, { on := 15, ground := Ground.chain }], guard := none }) rfl (fun KZ hKZ => ?_) ?_
    · skip
      go_simp
      go_at_call 71
      refine (HB.out _).mono ?_
      rintro e w3 ⟨rfl, hw3⟩
      obtain rfl := hw3.symm
      go_wp2_with fail
      refine hKZ.out _ _ ?_ (fun hHeld => ?_)
      · exact ⟨hr0, hr1, hr2, c0, c1, c2⟩
      clear hKZ KZ
      try simp only [Act.put, List.setIfInBounds_toArray, List.set_cons_zero, List.set_cons_succ]
      refine wpAnyH_ready (rs := [20]) (by kernel_rfl) (by simp) ?_
      refine AllReadyH.cons (o := { dst := some 24, op := Op.call { callee := Callee.value (Operand.tmp 15), args := #[Operand.tmp 19, Operand.tmp 23], argTypes := #[3, 3] }, type := 3, pos := "signals.go:60", after := #[{ on := 11, ground := Ground.data }, { on := 15, ground := Ground.data }, { on := 19, ground := Ground.data }, { on := 19, ground := Ground.chain }], guard := none }) rfl (fun KZ hKZ => ?_) ?_
      · skip
        go_simp
        go_at_call 95
        refine (HC.out _).mono ?_
        rintro e w3 ⟨rfl, hw3⟩
        obtain rfl := hw3.symm
        go_wp2_with fail
        refine hKZ.out _ _ ?_ (fun hHeld => ?_)
        · exact ⟨hr0, hr1, hr2, c0, c1, c2⟩
        clear hKZ KZ
        try simp only [Act.put, List.setIfInBounds_toArray, List.set_cons_zero, List.set_cons_succ]
        refine wpAnyH_take (i := 21) (oi := { dst := some 25, op := Op.indexAddr 22 (Operand.tmp 7) (Operand.tmp 10), type := 0, pos := "signals.go:60", after := #[{ on := 3, ground := Ground.data }, { on := 6, ground := Ground.data }, { on := 0, ground := Ground.phase }, { on := 1, ground := Ground.phase }, { on := 2, ground := Ground.phase }, { on := 3, ground := Ground.phase }, { on := 4, ground := Ground.phase }, { on := 5, ground := Ground.phase }, { on := 6, ground := Ground.phase }, { on := 7, ground := Ground.phase }, { on := 8, ground := Ground.phase }, { on := 9, ground := Ground.phase }, { on := 10, ground := Ground.phase }, { on := 11, ground := Ground.phase }, { on := 12, ground := Ground.phase }, { on := 13, ground := Ground.phase }, { on := 14, ground := Ground.phase }, { on := 15, ground := Ground.phase }, { on := 16, ground := Ground.phase }, { on := 17, ground := Ground.phase }, { on := 18, ground := Ground.phase }, { on := 19, ground := Ground.phase }, { on := 20, ground := Ground.phase }], guard := none }) (v := ?_) rfl (by kernel_rfl) (by kernel_rfl) (by kernel_rfl) (fun _ _ _ h => h) (Or.inl ⟨by rfl, ?_⟩) (by assumption) ?_
        rotate_left
        · (intro w0 hSw; (try dsimp only at hSw); go_simp; try with_reducible rfl)
        try simp only [Act.put, List.setIfInBounds_toArray, List.set_cons_zero, List.set_cons_succ]
        refine wpAnyH_ready (rs := [22]) (by kernel_rfl) (by simp) ?_
        refine AllReadyH.cons (o := { dst := none, op := Op.store 3 (Operand.tmp 25) (Operand.tmp 24), type := 0, pos := "signals.go:60", after := #[{ on := 21, ground := Ground.data }, { on := 20, ground := Ground.data }, { on := 20, ground := Ground.chain }, { on := 0, ground := Ground.phase }, { on := 1, ground := Ground.phase }, { on := 2, ground := Ground.phase }, { on := 3, ground := Ground.phase }, { on := 4, ground := Ground.phase }, { on := 5, ground := Ground.phase }, { on := 6, ground := Ground.phase }, { on := 7, ground := Ground.phase }, { on := 8, ground := Ground.phase }, { on := 9, ground := Ground.phase }, { on := 10, ground := Ground.phase }, { on := 11, ground := Ground.phase }, { on := 12, ground := Ground.phase }, { on := 13, ground := Ground.phase }, { on := 14, ground := Ground.phase }, { on := 15, ground := Ground.phase }, { on := 16, ground := Ground.phase }, { on := 17, ground := Ground.phase }, { on := 18, ground := Ground.phase }, { on := 19, ground := Ground.phase }, { on := 20, ground := Ground.phase }], guard := none }) rfl (fun KZ hKZ => ?_) ?_
        · skip
          go_simp
          refine hKZ.out _ _ ?_ (fun hHeld => ?_)
          · exact (by go_keep)
          clear hKZ KZ
          try simp only [Act.put, List.setIfInBounds_toArray, List.set_cons_zero, List.set_cons_succ]
          refine wpAnyH_done (by kernel_rfl) ?_ _
          go_wp2
          go_end0
          exact ⟨rfl, by simpa using hfin.out _ _⟩
        exact AllReadyH.nil
      exact AllReadyH.nil
    exact AllReadyH.nil
  exact AllReadyH.nil
end Go.Proofs.Ytmbbcghhdjpgeaa

namespace Go.Proofs.Ytmbbcghhdjpgeaa
open Go.RowKit

/-- How values are reckoned with. -/
def TerG : Value := .agg #[.func (.func 96) #[] #[], .func (.func 95) #[] #[]]
/-- A box of two. -/
def TerLBox (w : World) (b : Nat) (x y : Value) : Prop := w.heap[b]? = some (.cells #[x, y] 114 (0, 0))
theorem TerLBox.cells {w : World} {b : Nat} {x y : Value} (h : TerLBox w b x y) : w.cell? ⟨b, 0, none⟩ = some x ∧ w.cell? ⟨b, 1, none⟩ = some y := ⟨cell_of_row _ _ 0 _ _ (0, 0) h, cell_of_row _ _ 1 _ _ (0, 0) h⟩
theorem TerLBox.put {w : World} {b : Nat} {x y : Value} (h : TerLBox w b x y) (u v : Value) : TerLBox ((w.setCell ⟨b, 0, none⟩ u).setCell ⟨b, 1, none⟩ v) b u v := by
  have h0 : TerLBox (w.setCell ⟨b, 0, none⟩ u) b u y := heap_setCell_same w b 0 _ _ u h
  exact heap_setCell_same _ b 1 _ _ v h0

set_option maxRecDepth 100000 in
set_option maxHeartbeats 1000000 in
theorem tLogic_any (w : World) : Calls Try.prog 74 #[] w fun e w' => e = .returned TerG ∧ Below w.heap.size w w' := by
  unfold TerG
  obtain ⟨W0, hW0⟩ : ∃ W0, W0 = w.alloc (.cells #[.nilFunc, .nilFunc] 114) := ⟨_, rfl⟩
  have B0 : TerLBox W0 w.heap.size .nilFunc .nilFunc := by rw [hW0]; exact heap_alloc_new w _
  obtain ⟨q0, q1⟩ := B0.cells
  have f0 := frozen_of_row _ w.heap.size 0 _ _ B0
  have f1 := frozen_of_row _ w.heap.size 1 _ _ B0
  have B1 := hide (B0.put (.func (.func 96) #[] #[]) (.func (.func 95) #[] #[]))
  have hbel : Hid (Below w.heap.size w ((W0.setCell ⟨w.heap.size, 0, none⟩ (.func (.func 96) #[] #[])).setCell ⟨w.heap.size, 1, none⟩ (.func (.func 95) #[] #[]))) := (((Two.refl w.heap.size w.heap.size _).setL 0 _).setL 1 _).below (by rw [hW0]; exact below_alloc w _) (Nat.le_refl _) (Nat.le_refl _) (Nat.le_refl _)
  clear B0
  go_enter Try.func74, Try.ntmps74
  go_upto_region 1 with fail
  rw [← hW0]
  clear hW0
  go_wp2
  clear q0 q1 f0 f1
  show bodyPost _ _ _ _ _ ((W0.setCell ⟨w.heap.size, 0, none⟩ (.func (.func 96) #[] #[])).setCell ⟨w.heap.size, 1, none⟩ (.func (.func 95) #[] #[]))
  generalize ((W0.setCell ⟨w.heap.size, 0, none⟩ (.func (.func 96) #[] #[])).setCell ⟨w.heap.size, 1, none⟩ (.func (.func 95) #[] #[])) = W at *
  obtain ⟨r0, r1⟩ := B1.out.cells
  refine bodyPost_ret (v := .agg #[.func (.func 96) #[] #[], .func (.func 95) #[] #[]]) (by simp [results, Try.results74, go_sem, *]) rfl ?_
  exact ⟨rfl, hbel.out⟩

/-- What Settle tells. -/
def TSetPost (w : World) (C : Circ) (st is : List Int) (e : Ending) (w' : World) : Prop :=
  Below w.heap.size w w' ∧ ((C.stepN st.length is.length ≠ 0 ∧ e = .returned (.tuple #[.pointer none, .int .i64 (C.stepN st.length is.length)])) ∨
    (C.stepN st.length is.length = 0 ∧ ∃ sb g, e = .returned (.tuple #[.pointer (some ⟨sb, 0, none⟩), .int .i64 0]) ∧ TerBox w' sb (some ⟨g, 0, none⟩) (C.max.toNat + 1) (C.max.toNat + 1) ∧ w'.ownsRow w.heap.size 3 1 (.slice (some ⟨g, 0, none⟩) (C.max.toNat + 1) (C.max.toNat + 1)) (C.max.toNat + 1) ((C.valsT st is).map (Value.int .i64))))
theorem settleT_succ (C : Circ) (v : List Int) (k : Nat) : C.settleG andT v (k + 1) = setV andT (C.settleG andT v k) (atP C.ands (atP C.turn k)) := rfl

theorem settleT_begin {w1 : World} {b : Nat} {c : CV} (hb : Box w1 b c) (n q : Nat) (hn : n ≤ 10000) : TerPid w1 b c (w1.heap.size + 1) w1.heap.size n (List.replicate n 0) (((w1.alloc (.cells (madeCells #[.int .i64 0] n) 3)).alloc (.cells #[.func (.func 96) #[] #[], .func (.func 95) #[] #[], .slice (some ⟨w1.heap.size, 0, none⟩) n n] 116)).drewN q) := by
  have hm : n ≤ maxLen := by unfold maxLen; omega
  have e1 : ∀ o, (w1.alloc o).heap.size = w1.heap.size + 1 := fun o => by simp
  have h0 := below_alloc w1 (.cells (madeCells #[.int .i64 0] n) 3)
  have hA : (w1.alloc (.cells (madeCells #[.int .i64 0] n) 3)).heap[w1.heap.size]? = some (.cells (madeCells #[.int .i64 0] n) 3 (0, 0)) := heap_alloc_new w1 _
  have hB := below_alloc (w1.alloc (.cells (madeCells #[.int .i64 0] n) 3)) (.cells #[.func (.func 96) #[] #[], .func (.func 95) #[] #[], .slice (some ⟨w1.heap.size, 0, none⟩) n n] 116)
  have hC : TerBox ((w1.alloc (.cells (madeCells #[.int .i64 0] n) 3)).alloc (.cells #[.func (.func 96) #[] #[], .func (.func 95) #[] #[], .slice (some ⟨w1.heap.size, 0, none⟩) n n] 116)) (w1.heap.size + 1) (some ⟨w1.heap.size, 0, none⟩) n n := by
    have := heap_alloc_new (w1.alloc (.cells (madeCells #[.int .i64 0] n) 3)) (.cells #[.func (.func 96) #[] #[], .func (.func 95) #[] #[], .slice (some ⟨w1.heap.size, 0, none⟩) n n] 116)
    rw [e1] at this
    exact this
  have hown : (w1.alloc (.cells (madeCells #[.int .i64 0] n) 3)).ownsRow w1.heap.size 3 1 (.slice (some ⟨w1.heap.size, 0, none⟩) n n) n ((List.replicate n 0).map (Value.int .i64)) := by
    refine ⟨by simp, .inr ⟨w1.heap.size, n, _, rfl, Nat.le_refl _, hA, Nat.le_refl _, hm, by rw [size_madeCells, Nat.mul_one], ?_⟩⟩
    rw [toList_madeCells_one, Nat.mul_one, List.take_of_length_le (by simp), List.map_replicate]
  have hd : ∀ W : World, Below W.heap.size W (W.drewN q) := fun W => Drew.below ⟨q, rfl⟩
  exact ⟨⟨own_below (own_below hown hB) (hd _), ((hb.below h0).below hB).below (hd _), hb.lt, belowThen (belowThen h0 hB) (hd _)⟩, hC.below (hd _), by omega⟩

set_option maxRecDepth 100000 in
set_option maxHeartbeats 4000000 in
theorem tsettled_any (c : CV) (C : Circ) (w : World) (sa ia : Option Addr) (sn sc inn ic : Nat) (st is : List Int) (h : Holds w c C) (hf : Fits c C) (hs : RowT w sa st) (hsl : st.length = sn) (hi : RowT w ia is) (hil : is.length = inn) :
    Calls Try.prog 93 #[TerG, c.v, .slice sa sn sc, .slice ia inn ic] w (TSetPost w C st is) := by
  obtain ⟨i0, hi0, hz0, hz1, hz2⟩ := info_parts infoInt
  have HO := hide (fun W (hb : Below w.heap.size w W) => order_any c C W (h.below hb) hf)
  obtain ⟨wl, hwl⟩ : ∃ wl, wl = w.alloc (.cells #[.func (.func 96) #[] #[], .func (.func 95) #[] #[]] 114) := ⟨_, rfl⟩
  have hls : wl.heap.size = w.heap.size + 1 := by rw [hwl]; simp
  have HLb : Hid (Below w.heap.size w wl) := by rw [hwl]; exact below_alloc w _
  have l0 : wl.cell? ⟨w.heap.size, 0, none⟩ = some (.func (.func 96) #[] #[]) := by rw [hwl]; exact cell_of_row _ _ 0 _ _ (0, 0) (heap_alloc_new w _)
  have l1 : wl.cell? ⟨w.heap.size, 1, none⟩ = some (.func (.func 95) #[] #[]) := by rw [hwl]; exact cell_of_row _ _ 1 _ _ (0, 0) (heap_alloc_new w _)
  have HL0 : Hid (∀ W, Below wl.heap.size wl W → W.cell? ⟨w.heap.size, 0, none⟩ = some (.func (.func 96) #[] #[]) ∧ W.cell? ⟨w.heap.size, 1, none⟩ = some (.func (.func 95) #[] #[])) := fun W hb => ⟨(hb.cell (p := ⟨w.heap.size, 0, none⟩) (by rw [hls]; exact Nat.lt_succ_self _)).trans l0, (hb.cell (p := ⟨w.heap.size, 1, none⟩) (by rw [hls]; exact Nat.lt_succ_self _)).trans l1⟩
  have HB := hide (box_new wl c)
  have HH := hide h
  have HS := hide hs
  have HI := hide hi
  have HSl := hide hsl
  have HIl := hide hil
  generalize hP : TSetPost w C st is = Post
  have HP := hide hP
  have hbad : Hid (∀ r W, C.stepN st.length is.length = r → r ≠ 0 → Below w.heap.size w W → Post (.returned (.tuple #[.pointer none, .int .i64 r])) W) := fun r W hr hr0 hW => by rw [← HP.out]; exact ⟨hW, .inl ⟨by rw [hr]; exact hr0, by rw [hr]⟩⟩
  have hgood : Hid (∀ W w1 b sb g n, C.stepN st.length is.length = 0 → n = C.max.toNat + 1 → Below w.heap.size w w1 → TerPid w1 b c sb g n (C.valsT st is) W → Post (.returned (.tuple #[.pointer (some ⟨sb, 0, none⟩), .int .i64 0])) W) := fun W w1 b sb g n hr hn hb hm => by
    subst hn; rw [← HP.out]; exact ⟨belowThen hb hm.mid.below, .inr ⟨hr, sb, g, rfl, hm.box, own_le hm.mid.own hb.size⟩⟩
  clear h hf hs hsl hi hil hP l0 l1
  unfold CV.v at HO ⊢
  unfold Box at HB
  unfold TerG
  generalize hA1 : c.a1 = A1 at HO HB ⊢
  generalize hA2 : c.a2 = A2 at HO HB ⊢
  generalize hA6 : c.a6 = A6 at HO HB ⊢
  have HA1 := hide hA1
  have HA2 := hide hA2
  have HA6 := hide hA6
  clear hA1 hA2 hA6
  go_enter Try.func93, Try.ntmps93
  go_wp2_with fail
  rw [← hwl]
  rw [hls] at HB
  refine (HO.out _ (belowThen HLb.out (below_alloc wl _))).mono ?_
  intro e w1 he
  have hb1 := he.1
  have HB1 : Hid (Box w1 (w.heap.size + 1) c) := by
    have := hb1.block (w.heap.size + 1) (by simp [hls])
    rw [HB.out] at this
    show w1.heap[w.heap.size + 1]? = _
    rw [this, HA1.out, HA2.out, HA6.out]
  have HW1 := hide (belowThen (belowThen HLb.out (below_alloc wl _)) hb1)
  have HLc := hide (HL0.out w1 (belowThen (below_alloc wl _) hb1))
  clear HO HB hb1 HL0 HLb
  rcases he.2 with ⟨hc, rfl⟩ | ⟨hc, oa, ok, rfl, hn⟩
  · have hend := hide (hbad.out _ w1 (by unfold Circ.stepN; rw [if_pos hc]) hc HW1.out)
    clear he hbad hgood hwl hls
    generalize C.checkI = ck at hc hend ⊢
    have hck : (ck != 0) = true := by simpa using hc
    clear hc
    go_wp2
    exact hend.out
  · have HC := hide hc
    have HRt := hide (right_of hc)
    have HOr : Hid (RowK .i64 w1 oa (C.turn.map (fun k : Nat => (k : Int)))) := by
      have e0 : C.turn.length = (C.turn.map (fun k : Nat => (k : Int))).length := (List.length_map _).symm
      rw [e0] at hn
      obtain ⟨a', cp, e1, hr, -⟩ := row_of_own hn.1
      cases e1
      exact hr
    have HTl : Hid (C.turn.length = c.n6) := HRt.out.turn.trans HH.out.l6
    rw [HTl.out]
    replace HH := hide (HH.out.below HW1.out)
    replace HS := hide (HS.out.below HW1.out)
    replace HI := hide (HI.out.below HW1.out)
    clear he hc hn hwl hls
    obtain ⟨q0, q1, q2, q3, q4, q5, q6, q7⟩ := HB1.out.cells
    rw [HA1.out] at q1
    rw [HA2.out] at q2
    by_cases hsn : sn = c.n2
    case neg =>
      have hsb : ((sn : Int) != (c.n2 : Int)) = true := by simpa using fun h : (sn : Int) = (c.n2 : Int) => hsn (by omega)
      have hend := hide (hbad.out 1 w1 (by unfold Circ.stepN; rw [if_neg (fun h => h HC.out), if_neg (fun h => hsn (HSl.out.symm.trans (h.1.trans HH.out.l2)))]) (by decide) HW1.out)
      clear hbad hgood hsn
      go_wp2
      exact hend.out
    case pos =>
      have Hsn := hide hsn
      have hsb : ((sn : Int) != (c.n2 : Int)) = false := by rw [hsn]; simp
      by_cases hin : inn = c.n1
      case neg =>
        have hib : ((inn : Int) != (c.n1 : Int)) = true := by simpa using fun h : (inn : Int) = (c.n1 : Int) => hin (by omega)
        have hend := hide (hbad.out 1 w1 (by unfold Circ.stepN; rw [if_neg (fun h => h HC.out), if_neg (fun h => hin (HIl.out.symm.trans (h.2.trans HH.out.l1)))]) (by decide) HW1.out)
        clear hbad hgood hin
        subst hsn
        go_wp2
        exact hend.out
      case pos =>
        have Hin := hide hin
        have hib : ((inn : Int) != (c.n1 : Int)) = false := by rw [hin]; simp
        have HS0 : Hid (C.stepN st.length is.length = 0) := by
          show C.stepN st.length is.length = 0
          unfold Circ.stepN
          rw [if_neg (fun h => h HC.out), if_pos ⟨HSl.out.trans (Hsn.out.trans HH.out.l2.symm), HIl.out.trans (Hin.out.trans HH.out.l1.symm)⟩]
        replace hgood := hide (fun W b sb g n => hgood.out W w1 b sb g n HS0.out)
        have hm0 : 0 ≤ c.m := by rw [HH.out.m]; exact HRt.out.lits.max
        have hm5 : c.m ≤ 5000 := by rw [HH.out.m]; exact HRt.out.small.max
        obtain ⟨n, hn⟩ : ∃ n, n = C.max.toNat + 1 := ⟨_, rfl⟩
        have hnm : c.m + 1 = (n : Int) := by rw [hn, ← HH.out.m]; omega
        have HNn := hide hn
        have hn1 : c.n1 ≤ 64 := by rw [← HH.out.l1]; exact HRt.out.small.ins
        have hn2 : c.n2 ≤ 64 := by rw [← HH.out.l2]; exact HRt.out.small.lats
        have hn6 : c.n6 ≤ 2000 := by rw [← HH.out.l6]; exact HRt.out.small.ands
        have hnn : n ≤ 10000 := by omega
        obtain ⟨l0, l1⟩ := HLc.out
        clear hbad hn
        subst hsn
        subst hin
        go_wp2
        have hmk := run_make_row' (P := Try.prog) 22 3 (.int .i64 0) 8 Try.underlying22 infoInt rfl .i64 .i64 n (by omega) (by omega)
        have hlt1 : w.heap.size + 1 < w1.heap.size := HB1.out.lt
        have hlt0 : w.heap.size < w1.heap.size := by omega
        have hne0 : w.heap.size ≠ w1.heap.size := by omega
        have hne1 : w.heap.size + 1 ≠ w1.heap.size := by omega
        clear HLc
        go_cut [12] from 42 to 48 (fun s wx => s = .pointer (some ⟨w1.heap.size + 1, 0, none⟩) ∧ Hid (TerPid w1 (w.heap.size + 1) c (w1.heap.size + 1) w1.heap.size n (List.replicate n 0) wx))
        case first =>
          go_region
          all_goals go_wp2_with fail
          all_goals go_meet
          all_goals exact ⟨rfl, settleT_begin HB1.out n _ hnn⟩
        case rest =>
        rename World => W6
        obtain ⟨rfl, HM0⟩ := hcut
        clear hmk hlt1 hlt0 hne0 hne1 l0 l1 q0 q1 q2 q3 q4 q5 q6 q7
        obtain ⟨sb, hsbx⟩ : ∃ sb, sb = w1.heap.size + 1 := ⟨_, rfl⟩
        obtain ⟨g, hgx⟩ : ∃ g, g = w1.heap.size := ⟨_, rfl⟩
        rw [← hsbx, ← hgx] at HM0
        rw [← hsbx]
        clear hgx hsbx
        obtain ⟨p0, p1, p2, p3, p4, p5, p6, p7⟩ := HM0.out.mid.box.cells
        rw [HA1.out] at p1
        go_wp2
        clear p0 p1 p2 p3 p4 p5 p6 p7
        go_loopw [13, 14, 52] (fun _ _ i wr => ∃ (k : Nat), i = .int .i64 k ∧ k ≤ c.n1 ∧ Hid (TerPid w1 (w.heap.size + 1) c sb g n (C.startTK st is k 0) wr)) (fun _ _ i _ => c.n1 - (intOf i).toNat)
        case atStart => exact ⟨0, rfl, Nat.zero_le _, by rw [HNn.out] at HM0 ⊢; exact HM0.out⟩
        case round =>
          clear HM0
          obtain ⟨k, rfl, hk, HM⟩ := hrel
          obtain ⟨p0, p1, p2, p3, p4, p5, p6, p7⟩ := HM.out.mid.box.cells
          by_cases hlt : k < c.n1
          · obtain ⟨b, off, ha, hbw, hcell⟩ := HH.out.r1.addr (by rw [HH.out.l1]; omega)
            rw [HA1.out] at ha
            subst ha
            have hc0 := (HM.out.mid.below.cell (p := ⟨b, off + k, none⟩) hbw).trans (hcell k (by rw [HH.out.l1]; exact hlt))
            rw [atP_getD] at hc0
            obtain ⟨b', off', rfl, hbw', hcell'⟩ := HI.out.addr (by rw [HIl.out]; omega)
            have hc1 := (HM.out.mid.below.cell (p := ⟨b', off' + k, none⟩) hbw').trans (hcell' k (by rw [HIl.out]; exact hlt))
            have hli := in_ins HRt.out _ (atP_mem C.ins k (by rw [HH.out.l1]; exact hlt))
            rw [← HNn.out] at hli
            have HST := hide (startTK_in C st is k)
            generalize atP C.ins k = x at hc0 hli HST
            generalize atP is k = y at hc1 HST
            have hq := tdiv_two hli.1
            have hv := hli.2.2
            generalize varN x = v at hq hv HST
            obtain ⟨hcm, hfm⟩ := HM.out.mid.at hv
            obtain ⟨c0, c1, c2⟩ := HM.out.box.cells
            have HM3 : Hid (∀ q, TerPid w1 (w.heap.size + 1) c sb g n ((C.startTK st is k 0).set v y) ((wr.drewN q).setCell ⟨g, v, none⟩ (.int .i64 y))) := fun q => (HM.out.then (Drew.below ⟨q, rfl⟩)).set v y
            generalize atP (C.startTK st is k 0) v = y0 at hcm
            have hk0 : (0 : Int) ≤ (k : Int) := by omega
            have hk1 : (k : Int) < (c.n1 : Int) := by omega
            have hv1 : (v : Int) < (n : Int) := by omega
            clear hcell hcell' hli p0 p1 p2 p3 p4 p5 p6 p7
            go_wp2
            clear hc0 c0 c1
            go_region
            all_goals go_wp2
            all_goals go_roundw
            case rel => exact ⟨k + 1, by go_num, by omega, by rw [HST.out]; exact HM3.out _⟩
            case measure => simp [intOf]; omega
          · obtain rfl : k = c.n1 := by omega
            have HM1 : Hid (TerPid w1 (w.heap.size + 1) c sb g n (C.startTK st is C.ins.length 0) wr) := by rw [HH.out.l1]; exact HM.out
            rw [HA2.out] at p2
            clear HM hlt hk
            go_wp2
            clear p0 p1 p2 p3 p4 p5 p6 p7
            go_loopw [15, 16, 72] (fun _ _ i wr => ∃ (k : Nat), i = .int .i64 k ∧ k ≤ c.n2 ∧ Hid (TerPid w1 (w.heap.size + 1) c sb g n (C.startTK st is C.ins.length k) wr)) (fun _ _ i _ => c.n2 - (intOf i).toNat)
            case atStart => exact ⟨0, rfl, Nat.zero_le _, HM1.out⟩
            case round =>
              clear HM1
              obtain ⟨k, rfl, hk, HM⟩ := hrel
              by_cases hlt : k < c.n2
              · obtain ⟨b, off, ha, hbw, hcell⟩ := HH.out.r2.addr (by rw [cellsT_len, HH.out.l2]; omega)
                rw [HA2.out] at ha
                subst ha
                have hat := cellsT_at C.lats k (by rw [HH.out.l2]; exact hlt)
                have hc0 := (HM.out.mid.below.cell (p := ⟨b, off + k * 3, none⟩) hbw).trans (hcell _ _ hat.1)
                have hc1 := (HM.out.mid.below.cell (p := ⟨b, off + k * 3 + 1, none⟩) hbw).trans (hcell _ _ hat.2.1)
                have hc2 := (HM.out.mid.below.cell (p := ⟨b, off + k * 3 + 2, none⟩) hbw).trans (hcell _ _ hat.2.2)
                obtain ⟨b', off', rfl, hbw', hcell'⟩ := HS.out.addr (by rw [HSl.out]; omega)
                have hli := (in_lats HRt.out _ (atP_mem C.lats k (by rw [HH.out.l2]; exact hlt))).1
                rw [← HNn.out] at hli
                have HST := hide (startTK_lat C st is (j := k) (by rw [HH.out.l2]; exact hlt))
                generalize atP C.lats k = x at hc0 hc1 hc2 hli HST
                obtain ⟨x0, x1, x2⟩ := x
                dsimp only at hc0 hc1 hc2 hli HST
                have hd := (belowThen HM.out.mid.below (below_alloc wr (.cells #[.int .i64 x0, .int .i64 x1, .int .i64 x2] 88))).cell (p := ⟨b', off' + k, none⟩) hbw'
                have hc3 := hd.trans (hcell' k (by rw [HSl.out]; exact hlt))
                generalize atP st k = y at hc3 HST
                have hq := tdiv_two hli.1
                have hv := hli.2.2
                generalize varN x0 = v at hq hv HST
                have M1 := HM.out.then (below_alloc wr (.cells #[.int .i64 x0, .int .i64 x1, .int .i64 x2] 88))
                obtain ⟨hcm, hfm⟩ := M1.mid.at hv
                obtain ⟨d0, d1, d2⟩ := M1.box.cells
                have HM3 : Hid (∀ q, TerPid w1 (w.heap.size + 1) c sb g n ((C.startTK st is C.ins.length k).set v y) (((wr.alloc (.cells #[.int .i64 x0, .int .i64 x1, .int .i64 x2] 88)).drewN q).setCell ⟨g, v, none⟩ (.int .i64 y))) := fun q => (M1.then (Drew.below ⟨q, rfl⟩)).set v y
                generalize atP (C.startTK st is C.ins.length k) v = y0 at hcm
                have hr0 : (wr.alloc (.cells #[.int .i64 x0, .int .i64 x1, .int .i64 x2] 88)).cell? ⟨wr.heap.size, 0, none⟩ = some (.int .i64 x0) := cell_of_row _ _ 0 _ _ (0, 0) (heap_alloc_new wr _)
                have hk0 : (0 : Int) ≤ (k : Int) := by omega
                have hk1 : (k : Int) < (c.n2 : Int) := by omega
                have hv1 : (v : Int) < (n : Int) := by omega
                clear hcell hcell' hli hat hd M1 d0 d1
                go_wp2
                clear hc0 hc1 hc2
                generalize wr.alloc (.cells #[.int .i64 x0, .int .i64 x1, .int .i64 x2] 88) = W at hc3 hcm hfm HM3 hr0 d2 ⊢
                go_region
                all_goals go_wp2
                all_goals go_roundw
                case rel => exact ⟨k + 1, by go_num, by omega, by rw [HST.out]; exact HM3.out _⟩
                case measure => simp [intOf]; omega
              · obtain rfl : k = c.n2 := by omega
                have HM1 : Hid (TerPid w1 (w.heap.size + 1) c sb g n (C.settleG andT (C.startT st is) 0) wr) := by
                  have := HM.out
                  rw [← HH.out.l2] at this
                  exact this
                clear HM hlt hk
                go_wp2
                go_loopw [19, 94] (fun _ i wr => ∃ (k : Nat), i = .int .i64 k ∧ k ≤ c.n6 ∧ Hid (TerPid w1 (w.heap.size + 1) c sb g n (C.settleG andT (C.startT st is) k) wr)) (fun _ i _ => c.n6 - (intOf i).toNat)
                case atStart => exact ⟨0, rfl, Nat.zero_le _, HM1.out⟩
                case round =>
                  clear HM1
                  obtain ⟨k, rfl, hk, HM⟩ := hrel
                  by_cases hlt : k < c.n6
                  · obtain ⟨b', off', rfl, hbw', hcell'⟩ := HOr.out.addr (by rw [List.length_map, HTl.out]; omega)
                    have hcp := (HM.out.mid.below.cell (p := ⟨b', off' + k, none⟩) hbw').trans (hcell' k (by rw [List.length_map, HTl.out]; exact hlt))
                    rw [atP_getD, atP_map _ _ _ (by rw [HTl.out]; exact hlt)] at hcp
                    have hp := turn_lt _ (atP_mem C.turn k (by rw [HTl.out]; exact hlt))
                    have HST := hide (settleT_succ C (C.startT st is) k)
                    generalize atP C.turn k = p at hcp hp HST
                    have hp6 : p < c.n6 := by rw [← HH.out.l6]; exact hp
                    obtain ⟨b, off, ha, hbw, hcell⟩ := HH.out.r6.addr (by rw [cellsT_len, HH.out.l6]; omega)
                    rw [HA6.out] at ha
                    subst ha
                    have hat := cellsT_at C.ands p hp
                    have hc0 := (HM.out.mid.below.cell (p := ⟨b, off + p * 3, none⟩) hbw).trans (hcell _ _ hat.1)
                    have hc1 := (HM.out.mid.below.cell (p := ⟨b, off + p * 3 + 1, none⟩) hbw).trans (hcell _ _ hat.2.1)
                    have hc2 := (HM.out.mid.below.cell (p := ⟨b, off + p * 3 + 2, none⟩) hbw).trans (hcell _ _ hat.2.2)
                    have hti := in_ands HRt.out _ (atP_mem C.ands p hp)
                    rw [← HNn.out] at hti
                    have HG := hide (fun W hm => tAnd_any w1 (w.heap.size + 1) c sb g n (C.settleG andT (C.startT st is) k) (atP C.ands p) W hm (by omega) hti)
                    generalize atP C.ands p = x at hc0 hc1 hc2 HG HST
                    obtain ⟨x0, x1, x2⟩ := x
                    dsimp only at hc0 hc1 hc2
                    obtain ⟨p0, p1, p2, p3, p4, p5, p6, p7⟩ := HM.out.mid.box.cells
                    rw [HA6.out] at p6
                    clear hcell hcell' hat hti hp
                    go_wp2_with (go_at_call 106; refine (HG.out _ HM.out).mono ?_; rintro e w3 ⟨rfl, hm3⟩; have HM3 := hide hm3; clear hm3)
                    go_roundw
                    case rel => exact ⟨k + 1, by go_num, by omega, by rw [HST.out]; exact HM3.out⟩
                    case measure => simp [intOf]; omega
                  · obtain rfl : k = c.n6 := by omega
                    have hend := hide (hgood.out wr (w.heap.size + 1) sb g n HNn.out HW1.out (by have := HM.out; rw [← HTl.out] at this; exact this))
                    go_wp2
                    exact hend.out
end Go.Proofs.Ytmbbcghhdjpgeaa
