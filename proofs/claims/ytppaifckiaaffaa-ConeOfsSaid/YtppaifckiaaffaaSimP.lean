/-
  STEPS, no function of the program: what the variables of a circuit are, by its Ands in turn and by going over all of them again and again.
  STEPS, no function of the program: a circuit whose variables are put in order does the same.
-/
import Derived.Test.YtppaifckiaaffaaAgainP

namespace Go.Proofs.Ytppaifckiaaffaa
open Go.RowKit

/-- What a literal is. -/
def litV (v : List Bool) (l : Int) : Bool := atP v (varN l) != decide (l % 2 = 1)
/-- The first k values at their literals. -/
def putN (v : List Bool) (ls : List Int) (bs : List Bool) : Nat → List Bool
  | 0 => v
  | k + 1 => (putN v ls bs k).set (varN (atP ls k)) (atP bs k)
def Circ.startK (C : Circ) (st is : List Bool) (k j : Nat) : List Bool := putN (putN (List.replicate (C.max.toNat + 1) false) C.ins is k) (C.lats.map (·.1)) st j
def Circ.start (C : Circ) (st is : List Bool) : List Bool := C.startK st is C.ins.length C.lats.length
def andB (v : List Bool) (t : Tri) : Bool := litV v t.2.1 && litV v t.2.2
def andV (v : List Bool) (t : Tri) : List Bool := v.set (varN t.1) (andB v t)
/-- The first k Ands of the turn are settled. -/
def Circ.settleN (C : Circ) (v : List Bool) : Nat → List Bool
  | 0 => v
  | k + 1 => andV (Circ.settleN C v k) (atP C.ands (atP C.turn k))
def Circ.vals (C : Circ) (st is : List Bool) : List Bool := C.settleN (C.start st is) C.turn.length
/-- All Ands once, and whether one of them turned. -/
def Circ.sweep (C : Circ) (v : List Bool) : Nat → List Bool × Bool
  | 0 => (v, false)
  | k + 1 => (andV (Circ.sweep C v k).1 (atP C.ands k), (Circ.sweep C v k).2 || (atP (Circ.sweep C v k).1 (varN (atP C.ands k).1) != andB (Circ.sweep C v k).1 (atP C.ands k)))
def Circ.iter (C : Circ) : Nat → List Bool → List Bool
  | 0, v => v
  | f + 1, v => if (C.sweep v C.ands.length).2 = true then Circ.iter C f (C.sweep v C.ands.length).1 else (C.sweep v C.ands.length).1

theorem putN_len (v : List Bool) (ls : List Int) (bs : List Bool) : ∀ k, (putN v ls bs k).length = v.length
  | 0 => rfl
  | k + 1 => by show ((putN v ls bs k).set _ _).length = _; rw [List.length_set, putN_len v ls bs k]
theorem start_len (C : Circ) (st is : List Bool) : (C.start st is).length = C.max.toNat + 1 := by
  unfold Circ.start Circ.startK; rw [putN_len, putN_len, List.length_replicate]
theorem settle_len (C : Circ) (v : List Bool) : ∀ k, (C.settleN v k).length = v.length
  | 0 => rfl
  | k + 1 => by show (andV (C.settleN v k) _).length = _; unfold andV; rw [List.length_set, settle_len C v k]
theorem vals_len (C : Circ) (st is : List Bool) : (C.vals st is).length = C.max.toNat + 1 := by unfold Circ.vals; rw [settle_len, start_len]

theorem bSet {v : List Bool} {i j : Nat} {x : Bool} (hi : i < v.length) : atP (v.set i x) j = if j = i then x else atP v j := by
  by_cases h : j = i
  · subst h; rw [if_pos rfl, at_set_same v j x hi]
  · rw [if_neg h, at_set_other v i j x (fun e => h e.symm)]

theorem nodup_inj {α : Type} [Inhabited α] {l : List α} (hn : l.Nodup) {i j : Nat} (hi : i < l.length) (hj : j < l.length) (h : atP l i = atP l j) : i = j := by
  rw [atP_eq _ _ hi, atP_eq _ _ hj] at h
  have hp := List.pairwise_iff_getElem.1 hn
  rcases Nat.lt_trichotomy i j with h1 | h1 | h1
  · exact absurd h (hp i j hi hj h1)
  · exact h1
  · exact absurd h.symm (hp j i hj hi h1)
theorem turn_inj {C : Circ} {i j : Nat} (hi : i < C.turn.length) (hj : j < C.turn.length) (h : atP C.turn i = atP C.turn j) : i = j := nodup_inj (turn_nodup C) hi hj h
theorem turn_at {C : Circ} (hR : Right C) {i : Nat} (hi : i < C.ands.length) : ∃ j, j < C.ands.length ∧ atP C.turn j = i := by
  obtain ⟨j, hj, e⟩ := List.getElem_of_mem (turn_mem hR hi)
  exact ⟨j, by rw [← hR.turn]; exact hj, by rw [atP_eq _ _ hj]; exact e⟩
theorem turn_in {C : Circ} (hR : Right C) {j : Nat} (hj : j < C.ands.length) : atP C.turn j < C.ands.length := turn_lt _ (atP_mem _ _ (by rw [hR.turn]; exact hj))
theorem gateLt {C : Circ} (hR : Right C) {i : Nat} (hi : i < C.ands.length) : C.gateOf i < C.max.toNat + 1 := (own_lit hR.lits (made_and hi)).2

/-- A side of the And that is taken at j is no And's variable, or that of one taken ahead. -/
theorem side_at {C : Circ} (hR : Right C) {j : Nat} (hj : j < C.ands.length) {s : Nat} (hs : s ∈ C.sides (atP C.turn j)) : s ∉ C.gates ∨ ∃ i, i < j ∧ s = C.gateOf (atP C.turn i) := by
  have hj' : j < C.turn.length := by rw [hR.turn]; exact hj
  have h := turn_ready C j hj'
  unfold Circ.readyB Circ.waitsL at h
  rw [List.isEmpty_iff] at h
  have h2 := List.filter_eq_nil_iff.1 h s hs
  by_cases hg : s ∈ C.gates
  · right
    have h3 : s ∈ (C.turn.take j).map C.gateOf := by
      by_cases h4 : s ∈ (C.turn.take j).map C.gateOf
      · exact h4
      · exact absurd (by simp only [hg, h4, decide_true, decide_false, Bool.not_false, Bool.and_self]) h2
    obtain ⟨x, hx, e⟩ := List.mem_map.1 h3
    obtain ⟨i, hi, e2⟩ := List.getElem_of_mem hx
    rw [List.length_take] at hi
    refine ⟨i, by omega, ?_⟩
    rw [atP_eq _ _ (by omega), ← e, ← e2, List.getElem_take]
  · exact .inl hg

/-- Settling what is behind k turns none but these. -/
theorem settle_keeps {C : Circ} (hR : Right C) (v : List Bool) (hv : v.length = C.max.toNat + 1) {k : Nat} : ∀ d, k + d ≤ C.ands.length → ∀ x, (∀ i, k ≤ i → i < k + d → x ≠ C.gateOf (atP C.turn i)) → atP (C.settleN v (k + d)) x = atP (C.settleN v k) x
  | 0, _, _, _ => rfl
  | d + 1, hd, x, hx => by
    show atP (andV (C.settleN v (k + d)) (atP C.ands (atP C.turn (k + d)))) x = _
    unfold andV
    rw [bSet (by rw [settle_len, hv]; exact gateLt hR (turn_in hR (by omega))), if_neg (by exact hx (k + d) (by omega) (by omega))]
    exact settle_keeps hR v hv d (by omega) x (fun i h1 h2 => hx i h1 (by omega))

theorem lit_same {v u : List Bool} {l : Int} (h : atP v (varN l) = atP u (varN l)) : litV v l = litV u l := by unfold litV; rw [h]
theorem and_same {v u : List Bool} {t : Tri} (h1 : atP v (varN t.2.1) = atP u (varN t.2.1)) (h2 : atP v (varN t.2.2) = atP u (varN t.2.2)) : andB v t = andB u t := by
  unfold andB; rw [lit_same h1, lit_same h2]

/-- What is settled meets every And, and is what it was where no And is. -/
theorem vals_and {C : Circ} (hR : Right C) (v : List Bool) (hv : v.length = C.max.toNat + 1) {i : Nat} (hi : i < C.ands.length) : atP (C.settleN v C.turn.length) (C.gateOf i) = andB (C.settleN v C.turn.length) (atP C.ands i) := by
  obtain ⟨j, hj, rfl⟩ := turn_at hR hi
  rw [hR.turn]
  have hkeep : ∀ x, (∀ i, j + 1 ≤ i → i < C.ands.length → x ≠ C.gateOf (atP C.turn i)) → atP (C.settleN v C.ands.length) x = atP (C.settleN v (j + 1)) x := fun x hx => by
    have e : C.ands.length = (j + 1) + (C.ands.length - (j + 1)) := by omega
    rw [e]
    exact settle_keeps hR v hv _ (by omega) x (fun i h1 h2 => hx i h1 (by omega))
  have hne : ∀ i i', i < C.ands.length → i' < C.ands.length → i ≠ i' → C.gateOf (atP C.turn i) ≠ C.gateOf (atP C.turn i') := fun i i' h1 h2 hn e =>
    hn (turn_inj (by rw [hR.turn]; exact h1) (by rw [hR.turn]; exact h2) (gate_inj (gates_nodup hR.once) (turn_in hR h1) (turn_in hR h2) e))
  have hside : ∀ s ∈ C.sides (atP C.turn j), atP (C.settleN v C.ands.length) s = atP (C.settleN v j) s := fun s hs => by
    have h1 : s ≠ C.gateOf (atP C.turn j) ∧ (∀ i, j + 1 ≤ i → i < C.ands.length → s ≠ C.gateOf (atP C.turn i)) := by
      rcases side_at hR hj hs with hg | ⟨i, hij, rfl⟩
      · exact ⟨fun e => hg (e ▸ gate_mem C _ (turn_in hR hj)), fun i h1 h2 e => hg (e ▸ gate_mem C _ (turn_in hR h2))⟩
      · exact ⟨hne _ _ (by omega) hj (by omega), fun i' h1 h2 => hne _ _ (by omega) h2 (by omega)⟩
    rw [hkeep s h1.2]
    show atP (andV (C.settleN v j) _) s = _
    unfold andV
    rw [bSet (by rw [settle_len, hv]; exact gateLt hR (turn_in hR hj))]
    exact if_neg h1.1
  rw [hkeep _ (fun i h1 h2 => hne _ _ hj h2 (by omega))]
  have e1 : andB (C.settleN v C.ands.length) (atP C.ands (atP C.turn j)) = andB (C.settleN v j) (atP C.ands (atP C.turn j)) :=
    and_same (hside _ (by unfold Circ.sides; simp)) (hside _ (by unfold Circ.sides; simp))
  rw [e1]
  show atP (andV (C.settleN v j) _) _ = _
  unfold andV
  rw [bSet (by rw [settle_len, hv]; exact gateLt hR (turn_in hR hj))]
  exact if_pos rfl
theorem vals_other {C : Circ} (hR : Right C) (v : List Bool) (hv : v.length = C.max.toNat + 1) {x : Nat} (hx : x ∉ C.gates) : atP (C.settleN v C.turn.length) x = atP v x := by
  rw [hR.turn]
  have := settle_keeps hR v hv (k := 0) C.ands.length (by omega) x (fun i _ h2 e => hx (e ▸ gate_mem C _ (turn_in hR (by omega))))
  rw [Nat.zero_add] at this
  exact this

/-- v is a list of a circuit's values that is as v0 is where no And is. -/
structure Based (C : Circ) (v0 v : List Bool) : Prop where
  len : v.length = C.max.toNat + 1
  other : ∀ x, x ∉ C.gates → atP v x = atP v0 x
/-- The first k Ands of the turn are what they must be. -/
def UpTo (C : Circ) (s v : List Bool) (k : Nat) : Prop := ∀ j, j < k → j < C.ands.length → atP v (C.gateOf (atP C.turn j)) = atP s (C.gateOf (atP C.turn j))

theorem list_ext_atP {u v : List Bool} (hl : u.length = v.length) (h : ∀ i, i < u.length → atP u i = atP v i) : u = v := by
  refine List.ext_getElem hl (fun i h1 h2 => ?_)
  have := h i h1
  rwa [atP_eq _ _ h1, atP_eq _ _ h2] at this

section
variable {C : Circ} {v0 : List Bool}

theorem and_key (hR : Right C) (hl : v0.length = C.max.toNat + 1) {v : List Bool} (hb : Based C v0 v) {k : Nat} (hk : UpTo C (C.settleN v0 C.turn.length) v k) {j : Nat} (hj : j < C.ands.length) (hjk : j ≤ k) :
    andB v (atP C.ands (atP C.turn j)) = atP (C.settleN v0 C.turn.length) (C.gateOf (atP C.turn j)) := by
  rw [vals_and hR v0 hl (turn_in hR hj)]
  have hside : ∀ s ∈ C.sides (atP C.turn j), atP v s = atP (C.settleN v0 C.turn.length) s := fun s hs => by
    rcases side_at hR hj hs with hg | ⟨i, hij, rfl⟩
    · rw [hb.other s hg, vals_other hR v0 hl hg]
    · exact hk i (by omega) (by omega)
  exact and_same (hside _ (by unfold Circ.sides; simp)) (hside _ (by unfold Circ.sides; simp))

theorem upTo_all (hR : Right C) (hl : v0.length = C.max.toNat + 1) {v : List Bool} (hb : Based C v0 v) (hk : UpTo C (C.settleN v0 C.turn.length) v C.ands.length) : v = C.settleN v0 C.turn.length := by
  refine list_ext_atP (by rw [hb.len, settle_len, hl]) (fun x _ => ?_)
  by_cases hg : x ∈ C.gates
  · rw [gates_eq] at hg
    obtain ⟨i, hi, rfl⟩ := List.mem_map.1 hg
    obtain ⟨j, hj, rfl⟩ := turn_at hR (List.mem_range.1 hi)
    exact hk j hj hj
  · rw [hb.other x hg, vals_other hR v0 hl hg]

/-- Values that meet every And are those that are settled. -/
theorem fix_all (hR : Right C) (hl : v0.length = C.max.toNat + 1) {v : List Bool} (hb : Based C v0 v) (hf : ∀ i, i < C.ands.length → atP v (C.gateOf i) = andB v (atP C.ands i)) : v = C.settleN v0 C.turn.length := by
  refine upTo_all hR hl hb ?_
  have h : ∀ k, UpTo C (C.settleN v0 C.turn.length) v k := fun k => by
    induction k with
    | zero => exact fun j hj => absurd hj (Nat.not_lt_zero _)
    | succ k ih =>
      intro j hj hj2
      rw [hf _ (turn_in hR hj2)]
      exact and_key hR hl hb ih hj2 (by omega)
  exact h _

theorem based_set (hR : Right C) {v : List Bool} (hb : Based C v0 v) {i : Nat} (hi : i < C.ands.length) : Based C v0 (andV v (atP C.ands i)) := by
  refine ⟨by unfold andV; rw [List.length_set]; exact hb.len, fun x hx => ?_⟩
  unfold andV
  rw [bSet (by rw [hb.len]; exact gateLt hR hi), if_neg (fun e => hx (by rw [e]; exact gate_mem C i hi))]
  exact hb.other x hx
theorem upTo_set (hR : Right C) (hl : v0.length = C.max.toNat + 1) {v : List Bool} (hb : Based C v0 v) {k : Nat} (hk : UpTo C (C.settleN v0 C.turn.length) v k) {i : Nat} (hi : i < C.ands.length) :
    UpTo C (C.settleN v0 C.turn.length) (andV v (atP C.ands i)) k ∧ (k < C.ands.length → atP C.turn k = i ∨ atP v (C.gateOf (atP C.turn k)) = atP (C.settleN v0 C.turn.length) (C.gateOf (atP C.turn k)) → UpTo C (C.settleN v0 C.turn.length) (andV v (atP C.ands i)) (k + 1)) := by
  have hg : ∀ x, atP (andV v (atP C.ands i)) x = if x = C.gateOf i then andB v (atP C.ands i) else atP v x := fun x => by
    unfold andV
    exact bSet (by rw [hb.len]; exact gateLt hR hi)
  have hone : ∀ j, j ≤ k → j < C.ands.length → (atP C.turn j = i ∨ atP v (C.gateOf (atP C.turn j)) = atP (C.settleN v0 C.turn.length) (C.gateOf (atP C.turn j))) → atP (andV v (atP C.ands i)) (C.gateOf (atP C.turn j)) = atP (C.settleN v0 C.turn.length) (C.gateOf (atP C.turn j)) := fun j hjk hj hor => by
    rw [hg]
    by_cases e : C.gateOf (atP C.turn j) = C.gateOf i
    · rw [if_pos e]
      have e2 := gate_inj (gates_nodup hR.once) (turn_in hR hj) hi e
      rw [← e2]
      exact and_key hR hl hb hk hj hjk
    · rw [if_neg e]
      rcases hor with h | h
      · exact absurd (by rw [h]) e
      · exact h
  refine ⟨fun j hj hj2 => hone j (by omega) hj2 (.inr (hk j hj hj2)), fun hkn hor j hj hj2 => ?_⟩
  by_cases e : j = k
  · subst e; exact hone j (Nat.le_refl _) hj2 hor
  · exact hone j (by omega) hj2 (.inr (hk j (by omega) hj2))

theorem sweep_good (hR : Right C) (hl : v0.length = C.max.toNat + 1) {v : List Bool} (hb : Based C v0 v) {k : Nat} (hk : UpTo C (C.settleN v0 C.turn.length) v k) : ∀ m, m ≤ C.ands.length →
    Based C v0 (C.sweep v m).1 ∧ UpTo C (C.settleN v0 C.turn.length) (C.sweep v m).1 k ∧ (k < C.ands.length → atP C.turn k < m → UpTo C (C.settleN v0 C.turn.length) (C.sweep v m).1 (k + 1)) ∧
    ((C.sweep v m).2 = false → (C.sweep v m).1 = v ∧ ∀ i, i < m → atP v (C.gateOf i) = andB v (atP C.ands i))
  | 0, _ => ⟨hb, hk, fun _ h => absurd h (Nat.not_lt_zero _), fun _ => ⟨rfl, fun i h => absurd h (Nat.not_lt_zero _)⟩⟩
  | m + 1, hm => by
    obtain ⟨h1, h2, h3, h4⟩ := sweep_good hR hl hb hk m (by omega)
    obtain ⟨g1, g2⟩ := upTo_set hR hl h1 h2 (show m < C.ands.length by omega)
    refine ⟨based_set hR h1 (by omega), g1, fun hkn ht => ?_, fun hf => ?_⟩
    · refine g2 hkn ?_
      by_cases e : atP C.turn k = m
      · exact .inl e
      · exact .inr (h3 hkn (by omega) k (by omega) hkn)
    · have hf' : ((C.sweep v m).2 || (atP (C.sweep v m).1 (varN (atP C.ands m).1) != andB (C.sweep v m).1 (atP C.ands m))) = false := hf
      rw [Bool.or_eq_false_iff] at hf'
      obtain ⟨e1, e2⟩ := h4 hf'.1
      have e3 := hf'.2
      rw [e1] at e3
      have e4 : atP v (varN (atP C.ands m).1) = andB v (atP C.ands m) := by simpa using e3
      refine ⟨?_, fun i hi => ?_⟩
      · show andV (C.sweep v m).1 (atP C.ands m) = v
        rw [e1]
        refine list_ext_atP (by unfold andV; rw [List.length_set]) (fun x _ => ?_)
        unfold andV
        rw [bSet (by rw [hb.len]; exact gateLt hR (by omega))]
        split
        · rename_i e; rw [e, e4]
        · rfl
      · by_cases e : i = m
        · subst e; exact e4
        · exact e2 i (by omega)

theorem iter_good (hR : Right C) (hl : v0.length = C.max.toNat + 1) : ∀ (f : Nat) (v : List Bool) (k : Nat), Based C v0 v → UpTo C (C.settleN v0 C.turn.length) v k → C.ands.length ≤ k + f → C.iter f v = C.settleN v0 C.turn.length
  | 0, v, k, hb, hk, hn => upTo_all hR hl hb (fun j hj hj2 => hk j (by omega) hj2)
  | f + 1, v, k, hb, hk, hn => by
    obtain ⟨h1, h2, h3, h4⟩ := sweep_good hR hl hb hk C.ands.length (Nat.le_refl _)
    show (if (C.sweep v C.ands.length).2 = true then Circ.iter C f (C.sweep v C.ands.length).1 else (C.sweep v C.ands.length).1) = _
    split
    · refine iter_good hR hl f _ (k + 1) h1 ?_ (by omega)
      by_cases hkn : k < C.ands.length
      · exact h3 hkn (turn_in hR hkn)
      · exact fun j hj hj2 => h2 j (by omega) hj2
    · rename_i hm
      obtain ⟨e1, e2⟩ := h4 (by simpa using hm)
      rw [e1]
      exact fix_all hR hl hb e2
end

/-- Going over all Ands as often as there are Ands tells what the turn tells. -/
theorem iter_vals {C : Circ} (hR : Right C) (st is : List Bool) : C.iter C.ands.length (C.start st is) = C.vals st is :=
  iter_good hR (start_len C st is) _ _ 0 ⟨start_len C st is, fun _ _ => rfl⟩ (fun _ h => absurd h (Nat.not_lt_zero _)) (by omega)

/-- What a step tells. -/
structure RowV where
  next : List Bool
  outs : List Bool
  bads : List Bool
  holds : Bool
def Circ.nexts (C : Circ) : List Int := C.lats.map (·.2.1)
def Circ.rowV (C : Circ) (v : List Bool) : RowV := ⟨C.nexts.map (litV v), C.outs.map (litV v), C.badsOr.map (litV v), C.cons.all (litV v)⟩
def RowV.nil : RowV := ⟨[], [], [], false⟩
def Circ.stepN (C : Circ) (sn inn : Nat) : Int := if C.checkI ≠ 0 then C.checkI else if sn = C.lats.length ∧ inn = C.ins.length then 0 else 1
/-- The error of a step. -/
def Circ.stepI (C : Circ) (st is : List Bool) : Int := if C.checkI ≠ 0 then C.checkI else if st.length = C.lats.length ∧ is.length = C.ins.length then 0 else 1
def Circ.valsE (C : Circ) (st is : List Bool) : List Bool := if C.stepI st is = 0 then C.vals st is else []
def Circ.stepE (C : Circ) (st is : List Bool) : RowV := if C.stepI st is = 0 then C.rowV (C.vals st is) else RowV.nil

/-- How many of the first k Latches may begin as they like. -/
def freeN (ts : List Tri) : Nat → Nat
  | 0 => 0
  | k + 1 => freeN ts k + if 1 < (atP ts k).2.2 then 1 else 0
def firstB (ts : List Tri) (fr : List Bool) (k : Nat) : Bool := if 1 < (atP ts k).2.2 then atP fr (freeN ts k) else decide ((atP ts k).2.2 = 1)
def firstN (ts : List Tri) (fr : List Bool) (k : Nat) : List Bool := (List.range k).map (firstB ts fr)
def Circ.firstE (C : Circ) (fr : List Bool) : List Bool := if C.checkI = 0 then firstN C.lats fr C.lats.length else []
theorem firstN_len (ts : List Tri) (fr : List Bool) (k : Nat) : (firstN ts fr k).length = k := by simp [firstN]
theorem firstN_succ (ts : List Tri) (fr : List Bool) (k : Nat) : firstN ts fr (k + 1) = firstN ts fr k ++ [firstB ts fr k] := by unfold firstN; rw [List.range_succ, List.map_append]; rfl
theorem reset_of {C : Circ} (hR : Right C) {k : Nat} (hk : k < C.lats.length) : (atP C.lats k).2.2 = 0 ∨ (atP C.lats k).2.2 = 1 ∨ ((atP C.lats k).2.2 = (atP C.lats k).1 ∧ 2 ≤ (atP C.lats k).1) := by
  have h1 := hR.lits.reset _ (atP_mem C.lats k hk)
  have h2 := hR.lits.own _ (made_lat hk)
  omega
end Go.Proofs.Ytppaifckiaaffaa

namespace Go.Proofs.Ytppaifckiaaffaa
open Go.RowKit

theorem putN_other (v : List Bool) (ls : List Int) (bs : List Bool) {x : Nat} : ∀ k, k ≤ ls.length → (∀ i, i < k → varN (atP ls i) ≠ x) → atP (putN v ls bs k) x = atP v x
  | 0, _, _ => rfl
  | k + 1, hk, h => by
    show atP ((putN v ls bs k).set (varN (atP ls k)) (atP bs k)) x = _
    rw [at_set_other _ _ _ _ (h k (by omega))]
    exact putN_other v ls bs k (by omega) (fun i hi => h i (by omega))
theorem putN_at (v : List Bool) (ls : List Int) (bs : List Bool) (hb : ∀ i, i < ls.length → varN (atP ls i) < v.length) (hd : ∀ i j, i < ls.length → j < ls.length → varN (atP ls i) = varN (atP ls j) → i = j) : ∀ k, k ≤ ls.length → ∀ i, i < k → atP (putN v ls bs k) (varN (atP ls i)) = atP bs i
  | 0, _, i, hi => absurd hi (Nat.not_lt_zero _)
  | k + 1, hk, i, hi => by
    show atP ((putN v ls bs k).set (varN (atP ls k)) (atP bs k)) _ = _
    rw [bSet (by rw [putN_len]; exact hb k (by omega))]
    by_cases e : i = k
    · subst e; exact if_pos rfl
    · rw [if_neg (fun e2 => e (hd i k (by omega) (by omega) e2))]
      exact putN_at v ls bs hb hd k (by omega) i (by omega)

theorem made_one {C : Circ} (hR : Right C) {i j : Nat} (hi : i < C.made.length) (hj : j < C.made.length) (h : varN (atP C.made i) = varN (atP C.made j)) : i = j := by
  have hn := vars_nodup hR
  unfold Circ.vars at hn
  refine nodup_inj hn (by rw [List.length_map]; exact hi) (by rw [List.length_map]; exact hj) ?_
  rw [atP_map _ _ _ hi, atP_map _ _ _ hj]
  exact h
theorem made_ins {C : Circ} {k : Nat} (hk : k < C.ins.length) : atP C.made k = atP C.ins k := by
  unfold Circ.made; rw [List.append_assoc, atP_left _ _ _ hk]
theorem made_lats {C : Circ} {k : Nat} (hk : k < C.lats.length) : atP C.made (C.ins.length + k) = (atP C.lats k).1 := by
  unfold Circ.made; rw [List.append_assoc, atP_right, atP_left _ _ _ (by rw [List.length_map]; exact hk), atP_map _ _ _ hk]
theorem made_ands {C : Circ} {k : Nat} (hk : k < C.ands.length) : atP C.made (C.ins.length + C.lats.length + k) = (atP C.ands k).1 := by
  unfold Circ.made
  have e : (C.ins ++ C.lats.map (·.1)).length = C.ins.length + C.lats.length := by simp
  rw [← e, atP_right, atP_map _ _ _ hk]

/-- What the variables are ahead of the Ands. -/
theorem start_in {C : Circ} (hR : Right C) (st is : List Bool) {k : Nat} (hk : k < C.ins.length) : atP (C.start st is) (varN (atP C.ins k)) = atP is k := by
  unfold Circ.start Circ.startK
  have hm := made_len C
  rw [putN_other]
  · refine putN_at _ _ _ (fun i hi => ?_) (fun i j hi hj e => ?_) _ (Nat.le_refl _) k hk
    · rw [List.length_replicate]; exact (own_lit hR.lits (made_in hi)).2
    · rw [← made_ins hi, ← made_ins hj] at e
      exact made_one hR (by omega) (by omega) e
  · rw [List.length_map]; exact Nat.le_refl _
  · intro i hi e
    rw [atP_map _ _ _ hi, ← made_lats hi, ← made_ins hk] at e
    have := made_one hR (by omega) (by omega) e
    omega
theorem start_lat {C : Circ} (hR : Right C) (st is : List Bool) {k : Nat} (hk : k < C.lats.length) : atP (C.start st is) (varN (atP C.lats k).1) = atP st k := by
  unfold Circ.start Circ.startK
  have hm := made_len C
  have e : (atP C.lats k).1 = atP (C.lats.map (·.1)) k := (atP_map _ _ _ hk).symm
  rw [e]
  refine putN_at _ _ _ (fun i hi => ?_) (fun i j hi hj e => ?_) _ (by rw [List.length_map]; exact Nat.le_refl _) k hk
  · rw [putN_len, List.length_replicate]
    rw [List.length_map] at hi
    rw [atP_map _ _ _ hi]
    exact (own_lit hR.lits (made_lat hi)).2
  · rw [List.length_map] at hi hj
    rw [atP_map _ _ _ hi, atP_map _ _ _ hj, ← made_lats hi, ← made_lats hj] at e
    have := made_one hR (by omega) (by omega) e
    omega
theorem start_none {C : Circ} (st is : List Bool) {x : Nat} (h1 : ∀ k, k < C.ins.length → varN (atP C.ins k) ≠ x) (h2 : ∀ k, k < C.lats.length → varN (atP C.lats k).1 ≠ x) : atP (C.start st is) x = false := by
  unfold Circ.start Circ.startK
  rw [putN_other _ _ _ _ (by rw [List.length_map]; exact Nat.le_refl _) (fun i hi => by rw [atP_map _ _ _ hi]; exact h2 i hi), putN_other _ _ _ _ (Nat.le_refl _) h1]
  by_cases hx : x < C.max.toNat + 1
  · exact atP_replicate _ _ _ hx
  · simp [atP, List.getD_eq_getElem?_getD, hx]

theorem vars_mem {C : Circ} {x : Nat} : x ∈ C.vars ↔ (∃ k, k < C.ins.length ∧ varN (atP C.ins k) = x) ∨ (∃ k, k < C.lats.length ∧ varN (atP C.lats k).1 = x) ∨ x ∈ C.gates := by
  rw [vars_eq, List.mem_append, List.mem_append, List.mem_map, List.mem_map]
  constructor
  · rintro (⟨l, hl, e⟩ | ⟨t, ht, e⟩ | h)
    · obtain ⟨k, hk, e2⟩ := List.getElem_of_mem hl
      exact .inl ⟨k, hk, by rw [atP_eq _ _ hk, e2]; exact e⟩
    · obtain ⟨k, hk, e2⟩ := List.getElem_of_mem ht
      exact .inr (.inl ⟨k, hk, by rw [atP_eq _ _ hk, e2]; exact e⟩)
    · exact .inr (.inr h)
  · rintro (⟨k, hk, e⟩ | ⟨k, hk, e⟩ | h)
    · exact .inl ⟨_, atP_mem _ _ hk, e⟩
    · exact .inr (.inl ⟨_, atP_mem _ _ hk, e⟩)
    · exact .inr (.inr h)

theorem gates_pos {C : Circ} (hR : Right C) {x : Nat} (h : x ∈ C.gates) : 0 < x := (vars_pos hR (vars_mem.2 (.inr (.inr h)))).1
/-- Variable 0, and those that are none, are false. -/
theorem vals_none {C : Circ} (hR : Right C) (st is : List Bool) {x : Nat} (h : x ∉ C.vars) : atP (C.vals st is) x = false := by
  unfold Circ.vals
  rw [vals_other hR _ (start_len C st is) (fun hg => h (vars_mem.2 (.inr (.inr hg))))]
  exact start_none st is (fun k hk e => h (vars_mem.2 (.inl ⟨k, hk, e⟩))) (fun k hk e => h (vars_mem.2 (.inr (.inl ⟨k, hk, e⟩))))
theorem vals_zero {C : Circ} (hR : Right C) (st is : List Bool) : atP (C.vals st is) 0 = false := vals_none hR st is (fun h => absurd (vars_pos hR h).1 (Nat.lt_irrefl _))

theorem varN_renL {C : Circ} (l : Int) (h : 0 ≤ atP C.ren (varN l)) : varN (renL C.ren l) = (atP C.ren (varN l)).toNat := by
  unfold renL varN at *
  omega
theorem odd_renL (r : List Int) (l : Int) : decide (renL r l % 2 = 1) = decide (l % 2 = 1) := by
  unfold renL
  have : (2 * atP r (varN l) + l % 2) % 2 = l % 2 := by omega
  rw [this]
theorem ren_nonneg {C : Circ} (hR : Right C) {x : Nat} (h : x = 0 ∨ x ∈ C.vars) : 0 ≤ atP C.ren x := by
  rcases h with rfl | h
  · rw [ren_zero hR]; exact Int.le_refl _
  · obtain ⟨i, -, -, e⟩ := ren_var hR h
    rw [e]; omega

/-- What the variables are, put in order. -/
def Circ.back (C : Circ) (u : List Bool) : List Bool := (List.range (C.max.toNat + 1)).map (fun x => if x ∈ C.vars then atP u (atP C.ren x).toNat else false)
theorem back_at {C : Circ} (u : List Bool) {x : Nat} (hx : x < C.max.toNat + 1) : atP (C.back u) x = if x ∈ C.vars then atP u (atP C.ren x).toNat else false := by
  unfold Circ.back
  rw [atP_map _ _ _ (by rw [List.length_range]; exact hx)]
  have : atP (List.range (C.max.toNat + 1)) x = x := by rw [atP_eq _ _ (by rw [List.length_range]; exact hx), List.getElem_range]
  rw [this]

theorem back_vals {C : Circ} (hc : C.checkI = 0) (st is : List Bool) : C.back (C.norm.vals st is) = C.vals st is := by
  have hR := right_of hc
  have hD := right_of (norm_check hc)
  have hlen : (C.back (C.norm.vals st is)).length = C.max.toNat + 1 := by unfold Circ.back; simp
  have hlit : ∀ l, (varN l = 0 ∨ varN l ∈ C.vars) → litV (C.norm.vals st is) (renL C.ren l) = litV (C.back (C.norm.vals st is)) l := fun l hl => by
    have h0 := ren_nonneg hR hl
    unfold litV
    rw [odd_renL, varN_renL l h0]
    rcases hl with hl | hl
    · rw [hl, ren_zero hR, back_at _ (by omega), if_neg (fun h => absurd (vars_pos hR h).1 (Nat.lt_irrefl _))]
      rw [show (0 : Int).toNat = 0 from rfl, vals_zero hD]
    · rw [back_at _ (vars_pos hR hl).2, if_pos hl]
  show C.back (C.norm.vals st is) = C.settleN (C.start st is) C.turn.length
  refine fix_all hR (start_len C st is) ⟨hlen, fun x hx => ?_⟩ (fun i hi => ?_)
  · by_cases hxl : x < C.max.toNat + 1
    · rw [back_at _ hxl]
      by_cases hv : x ∈ C.vars
      · rw [if_pos hv]
        rcases vars_mem.1 hv with ⟨k, hk, rfl⟩ | ⟨k, hk, rfl⟩ | hg
        · have hkD : k < C.norm.ins.length := by show k < (C.ins.map _).length; rw [List.length_map]; exact hk
          have e : varN (atP C.norm.ins k) = (atP C.ren (varN (atP C.ins k))).toNat := by
            show varN (atP (C.ins.map (renL C.ren)) k) = _
            rw [atP_map _ _ _ hk, varN_renL _ (ren_nonneg hR (.inr hv))]
          rw [start_in hR st is hk, ← e]
          unfold Circ.vals
          rw [vals_other hD _ (start_len _ _ _), start_in hD st is hkD]
          intro hg
          rw [gates_eq] at hg
          obtain ⟨j, hj, e2⟩ := List.mem_map.1 hg
          have hj' := List.mem_range.1 hj
          have hm := made_len C.norm
          unfold Circ.gateOf at e2
          rw [← made_ands hj', ← made_ins hkD] at e2
          have := made_one hD (by omega) (by omega) e2
          omega
        · have hkD : k < C.norm.lats.length := by show k < (C.lats.map _).length; rw [List.length_map]; exact hk
          have e : varN (atP C.norm.lats k).1 = (atP C.ren (varN (atP C.lats k).1)).toNat := by
            show varN (atP (C.lats.map (renT C.ren)) k).1 = _
            rw [atP_map _ _ _ hk]
            exact varN_renL _ (ren_nonneg hR (.inr hv))
          rw [start_lat hR st is hk, ← e]
          unfold Circ.vals
          rw [vals_other hD _ (start_len _ _ _), start_lat hD st is hkD]
          intro hg
          rw [gates_eq] at hg
          obtain ⟨j, hj, e2⟩ := List.mem_map.1 hg
          have hj' := List.mem_range.1 hj
          have hm := made_len C.norm
          unfold Circ.gateOf at e2
          rw [← made_ands hj', ← made_lats hkD] at e2
          have := made_one hD (by omega) (by omega) e2
          omega
        · exact absurd hg hx
      · rw [if_neg hv, start_none st is (fun k hk e => hv (vars_mem.2 (.inl ⟨k, hk, e⟩))) (fun k hk e => hv (vars_mem.2 (.inr (.inl ⟨k, hk, e⟩))))]
    · have h1 := hlen
      have h2 := start_len C st is
      rw [show atP (C.back (C.norm.vals st is)) x = false by simp [atP, List.getD_eq_getElem?_getD, List.getElem?_eq_none (show (C.back (C.norm.vals st is)).length ≤ x by omega)]]
      rw [show atP (C.start st is) x = false by simp [atP, List.getD_eq_getElem?_getD, List.getElem?_eq_none (show (C.start st is).length ≤ x by omega)]]
  · obtain ⟨j, hj, rfl⟩ := turn_at hR hi
    have hjT : j < C.turn.length := by rw [hR.turn]; exact hj
    have hjD : j < C.norm.ands.length := by rw [norm_ands_len hR]; exact hj
    have hg : C.gateOf (atP C.turn j) ∈ C.vars := vars_mem.2 (.inr (.inr (gate_mem C _ hi)))
    have ea : atP C.norm.ands j = renA C.ren (atP C.ands (atP C.turn j)) := by
      show atP (C.turn.map (fun i => renA C.ren (atP C.ands i))) j = _
      rw [atP_map _ _ _ hjT]
    have eg : C.norm.gateOf j = (atP C.ren (C.gateOf (atP C.turn j))).toNat := by
      unfold Circ.gateOf
      rw [ea]
      exact varN_renL _ (ren_nonneg hR (.inr hg))
    have h1 := vals_and hD _ (start_len C.norm st is) hjD
    change atP (C.norm.vals st is) _ = andB (C.norm.vals st is) _ at h1
    rw [eg, ea] at h1
    rw [back_at _ (vars_pos hR hg).2, if_pos hg, h1]
    have hu : ∀ l, l = (atP C.ands (atP C.turn j)).2.1 ∨ l = (atP C.ands (atP C.turn j)).2.2 → varN l = 0 ∨ varN l ∈ C.vars := fun l hl => by
      refine used_var hR ?_
      unfold Circ.used
      refine List.mem_append_right _ (List.mem_flatMap.2 ⟨_, atP_mem _ _ hi, ?_⟩)
      rcases hl with rfl | rfl <;> simp
    have e1 := hlit _ (hu _ (.inl rfl))
    have e2 := hlit _ (hu _ (.inr rfl))
    unfold andB renA
    dsimp only
    rw [← e1, ← e2]
    rcases Int.le_total (renL C.ren (atP C.ands (atP C.turn j)).2.1) (renL C.ren (atP C.ands (atP C.turn j)).2.2) with h | h
    · rw [Int.max_eq_right h, Int.min_eq_left h, Bool.and_comm]
    · rw [Int.max_eq_left h, Int.min_eq_right h]

/-- A literal in order is what it was. -/
theorem norm_litV {C : Circ} (hc : C.checkI = 0) (st is : List Bool) {l : Int} (hl : l ∈ C.used) : litV (C.norm.vals st is) (renL C.ren l) = litV (C.vals st is) l := by
  have hR := right_of hc
  have hD := right_of (norm_check hc)
  have hv := used_var hR hl
  have h0 := ren_nonneg hR hv
  rw [← back_vals hc st is]
  unfold litV
  rw [odd_renL, varN_renL l h0]
  rcases hv with hv | hv
  · rw [hv, ren_zero hR, back_at _ (by omega), if_neg (fun h => absurd (vars_pos hR h).1 (Nat.lt_irrefl _)), show (0 : Int).toNat = 0 from rfl, vals_zero hD]
  · rw [back_at _ (vars_pos hR hv).2, if_pos hv]

theorem map_litV {C : Circ} (hc : C.checkI = 0) (st is : List Bool) {ls : List Int} (h : ∀ l ∈ ls, l ∈ C.used) : (ls.map (renL C.ren)).map (litV (C.norm.vals st is)) = ls.map (litV (C.vals st is)) := by
  rw [List.map_map]
  exact List.map_congr_left (fun l hl => norm_litV hc st is (h l hl))
theorem norm_rowV {C : Circ} (hc : C.checkI = 0) (st is : List Bool) : C.norm.rowV (C.norm.vals st is) = C.rowV (C.vals st is) := by
  have hn : C.norm.nexts = C.nexts.map (renL C.ren) := by
    show (C.lats.map (renT C.ren)).map (·.2.1) = (C.lats.map (·.2.1)).map (renL C.ren)
    rw [List.map_map, List.map_map]; rfl
  have hb : C.norm.badsOr = C.badsOr.map (renL C.ren) := by
    unfold Circ.badsOr
    show (if (C.bads.map (renL C.ren)).length = 0 then C.outs.map (renL C.ren) else C.bads.map (renL C.ren)) = _
    rw [List.length_map]
    split <;> rfl
  have h1 : ∀ l ∈ C.nexts, l ∈ C.used := fun l hl => by unfold Circ.used; unfold Circ.nexts at hl; simp only [List.mem_append]; exact .inl (.inl (.inl (.inl hl)))
  have h2 : ∀ l ∈ C.outs, l ∈ C.used := fun l hl => by unfold Circ.used; simp only [List.mem_append]; exact .inl (.inl (.inl (.inr hl)))
  have h3 : ∀ l ∈ C.badsOr, l ∈ C.used := fun l hl => by
    unfold Circ.badsOr at hl
    split at hl
    · exact h2 l hl
    · unfold Circ.used; simp only [List.mem_append]; exact .inl (.inl (.inr hl))
  have h4 : ∀ l ∈ C.cons, l ∈ C.used := fun l hl => by unfold Circ.used; simp only [List.mem_append]; exact .inl (.inr hl)
  unfold Circ.rowV
  rw [hn, hb, map_litV hc st is h1, map_litV hc st is h3]
  have ho : C.norm.outs = C.outs.map (renL C.ren) := rfl
  have hk : C.norm.cons = C.cons.map (renL C.ren) := rfl
  rw [ho, hk, map_litV hc st is h2]
  congr 1
  rw [List.all_map]
  exact List.all_congr rfl (fun l => rfl) |>.trans (by
    rw [Bool.eq_iff_iff, List.all_eq_true, List.all_eq_true]
    exact ⟨fun h l hl => by rw [← norm_litV hc st is (h4 l hl)]; exact h l hl, fun h l hl => by show litV _ (renL _ l) = true; rw [norm_litV hc st is (h4 l hl)]; exact h l hl⟩)
end Go.Proofs.Ytppaifckiaaffaa
