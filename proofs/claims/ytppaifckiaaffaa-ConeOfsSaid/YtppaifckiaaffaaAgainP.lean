/-
  A CIRCUIT WHOSE VARIABLES ARE IN ORDER: it is right, and its order is itself. No function of the program.
-/
import Derived.Test.YtppaifckiaaffaaNormBad
import Derived.Test.YtppaifckiaaffaaRefSort
namespace Go.Proofs.Ytppaifckiaaffaa
open Go.RowKit

theorem atP_set {r : List Int} {v u : Nat} {x : Int} (hv : v < r.length) : atP (r.set v x) u = if u = v then x else atP r u := by
  split
  · rename_i e; subst e; exact atP_set_same _ _ _ hv
  · rename_i e; exact atP_set_other _ _ _ _ (fun h => e h.symm)

theorem giveN_none (a : List Nat) : ∀ (r : List Int) (n v : Nat), v ∉ a → atP (giveN r n a) v = atP r v := by
  induction a with
  | nil => intro r n v _; rfl
  | cons x a ih =>
    intro r n v hv
    simp only [giveN]
    rw [ih _ _ v (fun h => hv (List.mem_cons_of_mem _ h)), atP_set_other _ _ _ _ (fun (h : x = v) => hv (by rw [← h]; exact List.mem_cons_self))]
theorem giveN_at (a : List Nat) : ∀ (r : List Int) (n : Nat), a.Nodup → (∀ v ∈ a, v < r.length) → ∀ i, i < a.length → atP (giveN r n a) (atP a i) = ((n + i + 1 : Nat) : Int) := by
  induction a with
  | nil => intro r n _ _ i hi; exact absurd hi (Nat.not_lt_zero _)
  | cons x a ih =>
    intro r n hd hl i hi
    rw [List.nodup_cons] at hd
    simp only [giveN]
    cases i with
    | zero =>
      rw [show atP (x :: a) 0 = x from rfl, giveN_none _ _ _ _ hd.1, atP_set_same _ _ _ (hl x List.mem_cons_self)]
    | succ i =>
      rw [show atP (x :: a) (i + 1) = atP a i from rfl, ih _ _ hd.2 (fun v hv => by rw [List.length_set]; exact hl v (List.mem_cons_of_mem _ hv)) i (by simpa using hi)]
      congr 1; omega

theorem turnA_ready {C : Circ} : ∀ (f : Nat) (T : List Nat), (∀ j, j < T.length → C.readyB (T.take j) (atP T j) = true) → ∀ j, j < (C.turnA f T).length → C.readyB ((C.turnA f T).take j) (atP (C.turnA f T) j) = true := by
  intro f
  induction f with
  | zero => intro T h; exact h
  | succ f ih =>
    intro T h
    unfold Circ.turnA
    cases hn : C.nextA T with
    | none => exact h
    | some x =>
      refine ih _ (fun j hj => ?_)
      by_cases e : j < T.length
      · rw [List.take_append_of_le_length (by omega), atP_left _ _ _ e]; exact h j e
      · obtain rfl : j = T.length := by simp at hj; omega
        rw [List.take_left', show atP (T ++ [x]) T.length = x from atP_right T [x] 0]
        · exact (nextA_lt hn).2.2
        · rfl
theorem turn_ready (C : Circ) : ∀ j, j < C.turn.length → C.readyB (C.turn.take j) (atP C.turn j) = true := turnA_ready _ [] (fun _j hj => absurd hj (Nat.not_lt_zero _))

theorem vars_nodup {C : Circ} (h : Right C) : C.vars.Nodup := of_decide_eq_true (by have := h.once; unfold Circ.onceB at this; exact this)
theorem vars_eq (C : Circ) : C.vars = C.ins.map varN ++ (C.lats.map (fun t => varN t.1) ++ C.gates) := by
  unfold Circ.vars Circ.made Circ.gates
  simp [List.map_append, List.map_map, Function.comp_def]
theorem turn_mem {C : Circ} (h : Right C) {i : Nat} (hi : i < C.ands.length) : i ∈ C.turn := by
  apply Classical.byContradiction
  intro hn
  have h1 := nodup_len C.ands.length (i :: C.turn) (List.nodup_cons.2 ⟨hn, turn_nodup C⟩) (fun t ht => by
    rcases List.mem_cons.1 ht with rfl | ht
    · exact hi
    · exact turn_lt t ht)
  rw [List.length_cons, h.turn] at h1
  omega
theorem gates_eq (C : Circ) : C.gates = (List.range C.ands.length).map C.gateOf := by
  apply List.ext_getElem
  · simp [Circ.gates]
  · intro i h1 h2
    have hi : i < C.ands.length := by simpa [Circ.gates] using h1
    simp [Circ.gates, Circ.gateOf, atP_eq C.ands i hi]
theorem tgates_mem {C : Circ} (h : Right C) {v : Nat} : v ∈ C.turn.map C.gateOf ↔ v ∈ C.gates := by
  rw [gates_eq]
  constructor
  · intro hv
    obtain ⟨i, hi, rfl⟩ := List.mem_map.1 hv
    exact List.mem_map.2 ⟨i, List.mem_range.2 (turn_lt i hi), rfl⟩
  · intro hv
    obtain ⟨i, hi, rfl⟩ := List.mem_map.1 hv
    exact List.mem_map.2 ⟨i, turn_mem h (List.mem_range.1 hi), rfl⟩
theorem order_mem {C : Circ} (h : Right C) {v : Nat} : v ∈ C.order ↔ v ∈ C.vars := by
  rw [vars_eq]
  unfold Circ.order
  rw [List.mem_append, List.mem_append, List.mem_append, List.mem_append, tgates_mem h]
theorem order_nodup {C : Circ} (h : Right C) : C.order.Nodup := by
  have hv := vars_nodup h
  rw [vars_eq, List.nodup_append, List.nodup_append] at hv
  obtain ⟨a1, ⟨a2, a3, a4⟩, a5⟩ := hv
  unfold Circ.order
  rw [List.nodup_append, List.nodup_append]
  refine ⟨a1, ⟨a2, ?_, fun a ha b hb => a4 a ha b ((tgates_mem h).1 hb)⟩, fun a ha b hb => a5 a ha b ?_⟩
  · refine List.pairwise_map.2 ((turn_nodup C).imp_of_mem (fun {a b} ha hb hab e => hab ?_))
    exact gate_inj a3 (turn_lt a ha) (turn_lt b hb) e
  · rcases List.mem_append.1 hb with hb | hb
    · exact List.mem_append_left _ hb
    · exact List.mem_append_right _ ((tgates_mem h).1 hb)
theorem vars_pos {C : Circ} (h : Right C) {v : Nat} (hv : v ∈ C.vars) : 0 < v ∧ v < C.max.toNat + 1 := by
  unfold Circ.vars at hv
  obtain ⟨l, hl, rfl⟩ := List.mem_map.1 hv
  have := h.lits.own l hl
  unfold varN
  omega
theorem ren_at {C : Circ} (h : Right C) {i : Nat} (hi : i < C.order.length) : atP C.ren (atP C.order i) = ((i + 1 : Nat) : Int) := by
  unfold Circ.ren
  rw [giveN_at _ _ _ (order_nodup h) (fun v hv => by rw [List.length_replicate]; exact (vars_pos h ((order_mem h).1 hv)).2) i hi, Nat.zero_add]
theorem ren_zero {C : Circ} (h : Right C) : atP C.ren 0 = 0 := by
  unfold Circ.ren
  rw [giveN_none _ _ _ _ (fun hv => by have := (vars_pos h ((order_mem h).1 hv)).1; omega), atP_replicate _ _ _ (by omega)]
theorem order_total {C : Circ} (h : Right C) : C.order.length = C.ins.length + C.lats.length + C.ands.length := by rw [order_len, h.turn]
/-- What a variable that is there becomes. -/
theorem ren_var {C : Circ} (h : Right C) {v : Nat} (hv : v ∈ C.vars) : ∃ i, i < C.order.length ∧ atP C.order i = v ∧ atP C.ren v = ((i + 1 : Nat) : Int) := by
  obtain ⟨i, hi, e⟩ := List.getElem_of_mem ((order_mem h).2 hv)
  have e2 : atP C.order i = v := by rw [atP_eq _ i hi]; exact e
  exact ⟨i, hi, e2, by rw [← e2]; exact ren_at h hi⟩
theorem used_var {C : Circ} (h : Right C) {l : Int} (hl : l ∈ C.used) : varN l = 0 ∨ varN l ∈ C.vars := by
  have := h.known
  unfold Circ.knownB at this
  have := List.all_eq_true.1 this l hl
  simpa using this
theorem renL_used {C : Circ} (h : Right C) {l : Int} (_h0 : 0 ≤ l) (hl : varN l = 0 ∨ varN l ∈ C.vars) : 0 ≤ renL C.ren l ∧ renL C.ren l ≤ 2 * (C.order.length : Int) + 1 ∧ varN (renL C.ren l) ≤ C.order.length := by
  have hr : 0 ≤ atP C.ren (varN l) ∧ atP C.ren (varN l) ≤ C.order.length := by
    rcases hl with e | e
    · rw [e, ren_zero h]; omega
    · obtain ⟨i, hi, _, e2⟩ := ren_var h e
      rw [e2]; omega
  unfold renL
  generalize atP C.ren (varN l) = x at hr
  unfold varN
  omega


/-- The literals that are made, as they are taken. -/
def Circ.mo (C : Circ) : List Int := C.ins ++ (C.lats.map (·.1) ++ C.turn.map (fun i => (atP C.ands i).1))
theorem mo_vars (C : Circ) : C.mo.map varN = C.order := by
  unfold Circ.mo Circ.order Circ.gateOf
  simp [List.map_append, List.map_map, Function.comp_def]
theorem mo_len (C : Circ) : C.mo.length = C.order.length := by rw [← mo_vars, List.length_map]
theorem mo_made {C : Circ} {l : Int} (h : l ∈ C.mo) : l ∈ C.made := by
  unfold Circ.mo at h
  unfold Circ.made
  rcases List.mem_append.1 h with h | h
  · exact List.mem_append_left _ (List.mem_append_left _ h)
  · rcases List.mem_append.1 h with h | h
    · exact List.mem_append_left _ (List.mem_append_right _ h)
    · obtain ⟨i, hi, rfl⟩ := List.mem_map.1 h
      exact List.mem_append_right _ (List.mem_map.2 ⟨_, atP_mem C.ands i (turn_lt i hi), rfl⟩)
theorem norm_made (C : Circ) : C.norm.made = C.mo.map (renL C.ren) := by
  unfold Circ.made Circ.mo Circ.norm
  simp [List.map_append, List.map_map, Function.comp_def, renT, renA]
def evens (T : Nat) : List Int := (List.range T).map (fun i : Nat => 2 * ((i + 1 : Nat) : Int))
theorem mo_ren {C : Circ} (h : Right C) {i : Nat} (hi : i < C.order.length) : renL C.ren (atP C.mo i) = 2 * ((i + 1 : Nat) : Int) := by
  have him : i < C.mo.length := by rw [mo_len]; exact hi
  have h1 := h.lits.own _ (mo_made (atP_mem C.mo i him))
  have h2 : varN (atP C.mo i) = atP C.order i := by rw [← mo_vars, atP_map _ _ _ him]
  unfold renL
  rw [h2, ren_at h hi]
  omega
theorem norm_evens {C : Circ} (h : Right C) : C.norm.made = evens C.order.length := by
  rw [norm_made]
  apply List.ext_getElem
  · simp [evens, mo_len]
  · intro i h1 h2
    have hi : i < C.order.length := by simpa [mo_len] using h1
    have him : i < C.mo.length := by rw [mo_len]; exact hi
    rw [List.getElem_map, ← atP_eq C.mo i him, mo_ren h hi]
    simp [evens]
theorem norm_vars {C : Circ} (h : Right C) : C.norm.vars = (List.range C.order.length).map (· + 1) := by
  unfold Circ.vars
  rw [norm_evens h]
  unfold evens
  rw [List.map_map]
  apply List.map_congr_left
  intro i _
  show varN (2 * ((i + 1 : Nat) : Int)) = i + 1
  unfold varN
  omega
theorem norm_gate {C : Circ} (h : Right C) {j : Nat} (hj : j < C.ands.length) : C.norm.gateOf j = C.ins.length + C.lats.length + j + 1 := by
  have hj' : j < C.turn.length := by rw [h.turn]; exact hj
  have hn : atP C.norm.ands j = renA C.ren (atP C.ands (atP C.turn j)) := atP_map (fun i => renA C.ren (atP C.ands i)) C.turn j hj'
  have hl := h.lits.own _ (made_and (turn_lt _ (atP_mem C.turn j hj')))
  have ho := order_and (C := C) hj'
  have hr := ren_at h (i := C.ins.length + C.lats.length + j) (by rw [order_total h]; omega)
  rw [ho] at hr
  unfold Circ.gateOf at hr ⊢
  rw [hn]
  show varN (renL C.ren (atP C.ands (atP C.turn j)).1) = _
  unfold renL
  rw [hr]
  unfold varN
  omega
/-- A literal that the new circuit uses was used. -/
theorem norm_used {C : Circ} {l : Int} (h : l ∈ C.norm.used) : ∃ x ∈ C.used, l = renL C.ren x := by
  unfold Circ.used at h ⊢
  have hm : ∀ (L : List Int), l ∈ L.map (renL C.ren) → ∃ x ∈ L, l = renL C.ren x := fun L hL => by
    obtain ⟨x, hx, e⟩ := List.mem_map.1 hL
    exact ⟨x, hx, e.symm⟩
  rcases List.mem_append.1 h with h | h
  · rcases List.mem_append.1 h with h | h
    · rcases List.mem_append.1 h with h | h
      · rcases List.mem_append.1 h with h | h
        · have e : C.norm.lats.map (·.2.1) = (C.lats.map (·.2.1)).map (renL C.ren) := by unfold Circ.norm; simp [List.map_map, Function.comp_def, renT]
          rw [e] at h
          obtain ⟨x, hx, e⟩ := hm _ h
          exact ⟨x, by simp only [List.mem_append]; exact .inl (.inl (.inl (.inl hx))), e⟩
        · obtain ⟨x, hx, e⟩ := hm _ h
          exact ⟨x, by simp only [List.mem_append]; exact .inl (.inl (.inl (.inr hx))), e⟩
      · obtain ⟨x, hx, e⟩ := hm _ h
        exact ⟨x, by simp only [List.mem_append]; exact .inl (.inl (.inr hx)), e⟩
    · obtain ⟨x, hx, e⟩ := hm _ h
      exact ⟨x, by simp only [List.mem_append]; exact .inl (.inr hx), e⟩
  · obtain ⟨t, ht, hl⟩ := List.mem_flatMap.1 h
    obtain ⟨i, hi, rfl⟩ := List.mem_map.1 ht
    have ha := atP_mem C.ands i (turn_lt i hi)
    have hu : ∀ x, x = (atP C.ands i).2.1 ∨ x = (atP C.ands i).2.2 → x ∈ C.ands.flatMap (fun a => [a.2.1, a.2.2]) := fun x hx => List.mem_flatMap.2 ⟨_, ha, by rcases hx with rfl | rfl <;> simp⟩
    have hc : l = renL C.ren (atP C.ands i).2.1 ∨ l = renL C.ren (atP C.ands i).2.2 := by
      simp only [renA, List.mem_cons, List.not_mem_nil, or_false] at hl
      omega
    rcases hc with e | e
    · exact ⟨_, List.mem_append_right _ (hu _ (.inl rfl)), e⟩
    · exact ⟨_, List.mem_append_right _ (hu _ (.inr rfl)), e⟩
theorem norm_lit {C : Circ} (h : Right C) {l : Int} (hl : l ∈ C.norm.used) : 0 ≤ l ∧ l ≤ 2 * (C.order.length : Int) + 1 ∧ varN l ≤ C.order.length := by
  obtain ⟨x, hx, rfl⟩ := norm_used hl
  exact renL_used h (h.lits.lit x hx).1 (used_var h hx)
theorem norm_max {C : Circ} (h : Right C) : C.norm.max = (C.order.length : Int) := by rw [order_total h]; rfl

theorem norm_litsB {C : Circ} (h : Right C) : C.norm.litsB = true := by
  unfold Circ.litsB Circ.top
  rw [norm_max h, norm_evens h]
  simp only [Bool.and_eq_true, decide_eq_true_eq, List.all_eq_true, ownB, litB, resetB, Bool.or_eq_true]
  refine ⟨by omega, fun l hl => ?_, fun l hl => ⟨(norm_lit h hl).1, (norm_lit h hl).2.1⟩, fun t ht => ?_⟩
  · unfold evens at hl
    obtain ⟨i, hi, rfl⟩ := List.mem_map.1 hl
    have := List.mem_range.1 hi
    omega
  · obtain ⟨x, hx, rfl⟩ := List.mem_map.1 (show t ∈ C.lats.map (renT C.ren) from ht)
    show renL C.ren x.2.2 = 0 ∨ renL C.ren x.2.2 = 1 ∨ renL C.ren x.2.2 = renL C.ren x.1
    rcases h.lits.reset x hx with e | e | e
    · left; rw [e]; unfold renL; rw [show varN 0 = 0 from rfl, ren_zero h]; rfl
    · right; left; rw [e]; unfold renL; rw [show varN 1 = 0 from rfl, ren_zero h]; rfl
    · right; right; rw [e]
theorem norm_namesB {C : Circ} (h : Right C) : C.norm.namesB = true := by
  have e : C.norm.symB = C.symB := by
    funext s
    unfold Circ.symB
    have e1 : C.norm.countK s.1 0 = C.countK s.1 0 := by unfold Circ.countK Circ.norm; simp
    rw [e1]
  have := h.names
  unfold Circ.namesB at this ⊢
  rw [e]
  exact this
theorem norm_onceB {C : Circ} (h : Right C) : C.norm.onceB = true := by
  unfold Circ.onceB
  rw [norm_vars h]
  apply decide_eq_true
  refine List.pairwise_map.2 (List.nodup_range.imp (fun {a b} hab e => hab ?_))
  omega
theorem norm_knownB {C : Circ} (h : Right C) : C.norm.knownB = true := by
  unfold Circ.knownB
  rw [norm_vars h, List.all_eq_true]
  intro l hl
  have := (norm_lit h hl).2.2
  simp only [Bool.or_eq_true, decide_eq_true_eq]
  by_cases e : varN l = 0
  · exact .inl e
  · exact .inr (List.mem_map.2 ⟨varN l - 1, List.mem_range.2 (by omega), by omega⟩)
theorem norm_ands_len {C : Circ} (h : Right C) : C.norm.ands.length = C.ands.length := by
  show (C.turn.map _).length = _
  rw [List.length_map, h.turn]

theorem norm_ready {C : Circ} (h : Right C) {j : Nat} (hj : j < C.ands.length) : C.norm.readyB (List.range j) j = true := by
  have hj' : j < C.turn.length := by rw [h.turn]; exact hj
  have hn : atP C.norm.ands j = renA C.ren (atP C.ands (atP C.turn j)) := atP_map (fun i => renA C.ren (atP C.ands i)) C.turn j hj'
  have hrd := turn_ready C j hj'
  unfold Circ.readyB at hrd ⊢
  rw [List.isEmpty_iff] at hrd ⊢
  unfold Circ.waitsL at hrd ⊢
  rw [List.filter_eq_nil_iff] at hrd ⊢
  intro s hs
  simp only [Bool.and_eq_true, decide_eq_true_eq, Bool.not_eq_true', decide_eq_false_iff_not, not_and, Classical.not_not]
  intro hg
  obtain ⟨l, hl, e⟩ : ∃ l, l ∈ [(atP C.ands (atP C.turn j)).2.1, (atP C.ands (atP C.turn j)).2.2] ∧ s = varN (renL C.ren l) := by
    unfold Circ.sides at hs
    rw [hn] at hs
    simp only [renA, List.mem_cons, List.not_mem_nil, or_false] at hs
    rcases Int.le_total (renL C.ren (atP C.ands (atP C.turn j)).2.1) (renL C.ren (atP C.ands (atP C.turn j)).2.2) with hle | hle
    · rw [Int.max_eq_right hle, Int.min_eq_left hle] at hs
      rcases hs with e | e
      · exact ⟨_, List.mem_cons_of_mem _ List.mem_cons_self, e⟩
      · exact ⟨_, List.mem_cons_self, e⟩
    · rw [Int.max_eq_left hle, Int.min_eq_right hle] at hs
      rcases hs with e | e
      · exact ⟨_, List.mem_cons_self, e⟩
      · exact ⟨_, List.mem_cons_of_mem _ List.mem_cons_self, e⟩
  have hlt := turn_lt _ (atP_mem C.turn j hj')
  have hlu : l ∈ C.used := by
    unfold Circ.used
    exact List.mem_append_right _ (List.mem_flatMap.2 ⟨_, atP_mem C.ands _ hlt, hl⟩)
  have hl0 := (h.lits.lit l hlu).1
  rw [gates_eq, norm_ands_len h] at hg
  obtain ⟨i, hi, hgi⟩ := List.mem_map.1 hg
  rw [norm_gate h (List.mem_range.1 hi)] at hgi
  have hsr : ∀ x : Nat, atP C.ren (varN l) = (x : Int) → s = x := fun x hx => by
    rw [e]
    unfold renL
    rw [hx]
    unfold varN
    omega
  rcases used_var h hlu with h0 | h0
  · have := hsr 0 (by rw [h0, ren_zero h]; rfl)
    omega
  · obtain ⟨i0, hi0, ho0, hr0⟩ := ren_var h h0
    have hs0 := hsr _ hr0
    have e0 : i0 = C.ins.length + C.lats.length + i := by omega
    subst e0
    have hit : i < C.turn.length := by rw [h.turn]; exact List.mem_range.1 hi
    rw [order_and hit] at ho0
    have hin : varN l ∈ C.gates := by rw [← ho0]; exact gate_mem C _ (turn_lt _ (atP_mem C.turn i hit))
    have hsd : varN l ∈ C.sides (atP C.turn j) := by
      unfold Circ.sides
      simp only [List.mem_cons, List.not_mem_nil, or_false] at hl ⊢
      rcases hl with rfl | rfl
      · exact .inl rfl
      · exact .inr rfl
    have := hrd _ hsd
    simp only [Bool.and_eq_true, decide_eq_true_eq, Bool.not_eq_true', decide_eq_false_iff_not, not_and, Classical.not_not] at this
    obtain ⟨p, hp, hpe⟩ := List.mem_map.1 (this hin)
    obtain ⟨q, hq, hqe⟩ := List.getElem_of_mem hp
    have hqj : q < j := by rw [List.length_take] at hq; omega
    have hqt : q < C.turn.length := by omega
    have hpq : p = atP C.turn q := by rw [atP_eq C.turn q hqt, ← hqe, List.getElem_take]
    have ho := order_and (C := C) hqt
    have hr := ren_at h (i := C.ins.length + C.lats.length + q) (by rw [order_total h]; have := h.turn; omega)
    rw [ho, ← hpq, hpe] at hr
    have hs1 := hsr _ hr
    refine List.mem_map.2 ⟨q, List.mem_range.2 hqj, ?_⟩
    rw [norm_gate h (by have := h.turn; omega), hs1]
theorem norm_next {C : Circ} (h : Right C) {j : Nat} (hj : j < C.ands.length) : C.norm.nextA (List.range j) = some j := by
  refine next_some' (by rw [norm_ands_len h]; exact hj) ?_ (fun i hi => ?_)
  · unfold Circ.freeB
    rw [norm_ready h hj]
    simp
  · unfold Circ.freeB
    simp [hi]
theorem norm_turnA {C : Circ} (h : Right C) : ∀ (f j : Nat), j + f ≤ C.ands.length → C.norm.turnA f (List.range j) = List.range (j + f) := by
  intro f
  induction f with
  | zero => intro j _; rfl
  | succ f ih =>
    intro j hj
    unfold Circ.turnA
    rw [norm_next h (by omega)]
    show C.norm.turnA f (List.range j ++ [j]) = _
    rw [← List.range_succ, ih (j + 1) (by omega), show j + 1 + f = j + (f + 1) by omega]
theorem norm_turn {C : Circ} (h : Right C) : C.norm.turn = List.range C.ands.length := by
  unfold Circ.turn
  have := norm_turnA h C.ands.length 0 (by omega)
  rw [norm_ands_len h]
  rw [Nat.zero_add] at this
  exact this
theorem norm_longB {C : Circ} (h : Right C) (hl : C.longB = false) : C.norm.longB = false := by
  have hp : C.norm.ports = C.ports := by unfold Circ.ports Circ.norm; simp
  unfold Circ.longB at hl ⊢
  rw [hp, norm_max h, norm_ands_len h]
  simp only [Bool.or_eq_false_iff, decide_eq_false_iff_not] at hl ⊢
  refine ⟨hl.1, ?_, hl.2.2.1, hl.2.2.2⟩
  have h1 := h.small.ins
  have h2 := h.small.lats
  have h3 := h.small.ands
  rw [order_total h]
  omega
theorem norm_check {C : Circ} (hc : C.checkI = 0) : C.norm.checkI = 0 := by
  have h := right_of hc
  have hl : C.longB = false := by
    cases e : C.longB with
    | false => rfl
    | true => unfold Circ.checkI at hc; rw [if_pos e] at hc; cases hc
  have hnm : C.norm.namedB = true := h.named
  unfold Circ.checkI
  rw [norm_longB h hl, norm_litsB h, norm_namesB h, norm_onceB h, hnm, norm_knownB h, norm_turn h, norm_ands_len h]
  simp


theorem circ_ext {A B : Circ} (h0 : A.max = B.max) (h1 : A.ins = B.ins) (h2 : A.lats = B.lats) (h3 : A.outs = B.outs) (h4 : A.bads = B.bads) (h5 : A.cons = B.cons) (h6 : A.ands = B.ands) (h7 : A.names = B.names) : A = B := by
  obtain ⟨a0, a1, a2, a3, a4, a5, a6, a7⟩ := A
  obtain ⟨b0, b1, b2, b3, b4, b5, b6, b7⟩ := B
  dsimp only at h0 h1 h2 h3 h4 h5 h6 h7
  subst h0 h1 h2 h3 h4 h5 h6 h7
  rfl

theorem norm_order {C : Circ} (h : Right C) : C.norm.order = (List.range C.order.length).map (· + 1) := by
  rw [← norm_vars h, vars_eq, gates_eq, norm_ands_len h]
  unfold Circ.order
  rw [norm_turn h]
theorem norm_ren {C : Circ} (hc : C.checkI = 0) {v : Nat} (hv : v ≤ C.order.length) : atP C.norm.ren v = (v : Int) := by
  have h := right_of hc
  have hN := right_of (norm_check hc)
  cases v with
  | zero => exact ren_zero hN
  | succ v =>
    have hl : v < C.norm.order.length := by rw [norm_order h]; simp; omega
    have := ren_at hN hl
    rw [norm_order h, atP_map _ _ _ (by simp; omega)] at this
    rw [show atP (List.range C.order.length) v = v by rw [atP_eq _ v (by simp; omega)]; simp] at this
    exact this
theorem norm_renL {C : Circ} (hc : C.checkI = 0) {l : Int} (h0 : 0 ≤ l) (hv : varN l ≤ C.order.length) : renL C.norm.ren l = l := by
  unfold renL
  rw [norm_ren hc hv]
  unfold varN
  omega
theorem norm_renU {C : Circ} (hc : C.checkI = 0) {l : Int} (hl : l ∈ C.norm.used) : renL C.norm.ren l = l :=
  norm_renL hc (norm_lit (right_of hc) hl).1 (norm_lit (right_of hc) hl).2.2
theorem norm_renM {C : Circ} (hc : C.checkI = 0) {l : Int} (hl : l ∈ C.norm.made) : renL C.norm.ren l = l := by
  rw [norm_evens (right_of hc)] at hl
  obtain ⟨i, hi, rfl⟩ := List.mem_map.1 hl
  have := List.mem_range.1 hi
  exact norm_renL hc (by omega) (by unfold varN; omega)
theorem map_same {α : Type} (f : α → α) (l : List α) (h : ∀ x ∈ l, f x = x) : l.map f = l := by
  rw [List.map_congr_left h]; exact List.map_id' l

theorem norm_norm {C : Circ} (hc : C.checkI = 0) : C.norm.norm = C.norm := by
  have h := right_of hc
  have hN := right_of (norm_check hc)
  have hu : ∀ L : List Int, (∀ l ∈ L, l ∈ C.norm.used) → L.map (renL C.norm.ren) = L := fun L hL => map_same _ _ (fun l hl => norm_renU hc (hL l hl))
  have hlat : ∀ t ∈ C.norm.lats, renT C.norm.ren t = t := fun t ht => by
    have e1 := norm_renM hc (l := t.1) (by unfold Circ.made; exact List.mem_append_left _ (List.mem_append_right _ (List.mem_map.2 ⟨t, ht, rfl⟩)))
    have e2 := norm_renU hc (l := t.2.1) (by unfold Circ.used; simp only [List.mem_append]; exact .inl (.inl (.inl (.inl (List.mem_map.2 ⟨t, ht, rfl⟩)))))
    have e3 : renL C.norm.ren t.2.2 = t.2.2 := by
      rcases hN.lits.reset t ht with e | e | e
      · rw [e]; exact norm_renL hc (by decide) (Nat.zero_le _)
      · rw [e]; exact norm_renL hc (by decide) (Nat.zero_le _)
      · rw [e]; exact e1
    unfold renT
    rw [e1, e2, e3]
  refine circ_ext ?_ ?_ ?_ ?_ ?_ ?_ ?_ rfl
  · show ((C.norm.ins.length + C.norm.lats.length + C.norm.ands.length : Nat) : Int) = C.norm.max
    rw [norm_ands_len h, norm_max h, order_total h]
    simp [Circ.norm]
  · exact map_same _ _ (fun l hl => norm_renM hc (by unfold Circ.made; exact List.mem_append_left _ (List.mem_append_left _ hl)))
  · exact map_same _ _ hlat
  · exact hu _ (fun l hl => by unfold Circ.used; simp only [List.mem_append]; exact .inl (.inl (.inl (.inr hl))))
  · exact hu _ (fun l hl => by unfold Circ.used; simp only [List.mem_append]; exact .inl (.inl (.inr hl)))
  · exact hu _ (fun l hl => by unfold Circ.used; simp only [List.mem_append]; exact .inl (.inr hl))
  · show C.norm.turn.map (fun i => renA C.norm.ren (atP C.norm.ands i)) = C.norm.ands
    rw [norm_turn h]
    apply List.ext_getElem
    · simp [norm_ands_len h]
    · intro i h1 h2
      have hi : i < C.norm.ands.length := h2
      rw [List.getElem_map, List.getElem_range, ← atP_eq C.norm.ands i hi]
      have hm := atP_mem C.norm.ands i hi
      have e1 := norm_renM hc (l := (atP C.norm.ands i).1) (made_and hi)
      have hs : ∀ x, x = (atP C.norm.ands i).2.1 ∨ x = (atP C.norm.ands i).2.2 → x ∈ C.norm.used := fun x hx => by
        unfold Circ.used
        refine List.mem_append_right _ (List.mem_flatMap.2 ⟨_, hm, ?_⟩)
        rcases hx with rfl | rfl <;> simp
      have e2 := norm_renU hc (hs _ (.inl rfl))
      have e3 := norm_renU hc (hs _ (.inr rfl))
      have hge : (atP C.norm.ands i).2.2 ≤ (atP C.norm.ands i).2.1 := by
        obtain ⟨j, hj, e⟩ := List.mem_map.1 (show atP C.norm.ands i ∈ C.turn.map (fun i => renA C.ren (atP C.ands i)) from hm)
        rw [← e]
        show min _ _ ≤ max _ _
        omega
      unfold renA
      rw [e1, e2, e3, Int.max_eq_left hge, Int.min_eq_right hge]
end Go.Proofs.Ytppaifckiaaffaa
