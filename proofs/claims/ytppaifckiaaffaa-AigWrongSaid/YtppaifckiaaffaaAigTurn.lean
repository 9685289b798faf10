/-
  IN WHICH ORDER ANDS ARE TAKEN, no function of the program: waiting counts, users, what a take does.
-/
import Derived.Test.YtppaifckiaaffaaAigPlain
namespace Go.Proofs.Ytppaifckiaaffaa

theorem snocInd {α : Type} {P : List α → Prop} (h0 : P []) (hs : ∀ l x, P l → P (l ++ [x])) : ∀ l, P l := fun l => by
  rw [← List.reverse_reverse l]
  induction l.reverse with
  | nil => exact h0
  | cons x r ih => rw [List.reverse_cons]; exact hs _ _ ih

def Circ.wl (C : Circ) (T : List Nat) (i : Nat) : Nat := (C.waitsL T i).length
/-- How often And i has And p for a side, told as often as that. -/
def Circ.hits (C : Circ) (p i : Nat) (L : List Nat) : List Nat := (L.filter (fun s => decide (s = C.gateOf p))).map (fun _ => i)
def Circ.upTo (C : Circ) (k p : Nat) : List Nat := (List.range k).flatMap (fun i => C.hits p i (C.sides i))
def Circ.users (C : Circ) (p : Nat) : List Nat := C.upTo C.ands.length p

theorem Circ.upTo_succ (C : Circ) (k p : Nat) : C.upTo (k + 1) p = C.upTo k p ++ C.hits p k (C.sides k) := by
  unfold Circ.upTo; rw [List.range_succ, List.flatMap_append]; simp
theorem Circ.hits_append (C : Circ) (p i : Nat) (L M : List Nat) : C.hits p i (L ++ M) = C.hits p i L ++ C.hits p i M := by simp [Circ.hits]
theorem Circ.hits_one (C : Circ) (p i s : Nat) : C.hits p i [s] = if s = C.gateOf p then [i] else [] := by
  unfold Circ.hits
  by_cases h : s = C.gateOf p <;> simp [h]
theorem Circ.hits_count_same (C : Circ) (p i : Nat) (L : List Nat) : (C.hits p i L).count i = (L.filter (fun s => decide (s = C.gateOf p))).length := by
  unfold Circ.hits
  rw [List.map_const', List.count_replicate_self]
theorem Circ.hits_count_other (C : Circ) (p i j : Nat) (L : List Nat) (h : i ≠ j) : (C.hits p i L).count j = 0 := by
  unfold Circ.hits
  rw [List.map_const', List.count_replicate]
  simp [h]
theorem Circ.upTo_count (C : Circ) (p j : Nat) : ∀ k, (C.upTo k p).count j = if j < k then ((C.sides j).filter (fun s => decide (s = C.gateOf p))).length else 0
  | 0 => by simp [Circ.upTo]
  | k + 1 => by
    rw [Circ.upTo_succ, List.count_append, Circ.upTo_count C p j k]
    by_cases hj : j = k
    · subst hj
      rw [Circ.hits_count_same, if_neg (Nat.lt_irrefl _), if_pos (Nat.lt_succ_self _), Nat.zero_add]
    · rw [Circ.hits_count_other C p k j _ (fun e => hj e.symm), Nat.add_zero]
      by_cases h : j < k
      · rw [if_pos h, if_pos (by omega)]
      · rw [if_neg h, if_neg (by omega)]
theorem Circ.users_lt (C : Circ) (p : Nat) : ∀ u ∈ C.users p, u < C.ands.length := by
  intro u hu
  unfold Circ.users Circ.upTo at hu
  obtain ⟨i, hi, h⟩ := List.mem_flatMap.1 hu
  unfold Circ.hits at h
  obtain ⟨s, _, rfl⟩ := List.mem_map.1 h
  exact List.mem_range.1 hi
theorem Circ.sides_len (C : Circ) (i : Nat) : (C.sides i).length = 2 := rfl
theorem Circ.wl_le (C : Circ) (T : List Nat) (i : Nat) : C.wl T i ≤ 2 := by
  unfold Circ.wl Circ.waitsL
  exact Nat.le_trans (List.length_filter_le _ _) (Nat.le_of_eq (C.sides_len i))
theorem Circ.upTo_len (C : Circ) (p : Nat) : ∀ k, (C.upTo k p).length ≤ 2 * k
  | 0 => by simp [Circ.upTo]
  | k + 1 => by
    rw [Circ.upTo_succ, List.length_append]
    have h1 := Circ.upTo_len C p k
    have h2 : (C.hits p k (C.sides k)).length ≤ 2 := by
      unfold Circ.hits
      rw [List.length_map]
      exact Nat.le_trans (List.length_filter_le _ _) (Nat.le_of_eq (C.sides_len k))
    omega

theorem gates_len (C : Circ) : C.gates.length = C.ands.length := by simp [Circ.gates]
theorem gates_at (C : Circ) (i : Nat) (h : i < C.ands.length) : C.gates[i]'(by rw [gates_len]; exact h) = C.gateOf i := by
  unfold Circ.gates Circ.gateOf
  rw [List.getElem_map, atP_eq _ i h]
theorem gate_mem (C : Circ) (i : Nat) (h : i < C.ands.length) : C.gateOf i ∈ C.gates := by
  rw [← gates_at C i h]; exact List.getElem_mem _
theorem gate_inj {C : Circ} (hG : C.gates.Nodup) {i j : Nat} (hi : i < C.ands.length) (hj : j < C.ands.length) (h : C.gateOf i = C.gateOf j) : i = j := by
  rw [← gates_at C i hi, ← gates_at C j hj] at h
  have hp := List.pairwise_iff_getElem.1 hG
  have hl := gates_len C
  rcases Nat.lt_trichotomy i j with h1 | h1 | h1
  · exact absurd h (hp i j (by omega) (by omega) h1)
  · exact h1
  · exact absurd h.symm (hp j i (by omega) (by omega) h1)

theorem split_count (L : List Nat) (p p' : Nat → Bool) (g : Nat) (hg : p g = true) (hg' : p' g = false) (ho : ∀ s, s ≠ g → p s = p' s) : (L.filter p).length = (L.filter p').length + (L.filter (fun s => decide (s = g))).length := by
  induction L with
  | nil => rfl
  | cons s L ih =>
    by_cases h : s = g
    · subst h
      simp [hg, hg', ih]
      omega
    · simp only [List.filter_cons, ho s h, decide_eq_false h]
      cases p' s <;> simp <;> omega

theorem wl_step {C : Circ} (hG : C.gates.Nodup) {T : List Nat} {x : Nat} (hx : x < C.ands.length) (hT : ∀ t ∈ T, t < C.ands.length) (hn : x ∉ T) (i : Nat) (hi : i < C.ands.length) :
    C.wl T i = C.wl (T ++ [x]) i + (C.users x).count i := by
  have hu : (C.users x).count i = ((C.sides i).filter (fun s => decide (s = C.gateOf x))).length := by
    unfold Circ.users; rw [C.upTo_count, if_pos hi]
  rw [hu]
  unfold Circ.wl Circ.waitsL
  have hgT : C.gateOf x ∉ T.map C.gateOf := fun hm => by
    obtain ⟨t, ht, e⟩ := List.mem_map.1 hm
    have := gate_inj hG (hT t ht) hx e
    subst this
    exact hn ht
  refine split_count _ _ _ _ ?_ ?_ ?_
  · rw [decide_eq_true (gate_mem C x hx), decide_eq_false hgT]; rfl
  · rw [decide_eq_true (show C.gateOf x ∈ (T ++ [x]).map C.gateOf by simp)]; simp
  · intro s hs
    have : (s ∈ (T ++ [x]).map C.gateOf) ↔ s ∈ T.map C.gateOf := by
      rw [List.map_append, List.mem_append]
      constructor
      · rintro (h | h)
        · exact h
        · simp at h; exact absurd h hs
      · exact .inl
    rw [decide_eq_decide.2 this]

/-- One that waited for what is taken. -/
def dec1 (st : List Int × List Nat) (u : Nat) : List Int × List Nat := (st.1.set u (atP st.1 u - 1), if atP st.1 u - 1 = 0 then st.2 ++ [u] else st.2)
def decL (r : List Nat) (wts : List Int) : List Int × List Nat := r.foldl dec1 (wts, [])
theorem decL_snoc (r : List Nat) (u : Nat) (wts : List Int) : decL (r ++ [u]) wts = dec1 (decL r wts) u := by unfold decL; rw [List.foldl_append]; rfl
theorem at_set_same {α : Type} [Inhabited α] (xs : List α) (i : Nat) (x : α) (h : i < xs.length) : atP (xs.set i x) i = x := by simp [atP, List.getD_eq_getElem?_getD, h]
theorem at_set_other {α : Type} [Inhabited α] (xs : List α) (i j : Nat) (x : α) (h : i ≠ j) : atP (xs.set i x) j = atP xs j := by simp [atP, List.getD_eq_getElem?_getD, List.getElem?_set_ne h]

theorem decL_spec (wts : List Int) : ∀ r : List Nat, (∀ u ∈ r, u < wts.length) → (decL r wts).1.length = wts.length ∧ (∀ i, i < wts.length → atP (decL r wts).1 i = atP wts i - (r.count i : Int)) ∧
    ((∀ i, i < wts.length → (r.count i : Int) ≤ atP wts i) → (∀ u, u ∈ (decL r wts).2 ↔ u ∈ r ∧ atP wts u = (r.count u : Int)) ∧ (decL r wts).2.Nodup) := by
  refine snocInd (fun _ => ⟨rfl, fun i _ => by simp [decL], fun _ => ⟨fun u => by simp [decL], List.nodup_nil⟩⟩) ?_
  intro r u ih hr
  obtain ⟨h1, h2, h3⟩ := ih (fun v hv => hr v (List.mem_append_left _ hv))
  have hu : u < wts.length := hr u (by simp)
  have hcu : (r ++ [u]).count u = r.count u + 1 := by simp
  have hco : ∀ i, i ≠ u → (r ++ [u]).count i = r.count i := fun i hi => by rw [List.count_append, List.count_singleton]; simp [Ne.symm hi]
  rw [decL_snoc]
  unfold dec1
  refine ⟨by simpa using h1, fun i hi => ?_, fun hle => ?_⟩
  · by_cases e : i = u
    · subst e
      rw [at_set_same _ _ _ (by omega), h2 i hi, hcu]; omega
    · rw [at_set_other _ _ _ _ (fun h => e h.symm), h2 i hi, hco i e]
  · have hle' : ∀ i, i < wts.length → (r.count i : Int) ≤ atP wts i := fun i hi => by
      have := hle i hi
      by_cases e : i = u
      · subst e; rw [hcu] at this; omega
      · rw [hco i e] at this; exact this
    obtain ⟨h4, h5⟩ := h3 hle'
    have hun : u ∉ (decL r wts).2 := fun hm => by
      have := ((h4 u).1 hm).2
      have h6 := hle u hu
      rw [hcu] at h6
      omega
    dsimp only
    rw [h2 u hu]
    by_cases hz : atP wts u - (r.count u : Int) - 1 = 0
    · rw [if_pos hz]
      refine ⟨fun v => ?_, List.nodup_append.2 ⟨h5, List.nodup_cons.2 ⟨List.not_mem_nil, List.nodup_nil⟩, fun a ha b hb e => by rw [List.mem_singleton] at hb; subst hb; subst e; exact hun ha⟩⟩
      rw [List.mem_append, List.mem_append, h4, List.mem_singleton]
      by_cases e : v = u
      · subst e
        rw [hcu]
        constructor
        · intro _; exact ⟨.inr rfl, by omega⟩
        · intro _; exact .inr rfl
      · rw [hco v e]; simp [e]
    · rw [if_neg hz]
      refine ⟨fun v => ?_, h5⟩
      rw [h4, List.mem_append, List.mem_singleton]
      by_cases e : v = u
      · subst e
        rw [hcu]
        have h6 := hle v hu
        rw [hcu] at h6
        constructor
        · rintro ⟨-, h7⟩; exfalso; omega
        · rintro ⟨-, h7⟩; exfalso; omega
      · rw [hco v e]; simp [e]

/-- WHAT STANDS WHEN T HAS BEEN TAKEN: who waits for how many, and who may be taken. -/
structure Taken (C : Circ) (T : List Nat) (wts : List Int) (rs : List Nat) : Prop where
  len : wts.length = C.ands.length
  wait : ∀ i, i < C.ands.length → atP wts i = (C.wl T i : Int)
  mem : ∀ i, i ∈ rs ↔ i < C.ands.length ∧ i ∉ T ∧ C.wl T i = 0
  nd : rs.Nodup
  lt : ∀ t ∈ T, t < C.ands.length
  tnd : T.Nodup
  done : ∀ t ∈ T, C.wl T t = 0

theorem readyB_iff (C : Circ) (T : List Nat) (i : Nat) : C.readyB T i = true ↔ C.wl T i = 0 := by
  unfold Circ.readyB Circ.wl
  rw [List.isEmpty_iff, List.length_eq_zero_iff]

theorem next_none {C : Circ} {T : List Nat} {wts : List Int} (h : Taken C T wts []) : C.nextA T = none := by
  unfold Circ.nextA
  rw [List.find?_eq_none]
  intro i hi hp
  rw [Bool.and_eq_true] at hp
  have hm := (h.mem i).2 ⟨List.mem_range.1 hi, by simpa using hp.1, (readyB_iff C T i).1 hp.2⟩
  cases hm

theorem next_some {C : Circ} {T : List Nat} {wts : List Int} {rs : List Nat} {x : Nat} (h : Taken C T wts rs) (hx : x ∈ rs) (hmin : ∀ y ∈ rs, x ≤ y) : C.nextA T = some x := by
  unfold Circ.nextA
  obtain ⟨h1, h2, h3⟩ := (h.mem x).1 hx
  rw [List.find?_range_eq_some]
  refine ⟨by rw [Bool.and_eq_true]; exact ⟨by simpa using h2, (readyB_iff C T x).2 h3⟩, List.mem_range.2 h1, fun j hj => ?_⟩
  cases hp : (!decide (j ∈ T) && C.readyB T j) with
  | false => rfl
  | true =>
    rw [Bool.and_eq_true] at hp
    have := hmin j ((h.mem j).2 ⟨by omega, by simpa using hp.1, (readyB_iff C T j).1 hp.2⟩)
    omega

theorem taken_start {C : Circ} {wts : List Int} {rs : List Nat} (hl : wts.length = C.ands.length) (hw : ∀ i, i < C.ands.length → atP wts i = (C.wl [] i : Int)) (hm : ∀ i, i ∈ rs ↔ i < C.ands.length ∧ C.wl [] i = 0) (hn : rs.Nodup) : Taken C [] wts rs :=
  ⟨hl, hw, fun i => by rw [hm]; simp, hn, (fun t ht => by cases ht), List.nodup_nil, (fun t ht => by cases ht)⟩

theorem taken_step {C : Circ} (hG : C.gates.Nodup) {T : List Nat} {wts : List Int} {rs rest rs' : List Nat} {x : Nat} (h : Taken C T wts rs) (hp : (x :: rest).Perm rs) (hp' : rs'.Perm (rest ++ (decL (C.users x) wts).2)) :
    Taken C (T ++ [x]) (decL (C.users x) wts).1 rs' := by
  have hx : x ∈ rs := hp.mem_iff.1 List.mem_cons_self
  obtain ⟨x1, x2, x3⟩ := (h.mem x).1 hx
  have hstep := fun i hi => wl_step hG x1 h.lt x2 i hi
  obtain ⟨d1, d2, d3⟩ := decL_spec wts (C.users x) (fun u hu => by rw [h.len]; exact C.users_lt x u hu)
  obtain ⟨d4, d5⟩ := d3 (fun i hi => by rw [h.len] at hi; rw [h.wait i hi, hstep i hi]; omega)
  have hwait : ∀ i, i < C.ands.length → atP (decL (C.users x) wts).1 i = (C.wl (T ++ [x]) i : Int) := fun i hi => by
    rw [d2 i (by rw [h.len]; exact hi), h.wait i hi, hstep i hi]; omega
  have hndx : (x :: rest).Nodup := hp.nodup_iff.2 h.nd
  obtain ⟨hxr, hrn⟩ := List.nodup_cons.1 hndx
  have hrest : ∀ i, i ∈ rest ↔ i ∈ rs ∧ i ≠ x := fun i => by
    rw [← hp.mem_iff, List.mem_cons]
    constructor
    · intro hi; exact ⟨.inr hi, fun e => hxr (e ▸ hi)⟩
    · rintro ⟨h1 | h1, h2⟩
      · exact absurd h1 h2
      · exact h1
  have hpush : ∀ i, i ∈ (decL (C.users x) wts).2 ↔ i < C.ands.length ∧ 0 < C.wl T i ∧ C.wl (T ++ [x]) i = 0 := fun i => by
    rw [d4]
    constructor
    · rintro ⟨h1, h2⟩
      have hi := C.users_lt x i h1
      have hc : 0 < (C.users x).count i := List.count_pos_iff.2 h1
      rw [h.wait i hi] at h2
      have := hstep i hi
      exact ⟨hi, by omega, by omega⟩
    · rintro ⟨hi, h1, h2⟩
      have := hstep i hi
      exact ⟨List.count_pos_iff.1 (by omega), by rw [h.wait i hi]; omega⟩
  refine ⟨by rw [d1]; exact h.len, hwait, fun i => ?_, ?_, ?_, ?_, ?_⟩
  · rw [hp'.mem_iff, List.mem_append, hrest, hpush, h.mem, List.mem_append, List.mem_singleton]
    constructor
    · rintro (⟨⟨h1, h2, h3⟩, h4⟩ | ⟨h1, h2, h3⟩)
      · have := hstep i h1
        exact ⟨h1, by rintro (h | h); exact h2 h; exact h4 h, by omega⟩
      · refine ⟨h1, ?_, h3⟩
        rintro (hm | hm)
        · have := h.done i hm; omega
        · subst hm; omega
    · rintro ⟨h1, h2, h3⟩
      have := hstep i h1
      by_cases hz : C.wl T i = 0
      · exact .inl ⟨⟨h1, fun hm => h2 (.inl hm), hz⟩, fun e => h2 (.inr e)⟩
      · exact .inr ⟨h1, by omega, h3⟩
  · rw [hp'.nodup_iff]
    refine List.nodup_append.2 ⟨hrn, d5, fun a ha b hb e => ?_⟩
    subst e
    have h1 := ((h.mem a).1 ((hrest a).1 ha).1).2.2
    have h2 := ((hpush a).1 hb).2.1
    omega
  · intro t ht
    rcases List.mem_append.1 ht with ht | ht
    · exact h.lt t ht
    · rw [List.mem_singleton] at ht; subst ht; exact x1
  · exact List.nodup_append.2 ⟨h.tnd, List.nodup_cons.2 ⟨List.not_mem_nil, List.nodup_nil⟩, fun a ha b hb e => by rw [List.mem_singleton] at hb; subst hb; subst e; exact x2 ha⟩
  · intro t ht
    have htl : t < C.ands.length := by
      rcases List.mem_append.1 ht with ht | ht
      · exact h.lt t ht
      · rw [List.mem_singleton] at ht; subst ht; exact x1
    have := hstep t htl
    rcases List.mem_append.1 ht with ht | ht
    · have := h.done t ht; omega
    · rw [List.mem_singleton] at ht; subst ht; omega

theorem nodup_len : ∀ (n : Nat) (T : List Nat), T.Nodup → (∀ t ∈ T, t < n) → T.length ≤ n
  | 0, T, _, h => by
    cases T with
    | nil => exact Nat.le_refl _
    | cons t T => exact absurd (h t List.mem_cons_self) (Nat.not_lt_zero _)
  | n + 1, T, hn, h => by
    have h1 := nodup_len n (T.erase n) (hn.erase n) (fun t ht => by
      obtain ⟨h2, h3⟩ := (List.Nodup.mem_erase_iff hn).1 ht
      have := h t h3
      omega)
    have h4 : T.length ≤ (T.erase n).length + 1 := by
      rw [List.length_erase]
      split <;> omega
    omega

theorem taken_len {C : Circ} {T : List Nat} {wts : List Int} {rs : List Nat} (h : Taken C T wts rs) : T.length ≤ C.ands.length := by
  exact nodup_len C.ands.length T h.tnd h.lt

theorem turn_go {C : Circ} {T : List Nat} {x : Nat} (hn : C.nextA T = some x) (hl : T.length < C.ands.length) : C.turnA (C.ands.length - T.length) T = C.turnA (C.ands.length - (T ++ [x]).length) (T ++ [x]) := by
  obtain ⟨f, hf⟩ : ∃ f, C.ands.length - T.length = f + 1 := ⟨C.ands.length - T.length - 1, by omega⟩
  rw [hf, Circ.turnA, hn]
  have : C.ands.length - (T ++ [x]).length = f := by simp; omega
  rw [this]
theorem turn_end {C : Circ} {T : List Nat} (hn : C.nextA T = none) (f : Nat) : C.turnA f T = T := by
  cases f with
  | zero => rfl
  | succ f => rw [Circ.turnA, hn]
end Go.Proofs.Ytppaifckiaaffaa
