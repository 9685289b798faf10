/-
  ON WHAT THINGS HANG, no function of the program.
-/
import Derived.Test.YtppaifckiaaffaaSimP
namespace Go.Proofs.Ytppaifckiaaffaa

/-- Variable v hangs at once on literal l. -/
def Circ.On (C : Circ) (v : Nat) (l : Int) : Prop :=
  (∃ k, k < C.lats.length ∧ varN (atP C.lats k).1 = v ∧ l = (atP C.lats k).2.1) ∨ (∃ k, k < C.ands.length ∧ varN (atP C.ands k).1 = v ∧ (l = (atP C.ands k).2.1 ∨ l = (atP C.ands k).2.2))

/-- .. is one of those on which the literals of L hang: it is in each set that has theirs, and with each variable those on which that hangs at once. -/
def Circ.Hang (C : Circ) (L : List Int) (v : Nat) : Prop :=
  ∀ S : Nat → Prop, (∀ l, l ∈ L → varN l ≠ 0 → S (varN l)) → (∀ u l, S u → C.On u l → varN l ≠ 0 → S (varN l)) → S v

theorem hang_lit {C : Circ} {L : List Int} {l : Int} (h : l ∈ L) (h0 : varN l ≠ 0) : C.Hang L (varN l) := fun _ a _ => a l h h0
theorem hang_on {C : Circ} {L : List Int} {v : Nat} {l : Int} (h : C.Hang L v) (ho : C.On v l) (h0 : varN l ≠ 0) : C.Hang L (varN l) := fun S a b => b v l (h S a b) ho h0
theorem hang_ne {C : Circ} {L : List Int} {v : Nat} (h : C.Hang L v) : v ≠ 0 := h (fun v => v ≠ 0) (fun _ _ h => h) (fun _ _ _ _ h => h)
theorem hang_mono {C : Circ} {L M : List Int} {v : Nat} (h : C.Hang L v) (hs : ∀ l ∈ L, l ∈ M) : C.Hang M v := h _ (fun _ hl h0 => hang_lit (hs _ hl) h0) (fun _ _ hu ho h0 => hang_on hu ho h0)

/-- All is found. -/
def Full (C : Circ) (L : List Int) (n : Nat) (fd : List Bool) : Prop := fd.length = n ∧ ∀ v, v < n → (atP fd v = true ↔ C.Hang L v)
theorem full_one {C : Circ} {L : List Int} {n : Nat} {a b : List Bool} (h : Full C L n a) (k : Full C L n b) : a = b :=
  list_ext_atP (h.1.trans k.1.symm) (fun i hi => by
    have h1 := h.2 i (by rw [← h.1]; exact hi)
    have h2 := k.2 i (by rw [← h.1]; exact hi)
    cases ha : atP a i <;> cases hb : atP b i <;> simp_all)

def coneK (fd : List Bool) (k : Nat) : List Int := ((List.range k).filter (fun v => atP fd v)).map (fun v : Nat => (v : Int))
def coneL (fd : List Bool) : List Int := coneK fd fd.length
theorem coneK_zero (fd : List Bool) : coneK fd 0 = [] := rfl
theorem coneK_succ (fd : List Bool) (k : Nat) : coneK fd (k + 1) = coneK fd k ++ (if atP fd k = true then [(k : Int)] else []) := by
  unfold coneK
  rw [List.range_succ, List.filter_append, List.map_append]
  cases h : atP fd k <;> simp [h]
theorem coneK_len (fd : List Bool) (k : Nat) : (coneK fd k).length ≤ k := by
  unfold coneK
  rw [List.length_map]
  exact Nat.le_trans (List.length_filter_le _ _) (by simp)
theorem coneL_mem {fd : List Bool} {v : Nat} : (v : Int) ∈ coneL fd ↔ v < fd.length ∧ atP fd v = true := by
  unfold coneL coneK
  rw [List.mem_map]
  constructor
  · rintro ⟨u, hu, e⟩
    obtain rfl : u = v := by omega
    rw [List.mem_filter, List.mem_range] at hu
    exact hu
  · intro h
    exact ⟨v, by rw [List.mem_filter, List.mem_range]; exact h, rfl⟩

def Circ.litIs (C : Circ) (l : Int) : Bool := decide (0 ≤ l) && (decide (l ≤ 2 * C.max + 1) && decide (varN l = 0 ∨ varN l ∈ C.vars))
def Circ.ofI (C : Circ) (L : List Int) : Int := if C.checkI ≠ 0 then C.checkI else if L.all C.litIs then 0 else 1

/-- In the midst of finding: xs were found, but not followed. -/
structure Find (C : Circ) (L : List Int) (n : Nat) (fd : List Bool) (xs : List Int) : Prop where
  len : fd.length = n
  sound : ∀ v, v < n → atP fd v = true → C.Hang L v
  lits : ∀ l ∈ L, varN l ≠ 0 → atP fd (varN l) = true
  closed : ∀ v, v < n → atP fd v = true → (v : Int) ∈ xs ∨ ∀ l, C.On v l → varN l ≠ 0 → atP fd (varN l) = true
  mem : ∀ x ∈ xs, ∃ v : Nat, x = v ∧ v < n ∧ atP fd v = true

/-- What finding the literals of L leaves. -/
structure Marks (n : Nat) (fd fd' : List Bool) (xs xs' L : List Int) : Prop where
  len : fd'.length = fd.length
  got : ∀ v, v < n → (atP fd' v = true ↔ atP fd v = true ∨ (v ≠ 0 ∧ ∃ l ∈ L, varN l = v))
  all_ : ∀ x, x ∈ xs' ↔ x ∈ xs ∨ ∃ v : Nat, v < n ∧ x = v ∧ atP fd v = false ∧ atP fd' v = true
  cnt : xs'.length + fd'.count false = xs.length + fd.count false

theorem marks_nil (n : Nat) (fd : List Bool) (xs : List Int) : Marks n fd fd xs xs [] :=
  ⟨rfl, fun v _ => ⟨fun h => .inl h, fun h => by
    rcases h with h | ⟨_, l, hl, _⟩
    · exact h
    · cases hl⟩, fun x => ⟨fun h => .inl h, fun h => by
    rcases h with h | ⟨v, _, _, h1, h2⟩
    · exact h
    · rw [h1] at h2; cases h2⟩, rfl⟩

theorem marks_skip {n : Nat} {fd fd' : List Bool} {xs xs' L : List Int} {l : Int} (h : Marks n fd fd' xs xs' L) (hl : varN l = 0 ∨ atP fd' (varN l) = true) : Marks n fd fd' xs xs' (L ++ [l]) := by
  refine ⟨h.len, fun v hv => ?_, h.all_, h.cnt⟩
  rw [h.got v hv]
  constructor
  · rintro (h1 | ⟨h1, m, hm, e⟩)
    · exact .inl h1
    · exact .inr ⟨h1, m, List.mem_append_left _ hm, e⟩
  · rintro (h1 | ⟨h1, m, hm, e⟩)
    · exact .inl h1
    · rcases List.mem_append.1 hm with hm | hm
      · exact .inr ⟨h1, m, hm, e⟩
      · rw [List.mem_singleton] at hm
        subst hm
        rcases hl with h2 | h2
        · omega
        · rw [e] at h2
          exact (h.got v hv).1 h2

theorem count_mark : ∀ (l : List Bool) (i : Nat), i < l.length → atP l i = false → (l.set i true).count false + 1 = l.count false
  | [], i, h, _ => absurd h (Nat.not_lt_zero _)
  | b :: l, 0, _, h => by
    have : b = false := h
    subst this
    simp
  | b :: l, i + 1, h, h2 => by
    have ih := count_mark l i (by simpa using h) h2
    rw [List.set_cons_succ, List.count_cons, List.count_cons]
    omega

theorem marks_new {n : Nat} {fd fd' : List Bool} {xs xs' ys L : List Int} {l : Int} (h : Marks n fd fd' xs xs' L) (hn : fd.length = n) (h0 : varN l ≠ 0) (hv : varN l < n) (hf : atP fd' (varN l) = false) (hp : ys.Perm (xs' ++ [(varN l : Int)])) : Marks n fd (fd'.set (varN l) true) xs ys (L ++ [l]) := by
  have hl := h.len
  have hs := fun v => bSet (j := v) (x := true) (show varN l < fd'.length by omega)
  have hold : atP fd (varN l) = false := by
    cases e : atP fd (varN l) with
    | false => rfl
    | true =>
      have := (h.got _ hv).2 (.inl e)
      rw [hf] at this; cases this
  refine ⟨by rw [List.length_set]; exact h.len, fun v hv2 => ?_, fun x => ?_, ?_⟩
  · rw [hs v]
    split
    · rename_i e
      subst e
      exact ⟨fun _ => .inr ⟨h0, l, List.mem_append_right _ List.mem_cons_self, rfl⟩, fun _ => rfl⟩
    · rename_i e
      rw [h.got v hv2]
      constructor
      · rintro (h1 | ⟨h1, m, hm, e2⟩)
        · exact .inl h1
        · exact .inr ⟨h1, m, List.mem_append_left _ hm, e2⟩
      · rintro (h1 | ⟨h1, m, hm, e2⟩)
        · exact .inl h1
        · rcases List.mem_append.1 hm with hm | hm
          · exact .inr ⟨h1, m, hm, e2⟩
          · rw [List.mem_singleton] at hm
            subst hm
            exact absurd e2.symm e
  · rw [hp.mem_iff, List.mem_append, h.all_ x, List.mem_singleton]
    constructor
    · rintro ((h1 | ⟨v, h1, h2, h3, h4⟩) | h1)
      · exact .inl h1
      · refine .inr ⟨v, h1, h2, h3, ?_⟩
        rw [hs v]
        split
        · rfl
        · exact h4
      · exact .inr ⟨varN l, hv, h1, hold, by rw [hs, if_pos rfl]⟩
    · rintro (h1 | ⟨v, h1, h2, h3, h4⟩)
      · exact .inl (.inl h1)
      · rw [hs v] at h4
        split at h4
        · rename_i e
          subst e
          exact .inr h2
        · exact .inl (.inr ⟨v, h1, h2, h3, h4⟩)
  · have h1 := hp.length_eq
    have h2 := count_mark fd' (varN l) (by omega) hf
    have h3 := h.cnt
    simp at h1
    omega

theorem find_start {C : Circ} {L0 L : List Int} {n : Nat} {fd fd' : List Bool} {xs' : List Int} (h : Full C L0 n fd) (hm : Marks n fd fd' [] xs' L) (hL : ∀ l ∈ L, varN l < n) (hL0 : ∀ l ∈ L0, varN l < n) (hO : ∀ v l, C.On v l → varN l < n) : Find C (L0 ++ L) n fd' xs' := by
  refine ⟨hm.len.trans h.1, fun v hv hf => ?_, fun l hl h0 => ?_, fun v hv hf => ?_, fun x hx => ?_⟩
  · rcases (hm.got v hv).1 hf with h1 | ⟨h1, l, hl, rfl⟩
    · exact hang_mono ((h.2 v hv).1 h1) (fun l hl => List.mem_append_left _ hl)
    · exact hang_lit (List.mem_append_right _ hl) h1
  · rcases List.mem_append.1 hl with hl | hl
    · exact (hm.got _ (hL0 l hl)).2 (.inl ((h.2 _ (hL0 l hl)).2 (hang_lit hl h0)))
    · exact (hm.got _ (hL l hl)).2 (.inr ⟨h0, l, hl, rfl⟩)
  · cases e : atP fd v with
    | true =>
      refine .inr (fun l ho h0 => ?_)
      exact (hm.got _ (hO v l ho)).2 (.inl ((h.2 _ (hO v l ho)).2 (hang_on ((h.2 v hv).1 e) ho h0)))
    | false => exact .inl ((hm.all_ _).2 (.inr ⟨v, hv, rfl, e, hf⟩))
  · rcases (hm.all_ x).1 hx with h1 | ⟨v, h1, h2, _, h4⟩
    · cases h1
    · exact ⟨v, h2, h1, h4⟩

theorem find_step {C : Circ} {L LV : List Int} {n v : Nat} {fd fd' : List Bool} {xs ys xs' : List Int} (h : Find C L n fd xs) (hp : ((v : Int) :: ys).Perm xs) (hv : v < n) (hLV : ∀ l, l ∈ LV ↔ C.On v l) (hm : Marks n fd fd' ys xs' LV) (hO : ∀ v l, C.On v l → varN l < n) (hL : ∀ l ∈ L, varN l < n) : Find C L n fd' xs' := by
  have hvf : atP fd v = true := by
    obtain ⟨u, e, _, hu⟩ := h.mem v (hp.mem_iff.1 List.mem_cons_self)
    obtain rfl : u = v := by omega
    exact hu
  refine ⟨hm.len.trans h.len, fun u hu hf => ?_, fun l hl h0 => ?_, fun u hu hf => ?_, fun x hx => ?_⟩
  · rcases (hm.got u hu).1 hf with h1 | ⟨h1, l, hl, rfl⟩
    · exact h.sound u hu h1
    · exact hang_on (h.sound v hv hvf) ((hLV l).1 hl) h1
  · exact (hm.got _ (hL l hl)).2 (.inl (h.lits l hl h0))
  · cases e : atP fd u with
    | true =>
      rcases h.closed u hu e with h1 | h1
      · rcases List.mem_cons.1 (hp.mem_iff.2 h1) with h2 | h2
        · obtain rfl : u = v := by omega
          exact .inr (fun l ho h0 => (hm.got _ (hO u l ho)).2 (.inr ⟨h0, l, (hLV l).2 ho, rfl⟩))
        · exact .inl ((hm.all_ _).2 (.inl h2))
      · exact .inr (fun l ho h0 => (hm.got _ (hO u l ho)).2 (.inl (h1 l ho h0)))
    | false => exact .inl ((hm.all_ _).2 (.inr ⟨u, hu, rfl, e, hf⟩))
  · rcases (hm.all_ x).1 hx with h1 | ⟨u, h1, h2, _, h4⟩
    · obtain ⟨u, e1, e2, e3⟩ := h.mem x (hp.mem_iff.1 (List.mem_cons_of_mem _ h1))
      exact ⟨u, e1, e2, (hm.got u e2).2 (.inl e3)⟩
    · exact ⟨u, h2, h1, h4⟩

theorem find_end {C : Circ} {L : List Int} {n : Nat} {fd : List Bool} (h : Find C L n fd []) (hO : ∀ v l, C.On v l → varN l < n) (hL : ∀ l ∈ L, varN l < n) : Full C L n fd := by
  refine ⟨h.len, fun v hv => ⟨h.sound v hv, fun hh => ?_⟩⟩
  refine (hh (fun u => u < n ∧ atP fd u = true) (fun l hl h0 => ⟨hL l hl, h.lits l hl h0⟩) (fun u l hu ho h0 => ⟨hO u l ho, ?_⟩)).2
  rcases h.closed u hu.1 hu.2 with h1 | h1
  · cases h1
  · exact h1 l ho h0

theorem full_none (C : Circ) (n : Nat) : Full C [] n (List.replicate n false) :=
  ⟨by simp, fun v hv => ⟨fun h => (by rw [atP_replicate _ _ _ hv] at h; cases h), fun h => (h (fun _ => False) (fun _ hl _ => by cases hl) (fun _ _ h _ _ => h)).elim⟩⟩

theorem on_used {C : Circ} {v : Nat} {l : Int} (h : C.On v l) : l ∈ C.used := by
  unfold Circ.used
  rcases h with ⟨k, hk, _, rfl⟩ | ⟨k, hk, _, h2⟩
  · exact List.mem_append_left _ (List.mem_append_left _ (List.mem_append_left _ (List.mem_append_left _ (List.mem_map.2 ⟨_, atP_mem _ _ hk, rfl⟩))))
  · refine List.mem_append_right _ (List.mem_flatMap.2 ⟨_, atP_mem _ _ hk, ?_⟩)
    rcases h2 with rfl | rfl <;> simp
theorem lit_lt {C : Circ} (hL : Lits C) {l : Int} (h : l ∈ C.used) : 0 ≤ l ∧ varN l < C.max.toNat + 1 := by
  have := hL.lit l h
  have := hL.max
  unfold varN
  omega
theorem on_lt {C : Circ} (hL : Lits C) {v : Nat} {l : Int} (h : C.On v l) : varN l < C.max.toNat + 1 := (lit_lt hL (on_used h)).2
end Go.Proofs.Ytppaifckiaaffaa
