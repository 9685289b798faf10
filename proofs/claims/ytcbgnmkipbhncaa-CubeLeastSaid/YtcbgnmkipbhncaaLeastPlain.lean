/-
  THE LEAST OF LISTS, no function of the program.
-/
import Derived.Test.YtcbgnmkipbhncaaKeeperH
import Derived.Test.YtcbgnmkipbhncaaLawCubeOfs
namespace Go.Proofs.Ytcbgnmkipbhncaa
set_option linter.unusedSectionVars false
variable [Inhabited El]

abbrev Pl := Int × List Int
def idealB (R : List Pl) (p : Pl) : Bool := R.all fun q => !((decide (q.2 = p.2) && decide (q.1 < p.1)) || (!decide (q.2 = p.2) && withinB q.2 p.2))
def leastP (ls : List (List Int)) : List Pl := (rights 0 ls).filter (idealB (rights 0 ls))
/-- What Least tells. -/
def leastL (ls : List (List Int)) : List (List Int) := (leastP ls).map Prod.snd

def Ideal (R : List Pl) (p : Pl) : Prop := ∀ q ∈ R, ¬ ((q.2 = p.2 ∧ q.1 < p.1) ∨ (q.2 ≠ p.2 ∧ ∀ x ∈ q.2, x ∈ p.2))
theorem idealB_iff (R : List Pl) (p : Pl) : idealB R p = true ↔ Ideal R p := by
  unfold idealB Ideal
  rw [List.all_eq_true]
  refine forall_congr' fun q => forall_congr' fun _ => ?_
  rw [← withinB_iff]
  by_cases h : q.2 = p.2 <;> simp [h]

/-- By places, each once. -/
def Asc (l : List Pl) : Prop := l.Pairwise fun a b => a.1 < b.1
theorem rights_asc (ls : List (List Int)) : ∀ i, Asc (rights i ls) ∧ ∀ p ∈ rights i ls, i ≤ p.1 := by
  induction ls with
  | nil => intro i; exact ⟨List.Pairwise.nil, fun p hp => by cases hp⟩
  | cons l r ih =>
    intro i
    obtain ⟨h1, h2⟩ := ih (i + 1)
    rw [rights]
    split
    · refine ⟨List.pairwise_cons.2 ⟨fun p hp => by have := h2 p hp; show i < p.1; omega, h1⟩, fun p hp => ?_⟩
      rcases List.mem_cons.1 hp with rfl | hp
      · exact Int.le_refl _
      · have := h2 p hp; omega
    · exact ⟨h1, fun p hp => by have := h2 p hp; omega⟩
theorem rights_rt (ls : List (List Int)) : ∀ i, ∀ p ∈ rights i ls, Rt p.2 := by
  induction ls with
  | nil => intro i p hp; cases hp
  | cons l r ih =>
    intro i p hp
    rw [rights] at hp
    split at hp
    · rcases List.mem_cons.1 hp with rfl | hp
      · exact ⟨cubeA_fits l, cubeA_up l⟩
      · exact ih _ p hp
    · exact ih _ p hp

theorem asc_ext : ∀ (a b : List Pl), Asc a → Asc b → (∀ x, x ∈ a ↔ x ∈ b) → a = b := by
  intro a
  induction a with
  | nil =>
    intro b _ _ h
    cases b with
    | nil => rfl
    | cons y r => exact absurd ((h y).2 List.mem_cons_self) (by simp)
  | cons x r ih =>
    intro b ha hb h
    obtain ⟨a1, a2⟩ := List.pairwise_cons.1 ha
    cases b with
    | nil => exact absurd ((h x).1 List.mem_cons_self) (by simp)
    | cons y s =>
      obtain ⟨b1, b2⟩ := List.pairwise_cons.1 hb
      have hxy : x = y := by
        rcases List.mem_cons.1 ((h x).1 List.mem_cons_self) with e | hx
        · exact e
        · rcases List.mem_cons.1 ((h y).2 List.mem_cons_self) with e | hy
          · exact e.symm
          · have := b1 x hx; have := a1 y hy; omega
      subst hxy
      rw [ih s a2 b2 (fun z => ?_)]
      constructor
      · intro hz
        rcases List.mem_cons.1 ((h z).1 (List.mem_cons_of_mem _ hz)) with e | hz'
        · subst e; have := a1 z hz; omega
        · exact hz'
      · intro hz
        rcases List.mem_cons.1 ((h z).2 (List.mem_cons_of_mem _ hz)) with e | hz'
        · subst e; have := b1 z hz; omega
        · exact hz'

/-- Of rising lists one within another is shorter, or the same. -/
theorem up_sub {a b : List Int} (ha : Up a) (hb : Up b) (h : ∀ x ∈ a, x ∈ b) : a.length ≤ b.length ∧ (a.length = b.length → a = b) := by
  have e : a = b.filter fun x => decide (x ∈ a) := up_ext _ _ ha (List.Pairwise.filter _ hb) (fun x => by
    rw [List.mem_filter]
    constructor
    · intro hx; exact ⟨h x hx, decide_eq_true hx⟩
    · intro hx; exact of_decide_eq_true hx.2)
  have hl := List.length_filter_le (fun x => decide (x ∈ a)) b
  refine ⟨by rw [e]; exact hl, fun hh => ?_⟩
  have h2 : (b.filter fun x => decide (x ∈ a)).length = b.length := by rw [← e]; exact hh
  have h3 : b.filter (fun x => decide (x ∈ a)) = b := List.filter_eq_self.2 (fun x hx => by
    have := List.length_filter_eq_length_iff.1 h2
    exact this x hx)
  rw [h3] at e
  exact e

/-- A sorted row of all. -/
structure Sorted (R : List Pl) (ss : List El) : Prop where
  mem : ∀ p, p ∈ ss.map keyE ↔ p ∈ R
  nodup : (ss.map fun e => e.place).Nodup
  rise : RiseP ltShort ss
  rt : ∀ p ∈ R, Rt p.2

theorem Sorted.pos {R : List Pl} {ss : List El} (h : Sorted R ss) {i j : Nat} (hi : i < ss.length) (hj : j < ss.length) (hlt : (atP ss j).xs.length < (atP ss i).xs.length ∨ ((atP ss j).xs.length = (atP ss i).xs.length ∧ (atP ss j).place < (atP ss i).place)) : j < i := by
  rcases Nat.lt_trichotomy j i with h1 | h1 | h1
  · exact h1
  · subst h1; omega
  · have := List.pairwise_iff_getElem.1 h.rise i j hi hj h1
    rw [← atP_eq ss i hi, ← atP_eq ss j hj, ltShort_eq, decide_eq_false_iff_not] at this
    exact absurd hlt this
theorem Sorted.before {R : List Pl} {ss : List El} (h : Sorted R ss) {i j : Nat} (hi : i < ss.length) (hji : j < i) : (atP ss j).xs.length < (atP ss i).xs.length ∨ ((atP ss j).xs.length = (atP ss i).xs.length ∧ (atP ss j).place < (atP ss i).place) := by
  have := List.pairwise_iff_getElem.1 h.rise j i (by omega) hi hji
  rw [← atP_eq ss i hi, ← atP_eq ss j (by omega), ltShort_eq, decide_eq_false_iff_not] at this
  have hne : (atP ss j).place ≠ (atP ss i).place := by
    have hn := List.pairwise_iff_getElem.1 h.nodup j i (by simp; omega) (by simp; exact hi) hji
    simp only [List.getElem_map] at hn
    rwa [← atP_eq ss i hi, ← atP_eq ss j (by omega)] at hn
  omega
theorem Sorted.key {R : List Pl} {ss : List El} (h : Sorted R ss) {i : Nat} (hi : i < ss.length) : keyE (atP ss i) ∈ R := (h.mem _).1 (List.mem_map.2 ⟨_, atP_mem ss i hi, rfl⟩)

/-- In the place of each one that is not least an earlier one stands. -/
theorem Sorted.bad {R : List Pl} {ss : List El} (h : Sorted R ss) {i : Nat} (hi : i < ss.length) (hb : ¬ Ideal R (keyE (atP ss i))) : ∃ j, j < i ∧ ∀ x ∈ (atP ss j).xs, x ∈ (atP ss i).xs := by
  have : ∃ q ∈ R, (q.2 = (atP ss i).xs ∧ q.1 < (atP ss i).place) ∨ (q.2 ≠ (atP ss i).xs ∧ ∀ x ∈ q.2, x ∈ (atP ss i).xs) := by
    refine Classical.byContradiction fun hn => hb fun q hq hh => hn ⟨q, hq, hh⟩
  obtain ⟨q, hq, hh⟩ := this
  obtain ⟨e, he, rfl⟩ := List.mem_map.1 ((h.mem q).2 hq)
  obtain ⟨j, hj, rfl⟩ := List.getElem_of_mem he
  rw [← atP_eq ss j hj] at hh
  have rj := h.rt _ (h.key hj)
  have ri := h.rt _ (h.key hi)
  rcases hh with ⟨h1, h2⟩ | ⟨h1, h2⟩
  · have h1' : (atP ss j).xs = (atP ss i).xs := h1
    exact ⟨j, h.pos hi hj (.inr ⟨by rw [h1'], h2⟩), fun x hx => by rw [← h1']; exact hx⟩
  · have hs := up_sub rj.2 ri.2 h2
    have hl : (atP ss j).xs.length < (atP ss i).xs.length := by
      rcases Nat.lt_or_ge (atP ss j).xs.length (atP ss i).xs.length with hh | hh
      · exact hh
      · exact absurd (hs.2 (Nat.le_antisymm hs.1 hh)) h1
    exact ⟨j, h.pos hi hj (.inl hl), h2⟩
theorem Sorted.stands {R : List Pl} {ss : List El} (h : Sorted R ss) : ∀ i, i < ss.length → ∃ j, j ≤ i ∧ Ideal R (keyE (atP ss j)) ∧ ∀ x ∈ (atP ss j).xs, x ∈ (atP ss i).xs := by
  intro i
  induction i using Nat.strongRecOn with
  | _ i ih =>
    intro hi
    by_cases hid : Ideal R (keyE (atP ss i))
    · exact ⟨i, Nat.le_refl _, hid, fun x hx => hx⟩
    · obtain ⟨j, hj, hs⟩ := h.bad hi hid
      obtain ⟨k, hk, h1, h2⟩ := ih j hj (by omega)
      exact ⟨k, by omega, h1, fun x hx => hs x (h2 x hx)⟩
/-- One is kept just if it is least. -/
theorem Sorted.step {R : List Pl} {ss K : List El} (h : Sorted R ss) {i : Nat} (hi : i < ss.length) (hK : ∀ q, q ∈ K ↔ (∃ j, j < i ∧ q = atP ss j) ∧ Ideal R (keyE q)) :
    Ideal R (keyE (atP ss i)) ↔ ¬ ∃ q ∈ K, ∀ x ∈ q.xs, x ∈ (atP ss i).xs := by
  constructor
  · rintro hid ⟨q, hq, hs⟩
    obtain ⟨⟨j, hj, rfl⟩, _⟩ := (hK q).1 hq
    refine hid (keyE (atP ss j)) (h.key (by omega)) ?_
    by_cases e : (atP ss j).xs = (atP ss i).xs
    · rcases h.before hi hj with hb | hb
      · rw [e] at hb; omega
      · exact .inl ⟨e, hb.2⟩
    · exact .inr ⟨e, hs⟩
  · intro hn
    refine Classical.byContradiction fun hid => ?_
    obtain ⟨j, hj, hs⟩ := h.bad hi hid
    obtain ⟨k, hk, h1, h2⟩ := h.stands j (by omega)
    exact hn ⟨atP ss k, (hK _).2 ⟨⟨k, by omega, rfl⟩, h1⟩, fun x hx => hs x (h2 x hx)⟩

theorem sorted_of {ls : List (List Int)} {rs ss : List El} (hk : rs.map keyE = rights 0 ls) (hp : ss.Perm rs) (hr : RiseP ltShort ss) : Sorted (rights 0 ls) ss where
  mem p := by rw [← hk]; exact (hp.map keyE).mem_iff
  nodup := by
    have h1 : (rs.map fun e => e.place).Nodup := by
      have h2 := (rights_asc ls 0).1
      rw [← hk] at h2
      have h3 : (rs.map fun e => e.place).Pairwise (· < ·) := by
        rw [List.pairwise_map]
        have := List.pairwise_map.1 h2
        exact this
      exact h3.imp fun {a b} hab e => by omega
    exact (hp.map (fun e => e.place)).nodup_iff.2 h1
  rise := hr
  rt p hp := rights_rt ls 0 p hp

theorem least_end {ls : List (List Int)} {ss K es : List El} (h : Sorted (rights 0 ls) ss) (hK : ∀ q, q ∈ K ↔ q ∈ ss ∧ Ideal (rights 0 ls) (keyE q)) (hnd : (K.map fun e => e.place).Nodup) (hp : es.Perm K) (hr : RiseP ltEarly es) : xsOf es = leastL ls := by
  have hasc : Asc (es.map keyE) := by
    unfold Asc
    rw [List.pairwise_map]
    have hn : (es.map fun e => e.place).Nodup := (hp.map (fun e => e.place)).nodup_iff.2 hnd
    have h2 := List.pairwise_map.1 hn
    refine (List.pairwise_and_iff.2 ⟨hr, h2⟩).imp fun {a b} hab => ?_
    have h3 := hab.1
    unfold ltEarly at h3
    simp at h3
    have := hab.2
    show a.place < b.place
    omega
  have e : es.map keyE = leastP ls := by
    refine asc_ext _ _ hasc (List.Pairwise.filter _ (rights_asc ls 0).1) (fun x => ?_)
    unfold leastP
    rw [List.mem_filter, idealB_iff]
    constructor
    · intro hx
      obtain ⟨q, hq, rfl⟩ := List.mem_map.1 hx
      obtain ⟨h1, h2⟩ := (hK q).1 (hp.mem_iff.1 hq)
      exact ⟨(h.mem _).1 (List.mem_map.2 ⟨q, h1, rfl⟩), h2⟩
    · rintro ⟨h1, h2⟩
      obtain ⟨q, hq, rfl⟩ := List.mem_map.1 ((h.mem x).2 h1)
      exact List.mem_map.2 ⟨q, hp.mem_iff.2 ((hK q).2 ⟨hq, h2⟩), rfl⟩
  unfold leastL
  rw [← e, List.map_map]
  rfl
end Go.Proofs.Ytcbgnmkipbhncaa
