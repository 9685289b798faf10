/-
  CHAINS AND RINGS OF ANDS, no function of the program.
-/
import Derived.Test.YtppaifckiaaffaaAgainP
namespace Go.Proofs.Ytppaifckiaaffaa
open Go.RowKit

def rAnd (at' : Nat) (ring : Bool) (i : Nat) : Tri := (2 * ((i : Int) + 2), if i = 0 ∧ ring = true then 2 * ((at' : Int) + 2) + 1 else 2 * ((i : Int) + 1), 3)
def rAnds (at' : Nat) (ring : Bool) : Nat → List Tri
  | 0 => []
  | k + 1 => rAnd at' ring k :: rAnds at' ring k
def ringC (n at' : Nat) (ring : Bool) : Circ := ⟨(n : Int) + 1, [2], [], [], [], [], rAnds at' ring n, []⟩

theorem rAnds_len (a : Nat) (r : Bool) : ∀ k, (rAnds a r k).length = k
  | 0 => rfl
  | k + 1 => by simp [rAnds, rAnds_len a r k]
theorem rAnds_at (a : Nat) (r : Bool) : ∀ n p, p < n → atP (rAnds a r n) p = rAnd a r (n - 1 - p)
  | 0, p, h => absurd h (Nat.not_lt_zero _)
  | n + 1, 0, _ => by simp [rAnds, atP]
  | n + 1, p + 1, h => by
    have := rAnds_at a r n p (by omega)
    rw [show n + 1 - 1 - (p + 1) = n - 1 - p by omega, ← this]
    rfl
theorem rAnds_mem {a n : Nat} {r : Bool} {t : Tri} (h : t ∈ rAnds a r n) : ∃ i, i < n ∧ t = rAnd a r i := by
  induction n with
  | zero => cases h
  | succ n ih =>
    rcases List.mem_cons.1 h with rfl | h
    · exact ⟨n, Nat.lt_succ_self _, rfl⟩
    · obtain ⟨i, hi, e⟩ := ih h
      exact ⟨i, by omega, e⟩
theorem ring_gate {n a p : Nat} {r : Bool} (h : p < n) : (ringC n a r).gateOf p = n - 1 - p + 2 := by
  unfold Circ.gateOf
  rw [show atP (ringC n a r).ands p = rAnd a r (n - 1 - p) from rAnds_at a r n p h]
  show varN (2 * (((n - 1 - p : Nat) : Int) + 2)) = _
  unfold varN
  omega
theorem ring_gates {n a v : Nat} {r : Bool} : v ∈ (ringC n a r).gates ↔ 2 ≤ v ∧ v < n + 2 := by
  rw [gates_eq, show (ringC n a r).ands.length = n from rAnds_len a r n, List.mem_map]
  constructor
  · rintro ⟨p, hp, rfl⟩
    have := List.mem_range.1 hp
    rw [ring_gate this]
    omega
  · intro h
    exact ⟨n + 1 - v, List.mem_range.2 (by omega), by rw [ring_gate (by omega)]; omega⟩
theorem ring_sides {n a p : Nat} {r : Bool} (h : p < n) : (ringC n a r).sides p = [if n - 1 - p = 0 ∧ r = true then a + 2 else n - 1 - p + 1, 1] := by
  unfold Circ.sides
  rw [show atP (ringC n a r).ands p = rAnd a r (n - 1 - p) from rAnds_at a r n p h]
  unfold rAnd
  dsimp only
  congr 1
  split
  · unfold varN; omega
  · unfold varN; omega
theorem ring_vars (n a : Nat) (r : Bool) : (ringC n a r).vars = 1 :: (ringC n a r).gates := by
  rw [vars_eq]
  rfl
theorem ring_once (n a : Nat) (r : Bool) : (ringC n a r).onceB = true := by
  unfold Circ.onceB
  apply decide_eq_true
  rw [ring_vars, List.nodup_cons]
  refine ⟨fun h => by have := (ring_gates.1 h).1; omega, ?_⟩
  rw [gates_eq, show (ringC n a r).ands.length = n from rAnds_len a r n]
  refine List.pairwise_map.2 (List.nodup_range.imp_of_mem (fun {p q} hp hq hpq e => hpq ?_))
  have hp := List.mem_range.1 hp
  have hq := List.mem_range.1 hq
  rw [ring_gate hp, ring_gate hq] at e
  omega
theorem ring_lits {n a : Nat} {r : Bool} (ha : a < n) : (ringC n a r).litsB = true := by
  unfold Circ.litsB Circ.top
  simp only [Bool.and_eq_true, decide_eq_true_eq, List.all_eq_true, ownB, litB, resetB, Bool.or_eq_true]
  refine ⟨by show (0 : Int) ≤ (n : Int) + 1; omega, fun l hl => ?_, fun l hl => ?_, fun t ht => by cases ht⟩
  · show 0 < l ∧ l ≤ 2 * ((n : Int) + 1) + 1 ∧ l % 2 = 0
    unfold Circ.made at hl
    rcases List.mem_append.1 hl with hl | hl
    · have : l = 2 := by simpa [ringC] using hl
      omega
    · obtain ⟨t, ht, rfl⟩ := List.mem_map.1 hl
      obtain ⟨i, hi, rfl⟩ := rAnds_mem ht
      show 0 < 2 * ((i : Int) + 2) ∧ 2 * ((i : Int) + 2) ≤ 2 * ((n : Int) + 1) + 1 ∧ 2 * ((i : Int) + 2) % 2 = 0
      omega
  · show 0 ≤ l ∧ l ≤ 2 * ((n : Int) + 1) + 1
    have hl' : l ∈ (rAnds a r n).flatMap (fun a => [a.2.1, a.2.2]) := by simpa [Circ.used, ringC] using hl
    obtain ⟨t, ht, hm⟩ := List.mem_flatMap.1 hl'
    obtain ⟨i, hi, rfl⟩ := rAnds_mem ht
    simp only [rAnd, List.mem_cons, List.not_mem_nil, or_false] at hm
    rcases hm with rfl | rfl
    · split <;> omega
    · omega
theorem ring_known {n a : Nat} {r : Bool} (ha : a < n) : (ringC n a r).knownB = true := by
  unfold Circ.knownB
  rw [List.all_eq_true]
  intro l hl
  have hl' : l ∈ (rAnds a r n).flatMap (fun a => [a.2.1, a.2.2]) := by simpa [Circ.used, ringC] using hl
  obtain ⟨t, ht, hm⟩ := List.mem_flatMap.1 hl'
  obtain ⟨i, hi, rfl⟩ := rAnds_mem ht
  simp only [Bool.or_eq_true, decide_eq_true_eq]
  right
  rw [ring_vars, List.mem_cons, ring_gates]
  simp only [rAnd, List.mem_cons, List.not_mem_nil, or_false] at hm
  rcases hm with rfl | rfl
  · split
    · right; unfold varN; omega
    · unfold varN; omega
  · left; rfl
theorem ring_long {n a : Nat} {r : Bool} (hn : n ≤ 50) : (ringC n a r).longB = false := by
  unfold Circ.longB
  have h1 : (ringC n a r).ports = [1, 0, 0, 0, 0] := rfl
  have h2 : (ringC n a r).ands.length = n := rAnds_len a r n
  have h3 : (ringC n a r).max = (n : Int) + 1 := rfl
  have h4 : (ringC n a r).names.length = 0 := rfl
  rw [h1, h2, h3, h4]
  simp
  omega
theorem ring_checkI {n a : Nat} {r : Bool} (hn : n ≤ 50) (ha : a < n) : (ringC n a r).checkI = if (ringC n a r).turn.length < n then 9 else 0 := by
  have h1 : (ringC n a r).namesB = true := rfl
  have h2 : (ringC n a r).namedB = true := rfl
  unfold Circ.checkI
  rw [ring_long hn, ring_lits ha, h1, ring_once, h2, ring_known ha, show (ringC n a r).ands.length = n from rAnds_len a r n]
  simp

/-- In a ring none is ever taken. -/
theorem ring_none {n a : Nat} (ha : a < n) : (ringC n a true).turn = [] := by
  unfold Circ.turn
  apply turn_end
  refine next_none' (fun p hp => ?_)
  have hp' : p < n := by rw [show (ringC n a true).ands.length = n from rAnds_len a true n] at hp; exact hp
  unfold Circ.freeB Circ.readyB Circ.waitsL
  have hs : (if n - 1 - p = 0 ∧ true = true then a + 2 else n - 1 - p + 1) ∈ (ringC n a true).gates := by
    rw [ring_gates]
    by_cases e : n - 1 - p = 0
    · rw [if_pos ⟨e, rfl⟩]; omega
    · rw [if_neg (fun h => e h.1)]; omega
  rw [ring_sides hp']
  generalize (if n - 1 - p = 0 ∧ true = true then a + 2 else n - 1 - p + 1) = s at hs
  simp [hs]
/-- A chain is taken from its beginning on. -/
def chainT (n j : Nat) : List Nat := (List.range j).map (fun x => n - 1 - x)
theorem chainT_succ (n j : Nat) : chainT n (j + 1) = chainT n j ++ [n - 1 - j] := by unfold chainT; rw [List.range_succ, List.map_append]; rfl
theorem chainT_mem {n j p : Nat} (hj : j ≤ n) (hp : p < n) : p ∈ chainT n j ↔ n - 1 - p < j := by
  unfold chainT
  rw [List.mem_map]
  constructor
  · rintro ⟨x, hx, e⟩
    have := List.mem_range.1 hx
    omega
  · intro h
    exact ⟨n - 1 - p, List.mem_range.2 h, by omega⟩
theorem chain_free {n a j p : Nat} (hj : j < n) (hp : p < n) : (ringC n a false).freeB (chainT n j) p = decide (n - 1 - p = j) := by
  unfold Circ.freeB Circ.readyB Circ.waitsL
  rw [ring_sides hp]
  have h1 : ¬ (1 ∈ (ringC n a false).gates) := fun h => by have := (ring_gates.1 h).1; omega
  have e0 : (if n - 1 - p = 0 ∧ false = true then a + 2 else n - 1 - p + 1) = n - 1 - p + 1 := by simp
  rw [e0]
  by_cases hz : n - 1 - p = 0
  · rw [hz]
    simp only [Nat.zero_add]
    by_cases hj0 : j = 0
    · subst hj0
      have : p ∉ chainT n 0 := by rw [chainT_mem (by omega) hp]; omega
      simp [h1, this]
    · have : p ∈ chainT n j := by rw [chainT_mem (by omega) hp]; omega
      simp [this]; omega
  · have hg : (n - 1 - p + 1) ∈ (ringC n a false).gates := by rw [ring_gates]; omega
    have ht : (n - 1 - p + 1) ∈ (chainT n j).map (ringC n a false).gateOf ↔ n - 1 - p - 1 < j := by
      rw [List.mem_map]
      constructor
      · rintro ⟨q, hq, e⟩
        have hqn : q < n := by
          unfold chainT at hq
          obtain ⟨x, _, rfl⟩ := List.mem_map.1 hq
          omega
        rw [ring_gate hqn] at e
        have := (chainT_mem (by omega) hqn).1 hq
        omega
      · intro h
        exact ⟨p + 1, (chainT_mem (by omega) (by omega)).2 (by omega), by rw [ring_gate (by omega)]; omega⟩
    have hm := chainT_mem (n := n) (j := j) (p := p) (by omega) hp
    by_cases hc : n - 1 - p = j
    · have n1 : p ∉ chainT n j := fun h => by have := hm.1 h; omega
      have n2 := ht.2 (by omega)
      simp only [List.mem_map] at n2
      simp [h1, n1, hc]
      rw [← hc] at n2 ⊢
      exact fun _ => n2
    · by_cases hlt : n - 1 - p < j
      · have n1 := hm.2 hlt
        simp [n1, hc]
      · have n1 : ¬ ((n - 1 - p + 1) ∈ (chainT n j).map (ringC n a false).gateOf) := fun h => by have := ht.1 h; omega
        simp only [List.filter_cons, hg, n1, decide_true, decide_false, Bool.not_false, Bool.and_true, if_true, List.isEmpty_cons, Bool.and_false, hc]
theorem chain_next {n a j : Nat} (hj : j < n) : (ringC n a false).nextA (chainT n j) = some (n - 1 - j) := by
  have hl : (ringC n a false).ands.length = n := rAnds_len a false n
  refine next_some' (by rw [hl]; omega) ?_ (fun p hp => ?_)
  · rw [chain_free hj (by omega)]; exact decide_eq_true (by omega)
  · rw [chain_free hj (by omega)]; exact decide_eq_false (by omega)
theorem chain_turnA {n a : Nat} : ∀ (f j : Nat), j + f ≤ n → (ringC n a false).turnA f (chainT n j) = chainT n (j + f) := by
  intro f
  induction f with
  | zero => intro j _; rfl
  | succ f ih =>
    intro j hj
    unfold Circ.turnA
    rw [chain_next (by omega)]
    show (ringC n a false).turnA f (chainT n j ++ [n - 1 - j]) = _
    rw [← chainT_succ, ih (j + 1) (by omega), show j + 1 + f = j + (f + 1) by omega]
theorem chain_turn (n a : Nat) : (ringC n a false).turn = chainT n n := by
  unfold Circ.turn
  rw [show (ringC n a false).ands.length = n from rAnds_len a false n]
  have := chain_turnA (n := n) (a := a) n 0 (by omega)
  rw [Nat.zero_add] at this
  exact this
theorem ring_want {n a : Nat} {r : Bool} (hn : n ≤ 50) (ha : a < n) : (ringC n a r).checkI = if r = true then 9 else 0 := by
  rw [ring_checkI hn ha]
  cases r with
  | true => rw [ring_none ha, if_pos (by simp; omega)]; rfl
  | false => rw [chain_turn, if_neg (by unfold chainT; simp)]; rfl
/-- What the first And of a chain becomes. -/
theorem chain_first {n a : Nat} (hn : n ≤ 50) (ha : a < n) : (ringC n a false).norm.ands.length = n ∧ (atP (ringC n a false).norm.ands 0).2 = (3, 2) := by
  have hR := right_of (show (ringC n a false).checkI = 0 from ring_want hn ha)
  have hl : (ringC n a false).turn.length = n := by rw [hR.turn]; exact rAnds_len a false n
  refine ⟨by show ((ringC n a false).turn.map _).length = n; rw [List.length_map, hl], ?_⟩
  have e1 : atP (ringC n a false).norm.ands 0 = renA (ringC n a false).ren (atP (ringC n a false).ands (atP (ringC n a false).turn 0)) := atP_map (fun i => renA (ringC n a false).ren (atP (ringC n a false).ands i)) (ringC n a false).turn 0 (by omega)
  have e2 : atP (ringC n a false).turn 0 = n - 1 := by
    rw [chain_turn]
    unfold chainT
    rw [atP_map _ _ _ (by simp; omega), atP_eq _ 0 (by simp; omega)]
    simp
  have e3 : atP (ringC n a false).ands (n - 1) = rAnd a false 0 := by
    have := rAnds_at a false n (n - 1) (by omega)
    rw [show n - 1 - (n - 1) = 0 by omega] at this
    exact this
  have hr := ren_at hR (i := 0) (by rw [order_total hR]; show 0 < 1 + 0 + _; omega)
  have ho : atP (ringC n a false).order 0 = 1 := (order_in (C := ringC n a false) (k := 0) (show 0 < 1 by decide)).trans (show varN 2 = 1 by decide)
  rw [ho] at hr
  rw [e1, e2, e3]
  unfold rAnd renA renL
  simp only [true_and, Bool.false_eq_true, if_false]
  rw [show varN (2 * (((0 : Nat) : Int) + 1)) = 1 from rfl, show varN 3 = 1 from rfl, hr]
  rfl
end Go.Proofs.Ytppaifckiaaffaa
