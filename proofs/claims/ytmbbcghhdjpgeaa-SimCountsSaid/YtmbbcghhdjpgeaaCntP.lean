/-
  A COUNTER OF BITS, no function of the program: its circuit, and that a step adds one.
-/
import Derived.Test.YtmbbcghhdjpgeaaSimP
namespace Go.Proofs.Ytmbbcghhdjpgeaa
open Go.RowKit

/-- The carry into bit i. -/
def carL (n i : Nat) : Int := if i = 0 then 1 else 2 * ((n + 3 * i - 2 : Nat) : Int)
def carN (n i : Nat) : Int := if i = 0 then 0 else 2 * ((n + 3 * i - 2 : Nat) : Int) + 1
def cntA1 (n i : Nat) : Tri := (2 * ((n + 3 * i + 1 : Nat) : Int), 2 * ((i + 1 : Nat) : Int), carL n i)
def cntA2 (n i : Nat) : Tri := (2 * ((n + 3 * i + 2 : Nat) : Int), 2 * ((i + 1 : Nat) : Int) + 1, carN n i)
def cntA3 (n i : Nat) : Tri := (2 * ((n + 3 * i + 3 : Nat) : Int), 2 * ((n + 3 * i + 1 : Nat) : Int) + 1, 2 * ((n + 3 * i + 2 : Nat) : Int) + 1)
def cntL (n i : Nat) : Tri := (2 * ((i + 1 : Nat) : Int), 2 * ((n + 3 * i + 3 : Nat) : Int), 0)
def cntAnds (n : Nat) : Nat → List Tri
  | 0 => []
  | i + 1 => cntAnds n i ++ [cntA1 n i, cntA2 n i, cntA3 n i]
def cntLats (n : Nat) : Nat → List Tri
  | 0 => []
  | i + 1 => cntLats n i ++ [cntL n i]
def cntC (n : Nat) : Circ := ⟨((n + 3 * n : Nat) : Int), [], cntLats n n, [], [1], [], cntAnds n n, []⟩

theorem cntAnds_len (n : Nat) : ∀ i, (cntAnds n i).length = 3 * i
  | 0 => rfl
  | i + 1 => by show (cntAnds n i ++ _).length = _; rw [List.length_append, cntAnds_len n i]; simp; omega
theorem cntLats_len (n : Nat) : ∀ i, (cntLats n i).length = i
  | 0 => rfl
  | i + 1 => by show (cntLats n i ++ _).length = _; rw [List.length_append, cntLats_len n i]; rfl
theorem cntAnds_at (n : Nat) : ∀ m i, i < m → atP (cntAnds n m) (3 * i) = cntA1 n i ∧ atP (cntAnds n m) (3 * i + 1) = cntA2 n i ∧ atP (cntAnds n m) (3 * i + 2) = cntA3 n i
  | 0, i, h => absurd h (Nat.not_lt_zero _)
  | m + 1, i, h => by
    have hl := cntAnds_len n m
    show atP (cntAnds n m ++ _) _ = _ ∧ atP (cntAnds n m ++ _) _ = _ ∧ atP (cntAnds n m ++ _) _ = _
    by_cases e : i = m
    · subst e
      have e0 : 3 * i = (cntAnds n i).length + 0 := by rw [hl]; rfl
      have e1 : 3 * i + 1 = (cntAnds n i).length + 1 := by rw [hl]
      have e2 : 3 * i + 2 = (cntAnds n i).length + 2 := by rw [hl]
      rw [e1, e2]
      refine ⟨?_, by rw [atP_right]; rfl, by rw [atP_right]; rfl⟩
      rw [e0, atP_right]; rfl
    · obtain ⟨h1, h2, h3⟩ := cntAnds_at n m i (by omega)
      rw [atP_left _ _ _ (by omega), atP_left _ _ _ (by omega), atP_left _ _ _ (by omega)]
      exact ⟨h1, h2, h3⟩
theorem cntLats_at (n : Nat) : ∀ m i, i < m → atP (cntLats n m) i = cntL n i
  | 0, i, h => absurd h (Nat.not_lt_zero _)
  | m + 1, i, h => by
    have hl := cntLats_len n m
    show atP (cntLats n m ++ _) _ = _
    by_cases e : i = m
    · subst e
      have e0 : i = (cntLats n i).length + 0 := by rw [hl]; rfl
      conv => lhs; arg 2; rw [e0]
      rw [atP_right]; rfl
    · rw [atP_left _ _ _ (by omega)]
      exact cntLats_at n m i (by omega)

theorem cnt_check : ∀ n, n < 11 → 0 < n → (cntC n).checkI = 0 := by decide +kernel

/-- Are all bits below i set? -/
def lowB (k : Nat) : Nat → Bool
  | 0 => true
  | i + 1 => lowB k i && k.testBit i
theorem lowB_shift (k : Nat) : ∀ i, lowB k (i + 1) = (k.testBit 0 && lowB (k / 2) i)
  | 0 => by simp [lowB]
  | i + 1 => by
    show (lowB k (i + 1) && k.testBit (i + 1)) = (k.testBit 0 && (lowB (k / 2) i && (k / 2).testBit i))
    rw [lowB_shift k i, Nat.testBit_succ, Bool.and_assoc]
theorem bit_succ : ∀ (i k : Nat), (k + 1).testBit i = (k.testBit i != lowB k i)
  | 0, k => by
    rw [Nat.testBit_zero, Nat.testBit_zero]
    show decide ((k + 1) % 2 = 1) = (decide (k % 2 = 1) != true)
    rcases Nat.mod_two_eq_zero_or_one k with h | h
    · rw [h, show (k + 1) % 2 = 1 by omega]; rfl
    · rw [h, show (k + 1) % 2 = 0 by omega]; rfl
  | i + 1, k => by
    rw [Nat.testBit_succ, Nat.testBit_succ, lowB_shift, Nat.testBit_zero]
    rcases Nat.mod_two_eq_zero_or_one k with h | h
    · rw [h, show (k + 1) / 2 = k / 2 by omega]; simp
    · rw [h, show (k + 1) / 2 = k / 2 + 1 by omega, bit_succ i (k / 2)]; simp

/-- The bits of k. -/
def bitsK (n k : Nat) : List Bool := (List.range n).map (fun i => k.testBit i)
theorem bitsK_len (n k : Nat) : (bitsK n k).length = n := by simp [bitsK]
theorem bitsK_at {n k i : Nat} (h : i < n) : atP (bitsK n k) i = k.testBit i := by
  unfold bitsK
  rw [atP_map _ _ _ (by rw [List.length_range]; exact h)]
  congr 1
  rw [atP_eq _ _ (by rw [List.length_range]; exact h), List.getElem_range]

/-- What variable x is in state k. -/
def cntV (n k x : Nat) : Bool :=
  if x = 0 then false else if x ≤ n then k.testBit (x - 1) else
    if (x - n - 1) % 3 = 0 then k.testBit ((x - n - 1) / 3) && lowB k ((x - n - 1) / 3)
    else if (x - n - 1) % 3 = 1 then !k.testBit ((x - n - 1) / 3) && !lowB k ((x - n - 1) / 3)
    else k.testBit ((x - n - 1) / 3) != lowB k ((x - n - 1) / 3)
theorem cntV_bit {n k i : Nat} (h : i < n) : cntV n k (i + 1) = k.testBit i := by
  unfold cntV
  rw [if_neg (by omega), if_pos (by omega)]; rfl
theorem cntV_1 (n k i : Nat) : cntV n k (n + 3 * i + 1) = (k.testBit i && lowB k i) := by
  unfold cntV
  rw [if_neg (by omega), if_neg (by omega), if_pos (by omega), show (n + 3 * i + 1 - n - 1) / 3 = i by omega]
theorem cntV_2 (n k i : Nat) : cntV n k (n + 3 * i + 2) = (!k.testBit i && !lowB k i) := by
  unfold cntV
  rw [if_neg (by omega), if_neg (by omega), if_neg (by omega), if_pos (by omega), show (n + 3 * i + 2 - n - 1) / 3 = i by omega]
theorem cntV_3 (n k i : Nat) : cntV n k (n + 3 * i + 3) = (k.testBit i != lowB k i) := by
  unfold cntV
  rw [if_neg (by omega), if_neg (by omega), if_neg (by omega), if_neg (by omega), show (n + 3 * i + 3 - n - 1) / 3 = i by omega]
def cntAll (n k : Nat) : List Bool := (List.range (n + 3 * n + 1)).map (cntV n k)
theorem cntAll_at {n k x : Nat} (h : x < n + 3 * n + 1) : atP (cntAll n k) x = cntV n k x := by
  unfold cntAll
  rw [atP_map _ _ _ (by rw [List.length_range]; exact h)]
  congr 1
  rw [atP_eq _ _ (by rw [List.length_range]; exact h), List.getElem_range]
theorem cnt_even (v : List Bool) (x : Nat) : litV v (2 * (x : Int)) = atP v x := by
  unfold litV varN
  rw [show (2 * (x : Int)).toNat / 2 = x by omega, show decide (2 * (x : Int) % 2 = 1) = false from decide_eq_false (by omega)]
  simp
theorem cnt_odd (v : List Bool) (x : Nat) : litV v (2 * (x : Int) + 1) = !atP v x := by
  unfold litV varN
  rw [show (2 * (x : Int) + 1).toNat / 2 = x by omega, show decide ((2 * (x : Int) + 1) % 2 = 1) = true from decide_eq_true (by omega)]
  simp
theorem varN_even (x : Nat) : varN (2 * (x : Int)) = x := by unfold varN; omega

theorem car_lit {n k i : Nat} (h : i < n) : litV (cntAll n k) (carL n i) = lowB k i ∧ litV (cntAll n k) (carN n i) = !lowB k i := by
  unfold carL carN
  cases i with
  | zero =>
    rw [if_pos rfl, if_pos rfl]
    have h1 := cnt_odd (cntAll n k) 0
    have h0 := cnt_even (cntAll n k) 0
    have hz : atP (cntAll n k) 0 = false := by rw [cntAll_at (by omega)]; rfl
    rw [hz] at h1 h0
    exact ⟨h1, h0⟩
  | succ j =>
    rw [if_neg (by omega), if_neg (by omega), cnt_even, cnt_odd, show n + 3 * (j + 1) - 2 = n + 3 * j + 1 by omega, cntAll_at (by omega), cntV_1]
    have e : lowB k (j + 1) = (k.testBit j && lowB k j) := by show (lowB k j && k.testBit j) = _; rw [Bool.and_comm]
    rw [e]
    exact ⟨rfl, rfl⟩

theorem cnt_vals {n k : Nat} (hn : n < 11) (h0 : 0 < n) : (cntC n).vals (bitsK n k) [] = cntAll n k := by
  have hR := right_of (cnt_check n hn h0)
  have hla : (cntC n).ands.length = 3 * n := cntAnds_len n n
  have hgate : ∀ i, i < n → (cntC n).gateOf (3 * i) = n + 3 * i + 1 ∧ (cntC n).gateOf (3 * i + 1) = n + 3 * i + 2 ∧ (cntC n).gateOf (3 * i + 2) = n + 3 * i + 3 := fun i hi => by
    obtain ⟨a1, a2, a3⟩ := cntAnds_at n n i hi
    unfold Circ.gateOf
    show varN (atP (cntAnds n n) _).1 = _ ∧ varN (atP (cntAnds n n) _).1 = _ ∧ varN (atP (cntAnds n n) _).1 = _
    rw [a1, a2, a3]
    exact ⟨varN_even _, varN_even _, varN_even _⟩
  have hmax : (cntC n).max.toNat + 1 = n + 3 * n + 1 := by show ((n + 3 * n : Nat) : Int).toNat + 1 = _; omega
  symm
  unfold Circ.vals
  refine fix_all hR (start_len _ _ _) ⟨?_, fun x hx => ?_⟩ (fun p hp => ?_)
  · rw [hmax]; unfold cntAll; simp
  · by_cases hx0 : x = 0
    · subst hx0
      rw [cntAll_at (by omega)]
      have h1 := vals_zero hR (bitsK n k) []
      unfold Circ.vals at h1
      rw [vals_other hR _ (start_len _ _ _) hx] at h1
      rw [h1]; rfl
    · by_cases hxn : x ≤ n
      · obtain ⟨i, rfl⟩ : ∃ i, x = i + 1 := ⟨x - 1, by omega⟩
        have hi : i < (cntC n).lats.length := by show i < (cntLats n n).length; rw [cntLats_len]; omega
        have h1 := start_lat hR (bitsK n k) [] hi
        have e : varN (atP (cntC n).lats i).1 = i + 1 := by
          show varN (atP (cntLats n n) i).1 = _
          rw [cntLats_at n n i (by omega)]
          exact varN_even _
        rw [e] at h1
        rw [h1, cntAll_at (by omega), cntV_bit (by omega), bitsK_at (by omega)]
      · by_cases hxm : x < n + 3 * n + 1
        · exfalso
          refine hx ?_
          rw [gates_eq]
          have hq : (x - n - 1) / 3 < n := by omega
          obtain ⟨g1, g2, g3⟩ := hgate _ hq
          refine List.mem_map.2 ⟨x - n - 1, List.mem_range.2 (by rw [hla]; omega), ?_⟩
          rcases (show (x - n - 1) % 3 = 0 ∨ (x - n - 1) % 3 = 1 ∨ (x - n - 1) % 3 = 2 by omega) with h | h | h
          · rw [show x - n - 1 = 3 * ((x - n - 1) / 3) by omega, g1]; omega
          · rw [show x - n - 1 = 3 * ((x - n - 1) / 3) + 1 by omega, g2]; omega
          · rw [show x - n - 1 = 3 * ((x - n - 1) / 3) + 2 by omega, g3]; omega
        · have e1 : atP (cntAll n k) x = false := by
            simp [atP, List.getD_eq_getElem?_getD, List.getElem?_eq_none (show (cntAll n k).length ≤ x by unfold cntAll; simp; omega)]
          have e2 : atP ((cntC n).start (bitsK n k) []) x = false := by
            simp [atP, List.getD_eq_getElem?_getD, List.getElem?_eq_none (show ((cntC n).start (bitsK n k) []).length ≤ x by rw [start_len, hmax]; omega)]
          rw [e1, e2]
  · rw [hla] at hp
    have hq : p / 3 < n := by omega
    obtain ⟨g1, g2, g3⟩ := hgate _ hq
    obtain ⟨a1, a2, a3⟩ := cntAnds_at n n _ hq
    obtain ⟨c1, c2⟩ := car_lit (k := k) hq
    have hb : atP (cntAll n k) (p / 3 + 1) = k.testBit (p / 3) := by rw [cntAll_at (by omega), cntV_bit hq]
    have v1 : atP (cntAll n k) (n + 3 * (p / 3) + 1) = (k.testBit (p / 3) && lowB k (p / 3)) := by rw [cntAll_at (by omega), cntV_1]
    have v2 : atP (cntAll n k) (n + 3 * (p / 3) + 2) = (!k.testBit (p / 3) && !lowB k (p / 3)) := by rw [cntAll_at (by omega), cntV_2]
    have v3 : atP (cntAll n k) (n + 3 * (p / 3) + 3) = (k.testBit (p / 3) != lowB k (p / 3)) := by rw [cntAll_at (by omega), cntV_3]
    show atP (cntAll n k) _ = andB _ (atP (cntAnds n n) p)
    unfold andB
    rcases (show p % 3 = 0 ∨ p % 3 = 1 ∨ p % 3 = 2 by omega) with h | h | h
    · have e : p = 3 * (p / 3) := by omega
      rw [show (cntC n).gateOf p = n + 3 * (p / 3) + 1 by rw [← g1, ← e], show atP (cntAnds n n) p = cntA1 n (p / 3) by rw [← a1, ← e], v1]
      unfold cntA1
      dsimp only
      rw [cnt_even, hb, c1]
    · have e : p = 3 * (p / 3) + 1 := by omega
      rw [show (cntC n).gateOf p = n + 3 * (p / 3) + 2 by rw [← g2, ← e], show atP (cntAnds n n) p = cntA2 n (p / 3) by rw [← a2, ← e], v2]
      unfold cntA2
      dsimp only
      rw [cnt_odd, hb, c2]
    · have e : p = 3 * (p / 3) + 2 := by omega
      rw [show (cntC n).gateOf p = n + 3 * (p / 3) + 3 by rw [← g3, ← e], show atP (cntAnds n n) p = cntA3 n (p / 3) by rw [← a3, ← e], v3]
      unfold cntA3
      dsimp only
      rw [cnt_odd, cnt_odd, v1, v2]
      generalize k.testBit (p / 3) = b
      generalize lowB k (p / 3) = c
      cases b <;> cases c <;> rfl

/-- A step of the counter adds one. -/
theorem cnt_step {n k : Nat} (hn : n < 11) (h0 : 0 < n) : (cntC n).stepI (bitsK n k) [] = 0 ∧ ((cntC n).stepE (bitsK n k) []).next = bitsK n (k + 1) := by
  have h1 : (cntC n).stepI (bitsK n k) [] = 0 := by
    unfold Circ.stepI
    rw [if_neg (fun h => h (cnt_check n hn h0)), if_pos ⟨by rw [bitsK_len]; exact (cntLats_len n n).symm, rfl⟩]
  refine ⟨h1, ?_⟩
  unfold Circ.stepE
  rw [if_pos h1, cnt_vals hn h0]
  show (cntC n).nexts.map (litV (cntAll n k)) = _
  have hl : (cntC n).nexts.length = n := by unfold Circ.nexts; rw [List.length_map]; exact cntLats_len n n
  refine list_ext_atP (by rw [List.length_map, hl, bitsK_len]) (fun i hi => ?_)
  rw [List.length_map, hl] at hi
  rw [atP_map _ _ _ (by rw [hl]; exact hi), bitsK_at hi, bit_succ]
  have e : atP (cntC n).nexts i = 2 * ((n + 3 * i + 3 : Nat) : Int) := by
    unfold Circ.nexts
    rw [atP_map _ _ _ (by show i < (cntLats n n).length; rw [cntLats_len]; exact hi)]
    show (atP (cntLats n n) i).2.1 = _
    rw [cntLats_at n n i hi]; rfl
  rw [e, cnt_even, cntAll_at (by omega), cntV_3]

/-- The number of the first k bits. -/
def numN (l : List Bool) : Nat → Nat
  | 0 => 0
  | i + 1 => numN l i + if atP l i = true then 2 ^ i else 0
theorem numN_lt (l : List Bool) : ∀ i, numN l i < 2 ^ i
  | 0 => by show (0 : Nat) < 1; decide
  | i + 1 => by
    have := numN_lt l i
    show numN l i + (if atP l i = true then 2 ^ i else 0) < 2 ^ (i + 1)
    rw [Nat.pow_succ]
    split <;> omega
theorem numN_bits {n k : Nat} : ∀ i, i ≤ n → numN (bitsK n k) i = k % 2 ^ i
  | 0, _ => by show 0 = k % 1; omega
  | i + 1, h => by
    show numN (bitsK n k) i + (if atP (bitsK n k) i = true then 2 ^ i else 0) = _
    rw [numN_bits i (by omega), bitsK_at (by omega), Nat.mod_pow_succ, Nat.testBit_eq_decide_div_mod_eq]
    rcases Nat.mod_two_eq_zero_or_one (k / 2 ^ i) with h | h
    · rw [h]; simp
    · rw [h]; simp
end Go.Proofs.Ytmbbcghhdjpgeaa
