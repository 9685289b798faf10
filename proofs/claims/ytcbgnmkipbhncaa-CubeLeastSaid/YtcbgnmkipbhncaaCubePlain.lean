/-
  SIGNS, no function of the program: which lists are right, what a list is in order.
-/
import Derived.Test.YtcbgnmkipbhncaaCubeOrder
namespace Go.Proofs.Ytcbgnmkipbhncaa

def Fits (n : Int) : Prop := n ≠ 0 ∧ SignB n
def fitB (n : Int) : Bool := decide (n ≠ 0) && (decide (-2147483648 ≤ n) && decide (n ≤ 2147483648))
theorem fitB_iff (n : Int) : fitB n = true ↔ Fits n := by unfold fitB Fits SignB; simp
theorem fitB_no {n : Int} (h : ¬ Fits n) : fitB n = false := by rw [← fitB_iff] at h; simpa using h

/-- May be put in order: all are signs, no sign's opposite is there. -/
def Good (xs : List Int) : Prop := (∀ n ∈ xs, Fits n) ∧ ∀ n ∈ xs, -n ∉ xs
def goodB (xs : List Int) : Bool := xs.all fitB && xs.all (fun n => !xs.contains (-n))
theorem goodB_iff (xs : List Int) : goodB xs = true ↔ Good xs := by
  unfold goodB Good
  simp [List.all_eq_true, fitB_iff]
theorem goodB_no {xs : List Int} (h : ¬ Good xs) : goodB xs = false := by rw [← goodB_iff] at h; simpa using h

/-- Rising by size, each size once. -/
def Up (xs : List Int) : Prop := xs.Pairwise fun a b => mag a < mag b

def insL (n : Int) : List Int → List Int
  | [] => [n]
  | m :: r => if mag m < mag n then m :: insL n r else if m = n then m :: r else n :: m :: r
def cubeL (xs : List Int) : List Int := xs.foldl (fun acc n => insL n acc) []
/-- What Of tells. -/
def cubeA (xs : List Int) : List Int := if goodB xs = true then cubeL xs else []

theorem mag_neg (n : Int) : mag (-n) = mag n := by unfold mag; split <;> split <;> omega
theorem mag_pos {n : Int} (h : Fits n) : 1 ≤ mag n := by obtain ⟨h0, _⟩ := h; unfold mag; split <;> omega
theorem mag_eq {m n : Int} (h : mag m = mag n) : m = n ∨ m = -n := by unfold mag at h; split at h <;> split at h <;> omega
theorem Fits.sign {n : Int} (h : Fits n) : SignB n := h.2
theorem Good.signs {xs : List Int} (h : Good xs) : ∀ n ∈ xs, SignB n := fun n hn => (h.1 n hn).2
theorem Good.apart {xs : List Int} (h : Good xs) : ∀ m ∈ xs, ∀ n ∈ xs, mag m = mag n → m = n := fun m hm n hn e => by
  rcases mag_eq e with rfl | rfl
  · rfl
  · exact absurd hm (h.2 n hn)

theorem insL_mem (n : Int) (acc : List Int) : ∀ x, x ∈ insL n acc ↔ x = n ∨ x ∈ acc := by
  induction acc with
  | nil => intro x; simp [insL]
  | cons m r ih =>
    intro x
    rw [insL]
    split
    · rw [List.mem_cons, ih, List.mem_cons]; constructor <;> (rintro (h | h | h) <;> simp [h])
    · split
      · rename_i h; subst h; simp
      · simp

theorem insL_up (n : Int) (acc : List Int) (h : Up acc) (hap : ∀ m ∈ acc, mag m = mag n → m = n) : Up (insL n acc) := by
  induction acc with
  | nil => exact List.pairwise_singleton _ _
  | cons m r ih =>
    obtain ⟨h1, h2⟩ := List.pairwise_cons.1 h
    rw [insL]
    split
    · rename_i hlt
      refine List.pairwise_cons.2 ⟨fun x hx => ?_, ih h2 (fun m hm => hap m (List.mem_cons_of_mem _ hm))⟩
      rcases (insL_mem n r x).1 hx with rfl | hx
      · exact hlt
      · exact h1 x hx
    · split
      · exact h
      · rename_i hlt hne
        have hm : mag n < mag m := by
          have : mag m ≠ mag n := fun e => hne (hap m List.mem_cons_self e)
          omega
        refine List.pairwise_cons.2 ⟨fun x hx => ?_, h⟩
        rcases List.mem_cons.1 hx with rfl | hx
        · exact hm
        · have := h1 x hx; omega

theorem foldIns (ys : List Int) : ∀ acc, Up acc → (∀ m, m ∈ acc ∨ m ∈ ys → ∀ n, n ∈ acc ∨ n ∈ ys → mag m = mag n → m = n) →
    Up (ys.foldl (fun acc n => insL n acc) acc) ∧ ∀ x, x ∈ ys.foldl (fun acc n => insL n acc) acc ↔ x ∈ acc ∨ x ∈ ys := by
  induction ys with
  | nil => intro acc h _; exact ⟨h, fun x => by simp⟩
  | cons n r ih =>
    intro acc h hap
    have hm : ∀ x, (x ∈ insL n acc ∨ x ∈ r) ↔ (x ∈ acc ∨ x ∈ n :: r) := fun x => by
      rw [insL_mem, List.mem_cons]
      constructor
      · rintro ((h | h) | h)
        · exact .inr (.inl h)
        · exact .inl h
        · exact .inr (.inr h)
      · rintro (h | h | h)
        · exact .inl (.inr h)
        · exact .inl (.inl h)
        · exact .inr h
    have h2 := ih (insL n acc) (insL_up n acc h (fun m hm' e => hap m (.inl hm') n (.inr List.mem_cons_self) e)) (fun m hm1 k hk1 e => hap m ((hm m).1 hm1) k ((hm k).1 hk1) e)
    exact ⟨h2.1, fun x => (h2.2 x).trans (hm x)⟩

theorem cubeL_up {xs : List Int} (h : Good xs) : Up (cubeL xs) ∧ ∀ x, x ∈ cubeL xs ↔ x ∈ xs := by
  have := foldIns xs [] List.Pairwise.nil (fun m hm n hn e => by
    simp at hm hn
    exact h.apart m hm n hn e)
  exact ⟨this.1, fun x => (this.2 x).trans (by simp)⟩

theorem up_ext : ∀ (a b : List Int), Up a → Up b → (∀ x, x ∈ a ↔ x ∈ b) → a = b := by
  intro a
  induction a with
  | nil =>
    intro b _ _ h
    cases b with
    | nil => rfl
    | cons y r => exact absurd ((h y).2 List.mem_cons_self) (by simp)
  | cons x r ih =>
    intro b ha hb h
    obtain ⟨a1, a2⟩ := List.pairwise_cons.1 ha
    cases b with
    | nil => exact absurd ((h x).1 List.mem_cons_self) (by simp)
    | cons y s =>
      obtain ⟨b1, b2⟩ := List.pairwise_cons.1 hb
      have hxy : x = y := by
        rcases List.mem_cons.1 ((h x).1 List.mem_cons_self) with e | hx
        · exact e
        · rcases List.mem_cons.1 ((h y).2 List.mem_cons_self) with e | hy
          · exact e.symm
          · have := b1 x hx; have := a1 y hy; omega
      subst hxy
      rw [ih s a2 b2 (fun z => ?_)]
      constructor
      · intro hz
        rcases List.mem_cons.1 ((h z).1 (List.mem_cons_of_mem _ hz)) with e | hz'
        · subst e; have := a1 z hz; omega
        · exact hz'
      · intro hz
        rcases List.mem_cons.1 ((h z).2 (List.mem_cons_of_mem _ hz)) with e | hz'
        · subst e; have := b1 z hz; omega
        · exact hz'

/-- A list is what Of tells if it rises and has the same signs. -/
theorem cubeA_eq {xs r : List Int} (h : Good xs) (hu : Up r) (hm : ∀ x, x ∈ r ↔ x ∈ xs) : cubeA xs = r := by
  rw [cubeA, if_pos ((goodB_iff xs).2 h)]
  have := cubeL_up h
  exact up_ext _ _ this.1 hu (fun x => (this.2 x).trans (hm x).symm)
theorem cubeA_no {xs : List Int} (h : ¬ Good xs) : cubeA xs = [] := by rw [cubeA, goodB_no h]; rfl
theorem cubeA_mem {xs : List Int} (h : Good xs) : ∀ x, x ∈ cubeA xs ↔ x ∈ xs := by rw [cubeA, if_pos ((goodB_iff xs).2 h)]; exact (cubeL_up h).2
theorem cubeA_up (xs : List Int) : Up (cubeA xs) := by
  by_cases h : Good xs
  · rw [cubeA, if_pos ((goodB_iff xs).2 h)]; exact (cubeL_up h).1
  · rw [cubeA_no h]; exact List.Pairwise.nil
theorem cubeA_sub (xs : List Int) : ∀ x ∈ cubeA xs, x ∈ xs := fun x hx => by
  by_cases h : Good xs
  · exact (cubeA_mem h x).1 hx
  · rw [cubeA_no h] at hx; cases hx

/-- How many sizes there are. -/
theorem up_len : ∀ (xs : List Int) (lo : Int), Up xs → (∀ x ∈ xs, lo < mag x ∧ mag x ≤ 2147483648) → 0 ≤ lo → lo ≤ 2147483648 → (xs.length : Int) + lo ≤ 2147483648 := by
  intro xs
  induction xs with
  | nil => intro lo _ _ _ h; simpa using h
  | cons x r ih =>
    intro lo h hb h0 h1
    obtain ⟨a1, a2⟩ := List.pairwise_cons.1 h
    have hx := hb x List.mem_cons_self
    have := ih (mag x) a2 (fun y hy => ⟨a1 y hy, (hb y (List.mem_cons_of_mem _ hy)).2⟩) (by omega) hx.2
    simp
    omega
theorem up_short {xs : List Int} (h : Up xs) (hf : ∀ x ∈ xs, Fits x) : xs.length ≤ 2147483648 := by
  have := up_len xs 0 h (fun x hx => ⟨by have := mag_pos (hf x hx); omega, (mag_bd (hf x hx).2).2⟩) (by decide) (by decide)
  omega

/-- In order by size: what a scan of a sorted list keeps. -/
theorem scan_step {ys acc : List Int} {k : Nat} {last : Int} (hr : RiseP ltI ys) (hf : ∀ n ∈ ys, Fits n) (hk : k < ys.length) (hu : Up acc) (hm : ∀ x, x ∈ acc ↔ x ∈ ys.take k) (hg : Good (ys.take k))
    (hl : (k = 0 ∧ last = 0) ∨ (0 < k ∧ last = atP ys (k - 1))) :
    (atP ys k = -last → ¬ Good ys) ∧ (atP ys k ≠ -last → Good (ys.take (k + 1)) ∧ (atP ys k ≠ last → Up (acc ++ [atP ys k]) ∧ ∀ x, x ∈ acc ++ [atP ys k] ↔ x ∈ ys.take (k + 1)) ∧ (atP ys k = last → ∀ x, x ∈ acc ↔ x ∈ ys.take (k + 1))) := by
  obtain ⟨n, hn⟩ : ∃ n, n = atP ys k := ⟨_, rfl⟩
  have hnm : n ∈ ys := by rw [hn]; exact atP_mem ys k hk
  have hnf := hf n hnm
  have htk : ys.take (k + 1) = ys.take k ++ [n] := by rw [hn, atP_eq ys k hk]; exact List.take_succ_eq_append_getElem hk
  have hle : ∀ x ∈ ys.take k, mag x ≤ mag last ∧ mag last ≤ mag n := by
    intro x hx
    obtain ⟨i, hi, rfl⟩ := List.getElem_of_mem hx
    rw [List.length_take] at hi
    have hik : i < k := by omega
    rcases hl with ⟨h0, _⟩ | ⟨h0, e⟩
    · omega
    have hp := List.pairwise_iff_getElem.1 hr
    rw [List.getElem_take]
    have e1 : last = ys[k - 1]'(by omega) := by rw [e, atP_eq ys (k - 1) (by omega)]
    have e2 : n = ys[k] := by rw [hn, atP_eq ys k hk]
    constructor
    · by_cases hik1 : i = k - 1
      · subst hik1; rw [e1]; omega
      · have := hp i (k - 1) (by omega) (by omega) (by omega)
        unfold ltI at this
        rw [e1]; simp at this; exact this
    · have := hp (k - 1) k (by omega) (by omega) (by omega)
      unfold ltI at this
      rw [e1, e2]; simp at this; exact this
  rw [← hn]
  have hlm : 0 < k → last ∈ ys.take k := fun h0 => by
    rcases hl with ⟨h1, _⟩ | ⟨_, e⟩
    · omega
    · rw [e, atP_eq ys (k - 1) (by omega)]
      have h2 : k - 1 < (ys.take k).length := by rw [List.length_take]; omega
      have := List.getElem_mem h2
      rwa [List.getElem_take] at this
  refine ⟨fun e hgood => ?_, fun e => ?_⟩
  · rcases hl with ⟨_, h1⟩ | ⟨h0, h1⟩
    · exact hnf.1 (by omega)
    · have := hgood.2 n hnm
      rw [e, Int.neg_neg] at this
      exact this (List.mem_of_mem_take (hlm h0))
  · have hno : -n ∉ ys.take k := fun hx => by
      by_cases h0 : k = 0
      · subst h0; simp at hx
      have h1 := hle _ hx
      rw [mag_neg] at h1
      have h2 : mag last = mag n := by omega
      rcases mag_eq h2 with h3 | h3
      · have := hg.2 last (hlm (by omega))
        rw [h3] at this
        exact this hx
      · exact e (by omega)
    refine ⟨⟨fun x hx => hf x (List.mem_of_mem_take hx), fun x hx => ?_⟩, fun hne => ⟨?_, fun x => ?_⟩, fun he x => ?_⟩
    · rw [htk] at hx ⊢
      intro hx2
      rcases List.mem_append.1 hx with hx | hx
      · rcases List.mem_append.1 hx2 with hx2 | hx2
        · exact hg.2 x hx hx2
        · rw [List.mem_singleton] at hx2
          apply hno
          rw [show -n = x by omega]
          exact hx
      · rw [List.mem_singleton] at hx
        subst hx
        rcases List.mem_append.1 hx2 with hx2 | hx2
        · exact hno hx2
        · rw [List.mem_singleton] at hx2
          exact hnf.1 (by omega)
    · refine List.pairwise_append.2 ⟨hu, List.pairwise_singleton _ _, fun a ha b hb => ?_⟩
      rw [List.mem_singleton] at hb
      subst hb
      have h1 := hle a ((hm a).1 ha)
      have h2 : mag last ≠ mag b := fun h => by rcases mag_eq h with h | h <;> omega
      omega
    · rw [htk, List.mem_append, List.mem_append, hm]
    · rw [htk, List.mem_append, hm]
      constructor
      · exact .inl
      · rintro (h | h)
        · exact h
        · rw [List.mem_singleton] at h
          subst h
          rw [he]
          refine hlm ?_
          rcases hl with ⟨_, h1⟩ | ⟨h0, _⟩
          · exact absurd (he.trans h1) hnf.1
          · exact h0
end Go.Proofs.Ytcbgnmkipbhncaa
