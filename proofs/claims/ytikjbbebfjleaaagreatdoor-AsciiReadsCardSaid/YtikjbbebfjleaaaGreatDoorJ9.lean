/-
  CIRCUITS, no function of the program: what one is, which are right, in which order Ands are taken.
  THE READER OF CIRCUITS, pure: what any bytes are, line by line. A place is where the next line begins; none: the reader has failed.
-/
import Derived.Test.YtikjbbebfjleaaaGreatDoorJ7
import Derived.Test.YtikjbbebfjleaaaGreatDoorLine
import Derived.Lib.IndexMore
namespace Go.Proofs.YtikjbbebfjleaaaGreatDoor
open Go.RowKit

/-- A latch (its literal, next, reset) or an And (its literal, both sides). -/
abbrev Tri := Int × Int × Int
/-- A symbol: kind, index, name. -/
abbrev Sym := Int × Int × ByteArray

structure Circ where
  max : Int
  ins : List Int
  lats : List Tri
  outs : List Int
  bads : List Int
  cons : List Int
  ands : List Tri
  names : List Sym

def Circ.made (C : Circ) : List Int := C.ins ++ C.lats.map (·.1) ++ C.ands.map (·.1)
def Circ.used (C : Circ) : List Int := C.lats.map (·.2.1) ++ C.outs ++ C.bads ++ C.cons ++ C.ands.flatMap (fun a => [a.2.1, a.2.2])
def Circ.ports (C : Circ) : List Nat := [C.ins.length, C.lats.length, C.outs.length, C.bads.length, C.cons.length]

def Circ.longB (C : Circ) : Bool := C.ports.any (fun n => decide (64 < n)) || (decide (5000 < C.max) || (decide (2000 < C.ands.length) || decide (C.ports.sum < C.names.length)))

def ownB (top l : Int) : Bool := decide (0 < l) && (decide (l ≤ top) && decide (l % 2 = 0))
def litB (top l : Int) : Bool := decide (0 ≤ l) && decide (l ≤ top)
def resetB (l : Tri) : Bool := decide (l.2.2 = 0) || (decide (l.2.2 = 1) || decide (l.2.2 = l.1))
def Circ.top (C : Circ) : Int := 2 * C.max + 1
def Circ.litsB (C : Circ) : Bool := decide (0 ≤ C.max) && (C.made.all (ownB C.top) && (C.used.all (litB C.top) && C.lats.all resetB))

def Circ.countK (C : Circ) (k : Int) (d : Int) : Int :=
  if k = 105 then C.ins.length else if k = 108 then C.lats.length else if k = 111 then C.outs.length else if k = 98 then C.bads.length else if k = 99 then C.cons.length else d
def nameB (s : ByteArray) : Bool := decide (s.size ≠ 0) && (decide (s.size ≤ 100) && s.data.toList.all (fun b => decide (32 ≤ b.toNat)))
def Circ.symB (C : Circ) (s : Sym) : Bool := decide (0 ≤ s.2.1) && (decide (s.2.1 < C.countK s.1 0) && nameB s.2.2)
def Circ.namesB (C : Circ) : Bool := C.names.all C.symB

/-- A literal's variable. -/
def varN (l : Int) : Nat := l.toNat / 2
def Circ.vars (C : Circ) : List Nat := C.made.map varN
def Circ.keys (C : Circ) : List (Int × Int) := C.names.map (fun s => (s.1, s.2.1))
def Circ.onceB (C : Circ) : Bool := decide C.vars.Nodup
def Circ.namedB (C : Circ) : Bool := decide C.keys.Nodup
def Circ.knownB (C : Circ) : Bool := C.used.all (fun l => decide (varN l = 0) || decide (varN l ∈ C.vars))

/-- The Ands' variables, and the variables of each one's sides. -/
def Circ.gates (C : Circ) : List Nat := C.ands.map (fun a => varN a.1)
def Circ.sides (C : Circ) (i : Nat) : List Nat := [varN (atP C.ands i).2.1, varN (atP C.ands i).2.2]
def Circ.gateOf (C : Circ) (i : Nat) : Nat := varN (atP C.ands i).1
/-- The sides of And i that are Ands that were not taken. -/
def Circ.waitsL (C : Circ) (T : List Nat) (i : Nat) : List Nat := (C.sides i).filter (fun s => decide (s ∈ C.gates) && !decide (s ∈ T.map C.gateOf))
def Circ.readyB (C : Circ) (T : List Nat) (i : Nat) : Bool := (C.waitsL T i).isEmpty
def Circ.nextA (C : Circ) (T : List Nat) : Option Nat := (List.range C.ands.length).find? (fun i => !decide (i ∈ T) && C.readyB T i)
def Circ.turnA (C : Circ) : Nat → List Nat → List Nat
  | 0, T => T
  | f + 1, T => match C.nextA T with
    | none => T
    | some i => Circ.turnA C f (T ++ [i])
/-- The Ands' places as they are taken. -/
def Circ.turn (C : Circ) : List Nat := C.turnA C.ands.length []

def Circ.checkI (C : Circ) : Int :=
  if C.longB = true then 3 else if (C.litsB && C.namesB) = false then 1 else if (C.onceB && C.namedB) = false then 10
  else if C.knownB = false then 8 else if C.turn.length < C.ands.length then 9 else 0

/-- What is within the limits. -/
structure Small (C : Circ) : Prop where
  ins : C.ins.length ≤ 64
  lats : C.lats.length ≤ 64
  outs : C.outs.length ≤ 64
  bads : C.bads.length ≤ 64
  cons : C.cons.length ≤ 64
  ands : C.ands.length ≤ 2000
  names : C.names.length ≤ 320
  max : C.max ≤ 5000

theorem small_of {C : Circ} (h : C.longB = false) : Small C := by
  unfold Circ.longB at h
  have hs : C.ports.sum = C.ins.length + (C.lats.length + (C.outs.length + (C.bads.length + (C.cons.length + 0)))) := rfl
  rw [hs] at h
  unfold Circ.ports at h
  simp only [Bool.or_eq_false_iff, decide_eq_false_iff_not, List.any_cons, List.any_nil] at h
  obtain ⟨⟨h1, h2, h3, h4, h5, -⟩, h6, h7, h8⟩ := h
  exact ⟨by omega, by omega, by omega, by omega, by omega, by omega, by omega, by omega⟩

/-- What is right but for names. -/
structure Lits (C : Circ) : Prop where
  max : 0 ≤ C.max
  own : ∀ l ∈ C.made, 0 < l ∧ l ≤ 2 * C.max + 1 ∧ l % 2 = 0
  lit : ∀ l ∈ C.used, 0 ≤ l ∧ l ≤ 2 * C.max + 1
  reset : ∀ l ∈ C.lats, l.2.2 = 0 ∨ l.2.2 = 1 ∨ l.2.2 = l.1

theorem lits_of {C : Circ} (h : C.litsB = true) : Lits C := by
  unfold Circ.litsB at h
  simp only [Bool.and_eq_true, decide_eq_true_eq, List.all_eq_true, ownB, litB, resetB, Bool.or_eq_true, Circ.top] at h
  exact ⟨h.1, fun l hl => h.2.1 l hl, fun l hl => h.2.2.1 l hl, fun l hl => h.2.2.2 l hl⟩

theorem made_len (C : Circ) : C.made.length = C.ins.length + C.lats.length + C.ands.length := by simp [Circ.made, Nat.add_assoc]
theorem used_len (C : Circ) : C.used.length = C.lats.length + C.outs.length + C.bads.length + C.cons.length + 2 * C.ands.length := by
  have : ∀ l : List Tri, (l.flatMap (fun a => [a.2.1, a.2.2])).length = 2 * l.length := fun l => by
    induction l with
    | nil => rfl
    | cons a l ih => rw [List.flatMap_cons, List.length_append, ih]; simp; omega
  simp [Circ.used, this, Nat.add_assoc]

theorem flat_take (l : List Tri) (k : Nat) (h : k < l.length) : (l.take (k + 1)).flatMap (fun a => [a.2.1, a.2.2]) = (l.take k).flatMap (fun a => [a.2.1, a.2.2]) ++ [(atP l k).2.1, (atP l k).2.2] := by
  rw [List.take_succ_eq_append_getElem h, List.flatMap_append, ← atP_eq l k h]; simp
theorem map_take {α β : Type} [Inhabited α] (f : α → β) (l : List α) (k : Nat) (h : k < l.length) : (l.take (k + 1)).map f = (l.take k).map f ++ [f (atP l k)] := by
  rw [List.take_succ_eq_append_getElem h, List.map_append, ← atP_eq l k h]; rfl
end Go.Proofs.YtikjbbebfjleaaaGreatDoor

namespace Go.Proofs.YtikjbbebfjleaaaGreatDoor
open Go.RowKit

/-- How many bytes stand ahead of the first line's end. -/
def nlAt : List Int → Option Nat
  | [] => none
  | x :: r => if x = 10 then some 0 else (nlAt r).map (· + 1)

theorem nlAt_some : ∀ (l : List Int) (d : Nat), d < l.length → l.getD d 0 = 10 → (∀ i, i < d → l.getD i 0 ≠ 10) → nlAt l = some d := by
  intro l
  induction l with
  | nil => intro d h; simp at h
  | cons x r ih =>
    intro d h h1 h2
    cases d with
    | zero => rw [nlAt, if_pos (by simpa using h1)]
    | succ d =>
      have hx : ¬ x = 10 := by simpa using h2 0 (by omega)
      rw [nlAt, if_neg hx, ih d (by simpa using h) (by simpa using h1) (fun i hi => by simpa using h2 (i + 1) (by omega))]
      rfl
theorem nlAt_none : ∀ (l : List Int), (∀ i, i < l.length → l.getD i 0 ≠ 10) → nlAt l = none := by
  intro l
  induction l with
  | nil => intro _; rfl
  | cons x r ih =>
    intro h
    have hx : ¬ x = 10 := by simpa using h 0 (by simp)
    rw [nlAt, if_neg hx, ih (fun i hi => by simpa using h (i + 1) (by simpa using hi))]
    rfl
theorem drop_getD (xs : List Int) (k i : Nat) : (xs.drop k).getD i 0 = xs.getD (k + i) 0 := by
  simp [List.getD_eq_getElem?_getD, List.getElem?_drop]
theorem nlAt_hit {xs : List Int} {k d : Nat} (h : Hit xs k d) : nlAt (xs.drop k) = some d := by
  obtain ⟨h1, h2, h3⟩ := h
  exact nlAt_some _ d (by rw [List.length_drop]; omega) (by rw [drop_getD]; exact h2) (fun i hi => by rw [drop_getD]; exact h3 i hi)
theorem nlAt_miss {xs : List Int} {k : Nat} (h : Miss xs k) : nlAt (xs.drop k) = none :=
  nlAt_none _ (fun i hi => by rw [drop_getD]; exact h i (by rw [List.length_drop] at hi; omega))

/-- The line at a place, and the next place. -/
def lineO (xs : List Int) (k : Nat) : Option (ByteArray × Nat) :=
  match nlAt (xs.drop k) with
  | none => none
  | some d => some (strOfNums ((xs.drop k).take d), k + d + 1)
def lineS (xs : List Int) : Option Nat → ByteArray × Option Nat
  | none => (⟨#[]⟩, none)
  | some k => match lineO xs k with
    | none => (⟨#[]⟩, none)
    | some (s, j) => (s, some j)
theorem lineO_hit {xs : List Int} {k d : Nat} (h : Hit xs k d) : lineO xs k = some (strOfNums ((xs.drop k).take d), k + d + 1) := by rw [lineO, nlAt_hit h]
theorem lineO_miss {xs : List Int} {k : Nat} (h : Miss xs k) : lineO xs k = none := by rw [lineO, nlAt_miss h]
theorem lineO_le {xs : List Int} {k j : Nat} {s : ByteArray} (h : lineO xs k = some (s, j)) : k < j ∧ j ≤ xs.length ∧ s.size ≤ xs.length := by
  rcases hit_or_miss xs k with ⟨d, hd⟩ | hm
  · rw [lineO_hit hd] at h
    obtain ⟨rfl, rfl⟩ := Prod.mk.inj (Option.some.inj h)
    refine ⟨by omega, by have := hd.1; omega, ?_⟩
    rw [strOfNums_size, List.length_take, List.length_drop]; omega
  · rw [lineO_miss hm] at h; cases h

/-- A place that is in the bytes. -/
def InB (xs : List Int) (st : Option Nat) : Prop := ∀ k, st = some k → k ≤ xs.length
theorem lineS_no {xs : List Int} {k : Nat} (h : lineO xs k = none) : lineS xs (some k) = (⟨#[]⟩, none) := by
  show (match lineO xs k with | none => ((⟨#[]⟩ : ByteArray), none) | some (s, j) => (s, some j)) = _
  rw [h]
theorem lineS_yes {xs : List Int} {k j : Nat} {s : ByteArray} (h : lineO xs k = some (s, j)) : lineS xs (some k) = (s, some j) := by
  show (match lineO xs k with | none => ((⟨#[]⟩ : ByteArray), none) | some (s, j) => (s, some j)) = _
  rw [h]
theorem lineS_in {xs : List Int} {st : Option Nat} : InB xs (lineS xs st).2 := by
  intro k h
  cases st with
  | none => cases h
  | some j =>
    cases e : lineO xs j with
    | none => rw [lineS_no e] at h; cases h
    | some p => obtain ⟨s, i⟩ := p; rw [lineS_yes e] at h; cases h; exact (lineO_le e).2.1
theorem lineS_size {xs : List Int} {st : Option Nat} : (lineS xs st).1.size ≤ xs.length := by
  cases st with
  | none => exact Nat.zero_le _
  | some j =>
    cases e : lineO xs j with
    | none => rw [lineS_no e]; exact Nat.zero_le _
    | some p => obtain ⟨s, i⟩ := p; rw [lineS_yes e]; exact (lineO_le e).2.2

/-- A line of numbers: as many as may be, those that are not written 0. -/
def rowS (xs : List Int) (top : Int) (least most : Nat) (st : Option Nat) : List Int × Option Nat :=
  if nsE (lineS xs st).1 least most top = 0 then (nsL (lineS xs st).1 least most top ++ List.replicate (most - (nsL (lineS xs st).1 least most top).length) 0, (lineS xs st).2) else (List.replicate most 0, none)
theorem nsL_bad {s : ByteArray} {least most top : Int} (h : ¬ nsE s least most top = 0) : nsL s least most top = [] := by
  unfold nsL
  rw [if_neg]
  rintro ⟨h1, h2⟩
  exact h (by rw [nsE, if_pos h1, h2])
theorem nsL_len {s : ByteArray} {least most top : Int} (h : nsE s least most top = 0) : least ≤ ((nsL s least most top).length : Int) ∧ ((nsL s least most top).length : Int) ≤ most := by
  unfold nsE at h
  by_cases hf : nsFit s least most = true
  · rw [if_pos hf] at h
    have e : nsL s least most top = valsOf top (spl s) := by rw [nsL, if_pos ⟨hf, h⟩]
    rw [e, valsOf, List.length_map]
    unfold nsFit at hf
    simp only [Bool.and_eq_true, decide_eq_true_eq] at hf
    exact hf.2
  · rw [if_neg hf] at h; cases h
theorem rowS_len (xs : List Int) (top : Int) (least most : Nat) (st : Option Nat) : (rowS xs top least most st).1.length = most := by
  unfold rowS
  split
  · rename_i h
    have := (nsL_len h).2
    rw [List.length_append, List.length_replicate]
    omega
  · simp
theorem rowS_in {xs : List Int} {top : Int} {least most : Nat} {st : Option Nat} : InB xs (rowS xs top least most st).2 := by
  unfold rowS
  split
  · exact lineS_in
  · intro k h; cases h

/-- So many things, one behind the other. -/
def itemsS {α : Type} (f : Nat → Option Nat → α × Option Nat) (st : Option Nat) : Nat → List α × Option Nat
  | 0 => ([], st)
  | n + 1 => ((itemsS f st n).1 ++ [(f n (itemsS f st n).2).1], (f n (itemsS f st n).2).2)
theorem itemsS_len {α : Type} (f : Nat → Option Nat → α × Option Nat) (st : Option Nat) : ∀ n, (itemsS f st n).1.length = n
  | 0 => rfl
  | n + 1 => by rw [itemsS, List.length_append, itemsS_len f st n]; rfl
theorem itemsS_in {α : Type} {xs : List Int} (f : Nat → Option Nat → α × Option Nat) (st : Option Nat) (hs : InB xs st) (hf : ∀ n s, InB xs s → InB xs (f n s).2) : ∀ n, InB xs (itemsS f st n).2
  | 0 => hs
  | n + 1 => hf _ _ (itemsS_in f st hs hf n)

/-- The name that a line writes. -/
def isKind (c : UInt8) : Bool := c == 105 || (c == 108 || (c == 111 || (c == 98 || c == 99)))
def symO (s : ByteArray) : Option Sym :=
  match s.data.toList with
  | [] => none
  | c :: r => if isKind c && ((Lib.cut r [32]).2.2 && decide (numE (Lib.cut r [32]).1 2147483647 = 0)) then some ((c.toNat : Int), numV (Lib.cut r [32]).1 2147483647, ⟨(Lib.cut r [32]).2.1.toArray⟩) else none
def noSym : Sym := (0, 0, ⟨#[]⟩)
def lineC : ByteArray := ⟨#[99]⟩
/-- Names, up to the end or to a line of c. -/
def namesF (xs : List Int) : Nat → Nat → List Sym → List Sym × Option Nat
  | 0, k, acc => (acc, some k)
  | f + 1, k, acc => if k < xs.length then
      match lineO xs k with
      | none => (acc ++ [noSym], none)
      | some (s, j) => if s = lineC then (acc, some j) else
        match symO s with
        | some y => namesF xs f j (acc ++ [y])
        | none => (acc ++ [noSym], none)
    else (acc, some k)
def namesS (xs : List Int) : Option Nat → List Sym × Option Nat
  | none => ([], none)
  | some k => namesF xs (xs.length + 1) k []

/-- A header: its nine numbers. -/
def hdr9 (s : ByteArray) : List Int := nsL s 5 9 2147483647 ++ List.replicate (9 - (nsL s 5 9 2147483647).length) 0
def hdrLong (h : List Int) : Bool := decide (64 < h.getD 1 0) || (decide (64 < h.getD 2 0) || (decide (64 < h.getD 3 0) || (decide (64 < h.getD 5 0) || (decide (64 < h.getD 6 0) || (decide (5000 < h.getD 0 0) || decide (2000 < h.getD 4 0))))))
def hdrE (s : ByteArray) : Int :=
  if nsE s 5 9 2147483647 = 0 then (if (hdr9 s).getD 7 0 ≠ 0 ∨ (hdr9 s).getD 8 0 ≠ 0 then 2 else if hdrLong (hdr9 s) = true then 3 else 0) else nsE s 5 9 2147483647
def hdrL (s : ByteArray) : List Int := if hdrE s = 0 then hdr9 s else []

/-- A way to write circuits. -/
structure Gram where
  word : List UInt8
  hE : ByteArray → Int
  hL : ByteArray → List Int
  inp : List Int → Int → Int → Option Nat → Int × Option Nat
  lat : List Int → Int → Int → Option Nat → Tri × Option Nat
  and : List Int → Int → Int → Option Nat → Tri × Option Nat
def litS (xs : List Int) (top _lit : Int) (st : Option Nat) : Int × Option Nat := ((rowS xs top 1 1 st).1.getD 0 0, (rowS xs top 1 1 st).2)
def latS (xs : List Int) (top _lit : Int) (st : Option Nat) : Tri × Option Nat := (((rowS xs top 2 3 st).1.getD 0 0, (rowS xs top 2 3 st).1.getD 1 0, (rowS xs top 2 3 st).1.getD 2 0), (rowS xs top 2 3 st).2)
def andS (xs : List Int) (top _lit : Int) (st : Option Nat) : Tri × Option Nat := (((rowS xs top 3 3 st).1.getD 0 0, (rowS xs top 3 3 st).1.getD 1 0, (rowS xs top 3 3 st).1.getD 2 0), (rowS xs top 3 3 st).2)
def gramA : Gram := ⟨[97, 97, 103], hdrE, hdrL, litS, latS, andS⟩

section
variable (g : Gram) (xs : List Int) (h : List Int) (st : Option Nat)
def rTop : Int := 2 * h.getD 0 0 + 1
def rIns : List Int × Option Nat := itemsS (fun i => g.inp xs (rTop h) (2 * (1 + (i : Int)))) st (h.getD 1 0).toNat
def rLats : List Tri × Option Nat := itemsS (fun i => g.lat xs (rTop h) (2 * (1 + h.getD 1 0 + (i : Int)))) (rIns g xs h st).2 (h.getD 2 0).toNat
def rOuts : List Int × Option Nat := itemsS (fun i => litS xs (rTop h) (2 * (0 + (i : Int)))) (rLats g xs h st).2 (h.getD 3 0).toNat
def rBads : List Int × Option Nat := itemsS (fun i => litS xs (rTop h) (2 * (0 + (i : Int)))) (rOuts g xs h st).2 (h.getD 5 0).toNat
def rCons : List Int × Option Nat := itemsS (fun i => litS xs (rTop h) (2 * (0 + (i : Int)))) (rBads g xs h st).2 (h.getD 6 0).toNat
def rAnds : List Tri × Option Nat := itemsS (fun i => g.and xs (rTop h) (2 * (1 + h.getD 1 0 + h.getD 2 0 + (i : Int)))) (rCons g xs h st).2 (h.getD 4 0).toNat
def rNames : List Sym × Option Nat := namesS xs (rAnds g xs h st).2
def rCirc : Circ := ⟨h.getD 0 0, (rIns g xs h st).1, (rLats g xs h st).1, (rOuts g xs h st).1, (rBads g xs h st).1, (rCons g xs h st).1, (rAnds g xs h st).1, (rNames g xs h st).1⟩
end
def noCirc : Circ := ⟨0, [], [], [], [], [], [], []⟩
/-- As which error a reader tells one of Check. -/
def toldI (e : Int) : Int := if e = 0 ∨ e = 8 ∨ e = 9 ∨ e = 10 then e else 2
/-- The error of any bytes; what they are, if none. -/
def Gram.rest (g : Gram) (xs : List Int) : ByteArray := ⟨((lineS xs (some 0)).1.data.toList.drop (g.word.length + 1)).toArray⟩
def Gram.circ (g : Gram) (xs : List Int) : Circ := rCirc g xs (g.hL (g.rest xs)) (lineS xs (some 0)).2
def Gram.last (g : Gram) (xs : List Int) : Option Nat := (rNames g xs (g.hL (g.rest xs)) (lineS xs (some 0)).2).2
def Gram.readE (g : Gram) (xs : List Int) : Int :=
  if 262144 < xs.length then 3
  else if Lib.hasPrefix (lineS xs (some 0)).1.data.toList (g.word ++ [32]) = true then
    (if g.hE (g.rest xs) = 0 then (if (g.last xs).isSome = true then toldI (g.circ xs).checkI else 2) else g.hE (g.rest xs))
  else 2
def Gram.read (g : Gram) (xs : List Int) : Circ := if g.readE xs = 0 then g.circ xs else noCirc
end Go.Proofs.YtikjbbebfjleaaaGreatDoor
