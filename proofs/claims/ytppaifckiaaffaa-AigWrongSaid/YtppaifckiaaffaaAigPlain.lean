/-
  CIRCUITS, no function of the program: what one is, which are right, in which order Ands are taken.
-/
import Derived.Test.YtppaifckiaaffaaSteps
namespace Go.Proofs.Ytppaifckiaaffaa
open Go.RowKit

/-- A latch (its literal, next, reset) or an And (its literal, both sides). -/
abbrev Tri := Int × Int × Int
/-- A symbol: kind, index, name. -/
abbrev Sym := Int × Int × ByteArray

structure Circ where
  max : Int
  ins : List Int
  lats : List Tri
  outs : List Int
  bads : List Int
  cons : List Int
  ands : List Tri
  names : List Sym

def Circ.made (C : Circ) : List Int := C.ins ++ C.lats.map (·.1) ++ C.ands.map (·.1)
def Circ.used (C : Circ) : List Int := C.lats.map (·.2.1) ++ C.outs ++ C.bads ++ C.cons ++ C.ands.flatMap (fun a => [a.2.1, a.2.2])
def Circ.ports (C : Circ) : List Nat := [C.ins.length, C.lats.length, C.outs.length, C.bads.length, C.cons.length]

def Circ.longB (C : Circ) : Bool := C.ports.any (fun n => decide (64 < n)) || (decide (5000 < C.max) || (decide (2000 < C.ands.length) || decide (C.ports.sum < C.names.length)))

def ownB (top l : Int) : Bool := decide (0 < l) && (decide (l ≤ top) && decide (l % 2 = 0))
def litB (top l : Int) : Bool := decide (0 ≤ l) && decide (l ≤ top)
def resetB (l : Tri) : Bool := decide (l.2.2 = 0) || (decide (l.2.2 = 1) || decide (l.2.2 = l.1))
def Circ.top (C : Circ) : Int := 2 * C.max + 1
def Circ.litsB (C : Circ) : Bool := decide (0 ≤ C.max) && (C.made.all (ownB C.top) && (C.used.all (litB C.top) && C.lats.all resetB))

def Circ.countK (C : Circ) (k : Int) (d : Int) : Int :=
  if k = 105 then C.ins.length else if k = 108 then C.lats.length else if k = 111 then C.outs.length else if k = 98 then C.bads.length else if k = 99 then C.cons.length else d
def nameB (s : ByteArray) : Bool := decide (s.size ≠ 0) && (decide (s.size ≤ 100) && s.data.toList.all (fun b => decide (32 ≤ b.toNat)))
def Circ.symB (C : Circ) (s : Sym) : Bool := decide (0 ≤ s.2.1) && (decide (s.2.1 < C.countK s.1 0) && nameB s.2.2)
def Circ.namesB (C : Circ) : Bool := C.names.all C.symB

/-- A literal's variable. -/
def varN (l : Int) : Nat := l.toNat / 2
def Circ.vars (C : Circ) : List Nat := C.made.map varN
def Circ.keys (C : Circ) : List (Int × Int) := C.names.map (fun s => (s.1, s.2.1))
def Circ.onceB (C : Circ) : Bool := decide C.vars.Nodup
def Circ.namedB (C : Circ) : Bool := decide C.keys.Nodup
def Circ.knownB (C : Circ) : Bool := C.used.all (fun l => decide (varN l = 0) || decide (varN l ∈ C.vars))

/-- The Ands' variables, and the variables of each one's sides. -/
def Circ.gates (C : Circ) : List Nat := C.ands.map (fun a => varN a.1)
def Circ.sides (C : Circ) (i : Nat) : List Nat := [varN (atP C.ands i).2.1, varN (atP C.ands i).2.2]
def Circ.gateOf (C : Circ) (i : Nat) : Nat := varN (atP C.ands i).1
/-- The sides of And i that are Ands that were not taken. -/
def Circ.waitsL (C : Circ) (T : List Nat) (i : Nat) : List Nat := (C.sides i).filter (fun s => decide (s ∈ C.gates) && !decide (s ∈ T.map C.gateOf))
def Circ.readyB (C : Circ) (T : List Nat) (i : Nat) : Bool := (C.waitsL T i).isEmpty
def Circ.nextA (C : Circ) (T : List Nat) : Option Nat := (List.range C.ands.length).find? (fun i => !decide (i ∈ T) && C.readyB T i)
def Circ.turnA (C : Circ) : Nat → List Nat → List Nat
  | 0, T => T
  | f + 1, T => match C.nextA T with
    | none => T
    | some i => Circ.turnA C f (T ++ [i])
/-- The Ands' places as they are taken. -/
def Circ.turn (C : Circ) : List Nat := C.turnA C.ands.length []

def Circ.checkI (C : Circ) : Int :=
  if C.longB = true then 3 else if (C.litsB && C.namesB) = false then 1 else if (C.onceB && C.namedB) = false then 10
  else if C.knownB = false then 8 else if C.turn.length < C.ands.length then 9 else 0

/-- What is within the limits. -/
structure Small (C : Circ) : Prop where
  ins : C.ins.length ≤ 64
  lats : C.lats.length ≤ 64
  outs : C.outs.length ≤ 64
  bads : C.bads.length ≤ 64
  cons : C.cons.length ≤ 64
  ands : C.ands.length ≤ 2000
  names : C.names.length ≤ 320
  max : C.max ≤ 5000

theorem small_of {C : Circ} (h : C.longB = false) : Small C := by
  unfold Circ.longB at h
  have hs : C.ports.sum = C.ins.length + (C.lats.length + (C.outs.length + (C.bads.length + (C.cons.length + 0)))) := rfl
  rw [hs] at h
  unfold Circ.ports at h
  simp only [Bool.or_eq_false_iff, decide_eq_false_iff_not, List.any_cons, List.any_nil] at h
  obtain ⟨⟨h1, h2, h3, h4, h5, -⟩, h6, h7, h8⟩ := h
  exact ⟨by omega, by omega, by omega, by omega, by omega, by omega, by omega, by omega⟩

/-- What is right but for names. -/
structure Lits (C : Circ) : Prop where
  max : 0 ≤ C.max
  own : ∀ l ∈ C.made, 0 < l ∧ l ≤ 2 * C.max + 1 ∧ l % 2 = 0
  lit : ∀ l ∈ C.used, 0 ≤ l ∧ l ≤ 2 * C.max + 1
  reset : ∀ l ∈ C.lats, l.2.2 = 0 ∨ l.2.2 = 1 ∨ l.2.2 = l.1

theorem lits_of {C : Circ} (h : C.litsB = true) : Lits C := by
  unfold Circ.litsB at h
  simp only [Bool.and_eq_true, decide_eq_true_eq, List.all_eq_true, ownB, litB, resetB, Bool.or_eq_true, Circ.top] at h
  exact ⟨h.1, fun l hl => h.2.1 l hl, fun l hl => h.2.2.1 l hl, fun l hl => h.2.2.2 l hl⟩

theorem made_len (C : Circ) : C.made.length = C.ins.length + C.lats.length + C.ands.length := by simp [Circ.made, Nat.add_assoc]
theorem used_len (C : Circ) : C.used.length = C.lats.length + C.outs.length + C.bads.length + C.cons.length + 2 * C.ands.length := by
  have : ∀ l : List Tri, (l.flatMap (fun a => [a.2.1, a.2.2])).length = 2 * l.length := fun l => by
    induction l with
    | nil => rfl
    | cons a l ih => rw [List.flatMap_cons, List.length_append, ih]; simp; omega
  simp [Circ.used, this, Nat.add_assoc]

theorem flat_take (l : List Tri) (k : Nat) (h : k < l.length) : (l.take (k + 1)).flatMap (fun a => [a.2.1, a.2.2]) = (l.take k).flatMap (fun a => [a.2.1, a.2.2]) ++ [(atP l k).2.1, (atP l k).2.2] := by
  rw [List.take_succ_eq_append_getElem h, List.flatMap_append, ← atP_eq l k h]; simp
theorem map_take {α β : Type} [Inhabited α] (f : α → β) (l : List α) (k : Nat) (h : k < l.length) : (l.take (k + 1)).map f = (l.take k).map f ++ [f (atP l k)] := by
  rw [List.take_succ_eq_append_getElem h, List.map_append, ← atP_eq l k h]; rfl
end Go.Proofs.Ytppaifckiaaffaa
