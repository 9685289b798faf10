/-
  WORDS FOR ALL LAYERS, no function of the program: facts kept from the walk, slices of integers that can be read, slices that a call has made.
  THE PLAIN MATHEMATICS of layer 1 (scan): which bytes are a decimal number, and which number they are. No program in this text.
  THE WALKS of layer 1: num, isDecimal.
-/
import Derived.Test.YtikjbbebfjleaaaGreatDoorRows
import Derived.WalkKit
import Derived.WalkSpells
import Derived.WalkLawsBesides
import Derived.OpenShut
import Derived.Laws.BytesArg
import Derived.Laws.BitsLemmas
import Derived.Laws.Bits64
import Derived.Laws.CopyOwn
import Derived.Laws.AppendOwnNone
import Derived.Lib.Bytes
import Derived.Lib.AppendStr
import Derived.Lib.AtoiAll
namespace Go.Proofs.YtikjbbebfjleaaaGreatDoor
open Go.RowKit

theorem hide {p : Prop} (h : p) : Hid p := h
theorem ret_bool {a b : Bool} (h : a = b) : Ending.returned (.bool a) = .returned (.bool b) := by rw [h]
theorem ret_int {k : IntKind} {a b : Int} (h : a = b) : Ending.returned (.int k a) = .returned (.int k b) := by rw [h]

theorem add_add (x : Addr) (l i : Nat) : (x.add l).add i = x.add (l + i) := by
  unfold Addr.add
  by_cases hl : l = 0
  · subst hl; simp
  · by_cases hi : i = 0
    · subst hi; simp
    · simp [hl, hi, Nat.add_assoc]

theorem add_plain (b off i : Nat) : (⟨b, off, none⟩ : Addr).add i = ⟨b, off + i, none⟩ := by unfold Addr.add; split <;> simp_all

theorem getD_mem (xs : List Int) (i : Nat) (h : i < xs.length) : xs.getD i 0 ∈ xs := by
  rw [List.getD_eq_getElem?_getD, List.getElem?_eq_getElem h]
  exact List.getElem_mem h

theorem getD_left (a b : List Int) (i : Nat) (h : i < a.length) : (a ++ b).getD i 0 = a.getD i 0 := by
  rw [List.getD_eq_getElem?_getD, List.getD_eq_getElem?_getD, List.getElem?_append_left h]
theorem getD_right (a b : List Int) (i : Nat) : (a ++ b).getD (a.length + i) 0 = b.getD i 0 := by
  rw [List.getD_eq_getElem?_getD, List.getD_eq_getElem?_getD, List.getElem?_append_right (by omega), Nat.add_sub_cancel_left]

/-- WHAT THE WALKS ARE TOLD OF A SLICE OF INTEGERS: it is nil, or it leads to cells that hold the numbers xs. -/
def RowK (k : IntKind) (w : World) (a : Option Addr) (xs : List Int) : Prop := (a = none ∧ xs = []) ∨ ∃ x, a = some x ∧ ∀ i, i < xs.length → w.cell? (x.add i) = some (.int k (xs.getD i 0))
abbrev Row8 := RowK .u8
def Bytes8 (xs : List Int) : Prop := ∀ n ∈ xs, 0 ≤ n ∧ n ≤ 255

theorem RowK.below {k : IntKind} {w w' : World} {a : Option Addr} {xs : List Int} (h : RowK k w a xs) (hb : Below w.heap.size w w') : RowK k w' a xs := by
  rcases h with h | ⟨x, rfl, hx⟩
  · exact .inl h
  · refine .inr ⟨x, rfl, fun i hi => ?_⟩
    have h1 := hx i hi
    exact (hb.cell (block_lt_of_cell h1)).trans h1

theorem RowK.addr {k : IntKind} {w : World} {a : Option Addr} {xs : List Int} (h : RowK k w a xs) (hp : 0 < xs.length) : ∃ b off, a = some ⟨b, off, none⟩ ∧ b < w.heap.size ∧ ∀ i, i < xs.length → w.cell? ⟨b, off + i, none⟩ = some (.int k (xs.getD i 0)) := by
  rcases h with ⟨_, rfl⟩ | ⟨⟨b, off, spot⟩, rfl, hx⟩
  · simp at hp
  · have hc := hx 0 hp
    have hspot : spot = none := by simpa [Addr.add] using World.cell?_spot hc
    subst hspot
    refine ⟨b, off, rfl, ?_, fun i hi => ?_⟩
    · have := block_lt_of_cell hc
      rw [add_plain] at this
      exact this
    · have h1 := hx i hi
      rw [← add_plain]
      exact h1

/-- A text out of a slice of bytes. -/
theorem run_str {P : Program} (w : World) (src e dst : TypeId) (hs : P.underlying src = some (.slice e)) (he : P.underlying e = some (.int .u8)) (hd : P.underlying dst = some .string)
    (a : Option Addr) (xs : List Int) (h : Row8 w a xs) (n c : Nat) (hn : n = xs.length) :
    (convert src dst (.slice a n c)).run P w = .ok (.string (strOfNums xs)) w := by
  subst hn
  rcases h with ⟨rfl, rfl⟩ | ⟨x, rfl, hx⟩
  · exact run_convert_bytes_nil w src e hs he 0 c dst hd
  · have hl : (loadCells x xs.length).run P w = .ok (xs.map (Value.int .u8)).toArray w := by
      have := run_loadCells_list (P := P) w x (xs.map (Value.int .u8)) (fun j v hj => by
        have hjl : j < xs.length := by
          rcases Nat.lt_or_ge j xs.length with h | h
          · exact h
          · simp [List.getElem?_eq_none (show (xs.map (Value.int .u8)).length ≤ j by simpa using h)] at hj
        rw [hx j hjl]
        simp [List.getElem?_eq_getElem hjl] at hj
        subst hj
        simp [List.getD, List.getElem?_eq_getElem hjl])
      simpa using this
    rw [run_convert_bytes_string w src dst e _ _ c hs he hd, run_bytesToString w _ _ c xs hl, foldl_push_bytes]
    simp [strOfNums, ByteArray.empty, ByteArray.emptyWithCapacity]
    rfl

/-- WHAT A WALK IS TOLD OF A SLICE OF INTEGERS THAT CAME IN: it is nil; or it leads to a row of 'cap' cells, the numbers 'zs' (the first 'len' are its elements, the rest its spare room), each fitting its kind. -/
def IsRow (k : IntKind) (w : World) (a : Option Addr) (len cap : Nat) (zs : List Int) : Prop :=
  (a = none ∧ len = 0 ∧ cap = 0 ∧ zs = []) ∨
  ∃ x, a = some x ∧ len ≤ cap ∧ cap ≤ maxLen ∧ zs.length = cap ∧ (∀ i, i < zs.length → w.cell? (x.add i) = some (.int k (zs.getD i 0))) ∧ ∀ n ∈ zs, (Lit.int k n).wf = true

theorem IsRow.row {k : IntKind} {w : World} {a : Option Addr} {len cap : Nat} {zs : List Int} (h : IsRow k w a len cap zs) :
    RowK k w a (zs.take len) ∧ (∀ n ∈ zs.take len, (Lit.int k n).wf = true) ∧ (a = none → cap = 0) ∧ (zs.take len).length = len ∧ len ≤ cap ∧ cap ≤ 9223372036854775807 := by
  rcases h with ⟨rfl, rfl, rfl, rfl⟩ | ⟨x, rfl, h1, h2, h3, h4, h5⟩
  · exact ⟨.inl ⟨rfl, rfl⟩, fun n hn => by simp at hn, fun _ => rfl, rfl, Nat.le_refl _, by decide⟩
  · have hlen : (zs.take len).length = len := by rw [List.length_take]; omega
    refine ⟨.inr ⟨x, rfl, fun i hi => ?_⟩, fun n hn => ?_, (fun e => by cases e), hlen, h1, h2⟩
    · have hi' : i < len := by omega
      rw [h4 i (by omega), List.getD_eq_getElem?_getD, List.getD_eq_getElem?_getD, List.getElem?_take_of_lt hi']
    · exact h5 n (List.mem_of_mem_take hn)

theorem bytes8_of {xs : List Int} (h : ∀ n ∈ xs, (Lit.int .u8 n).wf = true) : Bytes8 xs := fun n hn => bounds_u8 (h n hn)

/-- A slice that the call has made, told as the walks ask. -/
theorem row_of_own {k : IntKind} {w : World} {base : Nat} {e : TypeId} {v : Value} {n : Nat} {xs : List Int} (h : w.ownsRow base e 1 v n (xs.map (Value.int k))) :
    ∃ a cap, v = .slice a n cap ∧ RowK k w a xs ∧ (a = none → cap = 0) ∧ xs.length = n ∧ n ≤ cap ∧ cap ≤ 9223372036854775807 := by
  have hl := h.1
  have hlen : xs.length = n := by simpa using hl
  rcases h.2 with ⟨rfl, rfl⟩ | ⟨g, cap, cur, rfl, hb, hg, hc, hm, hcs, ht⟩
  · exact ⟨none, 0, rfl, .inl ⟨rfl, List.eq_nil_of_length_eq_zero hlen⟩, fun _ => rfl, hlen, Nat.le_refl _, by decide⟩
  · refine ⟨some ⟨g, 0, none⟩, cap, rfl, .inr ⟨_, rfl, fun i hi => ?_⟩, (fun e => by cases e), hlen, hc, hm⟩
    exact h.cells rfl i _ (by rw [List.getElem?_map, List.getElem?_eq_getElem hi, List.getD_eq_getElem?_getD, List.getElem?_eq_getElem hi]; rfl)

theorem own_below {w w' : World} {base : Nat} {e : TypeId} {size : Nat} {v : Value} {n : Nat} {xs : List Value} (h : w.ownsRow base e size v n xs) (hb : Below w.heap.size w w') : w'.ownsRow base e size v n xs := by
  have hlt := h.lt
  obtain ⟨h1, h2⟩ := h
  refine ⟨h1, ?_⟩
  rcases h2 with h2 | ⟨g, cap, cur, rfl, hg, hh, r⟩
  · exact .inl h2
  · exact .inr ⟨g, cap, cur, rfl, hg, (hb.block g (hlt g rfl).2).trans hh, r⟩

theorem own_le {w : World} {base base' size n : Nat} {e : TypeId} {v : Value} {xs : List Value} (h : w.ownsRow base e size v n xs) (hb : base' ≤ base) : w.ownsRow base' e size v n xs := by
  obtain ⟨h1, h2⟩ := h
  refine ⟨h1, ?_⟩
  rcases h2 with h2 | ⟨g, cap, cur, rfl, hg, r⟩
  · exact .inl h2
  · exact .inr ⟨g, cap, cur, rfl, Nat.le_trans hb hg, r⟩

theorem cells_map {k : IntKind} {w : World} {x : Addr} {xs : List Int} (h : ∀ i, i < xs.length → w.cell? (x.add i) = some (.int k (xs.getD i 0))) : ∀ j u, (xs.map (Value.int k))[j]? = some u → w.cell? (x.add j) = some u := by
  intro j u hj
  have hjl : j < xs.length := by
    rcases Nat.lt_or_ge j xs.length with h | h
    · exact h
    · simp [List.getElem?_eq_none (show (xs.map (Value.int k)).length ≤ j by simpa using h)] at hj
  rw [h j hjl]
  simp [List.getElem?_eq_getElem hjl] at hj
  subst hj
  simp [List.getD, List.getElem?_eq_getElem hjl]

theorem one_ints (k : IntKind) (xs : List Int) : ∀ u ∈ xs.map (Value.int k), u.oneCell' = true := by
  intro u hu
  obtain ⟨n, _, rfl⟩ := List.mem_map.1 hu
  rfl

/-- 'append(s, x...)', s THE CALL's OWN, x WHATEVER SLICE OF INTEGERS (nil too): as a law for the walk. -/
theorem wpList_append_row {P : Program} (w : World) {ops : Array Oper} {rest : List Oper} {o : Oper} {a : Act} {Q : Exit → Act → World → Prop} (hgd : o.guard = none) (s x : Operand) (t : TypeId)
    (ho : o.op = .call { callee := .builtin .append, args := #[s, x], argTypes := #[t, t] })
    (k : IntKind) (base : Nat) (e : TypeId) (i : TypeInfo) (z : Value) (bytes : Nat) (ht : P.underlying t = some (.slice e)) (hi : P.info? e = some i) (hz : i.zero = some z)
    (hsize : i.size = 1) (hby : i.bytes = bytes) (hzs : z.cells.size = 1)
    (v : Value) (n : Nat) (xs : List Value) (hs : a.eval s = v) (hown : w.ownsRow base e 1 v n xs)
    (ao : Option Addr) (m c : Nat) (ys : List Int) (hx : a.eval x = .slice ao m c) (hl : ys.length = m) (hr : RowK k w ao ys) (hnc : ao = none → c = 0)
    (h63 : n + m ≤ maxLen) (hbytes : (n + m) * bytes ≤ 140737488355328) (hbase : base ≤ w.heap.size)
    (h : ∀ v' w', w'.ownsRow base e 1 v' (n + m) (xs ++ ys.map (Value.int k)) → w.grownBy w' v.ownBlock → wpList P ops Q rest (a.put o.dst v') w') : wpList P ops Q (o :: rest) a w := by
  rcases hr with ⟨rfl, rfl⟩ | ⟨ad, rfl, hcell⟩
  · obtain rfl : m = 0 := by simpa using hl.symm
    obtain rfl := hnc rfl
    refine wpList_append_own_none hgd s x t ho base e i 1 ht hi v n xs hs hown hx ?_
    exact h v w (by simpa using hown) (World.grownBy.refl _ _)
  · exact wpList_append_own w hgd s x t ho base e i z 1 bytes ht hi hz hsize hby hzs (by decide) v n xs hs hown ad m c (ys.map (Value.int k)) hx (by simpa using hl) (cells_map hcell) (one_ints k ys) h63 hbytes hbase (fun v' w' h1 h2 _ => h v' w' h1 h2)

/-- 'make([]T, n, c)', both VARIABLES: a new row of c cells. -/
theorem wpList_make_len {P : Program} (w : World) {ops : Array Oper} {rest : List Oper} {o : Oper} {a : Act} {Q : Exit → Act → World → Prop}
    (hg : o.guard = none) (l c : Operand) (t : TypeId) (hop : o.op = Op.makeSlice t l c)
    (e : TypeId) (i : TypeInfo) (z : Value) (h1 : P.underlying t = some (.slice e)) (h2 : P.info? e = some i) (h3 : i.zero = some z) (h4 : i.size = 1)
    (kl kc : IntKind) (L C : Int) (n m : Nat) (hl : a.eval l = .int kl L) (hc : a.eval c = .int kc C) (hL : L = (n : Int)) (hC : C = (m : Int)) (hnm : n ≤ m) (b2 : i.bytes * m ≤ 281474976710656) (b3 : m ≤ maxLen)
    (hK : ∀ w' cur, w'.heap[w.heap.size]? = some (.cells cur e (0, 0)) → cur.size = m → w.grownBy w' none → wpList P ops Q rest (a.put o.dst (.slice (some ⟨w.heap.size, 0, none⟩) n m)) w') :
    wpList P ops Q (o :: rest) a w := by
  refine wpList_plain hg fun K hK' => ?_
  subst hL
  subst hC
  have b3' : m ≤ 9223372036854775807 := b3
  have hb' : (i.bytes : Int) * (m : Int) ≤ 281474976710656 := by
    have h : ((i.bytes * m : Nat) : Int) ≤ 281474976710656 := by omega
    rwa [Int.natCast_mul] at h
  have hrun := run_make (P := P) w t e i z h1 h2 h3 kl kc n m (by omega) (by omega) hb' (by omega)
  simp only [Int.toNat_natCast] at hrun
  unfold Oper.wp
  simp [execOp, hop, hl, hc, hrun, Result.andThen]
  refine hK' _ _ (hK _ (madeCells z.cells (m * i.size)) ?_ (by rw [size_madeCells, h4, Nat.mul_one]) (World.grownBy_alloc w _ none))
  show (w.heap.push _)[w.heap.size]? = _
  simp

/-- 'copy(d, s)', d A WHOLE NEW ROW's HEAD, s a slice of as many integers (nil too): the head is s's. -/
theorem wpList_copy_into {P : Program} (w : World) {ops : Array Oper} {rest : List Oper} {o : Oper} {a : Act} {Q : Exit → Act → World → Prop} (hgd : o.guard = none) (d s : Operand) (dT sT : TypeId)
    (ho : o.op = .call { callee := .builtin .copy, args := #[d, s], argTypes := #[dT, sT] }) (e : TypeId) (hu : P.underlying dT = some (.slice e)) (hsz : (P.info? e).map (·.size) = some 1)
    (k : IntKind) (g n c sc : Nat) (ao : Option Addr) (ys : List Int) (hd : a.eval d = .slice (some ⟨g, 0, none⟩) n c) (hs : a.eval s = .slice ao n sc) (cur : Array Value) (hg : w.heap[g]? = some (.cells cur e (0, 0))) (hcs : cur.size = c) (hnc : n ≤ c) (hcm : c ≤ maxLen)
    (hr : RowK k w ao ys) (hl : ys.length = n) (B : Nat) (w0 : World) (hb : Below B w0 w) (hBg : B ≤ g)
    (h : ∀ w', w'.ownsRow B e 1 (.slice (some ⟨g, 0, none⟩) n c) n (ys.map (Value.int k)) → Below B w0 w' → wpList P ops Q rest (a.put o.dst (goInt (ys.map (Value.int k)).length)) w') :
    wpList P ops Q (o :: rest) a w := by
  refine wpList_copy_splice hgd d s dT sT ho e hu hsz (some ⟨g, 0, none⟩) ao n c n sc hd hs g 0 cur.toList e (by simpa using hg) (ys.map (Value.int k)) (by simp [hl]) (fun hp => ⟨rfl, ?_⟩) (by simp [hl]; omega) (one_ints k ys) B w0 hb hBg ?_
  · rcases hr with ⟨_, rfl⟩ | ⟨ad, rfl, hcell⟩
    · simp at hp
    · exact ⟨ad, rfl, cells_map hcell⟩
  · intro w' hg' hb'
    refine h w' ⟨by simp [hl], .inr ⟨g, c, _, rfl, hBg, hg'.out, hnc, hcm, ?_, ?_⟩⟩ hb'
    · rw [List.size_toArray, length_splice _ _ _ (by simp [hl]; omega)]; simpa using hcs
    · simp [splice, hl]
end Go.Proofs.YtikjbbebfjleaaaGreatDoor

namespace Go.Proofs.YtikjbbebfjleaaaGreatDoor
open Go

/-- A digit. -/
def dig (c : UInt8) : Bool := decide (48 ≤ c.toNat) && decide (c.toNat ≤ 57)
/-- One digit or more, without a 0 ahead of others. -/
def isDec (l : List UInt8) : Bool := !l.isEmpty && !(decide (1 < l.length) && (l.getD 0 0 == 48)) && l.all dig
/-- What digits spell, behind what 'acc' is. -/
def stp (a : Nat) (c : UInt8) : Nat := a * 10 + (c.toNat - 48)
def val (acc : Nat) (l : List UInt8) : Nat := l.foldl stp acc
/-- The number and the error that Number tells. -/
def numV (l : List UInt8) (most : Int) : Int := if isDec l = true ∧ (val 0 l : Int) ≤ most then (val 0 l : Int) else 0
def numE (l : List UInt8) (most : Int) : Int := if isDec l = true then (if (val 0 l : Int) ≤ most then 0 else 3) else 2

theorem val_nil (acc : Nat) : val acc [] = acc := by unfold val; rw [List.foldl_nil]
theorem val_cons (acc : Nat) (c : UInt8) (r : List UInt8) : val acc (c :: r) = val (acc * 10 + (c.toNat - 48)) r := by unfold val; rw [List.foldl_cons, stp]

theorem val_le (l : List UInt8) : ∀ acc : Nat, acc ≤ val acc l := by
  induction l with
  | nil => intro acc; rw [val_nil]; exact Nat.le_refl _
  | cons c r ih =>
    intro acc
    have h := ih (acc * 10 + (c.toNat - 48))
    rw [val_cons]
    omega

theorem val_append (l m : List UInt8) : ∀ acc : Nat, val acc (l ++ m) = val (val acc l) m := by
  induction l with
  | nil => intro acc; rw [List.nil_append, val_nil]
  | cons c r ih => intro acc; rw [List.cons_append, val_cons, val_cons]; exact ih _

theorem val_take (l : List UInt8) (k : Nat) : val 0 (l.take k) ≤ val 0 l := by
  have h : val 0 l = val (val 0 (l.take k)) (l.drop k) := by rw [← val_append, List.take_append_drop]
  rw [h]
  exact val_le _ _

theorem parse_dig (l : List UInt8) : ∀ acc : Nat, acc < 18446744073709551616 → l.all dig = true →
    Lib.parseUint10 acc l = if val acc l < 18446744073709551616 then .ok (val acc l) else .range := by
  induction l with
  | nil =>
    intro acc ha _
    rw [val_nil, if_pos ha, Lib.parseUint10]
  | cons c r ih =>
    intro acc ha hd
    simp only [List.all_cons, Bool.and_eq_true] at hd
    obtain ⟨hc, hr⟩ := hd
    simp only [dig, Bool.and_eq_true, decide_eq_true_eq] at hc
    have hv := val_le r (acc * 10 + (c.toNat - 48))
    have hi := ih (acc * 10 + (c.toNat - 48))
    rw [val_cons, Lib.parseUint10, if_pos hc]
    generalize val (acc * 10 + (c.toNat - 48)) r = v at hv hi ⊢
    by_cases h1 : 1844674407370955162 ≤ acc
    · rw [if_pos h1, if_neg (by omega)]
    · rw [if_neg h1]
      by_cases h2 : 18446744073709551616 ≤ acc * 10 + (c.toNat - 48)
      · rw [if_pos h2, if_neg (by omega)]
      · rw [if_neg h2]
        exact hi (by omega) hr

/-- Of a decimal number strconv.Atoi tells the number, or that it is out of range. -/
theorem atoi_dec (l : List UInt8) (h : isDec l = true) :
    Lib.atoiAll l = if val 0 l < 9223372036854775808 then .ok (val 0 l : Int) else .range := by
  cases l with
  | nil => simp [isDec] at h
  | cons c r =>
    simp only [isDec, Bool.and_eq_true] at h
    obtain ⟨_, h2⟩ := h
    have h3 := h2
    simp only [List.all_cons, Bool.and_eq_true] at h3
    obtain ⟨hc, _⟩ := h3
    simp only [dig, Bool.and_eq_true, decide_eq_true_eq] at hc
    have hp := parse_dig (c :: r) 0 (by decide) h2
    have e1 : ¬ (c.toNat = 43 ∨ c.toNat = 45) := by omega
    have e2 : ¬ c.toNat = 45 := by omega
    have hm : Lib.parseMag (c :: r) = if val 0 (c :: r) < 18446744073709551616 then .ok (val 0 (c :: r)) else .range := by
      unfold Lib.parseMag
      rw [if_neg (by simp)]
      exact hp
    generalize val 0 (c :: r) = v at hm ⊢
    unfold Lib.atoiAll
    simp only []
    rw [if_neg e1, hm]
    by_cases b1 : v < 18446744073709551616
    · rw [if_pos b1]
      simp only []
      by_cases b2 : v < 9223372036854775808
      · rw [if_neg (by omega), if_neg (by omega), if_neg e2, if_pos b2]
      · rw [if_pos (by omega), if_neg b2]
    · rw [if_neg b1, if_neg (by omega)]

/-- The digits up to place k, and one more. -/
theorem take_snoc (s : ByteArray) (k : Nat) (h : k < s.size) : s.data.toList.take (k + 1) = s.data.toList.take k ++ [s[k]] := by
  rw [List.take_succ_eq_append_getElem (by simpa using h)]; rfl

theorem val_snoc (s : ByteArray) (k : Nat) (h : k < s.size) : val 0 (s.data.toList.take (k + 1)) = val 0 (s.data.toList.take k) * 10 + (s[k].toNat - 48) := by
  rw [take_snoc s k h, val_append, val_cons, val_nil]

theorem all_snoc (s : ByteArray) (k : Nat) (h : k < s.size) : (s.data.toList.take (k + 1)).all dig = ((s.data.toList.take k).all dig && dig s[k]) := by
  rw [take_snoc s k h, List.all_append]; simp

end Go.Proofs.YtikjbbebfjleaaaGreatDoor

namespace Go.Proofs.YtikjbbebfjleaaaGreatDoor
open Go.RowKit


theorem emp_iff (s : ByteArray) : s.toList.isEmpty = decide (s.size = 0) := by
  rw [ByteArray.toList_eq, Bool.eq_iff_iff]
  simp [← ByteArray.size_data]

theorem isDec_nil (s : ByteArray) (h : s.size = 0) : isDec s.data.toList = false := by
  have : s.data.toList = [] := by
    apply List.eq_nil_of_length_eq_zero
    simpa using h
  rw [this]; rfl

theorem getD_zero (s : ByteArray) (h : 0 < s.size) : s.data.toList.getD 0 0 = s[0] := by
  have h' : 0 < s.data.toList.length := by simpa using h
  rw [List.getD_eq_getElem?_getD, List.getElem?_eq_getElem h', Option.getD_some]; rfl

theorem isDec_zero (s : ByteArray) (h : 1 < s.size) (h0 : ((s[0].toNat : Int) == 48) = true) : isDec s.data.toList = false := by
  unfold isDec
  rw [getD_zero s (by omega)]
  have e : s[0] = 48 := by
    apply UInt8.toNat_inj.1
    have := eq_of_beq h0
    have e48 : (48 : UInt8).toNat = 48 := rfl
    omega
  rw [e]
  simp [h]

theorem isDec_rest (s : ByteArray) (h : 0 < s.size) (h0 : s.size ≤ 1 ∨ ((s[0].toNat : Int) == 48) = false) : isDec s.data.toList = s.data.toList.all dig := by
  unfold isDec
  rw [getD_zero s h]
  have hne : s.data.toList.isEmpty = false := by
    rw [← ByteArray.toList_eq, emp_iff]
    exact decide_eq_false (by omega)
  rw [hne]
  rcases h0 with h0 | h0
  · have : decide (1 < s.data.toList.length) = false := decide_eq_false (by rw [Array.length_toList]; exact Nat.not_lt.2 h0)
    rw [this]
    simp
  · have : (s[0] == 48) = false := by
      rw [beq_eq_false_iff_ne] at h0 ⊢
      intro e; apply h0; rw [e]; rfl
    simp [this]

theorem dig_iff (c : UInt8) : dig c = true ↔ (48 ≤ (c.toNat : Int) ∧ (c.toNat : Int) ≤ 57) := by
  simp only [dig, Bool.and_eq_true, decide_eq_true_eq]; omega

theorem all_false (s : ByteArray) (k : Nat) (h : k < s.size) (hd : dig s[k] = false) : s.data.toList.all dig = false := by
  rw [List.all_eq_false]
  exact ⟨s[k], by have := List.getElem_mem (l := s.data.toList) (n := k) (by simpa using h); exact this, by simp [hd]⟩

set_option maxHeartbeats 400000 in
theorem isDecimal_any (s : ByteArray) (w : World) (hs : s.size ≤ maxLen) :
    Calls Tryz.prog 117 #[.string s] w fun e w' => e = .returned (.bool (isDec s.data.toList)) ∧ w' = w := by
  unfold maxLen at hs
  have he := emp_iff s
  by_cases hz : s.size = 0
  · rw [isDec_nil s hz]
    have he : s.toList.isEmpty = true := by rw [he]; simp [hz]
    go_enter Tryz.func117, Tryz.ntmps117
    go_wp2
    go_ret
    exact ⟨rfl, rfl⟩
  have hp : 0 < s.size := by omega
  have he : s.toList.isEmpty = false := by rw [he]; simp [hz]
  by_cases h0 : 1 < s.size ∧ ((s[0].toNat : Int) == 48) = true
  · obtain ⟨h1, h0⟩ := h0
    rw [isDec_zero s h1 h0]
    go_enter Tryz.func117, Tryz.ntmps117
    go_wp2
    go_ret
    exact ⟨rfl, rfl⟩
  have h0' : s.size ≤ 1 ∨ ((s[0].toNat : Int) == 48) = false := by
    by_cases h1 : 1 < s.size
    · right
      cases hc : ((s[0].toNat : Int) == 48)
      · rfl
      · exact absurd ⟨h1, hc⟩ h0
    · left; omega
  have hr := isDec_rest s hp h0'
  generalize isDec s.data.toList = r at hr ⊢
  have HR := hide hr
  clear h0 hr
  rcases h0' with h1 | h1
  all_goals
    go_enter Tryz.func117, Tryz.ntmps117
    go_wp2
    all_goals
      go_loop [18] (fun i => ∃ k : Nat, k ≤ s.size ∧ i = .int .i64 k ∧ Hid ((s.data.toList.take k).all dig = true)) (fun i => s.size - (intOf i).toNat)
      case atStart => exact ⟨0, Nat.zero_le _, rfl, rfl⟩
      case round =>
        obtain ⟨k, hk, rfl, HD⟩ := hrel
        by_cases hlt : k < s.size
        · have HS := hide (all_snoc s k hlt)
          have HF := hide (all_false s k hlt)
          have HI := hide (dig_iff s[k])
          go_wp2
          · go_ret
            have hd : dig s[k] = false := Bool.eq_false_iff.2 (fun e => by have := HI.out.1 e; omega)
            exact ⟨ret_bool (HR.out.trans (HF.out hd)).symm, rfl⟩
          · go_round
            case rel => exact ⟨k + 1, by omega, by go_num, HS.out.trans (by rw [HD.out, HI.out.2 (by assumption)]; rfl)⟩
            case measure => simp [intOf]; omega
          · go_ret
            have hd : dig s[k] = false := Bool.eq_false_iff.2 (fun e => by have := HI.out.1 e; omega)
            exact ⟨ret_bool (HR.out.trans (HF.out hd)).symm, rfl⟩
        · go_wp2
          go_ret
          have hall : s.data.toList.all dig = true := by
            have h2 := HD.out
            rw [List.take_of_length_le (by rw [Array.length_toList]; exact Nat.not_lt.1 hlt)] at h2
            exact h2
          exact ⟨ret_bool (HR.out.trans hall).symm, rfl⟩
end Go.Proofs.YtikjbbebfjleaaaGreatDoor
