/-
  THE WALK of package lines' symbol: the name that a line writes.
  THE WALK of package lines' names: lines of names up to the end, or up to a line of c.
  A CIRCUIT WHILE IT IS READ: the boxes, the rows that are filled, the reader.
  THE WALK of package lines' circuit: all that stands behind a header.
  THE WALKS of ascii's tooLong and Header.
-/
import Derived.Test.YtikjbbebfjleaaaGreatDoorRd1
import Derived.Test.YtikjbbebfjleaaaGreatDoorShelfD
import Derived.Test.YtikjbbebfjleaaaGreatDoorAigSameP
import Derived.Deep.LoopGhost
import Derived.Deep.Cut
namespace Go.Proofs.YtikjbbebfjleaaaGreatDoor
open Go.RowKit

def symV (y : Sym) : Value := .agg #[.int .u8 y.1, .int .i64 y.2.1, .string y.2.2]
def tail1 (s : ByteArray) : List UInt8 := s.data.toList.drop 1
def symOk (s : ByteArray) : Bool := (Lib.cut (tail1 s) [32]).2.2 && decide (numE (Lib.cut (tail1 s) [32]).1 2147483647 = 0)
theorem symO_at (s : ByteArray) (hp : 0 < s.size) : symO s = if isKind s[0] = true ∧ (Lib.cut (tail1 s) [32]).2.2 = true ∧ numE (Lib.cut (tail1 s) [32]).1 2147483647 = 0 then some ((s[0].toNat : Int), numV (Lib.cut (tail1 s) [32]).1 2147483647, ⟨(Lib.cut (tail1 s) [32]).2.1.toArray⟩) else none := by
  obtain ⟨⟨l⟩⟩ := s
  cases l with
  | nil => exact absurd hp (Nat.lt_irrefl 0)
  | cons c r =>
    show (if (isKind c && ((Lib.cut r [32]).2.2 && decide (numE (Lib.cut r [32]).1 2147483647 = 0))) = true then some ((c.toNat : Int), numV (Lib.cut r [32]).1 2147483647, (⟨(Lib.cut r [32]).2.1.toArray⟩ : ByteArray)) else none) = _
    have e : tail1 ⟨⟨c :: r⟩⟩ = r := rfl
    have e0 : (⟨⟨c :: r⟩⟩ : ByteArray)[0] = c := rfl
    rw [e, e0]
    simp only [Bool.and_eq_true, decide_eq_true_eq]
theorem symO_nil (s : ByteArray) (hp : s.size = 0) : symO s = none := by
  obtain ⟨⟨l⟩⟩ := s
  cases l with
  | nil => rfl
  | cons c r => exact absurd hp (Nat.succ_ne_zero r.length)
theorem kinds_no (c : UInt8) (h : isKind c = false) : Lib.indexByte [105, 108, 111, 98, 99] c < 0 := by
  have : Lib.indexByte [105, 108, 111, 98, 99] c = -1 := index_no _ _ (fun k hk => by
    have hm := List.mem_of_getElem? hk
    simp at hm
    unfold isKind at h
    rcases hm with rfl | rfl | rfl | rfl | rfl <;> simp at h)
  omega
theorem kinds_yes (c : UInt8) (h : isKind c = true) : 0 ≤ Lib.indexByte [105, 108, 111, 98, 99] c := by
  unfold isKind at h
  simp at h
  rcases h with rfl | rfl | rfl | rfl | rfl <;> decide +kernel
theorem tail1_cut (s : ByteArray) : (s.extract 1 s.size).data.toList = tail1 s := from_list s 1
theorem u8_back (c : UInt8) : ((c.toNat : Int)).toNat.toUInt8 = c := by simp
theorem cut_le (l sep : List UInt8) : (Lib.cut l sep).1.length ≤ l.length ∧ (Lib.cut l sep).2.1.length ≤ l.length := by
  unfold Lib.cut
  split
  · exact ⟨by rw [List.length_take]; omega, by rw [List.length_drop]; omega⟩
  · exact ⟨Nat.le_refl _, Nat.zero_le _⟩

/-- The block of the answer, written anew. -/
theorem symOut {w W : World} {u0 u1 u2 : Value} (h : W.heap[w.heap.size]? = some (.cells #[u0, u1, u2] 77 (0, 0))) (hb : Below w.heap.size w W) (v0 v1 v2 : Value) :
    ∃ Wf, Wf = ((W.setCell ⟨w.heap.size, 0, none⟩ v0).setCell ⟨w.heap.size, 1, none⟩ v1).setCell ⟨w.heap.size, 2, none⟩ v2 ∧ Wf.cell? ⟨w.heap.size, 0, none⟩ = some v0 ∧ Wf.cell? ⟨w.heap.size, 1, none⟩ = some v1 ∧ Wf.cell? ⟨w.heap.size, 2, none⟩ = some v2 ∧ Below w.heap.size w Wf := by
  obtain ⟨h0, h1, h2⟩ := three_cells (three_block (v0 := v0) (v1 := v1) (v2 := v2) h)
  exact ⟨_, rfl, h0, h1, h2, hb.trans (three_below W (Nat.le_refl _) v0 v1 v2)⟩

set_option maxRecDepth 100000 in
set_option maxHeartbeats 1000000 in
theorem sym_any (s : ByteArray) (w : World) (hs : s.size ≤ 100000) (hE : Env w) (hM : EnvM w) :
    Calls Tryz.prog 135 #[.string s] w fun e w' => e = .returned (.tuple #[symV ((symO s).getD noSym), .bool (symO s).isSome]) ∧ Below w.heap.size w w' := by
  have he := emp_iff s
  have hal := below_alloc w (.cells #[.int .u8 0, .int .i64 0, .string ⟨#[]⟩] 77)
  have hnew := heap_alloc_new w (.cells #[.int .u8 0, .int .i64 0, .string ⟨#[]⟩] 77)
  by_cases hz : s.size = 0
  · rw [symO_nil s hz]
    have he : s.toList.isEmpty = true := by rw [he]; simp [hz]
    show Calls _ _ _ _ fun e w' => e = .returned (.tuple #[.agg #[.int .u8 0, .int .i64 0, .string ⟨#[]⟩], .bool false]) ∧ Below w.heap.size w w'
    obtain ⟨r0, r1, r2⟩ := three_cells hnew
    go_enter Tryz.func135, Tryz.ntmps135
    go_wp2
    refine bodyPost_ret (v := .tuple #[.agg #[.int .u8 0, .int .i64 0, .string ⟨#[]⟩], .bool false]) (by simp [results, Tryz.results135, go_sem, *]) rfl ?_
    exact ⟨rfl, hal⟩
  have hp : 0 < s.size := by omega
  have he : s.toList.isEmpty = false := by rw [he]; simp [hz]
  rw [symO_at s hp]
  have HI := hide (fun W => Tryz.strings_IndexByte ⟨#[105, 108, 111, 98, 99]⟩ (s[0].toNat : Int) W)
  rw [u8_back] at HI
  have hK0 := kinds_no s[0]
  have hK1 := kinds_yes s[0]
  have HI : Hid (∀ W, Calls Tryz.prog 150 #[.string ⟨#[105, 108, 111, 98, 99]⟩, .int .u8 (s[0].toNat : Int)] W fun e w' => e = .returned (.int .i64 (Lib.indexByte [105, 108, 111, 98, 99] s[0])) ∧ w' = W) := HI
  generalize Lib.indexByte [105, 108, 111, 98, 99] s[0] = K at HI hK0 hK1
  cases hk : isKind s[0] with
  | false =>
    have hK := hK0 hk
    rw [if_neg (by simp)]
    show Calls _ _ _ _ fun e w' => e = .returned (.tuple #[.agg #[.int .u8 0, .int .i64 0, .string ⟨#[]⟩], .bool false]) ∧ Below w.heap.size w w'
    obtain ⟨r0, r1, r2⟩ := three_cells hnew
    clear hK0 hK1 hk hE hM
    go_enter Tryz.func135, Tryz.ntmps135
    go_wp2_with (go_at_call 150; refine (HI.out _).mono ?_; rintro e w1 ⟨rfl, rfl⟩)
    refine bodyPost_ret (v := .tuple #[.agg #[.int .u8 0, .int .i64 0, .string ⟨#[]⟩], .bool false]) (by simp [results, Tryz.results135, go_sem, *]) rfl ?_
    exact ⟨rfl, hal⟩
  | true =>
    have hK := hK1 hk
    have hcl := cut_le (tail1 s) [32]
    have htl : (tail1 s).length ≤ 100000 := by
      have : (tail1 s).length = s.data.toList.length - 1 := List.length_drop
      have e : s.data.toList.length = s.size := Array.length_toList
      omega
    obtain ⟨m, hm⟩ := hM.below hal
    have HCut := hide (Tryz.strings_Cut (s.extract 1 s.size) ⟨#[32]⟩ m (w.alloc (.cells #[.int .u8 0, .int .i64 0, .string ⟨#[]⟩] 77)) (by rw [ByteArray.size_extract]; omega) hm)
    rw [tail1_cut] at HCut
    have HCut : Hid (Calls Tryz.prog 151 #[.string (s.extract 1 s.size), .string ⟨#[32]⟩] (w.alloc (.cells #[.int .u8 0, .int .i64 0, .string ⟨#[]⟩] 77)) fun e w' => e = .returned (.tuple #[.string ⟨(Lib.cut (tail1 s) [32]).1.toArray⟩, .string ⟨(Lib.cut (tail1 s) [32]).2.1.toArray⟩, .bool (Lib.cut (tail1 s) [32]).2.2]) ∧ ∃ n, w' = (w.alloc (.cells #[.int .u8 0, .int .i64 0, .string ⟨#[]⟩] 77)).drewN n) := HCut
    have HNum := hide (fun n => number_any ⟨(Lib.cut (tail1 s) [32]).1.toArray⟩ 2147483647 ((w.alloc (.cells #[.int .u8 0, .int .i64 0, .string ⟨#[]⟩] 77)).drewN n) (by show (Lib.cut (tail1 s) [32]).1.toArray.size ≤ _; rw [List.size_toArray]; omega) (by omega) (hE.below (belowThen hal (Drew.below ⟨n, rfl⟩))))
    have HNum : Hid (∀ n, Calls Tryz.prog 85 #[.string ⟨(Lib.cut (tail1 s) [32]).1.toArray⟩, .int .i64 2147483647] ((w.alloc (.cells #[.int .u8 0, .int .i64 0, .string ⟨#[]⟩] 77)).drewN n) fun e w' => e = .returned (.tuple #[.int .i64 (numV (Lib.cut (tail1 s) [32]).1 2147483647), .int .i64 (numE (Lib.cut (tail1 s) [32]).1 2147483647)]) ∧ Below ((w.alloc (.cells #[.int .u8 0, .int .i64 0, .string ⟨#[]⟩] 77)).drewN n).heap.size ((w.alloc (.cells #[.int .u8 0, .int .i64 0, .string ⟨#[]⟩] 77)).drewN n) w') := HNum
    generalize (⟨(Lib.cut (tail1 s) [32]).1.toArray⟩ : ByteArray) = D at HCut HNum
    generalize (⟨(Lib.cut (tail1 s) [32]).2.1.toArray⟩ : ByteArray) = M at HCut ⊢
    generalize numV (Lib.cut (tail1 s) [32]).1 2147483647 = V at HNum ⊢
    generalize numE (Lib.cut (tail1 s) [32]).1 2147483647 = E at HNum ⊢
    have HN := hide hnew
    have HA := hide hal
    clear hnew hal hK0 hK1 hk hE hM hm hcl htl
    cases hB : (Lib.cut (tail1 s) [32]).2.2 with
    | false =>
      rw [hB] at HCut
      rw [if_neg (by simp)]
      show Calls _ _ _ _ fun e w' => e = .returned (.tuple #[.agg #[.int .u8 0, .int .i64 0, .string ⟨#[]⟩], .bool false]) ∧ Below w.heap.size w w'
      clear hB
      go_enter Tryz.func135, Tryz.ntmps135
      go_wp2_with (first | (go_at_call 150; refine (HI.out _).mono ?_; rintro e w1 ⟨rfl, rfl⟩) | (go_at_call 151; refine HCut.out.mono ?_; rintro e w2 ⟨rfl, q, rfl⟩) | (go_at_call 85; refine (HNum.out _).mono ?_; rintro e w3 ⟨rfl, hb3⟩; have hblk := hide ((hb3.block w.heap.size (by simp)).trans HN.out); have hbel := hide (belowThen (belowThen HA.out (Drew.below ⟨q, rfl⟩)) hb3); clear hb3; obtain ⟨d0, d1, d2⟩ := three_cells hblk.out; have f0 := frozen_of_row w3 w.heap.size 0 _ _ hblk.out; have f1 := frozen_of_row w3 w.heap.size 1 _ _ hblk.out; have f2 := frozen_of_row w3 w.heap.size 2 _ _ hblk.out))
      obtain ⟨Wf, hWf, r0, r1, r2, hbf⟩ := symOut hblk.out hbel.out (.int .u8 0) (.int .i64 0) (.string ⟨#[]⟩)
      clear d0 d1 d2 f0 f1 f2
      rw [← hWf]
      have hbf := hide hbf
      clear hWf
      refine bodyPost_ret (v := .tuple #[.agg #[(.int .u8 0), (.int .i64 0), (.string ⟨#[]⟩)], .bool false]) (by simp [results, Tryz.results135, go_sem, *]) rfl ?_
      exact ⟨rfl, hbf.out⟩
    | true =>
      rw [hB] at HCut
      clear hB
      by_cases hE : E = 0
      · subst hE
        rw [if_pos ⟨rfl, rfl, rfl⟩]
        show Calls _ _ _ _ fun e w' => e = .returned (.tuple #[.agg #[.int .u8 (s[0].toNat : Int), .int .i64 V, .string M], .bool true]) ∧ Below w.heap.size w w'
        go_enter Tryz.func135, Tryz.ntmps135
        go_wp2_with (first | (go_at_call 150; refine (HI.out _).mono ?_; rintro e w1 ⟨rfl, rfl⟩) | (go_at_call 151; refine HCut.out.mono ?_; rintro e w2 ⟨rfl, q, rfl⟩) | (go_at_call 85; refine (HNum.out _).mono ?_; rintro e w3 ⟨rfl, hb3⟩; have hblk := hide ((hb3.block w.heap.size (by simp)).trans HN.out); have hbel := hide (belowThen (belowThen HA.out (Drew.below ⟨q, rfl⟩)) hb3); clear hb3; obtain ⟨d0, d1, d2⟩ := three_cells hblk.out; have f0 := frozen_of_row w3 w.heap.size 0 _ _ hblk.out; have f1 := frozen_of_row w3 w.heap.size 1 _ _ hblk.out; have f2 := frozen_of_row w3 w.heap.size 2 _ _ hblk.out))
        obtain ⟨Wf, hWf, r0, r1, r2, hbf⟩ := symOut hblk.out hbel.out (.int .u8 (s[0].toNat : Int)) (.int .i64 V) (.string M)
        clear d0 d1 d2 f0 f1 f2
        rw [← hWf]
        have hbf := hide hbf
        clear hWf
        refine bodyPost_ret (v := .tuple #[.agg #[(.int .u8 (s[0].toNat : Int)), (.int .i64 V), (.string M)], .bool true]) (by simp [results, Tryz.results135, go_sem, *]) rfl ?_
        exact ⟨rfl, hbf.out⟩
      · rw [if_neg (fun h => hE h.2.2)]
        show Calls _ _ _ _ fun e w' => e = .returned (.tuple #[.agg #[.int .u8 0, .int .i64 0, .string ⟨#[]⟩], .bool false]) ∧ Below w.heap.size w w'
        have hE1 : (E == 0) = false := by rw [beq_eq_false_iff_ne]; exact hE
        have hE2 : (E != 0) = true := by rw [bne, hE1]; rfl
        go_enter Tryz.func135, Tryz.ntmps135
        go_wp2_with (first | (go_at_call 150; refine (HI.out _).mono ?_; rintro e w1 ⟨rfl, rfl⟩) | (go_at_call 151; refine HCut.out.mono ?_; rintro e w2 ⟨rfl, q, rfl⟩) | (go_at_call 85; refine (HNum.out _).mono ?_; rintro e w3 ⟨rfl, hb3⟩; have hblk := hide ((hb3.block w.heap.size (by simp)).trans HN.out); have hbel := hide (belowThen (belowThen HA.out (Drew.below ⟨q, rfl⟩)) hb3); clear hb3; obtain ⟨d0, d1, d2⟩ := three_cells hblk.out; have f0 := frozen_of_row w3 w.heap.size 0 _ _ hblk.out; have f1 := frozen_of_row w3 w.heap.size 1 _ _ hblk.out; have f2 := frozen_of_row w3 w.heap.size 2 _ _ hblk.out))
        obtain ⟨Wf, hWf, r0, r1, r2, hbf⟩ := symOut hblk.out hbel.out (.int .u8 0) (.int .i64 0) (.string ⟨#[]⟩)
        clear d0 d1 d2 f0 f1 f2
        rw [← hWf]
        have hbf := hide hbf
        clear hWf
        refine bodyPost_ret (v := .tuple #[.agg #[(.int .u8 0), (.int .i64 0), (.string ⟨#[]⟩)], .bool false]) (by simp [results, Tryz.results135, go_sem, *]) rfl ?_
        exact ⟨rfl, hbf.out⟩
end Go.Proofs.YtikjbbebfjleaaaGreatDoor

namespace Go.Proofs.YtikjbbebfjleaaaGreatDoor
open Go.RowKit

/-- What is still to come: R is what all names and the last place will be. -/
def NSt (xs : List Int) (R : List Sym × Option Nat) (L : List Sym) : Option Nat → Prop
  | none => R = (L, none)
  | some k => ∃ f, xs.length - k < f ∧ namesF xs f k L = R
def remN (xs : List Int) : Option Nat → Nat
  | none => 0
  | some k => xs.length + 1 - k

theorem nst_start (xs : List Int) (st : Option Nat) : NSt xs (namesS xs st) [] st := by
  cases st with
  | none => exact rfl
  | some k => exact ⟨xs.length + 1, by omega, rfl⟩
theorem nst_end {xs : List Int} {R : List Sym × Option Nat} {L : List Sym} {k : Nat} (h : NSt xs R L (some k)) (hk : xs.length ≤ k) : R = (L, some k) := by
  obtain ⟨f, hf, rfl⟩ := h
  cases f with
  | zero => omega
  | succ f => rw [namesF, if_neg (by omega)]
theorem nst_step {xs : List Int} {R : List Sym × Option Nat} {L : List Sym} {k : Nat} (h : NSt xs R L (some k)) (hk : k < xs.length) :
    (lineO xs k = none → R = (L ++ [noSym], none)) ∧ ∀ s j, lineO xs k = some (s, j) → (s = lineC → R = (L, some j)) ∧ (¬ s = lineC → (∀ y, symO s = some y → NSt xs R (L ++ [y]) (some j)) ∧ (symO s = none → R = (L ++ [noSym], none))) := by
  obtain ⟨f, hf, rfl⟩ := h
  cases f with
  | zero => omega
  | succ f =>
    rw [namesF, if_pos hk]
    refine ⟨fun e => by rw [e], fun s j e => ?_⟩
    rw [e]
    have hj := lineO_le e
    refine ⟨fun es => by simp [es], fun es => ⟨fun y hy => ?_, fun hn => ?_⟩⟩
    · refine ⟨f, by omega, ?_⟩
      simp [es, hy]
    · simp [es, hn]

theorem nst_round {xs : List Int} {R : List Sym × Option Nat} {L : List Sym} {j : Nat} (h : NSt xs R L (some j)) (hj : j < xs.length) :
    ((lineS xs (some j)).1 = lineC → R = (L, (lineS xs (some j)).2)) ∧
    (¬ (lineS xs (some j)).1 = lineC → NSt xs R (L ++ [(symO (lineS xs (some j)).1).getD noSym]) (if (symO (lineS xs (some j)).1).isSome = true then (lineS xs (some j)).2 else none) ∧
      remN xs (if (symO (lineS xs (some j)).1).isSome = true then (lineS xs (some j)).2 else none) < remN xs (some j) ∧
      ∀ k, (if (symO (lineS xs (some j)).1).isSome = true then (lineS xs (some j)).2 else none) = some k → L.length ≤ j → L.length + 1 ≤ k) := by
  obtain ⟨h1, h2⟩ := nst_step h hj
  cases e : lineO xs j with
  | none =>
    rw [lineS_no e]
    refine ⟨fun x => (by cases x), fun _ => ?_⟩
    refine ⟨h1 e, by show 0 < xs.length + 1 - j; omega, fun k hk => by cases hk⟩
  | some q =>
    obtain ⟨s, i⟩ := q
    rw [lineS_yes e]
    obtain ⟨h3, h4⟩ := h2 s i e
    have hi := lineO_le e
    refine ⟨h3, fun hs => ?_⟩
    obtain ⟨h5, h6⟩ := h4 hs
    show NSt xs R (L ++ [(symO s).getD noSym]) (if (symO s).isSome = true then some i else none) ∧ remN xs (if (symO s).isSome = true then some i else none) < remN xs (some j) ∧ ∀ k, (if (symO s).isSome = true then some i else none) = some k → L.length ≤ j → L.length + 1 ≤ k
    cases hy : symO s with
    | none => exact ⟨h6 hy, by show 0 < xs.length + 1 - j; omega, fun k hk => by cases hk⟩
    | some y => exact ⟨h5 y hy, by show xs.length + 1 - i < xs.length + 1 - j; omega, fun k hk hl => by cases hk; omega⟩

theorem bytes_c {a : ByteArray} (h : ¬ a = lineC) : (a.toList == [99]) = false := by
  have := bytes_ne h
  rw [show lineC.toList = [99] by rw [ByteArray.toList_eq]; rfl] at this
  exact this
theorem cells3_new (w : World) (u0 u1 u2 : Value) (t : TypeId) : (w.alloc (.cells #[u0, u1, u2] t)).heap[w.heap.size]? = some (.cells #[u0, u1, u2] t (0, 0)) := heap_alloc_new w _
theorem symO_emp : symO ⟨#[]⟩ = none := rfl
theorem infoSym : (Tryz.prog.info? 77).map (fun i => (i.zero, i.size, i.bytes)) = some (some (.agg #[.int .u8 0, .int .i64 0, .string ⟨#[]⟩]), 3, 32) := by kernel_rfl

set_option maxRecDepth 100000 in
set_option maxHeartbeats 2000000 in
theorem namesM_any (p : Nat) (a : Option Addr) (n c : Nat) (xs : List Int) (top : Int) (st0 : Option Nat) (w : World) (h : Rd p a n c xs top st0 w) :
    Calls Tryz.prog 114 #[.pointer (some ⟨p, 0, none⟩)] w fun e w' => ∃ v, e = .returned v ∧ Grow p a n c xs top w 77 3 v (namesS xs st0).1.length (cellsS (namesS xs st0).1) (namesS xs st0).2 w' := by
  obtain ⟨i0, hi, hz0, hz1, hz2⟩ := info_parts infoSym
  have H0 := hide h
  have HR0 := hide (nst_start xs st0)
  have hsm := h.small
  have hln := h.len
  generalize namesS xs st0 = R at HR0 ⊢
  generalize hP : (fun (e : Ending) (w' : World) => ∃ v, e = .returned v ∧ Grow p a n c xs top w 77 3 v R.1.length (cellsS R.1) R.2 w') = Post
  have HFin : Hid (∀ L st v w', R = (L, st) → Grow p a n c xs top w 77 3 v L.length (cellsS L) st w' → Post (.returned v) w') := fun L st v w' e g => by
    rw [← hP, e]; exact ⟨v, rfl, g⟩
  have HN := hide hln
  clear h hP hln
  go_enter Tryz.func114, Tryz.ntmps114
  go_wp2
  go_loopg [3, 4, 5, 6] (remN xs st0) (fun kx o _ _ _ wr => ∃ (L : List Sym) (st : Option Nat), kx = remN xs st ∧ L.length ≤ n + 1 ∧ Hid (∀ k, st = some k → L.length ≤ k) ∧ Hid (NSt xs R L st) ∧ Hid (Grow p a n c xs top w 77 3 o L.length (cellsS L) st wr))
  case atStart => exact ⟨[], st0, rfl, Nat.zero_le _, fun _ _ => Nat.zero_le _, HR0, ⟨World.ownsRow_nil _ _ _ _, Went.refl H0.out⟩⟩
  case round =>
    obtain ⟨L, st, rfl, hL, HLk, HS, HG⟩ := hrel
    obtain ⟨k, hk, c0, c1, c2, c3⟩ := HG.out.went.1.cells
    obtain ⟨va, vc, hvf⟩ := own_is HG.out.own
    subst hvf
    clear HR0
    cases st with
    | none =>
      rw [show (none : Option Nat).isNone = true from rfl] at c3
      have HE : Hid (∀ W q, W = wr.drewN q → Post (.returned (.slice va L.length vc)) W) := fun W q e => by
        rw [e]
        exact HFin.out L none _ _ HS.out ⟨own_below HG.out.own (Drew.below ⟨q, rfl⟩), HG.out.went.below (Drew.below ⟨q, rfl⟩)⟩
      clear hk c0 c1 c2 HLk HS HFin
      go_wp2
      go_quiet (fail)
      go_wp2
      exact HE.out _ _ rfl
    | some j =>
      obtain rfl := hk j rfl
      rw [show (some j).isNone = false from rfl] at c3
      have hj : j ≤ n := by rw [← HN.out]; exact HG.out.went.1.inb j rfl
      by_cases hjn : j < n
      · have hrd := nst_round HS.out (by rw [HN.out]; exact hjn)
        have HLine := hide (fun q => lineM_any p a n c xs top (some j) (wr.drewN q) (HG.out.went.1.below (Drew.below ⟨q, rfl⟩)))
        have hszS : (lineS xs (some j)).1.size ≤ 100000 := by have := lineS_size (xs := xs) (st := some j); rw [HN.out] at this; omega
        have HSym := hide (fun W (hW : Rd p a n c xs top (lineS xs (some j)).2 W) => sym_any (lineS xs (some j)).1 W hszS hW.env hW.envM)
        have HNeed := hide (fun W b (hW : Rd p a n c xs top (lineS xs (some j)).2 W) => need_any p a n c xs top (lineS xs (some j)).2 b W hW)
        generalize (lineS xs (some j)).1 = S at *
        generalize (lineS xs (some j)).2 = T at *
        by_cases hS : S = lineC
        · have HE : Hid (∀ w1 q, Went p a n c xs top (wr.drewN q) T w1 → Post (.returned (.slice va L.length vc)) w1) := fun w1 q g => by
            have t : Two p p wr w1 := (Two.drewN p p q wr).trans g.2
            exact HFin.out L T _ _ (hrd.1 hS) ⟨own_went HG.out.own t H0.out.lt, ⟨g.1, HG.out.went.2.trans t⟩⟩
          subst hS
          unfold lineC at HLine
          clear hk c2 HLk HS HFin hrd HSym HNeed hszS
          go_wp2
          go_quiet (fail)
          go_wp2_with (go_at_call 78; refine (HLine.out _).mono ?_; rintro e w1 ⟨rfl, hw1⟩)
          exact HE.out _ _ hw1
        · obtain ⟨hn1, hn2, hn3⟩ := hrd.2 hS
          have HNx := hide (And.intro hn1 hn3)
          clear hrd hn1 hn3
          unfold symV at HSym
          generalize (symO S).getD noSym = Y at *
          generalize (symO S).isSome = B at *
          obtain ⟨y0, y1, y2⟩ := Y
          dsimp only at HSym
          have hS1 : (S.toList == [99]) = false := bytes_c hS
          obtain ⟨l, hl⟩ : ∃ l, l = L.length := ⟨_, rfl⟩
          have HLl := hide hl
          rw [← hl] at hL
          have HO := hide HG.out.own
          rw [← hl] at HO ⊢
          clear hl hk c2
          go_wp2
          go_quiet (fail)
          go_wp2_with (first | (go_at_call 78; refine (HLine.out _).mono ?_; rintro e w1 ⟨rfl, hw1⟩; have G1 : Hid (Went p a n c xs top wr T w1) := ⟨hw1.1, (Two.drewN _ _ _ _).trans hw1.2⟩; clear hw1) | (go_at_call 135; refine (HSym.out _ G1.out.1).mono ?_; rintro e w2 ⟨rfl, hb2⟩; have G2 := hide (G1.out.below hb2); have hp2 : w2.heap.size ≠ p := (by have := G2.out.1.lt; omega); clear hb2) | (go_at_call 88; refine (HNeed.out _ _ (G2.out.below (below_alloc _ _)).1).mono ?_; rintro e w3 ⟨rfl, hw3⟩; have G3 := hide ((G2.out.below (below_alloc w2 (.cells #[.int .u8 y0, .int .i64 y1, .string y2] 77))).then hw3); obtain ⟨d0, d1, d2⟩ := three_cells ((hw3.2.block w2.heap.size (by simp) hp2 hp2).trans (cells3_new w2 _ _ _ _)); have O3 := hide (own_went HO.out G3.out.2 H0.out.lt); have hsz3 := Nat.le_trans HG.out.went.2.size G3.out.2.size; clear hw3) | (at_builtin; refine wpList_append_rowC _ rfl (.tmp 36) (.tmp 38) 27 rfl w.heap.size 77 i0 (.agg #[.int .u8 0, .int .i64 0, .string ⟨#[]⟩]) 3 32 Tryz.underlying27 hi hz0 hz1 hz2 rfl (by decide) (.slice va l vc) l (cellsS L) rfl (O3.out.alloc _) (some ⟨w3.heap.size, 0, none⟩) 1 1 [.int .u8 y0, .int .i64 y1, .string y2] rfl rfl (cells_three_at _ _ _ _) (fun e => by cases e) (fun u hu => by simp at hu; rcases hu with rfl | rfl | rfl <;> rfl) (by unfold maxLen; omega) (by omega) (by simp; omega) ?_; intro v4 w4 hown4 hg4; have HSt := hide (Grow.step H0.out ⟨HO.out, HG.out.went⟩ G3.out hg4 hown4); clear hown4 hg4))
          go_roundg (remN xs (if B = true then T else none))
          case measure => exact hn2
          case rel =>
            refine ⟨L ++ [(y0, y1, y2)], _, rfl, by have := HLk.out j rfl; rw [List.length_append]; simp; omega, fun k hk => ?_, HNx.out.1, ?_⟩
            · rw [List.length_append]
              exact HNx.out.2 k hk (HLk.out j rfl)
            · rw [List.length_append, ← HLl.out, cellsS_append]
              exact HSt.out
      · have hjn : j = n := by omega
        subst hjn
        have HE : Hid (∀ W q, W = wr.drewN q → Post (.returned (.slice va L.length vc)) W) := fun W q e => by
          rw [e]
          exact HFin.out L (some j) _ _ (nst_end HS.out (by rw [HN.out]; exact Nat.le_refl _)) ⟨own_below HG.out.own (Drew.below ⟨q, rfl⟩), HG.out.went.below (Drew.below ⟨q, rfl⟩)⟩
        clear hk c2 HLk HS HFin
        go_wp2
        go_quiet (fail)
        go_wp2
        exact HE.out _ _ rfl
end Go.Proofs.YtikjbbebfjleaaaGreatDoor

namespace Go.Proofs.YtikjbbebfjleaaaGreatDoor
open Go.RowKit

def cvN : CV := ⟨0, none, 0, 0, none, 0, 0, none, 0, 0, none, 0, 0, none, 0, 0, none, 0, 0, none, 0, 0⟩
/-- A row that the call has made: element type, cells an element, the slice, how many, the cells. -/
structure Rw where
  e : TypeId
  s : Nat
  v : Value
  n : Nat
  cs : List Value

/-- A circuit that is read: the grammar's box, the answer's, the circuit's (block w.heap.size and the two behind it), rows filled so far, the reader at st. -/
structure Mid (p : Nat) (a : Option Addr) (n c : Nat) (xs : List Int) (top : Int) (w : World) (gc : Array Value) (d : CV) (rs : List Rw) (st : Option Nat) (W : World) : Prop where
  went : Went p a n c xs top w st W
  gbox : W.heap[w.heap.size]? = some (.cells gc 65 (0, 0))
  res : Box W (w.heap.size + 1) cvN
  cur : Box W (w.heap.size + 2) d
  rows : ∀ r ∈ rs, W.ownsRow (w.heap.size + 3) r.e r.s r.v r.n r.cs

section
variable {p : Nat} {a : Option Addr} {n c : Nat} {xs : List Int} {top top0 : Int} {w W W1 : World} {gc : Array Value} {d d' : CV} {rs : List Rw} {st st' st0 : Option Nat}
theorem Mid.drew (m : Mid p a n c xs top w gc d rs st W) : Mid p a n c xs top w gc d rs st W.drew :=
  have hb : Below W.heap.size W W.drew := Drew.below ⟨1, rfl⟩
  ⟨m.went.below hb, m.gbox, m.res, m.cur, fun r hr => own_like (m.rows r hr) rfl⟩
theorem Mid.big (m : Mid p a n c xs top w gc d rs st W) : w.heap.size + 3 ≤ W.heap.size := m.cur.lt
theorem Mid.row {k : Nat} {v : Value} (m : Mid p a n c xs top w gc d rs st W) {g : Nat} (hg : g ≠ p) (h : w.cell? ⟨g, k, none⟩ = some v) : W.cell? ⟨g, k, none⟩ = some v := two_cell m.went.2 h hg hg
theorem Mid.gram {k : Nat} {v : Value} (m : Mid p a n c xs top w gc d rs st W) (h : gc[k]? = some v) : W.cell? ⟨w.heap.size, k, none⟩ = some v := (cell_of_row W _ k _ _ (0, 0) m.gbox).trans h
theorem Mid.step (h0 : Rd p a n c xs top0 st0 w) (m : Mid p a n c xs top w gc d rs st W) {e : TypeId} {s k : Nat} {v : Value} {cs : List Value} (g : Grow p a n c xs top W e s v k cs st' W1) (f : Nat)
    (hc : ((#[.int .i64 d.m, .slice d.a1 d.n1 d.c1, .slice d.a2 d.n2 d.c2, .slice d.a3 d.n3 d.c3, .slice d.a4 d.n4 d.c4, .slice d.a5 d.n5 d.c5, .slice d.a6 d.n6 d.c6, .slice d.a7 d.n7 d.c7] : Array Value).setIfInBounds f v) = #[.int .i64 d'.m, .slice d'.a1 d'.n1 d'.c1, .slice d'.a2 d'.n2 d'.c2, .slice d'.a3 d'.n3 d'.c3, .slice d'.a4 d'.n4 d'.c4, .slice d'.a5 d'.n5 d'.c5, .slice d'.a6 d'.n6 d'.c6, .slice d'.a7 d'.n7 d'.c7]) :
    Mid p a n c xs top w gc d' (rs ++ [⟨e, s, v, k, cs⟩]) st' (W1.setCell ⟨w.heap.size + 2, f, none⟩ v) := by
  have hlt := h0.lt
  have hbig := m.big
  have hs := g.went.2.size
  have hb : Below w.heap.size W1 (W1.setCell ⟨w.heap.size + 2, f, none⟩ v) := (Below.refl _ _).setCell (p := ⟨w.heap.size + 2, f, none⟩) (by show w.heap.size ≤ w.heap.size + 2; omega) v
  refine ⟨(m.went.then g.went).far h0 hb, ?_, ?_, ?_, fun r hr => ?_⟩
  · exact (heap_setCell_other W1 ⟨w.heap.size + 2, f, none⟩ _ v (by show w.heap.size ≠ w.heap.size + 2; omega)).trans ((g.went.2.block _ (by omega) (by omega) (by omega)).trans m.gbox)
  · exact (heap_setCell_other W1 ⟨w.heap.size + 2, f, none⟩ _ v (by show w.heap.size + 1 ≠ w.heap.size + 2; omega)).trans ((g.went.2.block _ (by omega) (by omega) (by omega)).trans m.res)
  · exact box_eight (c := d) ((g.went.2.block _ (by omega) (by omega) (by omega)).trans m.cur) f v hc
  · rw [List.mem_append] at hr
    rcases hr with hr | hr
    · exact ownsRow_setCell_below (own_two (m.rows r hr) g.went.2 (by omega) (by omega)) (a := ⟨w.heap.size + 2, f, none⟩) (by show w.heap.size + 2 < w.heap.size + 3; omega) v
    · obtain rfl := List.mem_singleton.1 hr
      exact ownsRow_setCell_below (own_le g.own (by omega)) (a := ⟨w.heap.size + 2, f, none⟩) (by show w.heap.size + 2 < w.heap.size + 3; omega) v
theorem Mid.after (h0 : Rd p a n c xs top0 st0 w) (m : Mid p a n c xs top w gc d rs st W) {e : TypeId} {s k : Nat} {v : Value} {cs : List Value} (g : Grow p a n c xs top W e s v k cs st' W1) :
    (∀ {hg i : Nat} {u : Value}, hg ≠ p → w.cell? ⟨hg, i, none⟩ = some u → W1.cell? ⟨hg, i, none⟩ = some u) ∧ (∀ {i : Nat} {u : Value}, gc[i]? = some u → W1.cell? ⟨w.heap.size, i, none⟩ = some u) ∧ Box W1 (w.heap.size + 2) d := by
  have hlt := h0.lt
  have hbig := m.big
  exact ⟨fun hg hc => two_cell g.went.2 (m.row hg hc) hg hg, fun hi => two_cell g.went.2 (m.gram hi) (by show w.heap.size ≠ p; omega) (by show w.heap.size ≠ p; omega), (g.went.2.block _ (by omega) (by omega) (by omega)).trans m.cur⟩
end

theorem mid_start {p : Nat} {a : Option Addr} {n c : Nat} {xs : List Int} {top : Int} {st : Option Nat} {w : World} (h : Rd p a n c xs top st w) (gc : Array Value) (T M : Int) :
    Mid p a n c xs T w gc ⟨M, none, 0, 0, none, 0, 0, none, 0, 0, none, 0, 0, none, 0, 0, none, 0, 0, none, 0, 0⟩ [] st
      ((((w.setCell ⟨p, 2, none⟩ (.int .i64 T)).alloc (.cells gc 65)).alloc (.cells #[.int .i64 0, .slice none 0 0, .slice none 0 0, .slice none 0 0, .slice none 0 0, .slice none 0 0, .slice none 0 0, .slice none 0 0] 29)).alloc (.cells #[.int .i64 M, .slice none 0 0, .slice none 0 0, .slice none 0 0, .slice none 0 0, .slice none 0 0, .slice none 0 0, .slice none 0 0] 29)) := by
  have hlt := h.lt
  obtain ⟨rd, tw⟩ := h.topped T
  have s0 : (w.setCell ⟨p, 2, none⟩ (.int .i64 T)).heap.size = w.heap.size := by simp
  generalize w.setCell ⟨p, 2, none⟩ (.int .i64 T) = ws at *
  have b1 := below_alloc ws (.cells gc 65)
  have n1 := heap_alloc_new ws (.cells gc 65)
  have s1 : (ws.alloc (.cells gc 65)).heap.size = w.heap.size + 1 := by simp [s0]
  rw [s0] at n1
  generalize ws.alloc (.cells gc 65) = wa at *
  have b2 := below_alloc wa (.cells #[.int .i64 0, .slice none 0 0, .slice none 0 0, .slice none 0 0, .slice none 0 0, .slice none 0 0, .slice none 0 0, .slice none 0 0] 29)
  have n2 := heap_alloc_new wa (.cells #[.int .i64 0, .slice none 0 0, .slice none 0 0, .slice none 0 0, .slice none 0 0, .slice none 0 0, .slice none 0 0, .slice none 0 0] 29)
  have s2 : (wa.alloc (.cells #[.int .i64 0, .slice none 0 0, .slice none 0 0, .slice none 0 0, .slice none 0 0, .slice none 0 0, .slice none 0 0, .slice none 0 0] 29)).heap.size = w.heap.size + 2 := by simp [s1]
  rw [s1] at n2
  generalize wa.alloc (.cells #[.int .i64 0, .slice none 0 0, .slice none 0 0, .slice none 0 0, .slice none 0 0, .slice none 0 0, .slice none 0 0, .slice none 0 0] 29) = wc at *
  have b4 := below_alloc wc (.cells #[.int .i64 M, .slice none 0 0, .slice none 0 0, .slice none 0 0, .slice none 0 0, .slice none 0 0, .slice none 0 0, .slice none 0 0] 29)
  have n4 := heap_alloc_new wc (.cells #[.int .i64 M, .slice none 0 0, .slice none 0 0, .slice none 0 0, .slice none 0 0, .slice none 0 0, .slice none 0 0, .slice none 0 0] 29)
  rw [s2] at n4
  refine ⟨⟨((rd.below b1).below b2).below b4, tw.trans ((Two.of_below b1).trans ((Two.of_below b2).trans (Two.of_below b4)))⟩, ?_, ?_, n4, fun r hr => by cases hr⟩
  · exact (b4.block _ (by omega)).trans ((b2.block _ (by omega)).trans n1)
  · exact (b4.block _ (by omega)).trans n2
end Go.Proofs.YtikjbbebfjleaaaGreatDoor

namespace Go.Proofs.YtikjbbebfjleaaaGreatDoor
open Go.RowKit

/-- The grammar's value. -/
def gramC (word : ByteArray) (fH fI fL fA : Nat) : Array Value := #[.string word, .func (.func fH) #[] #[], .func (.func fI) #[] #[], .func (.func fL) #[] #[], .func (.func fA) #[] #[]]
/-- A header that is right. -/
structure HFit (H : List Int) : Prop where
  len : H.length = 9
  pos : ∀ i, 0 ≤ H.getD i 0
  b0 : H.getD 0 0 ≤ 5000
  b1 : H.getD 1 0 ≤ 64
  b2 : H.getD 2 0 ≤ 64
  b3 : H.getD 3 0 ≤ 64
  b4 : H.getD 4 0 ≤ 2000
  b5 : H.getD 5 0 ≤ 64
  b6 : H.getD 6 0 ≤ 64

section
variable {f : Nat} {p : Nat} {a : Option Addr} {n c : Nat} {xs : List Int} {top : Int} {st : Option Nat} {w : World}
theorem itemsI_int {F : List Int → Int → Int → Option Nat → Int × Option Nat} (hf : Reads f (Value.int .i64) F) (h : Rd p a n c xs top st w) (ht : top ≤ 9223372036854775807) (first count : Int) (h0 : 0 ≤ first) (h1 : first ≤ 20000) (h2 : 0 ≤ count) (h3 : count ≤ 10000) :
    Calls Tryz.prog 111 #[.pointer (some ⟨p, 0, none⟩), .int .i64 first, .int .i64 count, .func (.func f) #[] #[]] w fun e w' => ∃ v, e = .returned v ∧ Grow p a n c xs top w 3 1 v count.toNat ((itemsS (fun i => F xs top (2 * (first + (i : Int)))) st count.toNat).1.map (Value.int .i64)) (itemsS (fun i => F xs top (2 * (first + (i : Int)))) st count.toNat).2 w' := by
  obtain ⟨k, rfl⟩ := Int.eq_ofNat_of_zero_le h0
  obtain ⟨m, rfl⟩ := Int.eq_ofNat_of_zero_le h2
  exact itemsI_any f F hf p a n c xs top st w h ht k m (by omega) (by omega)
theorem itemsL_int {F : List Int → Int → Int → Option Nat → Tri × Option Nat} (hf : Reads f triV F) (h : Rd p a n c xs top st w) (ht : top ≤ 9223372036854775807) (first count : Int) (h0 : 0 ≤ first) (h1 : first ≤ 20000) (h2 : 0 ≤ count) (h3 : count ≤ 10000) :
    Calls Tryz.prog 112 #[.pointer (some ⟨p, 0, none⟩), .int .i64 first, .int .i64 count, .func (.func f) #[] #[]] w fun e w' => ∃ v, e = .returned v ∧ Grow p a n c xs top w 73 3 v count.toNat (cellsT (itemsS (fun i => F xs top (2 * (first + (i : Int)))) st count.toNat).1) (itemsS (fun i => F xs top (2 * (first + (i : Int)))) st count.toNat).2 w' := by
  obtain ⟨k, rfl⟩ := Int.eq_ofNat_of_zero_le h0
  obtain ⟨m, rfl⟩ := Int.eq_ofNat_of_zero_le h2
  exact itemsL_any f F hf p a n c xs top st w h ht k m (by omega) (by omega)
theorem itemsA_int {F : List Int → Int → Int → Option Nat → Tri × Option Nat} (hf : Reads f triV F) (h : Rd p a n c xs top st w) (ht : top ≤ 9223372036854775807) (first count : Int) (h0 : 0 ≤ first) (h1 : first ≤ 20000) (h2 : 0 ≤ count) (h3 : count ≤ 10000) :
    Calls Tryz.prog 113 #[.pointer (some ⟨p, 0, none⟩), .int .i64 first, .int .i64 count, .func (.func f) #[] #[]] w fun e w' => ∃ v, e = .returned v ∧ Grow p a n c xs top w 53 3 v count.toNat (cellsT (itemsS (fun i => F xs top (2 * (first + (i : Int)))) st count.toNat).1) (itemsS (fun i => F xs top (2 * (first + (i : Int)))) st count.toNat).2 w' := by
  obtain ⟨k, rfl⟩ := Int.eq_ofNat_of_zero_le h0
  obtain ⟨m, rfl⟩ := Int.eq_ofNat_of_zero_le h2
  exact itemsA_any f F hf p a n c xs top st w h ht k m (by omega) (by omega)
end

theorem mid_holds {W : World} {B : Nat} {d : CV} {M : Int} {L1 L3 L4 L5 : List Int} {L2 L6 : List Tri} {L7 : List Sym} (m : ∀ r ∈ ([⟨3, 1, .slice d.a1 d.n1 d.c1, d.n1, L1.map (Value.int .i64)⟩, ⟨73, 3, .slice d.a2 d.n2 d.c2, d.n2, cellsT L2⟩, ⟨3, 1, .slice d.a3 d.n3 d.c3, d.n3, L3.map (Value.int .i64)⟩, ⟨3, 1, .slice d.a4 d.n4 d.c4, d.n4, L4.map (Value.int .i64)⟩, ⟨3, 1, .slice d.a5 d.n5 d.c5, d.n5, L5.map (Value.int .i64)⟩, ⟨53, 3, .slice d.a6 d.n6 d.c6, d.n6, cellsT L6⟩, ⟨77, 3, .slice d.a7 d.n7 d.c7, d.n7, cellsS L7⟩] : List Rw), W.ownsRow B r.e r.s r.v r.n r.cs) (hm : d.m = M) : Holds W d ⟨M, L1, L2, L3, L4, L5, L6, L7⟩ := by
  have r1 := m ⟨3, 1, .slice d.a1 d.n1 d.c1, d.n1, L1.map (Value.int .i64)⟩ (by simp)
  have r2 := m ⟨73, 3, .slice d.a2 d.n2 d.c2, d.n2, cellsT L2⟩ (by simp)
  have r3 := m ⟨3, 1, .slice d.a3 d.n3 d.c3, d.n3, L3.map (Value.int .i64)⟩ (by simp)
  have r4 := m ⟨3, 1, .slice d.a4 d.n4 d.c4, d.n4, L4.map (Value.int .i64)⟩ (by simp)
  have r5 := m ⟨3, 1, .slice d.a5 d.n5 d.c5, d.n5, L5.map (Value.int .i64)⟩ (by simp)
  have r6 := m ⟨53, 3, .slice d.a6 d.n6 d.c6, d.n6, cellsT L6⟩ (by simp)
  have r7 := m ⟨77, 3, .slice d.a7 d.n7 d.c7, d.n7, cellsS L7⟩ (by simp)
  have l1 : L1.length = d.n1 := by simpa using r1.1
  have l2 : L2.length = d.n2 := by have := r2.1; rw [cellsT_len] at this; dsimp only at this; omega
  have l3 : L3.length = d.n3 := by simpa using r3.1
  have l4 : L4.length = d.n4 := by simpa using r4.1
  have l5 : L5.length = d.n5 := by simpa using r5.1
  have l6 : L6.length = d.n6 := by have := r6.1; rw [cellsT_len] at this; dsimp only at this; omega
  have l7 : L7.length = d.n7 := by have := r7.1; rw [cellsS_len] at this; dsimp only at this; omega
  obtain ⟨q1, z1⟩ := rowC_own' r1
  obtain ⟨q2, z2⟩ := rowC_own' r2
  obtain ⟨q3, z3⟩ := rowC_own' r3
  obtain ⟨q4, z4⟩ := rowC_own' r4
  obtain ⟨q5, z5⟩ := rowC_own' r5
  obtain ⟨q6, z6⟩ := rowC_own' r6
  obtain ⟨q7, z7⟩ := rowC_own' r7
  exact ⟨hm, rowK_of_C q1, l1, z1, q2, l2, z2, rowK_of_C q3, l3, z3, rowK_of_C q4, l4, z4, rowK_of_C q5, l5, z5, q6, l6, z6, q7, l7, z7⟩

/-- The circuit's rows lie at block B or behind it. -/
structure Above (B : Nat) (d : CV) : Prop where
  a1 : ∀ x, d.a1 = some x → B ≤ x.block
  a2 : ∀ x, d.a2 = some x → B ≤ x.block
  a3 : ∀ x, d.a3 = some x → B ≤ x.block
  a4 : ∀ x, d.a4 = some x → B ≤ x.block
  a5 : ∀ x, d.a5 = some x → B ≤ x.block
  a6 : ∀ x, d.a6 = some x → B ≤ x.block
  a7 : ∀ x, d.a7 = some x → B ≤ x.block
theorem own_above {w : World} {B C n k c s : Nat} {e : TypeId} {a : Option Addr} {cs : List Value} (h : w.ownsRow B e s (.slice a n c) k cs) (hC : C ≤ B) : ∀ x, a = some x → C ≤ x.block := by
  intro x hx
  rcases h.2 with ⟨e, -⟩ | ⟨g, cap, cur, e, hb, -⟩
  · cases e; cases hx
  · cases e; cases hx; exact Nat.le_trans hC hb
theorem Above.mono {B C : Nat} {d : CV} (h : Above B d) (hC : C ≤ B) : Above C d :=
  ⟨fun x e => Nat.le_trans hC (h.a1 x e), fun x e => Nat.le_trans hC (h.a2 x e), fun x e => Nat.le_trans hC (h.a3 x e), fun x e => Nat.le_trans hC (h.a4 x e), fun x e => Nat.le_trans hC (h.a5 x e), fun x e => Nat.le_trans hC (h.a6 x e), fun x e => Nat.le_trans hC (h.a7 x e)⟩
theorem rowK_two {k : IntKind} {p : Nat} {w w' : World} {a : Option Addr} {xs : List Int} (h : RowK k w a xs) (t : Two p p w w') (hx : ∀ x, a = some x → x.block ≠ p) : RowK k w' a xs := by
  rcases h with h | ⟨x, rfl, h⟩
  · exact .inl h
  · refine .inr ⟨x, rfl, fun i hi => two_cell t (h i hi) ?_ ?_⟩ <;> (rw [add_block]; exact hx x rfl)
theorem rowC_two {p : Nat} {w w' : World} {a : Option Addr} {cs : List Value} (h : RowC w a cs) (t : Two p p w w') (hx : ∀ x, a = some x → x.block ≠ p) : RowC w' a cs := by
  rcases h with h | ⟨x, rfl, h⟩
  · exact .inl h
  · refine .inr ⟨x, rfl, fun i u hi => two_cell t (h i u hi) ?_ ?_⟩ <;> (rw [add_block]; exact hx x rfl)
theorem Holds.two {w w' : World} {d : CV} {C : Circ} {B b : Nat} (h : Holds w d C) (ab : Above B d) (t : Two b b w w') (hb : b < B) : Holds w' d C := by
  have k : ∀ {a : Option Addr}, (∀ x, a = some x → B ≤ x.block) → ∀ x, a = some x → x.block ≠ b := fun hh x e => by have := hh x e; omega
  exact ⟨h.m, rowK_two h.r1 t (k ab.a1), h.l1, h.z1, rowC_two h.r2 t (k ab.a2), h.l2, h.z2, rowK_two h.r3 t (k ab.a3), h.l3, h.z3, rowK_two h.r4 t (k ab.a4), h.l4, h.z4, rowK_two h.r5 t (k ab.a5), h.l5, h.z5, rowC_two h.r6 t (k ab.a6), h.l6, h.z6, rowC_two h.r7 t (k ab.a7), h.l7, h.z7⟩
theorem mid_above {W : World} {B C : Nat} {d : CV} {L1 L3 L4 L5 : List Int} {L2 L6 : List Tri} {L7 : List Sym} (m : ∀ r ∈ ([⟨3, 1, .slice d.a1 d.n1 d.c1, d.n1, L1.map (Value.int .i64)⟩, ⟨73, 3, .slice d.a2 d.n2 d.c2, d.n2, cellsT L2⟩, ⟨3, 1, .slice d.a3 d.n3 d.c3, d.n3, L3.map (Value.int .i64)⟩, ⟨3, 1, .slice d.a4 d.n4 d.c4, d.n4, L4.map (Value.int .i64)⟩, ⟨3, 1, .slice d.a5 d.n5 d.c5, d.n5, L5.map (Value.int .i64)⟩, ⟨53, 3, .slice d.a6 d.n6 d.c6, d.n6, cellsT L6⟩, ⟨77, 3, .slice d.a7 d.n7 d.c7, d.n7, cellsS L7⟩] : List Rw), W.ownsRow B r.e r.s r.v r.n r.cs) (hC : C ≤ B) : Above C d :=
  ⟨own_above (m ⟨3, 1, .slice d.a1 d.n1 d.c1, d.n1, L1.map (Value.int .i64)⟩ (by simp)) hC, own_above (m ⟨73, 3, .slice d.a2 d.n2 d.c2, d.n2, cellsT L2⟩ (by simp)) hC, own_above (m ⟨3, 1, .slice d.a3 d.n3 d.c3, d.n3, L3.map (Value.int .i64)⟩ (by simp)) hC, own_above (m ⟨3, 1, .slice d.a4 d.n4 d.c4, d.n4, L4.map (Value.int .i64)⟩ (by simp)) hC, own_above (m ⟨3, 1, .slice d.a5 d.n5 d.c5, d.n5, L5.map (Value.int .i64)⟩ (by simp)) hC, own_above (m ⟨53, 3, .slice d.a6 d.n6 d.c6, d.n6, cellsT L6⟩ (by simp)) hC, own_above (m ⟨77, 3, .slice d.a7 d.n7 d.c7, d.n7, cellsS L7⟩ (by simp)) hC⟩

set_option maxRecDepth 100000 in
set_option maxHeartbeats 4000000 in
theorem circuit_any (g : Gram) (word : ByteArray) (fH fI fL fA : Nat) (hI : Reads fI (Value.int .i64) g.inp) (hL : Reads fL triV g.lat) (hA : Reads fA triV g.and) (hlit : Reads 35 (Value.int .i64) litS)
    (p : Nat) (a : Option Addr) (n c : Nat) (xs : List Int) (top : Int) (st : Option Nat) (w : World) (h : Rd p a n c xs top st w) (H : List Int) (hf : HFit H) (hg cap : Nat) (hh : ∀ i, i < 9 → w.cell? ⟨hg, i, none⟩ = some (.int .i64 (H.getD i 0))) (hgp : hg ≠ p) (_hcap : 9 ≤ cap) :
    Calls Tryz.prog 79 #[.agg (gramC word fH fI fL fA), .pointer (some ⟨p, 0, none⟩), .slice (some ⟨hg, 0, none⟩) 9 cap] w fun e w' => ∃ d : CV, e = .returned d.v ∧ Holds w' d (rCirc g xs H st) ∧ Above w.heap.size d ∧ Went p a n c xs (rTop H) w (rNames g xs H st).2 w' := by
  have H0 := hide h
  have p0 := hf.pos 0
  have p1 := hf.pos 1
  have p2 := hf.pos 2
  have p3 := hf.pos 3
  have p4 := hf.pos 4
  have p5 := hf.pos 5
  have p6 := hf.pos 6
  have b0 := hf.b0
  have b1 := hf.b1
  have b2 := hf.b2
  have b3 := hf.b3
  have b4 := hf.b4
  have b5 := hf.b5
  have b6 := hf.b6
  have ht : rTop H ≤ 9223372036854775807 := by unfold rTop; omega
  have C1 : Hid (∀ W, Rd p a n c xs (rTop H) st W → Calls Tryz.prog 111 #[.pointer (some ⟨p, 0, none⟩), .int .i64 1, .int .i64 (H.getD 1 0), .func (.func fI) #[] #[]] W fun e w' => ∃ v, e = .returned v ∧ Grow p a n c xs (rTop H) W 3 1 v (H.getD 1 0).toNat ((rIns g xs H st).1.map (Value.int .i64)) (rIns g xs H st).2 w') := fun W hW => itemsI_int hI hW ht 1 (H.getD 1 0) (by omega) (by omega) (by omega) (by omega)
  have C2 : Hid (∀ W, Rd p a n c xs (rTop H) (rIns g xs H st).2 W → Calls Tryz.prog 112 #[.pointer (some ⟨p, 0, none⟩), .int .i64 (1 + H.getD 1 0), .int .i64 (H.getD 2 0), .func (.func fL) #[] #[]] W fun e w' => ∃ v, e = .returned v ∧ Grow p a n c xs (rTop H) W 73 3 v (H.getD 2 0).toNat (cellsT (rLats g xs H st).1) (rLats g xs H st).2 w') := fun W hW => itemsL_int hL hW ht (1 + H.getD 1 0) (H.getD 2 0) (by omega) (by omega) (by omega) (by omega)
  have C3 : Hid (∀ W, Rd p a n c xs (rTop H) (rLats g xs H st).2 W → Calls Tryz.prog 111 #[.pointer (some ⟨p, 0, none⟩), .int .i64 0, .int .i64 (H.getD 3 0), .func (.func 35) #[] #[]] W fun e w' => ∃ v, e = .returned v ∧ Grow p a n c xs (rTop H) W 3 1 v (H.getD 3 0).toNat ((rOuts g xs H st).1.map (Value.int .i64)) (rOuts g xs H st).2 w') := fun W hW => itemsI_int hlit hW ht 0 (H.getD 3 0) (by omega) (by omega) (by omega) (by omega)
  have C4 : Hid (∀ W, Rd p a n c xs (rTop H) (rOuts g xs H st).2 W → Calls Tryz.prog 111 #[.pointer (some ⟨p, 0, none⟩), .int .i64 0, .int .i64 (H.getD 5 0), .func (.func 35) #[] #[]] W fun e w' => ∃ v, e = .returned v ∧ Grow p a n c xs (rTop H) W 3 1 v (H.getD 5 0).toNat ((rBads g xs H st).1.map (Value.int .i64)) (rBads g xs H st).2 w') := fun W hW => itemsI_int hlit hW ht 0 (H.getD 5 0) (by omega) (by omega) (by omega) (by omega)
  have C5 : Hid (∀ W, Rd p a n c xs (rTop H) (rBads g xs H st).2 W → Calls Tryz.prog 111 #[.pointer (some ⟨p, 0, none⟩), .int .i64 0, .int .i64 (H.getD 6 0), .func (.func 35) #[] #[]] W fun e w' => ∃ v, e = .returned v ∧ Grow p a n c xs (rTop H) W 3 1 v (H.getD 6 0).toNat ((rCons g xs H st).1.map (Value.int .i64)) (rCons g xs H st).2 w') := fun W hW => itemsI_int hlit hW ht 0 (H.getD 6 0) (by omega) (by omega) (by omega) (by omega)
  have C6 : Hid (∀ W, Rd p a n c xs (rTop H) (rCons g xs H st).2 W → Calls Tryz.prog 113 #[.pointer (some ⟨p, 0, none⟩), .int .i64 (1 + H.getD 1 0 + H.getD 2 0), .int .i64 (H.getD 4 0), .func (.func fA) #[] #[]] W fun e w' => ∃ v, e = .returned v ∧ Grow p a n c xs (rTop H) W 53 3 v (H.getD 4 0).toNat (cellsT (rAnds g xs H st).1) (rAnds g xs H st).2 w') := fun W hW => itemsA_int hA hW ht (1 + H.getD 1 0 + H.getD 2 0) (H.getD 4 0) (by omega) (by omega) (by omega) (by omega)
  have C7 : Hid (∀ W, Rd p a n c xs (rTop H) (rAnds g xs H st).2 W → Calls Tryz.prog 114 #[.pointer (some ⟨p, 0, none⟩)] W fun e w' => ∃ v, e = .returned v ∧ Grow p a n c xs (rTop H) W 77 3 v (rNames g xs H st).1.length (cellsS (rNames g xs H st).1) (rNames g xs H st).2 w') := fun W hW => namesM_any p a n c xs (rTop H) _ W hW
  have hT : rTop H = 2 * H.getD 0 0 + 1 := rfl
  unfold rCirc
  have hc0 := hh 0 (by omega)
  have hc1 := hh 1 (by omega)
  have hc2 := hh 2 (by omega)
  have hc3 := hh 3 (by omega)
  have hc4 := hh 4 (by omega)
  have hc5 := hh 5 (by omega)
  have hc6 := hh 6 (by omega)
  have HS := hide (fun gc => mid_start h gc (rTop H) (H.getD 0 0))
  generalize (rNames g xs H st).2 = T7 at *
  generalize (rNames g xs H st).1 = L7 at *
  generalize (rAnds g xs H st).2 = T6 at *
  generalize (rAnds g xs H st).1 = L6 at *
  generalize (rCons g xs H st).2 = T5 at *
  generalize (rCons g xs H st).1 = L5 at *
  generalize (rBads g xs H st).2 = T4 at *
  generalize (rBads g xs H st).1 = L4 at *
  generalize (rOuts g xs H st).2 = T3 at *
  generalize (rOuts g xs H st).1 = L3 at *
  generalize (rLats g xs H st).2 = T2 at *
  generalize (rLats g xs H st).1 = L2 at *
  generalize (rIns g xs H st).2 = T1 at *
  generalize (rIns g xs H st).1 = L1 at *
  generalize rTop H = tp at *
  subst hT
  generalize H.getD 0 0 = y0 at *
  generalize H.getD 1 0 = y1 at *
  generalize H.getD 2 0 = y2 at *
  generalize H.getD 3 0 = y3 at *
  generalize H.getD 4 0 = y4 at *
  generalize H.getD 5 0 = y5 at *
  generalize H.getD 6 0 = y6 at *
  have HH := hide (And.intro hc1 (And.intro hc2 (And.intro hc3 (And.intro hc4 (And.intro hc5 hc6)))))
  obtain ⟨k, hk, d0, d1, d2, d3⟩ := h.cells
  have f2 := h.free 2
  have hpl := h.lt
  have hAl := belowThen (below_alloc w (.cells #[.string word, .func (.func fH) #[] #[], .func (.func fI) #[] #[], .func (.func fL) #[] #[], .func (.func fA) #[] #[]] 65)) (below_alloc (w.alloc (.cells #[.string word, .func (.func fH) #[] #[], .func (.func fI) #[] #[], .func (.func fL) #[] #[], .func (.func fA) #[] #[]] 65)) (.cells #[.int .i64 0, .slice none 0 0, .slice none 0 0, .slice none 0 0, .slice none 0 0, .slice none 0 0, .slice none 0 0, .slice none 0 0] 29))
  have e0 := (hAl.cell (block_lt_of_cell hc0)).trans hc0
  have e2 := (hAl.cell (block_lt_of_cell d2)).trans d2
  have g2 : ((w.alloc (.cells #[.string word, .func (.func fH) #[] #[], .func (.func fI) #[] #[], .func (.func fL) #[] #[], .func (.func fA) #[] #[]] 65)).alloc (.cells #[.int .i64 0, .slice none 0 0, .slice none 0 0, .slice none 0 0, .slice none 0 0, .slice none 0 0, .slice none 0 0, .slice none 0 0] 29)).frozen? ⟨p, 2, none⟩ = false := (h.below hAl).free 2
  have hc0s : (w.setCell ⟨p, 2, none⟩ (.int .i64 (2 * y0 + 1))).cell? ⟨hg, 0, none⟩ = some (.int .i64 y0) := (cell_set_other (fun e => hgp (congrArg Addr.block e).symm)).trans hc0
  have e0' : (((w.setCell ⟨p, 2, none⟩ (.int .i64 (2 * y0 + 1))).alloc (.cells #[.string word, .func (.func fH) #[] #[], .func (.func fI) #[] #[], .func (.func fL) #[] #[], .func (.func fA) #[] #[]] 65)).alloc (.cells #[.int .i64 0, .slice none 0 0, .slice none 0 0, .slice none 0 0, .slice none 0 0, .slice none 0 0, .slice none 0 0, .slice none 0 0] 29)).cell? ⟨hg, 0, none⟩ = some (.int .i64 y0) := ((belowThen (below_alloc (w.setCell ⟨p, 2, none⟩ (.int .i64 (2 * y0 + 1))) (.cells #[.string word, .func (.func fH) #[] #[], .func (.func fI) #[] #[], .func (.func fL) #[] #[], .func (.func fA) #[] #[]] 65)) (below_alloc _ (.cells #[.int .i64 0, .slice none 0 0, .slice none 0 0, .slice none 0 0, .slice none 0 0, .slice none 0 0, .slice none 0 0, .slice none 0 0] 29))).cell (block_lt_of_cell hc0s)).trans hc0s
  clear hc0s
  clear hh hf hI hL hA hlit h hk d0 d1 d2 d3 f2 ht hc0 hc1 hc2 hc3 hc4 hc5 hc6 hAl
  unfold gramC
  go_enter Tryz.func79, Tryz.ntmps79
  go_upto_region 3 with fail
  have M0 := hide (HS.out (gramC word fH fI fL fA))
  unfold gramC at M0
  generalize hW : ((((w.setCell ⟨p, 2, none⟩ (.int .i64 (2 * y0 + 1))).alloc (.cells #[.string word, .func (.func fH) #[] #[], .func (.func fI) #[] #[], .func (.func fL) #[] #[], .func (.func fA) #[] #[]] 65)).alloc (.cells #[.int .i64 0, .slice none 0 0, .slice none 0 0, .slice none 0 0, .slice none 0 0, .slice none 0 0, .slice none 0 0, .slice none 0 0] 29)).alloc (.cells #[.int .i64 y0, .slice none 0 0, .slice none 0 0, .slice none 0 0, .slice none 0 0, .slice none 0 0, .slice none 0 0, .slice none 0 0] 29)) = W0 at *
  clear hW HS e0 e2 g2 e0'
  generalize hb7 : w.heap.size + 1 + 1 = b7
  obtain rfl : b7 = w.heap.size + 2 := hb7.symm
  clear hb7
  have hpw : w.heap.size ≠ p := by omega
  have q1 := M0.out.row hgp HH.out.1
  go_upto_region 4 with fail
  clear q1
  have kd0 : W0.drew.cell? ⟨hg, 1, none⟩ = some (.int .i64 y1) := M0.out.drew.row hgp HH.out.1
  have kg : W0.drew.cell? ⟨w.heap.size, 2, none⟩ = some (.func (.func fI) #[] #[]) := M0.out.drew.gram rfl
  go_region_held3 (fun w' => w'.cell? ⟨hg, 1, none⟩ = some (.int .i64 y1) ∧ w'.cell? ⟨w.heap.size, 2, none⟩ = some (.func (.func fI) #[] #[])) (first | with_reducible exact ⟨kd0, kg⟩ | with_reducible exact KB.out | with_reducible exact KA.out) (first | (go_at_call 111; refine (C1.out _ M0.out.drew.went.1).mono ?_; rintro e v1 ⟨v, rfl, g1⟩; obtain ⟨A1, K1, rfl⟩ := own_is g1.own; have M1 := hide (M0.out.drew.step H0.out g1 (d' := ⟨y0, A1, y1.toNat, K1, none, 0, 0, none, 0, 0, none, 0, 0, none, 0, 0, none, 0, 0, none, 0, 0⟩) 1 rfl); have hA := M0.out.drew.after H0.out g1; have s1 := hA.2.2.cells.2.1; have s2 := box_frozen hA.2.2 1; have KA : Hid (v1.cell? ⟨hg, 1, none⟩ = some (.int .i64 y1) ∧ v1.cell? ⟨w.heap.size, 2, none⟩ = some (.func (.func fI) #[] #[])) := ⟨hA.1 hgp HH.out.1, hA.2.1 rfl⟩; have KB : Hid ((v1.setCell ⟨w.heap.size + 2, 1, none⟩ (.slice A1 y1.toNat K1)).cell? ⟨hg, 1, none⟩ = some (.int .i64 y1) ∧ (v1.setCell ⟨w.heap.size + 2, 1, none⟩ (.slice A1 y1.toNat K1)).cell? ⟨w.heap.size, 2, none⟩ = some (.func (.func fI) #[] #[])) := ⟨M1.out.row hgp HH.out.1, M1.out.gram rfl⟩; clear hA g1))
  clear KA KB s1 s2 kg kd0 C1 M0
  generalize v1.setCell ⟨w.heap.size + 2, 1, none⟩ (.slice A1 y1.toNat K1) = W1 at *
  go_upto_region 5 with fail
  have kd0 : W1.drew.cell? ⟨hg, 2, none⟩ = some (.int .i64 y2) := M1.out.drew.row hgp HH.out.2.1
  have kg : W1.drew.cell? ⟨w.heap.size, 3, none⟩ = some (.func (.func fL) #[] #[]) := M1.out.drew.gram rfl
  go_region_held3 (fun w' => w'.cell? ⟨hg, 2, none⟩ = some (.int .i64 y2) ∧ w'.cell? ⟨w.heap.size, 3, none⟩ = some (.func (.func fL) #[] #[])) (first | with_reducible exact ⟨kd0, kg⟩ | with_reducible exact KB.out | with_reducible exact KA.out) (first | (go_at_call 112; refine (C2.out _ M1.out.drew.went.1).mono ?_; rintro e v2 ⟨v, rfl, g1⟩; obtain ⟨A2, K2, rfl⟩ := own_is g1.own; have M2 := hide (M1.out.drew.step H0.out g1 (d' := ⟨y0, A1, y1.toNat, K1, A2, y2.toNat, K2, none, 0, 0, none, 0, 0, none, 0, 0, none, 0, 0, none, 0, 0⟩) 2 rfl); have hA := M1.out.drew.after H0.out g1; have s1 := hA.2.2.cells.2.2.1; have s2 := box_frozen hA.2.2 2; have KA : Hid (v2.cell? ⟨hg, 2, none⟩ = some (.int .i64 y2) ∧ v2.cell? ⟨w.heap.size, 3, none⟩ = some (.func (.func fL) #[] #[])) := ⟨hA.1 hgp HH.out.2.1, hA.2.1 rfl⟩; have KB : Hid ((v2.setCell ⟨w.heap.size + 2, 2, none⟩ (.slice A2 y2.toNat K2)).cell? ⟨hg, 2, none⟩ = some (.int .i64 y2) ∧ (v2.setCell ⟨w.heap.size + 2, 2, none⟩ (.slice A2 y2.toNat K2)).cell? ⟨w.heap.size, 3, none⟩ = some (.func (.func fL) #[] #[])) := ⟨M2.out.row hgp HH.out.2.1, M2.out.gram rfl⟩; clear hA g1))
  clear KA KB s1 s2 kg kd0 C2 M1
  generalize v2.setCell ⟨w.heap.size + 2, 2, none⟩ (.slice A2 y2.toNat K2) = W2 at *
  go_upto_region 6 with fail
  have kd0 : W2.cell? ⟨hg, 3, none⟩ = some (.int .i64 y3) := M2.out.row hgp HH.out.2.2.1
  go_upto_region 7 with (first | (go_at_call 111; refine (C3.out _ M2.out.went.1).mono ?_; rintro e v3 ⟨v, rfl, g1⟩; obtain ⟨A3, K3, rfl⟩ := own_is g1.own; have M3 := hide (M2.out.step H0.out g1 (d' := ⟨y0, A1, y1.toNat, K1, A2, y2.toNat, K2, A3, y3.toNat, K3, none, 0, 0, none, 0, 0, none, 0, 0, none, 0, 0⟩) 3 rfl); have hA := M2.out.after H0.out g1; have s1 := hA.2.2.cells.2.2.2.1; have s2 := box_frozen hA.2.2 3; clear hA g1))
  clear s1 s2 kd0 C3 M2
  generalize v3.setCell ⟨w.heap.size + 2, 3, none⟩ (.slice A3 y3.toNat K3) = W3 at *
  have kd0 : W3.cell? ⟨hg, 5, none⟩ = some (.int .i64 y5) := M3.out.row hgp HH.out.2.2.2.2.1
  go_upto_region 8 with (first | (go_at_call 111; refine (C4.out _ M3.out.went.1).mono ?_; rintro e v4 ⟨v, rfl, g1⟩; obtain ⟨A4, K4, rfl⟩ := own_is g1.own; have M4 := hide (M3.out.step H0.out g1 (d' := ⟨y0, A1, y1.toNat, K1, A2, y2.toNat, K2, A3, y3.toNat, K3, A4, y5.toNat, K4, none, 0, 0, none, 0, 0, none, 0, 0⟩) 4 rfl); have hA := M3.out.after H0.out g1; have s1 := hA.2.2.cells.2.2.2.2.1; have s2 := box_frozen hA.2.2 4; clear hA g1))
  clear s1 s2 kd0 C4 M3
  generalize v4.setCell ⟨w.heap.size + 2, 4, none⟩ (.slice A4 y5.toNat K4) = W4 at *
  have kd0 : W4.cell? ⟨hg, 6, none⟩ = some (.int .i64 y6) := M4.out.row hgp HH.out.2.2.2.2.2
  go_upto_region 9 with (first | (go_at_call 111; refine (C5.out _ M4.out.went.1).mono ?_; rintro e v5 ⟨v, rfl, g1⟩; obtain ⟨A5, K5, rfl⟩ := own_is g1.own; have M5 := hide (M4.out.step H0.out g1 (d' := ⟨y0, A1, y1.toNat, K1, A2, y2.toNat, K2, A3, y3.toNat, K3, A4, y5.toNat, K4, A5, y6.toNat, K5, none, 0, 0, none, 0, 0⟩) 5 rfl); have hA := M4.out.after H0.out g1; have s1 := hA.2.2.cells.2.2.2.2.2.1; have s2 := box_frozen hA.2.2 5; clear hA g1))
  clear s1 s2 kd0 C5 M4
  generalize v5.setCell ⟨w.heap.size + 2, 5, none⟩ (.slice A5 y6.toNat K5) = W5 at *
  have hwr : IntKind.i64.wrap (1 + y1 + y2) = 1 + y1 + y2 := by rw [IntKind.wrap_i64]; omega
  have kd0 : W5.drew.cell? ⟨hg, 2, none⟩ = some (.int .i64 y2) := M5.out.drew.row hgp HH.out.2.1
  have kd1 : W5.drew.cell? ⟨hg, 4, none⟩ = some (.int .i64 y4) := M5.out.drew.row hgp HH.out.2.2.2.1
  have kg : W5.drew.cell? ⟨w.heap.size, 4, none⟩ = some (.func (.func fA) #[] #[]) := M5.out.drew.gram rfl
  go_region_held3 (fun w' => w'.cell? ⟨hg, 2, none⟩ = some (.int .i64 y2) ∧ w'.cell? ⟨hg, 4, none⟩ = some (.int .i64 y4) ∧ w'.cell? ⟨w.heap.size, 4, none⟩ = some (.func (.func fA) #[] #[])) (first | with_reducible exact ⟨kd0, kd1, kg⟩ | with_reducible exact KB.out | with_reducible exact KA.out) (first | (go_at_call 113; refine (C6.out _ M5.out.drew.went.1).mono ?_; rintro e v6 ⟨v, rfl, g1⟩; obtain ⟨A6, K6, rfl⟩ := own_is g1.own; have M6 := hide (M5.out.drew.step H0.out g1 (d' := ⟨y0, A1, y1.toNat, K1, A2, y2.toNat, K2, A3, y3.toNat, K3, A4, y5.toNat, K4, A5, y6.toNat, K5, A6, y4.toNat, K6, none, 0, 0⟩) 6 rfl); have hA := M5.out.drew.after H0.out g1; have s1 := hA.2.2.cells.2.2.2.2.2.2.1; have s2 := box_frozen hA.2.2 6; have KA : Hid (v6.cell? ⟨hg, 2, none⟩ = some (.int .i64 y2) ∧ v6.cell? ⟨hg, 4, none⟩ = some (.int .i64 y4) ∧ v6.cell? ⟨w.heap.size, 4, none⟩ = some (.func (.func fA) #[] #[])) := ⟨hA.1 hgp HH.out.2.1, hA.1 hgp HH.out.2.2.2.1, hA.2.1 rfl⟩; have KB : Hid ((v6.setCell ⟨w.heap.size + 2, 6, none⟩ (.slice A6 y4.toNat K6)).cell? ⟨hg, 2, none⟩ = some (.int .i64 y2) ∧ (v6.setCell ⟨w.heap.size + 2, 6, none⟩ (.slice A6 y4.toNat K6)).cell? ⟨hg, 4, none⟩ = some (.int .i64 y4) ∧ (v6.setCell ⟨w.heap.size + 2, 6, none⟩ (.slice A6 y4.toNat K6)).cell? ⟨w.heap.size, 4, none⟩ = some (.func (.func fA) #[] #[])) := ⟨M6.out.row hgp HH.out.2.1, M6.out.row hgp HH.out.2.2.2.1, M6.out.gram rfl⟩; clear hA g1))
  clear KA KB s1 s2 kg kd0 kd1 C6 M5
  generalize v6.setCell ⟨w.heap.size + 2, 6, none⟩ (.slice A6 y4.toNat K6) = W6 at *
  go_upto_region 10 with fail
  go_upto_region 11 with (first | (go_at_call 114; refine (C7.out _ M6.out.went.1).mono ?_; rintro e v7 ⟨v, rfl, g1⟩; obtain ⟨A7, K7, rfl⟩ := own_is g1.own; have M7 := hide (M6.out.step H0.out g1 (d' := ⟨y0, A1, y1.toNat, K1, A2, y2.toNat, K2, A3, y3.toNat, K3, A4, y5.toNat, K4, A5, y6.toNat, K5, A6, y4.toNat, K6, A7, L7.length, K7⟩) 7 rfl); have hA := M6.out.after H0.out g1; have s1 := hA.2.2.cells.2.2.2.2.2.2.2; have s2 := box_frozen hA.2.2 7; clear hA g1))
  clear s1 s2 C7 M6
  generalize v7.setCell ⟨w.heap.size + 2, 7, none⟩ (.slice A7 L7.length K7) = W7 at *
  have HFin : Hid (∀ Wf, Two (w.heap.size + 1) (w.heap.size + 1) W7 Wf → Holds Wf ⟨y0, A1, y1.toNat, K1, A2, y2.toNat, K2, A3, y3.toNat, K3, A4, y5.toNat, K4, A5, y6.toNat, K5, A6, y4.toNat, K6, A7, L7.length, K7⟩ ⟨y0, L1, L2, L3, L4, L5, L6, L7⟩ ∧ Above w.heap.size ⟨y0, A1, y1.toNat, K1, A2, y2.toNat, K2, A3, y3.toNat, K3, A4, y5.toNat, K4, A5, y6.toNat, K5, A6, y4.toNat, K6, A7, L7.length, K7⟩ ∧ Went p a n c xs (2 * y0 + 1) w T7 Wf) := fun Wf t => ⟨mid_holds (B := w.heap.size + 3) (fun r hr => own_two (M7.out.rows r hr) t (by omega) (by omega)) rfl, mid_above (B := w.heap.size + 3) M7.out.rows (by omega), M7.out.went.far H0.out (t.below (Below.refl _ _) (by have := M7.out.big; omega) (by omega) (by omega))⟩
  obtain ⟨c0, c1, c2, c3, c4, c5, c6, c7⟩ := M7.out.cur.cells
  have B1 := hide M7.out.res
  obtain ⟨r0, r1, r2, r3, r4, r5, r6, r7⟩ := B1.out.cells
  have f0 := box_frozen B1.out 0
  have f1 := box_frozen B1.out 1
  have f2 := box_frozen B1.out 2
  have f3 := box_frozen B1.out 3
  have f4 := box_frozen B1.out 4
  have f5 := box_frozen B1.out 5
  have f6 := box_frozen B1.out 6
  have f7 := box_frozen B1.out 7
  clear M7 H0 HH
  go_wp2
  have hb := hide (box_put ⟨y0, A1, y1.toNat, K1, A2, y2.toNat, K2, A3, y3.toNat, K3, A4, y5.toNat, K4, A5, y6.toNat, K5, A6, y4.toNat, K6, A7, L7.length, K7⟩ B1.out)
  have hfin := hide (HFin.out _ (two_put W7 (w.heap.size + 1) ⟨y0, A1, y1.toNat, K1, A2, y2.toNat, K2, A3, y3.toNat, K3, A4, y5.toNat, K4, A5, y6.toNat, K5, A6, y4.toNat, K6, A7, L7.length, K7⟩))
  clear c0 c1 c2 c3 c4 c5 c6 c7 r0 r1 r2 r3 r4 r5 r6 r7 f0 f1 f2 f3 f4 f5 f6 f7 B1 HFin
  show bodyPost _ _ _ _ _ (putBox W7 (w.heap.size + 1) ⟨y0, A1, y1.toNat, K1, A2, y2.toNat, K2, A3, y3.toNat, K3, A4, y5.toNat, K4, A5, y6.toNat, K5, A6, y4.toNat, K6, A7, L7.length, K7⟩)
  generalize putBox W7 (w.heap.size + 1) ⟨y0, A1, y1.toNat, K1, A2, y2.toNat, K2, A3, y3.toNat, K3, A4, y5.toNat, K4, A5, y6.toNat, K5, A6, y4.toNat, K6, A7, L7.length, K7⟩ = Wf at *
  obtain ⟨r0, r1, r2, r3, r4, r5, r6, r7⟩ := hb.out.cells
  dsimp only at r0 r1 r2 r3 r4 r5 r6 r7
  refine bodyPost_ret (v := .agg #[.int .i64 y0, .slice A1 y1.toNat K1, .slice A2 y2.toNat K2, .slice A3 y3.toNat K3, .slice A4 y5.toNat K4, .slice A5 y6.toNat K5, .slice A6 y4.toNat K6, .slice A7 L7.length K7]) (by simp [results, Tryz.results79, go_sem, *]) rfl ?_
  exact ⟨⟨y0, A1, y1.toNat, K1, A2, y2.toNat, K2, A3, y3.toNat, K3, A4, y5.toNat, K4, A5, y6.toNat, K5, A6, y4.toNat, K6, A7, L7.length, K7⟩, rfl, hfin.out.1, hfin.out.2⟩
end Go.Proofs.YtikjbbebfjleaaaGreatDoor

namespace Go.Proofs.YtikjbbebfjleaaaGreatDoor
open Go.RowKit

theorem five_cells {w : World} {b : Nat} {u0 u1 u2 u3 u4 : Value} {t : TypeId} (h : w.heap[b]? = some (.cells #[u0, u1, u2, u3, u4] t (0, 0))) :
    w.cell? ⟨b, 0, none⟩ = some u0 ∧ w.cell? ⟨b, 1, none⟩ = some u1 ∧ w.cell? ⟨b, 2, none⟩ = some u2 ∧ w.cell? ⟨b, 3, none⟩ = some u3 ∧ w.cell? ⟨b, 4, none⟩ = some u4 := by
  have e : ∀ j, w.cell? ⟨b, j, none⟩ = (#[u0, u1, u2, u3, u4] : Array Value)[j]? := fun j => cell_of_row w b j _ _ (0, 0) h
  exact ⟨by rw [e]; rfl, by rw [e]; rfl, by rw [e]; rfl, by rw [e]; rfl, by rw [e]; rfl⟩

set_option maxRecDepth 100000 in
set_option maxHeartbeats 1000000 in
theorem tooLongA_any (hg cap : Nat) (H : List Int) (w : World) (hh : ∀ i, i < 9 → w.cell? ⟨hg, i, none⟩ = some (.int .i64 (H.getD i 0))) :
    Calls Tryz.prog 45 #[.slice (some ⟨hg, 0, none⟩) 9 cap] w fun e w' => e = .returned (.bool (hdrLong H)) ∧ Below w.heap.size w w' := by
  have hnew := heap_alloc_new w (.cells #[.int .i64 1, .int .i64 2, .int .i64 3, .int .i64 5, .int .i64 6] 3)
  obtain ⟨t0, t1, t2, t3, t4⟩ := five_cells hnew
  have hal := below_alloc w (.cells #[.int .i64 1, .int .i64 2, .int .i64 3, .int .i64 5, .int .i64 6] 3)
  have e0 := (hal.cell (block_lt_of_cell (hh 0 (by omega)))).trans (hh 0 (by omega))
  have e1 := (hal.cell (block_lt_of_cell (hh 1 (by omega)))).trans (hh 1 (by omega))
  have e2 := (hal.cell (block_lt_of_cell (hh 2 (by omega)))).trans (hh 2 (by omega))
  have e3 := (hal.cell (block_lt_of_cell (hh 3 (by omega)))).trans (hh 3 (by omega))
  have e4 := (hal.cell (block_lt_of_cell (hh 4 (by omega)))).trans (hh 4 (by omega))
  have e5 := (hal.cell (block_lt_of_cell (hh 5 (by omega)))).trans (hh 5 (by omega))
  have e6 := (hal.cell (block_lt_of_cell (hh 6 (by omega)))).trans (hh 6 (by omega))
  clear hh hnew
  unfold hdrLong
  generalize H.getD 0 0 = y0 at *
  generalize H.getD 1 0 = y1 at *
  generalize H.getD 2 0 = y2 at *
  generalize H.getD 3 0 = y3 at *
  generalize H.getD 4 0 = y4 at *
  generalize H.getD 5 0 = y5 at *
  generalize H.getD 6 0 = y6 at *
  have HAl := hide hal
  clear hal
  generalize hP : (fun (e : Ending) (w' : World) => e = .returned (.bool (decide (64 < y1) || (decide (64 < y2) || (decide (64 < y3) || (decide (64 < y5) || (decide (64 < y6) || (decide (5000 < y0) || decide (2000 < y4)))))))) ∧ Below w.heap.size w w') = Post
  have HT : Hid (64 < y1 ∨ 64 < y2 ∨ 64 < y3 ∨ 64 < y5 ∨ 64 < y6 → Post (.returned (.bool true)) (w.alloc (.cells #[.int .i64 1, .int .i64 2, .int .i64 3, .int .i64 5, .int .i64 6] 3))) := fun h => by
    rw [← hP]
    refine ⟨ret_bool ?_, HAl.out⟩
    symm
    simp only [Bool.or_eq_true, decide_eq_true_eq]
    omega
  have HE : Hid (∀ b : Bool, b = (decide (5000 < y0) || decide (2000 < y4)) → y1 ≤ 64 ∧ y2 ≤ 64 ∧ y3 ≤ 64 ∧ y5 ≤ 64 ∧ y6 ≤ 64 → Post (.returned (.bool b)) (w.alloc (.cells #[.int .i64 1, .int .i64 2, .int .i64 3, .int .i64 5, .int .i64 6] 3))) := fun b hb h => by
    rw [← hP]
    refine ⟨ret_bool ?_, HAl.out⟩
    rw [hb, decide_eq_false (p := 64 < y1) (by omega), decide_eq_false (p := 64 < y2) (by omega), decide_eq_false (p := 64 < y3) (by omega), decide_eq_false (p := 64 < y5) (by omega), decide_eq_false (p := 64 < y6) (by omega)]
    rfl
  clear hP
  go_enter Tryz.func45, Tryz.ntmps45
  go_wp2
  go_loopw [4, 7] (fun _ i wr => ∃ k : Nat, i = .int .i64 k ∧ k ≤ 5 ∧ wr = w.alloc (.cells #[.int .i64 1, .int .i64 2, .int .i64 3, .int .i64 5, .int .i64 6] 3) ∧ Hid ((0 < k → y1 ≤ 64) ∧ (1 < k → y2 ≤ 64) ∧ (2 < k → y3 ≤ 64) ∧ (3 < k → y5 ≤ 64) ∧ (4 < k → y6 ≤ 64))) (fun _ i _ => 5 - (intOf i).toNat)
  case atStart => exact ⟨0, rfl, by omega, rfl, by omega, by omega, by omega, by omega, by omega⟩
  case round =>
    obtain ⟨k, rfl, hk, rfl, HK⟩ := hrel
    rcases (by omega : k = 0 ∨ k = 1 ∨ k = 2 ∨ k = 3 ∨ k = 4 ∨ k = 5) with rfl | rfl | rfl | rfl | rfl | rfl
    · by_cases hy : 64 < y1
      · go_wp2
        exact HT.out (by omega)
      · go_wp2
        go_roundw
        case rel => exact ⟨1, by go_num, by omega, by first | rfl | trivial, hide (by have := HK.out; omega)⟩
        case measure => simp [intOf]
    · by_cases hy : 64 < y2
      · go_wp2
        exact HT.out (by omega)
      · go_wp2
        go_roundw
        case rel => exact ⟨2, by go_num, by omega, by first | rfl | trivial, hide (by have := HK.out; omega)⟩
        case measure => simp [intOf]
    · by_cases hy : 64 < y3
      · go_wp2
        exact HT.out (by omega)
      · go_wp2
        go_roundw
        case rel => exact ⟨3, by go_num, by omega, by first | rfl | trivial, hide (by have := HK.out; omega)⟩
        case measure => simp [intOf]
    · by_cases hy : 64 < y5
      · go_wp2
        exact HT.out (by omega)
      · go_wp2
        go_roundw
        case rel => exact ⟨4, by go_num, by omega, by first | rfl | trivial, hide (by have := HK.out; omega)⟩
        case measure => simp [intOf]
    · by_cases hy : 64 < y6
      · go_wp2
        exact HT.out (by omega)
      · go_wp2
        go_roundw
        case rel => exact ⟨5, by go_num, by omega, by first | rfl | trivial, hide (by have := HK.out; omega)⟩
        case measure => simp [intOf]
    · by_cases h0 : 5000 < y0
      · go_wp2
        exact HE.out _ (by rw [decide_eq_true h0]; rfl) (by have := HK.out; omega)
      · by_cases h4 : 2000 < y4
        · go_wp2
          exact HE.out _ (by rw [decide_eq_true h4, decide_eq_false (p := 5000 < y0) (by omega)]; rfl) (by have := HK.out; omega)
        · go_wp2
          exact HE.out _ (by rw [decide_eq_false (p := 2000 < y4) (by omega), decide_eq_false (p := 5000 < y0) (by omega)]; rfl) (by have := HK.out; omega)

theorem hdr9_len (s : ByteArray) : (hdr9 s).length = 9 := by
  unfold hdr9
  have : (nsL s 5 9 2147483647).length ≤ 9 := nsL_le s 5 9 2147483647
  rw [List.length_append, List.length_replicate]
  omega

set_option maxRecDepth 100000 in
set_option maxHeartbeats 1000000 in
theorem headerA_any (s : ByteArray) (w : World) (hs : s.size ≤ 100000) (hE : Env w) (hM : EnvM w) :
    Calls Tryz.prog 16 #[.string s] w fun e w' => ∃ v, e = .returned (.tuple #[v, .int .i64 (hdrE s)]) ∧ OwnI w.heap.size w' v (hdrL s) ∧ Below w.heap.size w w' := by
  obtain ⟨i0, hi, hz0, hz1, hz2⟩ := info_parts infoInt
  have HN := hide (numbers_any s 5 9 2147483647 w hs hM hE (by omega))
  unfold NumsPost at HN
  have hl9 := hdr9_len s
  have hle : (nsL s 5 9 2147483647).length ≤ 9 := nsL_le s 5 9 2147483647
  have HB : Hid (∀ w', Below w.heap.size w w' → ¬ hdrE s = 0 → OwnI w.heap.size w' (.slice none 0 0) (hdrL s) ∧ Below w.heap.size w w') := fun w' hb hne => ⟨by rw [hdrL, if_neg hne]; exact OwnI.nil _ _, hb⟩
  by_cases hE0 : nsE s 5 9 2147483647 = 0
  · have HL := hide (fun hg cap W => tooLongA_any hg cap (hdr9 s) W)
    have e1 : hdrE s = if (hdr9 s).getD 7 0 ≠ 0 ∨ (hdr9 s).getD 8 0 ≠ 0 then 2 else if hdrLong (hdr9 s) = true then 3 else 0 := by rw [hdrE, if_pos hE0]
    have e2 : hdr9 s = nsL s 5 9 2147483647 ++ List.replicate (9 - (nsL s 5 9 2147483647).length) 0 := rfl
    have HG : Hid (∀ v w', hdrE s = 0 → OwnI w.heap.size w' v (hdr9 s) → Below w.heap.size w w' → OwnI w.heap.size w' v (hdrL s) ∧ Below w.heap.size w w') := fun v w' h0 ho hb => ⟨by rw [hdrL, if_pos h0]; exact ho, hb⟩
    rw [hE0] at HN
    rw [e1] at HB HG ⊢
    have HE2 := hide e2
    generalize hdrL s = HLs at *
    generalize nsL s 5 9 2147483647 = L at *
    generalize hdr9 s = H at *
    obtain ⟨l, hl⟩ : ∃ l, l = L.length := ⟨_, rfl⟩
    have HLen := hide hl
    rw [← hl] at hle
    have HL9 := hide hl9
    obtain ⟨x7, hx7⟩ : ∃ x, x = H.getD 7 0 := ⟨_, rfl⟩
    obtain ⟨x8, hx8⟩ : ∃ x, x = H.getD 8 0 := ⟨_, rfl⟩
    have HX := hide (And.intro hx7 hx8)
    rw [← hx7, ← hx8] at HB HG ⊢
    generalize hdrLong H = lg at *
    clear hE0 e1 e2 hl hl9 hx7 hx8
    by_cases h7 : x7 = 0
    · by_cases h8 : x8 = 0
      · subst h7
        subst h8
        rw [if_neg (by simp)] at HB HG ⊢
        cases lg
        all_goals
          go_enter Tryz.func16, Tryz.ntmps16
          go_wp2_with (first | (go_at_call 44; refine HN.out.mono ?_; rintro e w1 ⟨v, rfl, ho, hb⟩; have hs1 := hb.size; have HB1 := hide hb; have ho' : w1.ownsRow w.heap.size 3 1 v l (L.map (Value.int .i64)) := (by rw [HLen.out]; exact ho); obtain ⟨va, vc, rfl⟩ := own_is ho'; have O1 := hide ho'; clear ho ho' hb) | (at_builtin; refine wpList_append_zeros _ rfl (.tmp 14) (.tmp 17) 24 3 rfl w.heap.size 3 i0 (.int .i64 0) .i64 .i64 Tryz.underlying24 Tryz.underlying3 hi hz0 hz1 hz2 (.int .i64 0) rfl rfl (.slice va l vc) l (L.map (Value.int .i64)) rfl O1.out (9 - l) ((9 : Int) - l) rfl (by omega) (by omega) (by omega) ?_; intro v4 w4 ho4 hg4; have hb4 := HB1.out.grown hg4 hs1 (fun k hk => (O1.out.lt k hk).1); have HB4 := hide hb4; have hO : OwnI w.heap.size w4 v4 H := (by rw [HE2.out, ← HLen.out]; exact ownI_zeros ho4 HLen.out (Nat.le_refl _)); obtain ⟨hg, cap, rfl, hc, -⟩ := ownI_at hO HL9.out (by omega); have c7 := hc 7 (by omega); have c8 := hc 8 (by omega); rw [← HX.out.1] at c7; rw [← HX.out.2] at c8; have HO4 := hide hO; have HC := hide hc; clear ho4 hg4 hb4 hc hO) | (go_at_call 45; refine (HL.out _ _ _ HC.out).mono ?_; rintro e w5 ⟨rfl, hb5⟩))
          go_ret2
        · exact ⟨_, rfl, HG.out _ _ rfl (own_below HO4.out hb5) (HB4.out.trans (hb5.mono HB4.out.size))⟩
        · exact ⟨_, rfl, HB.out _ (HB4.out.trans (hb5.mono HB4.out.size)) (by decide)⟩
      · subst h7
        rw [if_pos (.inr h8)] at HB HG ⊢
        have hE1 : (x8 == 0) = false := by rw [beq_eq_false_iff_ne]; exact h8
        have hE2 : (x8 != 0) = true := by rw [bne, hE1]; rfl
        go_enter Tryz.func16, Tryz.ntmps16
        go_wp2_with (first | (go_at_call 44; refine HN.out.mono ?_; rintro e w1 ⟨v, rfl, ho, hb⟩; have hs1 := hb.size; have HB1 := hide hb; have ho' : w1.ownsRow w.heap.size 3 1 v l (L.map (Value.int .i64)) := (by rw [HLen.out]; exact ho); obtain ⟨va, vc, rfl⟩ := own_is ho'; have O1 := hide ho'; clear ho ho' hb) | (at_builtin; refine wpList_append_zeros _ rfl (.tmp 14) (.tmp 17) 24 3 rfl w.heap.size 3 i0 (.int .i64 0) .i64 .i64 Tryz.underlying24 Tryz.underlying3 hi hz0 hz1 hz2 (.int .i64 0) rfl rfl (.slice va l vc) l (L.map (Value.int .i64)) rfl O1.out (9 - l) ((9 : Int) - l) rfl (by omega) (by omega) (by omega) ?_; intro v4 w4 ho4 hg4; have hb4 := HB1.out.grown hg4 hs1 (fun k hk => (O1.out.lt k hk).1); have HB4 := hide hb4; have hO : OwnI w.heap.size w4 v4 H := (by rw [HE2.out, ← HLen.out]; exact ownI_zeros ho4 HLen.out (Nat.le_refl _)); obtain ⟨hg, cap, rfl, hc, -⟩ := ownI_at hO HL9.out (by omega); have c7 := hc 7 (by omega); have c8 := hc 8 (by omega); rw [← HX.out.1] at c7; rw [← HX.out.2] at c8; have HO4 := hide hO; have HC := hide hc; clear ho4 hg4 hb4 hc hO))
        go_ret2
        exact ⟨_, rfl, HB.out _ HB4.out (by decide)⟩
    · rw [if_pos (.inl h7)] at HB HG ⊢
      have hE1 : (x7 == 0) = false := by rw [beq_eq_false_iff_ne]; exact h7
      have hE2 : (x7 != 0) = true := by rw [bne, hE1]; rfl
      go_enter Tryz.func16, Tryz.ntmps16
      go_wp2_with (first | (go_at_call 44; refine HN.out.mono ?_; rintro e w1 ⟨v, rfl, ho, hb⟩; have hs1 := hb.size; have HB1 := hide hb; have ho' : w1.ownsRow w.heap.size 3 1 v l (L.map (Value.int .i64)) := (by rw [HLen.out]; exact ho); obtain ⟨va, vc, rfl⟩ := own_is ho'; have O1 := hide ho'; clear ho ho' hb) | (at_builtin; refine wpList_append_zeros _ rfl (.tmp 14) (.tmp 17) 24 3 rfl w.heap.size 3 i0 (.int .i64 0) .i64 .i64 Tryz.underlying24 Tryz.underlying3 hi hz0 hz1 hz2 (.int .i64 0) rfl rfl (.slice va l vc) l (L.map (Value.int .i64)) rfl O1.out (9 - l) ((9 : Int) - l) rfl (by omega) (by omega) (by omega) ?_; intro v4 w4 ho4 hg4; have hb4 := HB1.out.grown hg4 hs1 (fun k hk => (O1.out.lt k hk).1); have HB4 := hide hb4; have hO : OwnI w.heap.size w4 v4 H := (by rw [HE2.out, ← HLen.out]; exact ownI_zeros ho4 HLen.out (Nat.le_refl _)); obtain ⟨hg, cap, rfl, hc, -⟩ := ownI_at hO HL9.out (by omega); have c7 := hc 7 (by omega); have c8 := hc 8 (by omega); rw [← HX.out.1] at c7; rw [← HX.out.2] at c8; have HO4 := hide hO; have HC := hide hc; clear ho4 hg4 hb4 hc hO))
      go_ret2
      exact ⟨_, rfl, HB.out _ HB4.out (by decide)⟩
  · have e1 : hdrE s = nsE s 5 9 2147483647 := by rw [hdrE, if_neg hE0]
    rw [e1] at HB ⊢
    generalize hdrL s = HLs at *
    generalize nsE s 5 9 2147483647 = E at *
    generalize nsL s 5 9 2147483647 = L at *
    have hE1 : (E == 0) = false := by rw [beq_eq_false_iff_ne]; exact hE0
    have hE2 : (E != 0) = true := by rw [bne, hE1]; rfl
    clear hl9 e1 hle
    go_enter Tryz.func16, Tryz.ntmps16
    go_wp2_with (first | (go_at_call 44; refine HN.out.mono ?_; rintro e w1 ⟨v, rfl, ho, hb⟩))
    go_ret2
    exact ⟨_, rfl, HB.out _ hb hE0⟩
end Go.Proofs.YtikjbbebfjleaaaGreatDoor
