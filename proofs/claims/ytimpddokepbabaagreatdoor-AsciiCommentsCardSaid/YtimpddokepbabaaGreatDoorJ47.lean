/-
  THE TEXT OF A CIRCUIT, pure; and that a circuit that is right is read from it as it was, whatever stands behind a line of c.
  A CIRCUIT THAT IS RIGHT IS READ FROM ITS TEXT AS IT WAS; how long its text is.
  THE WALKS of the reference's Dec and of the law ScanBack.
  ROWS THAT ARE THE CALL's OWN, beside boxes and other rows; an append as a step of a region that draws its order.
-/
import Derived.Test.YtimpddokepbabaaGreatDoorJ46
import Derived.Test.YtimpddokepbabaaGreatDoorNumber
import Derived.Test.YtimpddokepbabaaGreatDoorAigBox
import Derived.Deep.RegionHeld3
namespace Go.Proofs.YtimpddokepbabaaGreatDoor
open Go.RowKit

def portT (l : List Int) : List UInt8 := l.flatMap (fun n => rowT [n])
def cntN (C : Circ) : List Int := [C.max, C.ins.length, C.lats.length, C.outs.length, C.ands.length] ++ ((if 0 < C.bads.length ∨ 0 < C.cons.length then [(C.bads.length : Int)] else []) ++ (if 0 < C.cons.length then [(C.cons.length : Int)] else []))
def hdrT (word : List UInt8) (C : Circ) : List UInt8 := word ++ 32 :: rowT (cntN C)
def portsT (C : Circ) : List UInt8 := portT C.outs ++ (portT C.bads ++ portT C.cons)
def latsT (C : Circ) : List UInt8 := C.lats.flatMap (fun x => rowT (latN x))
def andsT (C : Circ) : List UInt8 := C.ands.flatMap (fun x => rowT (andN x))
def namesT (C : Circ) : List UInt8 := C.names.flatMap symT
def asciiT (C : Circ) : List UInt8 := hdrT [97, 97, 103] C ++ (portT C.ins ++ (latsT C ++ (portsT C ++ (andsT C ++ namesT C))))
/-- A header's nine numbers. -/
def hdrN (C : Circ) : List Int := [C.max, C.ins.length, C.lats.length, C.outs.length, C.ands.length, C.bads.length, C.cons.length, 0, 0]

theorem cnt_nine (C : Circ) : cntN C ++ List.replicate (9 - (cntN C).length) 0 = hdrN C ∧ 5 ≤ (cntN C).length ∧ (cntN C).length ≤ 7 := by
  by_cases hc : 0 < C.cons.length
  · have e : cntN C = [C.max, C.ins.length, C.lats.length, C.outs.length, C.ands.length, C.bads.length, C.cons.length] := by
      unfold cntN; rw [if_pos (.inr hc), if_pos hc]; rfl
    rw [e]; exact ⟨rfl, by simp, by simp⟩
  · have c0 : C.cons.length = 0 := by omega
    by_cases hb : 0 < C.bads.length
    · have e : cntN C = [C.max, C.ins.length, C.lats.length, C.outs.length, C.ands.length, C.bads.length] := by
        unfold cntN; rw [if_pos (.inl hb), if_neg hc]; rfl
      rw [e]; unfold hdrN; rw [c0]; exact ⟨rfl, by simp, by simp⟩
    · have b0 : C.bads.length = 0 := by omega
      have e : cntN C = [C.max, C.ins.length, C.lats.length, C.outs.length, C.ands.length] := by
        unfold cntN; rw [if_neg (by omega), if_neg hc]; rfl
      rw [e]; unfold hdrN; rw [c0, b0]; exact ⟨rfl, by simp, by simp⟩
theorem cnt_bd {C : Circ} (hS : Small C) (h0 : 0 ≤ C.max) : ∀ n ∈ cntN C, 0 ≤ n ∧ n ≤ 5000 := by
  have h1 := hS.ins
  have h2 := hS.lats
  have h3 := hS.outs
  have h4 := hS.bads
  have h5 := hS.cons
  have h6 := hS.ands
  have h7 := hS.max
  intro n hn
  have hm : n ∈ hdrN C := by rw [← (cnt_nine C).1]; exact List.mem_append_left _ hn
  unfold hdrN at hm
  simp at hm
  omega
theorem hdr_of {C : Circ} (hS : Small C) (h0 : 0 ≤ C.max) : hdrE (bytesA (joinT (cntN C))) = 0 ∧ hdr9 (bytesA (joinT (cntN C))) = hdrN C ∧ hdrL (bytesA (joinT (cntN C))) = hdrN C := by
  obtain ⟨c1, c2, c3⟩ := cnt_nine C
  have hb := cnt_bd hS h0
  obtain ⟨n1, n2⟩ := nums_join (l := cntN C) (by intro e; rw [e] at c2; simp at c2) (top := 2147483647) (least := 5) (most := 9) (fun n hn => by have := hb n hn; omega) (by decide) (by omega) (by omega)
  have e9 : hdr9 (bytesA (joinT (cntN C))) = hdrN C := by unfold hdr9; rw [n2, c1]
  have hl : hdrLong (hdrN C) = false := by
    have h1 := hS.ins
    have h2 := hS.lats
    have h3 := hS.outs
    have h4 := hS.bads
    have h5 := hS.cons
    have h6 := hS.ands
    have h7 := hS.max
    show (decide (64 < (C.ins.length : Int)) || (decide (64 < (C.lats.length : Int)) || (decide (64 < (C.outs.length : Int)) || (decide (64 < (C.bads.length : Int)) || (decide (64 < (C.cons.length : Int)) || (decide (5000 < C.max) || decide (2000 < (C.ands.length : Int)))))))) = false
    simp only [Bool.or_eq_false_iff, decide_eq_false_iff_not]
    omega
  have e : hdrE (bytesA (joinT (cntN C))) = 0 := by
    unfold hdrE
    rw [if_pos n1, e9, if_neg (by show ¬ ((0 : Int) ≠ 0 ∨ (0 : Int) ≠ 0); decide), if_neg (by rw [hl]; decide)]
  exact ⟨e, e9, by rw [hdrL, if_pos e, e9]⟩

/-- What is right of a circuit, as far as writing asks. -/
structure Wr (C : Circ) : Prop where
  small : Small C
  max : 0 ≤ C.max
  ins : ∀ n ∈ C.ins, 0 ≤ n ∧ n ≤ C.top
  lats : ∀ x ∈ C.lats, (0 ≤ x.1 ∧ x.1 ≤ C.top) ∧ (0 ≤ x.2.1 ∧ x.2.1 ≤ C.top) ∧ (0 ≤ x.2.2 ∧ x.2.2 ≤ C.top)
  outs : ∀ n ∈ C.outs, 0 ≤ n ∧ n ≤ C.top
  bads : ∀ n ∈ C.bads, 0 ≤ n ∧ n ≤ C.top
  cons : ∀ n ∈ C.cons, 0 ≤ n ∧ n ≤ C.top
  ands : ∀ x ∈ C.ands, (0 ≤ x.1 ∧ x.1 ≤ C.top) ∧ (0 ≤ x.2.1 ∧ x.2.1 ≤ C.top) ∧ (0 ≤ x.2.2 ∧ x.2.2 ≤ C.top)
  names : ∀ y ∈ C.names, NameOk y ∧ y.2.1 ≤ 64 ∧ y.2.2.size ≤ 100
theorem check_parts {C : Circ} (h : C.checkI = 0) : C.longB = false ∧ C.litsB = true ∧ C.namesB = true := by
  unfold Circ.checkI at h
  cases h1 : C.longB
  · cases h2 : C.litsB
    · rw [h1, h2] at h; simp at h
    · cases h3 : C.namesB
      · rw [h1, h2, h3] at h; simp at h
      · exact ⟨rfl, rfl, rfl⟩
  · rw [h1] at h; simp at h
theorem name_ok {C : Circ} (hS : Small C) {y : Sym} (h : C.symB y = true) : NameOk y ∧ y.2.1 ≤ 64 ∧ y.2.2.size ≤ 100 := by
  unfold Circ.symB at h
  simp only [Bool.and_eq_true, decide_eq_true_eq] at h
  obtain ⟨h0, h1, h2⟩ := h
  unfold nameB at h2
  simp only [Bool.and_eq_true, decide_eq_true_eq, List.all_eq_true] at h2
  obtain ⟨-, h4, h5⟩ := h2
  have g1 := hS.ins
  have g2 := hS.lats
  have g3 := hS.outs
  have g4 := hS.bads
  have g5 := hS.cons
  have hk : (y.1 = 105 ∨ y.1 = 108 ∨ y.1 = 111 ∨ y.1 = 98 ∨ y.1 = 99) ∧ y.2.1 ≤ 64 := by
    unfold Circ.countK at h1
    split at h1
    · constructor <;> omega
    split at h1
    · constructor <;> omega
    split at h1
    · constructor <;> omega
    split at h1
    · constructor <;> omega
    split at h1
    · constructor <;> omega
    · omega
  refine ⟨⟨hk.1, h0, by omega, fun e => ?_⟩, hk.2, h4⟩
  have := h5 10 e
  revert this
  decide
theorem wr_of {C : Circ} (h : C.checkI = 0) : Wr C := by
  obtain ⟨q1, q2, q3⟩ := check_parts h
  have hS := small_of q1
  have hL := lits_of q2
  have own : ∀ l ∈ C.made, 0 ≤ l ∧ l ≤ C.top := fun l hl => by have := hL.own l hl; exact ⟨by omega, this.2.1⟩
  have lit : ∀ l ∈ C.used, 0 ≤ l ∧ l ≤ C.top := hL.lit
  have ht : (1 : Int) ≤ C.top := by have := hL.max; unfold Circ.top; omega
  refine ⟨hS, hL.max, fun n hn => own n (by simp [Circ.made, hn]), fun x hx => ?_, fun n hn => lit n (by simp [Circ.used, hn]), fun n hn => lit n (by simp [Circ.used, hn]), fun n hn => lit n (by simp [Circ.used, hn]), fun x hx => ?_, fun y hy => ?_⟩
  · have h1 := own x.1 (by unfold Circ.made; exact List.mem_append_left _ (List.mem_append_right _ (List.mem_map.2 ⟨x, hx, rfl⟩)))
    refine ⟨h1, lit x.2.1 (by unfold Circ.used; exact List.mem_append_left _ (List.mem_append_left _ (List.mem_append_left _ (List.mem_append_left _ (List.mem_map.2 ⟨x, hx, rfl⟩))))), ?_⟩
    rcases hL.reset x hx with e | e | e
    · rw [e]; omega
    · rw [e]; omega
    · rw [e]; exact h1
  · have hf : ∀ l ∈ [x.2.1, x.2.2], l ∈ C.used := fun l hl => by unfold Circ.used; exact List.mem_append_right _ (List.mem_flatMap.2 ⟨x, hx, hl⟩)
    exact ⟨own x.1 (by unfold Circ.made; exact List.mem_append_right _ (List.mem_map.2 ⟨x, hx, rfl⟩)), lit _ (hf _ (by simp)), lit _ (hf _ (by simp))⟩
  · exact name_ok hS (List.all_eq_true.1 q3 y hy)
theorem Wr.top {C : Circ} (h : Wr C) : C.top ≤ 10001 := by have := h.small.max; unfold Circ.top; omega

set_option maxHeartbeats 1000000 in
/-- All that stands behind a header is read as it was written. -/
theorem circ_back (g : Gram) (T : List UInt8) (C : Circ) (k1 : Nat) (t : List UInt8) (inW : Int → List UInt8) (latW andW : Tri → List UInt8) (hC : Wr C)
    (h : T.drop k1 = C.ins.flatMap inW ++ (C.lats.flatMap latW ++ (portT C.outs ++ (portT C.bads ++ (portT C.cons ++ (C.ands.flatMap andW ++ (namesT C ++ t)))))))
    (hI : ∀ (i : Nat) (hi : i < C.ins.length) k t', T.drop k = inW C.ins[i] ++ t' → g.inp (numsU T) C.top (2 * (1 + (i : Int))) (some k) = (C.ins[i], some (k + (inW C.ins[i]).length)))
    (hL : ∀ (i : Nat) (hi : i < C.lats.length) k t', T.drop k = latW C.lats[i] ++ t' → g.lat (numsU T) C.top (2 * (1 + (C.ins.length : Int) + (i : Int))) (some k) = (C.lats[i], some (k + (latW C.lats[i]).length)))
    (hA : ∀ (i : Nat) (hi : i < C.ands.length) k t', T.drop k = andW C.ands[i] ++ t' → g.and (numsU T) C.top (2 * (1 + (C.ins.length : Int) + (C.lats.length : Int) + (i : Int))) (some k) = (C.ands[i], some (k + (andW C.ands[i]).length)))
    (ht : Tail t) (hk : k1 ≤ T.length) :
    rCirc g (numsU T) (hdrN C) (some k1) = C ∧ ∃ j, (rNames g (numsU T) (hdrN C) (some k1)).2 = some j := by
  have htop : C.top ≤ 9223372036854775807 := by have := hC.top; omega
  obtain ⟨e1, d1, b1⟩ := items_at inW (fun i => g.inp (numsU T) C.top (2 * (1 + (i : Int)))) C.ins k1 _ h hk hI
  generalize k1 + (C.ins.flatMap inW).length = k2 at e1 d1 b1
  obtain ⟨e2, d2, b2⟩ := items_at latW (fun i => g.lat (numsU T) C.top (2 * (1 + (C.ins.length : Int) + (i : Int)))) C.lats k2 _ d1 b1 hL
  generalize k2 + (C.lats.flatMap latW).length = k3 at e2 d2 b2
  have hP : ∀ (l : List Int), (∀ n ∈ l, 0 ≤ n ∧ n ≤ C.top) → ∀ (i : Nat) (hi : i < l.length) k t', T.drop k = rowT [l[i]] ++ t' → litS (numsU T) C.top (2 * (0 + (i : Int))) (some k) = (l[i], some (k + (rowT [l[i]]).length)) := fun l hl i hi k t' h' => lit_at h' (hl _ (List.getElem_mem hi)).1 (hl _ (List.getElem_mem hi)).2 htop
  obtain ⟨e3, d3, b3⟩ := items_at (fun n => rowT [n]) (fun i => litS (numsU T) C.top (2 * (0 + (i : Int)))) C.outs k3 _ d2 b2 (hP _ hC.outs)
  generalize k3 + (C.outs.flatMap (fun n => rowT [n])).length = k4 at e3 d3 b3
  obtain ⟨e4, d4, b4⟩ := items_at (fun n => rowT [n]) (fun i => litS (numsU T) C.top (2 * (0 + (i : Int)))) C.bads k4 _ d3 b3 (hP _ hC.bads)
  generalize k4 + (C.bads.flatMap (fun n => rowT [n])).length = k5 at e4 d4 b4
  obtain ⟨e5, d5, b5⟩ := items_at (fun n => rowT [n]) (fun i => litS (numsU T) C.top (2 * (0 + (i : Int)))) C.cons k5 _ d4 b4 (hP _ hC.cons)
  generalize k5 + (C.cons.flatMap (fun n => rowT [n])).length = k6 at e5 d5 b5
  obtain ⟨e6, d6, b6⟩ := items_at andW (fun i => g.and (numsU T) C.top (2 * (1 + (C.ins.length : Int) + (C.lats.length : Int) + (i : Int)))) C.ands k6 _ d5 b5 hA
  have r1 : rIns g (numsU T) (hdrN C) (some k1) = (C.ins, some k2) := e1
  have r2 : rLats g (numsU T) (hdrN C) (some k1) = (C.lats, some k3) := by unfold rLats; rw [r1]; exact e2
  have r3 : rOuts g (numsU T) (hdrN C) (some k1) = (C.outs, some k4) := by unfold rOuts; rw [r2]; exact e3
  have r4 : rBads g (numsU T) (hdrN C) (some k1) = (C.bads, some k5) := by unfold rBads; rw [r3]; exact e4
  have r5 : rCons g (numsU T) (hdrN C) (some k1) = (C.cons, some k6) := by unfold rCons; rw [r4]; exact e5
  have r6 : rAnds g (numsU T) (hdrN C) (some k1) = (C.ands, some (k6 + (C.ands.flatMap andW).length)) := by unfold rAnds; rw [r5]; exact e6
  generalize k6 + (C.ands.flatMap andW).length = k7 at r6 d6 b6
  have hq : C.names.length < T.length + 1 := by
    have hq : C.names.length ≤ (namesT C).length := by
      unfold namesT
      have : ∀ L : List Sym, L.length ≤ (L.flatMap symT).length := fun L => by
        induction L with
        | nil => exact Nat.le_refl _
        | cons y L ih => have h1 : 1 ≤ (symT y).length := (by unfold symT; rw [List.length_cons]; omega); rw [List.flatMap_cons, List.length_append, List.length_cons]; omega
      exact this _
    have := drop_le d6 b6
    omega
  obtain ⟨j, hj⟩ := names_at ht C.names (T.length + 1) k7 [] (fun y hy => (hC.names y hy).1) d6 b6 hq
  have r7 : rNames g (numsU T) (hdrN C) (some k1) = (C.names, some j) := by
    unfold rNames
    rw [r6]
    show namesF (numsU T) ((numsU T).length + 1) k7 [] = _
    rw [numsU_len, hj]
    rfl
  refine ⟨?_, j, by rw [r7]⟩
  unfold rCirc
  rw [r1, r2, r3, r4, r5, r6, r7]
  rfl
end Go.Proofs.YtimpddokepbabaaGreatDoor

namespace Go.Proofs.YtimpddokepbabaaGreatDoor
open Go.RowKit

theorem read_back (g : Gram) (T : List UInt8) (C : Circ) (rest : List UInt8) (hC : C.checkI = 0) (hw : 10 ∉ g.word) (hT : T = hdrT g.word C ++ rest) (hlen : T.length ≤ 262144)
    (hE : g.hE (bytesA (joinT (cntN C))) = 0) (hL : g.hL (bytesA (joinT (cntN C))) = hdrN C)
    (hcirc : ∀ k1, T.drop k1 = rest → k1 ≤ T.length → rCirc g (numsU T) (hdrN C) (some k1) = C ∧ ∃ j, (rNames g (numsU T) (hdrN C) (some k1)).2 = some j) :
    g.readE (numsU T) = 0 ∧ g.read (numsU T) = C := by
  have hno : 10 ∉ g.word ++ 32 :: joinT (cntN C) := fun e => by
    rcases List.mem_append.1 e with e | e
    · exact hw e
    · rcases List.mem_cons.1 e with e | e
      · revert e; decide
      · exact joinT_no _ e
  have h0 : T.drop 0 = (g.word ++ 32 :: joinT (cntN C)) ++ 10 :: rest := by rw [List.drop_zero, hT]; simp [hdrT, rowT]
  have hl := lineS_at h0 hno
  have h1 : T.drop (0 + (g.word ++ 32 :: joinT (cntN C)).length + 1) = rest := by
    have := drop_more (T := T) (k := 0) (b := (g.word ++ 32 :: joinT (cntN C)) ++ [10]) (t := rest) (by rw [h0]; simp)
    rw [List.length_append, List.length_singleton, ← Nat.add_assoc] at this
    exact this
  have h2 : 0 + (g.word ++ 32 :: joinT (cntN C)).length + 1 ≤ T.length := by
    have := drop_le h0 (Nat.zero_le _)
    have e := congrArg List.length h0
    rw [List.drop_zero, List.length_append, List.length_cons] at e
    omega
  obtain ⟨c1, j, c2⟩ := hcirc _ h1 h2
  have hr : g.rest (numsU T) = bytesA (joinT (cntN C)) := by
    unfold Gram.rest
    rw [hl]
    show (⟨(List.drop (g.word.length + 1) (g.word ++ 32 :: joinT (cntN C))).toArray⟩ : ByteArray) = _
    rw [← List.drop_drop, List.drop_left]
    rfl
  have hp : Lib.hasPrefix (lineS (numsU T) (some 0)).1.data.toList (g.word ++ [32]) = true := by
    rw [hl]
    unfold Lib.hasPrefix
    rw [List.isPrefixOf_iff_prefix]
    exact ⟨joinT (cntN C), by simp [bytesA]⟩
  have hcc : g.circ (numsU T) = C := by unfold Gram.circ; rw [hr, hL, hl]; exact c1
  have hll : g.last (numsU T) = some j := by unfold Gram.last; rw [hr, hL, hl]; exact c2
  have he : g.readE (numsU T) = 0 := by
    unfold Gram.readE
    rw [numsU_len, if_neg (by omega), if_pos hp, hr, if_pos hE, hll, if_pos (show (some j).isSome = true from rfl), hcc, hC]
    rfl
  exact ⟨he, by rw [Gram.read, if_pos he, hcc]⟩

theorem ascii_back (C : Circ) (hC : C.checkI = 0) (t : List UInt8) (ht : Tail t) (hlen : (asciiT C ++ t).length ≤ 262144) : gramA.readE (numsU (asciiT C ++ t)) = 0 ∧ gramA.read (numsU (asciiT C ++ t)) = C := by
  have hW := wr_of hC
  have htop : C.top ≤ 9223372036854775807 := by have := hW.top; omega
  obtain ⟨q1, -, q3⟩ := hdr_of hW.small hW.max
  refine read_back gramA (asciiT C ++ t) C (portT C.ins ++ (latsT C ++ (portsT C ++ (andsT C ++ (namesT C ++ t))))) hC (by decide) (by simp [asciiT, gramA]) hlen q1 q3 (fun k1 h hk => ?_)
  exact circ_back gramA _ C k1 t (fun n => rowT [n]) (fun x => rowT (latN x)) (fun x => rowT (andN x)) hW (by rw [h]; simp [portT, latsT, portsT, andsT])
    (fun i hi k t' h' => lit_at (lit := 2 * (1 + (i : Int))) h' (hW.ins _ (List.getElem_mem hi)).1 (hW.ins _ (List.getElem_mem hi)).2 htop)
    (fun i hi k t' h' => lat_at (lit := 2 * (1 + (C.ins.length : Int) + (i : Int))) h' (hW.lats _ (List.getElem_mem hi)).1 (hW.lats _ (List.getElem_mem hi)).2.1 (hW.lats _ (List.getElem_mem hi)).2.2 htop)
    (fun i hi k t' h' => and_at (lit := 2 * (1 + (C.ins.length : Int) + (C.lats.length : Int) + (i : Int))) h' (hW.ands _ (List.getElem_mem hi)).1 (hW.ands _ (List.getElem_mem hi)).2.1 (hW.ands _ (List.getElem_mem hi)).2.2 htop) ht hk

theorem flat_le {α : Type} (f : α → List UInt8) (b : Nat) : ∀ L : List α, (∀ x ∈ L, (f x).length ≤ b) → (L.flatMap f).length ≤ L.length * b := by
  intro L
  induction L with
  | nil => intro _; exact Nat.zero_le _
  | cons x L ih =>
    intro h
    rw [List.flatMap_cons, List.length_append, List.length_cons, Nat.add_mul]
    have h1 := h x List.mem_cons_self
    have h2 := ih (fun y hy => h y (List.mem_cons_of_mem _ hy))
    omega
theorem joinT_le : ∀ l : List Int, (∀ n ∈ l, 0 ≤ n ∧ n < 100000) → (joinT l).length ≤ 6 * l.length
  | [], _ => Nat.zero_le _
  | [n], h => by have := digs_few (h n (by simp)).1 (h n (by simp)).2; simp only [joinT, List.length_singleton]; omega
  | n :: m :: r, h => by
    have h1 := digs_few (h n (by simp)).1 (h n (by simp)).2
    have h2 := joinT_le (m :: r) (fun x hx => h x (List.mem_cons_of_mem _ hx))
    rw [joinT_cons, List.length_append, List.length_cons]
    simp only [List.length_cons] at h2 ⊢
    omega
theorem rowT_le {l : List Int} (h : ∀ n ∈ l, 0 ≤ n ∧ n < 100000) : (rowT l).length ≤ 6 * l.length + 1 := by
  have := joinT_le l h
  rw [rowT, List.length_append, List.length_singleton]; omega
theorem portT_le {l : List Int} (h : ∀ n ∈ l, 0 ≤ n ∧ n < 100000) : (portT l).length ≤ l.length * 7 := flat_le _ 7 l (fun n hn => rowT_le (l := [n]) (fun m hm => by rw [List.mem_singleton.1 hm]; exact h n hn))
theorem hdrT_le {C : Circ} (h : Wr C) (word : List UInt8) : (hdrT word C).length ≤ word.length + 50 := by
  have h1 := rowT_le (l := cntN C) (fun n hn => by have := cnt_bd h.small h.max n hn; omega)
  have h2 := (cnt_nine C).2.2
  unfold hdrT
  rw [List.length_append, List.length_cons]
  omega
theorem namesT_le {C : Circ} (h : Wr C) : (namesT C).length ≤ C.names.length * 110 := flat_le _ 110 _ (fun y hy => by
  obtain ⟨n1, n2, n3⟩ := h.names y hy
  have h1 := digs_few n1.pos (by omega)
  have h2 : y.2.2.data.toList.length = y.2.2.size := Array.length_toList
  unfold symT
  rw [List.length_cons, List.length_append, List.length_cons, List.length_append, List.length_singleton]
  omega)
theorem portsT_le {C : Circ} (h : Wr C) : (portsT C).length ≤ 1344 := by
  have ht := h.top
  have h1 := portT_le (l := C.outs) (fun n hn => by have := h.outs n hn; omega)
  have h2 := portT_le (l := C.bads) (fun n hn => by have := h.bads n hn; omega)
  have h3 := portT_le (l := C.cons) (fun n hn => by have := h.cons n hn; omega)
  have g1 := h.small.outs
  have g2 := h.small.bads
  have g3 := h.small.cons
  unfold portsT
  rw [List.length_append, List.length_append]
  omega
theorem asciiT_le {C : Circ} (h : Wr C) : (asciiT C).length ≤ 80000 := by
  have ht := h.top
  have h0 := hdrT_le h [97, 97, 103]
  have h1 := portT_le (l := C.ins) (fun n hn => by have := h.ins n hn; omega)
  have h2 : (latsT C).length ≤ C.lats.length * 19 := flat_le _ 19 _ (fun x hx => by
    have q := h.lats x hx
    have hl : (latN x).length ≤ 3 := by unfold latN laterN; split <;> simp
    have := rowT_le (l := latN x) (fun n hn => by
      unfold latN laterN at hn
      split at hn <;> simp at hn
      · rcases hn with e | e <;> (rw [e]; omega)
      · rcases hn with e | e | e <;> (rw [e]; omega))
    omega)
  have h3 := portsT_le h
  have h4 : (andsT C).length ≤ C.ands.length * 19 := flat_le _ 19 _ (fun x hx => by
    have q := h.ands x hx
    have := rowT_le (l := andN x) (fun n hn => by
      unfold andN at hn
      simp at hn
      rcases hn with e | e | e <;> (rw [e]; omega))
    have hl : (andN x).length = 3 := rfl
    omega)
  have h5 := namesT_le h
  have g1 := h.small.ins
  have g2 := h.small.lats
  have g3 := h.small.ands
  have g4 := h.small.names
  unfold asciiT
  simp only [List.length_append]
  simp only [List.length_cons, List.length_nil] at h0
  omega
end Go.Proofs.YtimpddokepbabaaGreatDoor

namespace Go.Proofs.YtimpddokepbabaaGreatDoor
open Go.RowKit

/-- The text of a number. -/
def decS (n : Nat) : ByteArray := ⟨(decF 18 n).toArray⟩

theorem cut_at (k : Nat) (h : k < 10) : (⟨#[48, 49, 50, 51, 52, 53, 54, 55, 56, 57]⟩ : ByteArray).extract k (k + 1) = ⟨#[dg k]⟩ := by
  have : k = 0 ∨ k = 1 ∨ k = 2 ∨ k = 3 ∨ k = 4 ∨ k = 5 ∨ k = 6 ∨ k = 7 ∨ k = 8 ∨ k = 9 := by omega
  rcases this with rfl | rfl | rfl | rfl | rfl | rfl | rfl | rfl | rfl | rfl <;> decide

theorem cut_dg (n : Int) (h : 0 ≤ n) : (⟨#[48, 49, 50, 51, 52, 53, 54, 55, 56, 57]⟩ : ByteArray).extract (n % 10).toNat (n % 10 + 1).toNat = ⟨#[dg (n.toNat % 10)]⟩ := by
  have e1 : (n % 10).toNat = n.toNat % 10 := by omega
  have e2 : (n % 10 + 1).toNat = n.toNat % 10 + 1 := by omega
  rw [e1, e2]
  exact cut_at _ (by omega)

theorem app_dg (l : List UInt8) (c : UInt8) : (⟨l.toArray⟩ : ByteArray) ++ (⟨#[c]⟩ : ByteArray) = ⟨(l ++ [c]).toArray⟩ := by
  apply ByteArray.ext
  simp

theorem ret_str {a b : ByteArray} (h : a = b) : Ending.returned (.string a) = .returned (.string b) := by rw [h]

set_option maxHeartbeats 400000 in
theorem dec_any (f : Nat) (hf : f ≤ 18) : ∀ (n : Int) (w : World), 0 ≤ n → n ≤ 9223372036854775807 → n.toNat < 10 ^ (f + 1) →
    Calls Tryz.prog 26 #[.int .i64 n] w fun e w' => e = .returned (.string ⟨(decF f n.toNat).toArray⟩) ∧ w' = w := by
  induction f with
  | zero =>
    intro n w h0 h1 h2
    have h9 : n ≤ 9 := by simp at h2; omega
    go_enter Tryz.func26, Tryz.ntmps26
    go_wp2_with fail
    go_ret
    exact ⟨ret_str ((cut_dg n h0).trans (by rw [decF])), rfl⟩
  | succ f ih =>
    intro n w h0 h1 h2
    by_cases h9 : n ≤ 9
    · go_enter Tryz.func26, Tryz.ntmps26
      go_wp2_with fail
      go_ret
      exact ⟨ret_str ((cut_dg n h0).trans (by rw [decF, if_pos (by omega)])), rfl⟩
    · have h3 : (n / 10).toNat < 10 ^ (f + 1) := by
        rw [Nat.pow_succ] at h2
        omega
      have hl : (decF f (n / 10).toNat).length ≤ 19 := by have := (decF_len f (n / 10).toNat).2; omega
      have IH := hide (ih (by omega) (n / 10) w (by omega) (by omega) h3)
      clear ih
      go_enter Tryz.func26, Tryz.ntmps26
      go_wp2_with (go_at_call 26; refine IH.out.mono ?_; rintro e w' ⟨rfl, rfl⟩)
      go_ret
      exact ⟨ret_str (by rw [cut_dg n h0, app_dg, decF, if_neg (by omega), show (n / 10).toNat = n.toNat / 10 from by omega]), rfl⟩

theorem pow19 : (10 : Nat) ^ (18 + 1) = 10000000000000000000 := by decide

theorem decS_any (n : Int) (w : World) (h0 : 0 ≤ n) (h1 : n ≤ 9223372036854775807) :
    Calls Tryz.prog 26 #[.int .i64 n] w fun e w' => e = .returned (.string (decS n.toNat)) ∧ w' = w :=
  dec_any 18 (by decide) n w h0 h1 (by rw [pow19]; omega)

theorem decS_size (n : Nat) : (decS n).size ≤ 19 := by
  have := (decF_len 18 n).2
  show (decF 18 n).toArray.size ≤ 19
  simpa using this

theorem decS_list (n : Nat) : (decS n).data.toList = decF 18 n := rfl

theorem back_ok (n : Int) (w : World) (h0 : 0 ≤ n) (h1 : n ≤ 9223372036854775807) (hE : Env w) :
    Calls Tryz.prog 85 #[.string (decS n.toNat), .int .i64 n] w fun e w' => e = .returned (.tuple #[.int .i64 n, .int .i64 0]) ∧ Below w.heap.size w w' := by
  have h := number_any (decS n.toNat) n w (by have := decS_size n.toNat; omega) h1 hE
  have hp : n.toNat < 10 ^ (18 + 1) := by rw [pow19]; omega
  have hv := decF_val 18 n.toNat hp
  rw [decS_list, numV_ok (decF_isDec 18 _ hp) (by rw [hv]; omega), numE_ok (decF_isDec 18 _ hp) (by rw [hv]; omega), hv, Int.toNat_of_nonneg h0] at h
  exact h

theorem back_big (n : Int) (w : World) (h0 : 0 ≤ n) (h1 : n ≤ 9223372036854775807) (hE : Env w) :
    Calls Tryz.prog 85 #[.string (decS n.toNat), .int .i64 (n - 1)] w fun e w' => e = .returned (.tuple #[.int .i64 0, .int .i64 3]) ∧ Below w.heap.size w w' := by
  have h := number_any (decS n.toNat) (n - 1) w (by have := decS_size n.toNat; omega) (by omega) hE
  have hp : n.toNat < 10 ^ (18 + 1) := by rw [pow19]; omega
  have hv := decF_val 18 n.toNat hp
  rw [decS_list, numV_big (by rw [hv]; omega), numE_big (decF_isDec 18 _ hp) (by rw [hv]; omega)] at h
  exact h

theorem back_zero (n : Int) (w : World) (h1 : n ≤ 9223372036854775807) (hE : Env w) :
    Calls Tryz.prog 85 #[.string (⟨#[48]⟩ ++ decS n.toNat), .int .i64 n] w fun e w' => e = .returned (.tuple #[.int .i64 0, .int .i64 2]) ∧ Below w.heap.size w w' := by
  have e1 : ((⟨#[48]⟩ : ByteArray) ++ decS n.toNat).data.toList = 48 :: decF 18 n.toNat := by
    rw [ByteArray.data_append, Array.toList_append, decS_list]; rfl
  have hsz : ((⟨#[48]⟩ : ByteArray) ++ decS n.toNat).size ≤ 20 := by
    have := decS_size n.toNat
    rw [ByteArray.size_append]
    have e : (⟨#[48]⟩ : ByteArray).size = 1 := rfl
    omega
  have h := number_any (⟨#[48]⟩ ++ decS n.toNat) n w (by omega) h1 hE
  rw [e1, numV_no (zero_isDec 18 _), numE_no (zero_isDec 18 _)] at h
  exact h

end Go.Proofs.YtimpddokepbabaaGreatDoor

namespace Go.Proofs.YtimpddokepbabaaGreatDoor
open Go.RowKit

/-- 'append(s, x...)' as a step of a region that draws: s the call's own, x whatever slice whose cells are known. -/
theorem step_append_rowC {P : Program} (w : World) {ops : Array Oper} {o : Oper} {a : Act} {K : Act → World → Prop} {Q : Exit → Act → World → Prop} {E : Prop} (hgd : o.guard = none) (s x : Operand) (t : TypeId)
    (ho : o.op = .call { callee := .builtin .append, args := #[s, x], argTypes := #[t, t] })
    (base : Nat) (e : TypeId) (i : TypeInfo) (z : Value) (size bytes : Nat) (ht : P.underlying t = some (.slice e)) (hi : P.info? e = some i) (hz : i.zero = some z)
    (hsize : i.size = size) (hby : i.bytes = bytes) (hzs : z.cells.size = size) (hsz : 0 < size)
    (v : Value) (n : Nat) (xs : List Value) (hs : a.eval s = v) (hown : w.ownsRow base e size v n xs)
    (ao : Option Addr) (m c : Nat) (news : List Value) (hx : a.eval x = .slice ao m c) (hl : news.length = m * size) (hr : RowC w ao news) (hnc : ao = none → c = 0) (h1 : ∀ u ∈ news, u.oneCell' = true)
    (h63 : n + m ≤ maxLen) (hbytes : (n + m) * bytes ≤ 140737488355328) (hbase : base ≤ w.heap.size)
    (h : ∀ v' w', w'.ownsRow base e size v' (n + m) (xs ++ news) → w.grownBy w' v.ownBlock → K (a.put o.dst v') w') :
    if Region.wanted o (yielded ops a.tmps) = true then Oper.wp P o a w K Q else E := by
  have hw : Region.wanted o (yielded ops a.tmps) = true := by simp [Region.wanted, hgd]
  rw [if_pos hw]
  rcases hr with ⟨rfl, rfl⟩ | ⟨ad, rfl, hcell⟩
  · have hm : m = 0 := by
      rcases Nat.mul_eq_zero.1 (show m * size = 0 from by simpa using hl.symm) with h | h
      · exact h
      · omega
    subst hm
    obtain rfl := hnc rfl
    have hrun := run_append_owned_none (P := P) (w := w) base t o.type e i size ht hi v n xs hown
    unfold Oper.wp
    simp [execOp, ho, resolve, invoke, builtin, hs, hx, hrun, Result.andThen]
    exact h v w (by simpa using hown) (World.grownBy.refl _ _)
  · exact wp_append_own w s x t ho base e i z size bytes ht hi hz hsize hby hzs hsz v n xs hs hown ad m c news hx hl hcell h1 h63 hbytes hbase (fun v' w' h1 h2 _ => h v' w' h1 h2)

/-- The same, the operation written out: so that it is not tried at another one. -/
theorem step_append_wr {P : Program} {w : World} {ops : Array Oper} {d : Option Tmp} {ty : TypeId} {pos : String} {af : Array Edge} {a : Act} {K : Act → World → Prop} {Q : Exit → Act → World → Prop} {E : Prop} (s x : Operand) (t : TypeId)
    (base : Nat) (e : TypeId) (i : TypeInfo) (z : Value) (size bytes : Nat) (ht : P.underlying t = some (.slice e)) (hi : P.info? e = some i) (hz : i.zero = some z)
    (hsize : i.size = size) (hby : i.bytes = bytes) (hzs : z.cells.size = size) (hsz : 0 < size)
    (v : Value) (n : Nat) (xs : List Value) (ao : Option Addr) (m c : Nat) (news : List Value) (hl : news.length = m * size) (hnc : ao = none → c = 0) (h1 : ∀ u ∈ news, u.oneCell' = true)
    (h63 : n + m ≤ maxLen) (hbytes : (n + m) * bytes ≤ 140737488355328)
    (hs : a.eval s = v) (hx : a.eval x = .slice ao m c) (hown : w.ownsRow base e size v n xs) (hr : RowC w ao news) (hbase : base ≤ w.heap.size)
    (h : ∀ v' w', w'.ownsRow base e size v' (n + m) (xs ++ news) → w.grownBy w' v.ownBlock → K (a.put d v') w') :
    if Region.wanted { dst := d, op := .call { callee := .builtin .append, args := #[s, x], argTypes := #[t, t] }, type := ty, pos := pos, after := af, guard := none } (yielded ops a.tmps) = true then Oper.wp P { dst := d, op := .call { callee := .builtin .append, args := #[s, x], argTypes := #[t, t] }, type := ty, pos := pos, after := af, guard := none } a w K Q else E :=
  step_append_rowC w rfl s x t rfl base e i z size bytes ht hi hz hsize hby hzs hsz v n xs hs hown ao m c news hx hl hr hnc h1 h63 hbytes hbase h

/-- A row of other elements does not lie in a circuit's box, nor where a row of yet others lies. -/
theorem own_ne_box {w : World} {B b size n : Nat} {e : TypeId} {v : Value} {xs : List Value} {d : CV} (h : w.ownsRow B e size v n xs) (hb : Box w b d) (he : e ≠ 29) : v.ownBlock ≠ some b := by
  rcases h.2 with ⟨rfl, _⟩ | ⟨g, cap, cur, rfl, -, hg, -⟩
  · simp [Value.ownBlock]
  · intro e2
    have e3 : g = b := Option.some.inj e2
    subst e3
    unfold Box at hb
    rw [hg] at hb
    have e4 := Option.some.inj hb
    injection e4 with _ e5
    exact he e5
theorem own_ne_own {w : World} {B B' size size' n n' : Nat} {e e' : TypeId} {v v' : Value} {xs xs' : List Value} (h : w.ownsRow B e size v n xs) (h' : w.ownsRow B' e' size' v' n' xs') (he : e ≠ e') : v.ownBlock = none ∨ v.ownBlock ≠ v'.ownBlock := by
  rcases h.2 with ⟨rfl, _⟩ | ⟨g, cap, cur, rfl, -, hg, -⟩
  · left; rfl
  · right
    rcases h'.2 with ⟨rfl, _⟩ | ⟨g', cap', cur', rfl, -, hg', -⟩
    · simp [Value.ownBlock]
    · intro e2
      have e3 : g = g' := Option.some.inj e2
      subst e3
      rw [hg'] at hg
      have e4 := Option.some.inj hg
      injection e4 with _ e5
      exact he e5.symm
theorem own_block {w w' : World} {B size n : Nat} {e : TypeId} {v : Value} {xs : List Value} (h : w.ownsRow B e size v n xs) (hb : ∀ g, v.ownBlock = some g → w'.heap[g]? = w.heap[g]?) : w'.ownsRow B e size v n xs := by
  obtain ⟨h1, h2⟩ := h
  refine ⟨h1, ?_⟩
  rcases h2 with h2 | ⟨g, cap, cur, rfl, hg, hh, r⟩
  · exact .inl h2
  · exact .inr ⟨g, cap, cur, rfl, hg, (hb g rfl).trans hh, r⟩
theorem own_grown {w w' : World} {B B' size size' n n' : Nat} {e e' : TypeId} {v v' : Value} {xs xs' : List Value} (h : w.ownsRow B e size v n xs) (h' : w.ownsRow B' e' size' v' n' xs') (he : e ≠ e') (hg : w.grownBy w' v'.ownBlock) : w'.ownsRow B e size v n xs := by
  refine own_block h (fun g hv => hg.block g (h.lt g hv).2 (fun e2 => ?_))
  rcases own_ne_own h h' he with h0 | h0
  · rw [h0] at hv; cases hv
  · exact h0 (hv.trans e2)
theorem own_put {w : World} {B b size n : Nat} {e : TypeId} {v : Value} {xs : List Value} {d d' : CV} (h : w.ownsRow B e size v n xs) (hb : Box w b d) (he : e ≠ 29) : (putBox w b d').ownsRow B e size v n xs := by
  have hne := own_ne_box h hb he
  exact own_block h (fun g hv => (two_put w b d').block g (h.lt g hv).2 (fun e2 => hne (e2 ▸ hv)) (fun e2 => hne (e2 ▸ hv)))
theorem own_cellQ {w : World} {B b j size n : Nat} {e : TypeId} {v u : Value} {xs : List Value} {d : CV} (h : w.ownsRow B e size v n xs) (hb : Box w b d) (he : e ≠ 29) : (w.setCell ⟨b, j, none⟩ u).ownsRow B e size v n xs := by
  have hne := own_ne_box h hb he
  exact own_block h (fun g hv => heap_setCell_other w ⟨b, j, none⟩ g u (fun e2 => hne (by rw [hv]; exact congrArg some e2)))

theorem rowC_three {w W : World} {u0 u1 u2 : Value} {t : TypeId} {b : Nat} (hW : W = w.alloc (.cells #[u0, u1, u2] t)) (hb : b = w.heap.size) : RowC W (some ⟨b, 0, none⟩) [u0, u1, u2] := by
  subst hW
  subst hb
  refine .inr ⟨_, rfl, fun j u hu => ?_⟩
  rw [add_plain, Nat.zero_add, cell_of_row _ _ j #[u0, u1, u2] t (0, 0) (heap_alloc_new w _)]
  simpa using hu
/-- Three cells of a block, carried on. -/
theorem three_belowQ {w W : World} {q : Nat} {u0 u1 u2 : Value} (h : w.cell? ⟨q, 0, none⟩ = some u0 ∧ w.cell? ⟨q, 1, none⟩ = some u1 ∧ w.cell? ⟨q, 2, none⟩ = some u2) (hb : Below w.heap.size w W) : W.cell? ⟨q, 0, none⟩ = some u0 ∧ W.cell? ⟨q, 1, none⟩ = some u1 ∧ W.cell? ⟨q, 2, none⟩ = some u2 :=
  ⟨(hb.cell (block_lt_of_cell h.1)).trans h.1, (hb.cell (block_lt_of_cell h.2.1)).trans h.2.1, (hb.cell (block_lt_of_cell h.2.2)).trans h.2.2⟩
theorem three_grown {w W : World} {q : Nat} {u0 u1 u2 : Value} {row : Option Nat} (h : w.cell? ⟨q, 0, none⟩ = some u0 ∧ w.cell? ⟨q, 1, none⟩ = some u1 ∧ w.cell? ⟨q, 2, none⟩ = some u2) (hg : w.grownBy W row) (hne : some q ≠ row) : W.cell? ⟨q, 0, none⟩ = some u0 ∧ W.cell? ⟨q, 1, none⟩ = some u1 ∧ W.cell? ⟨q, 2, none⟩ = some u2 :=
  ⟨hg.cell h.1 hne, hg.cell h.2.1 hne, hg.cell h.2.2 hne⟩
theorem three_set {w : World} {q b j : Nat} {u0 u1 u2 v : Value} (h : w.cell? ⟨q, 0, none⟩ = some u0 ∧ w.cell? ⟨q, 1, none⟩ = some u1 ∧ w.cell? ⟨q, 2, none⟩ = some u2) (hne : b ≠ q) : (w.setCell ⟨b, j, none⟩ v).cell? ⟨q, 0, none⟩ = some u0 ∧ (w.setCell ⟨b, j, none⟩ v).cell? ⟨q, 1, none⟩ = some u1 ∧ (w.setCell ⟨b, j, none⟩ v).cell? ⟨q, 2, none⟩ = some u2 := by
  have e : ∀ i, (w.setCell ⟨b, j, none⟩ v).cell? ⟨q, i, none⟩ = w.cell? ⟨q, i, none⟩ := fun i => cell_set_other (fun e => by have := congrArg Addr.block e; simp at this; omega)
  rw [e, e, e]; exact h
theorem three_new (w : World) (u0 u1 u2 : Value) (t : TypeId) : (w.alloc (.cells #[u0, u1, u2] t)).drew.cell? ⟨w.heap.size, 0, none⟩ = some u0 ∧ (w.alloc (.cells #[u0, u1, u2] t)).drew.cell? ⟨w.heap.size, 1, none⟩ = some u1 ∧ (w.alloc (.cells #[u0, u1, u2] t)).drew.cell? ⟨w.heap.size, 2, none⟩ = some u2 :=
  ⟨cell_of_row _ _ 0 _ _ (0, 0) (heap_alloc_new w _), cell_of_row _ _ 1 _ _ (0, 0) (heap_alloc_new w _), cell_of_row _ _ 2 _ _ (0, 0) (heap_alloc_new w _)⟩
end Go.Proofs.YtimpddokepbabaaGreatDoor
