/-
  WHAT IS REACHED, IN MEMORY: a row of variables (there, found, the literals on which each hangs) beside a pile.
  THE WALKS of find and findAll.
-/
import Derived.Test.YtppaifckiaaffaaAigNewQW
import Derived.Test.YtppaifckiaaffaaConeP
namespace Go.Proofs.Ytppaifckiaaffaa
open Go.RowKit

/-- The reach at r: its pile lies at pq, its variables at gv; fd tells which were found, xs which of these were not followed. -/
structure RM (w0 B r pq gv n : Nat) (th : Nat → Bool) (ov : Nat → Value) (on : Nat → List Int) (fd : List Bool) (rv : Value) (xs : List Int) (w : World) : Prop where
  pile : PileR B pq rv w xs
  heap : HeapP ltN xs
  c0 : w.cell? ⟨r, 0, none⟩ = some (.slice (some ⟨gv, 0, none⟩) n n)
  c1 : w.cell? ⟨r, 1, none⟩ = some (.pointer (some ⟨pq, 0, none⟩))
  ct : ∀ v, v < n → w.cell? ⟨gv, v * 3, none⟩ = some (.bool (th v))
  cf : ∀ v, v < n → w.cell? ⟨gv, v * 3 + 1, none⟩ = some (.bool (atP fd v))
  co : ∀ v, v < n → w.cell? ⟨gv, v * 3 + 2, none⟩ = some (ov v)
  fz : ∀ o, w.frozen? ⟨gv, o, none⟩ = false
  rows : ∀ v, v < n → ∃ a k, ov v = .slice a (on v).length k ∧ RowK .i64 w a (on v) ∧ ∀ x, a = some x → x.block < B ∧ x.block ≠ gv ∧ x.block ≠ pq
  len : fd.length = n
  lt : r < B ∧ pq < B ∧ gv < B ∧ r ≠ pq ∧ r ≠ gv ∧ pq ≠ gv ∧ w0 ≤ r ∧ w0 ≤ pq ∧ w0 ≤ gv

section
variable {w0 B r pq gv n : Nat} {th : Nat → Bool} {ov : Nat → Value} {on : Nat → List Int} {fd : List Bool} {rv : Value} {xs : List Int} {w : World}

theorem RM.bs (h : RM w0 B r pq gv n th ov on fd rv xs w) : B ≤ w.heap.size := h.pile.2.1
theorem RM.rvB (h : RM w0 B r pq gv n th ov on fd rv xs w) : ∀ b, rv.ownBlock = some b → B ≤ b := fun b hb => (h.pile.1.own.lt b hb).1

/-- Other blocks may be turned. -/
theorem RM.other {S : Nat → Prop} {w' : World} (h : RM w0 B r pq gv n th ov on fd rv xs w) (hk : Kept S w w') (hS : ∀ b, b < B → ¬ S b) (hv : ∀ b, rv.ownBlock = some b → ¬ S b) : RM w0 B r pq gv n th ov on fd rv xs w' := by
  obtain ⟨l1, l2, l3, -⟩ := h.lt
  have hb := h.bs
  have e1 : ∀ o, w'.cell? ⟨r, o, none⟩ = w.cell? ⟨r, o, none⟩ := fun o => World.cell?_of_block (hk.block r (by omega) (hS r l1))
  have e2 : ∀ o, w'.cell? ⟨gv, o, none⟩ = w.cell? ⟨gv, o, none⟩ := fun o => World.cell?_of_block (hk.block gv (by omega) (hS gv l3))
  refine ⟨⟨h.pile.1.kept hk (hS pq l2) hv, Nat.le_trans h.pile.2.1 hk.size, h.pile.2.2⟩, h.heap, (e1 0).trans h.c0, (e1 1).trans h.c1, fun v hv => (e2 _).trans (h.ct v hv), fun v hv => (e2 _).trans (h.cf v hv), fun v hv => (e2 _).trans (h.co v hv), fun o => (World.frozen?_of_block (hk.block gv (by omega) (hS gv l3))).trans (h.fz o), fun v hv => ?_, h.len, h.lt⟩
  obtain ⟨a, k, e, hr, hx⟩ := h.rows v hv
  exact ⟨a, k, e, row_kept hr (fun x hx2 => hk.block _ (by have := (hx x hx2).1; omega) (hS _ (hx x hx2).1)), hx⟩
theorem RM.below {w' : World} (h : RM w0 B r pq gv n th ov on fd rv xs w) (hk : Below w.heap.size w w') : RM w0 B r pq gv n th ov on fd rv xs w' := h.other (S := fun _ => False) (Kept.of_below hk) (fun _ _ h => h) (fun _ _ h => h)

/-- One is found. -/
theorem RM.mark (h : RM w0 B r pq gv n th ov on fd rv xs w) (v : Nat) (hv : v < n) : RM w0 B r pq gv n th ov on (fd.set v true) rv xs (w.setCell ⟨gv, v * 3 + 1, none⟩ (.bool true)) ∧ Kept (fun b => b = gv) w (w.setCell ⟨gv, v * 3 + 1, none⟩ (.bool true)) := by
  have hk : Kept (fun b => b = gv) w (w.setCell ⟨gv, v * 3 + 1, none⟩ (.bool true)) := (Kept.refl (fun b => b = gv) w).set gv _ _ rfl
  obtain ⟨l1, l2, l3, l4, l5, l6, -⟩ := h.lt
  have hb := h.bs
  have e1 : ∀ o, (w.setCell ⟨gv, v * 3 + 1, none⟩ (.bool true)).cell? ⟨r, o, none⟩ = w.cell? ⟨r, o, none⟩ := fun o => World.cell?_of_block (hk.block r (by omega) l5)
  have e2 : ∀ o, o ≠ v * 3 + 1 → (w.setCell ⟨gv, v * 3 + 1, none⟩ (.bool true)).cell? ⟨gv, o, none⟩ = w.cell? ⟨gv, o, none⟩ := fun o ho => cell_set_other (fun e => by cases e; exact ho rfl)
  refine ⟨⟨⟨h.pile.1.kept hk l6 (fun b hb2 e => by have := h.rvB b hb2; omega), by simpa using h.pile.2.1, h.pile.2.2⟩, h.heap, (e1 0).trans h.c0, (e1 1).trans h.c1, fun u hu => (e2 _ (by omega)).trans (h.ct u hu), fun u hu => ?_, fun u hu => (e2 _ (by omega)).trans (h.co u hu), fun o => by simpa using h.fz o, fun u hu => ?_, by simpa using h.len, h.lt⟩, hk⟩
  · by_cases e : u = v
    · subst e
      rw [atP_set_same _ _ _ (by rw [h.len]; exact hu)]
      exact cell_set_same (h.cf u hu)
    · rw [atP_set_other _ _ _ _ (fun e2 => e e2.symm)]
      exact (e2 _ (by omega)).trans (h.cf u hu)
  · obtain ⟨a, k, e, hr, hx⟩ := h.rows u hu
    exact ⟨a, k, e, row_kept hr (fun x hx2 => hk.block _ (by have := (hx x hx2).1; omega) (hx x hx2).2.1), hx⟩

/-- What a heap's push or pop leaves of the reach. -/
theorem RM.moved {rv1 : Value} {ys : List Int} {w' : World} (h : RM w0 B r pq gv n th ov on fd rv xs w) (hm : HMoved B pq rv rv1 ys w w') : RM w0 B r pq gv n th ov on fd rv1 ys w' := by
  obtain ⟨l1, l2, l3, l4, l5, l6, -⟩ := h.lt
  have hb := h.bs
  have hne : ∀ b, b < B → b ≠ pq → ¬ (b = pq ∨ rv.ownBlock = some b) := fun b hb hbq e => by
    rcases e with e | e
    · exact hbq e
    · have := h.rvB b e; omega
  have e1 : ∀ o, w'.cell? ⟨r, o, none⟩ = w.cell? ⟨r, o, none⟩ := fun o => World.cell?_of_block (hm.kept.block r (by omega) (hne r l1 l4))
  have e2 : ∀ o, w'.cell? ⟨gv, o, none⟩ = w.cell? ⟨gv, o, none⟩ := fun o => World.cell?_of_block (hm.kept.block gv (by omega) (hne gv l3 (Ne.symm l6)))
  refine ⟨hm.pile, hm.heap, (e1 0).trans h.c0, (e1 1).trans h.c1, fun v hv => (e2 _).trans (h.ct v hv), fun v hv => (e2 _).trans (h.cf v hv), fun v hv => (e2 _).trans (h.co v hv), fun o => (World.frozen?_of_block (hm.kept.block gv (by omega) (hne gv l3 (Ne.symm l6)))).trans (h.fz o), fun v hv => ?_, h.len, h.lt⟩
  obtain ⟨a, k, e, hr, hx⟩ := h.rows v hv
  exact ⟨a, k, e, row_kept hr (fun x hx2 => hm.kept.block _ (by have := (hx x hx2).1; omega) (hne _ (hx x hx2).1 (hx x hx2).2.2)), hx⟩

/-- A slice of literals that stays as it is while things are found. -/
def Apart (B pq gv : Nat) (L : List Int) (a : Option Addr) : Prop := L = [] ∨ ∀ x, a = some x → x.block < B ∧ x.block ≠ gv ∧ x.block ≠ pq
theorem apart_of {a : Option Addr} {L : List Int} {w : World} (hr : RowK .i64 w a L) (h1 : w.heap.size ≤ B) (h2 : w.heap.size ≤ pq) (h3 : w.heap.size ≤ gv) : Apart B pq gv L a := by
  cases L with
  | nil => exact .inl rfl
  | cons l L =>
    obtain ⟨b, off, rfl, hb, -⟩ := hr.addr (by simp)
    refine .inr (fun x hx => ?_)
    cases hx
    show b < B ∧ b ≠ gv ∧ b ≠ pq
    omega
theorem row_nil {k : IntKind} {w w' : World} {a : Option Addr} (h : RowK k w a []) : RowK k w' a [] := by
  rcases h with ⟨rfl, -⟩ | ⟨x, rfl, -⟩
  · exact .inl ⟨rfl, rfl⟩
  · exact .inr ⟨x, rfl, fun i hi => absurd hi (Nat.not_lt_zero _)⟩
theorem Apart.row {a : Option Addr} {L : List Int} {w' : World} (ha : Apart B pq gv L a) (h : RM w0 B r pq gv n th ov on fd rv xs w) (hr : RowK .i64 w a L) (hk : Kept (fun b => b = gv ∨ b = pq ∨ rv.ownBlock = some b) w w') : RowK .i64 w' a L := by
  rcases ha with rfl | ha
  · exact row_nil hr
  refine row_kept hr (fun x hx => hk.block _ (by have := (ha x hx).1; have := h.bs; omega) (fun e => ?_))
  obtain ⟨a1, a2, a3⟩ := ha x hx
  rcases e with e | e | e
  · exact a2 e
  · exact a3 e
  · have := h.rvB _ e; omega

/-- What finding leaves of memory. -/
def FindPost (w0 B r pq gv n : Nat) (th : Nat → Bool) (ov : Nat → Value) (on : Nat → List Int) (fd : List Bool) (rv : Value) (xs L : List Int) (w : World) (e : Ending) (w' : World) : Prop :=
  e = .returned (.tuple #[]) ∧ ∃ rv1 fd1 ys, RM w0 B r pq gv n th ov on fd1 rv1 ys w' ∧ Marks n fd fd1 xs ys L ∧ Kept (fun b => b = gv ∨ b = pq ∨ rv.ownBlock = some b) w w' ∧ (rv1.ownBlock = rv.ownBlock ∨ ∃ b, rv1.ownBlock = some b ∧ w.heap.size ≤ b)

set_option maxRecDepth 100000 in
set_option maxHeartbeats 2000000 in
theorem find_any (h : RM w0 B r pq gv n th ov on fd rv xs w) (a : Option Addr) (m c : Nat) (L : List Int) (hr : RowK .i64 w a L) (hl : L.length = m) (ha : Apart B pq gv L a) (hL : ∀ l ∈ L, 0 ≤ l ∧ varN l < n) (hn : n ≤ 10000) (hm : m ≤ 1000000) (hc : xs.length + fd.count false ≤ 100000) :
    Calls Try.prog 91 #[.pointer (some ⟨r, 0, none⟩), .slice a m c] w (FindPost w0 B r pq gv n th ov on fd rv xs L w) := by
  have HR := hide h
  have HRow := hide (And.intro hr ha)
  have HLl := hide hl
  have HL := hide hL
  have HC := hide hc
  generalize hP : FindPost w0 B r pq gv n th ov on fd rv xs L w = Post
  have HP := hide hP
  clear h hr hl ha hL hP hc
  go_enter Try.func91, Try.ntmps91
  go_wp2
  go_loopw [5, 6, 9] (fun _ _ i wr => ∃ (k : Nat) (rvk : Value) (fdk : List Bool) (ys : List Int), i = .int .i64 k ∧ k ≤ m ∧ Hid (RM w0 B r pq gv n th ov on fdk rvk ys wr ∧ Marks n fd fdk xs ys (L.take k) ∧ Kept (fun b => b = gv ∨ b = pq ∨ rv.ownBlock = some b) w wr ∧ (rvk.ownBlock = rv.ownBlock ∨ ∃ b, rvk.ownBlock = some b ∧ w.heap.size ≤ b))) (fun _ _ i _ => m - (intOf i).toNat)
  case atStart => exact ⟨0, rv, fd, xs, rfl, Nat.zero_le _, HR.out, marks_nil _ _ _, Kept.refl _ _, .inl rfl⟩
  case round =>
    obtain ⟨k, rvk, fdk, ys, rfl, hk, HF⟩ := hrel
    by_cases hlt : k < m
    · obtain ⟨b, off, rfl, -, hcell⟩ := (HRow.out.2.row HR.out HRow.out.1 HF.out.2.2.1).addr (by rw [HLl.out]; omega)
      have hcl := hcell k (by rw [HLl.out]; exact hlt)
      rw [atP_getD] at hcl
      have hlL := HL.out _ (atP_mem L k (by rw [HLl.out]; exact hlt))
      have hst : L.take (k + 1) = L.take k ++ [atP L k] := take_snocP L k (by rw [HLl.out]; exact hlt)
      obtain ⟨l, HLx⟩ : ∃ l, Hid (l = atP L k) := ⟨_, rfl⟩
      rw [← HLx.out] at hcl hlL hst
      have hq := tdiv_two hlL.1
      have hvn := hlL.2
      obtain ⟨v, HV⟩ : ∃ v, Hid (v = varN l) := ⟨_, rfl⟩
      rw [← HV.out] at hq hvn
      have HSt := hide hst
      have hc0 := HF.out.1.c0
      clear hcell hst
      by_cases hv0 : v = 0
      · have hq0 : l.tdiv 2 = 0 := by omega
        clear hq
        go_wp2
        go_roundw
        case rel => exact ⟨k + 1, rvk, fdk, ys, by go_num, by omega, HF.out.1, by rw [HSt.out]; exact marks_skip HF.out.2.1 (.inl (by rw [← HV.out]; exact hv0)), HF.out.2.2⟩
        case measure => simp [intOf]; omega
      · have hvb : ((v : Int) == 0) = false := by rw [beq_eq_false_iff_ne]; omega
        have hv1 : ¬ (v : Int) = 0 := by omega
        have hcf := HF.out.1.cf v hvn
        cases hf : atP fdk v with
        | true =>
          rw [hf] at hcf
          have HFd := hide hf
          clear hf
          go_wp2
          go_roundw
          case rel => exact ⟨k + 1, rvk, fdk, ys, by go_num, by omega, HF.out.1, by rw [HSt.out]; exact marks_skip HF.out.2.1 (.inr (by rw [← HV.out]; exact HFd.out)), HF.out.2.2⟩
          case measure => simp [intOf]; omega
        | false =>
          rw [hf] at hcf
          have HFd := hide hf
          have hfz := HF.out.1.fz (v * 3 + 1)
          have hc1 := HF.out.1.c1
          have hlt2 := HF.out.1.lt
          have hrg : r ≠ gv := hlt2.2.2.2.2.1
          have HMk := hide (HF.out.1.mark v hvn)
          have HPush := hide (heapPush (v : Int) HMk.out.1.pile HMk.out.1.heap (by have := HF.out.2.1.cnt; have := HC.out; omega))
          clear hf hlt2
          go_wp2_with (first | (go_at_call 108; refine HPush.out.mono ?_; rintro e w5 ⟨rfl, rv5, zs5, hmv, hpm⟩))
          go_roundw
          case rel =>
            refine ⟨k + 1, rv5, fdk.set v true, zs5, by go_num, by omega, HMk.out.1.moved hmv, ?_, ?_, ?_⟩
            · rw [HSt.out, HV.out]
              exact marks_new HF.out.2.1 HR.out.len (by rw [← HV.out]; exact hv0) (by rw [← HV.out]; exact hvn) (by rw [← HV.out]; exact HFd.out) (by rw [← HV.out]; exact hpm)
            · refine (HF.out.2.2.1.trans HMk.out.2 (fun i _ hi => .inl hi)).trans hmv.kept (fun i hi ht => ?_)
              rcases ht with ht | ht
              · exact .inr (.inl ht)
              · rcases HF.out.2.2.2 with e | ⟨b', e, hb'⟩
                · rw [e] at ht; exact .inr (.inr ht)
                · rw [e] at ht; have := Option.some.inj ht; omega
            · have hs := HF.out.2.2.1.size
              have hs2 := HMk.out.2.size
              rcases hmv.at_ with e | ⟨b', e, hb'⟩
              · rw [e]; exact HF.out.2.2.2
              · exact .inr ⟨b', e, by omega⟩
          case measure => simp [intOf]; omega
    · obtain rfl : k = m := by omega
      have hfin : Hid (Post (.returned (.tuple #[])) wr) := by
        show Post _ wr
        rw [← HP.out]
        have hq := HF.out
        rw [List.take_of_length_le (by rw [HLl.out]; exact Nat.le_refl _)] at hq
        exact ⟨rfl, rvk, fdk, ys, hq.1, hq.2.1, hq.2.2.1, hq.2.2.2⟩
      go_wp2
      go_end0
      exact hfin.out

/-- Of each variable: the literals on which it hangs at once. -/
def OnOk (C : Circ) (n : Nat) (on : Nat → List Int) : Prop := ∀ v, v < n → ∀ l, l ∈ on v ↔ C.On v l

theorem below_drew (w : World) : Below w.heap.size w w.drew := ⟨rfl, rfl, rfl, Nat.le_refl _, fun _ _ => rfl⟩

def FindAllPost (C : Circ) (L : List Int) (w0 B r pq gv n : Nat) (th : Nat → Bool) (ov : Nat → Value) (on : Nat → List Int) (rv : Value) (w : World) (e : Ending) (w' : World) : Prop :=
  e = .returned (.tuple #[]) ∧ ∃ rv1 fd1, RM w0 B r pq gv n th ov on fd1 rv1 [] w' ∧ Full C L n fd1 ∧ Kept (fun b => b = gv ∨ b = pq ∨ rv.ownBlock = some b) w w' ∧ (rv1.ownBlock = rv.ownBlock ∨ ∃ b, rv1.ownBlock = some b ∧ w.heap.size ≤ b)

theorem count_le_len (l : List Bool) : l.count false ≤ l.length := List.count_le_length

set_option maxRecDepth 100000 in
set_option maxHeartbeats 2000000 in
theorem findAll_any {C : Circ} {L0 : List Int} (hLt : Lits C) (hnC : n = C.max.toNat + 1) (hS : C.max ≤ 5000) (hO : OnOk C n on) (hlo : ∀ v, v < n → (on v).length ≤ 2) (hF : Full C L0 n fd) (hL0 : ∀ l ∈ L0, varN l < n) (h : RM w0 B r pq gv n th ov on fd rv [] w) (a : Option Addr) (m c : Nat) (L : List Int) (hr : RowK .i64 w a L) (hl : L.length = m) (ha : Apart B pq gv L a) (hL : ∀ l ∈ L, 0 ≤ l ∧ varN l < n) (hm : m ≤ 1000000) :
    Calls Try.prog 58 #[.pointer (some ⟨r, 0, none⟩), .slice a m c] w (FindAllPost C (L0 ++ L) w0 B r pq gv n th ov on rv w) := by
  have hn : n ≤ 10000 := by have := hLt.max; omega
  have hOn : ∀ v l, C.On v l → varN l < n := fun v l hv => by rw [hnC]; exact on_lt hLt hv
  have hfl := count_le_len fd
  have hfn := hF.1
  have hcnt : ([] : List Int).length + fd.count false ≤ n := by simp; omega
  have hLL : ∀ l ∈ L0 ++ L, varN l < n := fun l hl => by
    rcases List.mem_append.1 hl with h | h
    · exact hL0 l h
    · exact (hL l h).2
  have HFi := hide (find_any h a m c L hr hl ha hL hn hm (by omega))
  have HSt := hide (fun fd' xs' (hmk : Marks n fd fd' [] xs' L) => find_start hF hmk (fun l hl => (hL l hl).2) hL0 hOn)
  have HK := hide (And.intro hLL hOn)
  have HU := hide (And.intro hO hlo)
  have HLt := hide hLt
  have HCn := hide (And.intro hcnt hnC)
  have HB := hide h.bs
  generalize hP : FindAllPost C (L0 ++ L) w0 B r pq gv n th ov on rv w = Post
  have HP := hide hP
  clear hF hL0 h hr hl ha hL hOn hLL hO hlo hP hLt hcnt hfl hfn hnC
  go_enter Try.func58, Try.ntmps58
  go_wp2_with fail
  refine HFi.out.mono ?_
  rintro e w1 ⟨rfl, rv1, fd1, xs1, hrm, hmk, hkp, hat⟩
  have HR1 := hide hrm
  have HF1 := hide (HSt.out fd1 xs1 hmk)
  have HK1 := hide (And.intro hkp hat)
  have hc1 : xs1.length + fd1.count false ≤ n := by have := hmk.cnt; have := HCn.out.1; omega
  clear hrm hmk hkp hat HFi HSt
  go_wp2
  go_loopg [] (xs1.length + fd1.count false) (fun kx wr => ∃ (rvx : Value) (fdx : List Bool) (xs : List Int), kx = xs.length + fdx.count false ∧ xs.length + fdx.count false ≤ n ∧ Hid (RM w0 B r pq gv n th ov on fdx rvx xs wr ∧ Find C (L0 ++ L) n fdx xs ∧ Kept (fun b => b = gv ∨ b = pq ∨ rv.ownBlock = some b) w wr ∧ (rvx.ownBlock = rv.ownBlock ∨ ∃ b, rvx.ownBlock = some b ∧ w.heap.size ≤ b)))
  case atStart => exact ⟨rv1, fd1, xs1, rfl, hc1, HR1.out, HF1.out, HK1.out.1, HK1.out.2⟩
  case round =>
    clear HR1 HF1 HK1 hc1
    obtain ⟨rvk, fdk, xs, hgk, hck, HT⟩ := hrel
    subst hgk
    have hc1 := HT.out.1.c1
    have hc0 := HT.out.1.c0
    have hcp := HT.out.1.pile.1.c0
    obtain ⟨ra, rc, hre⟩ := own_form HT.out.1.pile.1.own
    rw [hre] at hcp
    obtain ⟨X, HXl⟩ : ∃ X, Hid (X = xs.length) := ⟨_, rfl⟩
    rw [← HXl.out] at hcp
    have hX : X ≤ 10000 := by have := HXl.out; omega
    have hlen := fun W (hW : W.cell? ⟨pq, 0, none⟩ = some (.slice ra X rc)) => plLen pq ra X rc W hW
    clear hre
    cases X with
    | zero =>
      have hfin : Hid (Post (.returned (.tuple #[])) wr) := by
        show Post _ wr
        rw [← HP.out]
        have e0 : xs = [] := List.eq_nil_of_length_eq_zero HXl.out.symm
        have hm := HT.out
        rw [e0] at hm
        exact ⟨rfl, rvk, fdk, hm.1, find_end hm.2.1 HK.out.2 HK.out.1, hm.2.2.1, hm.2.2.2⟩
      go_wp2_with (first | (go_at_call 92; refine (hlen _ (by assumption)).mono ?_; rintro e w4 ⟨rfl, hw4⟩; obtain rfl := hw4.symm))
      go_end0
      exact hfin.out
    | succ p =>
      have hpop := fun W' (hb : Below wr.heap.size wr W') => heapPop (HT.out.1.below hb).pile HT.out.1.heap p HXl.out.symm
      obtain ⟨v, hxv, hvn, -⟩ := HT.out.2.1.mem _ (atP_mem xs 0 (by rw [← HXl.out]; omega))
      rw [hxv] at hpop
      obtain ⟨oa, ok, hov, hrow, hap⟩ := HT.out.1.rows v hvn
      obtain ⟨on1, HOn⟩ : ∃ on1, Hid (on1 = (on v).length) := ⟨_, rfl⟩
      rw [← HOn.out] at hov
      have hty := fun W => isI W (v : Int)
      have HPop := hide hpop
      have HRow := hide (And.intro hrow hap)
      have HV := hide (And.intro hxv hvn)
      have hgl : gv < B := HT.out.1.lt.2.2.1
      have hrl : r < B := HT.out.1.lt.1
      have HOv := hide hov
      have hFnd : Hid (∀ (W' : World), Below wr.heap.size wr W' → ∀ (rv1 : Value) (ys : List Int) (w5 : World), HMoved B pq rvk rv1 ys W' w5 → ((v : Int) :: ys).Perm xs → w5.cell? ⟨gv, v * 3 + 2, none⟩ = some (.slice oa on1 ok) ∧ w5.cell? ⟨r, 0, none⟩ = some (.slice (some ⟨gv, 0, none⟩) n n) ∧ Calls Try.prog 91 #[.pointer (some ⟨r, 0, none⟩), .slice oa on1 ok] w5 fun e w6 => e = .returned (.tuple #[]) ∧ ∃ (rvx : Value) (fdx : List Bool) (zs : List Int), zs.length + fdx.count false < xs.length + fdk.count false ∧ RM w0 B r pq gv n th ov on fdx rvx zs w6 ∧ Find C (L0 ++ L) n fdx zs ∧ Kept (fun b => b = gv ∨ b = pq ∨ rv.ownBlock = some b) w w6 ∧ (rvx.ownBlock = rv.ownBlock ∨ ∃ b, rvx.ownBlock = some b ∧ w.heap.size ≤ b)) := fun W' hbW rv1 ys w5 hmv hperm => by
        have hm5 := (HT.out.1.below hbW).moved hmv
        have hkW : Kept (fun b => b = gv ∨ b = pq ∨ rv.ownBlock = some b) w W' := HT.out.2.2.1.trans (Kept.of_below hbW) (fun _ _ h => h)
        have hpl := hperm.length_eq
        simp at hpl
        have hrow5 : RowK .i64 w5 oa (on v) := by
          obtain ⟨a', k', e', hr', -⟩ := hm5.rows v hvn
          rw [HOv.out] at e'
          cases e'
          exact hr'
        refine ⟨(hm5.co v hvn).trans (congrArg some HOv.out), hm5.c0, ?_⟩
        refine (find_any hm5 oa on1 ok (on v) hrow5 HOn.out.symm (.inr HRow.out.2) (fun l hl => ?_) hn (by have := HU.out.2 v hvn; have := HOn.out; omega) (by omega)).mono ?_
        · have ho := (HU.out.1 v hvn l).1 hl
          exact ⟨(lit_lt HLt.out (on_used ho)).1, HK.out.2 v l ho⟩
        · rintro e w6 ⟨rfl, rv6, fd6, zs6, hrm6, hmk6, hkp6, hat6⟩
          refine ⟨rfl, rv6, fd6, zs6, by have := hmk6.cnt; omega, hrm6, find_step HT.out.2.1 hperm hvn (fun l => HU.out.1 v hvn l) hmk6 HK.out.2 HK.out.1, ?_, ?_⟩
          · have hs5 := hmv.kept.size
            have hs := hkW.size
            have hrl0 : ∀ b, rvk.ownBlock = some b → b < w.heap.size → rv.ownBlock = some b := fun b hb hlt => by
              rcases HT.out.2.2.2 with e | ⟨b', e, hb'⟩
              · rw [← e]; exact hb
              · rw [e] at hb; have := Option.some.inj hb; omega
            refine (hkW.trans hmv.kept (fun i hi ht => ?_)).trans hkp6 (fun i hi ht => ?_)
            · rcases ht with ht | ht
              · exact .inr (.inl ht)
              · exact .inr (.inr (hrl0 i ht hi))
            · rcases ht with ht | ht | ht
              · exact .inl ht
              · exact .inr (.inl ht)
              · rcases hmv.at_ with e | ⟨b', e, hb'⟩
                · rw [e] at ht; exact .inr (.inr (hrl0 i ht hi))
                · rw [e] at ht; have := Option.some.inj ht; omega
          · have hs5 := hmv.kept.size
            have hs := hkW.size
            rcases hat6 with e | ⟨b', e, hb'⟩
            · rcases hmv.at_ with e2 | ⟨b', e2, hb'⟩
              · rw [e, e2]; exact HT.out.2.2.2
              · exact .inr ⟨b', by rw [e]; exact e2, by omega⟩
            · exact .inr ⟨b', e, by omega⟩
      clear hpop hxv hov hrow hap
      go_wp2_with (first | (go_at_call 92; refine (hlen _ (by assumption)).mono ?_; rintro e w4 ⟨rfl, hw4⟩; obtain rfl := hw4.symm))
      go_region_with (first | (go_at_call 93; refine (HPop.out wr.drew (below_drew wr)).mono ?_; rintro e w5 ⟨rfl, rv5, ys5, hmv, hperm, -⟩; obtain ⟨hco5, hc05, hfd5⟩ := hFnd.out wr.drew (below_drew wr) rv5 ys5 w5 hmv hperm; have HFd5 := hide hfd5; clear hmv hperm hfd5) | (go_at_call 91; refine HFd5.out.mono ?_; rintro e w6 ⟨rfl, rv6, fd6, zs6, hlt6, hh6⟩; have HH6 := hide hh6; clear hh6))
      all_goals (try go_wp2)
      all_goals (go_roundg (zs6.length + fd6.count false))
      all_goals (first | exact hlt6 | exact ⟨rv6, fd6, zs6, rfl, by omega, HH6.out⟩)
end
end Go.Proofs.Ytppaifckiaaffaa
