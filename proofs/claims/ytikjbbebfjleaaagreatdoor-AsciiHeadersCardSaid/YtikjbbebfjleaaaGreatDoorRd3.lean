/-
  THE READER, pure: what Read's walk asks of headers and names; as which error one is told.
  THE WALK of package lines' Read: which circuit any bytes are, or why none.
  THE WALK of ascii's Read.
-/
import Derived.Test.YtikjbbebfjleaaaGreatDoorRd2
import Derived.Test.YtikjbbebfjleaaaGreatDoorJ26
import Derived.Lib.SlBytesConst
namespace Go.Proofs.YtikjbbebfjleaaaGreatDoor
open Go.RowKit

set_option maxHeartbeats 400000 in
theorem told_any (e : Int) (w : World) :
    Calls Tryz.prog 80 #[.int .i64 e] w fun r w' => r = .returned (.int .i64 (toldI e)) ∧ w' = w := by
  unfold toldI
  by_cases h0 : e = 0
  · subst h0
    rw [if_pos (.inl rfl)]
    go_enter Tryz.func80, Tryz.ntmps80
    go_wp2
    go_ret
    exact ⟨rfl, rfl⟩
  by_cases h9 : e = 9
  · subst h9
    rw [if_pos (.inr (.inr (.inl rfl)))]
    go_enter Tryz.func80, Tryz.ntmps80
    go_wp2
    go_ret
    exact ⟨rfl, rfl⟩
  by_cases h10 : e = 10
  · subst h10
    rw [if_pos (.inr (.inr (.inr rfl)))]
    go_enter Tryz.func80, Tryz.ntmps80
    go_wp2
    go_ret
    exact ⟨rfl, rfl⟩
  by_cases h8 : e = 8
  · subst h8
    rw [if_pos (.inr (.inl rfl))]
    go_enter Tryz.func80, Tryz.ntmps80
    go_wp2
    go_ret
    exact ⟨rfl, rfl⟩
  rw [if_neg (by omega)]
  have e0 : (e == 0) = false := by rw [beq_eq_false_iff_ne]; exact h0
  have e9 : (e == 9) = false := by rw [beq_eq_false_iff_ne]; exact h9
  have e10 : (e == 10) = false := by rw [beq_eq_false_iff_ne]; exact h10
  have e8 : (e == 8) = false := by rw [beq_eq_false_iff_ne]; exact h8
  go_enter Tryz.func80, Tryz.ntmps80
  go_wp2
  go_ret
  exact ⟨rfl, rfl⟩

theorem numV_pos (l : List UInt8) (m : Int) : 0 ≤ numV l m := by
  by_cases hd : isDec l = true
  · by_cases hm : (val 0 l : Int) ≤ m
    · rw [numV_ok hd hm]; omega
    · rw [numV_big hm]; omega
  · rw [numV_no (by simpa using hd)]; omega
theorem nsL_pos (s : ByteArray) (a b top : Int) : ∀ x ∈ nsL s a b top, 0 ≤ x := by
  intro x hx
  unfold nsL at hx
  split at hx
  · obtain ⟨p, -, rfl⟩ := List.mem_map.1 hx
    exact numV_pos _ _
  · cases hx
theorem getD_pos {l : List Int} (h : ∀ x ∈ l, 0 ≤ x) (i : Nat) : 0 ≤ l.getD i 0 := by
  by_cases hi : i < l.length
  · exact h _ (getD_mem l i hi)
  · rw [List.getD_eq_getElem?_getD, List.getElem?_eq_none (by omega)]
    exact Int.le_refl 0
theorem hdr_fit {s : ByteArray} (h : hdrE s = 0) : HFit (hdrL s) := by
  have e : hdrL s = hdr9 s := by rw [hdrL, if_pos h]
  have hp : ∀ x ∈ hdr9 s, 0 ≤ x := fun x hx => by
    unfold hdr9 at hx
    rcases List.mem_append.1 hx with hx | hx
    · exact nsL_pos _ _ _ _ x hx
    · rw [(List.mem_replicate.1 hx).2]; exact Int.le_refl 0
  have hb : hdrLong (hdr9 s) = false := by
    unfold hdrE at h
    split at h
    · split at h
      · cases h
      · split at h
        · cases h
        · rename_i hn; simpa using hn
    · rename_i hn; exact absurd h hn
  unfold hdrLong at hb
  simp only [Bool.or_eq_false_iff, decide_eq_false_iff_not] at hb
  rw [e]
  exact ⟨hdr9_len s, getD_pos hp, by omega, by omega, by omega, by omega, by omega, by omega, by omega⟩

theorem symO_size {s : ByteArray} {y : Sym} (h : symO s = some y) : y.2.2.size ≤ s.size := by
  by_cases hz : s.size = 0
  · rw [symO_nil s hz] at h; cases h
  · rw [symO_at s (by omega)] at h
    split at h
    · cases h
      show (Lib.cut (tail1 s) [32]).2.1.toArray.size ≤ _
      have h1 := (cut_le (tail1 s) [32]).2
      have h2 : (tail1 s).length = s.data.toList.length - 1 := List.length_drop
      have h3 : s.data.toList.length = s.size := Array.length_toList
      rw [List.size_toArray]
      omega
    · cases h
theorem namesF_fit (xs : List Int) : ∀ (f k : Nat) (acc : List Sym), (∀ y ∈ acc, y.2.2.size ≤ xs.length) → (∀ y ∈ (namesF xs f k acc).1, y.2.2.size ≤ xs.length) ∧ (namesF xs f k acc).1.length ≤ acc.length + f := by
  intro f
  induction f with
  | zero => intro k acc h; exact ⟨h, Nat.le_refl _⟩
  | succ f ih =>
    intro k acc h
    have hno : ∀ y ∈ acc ++ [noSym], y.2.2.size ≤ xs.length := fun y hy => by
      rcases List.mem_append.1 hy with hy | hy
      · exact h y hy
      · rw [List.mem_singleton.1 hy]; exact Nat.zero_le _
    rw [namesF]
    split
    · cases e : lineO xs k with
      | none => exact ⟨hno, by rw [List.length_append]; simp⟩
      | some q =>
        obtain ⟨s, j⟩ := q
        dsimp only
        split
        · exact ⟨h, by simp⟩
        · cases hy : symO s with
          | none => exact ⟨hno, by rw [List.length_append]; simp⟩
          | some y =>
            have h1 := ih j (acc ++ [y]) (fun z hz => by
              rcases List.mem_append.1 hz with hz | hz
              · exact h z hz
              · rw [List.mem_singleton.1 hz]; exact Nat.le_trans (symO_size hy) (lineO_le e).2.2)
            refine ⟨h1.1, ?_⟩
            have := h1.2
            rw [List.length_append] at this
            simp at this
            dsimp only
            omega
    · exact ⟨h, by simp⟩
theorem namesS_fit (xs : List Int) (st : Option Nat) : (∀ y ∈ (namesS xs st).1, y.2.2.size ≤ xs.length) ∧ (namesS xs st).1.length ≤ xs.length + 1 := by
  cases st with
  | none => exact ⟨fun y hy => (by cases hy), Nat.zero_le _⟩
  | some k =>
    have := namesF_fit xs (xs.length + 1) k [] (fun y hy => by cases hy)
    refine ⟨this.1, ?_⟩
    show (namesF xs (xs.length + 1) k []).1.length ≤ _
    simpa using this.2
end Go.Proofs.YtikjbbebfjleaaaGreatDoor

namespace Go.Proofs.YtikjbbebfjleaaaGreatDoor
open Go.RowKit

/-- A header's reader, number f. -/
structure Heads (f : Nat) (hE : ByteArray → Int) (hL : ByteArray → List Int) : Prop where
  enter : ∀ args w, (callFunc f args).run Tryz.prog w = .ok (.enter f args) w
  call : ∀ (s : ByteArray) (w : World), s.size ≤ 100000 → Env w → EnvM w → Calls Tryz.prog f #[.string s] w fun e w' => ∃ v, e = .returned (.tuple #[v, .int .i64 (hE s)]) ∧ OwnI w.heap.size w' v (hL s) ∧ Below w.heap.size w w'
  fit : ∀ s, hE s = 0 → HFit (hL s)

/-- Bytes that came in. -/
structure Txt (w : World) (a : Option Addr) (n c : Nat) (xs : List Int) : Prop where
  row : Row8 w a xs
  len : xs.length = n
  zero : a = none → c = 0
  cap : n ≤ c
  capm : c ≤ 9223372036854775807
  bytes : Bytes8 xs
  small : n ≤ 100000
  env : Env w
  envM : EnvM w
theorem Txt.below {w w' : World} {a : Option Addr} {n c : Nat} {xs : List Int} (h : Txt w a n c xs) (hb : Below w.heap.size w w') : Txt w' a n c xs :=
  ⟨h.row.below hb, h.len, h.zero, h.cap, h.capm, h.bytes, h.small, h.env.below hb, h.envM.below hb⟩
/-- A new reader of them. -/
theorem Txt.rd {w : World} {a : Option Addr} {n c : Nat} {xs : List Int} (h : Txt w a n c xs) : Rd w.heap.size a n c xs 0 (some 0) (w.alloc (.cells #[.slice a n c, .int .i64 0, .int .i64 0, .bool false] 111)) := by
  have hb := below_alloc w (.cells #[.slice a n c, .int .i64 0, .int .i64 0, .bool false] 111)
  have k := h.below hb
  obtain ⟨ev, e1, -⟩ := h.env
  obtain ⟨m, m1⟩ := h.envM
  have l1 := block_lt_of_cell e1
  have l2 := block_lt_of_cell m1
  refine ⟨⟨0, heap_alloc_new w _, fun j hj => by cases hj; rfl⟩, fun j hj => by cases hj; exact Nat.zero_le _, k.row, h.len, h.zero, h.cap, h.capm, fun x hx hp => ?_, h.bytes, h.small, k.env, k.envM, ?_, ?_⟩
  · rcases h.row with ⟨e, -⟩ | ⟨y, e, hc⟩
    · rw [e] at hx; cases hx
    · rw [e] at hx
      cases hx
      have := block_lt_of_cell (hc 0 hp)
      rw [add_block] at this
      omega
  · exact Nat.ne_of_lt l1
  · exact Nat.ne_of_lt l2

/-- WHAT Read TELLS. -/
def ReadPost (g : Gram) (xs : List Int) (w : World) (e : Ending) (w' : World) : Prop :=
  ∃ d : CV, e = .returned (.tuple #[d.v, .int .i64 (g.readE xs)]) ∧ Holds w' d (g.read xs) ∧ Read d ∧ Above w.heap.size d ∧ Below w.heap.size w w'
theorem holdsN (w : World) : Holds w cvN noCirc :=
  ⟨rfl, .inl ⟨rfl, rfl⟩, rfl, fun _ => rfl, .inl ⟨rfl, rfl⟩, rfl, fun _ => rfl, .inl ⟨rfl, rfl⟩, rfl, fun _ => rfl, .inl ⟨rfl, rfl⟩, rfl, fun _ => rfl, .inl ⟨rfl, rfl⟩, rfl, fun _ => rfl, .inl ⟨rfl, rfl⟩, rfl, fun _ => rfl, .inl ⟨rfl, rfl⟩, rfl, fun _ => rfl⟩
theorem aboveN (B : Nat) : Above B cvN := ⟨fun _ e => (by cases e), fun _ e => (by cases e), fun _ e => (by cases e), fun _ e => (by cases e), fun _ e => (by cases e), fun _ e => (by cases e), fun _ e => (by cases e)⟩
theorem read_bad {g : Gram} {xs : List Int} {w w' : World} {E : Int} (he : g.readE xs = E) (h0 : ¬ E = 0) (hb : Below w.heap.size w w') :
    ReadPost g xs w (.returned (.tuple #[.agg #[.int .i64 0, .slice none 0 0, .slice none 0 0, .slice none 0 0, .slice none 0 0, .slice none 0 0, .slice none 0 0, .slice none 0 0], .int .i64 E])) w' :=
  ⟨cvN, by rw [he]; rfl, by rw [Gram.read, if_neg (by rw [he]; exact h0)]; exact holdsN w', ⟨by decide, by decide, by decide, by decide, by decide, by decide, by decide⟩, aboveN _, hb⟩

theorem append32 (word : ByteArray) : (word ++ (⟨#[32]⟩ : ByteArray)).data.toList = word.data.toList ++ [32] := by simp

section
variable (g : Gram) (xs : List Int)
theorem readE_len (h : xs.length ≤ 100000) : g.readE xs = if Lib.hasPrefix (lineS xs (some 0)).1.data.toList (g.word ++ [32]) = true then (if g.hE (g.rest xs) = 0 then (if (g.last xs).isSome = true then toldI (g.circ xs).checkI else 2) else g.hE (g.rest xs)) else 2 := by
  rw [Gram.readE, if_neg (by omega)]
end
theorem rest_eq (g : Gram) (xs : List Int) (h : Lib.hasPrefix (lineS xs (some 0)).1.data.toList (g.word ++ [32]) = true) : (⟨(Lib.trimPrefix (lineS xs (some 0)).1.data.toList (g.word ++ [32])).toArray⟩ : ByteArray) = g.rest xs := by
  rw [Lib.trimPrefix, if_pos h, Gram.rest]
  simp

/-- Read's own blocks: the grammar's box, the answer's, the reader's (block w.heap.size and the two behind it). -/
structure RM (a : Option Addr) (n c : Nat) (xs : List Int) (w : World) (gc : Array Value) (top : Int) (st : Option Nat) (W : World) : Prop where
  rd : Rd (w.heap.size + 2) a n c xs top st W
  gbox : W.heap[w.heap.size]? = some (.cells gc 65 (0, 0))
  res : Box W (w.heap.size + 1) cvN
  below : Below w.heap.size w W
section
variable {a : Option Addr} {n c : Nat} {xs : List Int} {w W W1 : World} {gc : Array Value} {top top' : Int} {st st' : Option Nat}
theorem RM.then (m : RM a n c xs w gc top st W) (hb : Below W.heap.size W W1) : RM a n c xs w gc top st W1 :=
  have h := m.rd.lt
  ⟨m.rd.below hb, (hb.block _ (by omega)).trans m.gbox, m.res.below hb, belowThen m.below hb⟩
theorem RM.went (m : RM a n c xs w gc top st W) (g : Went (w.heap.size + 2) a n c xs top' W st' W1) : RM a n c xs w gc top' st' W1 :=
  have h := m.rd.lt
  ⟨g.1, (g.2.block _ (by omega) (by omega) (by omega)).trans m.gbox, (g.2.block _ (by omega) (by omega) (by omega)).trans m.res, g.2.below m.below (Nat.le_refl _) (by omega) (by omega)⟩
theorem RM.gram {k : Nat} {v : Value} (m : RM a n c xs w gc top st W) (h : gc[k]? = some v) : W.cell? ⟨w.heap.size, k, none⟩ = some v := (cell_of_row W _ k _ _ (0, 0) m.gbox).trans h
theorem rm_start (h : Txt w a n c xs) (gc : Array Value) : RM a n c xs w gc 0 (some 0) (((w.alloc (.cells gc 65)).alloc (.cells #[.int .i64 0, .slice none 0 0, .slice none 0 0, .slice none 0 0, .slice none 0 0, .slice none 0 0, .slice none 0 0, .slice none 0 0] 29)).alloc (.cells #[.slice a n c, .int .i64 0, .int .i64 0, .bool false] 111)) := by
  have b1 := below_alloc w (.cells gc 65)
  have n1 := heap_alloc_new w (.cells gc 65)
  have s1 : (w.alloc (.cells gc 65)).heap.size = w.heap.size + 1 := by simp
  generalize w.alloc (.cells gc 65) = wa at *
  have b2 := below_alloc wa (.cells #[.int .i64 0, .slice none 0 0, .slice none 0 0, .slice none 0 0, .slice none 0 0, .slice none 0 0, .slice none 0 0, .slice none 0 0] 29)
  have n2 := heap_alloc_new wa (.cells #[.int .i64 0, .slice none 0 0, .slice none 0 0, .slice none 0 0, .slice none 0 0, .slice none 0 0, .slice none 0 0, .slice none 0 0] 29)
  have s2 : (wa.alloc (.cells #[.int .i64 0, .slice none 0 0, .slice none 0 0, .slice none 0 0, .slice none 0 0, .slice none 0 0, .slice none 0 0, .slice none 0 0] 29)).heap.size = w.heap.size + 2 := by simp [s1]
  rw [s1] at n2
  generalize wa.alloc (.cells #[.int .i64 0, .slice none 0 0, .slice none 0 0, .slice none 0 0, .slice none 0 0, .slice none 0 0, .slice none 0 0, .slice none 0 0] 29) = wc at *
  have b4 := below_alloc wc (.cells #[.slice a n c, .int .i64 0, .int .i64 0, .bool false] 111)
  have rd := ((h.below b1).below b2).rd
  rw [s2] at rd
  exact ⟨rd, (b4.block _ (by omega)).trans ((b2.block _ (by omega)).trans n1), (b4.block _ (by omega)).trans n2, belowThen (belowThen b1 b2) b4⟩
end

structure SmallC (C : Circ) : Prop where
  ins : C.ins.length ≤ 64
  lats : C.lats.length ≤ 64
  outs : C.outs.length ≤ 64
  bads : C.bads.length ≤ 64
  cons : C.cons.length ≤ 64
  ands : C.ands.length ≤ 2000
  names : C.names.length ≤ 100001
  fit : NamesFit C
  max : 0 ≤ C.max
theorem circ_small (g : Gram) (xs : List Int) (H : List Int) (T : Option Nat) (hf : HFit H) (hx : xs.length ≤ 100000) : SmallC (rCirc g xs H T) := by
  have l1 : (rIns g xs H T).1.length = (H.getD 1 0).toNat := itemsS_len _ _ _
  have l2 : (rLats g xs H T).1.length = (H.getD 2 0).toNat := itemsS_len _ _ _
  have l3 : (rOuts g xs H T).1.length = (H.getD 3 0).toNat := itemsS_len _ _ _
  have l4 : (rBads g xs H T).1.length = (H.getD 5 0).toNat := itemsS_len _ _ _
  have l5 : (rCons g xs H T).1.length = (H.getD 6 0).toNat := itemsS_len _ _ _
  have l6 : (rAnds g xs H T).1.length = (H.getD 4 0).toNat := itemsS_len _ _ _
  have l7 := namesS_fit xs (rAnds g xs H T).2
  have b0 := hf.pos 0
  have b1 := hf.b1
  have b2 := hf.b2
  have b3 := hf.b3
  have b4 := hf.b4
  have b5 := hf.b5
  have b6 := hf.b6
  refine ⟨?_, ?_, ?_, ?_, ?_, ?_, ?_, fun y hy => ?_, b0⟩
  · show (rIns g xs H T).1.length ≤ 64; omega
  · show (rLats g xs H T).1.length ≤ 64; omega
  · show (rOuts g xs H T).1.length ≤ 64; omega
  · show (rBads g xs H T).1.length ≤ 64; omega
  · show (rCons g xs H T).1.length ≤ 64; omega
  · show (rAnds g xs H T).1.length ≤ 2000; omega
  · show (namesS xs (rAnds g xs H T).2).1.length ≤ 100001; omega
  · have := l7.1 y hy; omega
theorem small_fits {w : World} {d : CV} {C : Circ} (h : Holds w d C) (s : SmallC C) : Fits d C ∧ Read d := by
  have h1 := s.ins
  have h2 := s.lats
  have h3 := s.outs
  have h4 := s.bads
  have h5 := s.cons
  have h6 := s.ands
  have h7 := s.names
  have h8 := s.max
  rw [h.l1] at h1
  rw [h.l2] at h2
  rw [h.l3] at h3
  rw [h.l4] at h4
  rw [h.l5] at h5
  rw [h.l6] at h6
  rw [h.l7] at h7
  rw [← h.m] at h8
  exact ⟨⟨by omega, by omega, by omega, by omega, by omega, by omega, s.fit⟩, ⟨by omega, by omega, by omega, by omega, by omega, by omega, by omega⟩⟩
theorem own_cap {w : World} {B n c k s : Nat} {e : TypeId} {a : Option Addr} {cs : List Value} (h : w.ownsRow B e s (.slice a n c) k cs) : n ≤ c := by
  rcases h.2 with ⟨e, -⟩ | ⟨g, cap, cur, e, -, -, hc, -⟩
  · cases e; exact Nat.le_refl _
  · cases e; exact hc

set_option maxRecDepth 100000 in
set_option maxHeartbeats 4000000 in
theorem readG_any (g : Gram) (word : ByteArray) (fH fI fL fA : Nat) (hw : word.data.toList = g.word) (hwz : word.size ≤ 100) (hH : Heads fH g.hE g.hL) (hI : Reads fI (Value.int .i64) g.inp) (hL : Reads fL triV g.lat) (hA : Reads fA triV g.and)
    (a : Option Addr) (n c : Nat) (xs : List Int) (w : World) (h : Txt w a n c xs) :
    Calls Tryz.prog 38 #[.agg (gramC word fH fI fL fA), .slice a n c] w (ReadPost g xs w) := by
  have hn := h.small
  have hln := h.len
  have HS := hide (rm_start h (gramC word fH fI fL fA))
  have hR := readE_len g xs (by omega)
  have hent := hH.enter
  have HLine := hide (fun W (hW : Rd (w.heap.size + 2) a n c xs 0 (some 0) W) => lineM_any (w.heap.size + 2) a n c xs 0 (some 0) W hW)
  have HCut := hide (fun W => Tryz.strings_CutPrefix (lineS xs (some 0)).1 (word ++ ⟨#[32]⟩) W)
  rw [append32, hw] at HCut
  have hrest := rest_eq g xs
  have hszS : (lineS xs (some 0)).1.size ≤ 100000 := by have := lineS_size (xs := xs) (st := some 0); omega
  have HHead := hide (fun W (hs : (g.rest xs).size ≤ 100000) hE hM => hH.call (g.rest xs) W hs hE hM)
  have HFt := hide (hH.fit (g.rest xs))
  have HBad := hide (fun w' E he h0 hb => read_bad (g := g) (xs := xs) (w := w) (w' := w') (E := E) he h0 hb)
  have HCirc := hide (fun W (hW : Rd (w.heap.size + 2) a n c xs 0 (lineS xs (some 0)).2 W) (hf : HFit (g.hL (g.rest xs))) hg cap hh hgp hcap => circuit_any g word fH fI fL fA hI hL hA literal_reads (w.heap.size + 2) a n c xs 0 (lineS xs (some 0)).2 W hW (g.hL (g.rest xs)) hf hg cap hh hgp hcap)
  have hlast : (rNames g xs (g.hL (g.rest xs)) (lineS xs (some 0)).2).2 = g.last xs := rfl
  have hcirc : rCirc g xs (g.hL (g.rest xs)) (lineS xs (some 0)).2 = g.circ xs := rfl
  have HSm := hide (fun hf => circ_small g xs (g.hL (g.rest xs)) (lineS xs (some 0)).2 hf (by omega))
  rw [hlast, hcirc] at HCirc
  rw [hcirc] at HSm
  clear hlast hcirc
  have HGood : Hid (∀ d w', g.readE xs = 0 → Holds w' d (g.circ xs) → Read d → Above w.heap.size d → Below w.heap.size w w' → ReadPost g xs w (.returned (.tuple #[d.v, .int .i64 0])) w') := fun d w' he hd rd ab hb => ⟨d, by rw [he], by rw [Gram.read, if_pos he]; exact hd, rd, ab, hb⟩
  generalize hP : ReadPost g xs w = Post at HBad HGood ⊢
  have HP := hide hP
  clear hP
  unfold gramC at HS HCirc ⊢
  have hrsz : (g.rest xs).size ≤ 100000 := by
    show ((lineS xs (some 0)).1.data.toList.drop (g.word.length + 1)).toArray.size ≤ 100000
    rw [List.size_toArray, List.length_drop]
    have e : (lineS xs (some 0)).1.data.toList.length = (lineS xs (some 0)).1.size := Array.length_toList
    omega
  have hws : ¬ 9223372036854775807 < word.size + 1 := by omega
  clear hH hI hL hA
  go_enter Tryz.func38, Tryz.ntmps38
  go_upto_region 4 with fail
  generalize hW : (((w.alloc (.cells #[.string word, .func (.func fH) #[] #[], .func (.func fI) #[] #[], .func (.func fL) #[] #[], .func (.func fA) #[] #[]] 65)).alloc (.cells #[.int .i64 0, .slice none 0 0, .slice none 0 0, .slice none 0 0, .slice none 0 0, .slice none 0 0, .slice none 0 0, .slice none 0 0] 29)).alloc (.cells #[.slice a n c, .int .i64 0, .int .i64 0, .bool false] 111)) = W0 at *
  clear hW
  generalize hb7 : w.heap.size + 1 + 1 = b7
  obtain rfl : b7 = w.heap.size + 2 := hb7.symm
  clear hb7
  have kw : W0.drew.cell? ⟨w.heap.size, 0, none⟩ = some (.string word) := HS.out.gram rfl
  have HSd := hide (HS.out.then (Drew.below ⟨1, rfl⟩))
  generalize (lineS xs (some 0)).1 = S at *
  generalize (lineS xs (some 0)).2 = T at *
  go_region_held3 (fun w' => w'.cell? ⟨w.heap.size, 0, none⟩ = some (.string word)) (first | with_reducible exact kw | with_reducible exact KA.out) (first | (go_at_call 78; refine (HLine.out _ HSd.out.rd).mono ?_; rintro e v1 ⟨rfl, g1⟩; have M1 := hide (HSd.out.went g1); have KA : Hid (v1.cell? ⟨w.heap.size, 0, none⟩ = some (.string word)) := M1.out.gram rfl; clear g1) | (go_at_call 77; refine (HCut.out _).mono ?_; rintro e v2 ⟨rfl, rfl⟩))
  clear HS HSd kw KA HCut HLine
  try clear hHeld
  generalize hB : Lib.hasPrefix S.data.toList (g.word ++ [32]) = B at *
  cases B with
  | false =>
    rw [if_neg (by decide)] at hR
    have HRe := hide hR
    clear hR hrest HHead HFt HCirc HSm HGood
    have B1 := hide M1.out.res
    have BB := hide M1.out.below
    obtain ⟨r0, r1, r2, r3, r4, r5, r6, r7⟩ := B1.out.cells
    simp only [cvN] at r0 r1 r2 r3 r4 r5 r6 r7
    have f0 := box_frozen B1.out 0
    have f1 := box_frozen B1.out 1
    have f2 := box_frozen B1.out 2
    have f3 := box_frozen B1.out 3
    have f4 := box_frozen B1.out 4
    have f5 := box_frozen B1.out 5
    have f6 := box_frozen B1.out 6
    have f7 := box_frozen B1.out 7
    go_wp2
    have hb := hide (box_put cvN B1.out)
    have hbel : Hid (Below w.heap.size w (putBox v2 (w.heap.size + 1) cvN)) := (two_put v2 (w.heap.size + 1) cvN).below BB.out (Nat.le_refl _) (Nat.le_succ _) (Nat.le_succ _)
    clear r0 r1 r2 r3 r4 r5 r6 r7 f0 f1 f2 f3 f4 f5 f6 f7
    show bodyPost _ _ _ _ _ (putBox v2 (w.heap.size + 1) cvN)
    generalize putBox v2 (w.heap.size + 1) cvN = Wf at *
    obtain ⟨r0, r1, r2, r3, r4, r5, r6, r7⟩ := hb.out.cells
    simp only [cvN] at r0 r1 r2 r3 r4 r5 r6 r7
    refine bodyPost_ret (v := .tuple #[.agg #[.int .i64 0, .slice none 0 0, .slice none 0 0, .slice none 0 0, .slice none 0 0, .slice none 0 0, .slice none 0 0, .slice none 0 0], .int .i64 2]) (by simp [results, Tryz.results38, go_sem, *]) rfl ?_
    exact HBad.out _ _ (HRe.out) (by decide) hbel.out
  | true =>
    rw [if_pos rfl] at hR
    rw [hrest rfl]
    clear hrest hB
    have kh : v2.cell? ⟨w.heap.size, 1, none⟩ = some (.func (.func fH) #[] #[]) := M1.out.gram rfl
    have HHd := hide (HHead.out v2 hrsz M1.out.rd.env M1.out.rd.envM)
    clear HHead
    by_cases hE : g.hE (g.rest xs) = 0
    · rw [if_pos hE] at hR
      have HH0 := hide (HFt.out hE)
      have HSC := hide (HSm.out HH0.out)
      rw [hE] at HHd
      have HRe := hide hR
      clear hR HFt HSm hE
      generalize g.circ xs = CC at *
      generalize g.last xs = LL at *
      generalize g.hL (g.rest xs) = HL at *
      have HL9 := hide HH0.out.len
      go_upto_region 10 with (first | (go_at_fn fH; refine HHd.out.mono ?_; rintro e v3 ⟨v, rfl, ho, hb3⟩; have M3 := hide (M1.out.then hb3); obtain ⟨hg, cap, rfl, hc, hgb⟩ := ownI_at ho HL9.out (by omega); have hcap : 9 ≤ cap := own_cap ho; have hgp : hg ≠ w.heap.size + 2 := (by have := M1.out.rd.lt; omega); have HC3 := hide hc; clear ho hb3 hc hgb))
      clear kh M1 HHd
      have k0 : v3.cell? ⟨w.heap.size, 0, none⟩ = some (.string word) := M3.out.gram rfl
      have k1 : v3.cell? ⟨w.heap.size, 1, none⟩ = some (.func (.func fH) #[] #[]) := M3.out.gram rfl
      have k2 : v3.cell? ⟨w.heap.size, 2, none⟩ = some (.func (.func fI) #[] #[]) := M3.out.gram rfl
      have k3 : v3.cell? ⟨w.heap.size, 3, none⟩ = some (.func (.func fL) #[] #[]) := M3.out.gram rfl
      have k4 : v3.cell? ⟨w.heap.size, 4, none⟩ = some (.func (.func fA) #[] #[]) := M3.out.gram rfl
      go_upto_region 11 with (first | (go_at_call 79; refine (HCirc.out _ M3.out.rd HH0.out hg cap HC3.out hgp hcap).mono ?_; rintro e v4 ⟨d, rfl, hd, ab, g4⟩; have hd4 := hide hd; have hab := hide ab; have M4 := hide (M3.out.went g4); have hs34 := g4.2.size; clear hd ab g4; unfold CV.v))
      clear k0 k1 k2 k3 k4 HCirc HC3 hcap
      have M5 := hide (M4.out.then (below_alloc v4 (.cells #[.int .i64 d.m, .slice d.a1 d.n1 d.c1, .slice d.a2 d.n2 d.c2, .slice d.a3 d.n3 d.c3, .slice d.a4 d.n4 d.c4, .slice d.a5 d.n5 d.c5, .slice d.a6 d.n6 d.c6, .slice d.a7 d.n7 d.c7] 29)))
      have hd5 := hide (hd4.out.below (below_alloc v4 (.cells #[.int .i64 d.m, .slice d.a1 d.n1 d.c1, .slice d.a2 d.n2 d.c2, .slice d.a3 d.n3 d.c3, .slice d.a4 d.n4 d.c4, .slice d.a5 d.n5 d.c5, .slice d.a6 d.n6 d.c6, .slice d.a7 d.n7 d.c7] 29)))
      have B5 := hide (box_new v4 d)
      have hl4 := M4.out.rd.lt
      have hl3 := M3.out.rd.lt
      generalize v4.alloc (.cells #[.int .i64 d.m, .slice d.a1 d.n1 d.c1, .slice d.a2 d.n2 d.c2, .slice d.a3 d.n3 d.c3, .slice d.a4 d.n4 d.c4, .slice d.a5 d.n5 d.c5, .slice d.a6 d.n6 d.c6, .slice d.a7 d.n7 d.c7] 29) = W5 at *
      clear M3 hd4
      obtain ⟨kk, -, -, -, -, q3⟩ := M5.out.rd.cells
      cases LL with
      | none =>
        rw [show (none : Option Nat).isNone = true from rfl] at q3
        rw [if_neg (by simp)] at HRe
        go_upto_region 12 with fail
        clear q3
        have B1 := hide M5.out.res
        have BB := hide M5.out.below
        obtain ⟨r0, r1, r2, r3, r4, r5, r6, r7⟩ := B1.out.cells
        simp only [cvN] at r0 r1 r2 r3 r4 r5 r6 r7
        have f0 := box_frozen B1.out 0
        have f1 := box_frozen B1.out 1
        have f2 := box_frozen B1.out 2
        have f3 := box_frozen B1.out 3
        have f4 := box_frozen B1.out 4
        have f5 := box_frozen B1.out 5
        have f6 := box_frozen B1.out 6
        have f7 := box_frozen B1.out 7
        go_wp2
        have hb := hide (box_put cvN B1.out)
        have hbel : Hid (Below w.heap.size w (putBox W5 (w.heap.size + 1) cvN)) := (two_put W5 (w.heap.size + 1) cvN).below BB.out (Nat.le_refl _) (Nat.le_succ _) (Nat.le_succ _)
        clear r0 r1 r2 r3 r4 r5 r6 r7 f0 f1 f2 f3 f4 f5 f6 f7
        show bodyPost _ _ _ _ _ (putBox W5 (w.heap.size + 1) cvN)
        generalize putBox W5 (w.heap.size + 1) cvN = Wf at *
        obtain ⟨r0, r1, r2, r3, r4, r5, r6, r7⟩ := hb.out.cells
        simp only [cvN] at r0 r1 r2 r3 r4 r5 r6 r7
        refine bodyPost_ret (v := .tuple #[.agg #[.int .i64 0, .slice none 0 0, .slice none 0 0, .slice none 0 0, .slice none 0 0, .slice none 0 0, .slice none 0 0, .slice none 0 0], .int .i64 2]) (by simp [results, Tryz.results38, go_sem, *]) rfl ?_
        exact HBad.out _ _ (HRe.out) (by decide) hbel.out
      | some jj =>
        rw [show (some jj).isNone = false from rfl] at q3
        rw [if_pos (show (some jj).isSome = true from rfl)] at HRe
        obtain ⟨hfi, hrd⟩ := small_fits hd5.out HSC.out
        have HCk := hide (check_any d CC W5 hd5.out hfi)
        have HTd := hide (fun e W => told_any e W)
        have Hrd := hide hrd
        unfold CV.v at HCk
        obtain ⟨c0, c1, c2, c3, c4, c5, c6, c7⟩ := B5.out.cells
        generalize CC.checkI = ck at *
        clear hfi hrd
        go_upto_region 14 with (first | (go_at_call 63; refine HCk.out.mono ?_; rintro e v6 ⟨rfl, hb6⟩; have M6 := hide (M5.out.then hb6); have hd6 := hide (hd5.out.below hb6); have B6 := hide (B5.out.below hb6); clear hb6) | (go_at_call 80; refine (HTd.out _ _).mono ?_; rintro e v7 ⟨rfl, rfl⟩))
        clear c0 c1 c2 c3 c4 c5 c6 c7 q3 M5 M4 hd5 B5
        generalize toldI ck = E2 at *
        by_cases hE2 : E2 = 0
        · subst hE2
          obtain ⟨c0, c1, c2, c3, c4, c5, c6, c7⟩ := B6.out.cells
          have B1 := hide M6.out.res
          have BB := hide M6.out.below
          obtain ⟨r0, r1, r2, r3, r4, r5, r6, r7⟩ := B1.out.cells
          simp only [cvN] at r0 r1 r2 r3 r4 r5 r6 r7
          have f0 := box_frozen B1.out 0
          have f1 := box_frozen B1.out 1
          have f2 := box_frozen B1.out 2
          have f3 := box_frozen B1.out 3
          have f4 := box_frozen B1.out 4
          have f5 := box_frozen B1.out 5
          have f6 := box_frozen B1.out 6
          have f7 := box_frozen B1.out 7
          go_wp2
          have hb := hide (box_put d B1.out)
          have t6 := two_put v7 (w.heap.size + 1) d
          have hbel : Hid (Below w.heap.size w (putBox v7 (w.heap.size + 1) d)) := t6.below BB.out (Nat.le_refl _) (Nat.le_succ _) (Nat.le_succ _)
          have hd7 := hide (hd6.out.two hab.out t6 (by omega))
          clear r0 r1 r2 r3 r4 r5 r6 r7 f0 f1 f2 f3 f4 f5 f6 f7 c0 c1 c2 c3 c4 c5 c6 c7 t6
          show bodyPost _ _ _ _ _ (putBox v7 (w.heap.size + 1) d)
          generalize putBox v7 (w.heap.size + 1) d = Wf at *
          obtain ⟨r0, r1, r2, r3, r4, r5, r6, r7⟩ := hb.out.cells
          refine bodyPost_ret (v := .tuple #[.agg #[.int .i64 d.m, .slice d.a1 d.n1 d.c1, .slice d.a2 d.n2 d.c2, .slice d.a3 d.n3 d.c3, .slice d.a4 d.n4 d.c4, .slice d.a5 d.n5 d.c5, .slice d.a6 d.n6 d.c6, .slice d.a7 d.n7 d.c7], .int .i64 0]) (by simp [results, Tryz.results38, go_sem, *]) rfl ?_
          exact HGood.out d _ HRe.out hd7.out Hrd.out (hab.out.mono (by omega)) hbel.out
        · have e1 : (E2 == 0) = false := by rw [beq_eq_false_iff_ne]; exact hE2
          have e2 : (E2 != 0) = true := by rw [bne, e1]; rfl
          have HNe := hide hE2
          go_upto_region 15 with fail
          clear hd6 B6
          have B1 := hide M6.out.res
          have BB := hide M6.out.below
          obtain ⟨r0, r1, r2, r3, r4, r5, r6, r7⟩ := B1.out.cells
          simp only [cvN] at r0 r1 r2 r3 r4 r5 r6 r7
          have f0 := box_frozen B1.out 0
          have f1 := box_frozen B1.out 1
          have f2 := box_frozen B1.out 2
          have f3 := box_frozen B1.out 3
          have f4 := box_frozen B1.out 4
          have f5 := box_frozen B1.out 5
          have f6 := box_frozen B1.out 6
          have f7 := box_frozen B1.out 7
          go_wp2
          have hb := hide (box_put cvN B1.out)
          have hbel : Hid (Below w.heap.size w (putBox v7 (w.heap.size + 1) cvN)) := (two_put v7 (w.heap.size + 1) cvN).below BB.out (Nat.le_refl _) (Nat.le_succ _) (Nat.le_succ _)
          clear r0 r1 r2 r3 r4 r5 r6 r7 f0 f1 f2 f3 f4 f5 f6 f7
          show bodyPost _ _ _ _ _ (putBox v7 (w.heap.size + 1) cvN)
          generalize putBox v7 (w.heap.size + 1) cvN = Wf at *
          obtain ⟨r0, r1, r2, r3, r4, r5, r6, r7⟩ := hb.out.cells
          simp only [cvN] at r0 r1 r2 r3 r4 r5 r6 r7
          refine bodyPost_ret (v := .tuple #[.agg #[.int .i64 0, .slice none 0 0, .slice none 0 0, .slice none 0 0, .slice none 0 0, .slice none 0 0, .slice none 0 0, .slice none 0 0], .int .i64 E2]) (by simp [results, Tryz.results38, go_sem, *]) rfl ?_
          exact HBad.out _ _ (HRe.out) (HNe.out) hbel.out
    · rw [if_neg hE] at hR
      have HRe := hide hR
      generalize g.hE (g.rest xs) = E at *
      have hE1 : (E == 0) = false := by rw [beq_eq_false_iff_ne]; exact hE
      have hE2 : (E != 0) = true := by rw [bne, hE1]; rfl
      have HNe := hide hE
      clear hR HFt HCirc HSm HGood
      go_upto_region 9 with (first | (go_at_fn fH; refine HHd.out.mono ?_; rintro e v3 ⟨v, rfl, ho, hb3⟩; have M3 := hide (M1.out.then hb3); clear ho hb3))
      clear kh M1
      have B1 := hide M3.out.res
      have BB := hide M3.out.below
      obtain ⟨r0, r1, r2, r3, r4, r5, r6, r7⟩ := B1.out.cells
      simp only [cvN] at r0 r1 r2 r3 r4 r5 r6 r7
      have f0 := box_frozen B1.out 0
      have f1 := box_frozen B1.out 1
      have f2 := box_frozen B1.out 2
      have f3 := box_frozen B1.out 3
      have f4 := box_frozen B1.out 4
      have f5 := box_frozen B1.out 5
      have f6 := box_frozen B1.out 6
      have f7 := box_frozen B1.out 7
      go_wp2
      have hb := hide (box_put cvN B1.out)
      have hbel : Hid (Below w.heap.size w (putBox v3 (w.heap.size + 1) cvN)) := (two_put v3 (w.heap.size + 1) cvN).below BB.out (Nat.le_refl _) (Nat.le_succ _) (Nat.le_succ _)
      clear r0 r1 r2 r3 r4 r5 r6 r7 f0 f1 f2 f3 f4 f5 f6 f7
      show bodyPost _ _ _ _ _ (putBox v3 (w.heap.size + 1) cvN)
      generalize putBox v3 (w.heap.size + 1) cvN = Wf at *
      obtain ⟨r0, r1, r2, r3, r4, r5, r6, r7⟩ := hb.out.cells
      simp only [cvN] at r0 r1 r2 r3 r4 r5 r6 r7
      refine bodyPost_ret (v := .tuple #[.agg #[.int .i64 0, .slice none 0 0, .slice none 0 0, .slice none 0 0, .slice none 0 0, .slice none 0 0, .slice none 0 0, .slice none 0 0], .int .i64 E]) (by simp [results, Tryz.results38, go_sem, *]) rfl ?_
      exact HBad.out _ _ (HRe.out) (HNe.out) hbel.out
end Go.Proofs.YtikjbbebfjleaaaGreatDoor

namespace Go.Proofs.YtikjbbebfjleaaaGreatDoor
open Go.RowKit

theorem headsA : Heads 16 hdrE hdrL := ⟨fun args w => by kernel_rfl, headerA_any, fun _ h => hdr_fit h⟩
theorem boxN (w : World) : Box (w.alloc (.cells #[.int .i64 0, .slice none 0 0, .slice none 0 0, .slice none 0 0, .slice none 0 0, .slice none 0 0, .slice none 0 0, .slice none 0 0] 29)) w.heap.size cvN := box_new w cvN

set_option maxRecDepth 100000 in
set_option maxHeartbeats 1000000 in
theorem asciiRead_any (a : Option Addr) (n c : Nat) (xs : List Int) (w : World) (h : Txt w a n c xs) :
    Calls Tryz.prog 12 #[.slice a n c] w (ReadPost gramA xs w) := by
  have HR := hide (fun o => readG_any gramA ⟨#[97, 97, 103]⟩ 16 35 36 37 rfl (by decide) headsA literal_reads latchA_reads andA_reads a n c xs (w.alloc o) (h.below (below_alloc w o)))
  unfold ReadPost gramC at *
  generalize gramA.readE xs = E at *
  generalize gramA.read xs = C at *
  have HN := hide (And.intro (boxN w) (below_alloc w (.cells #[.int .i64 0, .slice none 0 0, .slice none 0 0, .slice none 0 0, .slice none 0 0, .slice none 0 0, .slice none 0 0, .slice none 0 0] 29)))
  clear h
  go_enter Tryz.func12, Tryz.ntmps12
  go_wp2_with (go_at_call 38; refine (HR.out _).mono ?_; rintro e w1 ⟨d, rfl, hd, rd, ab, hb⟩; have HD := hide (And.intro hd (And.intro rd ab)); have HW := hide (belowThen HN.out.2 hb); have B1 := hide (HN.out.1.below hb); clear hd rd ab hb; unfold CV.v; obtain ⟨q0, q1, q2, q3, q4, q5, q6, q7⟩ := B1.out.cells; simp only [cvN] at q0 q1 q2 q3 q4 q5 q6 q7; have f0 := box_frozen B1.out 0; have f1 := box_frozen B1.out 1; have f2 := box_frozen B1.out 2; have f3 := box_frozen B1.out 3; have f4 := box_frozen B1.out 4; have f5 := box_frozen B1.out 5; have f6 := box_frozen B1.out 6; have f7 := box_frozen B1.out 7)
  have hb := hide (box_put d B1.out)
  have t6 := two_put w1 w.heap.size d
  have hbel : Hid (Below w.heap.size w (putBox w1 w.heap.size d)) := t6.below HW.out (Nat.le_refl _) (Nat.le_refl _) (Nat.le_refl _)
  have hd7 := hide (HD.out.1.two HD.out.2.2 t6 (by simp))
  have hab := hide (HD.out.2.2.mono (C := w.heap.size) (by simp))
  clear q0 q1 q2 q3 q4 q5 q6 q7 f0 f1 f2 f3 f4 f5 f6 f7 t6
  show bodyPost _ _ _ _ _ (putBox w1 w.heap.size d)
  generalize putBox w1 w.heap.size d = Wf at *
  obtain ⟨r0, r1, r2, r3, r4, r5, r6, r7⟩ := hb.out.cells
  refine bodyPost_ret (v := .tuple #[.agg #[.int .i64 d.m, .slice d.a1 d.n1 d.c1, .slice d.a2 d.n2 d.c2, .slice d.a3 d.n3 d.c3, .slice d.a4 d.n4 d.c4, .slice d.a5 d.n5 d.c5, .slice d.a6 d.n6 d.c6, .slice d.a7 d.n7 d.c7], .int .i64 E]) (by simp [results, Tryz.results12, go_sem, *]) rfl ?_
  exact ⟨d, rfl, hd7.out, HD.out.2.1, hab.out, hbel.out⟩

/-- The document's example. -/
def exA : List Int := [97, 97, 103, 32, 49, 32, 49, 32, 48, 32, 48, 32, 48, 10, 50, 10]
theorem exA_read : gramA.readE exA = 0 ∧ (gramA.read exA).ins = [2] := by
  constructor <;> decide +kernel

theorem row8_new (w : World) (l : List Int) (t : TypeId) (r : Nat × Nat) : Row8 (w.alloc (.cells (l.map (Value.int .u8)).toArray t r)) (some ⟨w.heap.size, 0, none⟩) l := by
  refine .inr ⟨_, rfl, fun i hi => ?_⟩
  rw [add_plain, Nat.zero_add, cell_of_row _ _ i _ t r (heap_alloc_new w _)]
  simp [List.getD_eq_getElem?_getD, List.getElem?_eq_getElem hi]
theorem txt_new {w : World} (hE : Env w) (hM : EnvM w) (l : List Int) (t : TypeId) (r : Nat × Nat) (hb : Bytes8 l) (hl : l.length ≤ 100000) : Txt (w.alloc (.cells (l.map (Value.int .u8)).toArray t r)) (some ⟨w.heap.size, 0, none⟩) l.length l.length l :=
  ⟨row8_new w l t r, rfl, fun e => (by cases e), Nat.le_refl _, by omega, hb, hl, hE.below (below_alloc w _), hM.below (below_alloc w _)⟩
theorem exA_bytes : Bytes8 exA := by
  intro n hn
  simp [exA] at hn
  omega

theorem num5_any (e : Int) (w : World) : Calls Tryz.prog 14 #[.int .i64 e] w fun r w' => r = .returned (.int .i64 e) ∧ w' = w := by
  go_enter Tryz.func14, Tryz.ntmps14
  go_wp2
  go_ret
  exact ⟨rfl, rfl⟩

set_option maxRecDepth 100000 in
set_option maxHeartbeats 1000000 in
theorem alive5_any (w : World) (hE : Env w) (hM : EnvM w) :
    Calls Tryz.prog 11 #[] w fun e w' => e = .returned (.bool true) ∧ Below w.heap.size w w' := by
  have HR : Hid (Calls Tryz.prog 12 #[.slice (some ⟨w.heap.size, 0, none⟩) 16 16] (w.alloc (.cells #[.int .u8 97, .int .u8 97, .int .u8 103, .int .u8 32, .int .u8 49, .int .u8 32, .int .u8 49, .int .u8 32, .int .u8 48, .int .u8 32, .int .u8 48, .int .u8 32, .int .u8 48, .int .u8 10, .int .u8 50, .int .u8 10] 5 (16, 17))) (ReadPost gramA exA (w.alloc (.cells #[.int .u8 97, .int .u8 97, .int .u8 103, .int .u8 32, .int .u8 49, .int .u8 32, .int .u8 49, .int .u8 32, .int .u8 48, .int .u8 32, .int .u8 48, .int .u8 32, .int .u8 48, .int .u8 10, .int .u8 50, .int .u8 10] 5 (16, 17))))) := asciiRead_any _ 16 16 exA _ (txt_new hE hM exA 5 (16, 17) exA_bytes (by decide))
  unfold ReadPost at HR
  rw [exA_read.1] at HR
  have HB := hide (below_alloc w (.cells #[.int .u8 97, .int .u8 97, .int .u8 103, .int .u8 32, .int .u8 49, .int .u8 32, .int .u8 49, .int .u8 32, .int .u8 48, .int .u8 32, .int .u8 48, .int .u8 32, .int .u8 48, .int .u8 10, .int .u8 50, .int .u8 10] 5 (16, 17)))
  have HI := hide exA_read.2
  have HNum := hide (fun n W => num5_any n W)
  generalize gramA.read exA = C at *
  have hcv := Lib.run_convert_bytes_const (P := Tryz.prog) w 22 5 #[.int .u8 97, .int .u8 97, .int .u8 103, .int .u8 32, .int .u8 49, .int .u8 32, .int .u8 49, .int .u8 32, .int .u8 48, .int .u8 32, .int .u8 48, .int .u8 32, .int .u8 48, .int .u8 10, .int .u8 50, .int .u8 10] 16 16 Tryz.underlying22 Tryz.underlying5
  clear hE hM
  go_enter Tryz.func11, Tryz.ntmps11
  go_wp2_with (first | (go_at_call 12; refine HR.out.mono ?_; rintro e w1 ⟨d, rfl, hd, rd, ab, hb⟩; have HW := hide (belowThen HB.out hb); have hn1 : d.n1 = 1 := (by rw [← hd.l1, HI.out]; rfl); have hr1 := hd.r1; rw [HI.out] at hr1; obtain ⟨b, off, ha1, -, hc⟩ := hr1.addr (by simp); have c0 : w1.cell? ⟨b, off, none⟩ = some (.int .i64 2) := (by have := hc 0 (by simp); simpa using this); unfold CV.v; rw [ha1, hn1]; have c1 := ((below_alloc w1 (.cells #[.int .i64 d.m, .slice (some ⟨b, off, none⟩) 1 d.c1, .slice d.a2 d.n2 d.c2, .slice d.a3 d.n3 d.c3, .slice d.a4 d.n4 d.c4, .slice d.a5 d.n5 d.c5, .slice d.a6 d.n6 d.c6, .slice d.a7 d.n7 d.c7] 29)).cell (block_lt_of_cell c0)).trans c0; have HWa := hide (belowThen HW.out (below_alloc w1 (.cells #[.int .i64 d.m, .slice (some ⟨b, off, none⟩) 1 d.c1, .slice d.a2 d.n2 d.c2, .slice d.a3 d.n3 d.c3, .slice d.a4 d.n4 d.c4, .slice d.a5 d.n5 d.c5, .slice d.a6 d.n6 d.c6, .slice d.a7 d.n7 d.c7] 29))); clear hd rd ab hb hr1 hc ha1 hn1) | (go_at_call 14; refine (HNum.out _ _).mono ?_; rintro e w7 ⟨rfl, rfl⟩))
  all_goals go_ret
  exact ⟨rfl, HWa.out⟩
end Go.Proofs.YtikjbbebfjleaaaGreatDoor
