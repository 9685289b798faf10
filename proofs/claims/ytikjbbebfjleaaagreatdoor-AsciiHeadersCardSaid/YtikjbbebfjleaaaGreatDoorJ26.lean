/-
  THE WALK of layer 4's namedTwice: a map of pairs of its own.
  THE WALK of layer 4's Order and Check.
-/
import Derived.Test.YtikjbbebfjleaaaGreatDoorJ18
import Derived.Laws.StructEq
import Derived.Test.YtikjbbebfjleaaaGreatDoorAigInTurn
import Derived.Test.YtikjbbebfjleaaaGreatDoorAigLits
import Derived.Test.YtikjbbebfjleaaaGreatDoorJ25
namespace Go.Proofs.YtikjbbebfjleaaaGreatDoor
open Go.RowKit

def keyV (p : Int × Int) : Value := .agg #[.int .u8 p.1, .int .i64 p.2]

theorem eqPort (w : World) (p q : Int × Int) : (Op.equal 174 (keyV p) (keyV q)).run Tryz.prog w = .ok (decide (p = q)) w := by
  obtain ⟨a, b⟩ := p
  obtain ⟨c, d⟩ := q
  show Sem.run Tryz.prog (Op.equalIn 10000 174 (.agg #[.int .u8 a, .int .i64 b]) (.agg #[.int .u8 c, .int .i64 d])) w = _
  by_cases h1 : a = c
  · subst h1
    by_cases h2 : b = d
    · subst h2
      go_simp
    · have h2b : (b == d) = false := by rw [beq_eq_false_iff_ne]; exact h2
      go_simp
  · have h1b : (a == c) = false := by rw [beq_eq_false_iff_ne]; exact h1
    go_simp

theorem checkPort (w : World) (p : Int × Int) : (Instr.checkKey false 10000 174 (keyV p)).run Tryz.prog w = .ok () w := by kernel_rfl
theorem undPort (w : World) : (underlying 171).run Tryz.prog w = .ok (.map 174 172) w := by kernel_rfl

/-- Block b is a map with these keys. -/
def MapKeys (w : World) (b : Nat) (ks : List (Int × Int)) : Prop := ∃ es clock, w.heap[b]? = some (.map es clock) ∧ es.toList.map (·.key) = ks.map keyV

theorem keyV_inj {p q : Int × Int} (h : keyV p = keyV q) : p = q := by
  unfold keyV at h
  simp at h
  exact Prod.ext h.1 h.2

theorem ask_not (w : World) (p : Int × Int) : ∀ (es : List MapEntry) (ks : List (Int × Int)) (i : Nat), es.map (·.key) = ks.map keyV → p ∉ ks → (Instr.findAsking 174 (keyV p) es i).run Tryz.prog w = .ok none w := by
  intro es
  induction es with
  | nil => intro ks i _ _; rfl
  | cons e es ih =>
    intro ks i h hp
    cases ks with
    | nil => simp at h
    | cons k ks =>
      simp only [List.map_cons, List.cons.injEq] at h
      have hne : p ≠ k := fun e => hp (by rw [e]; exact List.mem_cons_self)
      unfold Instr.findAsking
      rw [h.1]
      simp only [Sem.run_bind, eqPort, Result.andThen_ok, decide_eq_false hne, Bool.false_eq_true, if_false]
      exact ih ks (i + 1) h.2 (fun hm => hp (List.mem_cons_of_mem _ hm))

theorem ask_yes (w : World) (p : Int × Int) : ∀ (es : List MapEntry) (ks : List (Int × Int)) (i : Nat), es.map (·.key) = ks.map keyV → p ∈ ks → ∃ j v, j < es.length ∧ (es.map (·.key))[j]? = some (keyV p) ∧ (Instr.findAsking 174 (keyV p) es i).run Tryz.prog w = .ok (some (i + j, v)) w := by
  intro es
  induction es with
  | nil =>
    intro ks i h hp
    cases ks with
    | nil => cases hp
    | cons k ks => simp at h
  | cons e es ih =>
    intro ks i h hp
    cases ks with
    | nil => cases hp
    | cons k ks =>
      simp only [List.map_cons, List.cons.injEq] at h
      unfold Instr.findAsking
      rw [h.1]
      by_cases hk : p = k
      · refine ⟨0, e.val, by simp, by simp [h.1, hk], ?_⟩
        simp only [Sem.run_bind, eqPort, Result.andThen_ok, decide_eq_true hk, if_true]
        rfl
      · obtain ⟨j, v, h1, h2, h3⟩ := ih ks (i + 1) h.2 (by rcases List.mem_cons.1 hp with h | h; exact absurd h hk; exact h)
        refine ⟨j + 1, v, by simpa using h1, by simpa using h2, ?_⟩
        simp only [Sem.run_bind, eqPort, Result.andThen_ok, decide_eq_false hk, Bool.false_eq_true, if_false]
        rw [h3]
        congr 3
        omega

theorem find_port (w : World) (p : Int × Int) (es : List MapEntry) (ks : List (Int × Int)) (h : es.map (·.key) = ks.map keyV) :
    (p ∉ ks ∧ (Instr.findKey 174 (keyV p) es).run Tryz.prog w = .ok none w) ∨ (p ∈ ks ∧ ∃ j v, j < es.length ∧ (es.map (·.key))[j]? = some (keyV p) ∧ (Instr.findKey 174 (keyV p) es).run Tryz.prog w = .ok (some (j, v)) w) := by
  have hu : (underlying 174).run Tryz.prog w = .ok (.struct (Tryz.prog.fieldsOf 174)) w := by kernel_rfl
  cases es with
  | nil =>
    cases ks with
    | nil => exact .inl ⟨by simp, by unfold Instr.findKey; simp only [Sem.run_bind, hu, Result.andThen_ok]; rfl⟩
    | cons k ks => simp at h
  | cons e es =>
    have hn : Instr.findNow (.struct (Tryz.prog.fieldsOf 174)) (keyV p) (e :: es) 0 = none := rfl
    by_cases hp : p ∈ ks
    · refine .inr ⟨hp, ?_⟩
      obtain ⟨j, v, h1, h2, h3⟩ := ask_yes w p (e :: es) ks 0 h hp
      refine ⟨j, v, h1, h2, ?_⟩
      unfold Instr.findKey
      simp only [Sem.run_bind, hu, Result.andThen_ok, hn]
      rw [h3, Nat.zero_add]
    · refine .inl ⟨hp, ?_⟩
      unfold Instr.findKey
      simp only [Sem.run_bind, hu, Result.andThen_ok, hn]
      exact ask_not w p (e :: es) ks 0 h hp

theorem mapPut (w : World) (b : Nat) (ks : List (Int × Int)) (p : Int × Int) (v : Value) (h : MapKeys w b ks) :
    ∃ w', (Instr.mapUpdate 171 (.map (some b)) (keyV p) v).run Tryz.prog w = .ok () w' ∧ MapKeys w' b (if p ∈ ks then ks else ks ++ [p]) ∧ w.grownBy w' (some b) := by
  obtain ⟨es, clock, hb, hk⟩ := h
  have hg : (getObj b).run Tryz.prog w = .ok (.map es clock) w := Go.MapKept.run_getObj_map hb
  unfold Instr.mapUpdate
  simp only [Sem.run_bind, undPort, Result.andThen_ok, hg, checkPort]
  rcases find_port w p es.toList ks hk with ⟨hn, hr⟩ | ⟨hp, j, u, h1, h2, hr⟩
  · rw [hr, if_neg hn]
    simp only [Result.andThen_ok]
    rw [Go.MapKept.run_setObj_map _ hb]
    refine ⟨_, rfl, ⟨_, _, Go.ChangeMaps.heap_setBlock_same hb _, by simp [hk]⟩, ⟨rfl, rfl, rfl, by simp, fun i _ hi => Go.ChangeMaps.heap_setBlock_other hb _ (fun e => hi (by rw [e]))⟩⟩
  · rw [hr, if_pos hp]
    simp only [Result.andThen_ok]
    have hj : (Option.map (fun x => x.key) es[j]?).getD (keyV p) = keyV p := by
      have h2' : Option.map (fun x => x.key) es[j]? = some (keyV p) := by rw [← h2]; simp
      rw [h2']; rfl
    have hks : (Instr.keyThatStays (keyV p) (keyV p)).run Tryz.prog w = .ok (keyV p) w := by
      unfold Instr.keyThatStays
      have : Instr.sameBits 10000 (keyV p) (keyV p) = true := by
        show Instr.sameBits (9999 + 1) (.agg #[.int .u8 p.1, .int .i64 p.2]) (.agg #[.int .u8 p.1, .int .i64 p.2]) = true
        simp [Instr.sameBits]
      rw [this]; rfl
    simp only [Sem.run_bind, hj, hks, Result.andThen_ok]
    rw [Go.MapKept.run_setObj_map _ hb]
    refine ⟨_, rfl, ⟨_, _, Go.ChangeMaps.heap_setBlock_same hb _, ?_⟩, ⟨rfl, rfl, rfl, by simp, fun i _ hi => Go.ChangeMaps.heap_setBlock_other hb _ (fun e => hi (by rw [e]))⟩⟩
    rw [← hk]
    apply List.ext_getElem?
    intro m
    simp only [List.getElem?_map, Array.getElem?_toList, Array.getElem?_modify]
    by_cases hm : j = m
    · subst hm
      have h2' : Option.map (fun x => x.key) es[j]? = some (keyV p) := by rw [← h2]; simp
      cases hes : es[j]? with
      | none => rw [hes] at h2'; simp at h2'
      | some e => rw [hes] at h2'; simp at h2'; simp [h2']
    · simp [hm]

theorem makePorts (w : World) (n : Nat) : (Instr.makeMap 171 (some (.int .i64 n))).run Tryz.prog w = .ok (.map (some w.heap.size)) (w.alloc (.map #[] 0)) := by
  simp [Instr.makeMap, asInt, asIntOf]

theorem MapKeys.len {w : World} {b : Nat} {ks : List (Int × Int)} (h : MapKeys w b ks) (ty : TypeId) : (Builtin.len_ #[171] ty #[.map (some b)]).run Tryz.prog w = .ok (.int .i64 ks.length) w := by
  obtain ⟨es, clock, hb, hk⟩ := h
  have e : es.size = ks.length := by have := congrArg List.length hk; simpa using this
  rw [← e]
  unfold Builtin.len_
  simp only [List.getElem?_toArray, List.getElem?_cons_zero, Sem.run_bind, undPort, Go.MapKept.run_getObj_map hb, Result.andThen_ok]
  rfl

theorem snoc_ind {α : Type} {P : List α → Prop} (h0 : P []) (hs : ∀ l x, P l → P (l ++ [x])) : ∀ l, P l := fun l => by
  rw [← List.reverse_reverse l]
  induction l.reverse with
  | nil => exact h0
  | cons x r ih => rw [List.reverse_cons]; exact hs _ _ ih

/-- The keys in the order in which they came, each once. -/
def firsts (ks : List (Int × Int)) : List (Int × Int) := ks.foldl (fun acc p => if p ∈ acc then acc else acc ++ [p]) []
theorem firsts_snoc (ks : List (Int × Int)) (p : Int × Int) : firsts (ks ++ [p]) = if p ∈ firsts ks then firsts ks else firsts ks ++ [p] := by unfold firsts; rw [List.foldl_append]; rfl
theorem firsts_mem (ks : List (Int × Int)) : ∀ p, p ∈ firsts ks ↔ p ∈ ks := by
  refine snoc_ind (P := fun ks => ∀ p, p ∈ firsts ks ↔ p ∈ ks) (fun p => by simp [firsts]) ?_ ks
  · intro ks q ih p
    rw [firsts_snoc]
    split
    · rename_i h
      rw [ih, List.mem_append, List.mem_singleton]
      constructor
      · exact .inl
      · rintro (h' | rfl)
        · exact h'
        · exact (ih _).1 h
    · rw [List.mem_append, ih, List.mem_append]
theorem firsts_len (ks : List (Int × Int)) : (firsts ks).length ≤ ks.length ∧ ((firsts ks).length = ks.length ↔ ks.Nodup) := by
  refine snoc_ind (P := fun ks => (firsts ks).length ≤ ks.length ∧ ((firsts ks).length = ks.length ↔ ks.Nodup)) (by simp [firsts]) ?_ ks
  · intro ks q ih
    rw [firsts_snoc]
    have hnd : (ks ++ [q]).Nodup ↔ ks.Nodup ∧ q ∉ ks := by
      rw [List.nodup_append]
      constructor
      · rintro ⟨h1, -, h3⟩; exact ⟨h1, fun h => h3 q h q List.mem_cons_self rfl⟩
      · rintro ⟨h1, h2⟩; exact ⟨h1, List.nodup_cons.2 ⟨List.not_mem_nil, List.nodup_nil⟩, fun a ha b hb e => by rw [List.mem_singleton] at hb; subst hb; subst e; exact h2 ha⟩
    split
    · rename_i h
      rw [firsts_mem] at h
      simp only [List.length_append, List.length_singleton]
      refine ⟨by omega, ?_⟩
      rw [hnd]
      constructor
      · intro e; omega
      · intro e; exact absurd h e.2
    · rename_i h
      rw [firsts_mem] at h
      simp only [List.length_append, List.length_singleton]
      refine ⟨by omega, ?_⟩
      rw [hnd, ← ih.2]
      constructor
      · intro e; exact ⟨by omega, h⟩
      · intro e; omega

set_option maxRecDepth 100000 in
set_option maxHeartbeats 1000000 in
theorem namedTwice_any (c : CV) (C : Circ) (w : World) (h : Holds w c C) (hn7 : c.n7 ≤ 320) :
    Calls Tryz.prog 125 #[c.v] w fun e w' => e = .returned (.bool (!C.namedB)) ∧ Below w.heap.size w w' := by
  have HH := hide h
  have HB := hide (box_new w c)
  generalize hP : (fun (e : Ending) (w' : World) => e = .returned (.bool (!C.namedB)) ∧ Below w.heap.size w w') = Post
  have HP := hide hP
  clear h hP
  unfold CV.v
  generalize hA7 : c.a7 = A7 at HB ⊢
  have HA7 := hide hA7
  clear hA7
  have hmk := fun W => makePorts W c.n7
  go_enter Tryz.func125, Tryz.ntmps125
  go_wp2
  go_loopw [5, 13] (fun _ i wr => ∃ k : Nat, i = .int .i64 k ∧ k ≤ c.n7 ∧ Hid (Below w.heap.size w wr ∧ Box wr w.heap.size c ∧ MapKeys wr (w.heap.size + 1) (firsts (C.keys.take k)))) (fun _ i _ => c.n7 - (intOf i).toNat)
  case atStart =>
    refine ⟨0, rfl, Nat.zero_le _, below_two w _ _, HB.out.alloc _, #[], 0, ?_, rfl⟩
    have := heap_alloc_new (w.alloc (.cells #[.int .i64 c.m, .slice c.a1 c.n1 c.c1, .slice c.a2 c.n2 c.c2, .slice c.a3 c.n3 c.c3, .slice c.a4 c.n4 c.c4, .slice c.a5 c.n5 c.c5, .slice c.a6 c.n6 c.c6, .slice A7 c.n7 c.c7] 29)) (.map #[] 0)
    simpa using this
  case round =>
    clear HB
    obtain ⟨k, rfl, hk, HF⟩ := hrel
    by_cases hlt : k < c.n7
    · obtain ⟨b, off, ha, hbw, hcell⟩ := HH.out.r7.addr (by rw [cellsS_len, HH.out.l7]; omega)
      rw [HA7.out] at ha
      subst ha
      have hat := cellsS_at C.names k (by rw [HH.out.l7]; exact hlt)
      have hc0 := (HF.out.1.cell (p := ⟨b, off + k * 3, none⟩) hbw).trans (hcell _ _ hat.1)
      have hc1 := (HF.out.1.cell (p := ⟨b, off + k * 3 + 1, none⟩) hbw).trans (hcell _ _ hat.2.1)
      have hc2 := (HF.out.1.cell (p := ⟨b, off + k * 3 + 2, none⟩) hbw).trans (hcell _ _ hat.2.2)
      have hst : C.keys.take (k + 1) = C.keys.take k ++ [((atP C.names k).1, (atP C.names k).2.1)] := by
        unfold Circ.keys
        rw [← List.map_take, ← List.map_take, map_take _ _ _ (by rw [HH.out.l7]; exact hlt)]
      obtain ⟨x, HX⟩ : ∃ x, Hid (x = atP C.names k) := ⟨_, rfl⟩
      rw [← HX.out] at hc0 hc1 hc2 hst
      obtain ⟨x0, x1, x2⟩ := x
      dsimp only at hc0 hc1 hc2 hst
      have HST := hide hst
      have hal := below_alloc wr (.cells #[.int .u8 x0, .int .i64 x1, .string x2] 77)
      have HM1 : MapKeys (wr.alloc (.cells #[.int .u8 x0, .int .i64 x1, .string x2] 77)) (w.heap.size + 1) (firsts (C.keys.take k)) := by
        obtain ⟨es, clock, hb, hk⟩ := HF.out.2.2
        exact ⟨es, clock, (hal.block _ (Array.getElem?_eq_some_iff.1 hb).1).trans hb, hk⟩
      obtain ⟨w3, hrun, hm3, hg3⟩ := mapPut _ _ _ (x0, x1) (.agg #[]) HM1
      unfold keyV at hrun
      dsimp only at hrun
      have H3 := hide (And.intro hm3 (And.intro hg3 hal))
      clear hcell hat hst hm3 hg3 HM1 hal
      go_wp2
      go_roundw
      case rel =>
        refine ⟨k + 1, by go_num, by omega, ?_, ?_, ?_⟩
        · exact (belowThen HF.out.1 H3.out.2.2).grown H3.out.2.1 (by have := HF.out.1.size; simp; omega) (fun j hj => by cases hj; omega)
        · exact (HF.out.2.1.alloc _).grown H3.out.2.1 (by simp)
        · rw [HST.out, firsts_snoc]; exact H3.out.1
      case measure => simp [intOf]; omega
    · obtain rfl : k = c.n7 := by omega
      have hks : C.keys.length = c.n7 := by unfold Circ.keys; rw [List.length_map, HH.out.l7]
      have hm := HF.out.2.2
      rw [List.take_of_length_le (by rw [hks]; exact Nat.le_refl _)] at hm
      have hlen := fun ty => hm.len ty
      obtain ⟨q0, q1, q2, q3, q4, q5, q6, q7⟩ := HF.out.2.1.cells
      rw [HA7.out] at q7
      have hfl := firsts_len C.keys
      rw [hks] at hfl
      have hfin : Hid (∀ L : Nat, L = (firsts C.keys).length → Post (.returned (.bool (decide (L < c.n7)))) wr) := fun L hL => by
        rw [← HP.out]
        refine ⟨ret_bool ?_, HF.out.1⟩
        unfold Circ.namedB
        by_cases hnd : C.keys.Nodup
        · rw [decide_eq_true hnd, decide_eq_false (by have := hfl.2.2 hnd; omega)]; rfl
        · rw [decide_eq_false hnd, decide_eq_true (by
            have h1 := hfl.1
            have h2 : (firsts C.keys).length ≠ c.n7 := fun e => hnd (hfl.2.1 e)
            omega)]; rfl
      obtain ⟨L, HL⟩ : ∃ L, Hid (L = (firsts C.keys).length) := ⟨_, rfl⟩
      rw [← HL.out] at hlen
      have hend := hide (hfin.out L HL.out)
      clear hfin hfl hm
      go_wp2
      exact hend.out
end Go.Proofs.YtikjbbebfjleaaaGreatDoor

namespace Go.Proofs.YtikjbbebfjleaaaGreatDoor
open Go.RowKit

/-- What is asked of a circuit that comes in. -/
structure Fits (c : CV) (C : Circ) : Prop where
  n1 : c.n1 ≤ 281474976710656
  n2 : c.n2 ≤ 281474976710656
  n3 : c.n3 ≤ 281474976710656
  n4 : c.n4 ≤ 281474976710656
  n5 : c.n5 ≤ 281474976710656
  m : -9223372036854775808 ≤ c.m
  names : NamesFit C

theorem gates_nodup {C : Circ} (h : C.onceB = true) : C.gates.Nodup := by
  unfold Circ.onceB at h
  have h1 : C.vars.Nodup := of_decide_eq_true h
  have e : C.vars = (C.ins ++ C.lats.map (·.1)).map varN ++ C.gates := by
    unfold Circ.vars Circ.made Circ.gates
    rw [List.map_append, List.map_map]; rfl
  rw [e] at h1
  exact (List.nodup_append.1 h1).2.1

/-- What Order tells. -/
def OrderPost (w : World) (C : Circ) (e : Ending) (w' : World) : Prop :=
  Below w.heap.size w w' ∧ ((C.checkI ≠ 0 ∧ e = .returned (.tuple #[.slice none 0 0, .int .i64 C.checkI])) ∨
    (C.checkI = 0 ∧ ∃ a k, e = .returned (.tuple #[.slice a C.turn.length k, .int .i64 0]) ∧ NewInts w (C.turn.map (fun k : Nat => (k : Int))) (.slice a C.turn.length k) w'))

set_option maxRecDepth 100000 in
set_option maxHeartbeats 2000000 in
theorem order_any (c : CV) (C : Circ) (w : World) (h : Holds w c C) (hf : Fits c C) :
    Calls Tryz.prog 93 #[c.v] w (OrderPost w C) := by
  have HH := hide h
  have HFi := hide hf
  have HT := hide (fun W (hb : Below w.heap.size w W) => tooLong_any c C W (h.below hb) hf.n1 hf.n2 hf.n3 hf.n4 hf.n5)
  have HB := hide (box_new w c)
  generalize hP : OrderPost w C = Post
  have HP := hide hP
  have hfin : Hid (∀ r W, C.checkI = r → r ≠ 0 → Below w.heap.size w W → Post (.returned (.tuple #[.slice none 0 0, .int .i64 r])) W) := fun r W hr hr0 hW => by rw [← HP.out]; exact ⟨hW, .inl ⟨by rw [hr]; exact hr0, by rw [hr]⟩⟩
  have hgood : Hid (∀ W a k, C.checkI = 0 → NewInts w (C.turn.map (fun k : Nat => (k : Int))) (.slice a C.turn.length k) W → Post (.returned (.tuple #[.slice a C.turn.length k, .int .i64 0])) W) := fun W a k hr hn => by rw [← HP.out]; exact ⟨hn.2, .inr ⟨hr, a, k, rfl, hn⟩⟩
  clear h hf hP HP
  have hcv : c.v = .agg #[.int .i64 c.m, .slice c.a1 c.n1 c.c1, .slice c.a2 c.n2 c.c2, .slice c.a3 c.n3 c.c3, .slice c.a4 c.n4 c.c4, .slice c.a5 c.n5 c.c5, .slice c.a6 c.n6 c.c6, .slice c.a7 c.n7 c.c7] := rfl
  rw [hcv] at HT ⊢
  have HCV := hide hcv
  clear hcv
  go_enter Tryz.func93, Tryz.ntmps93
  go_wp2_with fail
  refine (HT.out _ (below_alloc w _)).mono ?_
  rintro e w1 ⟨rfl, hb1⟩
  have HB1 := hide (HB.out.below hb1)
  have HW1 := hide (belowThen (below_alloc w _) hb1)
  obtain ⟨q0, q1, q2, q3, q4, q5, q6, q7⟩ := HB1.out.cells
  clear hb1 HT HB
  cases hlong : C.longB with
  | true =>
    have hend := hide (hfin.out 3 w1 (by unfold Circ.checkI; rw [if_pos hlong]) (by decide) HW1.out)
    clear hfin
    go_wp2
    exact hend.out
  | false =>
    have hS := small_of hlong
    have HS := hide hS
    have hn7 : c.n7 ≤ 320 := by rw [← HH.out.l7]; exact hS.names
    have hRL := rightLiterals_any c C w1 (HH.out.below HW1.out) hS HFi.out.m
    rw [HCV.out] at hRL
    have HRL := hide hRL
    have HLong := hide hlong
    clear hS hRL hlong
    go_wp2_with fail
    refine HRL.out.mono ?_
    rintro e w2 ⟨rfl, hb2⟩
    have HB2 := hide (HB1.out.below hb2)
    have HW2 := hide (belowThen HW1.out hb2)
    clear q0 q1 q2 q3 q4 q5 q6 q7 HRL HB1 HW1 hb2
    obtain ⟨q0, q1, q2, q3, q4, q5, q6, q7⟩ := HB2.out.cells
    cases hlits : C.litsB with
    | false =>
      have hend := hide (hfin.out 1 w2 (by unfold Circ.checkI; rw [if_neg (by rw [HLong.out]; decide), if_pos (by rw [hlits]; rfl)]) (by decide) HW2.out)
      clear hfin
      go_wp2
      exact hend.out
    | true =>
      have HLits := hide hlits
      have hL := hide (lits_of hlits)
      have hRN := rightNames_any c C w2 (HH.out.below HW2.out) hn7 HFi.out.names
      rw [HCV.out] at hRN
      have HRN := hide hRN
      clear hRN hlits
      go_wp2_with fail
      refine HRN.out.mono ?_
      rintro e w3 ⟨rfl, hb3⟩
      have HB3 := hide (HB2.out.below hb3)
      have HW3 := hide (belowThen HW2.out hb3)
      clear q0 q1 q2 q3 q4 q5 q6 q7 HRN HB2 HW2 hb3
      obtain ⟨q0, q1, q2, q3, q4, q5, q6, q7⟩ := HB3.out.cells
      cases hnam : C.namesB with
      | false =>
        have hend := hide (hfin.out 1 w3 (by unfold Circ.checkI; rw [if_neg (by rw [HLong.out]; decide), if_pos (by rw [hnam]; simp)]) (by decide) HW3.out)
        clear hfin
        go_wp2
        exact hend.out
      | true =>
        have HNam := hide hnam
        have hV := variables_any c C w3 (HH.out.below HW3.out) HS.out hL.out
        rw [HCV.out] at hV
        have HV := hide hV
        clear hV hnam
        go_wp2_with fail
        refine HV.out.mono ?_
        intro e w4 hv4
        have hb4 := hv4.1
        have HB4 := hide (HB3.out.below hb4)
        have HW4 := hide (belowThen HW3.out hb4)
        clear q0 q1 q2 q3 q4 q5 q6 q7 HV HB3 HW3 hb4
        obtain ⟨q0, q1, q2, q3, q4, q5, q6, q7⟩ := HB4.out.cells
        have hpre : Hid (∀ r, (if (C.onceB && C.namedB) = false then (10 : Int) else if C.knownB = false then 8 else if C.turn.length < C.ands.length then 9 else 0) = r → C.checkI = r) := fun r hr => by
          unfold Circ.checkI
          rw [if_neg (by rw [HLong.out]; decide), if_neg (by rw [HLits.out, HNam.out]; decide)]
          exact hr
        rcases hv4.2 with ⟨hon, rfl⟩ | ⟨hon, g, bs, rfl, hkn, hown⟩
        · have hend := hide (hfin.out 10 w4 (hpre.out 10 (by rw [if_pos (by rw [hon]; rfl)])) (by decide) HW4.out)
          clear hfin hpre hv4 hon
          go_wp2
          exact hend.out
        · have HOn := hide hon
          have HKn := hide hkn
          have HOwn := hide hown
          have hNT := namedTwice_any c C w4 (HH.out.below HW4.out) hn7
          rw [HCV.out] at hNT
          have HNT := hide hNT
          clear hv4 hon hkn hown hNT
          go_wp2_with fail
          refine HNT.out.mono ?_
          rintro e w5 ⟨rfl, hb5⟩
          have HB5 := hide (HB4.out.below hb5)
          have HW5 := hide (belowThen HW4.out hb5)
          have HOwn5 := hide (own_below HOwn.out hb5)
          clear q0 q1 q2 q3 q4 q5 q6 q7 HNT HB4 HW4 hb5 HOwn
          obtain ⟨q0, q1, q2, q3, q4, q5, q6, q7⟩ := HB5.out.cells
          cases hnm : C.namedB with
          | false =>
            have hend := hide (hfin.out 10 w5 (hpre.out 10 (by rw [if_pos (by rw [hnm]; simp)])) (by decide) HW5.out)
            clear hfin hpre
            go_wp2
            exact hend.out
          | true =>
            have HNm := hide hnm
            have hAK := allKnown_any c C g (C.max.toNat + 1) bs w5 (HH.out.below HW5.out) HS.out hL.out rfl HKn.out HOwn5.out
            rw [HCV.out] at hAK
            have HAK := hide hAK
            clear hAK hnm
            obtain ⟨n0, HN0⟩ : ∃ n0, Hid (n0 = C.max.toNat + 1) := ⟨_, rfl⟩
            rw [← HN0.out] at HAK ⊢
            go_wp2_with fail
            refine HAK.out.mono ?_
            rintro e w6 ⟨rfl, hb6⟩
            have HB6 := hide (HB5.out.below hb6)
            have HW6 := hide (belowThen HW5.out hb6)
            clear q0 q1 q2 q3 q4 q5 q6 q7 HAK HB5 HW5 hb6 HOwn5
            obtain ⟨q0, q1, q2, q3, q4, q5, q6, q7⟩ := HB6.out.cells
            have hpre2 : Hid (∀ r, (if C.knownB = false then (8 : Int) else if C.turn.length < C.ands.length then 9 else 0) = r → C.checkI = r) := fun r hr => hpre.out r (by rw [if_neg (by rw [HOn.out, HNm.out]; decide)]; exact hr)
            cases hkb : C.knownB with
            | false =>
              have hend := hide (hfin.out 8 w6 (hpre2.out 8 (by rw [if_pos hkb])) (by decide) HW6.out)
              clear hfin hpre hpre2
              go_wp2
              exact hend.out
            | true =>
              have hIT := inTurn_any c C w6 (HH.out.below HW6.out) HS.out hL.out (gates_nodup HOn.out)
              rw [HCV.out] at hIT
              have HIT := hide hIT
              have HKb := hide hkb
              clear hIT hkb
              go_wp2_with fail
              refine HIT.out.mono ?_
              rintro e w7 ⟨v7, rfl, hn7⟩
              obtain ⟨a7, c7, rfl⟩ := own_form hn7.1
              have HB7 := hide (HB6.out.below hn7.2)
              have HW7 := hide (belowThen HW6.out hn7.2)
              have HN7 : Hid (NewInts w (C.turn.map (fun k : Nat => (k : Int))) (.slice a7 (C.turn.map (fun k : Nat => (k : Int))).length c7) w7) := ⟨own_le hn7.1 HW6.out.size, HW7.out⟩
              rw [List.length_map] at HN7
              clear q0 q1 q2 q3 q4 q5 q6 q7 HIT HB6 HW6 hn7
              obtain ⟨q0, q1, q2, q3, q4, q5, q6, q7⟩ := HB7.out.cells
              rw [List.length_map]
              have h6l : C.ands.length = c.n6 := HH.out.l6
              have hpre3 : Hid (∀ r, (if C.turn.length < c.n6 then (9 : Int) else 0) = r → C.checkI = r) := fun r hr => hpre2.out r (by rw [if_neg (by rw [HKb.out]; decide), h6l]; exact hr)
              clear hpre hpre2 h6l
              replace hgood := hide (hgood.out w7 a7 c7 · HN7.out)
              clear HN7
              generalize C.turn.length = TL at *
              by_cases hlt : TL < c.n6
              · have hend := hide (hfin.out 9 w7 (hpre3.out 9 (if_pos hlt)) (by decide) HW7.out)
                have hltb : decide (TL < c.n6) = true := decide_eq_true hlt
                clear hfin hpre3 hgood
                go_wp2
                exact hend.out
              · have hend := hide (hgood.out (hpre3.out 0 (if_neg hlt)))
                clear hfin hpre3 hgood
                go_wp2
                exact hend.out

set_option maxRecDepth 100000 in
set_option maxHeartbeats 2000000 in
theorem check_any (c : CV) (C : Circ) (w : World) (h : Holds w c C) (hf : Fits c C) :
    Calls Tryz.prog 63 #[c.v] w fun e w' => e = .returned (.int .i64 C.checkI) ∧ Below w.heap.size w w' := by
  have HO := hide (fun W (hb : Below w.heap.size w W) => order_any c C W (h.below hb) hf)
  clear h hf
  unfold CV.v at HO ⊢
  go_enter Tryz.func63, Tryz.ntmps63
  go_wp2_with fail
  refine (HO.out _ (below_alloc w _)).mono ?_
  rintro e w1 ⟨hb, ⟨hc, rfl⟩ | ⟨hc, a, k, rfl, hn⟩⟩
  · have hend : Hid (Below w.heap.size w w1) := belowThen (below_alloc w _) hb
    clear HO hb hc
    go_wp2
    go_ret
    exact ⟨rfl, hend.out⟩
  · have hend : Hid (C.checkI = 0 ∧ Below w.heap.size w w1) := ⟨hc, belowThen (below_alloc w _) hb⟩
    clear HO hb hc hn
    go_wp2
    go_ret
    have he := hend.out.1
    exact ⟨by rw [he]; rfl, hend.out.2⟩
end Go.Proofs.YtikjbbebfjleaaaGreatDoor
