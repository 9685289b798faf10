/-
  THE WALK of Least.
-/
import Derived.Test.YtcbgnmkipbhncaaLeastMid
namespace Go.Proofs.Ytcbgnmkipbhncaa
open Go.RowKit Go.Maps
set_option linter.unusedSectionVars false
variable [Inhabited El]

/-- WHAT Least TELLS. -/
def LeastPost (w : World) (ls : List (List Int)) (e : Ending) (w' : World) : Prop := ∃ v rs, e = .returned v ∧ w'.ownsRow w.heap.size 22 1 v rs.length (rs.map El.v) ∧ Below w.heap.size w w' ∧ (∀ r ∈ rs, ElOk w' r) ∧ xsOf rs = leastL ls

theorem rights_len (ls : List (List Int)) : ∀ i, (rights i ls).length ≤ ls.length := by
  induction ls with
  | nil => intro i; simp [rights]
  | cons l r ih =>
    intro i
    have := ih (i + 1)
    rw [rights]
    split <;> simp <;> omega
theorem rights_src (ls : List (List Int)) : ∀ i, ∀ p ∈ rights i ls, ∃ l ∈ ls, p.2 = cubeA l := by
  induction ls with
  | nil => intro i p hp; cases hp
  | cons l r ih =>
    intro i p hp
    rw [rights] at hp
    split at hp
    · rcases List.mem_cons.1 hp with rfl | hp
      · exact ⟨l, List.mem_cons_self, rfl⟩
      · obtain ⟨l', h1, h2⟩ := ih _ p hp
        exact ⟨l', List.mem_cons_of_mem _ h1, h2⟩
    · obtain ⟨l', h1, h2⟩ := ih _ p hp
      exact ⟨l', List.mem_cons_of_mem _ h1, h2⟩

theorem keeper_new {wA w2 w3 : World} {q : Nat} (h : NkMid wA q w2) (hb : Below w2.heap.size w2 w3) : Keeper w3 (wA.heap.size + 2) wA.heap.size (wA.heap.size + 1) w3.heap.size 0 wA (.map []) (fun _ => .slice none 0 0) (fun _ => []) := by
  have h3 := h.kept hb
  obtain ⟨DC, hc⟩ := h3.cnt
  have hbg := h3.big
  exact ⟨h3.c0, h3.c1, ⟨_, DC, hc⟩, h3.und, fun n => rfl, fun n => World.ownsRow_nil _ _ _ _, (fun m n _ g hm => by cases hm), by omega, by omega, by omega, by omega, by omega, Nat.le_refl _, (fun n e he => by cases he), h3.below, by omega⟩

theorem own_blocks {w w' : World} {base n size : Nat} {e : TypeId} {v : Value} {xs : List Value} (h : w.ownsRow base e size v n xs) (hb : ∀ g, v.ownBlock = some g → w'.heap[g]? = w.heap[g]?) : w'.ownsRow base e size v n xs := by
  obtain ⟨h1, h2⟩ := h
  refine ⟨h1, ?_⟩
  rcases h2 with h2 | ⟨g, cap, cur, rfl, hg, hh, r⟩
  · exact .inl h2
  · exact .inr ⟨g, cap, cur, rfl, hg, (hb g rfl).trans hh, r⟩

structure LEnd (wA : World) (Bv : Nat) (vy : Value) (es : List El) (i : Nat) (v : Value) (wr : World) : Prop where
  own : wr.ownsRow Bv 22 1 v i ((es.take i).map El.v)
  eOwn : wr.ownsRow wA.heap.size 53 2 vy es.length (cellsE es)
  apart : vy.ownBlock = none ∨ vy.ownBlock ≠ v.ownBlock
  below : Below wA.heap.size wA wr
  bv : wA.heap.size ≤ Bv ∧ Bv ≤ wr.heap.size

theorem LEnd.step {wA : World} {Bv : Nat} {vy v v' : Value} {es : List El} {i : Nat} {wr w' : World} {x : El} {o o' : Obj} (h : LEnd wA Bv vy es i v wr) (hi : i < es.length) (hx : x = atP es i)
    (hown : w'.ownsRow Bv 22 1 v' (i + 1) ((es.take i).map El.v ++ [x.v])) (hg : ((wr.alloc o).alloc o').grownBy w' v.ownBlock) (hat : v'.ownBlock = v.ownBlock ∨ v'.ownBlock = some ((wr.alloc o).alloc o').heap.size) : LEnd wA Bv vy es (i + 1) v' w' := by
  have hsz : ((wr.alloc o).alloc o').heap.size = wr.heap.size + 2 := by simp
  have e : es.take (i + 1) = es.take i ++ [x] := by rw [List.take_succ_eq_append_getElem hi, ← atP_eq, ← hx]
  refine ⟨by rw [e, List.map_append]; exact hown, ((h.eOwn.alloc o).alloc o').kept hg h.apart, ?_, ?_, h.bv.1, by have := hg.size; have := h.bv.2; omega⟩
  · rcases hat with e | e
    · rw [e]; exact h.apart
    · cases hvy : vy.ownBlock with
      | none => exact .inl rfl
      | some g =>
        refine .inr ?_
        rw [e]
        intro e2
        have := (h.eOwn.lt g hvy).2
        have := Option.some.inj e2
        omega
  · exact ((h.below.grown (World.grownBy_alloc wr o none) h.below.size (fun k hk => by cases hk)).grown (World.grownBy_alloc _ o' none) (by have := h.below.size; simp; omega) (fun k hk => by cases hk)).grown hg (by have := h.below.size; omega) (fun k hk => by have := (h.own.lt k hk).1; have := h.bv.1; omega)

set_option maxRecDepth 100000 in
set_option maxHeartbeats 4000000 in
theorem least_any (a : Option Addr) (n c : Nat) (es : List El) (w : World) (hr : RowL w a es) (hx : es.length = n) (hn : n ≤ 900) (hok : ∀ e ∈ es, ElArg w e ∧ e.xs.length ≤ 1000) :
    Calls Try.prog 25 #[.slice a n c] w (LeastPost w (xsOf es)) := by
  obtain ⟨i0, hi, hz0, hz1, hz2⟩ := info_parts infoE
  obtain ⟨i1, hi1, hy0, hy1, hy2⟩ := info_parts infoS
  have HRO := hide (rightOnes_any a n c es w hr hx (by omega) hok)
  have hlen : (xsOf es).length = n := by simp [xsOf, hx]
  have hls : ∀ l ∈ xsOf es, l.length ≤ 1000 := fun l hl => by obtain ⟨e, he, rfl⟩ := List.mem_map.1 hl; exact (hok e he).2
  obtain ⟨ls, hlseq⟩ : ∃ ls, ls = xsOf es := ⟨_, rfl⟩
  unfold RoPost at HRO
  rw [← hlseq] at HRO hlen hls ⊢
  have HLS := hide (And.intro hlen hls)
  generalize hP : LeastPost w ls = Post
  have HP := hide hP
  clear hr hx hok hlen hls hlseq hP
  go_enter Try.func25, Try.ntmps25
  go_wp2_with fail
  refine HRO.out.mono ?_
  rintro e wA ⟨vA, rs, rfl, ⟨hownA, hbA⟩, hkeys, hoks⟩
  obtain ⟨aA, cA, rfl, hrowA, hncA, -, -, -, hgA⟩ := rowE_of_own hownA
  have hrl : rs.length ≤ n := by
    have h1 := rights_len ls 0
    rw [← hkeys, List.length_map, HLS.out.1] at h1
    exact h1
  have hrp : ∀ r ∈ rs, ElOk wA r ∧ r.xs.length ≤ 1000 ∧ ∀ y ∈ r.xs, Fits y := fun r hr => by
    obtain ⟨l, hl, e⟩ := rights_src ls 0 (keyE r) (by rw [← hkeys]; exact List.mem_map.2 ⟨r, hr, rfl⟩)
    have e' : r.xs = cubeA l := e
    exact ⟨hoks r hr, by rw [e']; have := cubeA_len l; have := HLS.out.2 l hl; omega, by rw [e']; exact cubeA_fits l⟩
  have HNK := hide (newKeeper_any aA rs.length cA rs wA hrowA rfl (by omega) hgA (fun r hr => ⟨(hrp r hr).1, (hrp r hr).2.1, fun y hy => WalkArith.wf_i64 (n := y) (by have := ((hrp r hr).2.2 y hy).2.1; have := ((hrp r hr).2.2 y hy).2.2; omega)⟩))
  have HIO := hide (fun W (hW : Below wA.heap.size wA W) => inOrderE_any beforeShort aA rs.length cA rs W (hrowA.below hW) rfl hncA (by omega))
  have HRP := hide (And.intro hkeys hrp)
  have HBA := hide hbA
  obtain ⟨m, HML⟩ : ∃ m, Hid (m = rs.length) := ⟨_, rfl⟩
  rw [← HML.out] at HNK HIO hrl ⊢
  clear hownA hbA hkeys hoks hrowA hncA hgA hrp HRO
  go_wp2_with fail
  refine HNK.out.mono ?_
  rintro e w2 ⟨rfl, q0, hnk⟩
  have HN2 := hide hnk
  clear hnk HNK
  go_wp2_with fail
  refine (HIO.out _ HN2.out.below).mono ?_
  rintro e w3 ⟨v3, ss, rfl, ⟨hown3, hb3⟩, hperm, hrise⟩
  obtain ⟨a3, c3, rfl, hrow3, -, -, -, -, hg3⟩ := rowE_of_own hown3
  have hgs : ∀ g, a3 = some ⟨g, 0, none⟩ → w2.heap.size ≤ g := fun g hg => by subst hg; exact (hown3.lt g rfl).1
  have hsl : ss.length = m := by rw [HML.out]; exact hperm.length_eq
  have hS := sorted_of HRP.out.1 hperm hrise
  have hsp : ∀ r ∈ ss, ElOk wA r ∧ r.xs.length ≤ 1000 ∧ ∀ y ∈ r.xs, Fits y := fun r hr => HRP.out.2 r (hperm.mem_iff.1 hr)
  have hL0 : LMid (rights 0 ls) ss wA w3 0 0 (.slice none 0 0) [] 0 (.map []) (fun _ => .slice none 0 0) (fun _ => []) w3 := by
    refine ⟨keeper_new HN2.out hb3, World.ownsRow_nil _ _ _ _, rfl, (fun n g hn => by cases hn), fun k _ _ => rfl, Nat.le_refl _, fun e => ?_, List.Pairwise.nil, (fun n e he => by cases he), (fun e he => by cases he), fun n => Nat.le_refl _, Nat.le_refl _⟩
    constructor
    · intro h; cases h
    · rintro ⟨⟨j, hj, _⟩, _⟩; exact absurd hj (Nat.not_lt_zero _)
  rw [hsl] at hg3 ⊢
  have HS := hide (And.intro hS (And.intro hsp (And.intro hrow3 (And.intro hg3 (And.intro hsl (fun g hg => Nat.le_trans HN2.out.big (hgs g hg)))))))
  have HL0 := hide hL0
  have hbg3 : wA.heap.size + 3 ≤ w3.heap.size := by have := HN2.out.big; have := hb3.size; omega
  clear hS hsp hrow3 hg3 hgs hsl hL0 hown3 hb3 hperm hrise HIO HN2
  go_wp2
  go_loopw [5, 18] (fun v ix wr => ∃ (i q nU : Nat) (K : List El) (D : DataW Value) (gv : Int → Value) (G : Int → List El), ix = .int .i64 i ∧ i ≤ m ∧ q ≤ i ∧ Hid (LMid (rights 0 ls) ss wA w3 i q v K nU D gv G wr)) (fun _ ix _ => m - (intOf ix).toNat)
  case atStart => exact ⟨0, 0, 0, [], _, _, _, rfl, Nat.zero_le _, Nat.le_refl _, HL0.out⟩
  case round =>
    clear HL0
    obtain ⟨i, q, nU, K, D, gv, G, rfl, him, hqi, HM⟩ := hrel
    have hKs : ∀ e ∈ K, e ∈ ss := fun e he => by obtain ⟨⟨j, hj, rfl⟩, _⟩ := (HM.out.mem e).1 he; exact atP_mem ss j (by rw [HS.out.2.2.2.2.1]; omega)
    have HKF : Hid (∀ e ∈ K, ∀ y ∈ e.xs, Fits y) := fun e he => (HS.out.2.1 e (hKs e he)).2.2
    clear hKs
    by_cases hlt : i < m
    · obtain ⟨gs, rfl⟩ := HS.out.2.2.2.1 (by omega)
      obtain ⟨hp1, hp2, hgl⟩ := cellsE_row HS.out.2.2.1 i (by rw [HS.out.2.2.2.2.1]; exact hlt)
      have hgne : gs ≠ wA.heap.size + 1 := by have := HS.out.2.2.2.2.2 gs rfl; omega
      replace hp1 : wr.cell? ⟨gs, i * 2, none⟩ = some (.int .i64 (atP ss i).place) := (World.cell?_of_block (HM.out.old gs hgl hgne)).trans hp1
      replace hp2 : wr.cell? ⟨gs, i * 2 + 1, none⟩ = some (atP ss i).v := (World.cell?_of_block (HM.out.old gs hgl hgne)).trans hp2
      have hil : i < ss.length := by rw [HS.out.2.2.2.2.1]; exact hlt
      have hxp := HS.out.2.1 _ (atP_mem ss i hil)
      have hstep := HS.out.1.step hil HM.out.mem
      have hpart := part_iff HM.out HKF.out (atP ss i).xs
      obtain ⟨x, HXX⟩ : ∃ x, Hid (x = atP ss i) := ⟨_, rfl⟩
      rw [← HXX.out] at hp1 hp2 hxp hstep hpart
      obtain ⟨pl, xa, xc, xs⟩ := x
      replace hp2 : wr.cell? ⟨gs, i * 2 + 1, none⟩ = some (.slice xa xs.length xc) := hp2
      dsimp only at hp1 hpart hstep
      have hbr := HM.out.big
      have hW1 : Hid (∀ o, Below wr.heap.size wr (wr.alloc o)) := fun o => (Below.refl _ _).grown (World.grownBy_alloc wr o none) (Nat.le_refl _) (fun k hk => by cases hk)
      have HHP : Hid (∀ o, Calls Try.prog 45 #[.pointer (some ⟨wA.heap.size + 2, 0, none⟩), .slice xa xs.length xc] (wr.alloc o) fun e w' => e = .returned (.bool (partB G xs)) ∧ Below (wr.alloc o).heap.size (wr.alloc o) w') := fun o =>
        hasPartOf_any (wA.heap.size + 2) wA.heap.size (wA.heap.size + 1) w3.heap.size nU wA D gv G xa xs.length xc xs (wr.alloc o) (HM.out.kp.under (hW1.out o)) ((hxp.1.below (HM.out.kp.below.trans ((hW1.out o).mono HM.out.kp.below.size))).1) rfl hxp.2.1 hxp.2.2
          (fun n => ⟨by have := HM.out.cnt n; omega, fun e he => by
            have hK := (HM.out.grp1 n e he).1
            obtain ⟨⟨j, hj, rfl⟩, _⟩ := (HM.out.mem e).1 hK
            have := HS.out.2.1 _ (atP_mem ss j (by rw [HS.out.2.2.2.2.1]; omega))
            exact this.2⟩)
      have HKP : Hid (∀ W, Below wr.heap.size wr W → Calls Try.prog 46 #[.pointer (some ⟨wA.heap.size + 2, 0, none⟩), .slice xa xs.length xc] W (KeepPost W (wA.heap.size + 2) wA.heap.size (wA.heap.size + 1) w3.heap.size nU wA gv G ⟨pl, xa, xc, xs⟩)) := fun W hW =>
        keep_any (wA.heap.size + 2) wA.heap.size (wA.heap.size + 1) w3.heap.size nU wA D gv G ⟨pl, xa, xc, xs⟩ W (HM.out.kp.under hW) hxp.1 hxp.2.1 hxp.2.2 (by have := HM.out.cntU; omega) (fun n => by have := HM.out.cnt n; omega)
      obtain ⟨ln, HLN⟩ : ∃ ln, Hid (ln = xs.length) := ⟨_, rfl⟩
      rw [← HLN.out] at hp2 HHP HKP
      clear hgl hgne
      by_cases hid : Ideal (rights 0 ls) (keyE ⟨pl, xa, xc, xs⟩)
      · have hpf : partB G xs = false := by
          cases hp : partB G xs with
          | false => rfl
          | true => exact absurd (hpart.1 hp) (hstep.1 hid)
        rw [hpf] at HHP
        have HID := hide hid
        clear hid hpf hpart hstep hxp
        have HTB : Hid (∀ w5 w6 : World, Below (wr.alloc (.cells #[.int .i64 pl, .slice xa ln xc] 53)).heap.size (wr.alloc (.cells #[.int .i64 pl, .slice xa ln xc] 53)) w5 → (∀ k, k < w5.heap.size → k ≠ wA.heap.size + 1 → (∀ n, (gv n).ownBlock ≠ some k) → w6.heap[k]? = w5.heap[k]?) →
            w6.cell? ⟨wr.heap.size, 0, none⟩ = some (.int .i64 pl) ∧ w6.cell? ⟨wr.heap.size, 1, none⟩ = some (.slice xa ln xc) ∧ w6.ownsRow w3.heap.size 53 2 u5 q (cellsE K)) := fun w5 w6 hb5 hold => by
          have hal : (wr.alloc (.cells #[.int .i64 pl, .slice xa ln xc] 53)).heap.size = wr.heap.size + 1 := by simp
          have hs5 := hb5.size
          have htb : w6.heap[wr.heap.size]? = some (.cells #[.int .i64 pl, .slice xa ln xc] 53 (0, 0)) :=
            (hold _ (by omega) (by omega) (fun n e => by have := ((HM.out.kp.own n).lt _ e).2; omega)).trans ((hb5.block _ (by omega)).trans (heap_alloc_new wr _))
          refine ⟨cell_of_row w6 _ 0 _ _ _ htb, cell_of_row w6 _ 1 _ _ _ htb, own_blocks HM.out.own (fun g hg => ?_)⟩
          have hgl := HM.out.own.lt g hg
          exact (hold g (by omega) (by omega) (fun n e => HM.out.apart n g e hg)).trans ((hb5.block g (by omega)).trans ((World.grownBy_alloc wr _ none).block g hgl.2 (by simp)))
        go_wp2_with fail
        refine (HHP.out _).mono ?_
        rintro e w5 ⟨rfl, hb5⟩
        have HB5 := hide hb5
        have HB5r : Hid (Below wr.heap.size wr w5) := (hW1.out _).trans (hb5.mono (hW1.out _).size)
        have hc51 : w5.cell? ⟨wr.heap.size, 1, none⟩ = some (.slice xa ln xc) := (hb5.cell (p := ⟨wr.heap.size, 1, none⟩) (by simp)).trans (cell_of_row _ _ 1 _ _ _ (heap_alloc_new wr _))
        clear hb5
        go_wp2_with fail
        refine (HKP.out _ HB5r.out).mono ?_
        rintro e w6 hkp
        have he := hkp.1
        subst he
        have HKPo := hide hkp
        have hs6 : w5.heap.size ≤ w6.heap.size := by obtain ⟨-, r, D', v', -, -, -, h, -, -⟩ := hkp; exact h
        have hold : ∀ k, k < w5.heap.size → k ≠ wA.heap.size + 1 → (∀ n, (gv n).ownBlock ≠ some k) → w6.heap[k]? = w5.heap[k]? := by obtain ⟨-, r, D', v', -, -, -, -, h, -⟩ := hkp; exact h
        obtain ⟨hc60, hc61, hown6⟩ := HTB.out w5 w6 HB5.out hold
        have hs5 : wr.heap.size ≤ w5.heap.size := HB5r.out.size
        clear hkp hold hc51
        go_wp2_with (at_builtin; refine wpList_append_own_at _ rfl (.tmp 31) (.tmp 33) 47 rfl w3.heap.size 53 i0 (.agg #[.int .i64 0, .slice none 0 0]) 2 32 Try.underlying47 hi hz0 hz1 hz2 rfl (by decide) _ _ _ rfl (hown6.alloc _) ⟨w6.heap.size, 0, none⟩ 1 1 [.int .i64 pl, .slice xa ln xc] rfl rfl (cell_two_new _ _ _ _) (by intro u hu; simp at hu; rcases hu with rfl | rfl <;> rfl) (by unfold maxLen; omega) (by omega) (by simp; omega) ?_; intro v7 w7 hown7 hg7 _ hat7)
        go_roundw
        case rel =>
          have ev : [.int .i64 pl, .slice xa ln xc] = cellsE [⟨pl, xa, xc, xs⟩] := by simp [cellsE, El.v, HLN.out]
          rw [ev] at hown7
          obtain ⟨D', gv', G', hM'⟩ := HM.out.take HS.out.1 (by rw [HS.out.2.2.2.2.1]; exact hlt) HXX.out HB5r.out HID.out HKPo.out hown7 hg7 hat7
          exact ⟨i + 1, q + 1, nU + 1, _, D', gv', G', by go_num, by omega, by omega, hM'⟩
        case measure => simp [intOf]; omega
      · have hpt : partB G xs = true := hpart.2 (Classical.byContradiction fun h => hid (hstep.2 h))
        rw [hpt] at HHP
        have HID := hide hid
        clear hid hpt hpart hstep hxp HKP
        go_wp2_with fail
        refine (HHP.out _).mono ?_
        rintro e w5 ⟨rfl, hb5⟩
        have HB5r : Hid (Below wr.heap.size wr w5) := (hW1.out _).trans (hb5.mono (hW1.out _).size)
        clear hb5
        go_wp2_with fail
        go_roundw
        case rel => exact ⟨i + 1, q, nU, K, D, gv, G, by go_num, by omega, by omega, HM.out.skip HB5r.out (by rw [← HXX.out]; exact HID.out)⟩
        case measure => simp [intOf]; omega
    · obtain rfl : i = m := by omega
      obtain ⟨wk, hwk⟩ : ∃ wk, wk = wr := ⟨_, rfl⟩
      subst hwk
      have hKm : ∀ e, e ∈ K ↔ e ∈ ss ∧ Ideal (rights 0 ls) (keyE e) := fun e => by
        rw [HM.out.mem e]
        constructor
        · rintro ⟨⟨j, hj, rfl⟩, h2⟩; exact ⟨atP_mem ss j (by rw [HS.out.2.2.2.2.1]; exact hj), h2⟩
        · rintro ⟨h1, h2⟩
          obtain ⟨j, hj, rfl⟩ := List.getElem_of_mem h1
          exact ⟨⟨j, by rw [← HS.out.2.2.2.2.1]; exact hj, (atP_eq ss j hj).symm⟩, h2⟩
      obtain ⟨ak, ck, hu5, hrowk, hnck, hlk, -, -, -⟩ := rowE_of_own HM.out.own
      subst hu5
      have HK := hide (And.intro hKm (And.intro hrowk (And.intro hnck hlk)))
      have hbw : wA.heap.size ≤ wk.heap.size := HM.out.kp.below.size
      clear hKm hrowk hnck hlk hlt
      go_wp2_with (at_make; refine wpList_make_len _ rfl (.const (.int .i64 0)) (.tmp 37) 33 rfl 22 i1 (.slice none 0 0) Try.underlying33 hi1 hy0 hy1 .i64 .i64 _ _ 0 q rfl rfl rfl (by omega) (by omega) (by rw [hy2]; omega) (by unfold maxLen; omega) ?_; intro w8 cur hgc hcs hgr)
      have hb8 : Below wk.heap.size wk w8 := (Below.refl _ _).grown hgr (Nat.le_refl _) (fun k hk => by cases hk)
      have hown8 : w8.ownsRow wk.heap.size 22 1 (.slice (some ⟨wk.heap.size, 0, none⟩) 0 q) 0 [] := ⟨by simp, .inr ⟨wk.heap.size, q, cur, rfl, Nat.le_refl _, hgc, Nat.zero_le _, by unfold maxLen; omega, by simpa using hcs, by simp⟩⟩
      have HIO := hide (inOrderE_any beforeEarly ak q ck K w8 (HK.out.2.1.below hb8) HK.out.2.2.2 HK.out.2.2.1 (by omega))
      have H8 := hide (And.intro hb8 (And.intro hown8 (show wk.heap.size < w8.heap.size from (Array.getElem?_eq_some_iff.1 hgc).1)))
      clear hgc hcs hgr hb8 hown8
      go_wp2_with fail
      refine HIO.out.mono ?_
      rintro e w9 ⟨v9, es2, rfl, ⟨hown9, hb9⟩, hperm, hrise⟩
      have hlt9 := hown9.lt
      obtain ⟨a9, c9, rfl, -, -, -, -, -, hg9⟩ := rowE_of_own hown9
      have hl9 : es2.length = q := by rw [← HK.out.2.2.2]; exact hperm.length_eq
      have hL : LEnd wA wk.heap.size (.slice a9 es2.length c9) es2 0 (.slice (some ⟨wk.heap.size, 0, none⟩) 0 q) w9 := by
        obtain ⟨q1, q2, q3⟩ := H8.out
        refine ⟨own_below q2 hb9, own_le hown9 (by have := q1.size; omega), ?_, (HM.out.kp.below.trans (q1.mono hbw)).trans (hb9.mono (by have := q1.size; omega)), hbw, by have := q1.size; have := hb9.size; omega⟩
        cases hvy : (Value.slice a9 es2.length c9).ownBlock with
        | none => exact .inl rfl
        | some g =>
          refine .inr fun e2 => ?_
          have h3 := (hlt9 g hvy).1
          have e3 : g = wk.heap.size := by cases e2; rfl
          omega
      have hxs := least_end HS.out.1 HK.out.1 HM.out.nd hperm hrise
      have hoks : ∀ r ∈ es2, ElOk wA r := fun r hr => (HS.out.2.1 r ((HK.out.1 r).1 (hperm.mem_iff.1 hr)).1).1
      rw [hl9] at hL hg9 ⊢
      have HL := hide hL
      have HE := hide (And.intro hxs (And.intro hoks (And.intro hg9 hl9)))
      have hq900 : q ≤ 900 := by omega
      clear hL hxs hoks hg9 hl9 hown9 hb9 hperm hrise hlt9 HIO H8 HK HKF
      go_wp2
      go_loopw [8, 42] (fun v ix wx => ∃ j : Nat, ix = .int .i64 j ∧ j ≤ q ∧ Hid (LEnd wA wk.heap.size (.slice a9 q c9) es2 j v wx)) (fun _ ix _ => q - (intOf ix).toNat)
      case atStart => exact ⟨0, rfl, Nat.zero_le _, HL.out⟩
      case round =>
        clear HL
        obtain ⟨j, rfl, hj, HL⟩ := hrel
        by_cases hlt : j < q
        · obtain ⟨g9, rfl⟩ := HE.out.2.2.1 (by omega)
          have heo := HL.out.eOwn
          rw [HE.out.2.2.2] at heo
          obtain ⟨a10, c10, e10, hrow10, -, -, -, -, -⟩ := rowE_of_own heo
          cases e10
          obtain ⟨hp1, hp2, -⟩ := cellsE_row hrow10 j (by rw [HE.out.2.2.2]; exact hlt)
          obtain ⟨x, HXX⟩ : ∃ x, Hid (x = atP es2 j) := ⟨_, rfl⟩
          rw [← HXX.out] at hp1 hp2
          obtain ⟨pl, xa, xc, xs⟩ := x
          replace hp2 : wr.cell? ⟨g9, j * 2 + 1, none⟩ = some (.slice xa xs.length xc) := hp2
          obtain ⟨ln, HLN⟩ : ∃ ln, Hid (ln = xs.length) := ⟨_, rfl⟩
          rw [← HLN.out] at hp2
          have hown := HL.out.own
          have hbv := HL.out.bv.2
          dsimp only at hp1
          clear heo hrow10
          go_wp2_with (at_builtin; refine wpList_append_own_at _ rfl (.tmp 46) (.tmp 49) 33 rfl wk.heap.size 22 i1 (.slice none 0 0) 1 24 Try.underlying33 hi1 hy0 hy1 hy2 rfl (by decide) _ _ _ rfl ((hown.alloc _).alloc _) ⟨wr.heap.size + 1, 0, none⟩ 1 1 [.slice xa ln xc] rfl rfl (by have := cell_one_new (wr.alloc (.cells #[.int .i64 pl, .slice xa ln xc] 53)) (.slice xa ln xc) 22; simpa using this) (by intro u hu; simp at hu; subst hu; rfl) (by unfold maxLen; omega) (by omega) (by simp; omega) ?_; intro v7 w7 hown7 hg7 _ hat7)
          go_roundw
          case rel =>
            have ev : (.slice xa ln xc : Value) = (⟨pl, xa, xc, xs⟩ : El).v := by unfold El.v; rw [HLN.out]
            rw [ev] at hown7
            exact ⟨j + 1, by go_num, by omega, HL.out.step (by rw [HE.out.2.2.2]; exact hlt) HXX.out hown7 hg7 hat7⟩
          case measure => simp [intOf]; omega
        · obtain rfl : j = q := by omega
          have hfin : Hid (Post (.returned u8) wr) := by
            show Post (.returned u8) wr
            rw [← HP.out]
            have hm := HL.out
            have ho := hm.own
            rw [List.take_of_length_le (by rw [HE.out.2.2.2]; exact Nat.le_refl _)] at ho
            have hbA := HBA.out
            exact ⟨u8, es2, rfl, by rw [HE.out.2.2.2]; exact own_le ho (by have := hbA.size; have := hm.bv.1; omega), hbA.trans (hm.below.mono hbA.size), fun r hr => (HE.out.2.1 r hr).below hm.below, HE.out.1⟩
          go_wp2
          exact hfin.out
end Go.Proofs.Ytcbgnmkipbhncaa
