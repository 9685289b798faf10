/-
  THE WALK of the reference's names: lines of names up to the end, or up to a line of c.
-/
import Derived.Test.YtikjbbebfjleaaaGreatDoorRefRd
import Derived.Deep.LoopGhost
import Derived.Deep.CutRange
import Derived.Deep.Light
import Derived.Deep.RegionHeld3
namespace Go.Proofs.YtikjbbebfjleaaaGreatDoor
open Go.RowKit

set_option maxHeartbeats 1000000 in
theorem count0_any (c : CV) (kind : Int) (w : World) :
    Calls Tryz.prog 82 #[c.v, .int .u8 kind] w fun e w' => e = .returned (.int .i64 (if kind = 105 then (c.n1 : Int) else if kind = 108 then c.n2 else if kind = 111 then c.n3 else if kind = 98 then c.n4 else if kind = 99 then c.n5 else -1)) ∧ Below w.heap.size w w' := by
  have HB := hide (below_alloc w (.cells #[.int .i64 c.m, .slice c.a1 c.n1 c.c1, .slice c.a2 c.n2 c.c2, .slice c.a3 c.n3 c.c3, .slice c.a4 c.n4 c.c4, .slice c.a5 c.n5 c.c5, .slice c.a6 c.n6 c.c6, .slice c.a7 c.n7 c.c7] 29))
  unfold CV.v
  by_cases k1 : kind = 105
  · subst k1
    go_enter Tryz.func82, Tryz.ntmps82
    go_wp2
    go_ret
    exact ⟨rfl, HB.out⟩
  · have b1 : (kind == 105) = false := by rw [beq_eq_false_iff_ne]; exact k1
    rw [if_neg k1]
    clear k1
    by_cases k2 : kind = 108
    · subst k2
      go_enter Tryz.func82, Tryz.ntmps82
      go_wp2
      go_ret
      exact ⟨rfl, HB.out⟩
    · have b2 : (kind == 108) = false := by rw [beq_eq_false_iff_ne]; exact k2
      rw [if_neg k2]
      clear k2
      by_cases k3 : kind = 111
      · subst k3
        go_enter Tryz.func82, Tryz.ntmps82
        go_wp2
        go_ret
        exact ⟨rfl, HB.out⟩
      · have b3 : (kind == 111) = false := by rw [beq_eq_false_iff_ne]; exact k3
        rw [if_neg k3]
        clear k3
        by_cases k4 : kind = 98
        · subst k4
          go_enter Tryz.func82, Tryz.ntmps82
          go_wp2
          go_ret
          exact ⟨rfl, HB.out⟩
        · have b4 : (kind == 98) = false := by rw [beq_eq_false_iff_ne]; exact k4
          rw [if_neg k4]
          clear k4
          by_cases k5 : kind = 99
          · subst k5
            go_enter Tryz.func82, Tryz.ntmps82
            go_wp2
            go_ret
            exact ⟨rfl, HB.out⟩
          · have b5 : (kind == 99) = false := by rw [beq_eq_false_iff_ne]; exact k5
            rw [if_neg k5]
            clear k5
            go_enter Tryz.func82, Tryz.ntmps82
            go_wp2
            go_ret
            exact ⟨rfl, HB.out⟩

theorem Two.wide {p g : Nat} {w w' : World} (t : Two p p w w') : Two p g w w' := ⟨t.os, t.tape, t.output, t.size, fun k hk h1 _ => t.block k hk h1 h1⟩
theorem row8_box {w : World} {b : Nat} {d : CV} {a : Option Addr} {xs : List Int} (h : Row8 w a xs) (hb : Box w b d) : ∀ x, a = some x → 0 < xs.length → x.block ≠ b := by
  intro x hx hp he
  obtain ⟨b1, off, e, hc⟩ := h.addr hp
  rw [e] at hx
  cases hx
  dsimp only at he
  subst he
  have c0 := hc 0 hp
  have e0 : w.cell? ⟨b1, off + 0, none⟩ = (#[.int .i64 d.m, .slice d.a1 d.n1 d.c1, .slice d.a2 d.n2 d.c2, .slice d.a3 d.n3 d.c3, .slice d.a4 d.n4 d.c4, .slice d.a5 d.n5 d.c5, .slice d.a6 d.n6 d.c6, .slice d.a7 d.n7 d.c7] : Array Value)[off + 0]? := cell_of_row w b1 (off + 0) _ _ (0, 0) hb
  rw [e0] at c0
  have hm := Array.mem_of_getElem? c0
  simp at hm
theorem row8_two2 {p g : Nat} {w w' : World} {a : Option Addr} {xs : List Int} (h : Row8 w a xs) (t : Two p g w w') (hx : ∀ x, a = some x → 0 < xs.length → x.block ≠ p) (hy : ∀ x, a = some x → 0 < xs.length → x.block ≠ g) : Row8 w' a xs := by
  rcases h with h | ⟨x, rfl, h⟩
  · exact .inl h
  · refine .inr ⟨x, rfl, fun i hi => two_cell t (h i hi) ?_ ?_⟩ <;> rw [add_block]
    · exact hx x rfl (by omega)
    · exact hy x rfl (by omega)

/-- Names while the reference reads them: the reader at block p, the circuit at block b, the row. -/
structure NR (w0 : World) (p b : Nat) (a : Option Addr) (n c : Nat) (xs : List Int) (top : Int) (d : CV) (L : List Sym) (A : Option Addr) (K : Nat) (st : Option Nat) (W : World) : Prop where
  rd : RdR p a n c xs top st W
  box : Box W b { d with a7 := A, n7 := L.length, c7 := K }
  two : Two p b w0 W
  own : W.ownsRow w0.heap.size 77 3 (.slice A L.length K) L.length (cellsS L)
  lp : p < w0.heap.size
  lb : b < w0.heap.size
  ne : p ≠ b
  tx : Row8 w0 a xs
  ty : ∀ x, a = some x → 0 < xs.length → x.block ≠ b
section
variable {w0 W W1 w4 : World} {p b n c K K4 : Nat} {a A A4 : Option Addr} {xs : List Int} {top : Int} {d : CV} {L : List Sym} {st st' : Option Nat}
theorem NR.went (h : NR w0 p b a n c xs top d L A K st W) (g : WentR p a n c xs top W st' W1) : NR w0 p b a n c xs top d L A K st' W1 :=
  ⟨g.1, (g.2.block b h.box.lt (fun e => h.ne e.symm) (fun e => h.ne e.symm)).trans h.box, h.two.trans g.2.wide, own_two h.own g.2 h.lp h.lp, h.lp, h.lb, h.ne, h.tx, h.ty⟩
theorem NR.below (h : NR w0 p b a n c xs top d L A K st W) (hb : Below W.heap.size W W1) : NR w0 p b a n c xs top d L A K st W1 :=
  ⟨h.rd.below hb, h.box.below hb, h.two.trans (Two.of_below hb), own_below h.own hb, h.lp, h.lb, h.ne, h.tx, h.ty⟩
/-- One name more. -/
theorem NR.push (h : NR w0 p b a n c xs top d L A K st W) (y : Sym) {o : Obj} (hg : (W.alloc o).grownBy w4 (Value.slice A L.length K).ownBlock)
    (ho : w4.ownsRow w0.heap.size 77 3 (.slice A4 (L.length + 1) K4) (L.length + 1) (cellsS L ++ [.int .u8 y.1, .int .i64 y.2.1, .string y.2.2])) :
    NR w0 p b a n c xs top d (L ++ [y]) A4 K4 st (w4.setCell ⟨b, 7, none⟩ (.slice A4 (L.length + 1) K4)) ∧ Box w4 b { d with a7 := A, n7 := L.length, c7 := K } := by
  have hs : w0.heap.size ≤ W.heap.size := h.two.size
  have hbl : Below w0.heap.size W w4 := ((Below.refl _ W).grown (World.grownBy_alloc W o none) hs (fun k hk => by cases hk)).grown hg (by simp; omega) (fun k hk => (h.own.lt k hk).1)
  have hx : Box w4 b { d with a7 := A, n7 := L.length, c7 := K } := (hbl.block b h.lb).trans h.box
  have hll : (L ++ [y]).length = L.length + 1 := by simp
  have t2 : Two p b w0 (w4.setCell ⟨b, 7, none⟩ (.slice A4 (L.length + 1) K4)) := Two.setR ⟨hbl.os.trans h.two.os, hbl.tape.trans h.two.tape, hbl.output.trans h.two.output, by
    have := hg.size
    have h2 : (W.alloc o).heap.size = W.heap.size + 1 := by simp
    omega, fun k hk h1 h2 => (hbl.block k hk).trans (h.two.block k hk h1 h2)⟩ 7 _
  refine ⟨⟨?_, ?_, t2, ?_, h.lp, h.lb, h.ne, h.tx, h.ty⟩, hx⟩
  · obtain ⟨k, h1, h2⟩ := h.rd.blk
    exact ⟨⟨k, (heap_setCell_other w4 ⟨b, 7, none⟩ p _ h.ne).trans ((hbl.block p h.lp).trans h1), h2⟩, h.rd.inb, row8_two2 h.tx t2 h.rd.apart h.ty, h.rd.len, h.rd.cap, h.rd.apart, h.rd.bytes, h.rd.small⟩
  · rw [hll]; exact box_eight (c' := { d with a7 := A4, n7 := L.length + 1, c7 := K4 }) hx 7 _ rfl
  · rw [hll, cellsS_append]
    exact own_cellQ ho hx (by decide)
end

/-- WHAT names TELLS. -/
def NamesR (p b : Nat) (a : Option Addr) (n c : Nat) (xs : List Int) (top : Int) (d : CV) (st : Option Nat) (w : World) (e : Ending) (w' : World) : Prop :=
  ∃ (L : List Sym) (A : Option Addr) (K : Nat), e = .returned (.tuple #[]) ∧ NR w p b a n c xs top d L A K (namesS xs st).2 w' ∧ OkL (namesS xs st).2 L (namesS xs st).1 ∧ L.length ≤ n + 1
theorem kind_pos (d : CV) (k : UInt8) (h : isKind k = true) : ¬ (if (k.toNat : Int) = 105 then (d.n1 : Int) else if (k.toNat : Int) = 108 then d.n2 else if (k.toNat : Int) = 111 then d.n3 else if (k.toNat : Int) = 98 then d.n4 else if (k.toNat : Int) = 99 then d.n5 else -1) < 0 := by
  unfold isKind at h
  simp at h
  rcases h with rfl | rfl | rfl | rfl | rfl <;> simp
theorem kind_neg (d : CV) (k : UInt8) (h : isKind k = false) : (if (k.toNat : Int) = 105 then (d.n1 : Int) else if (k.toNat : Int) = 108 then d.n2 else if (k.toNat : Int) = 111 then d.n3 else if (k.toNat : Int) = 98 then d.n4 else if (k.toNat : Int) = 99 then d.n5 else -1) = -1 := by
  have e : ∀ m : Nat, m < 256 → ((k.toNat : Int) = (m : Int)) → k = UInt8.ofNat m := fun m hm e => by
    apply UInt8.toNat_inj.1
    rw [UInt8.toNat_ofNat']
    omega
  unfold isKind at h
  simp at h
  obtain ⟨h1, h2, h3, h4, h5⟩ := h
  have n1 : ¬ (k.toNat : Int) = 105 := fun q => h1 (e 105 (by decide) q)
  have n2 : ¬ (k.toNat : Int) = 108 := fun q => h2 (e 108 (by decide) q)
  have n3 : ¬ (k.toNat : Int) = 111 := fun q => h3 (e 111 (by decide) q)
  have n4 : ¬ (k.toNat : Int) = 98 := fun q => h4 (e 98 (by decide) q)
  have n5 : ¬ (k.toNat : Int) = 99 := fun q => h5 (e 99 (by decide) q)
  rw [if_neg n1, if_neg n2, if_neg n3, if_neg n4, if_neg n5]

set_option maxRecDepth 100000 in
set_option maxHeartbeats 4000000 in
theorem refNames_any (p b : Nat) (a : Option Addr) (n c : Nat) (xs : List Int) (top : Int) (d : CV) (st0 : Option Nat) (w : World) (h : RdR p a n c xs top st0 w) (hb : Box w b { d with a7 := none, n7 := 0, c7 := 0 }) (hne : p ≠ b) :
    Calls Tryz.prog 42 #[.pointer (some ⟨p, 0, none⟩), .pointer (some ⟨b, 0, none⟩)] w (NamesR p b a n c xs top d st0 w) := by
  obtain ⟨i7, hi7, hv0, hv1, hv2⟩ := info_parts infoSym
  have HN0 : Hid (NR w p b a n c xs top d [] none 0 st0 w) := ⟨h, hb, Two.refl _ _ _, World.ownsRow_nil _ _ _ _, h.lt, hb.lt, hne, h.text, row8_box h.text hb⟩
  have HR0 := hide (nst_start xs st0)
  have hsm := h.small
  have hln := h.len
  unfold NamesR
  generalize namesS xs st0 = R at HR0 ⊢
  generalize hP : (fun (e : Ending) (w' : World) => ∃ (L : List Sym) (A : Option Addr) (K : Nat), e = .returned (.tuple #[]) ∧ NR w p b a n c xs top d L A K R.2 w' ∧ OkL R.2 L R.1 ∧ L.length ≤ n + 1) = Post
  have HFin : Hid (∀ L A K st w', R.2 = st → OkL st L R.1 → L.length ≤ n + 1 → NR w p b a n c xs top d L A K st w' → Post (.returned (.tuple #[])) w') := fun L A K st w' e1 e2 e3 g => by
    rw [← hP]; exact ⟨L, A, K, rfl, by rw [e1]; exact g, by rw [e1]; exact e2, e3⟩
  have HN := hide hln
  clear h hb hP hln
  go_enter Tryz.func42, Tryz.ntmps42
  go_wp2
  go_loopg [4, 5, 6, 7, 8, 9] (remN xs st0) (fun kx _ _ _ _ _ _ wr => ∃ (L : List Sym) (A : Option Addr) (K : Nat) (st : Option Nat), kx = remN xs st ∧ L.length ≤ n + 1 ∧ Hid (∀ k, st = some k → L.length ≤ k) ∧ Hid (NSt xs R L st) ∧ Hid (NR w p b a n c xs top d L A K st wr))
  case atStart => exact ⟨[], none, 0, st0, rfl, Nat.zero_le _, fun _ _ => Nat.zero_le _, HR0, HN0⟩
  case round =>
    obtain ⟨L, A, K, st, rfl, hL, HLk, HS, HG⟩ := hrel
    obtain ⟨k, hk, c0, c1, c2, c3⟩ := HG.out.rd.cells
    clear HR0 HN0
    cases st with
    | none =>
      rw [show errR none = 2 from rfl] at c3
      have HE : Hid (∀ W q, W = wr.drewN q → Post (.returned (.tuple #[])) W) := fun W q e => by
        rw [e]
        have hr : R = (L, none) := HS.out
        exact HFin.out L A K none _ (by rw [hr]) (fun x => by cases x) hL (HG.out.below (Drew.below ⟨q, rfl⟩))
      clear hk c0 c1 c2 HLk HS HFin
      go_wp2
      go_quiet (fail)
      go_wp2
      go_end0
      exact HE.out _ _ rfl
    | some j =>
      obtain rfl := hk j rfl
      rw [show errR (some j) = 0 from rfl] at c3
      have hj : j ≤ n := by rw [← HN.out]; exact HG.out.rd.inb j rfl
      have f1 := HG.out.rd.free 1
      have f3 := HG.out.rd.free 3
      have HG1 : Hid (∀ q, NR w p b a n c xs top d L A K (some j) (wr.drewN q)) := fun q => HG.out.below (Drew.below ⟨q, rfl⟩)
      by_cases hjn : j < n
      · have hrd := nst_round HS.out (by rw [HN.out]; exact hjn)
        have HBad : Hid (R.2 = none → ∀ w1, (∃ s, NR w p b a n c xs top d L A K s w1) → Post (.returned (.tuple #[])) (w1.setCell ⟨p, 3, none⟩ (.int .i64 2))) := fun e w1 ⟨s, g⟩ => HFin.out L A K none _ e (fun x => by cases x) hL (g.went g.rd.fail)
        rcases hit_or_miss xs j with ⟨dd, hd⟩ | hm
        · have hjd : j + dd + 1 ≤ n := by have := hd.1; rw [HN.out] at this; omega
          have HC := hide (fun W (hW : RdR p a n c xs top (some j) W) => refLine_hit a n c j dd xs W hW.text hW.len hW.cap (by omega) hd)
          have hlS : lineS xs (some j) = (strOfNums ((xs.drop j).take dd), some (j + dd + 1)) := lineS_yes (lineO_hit hd)
          have hszS : (strOfNums ((xs.drop j).take dd)).size ≤ 100000 := by rw [strOfNums_size, List.length_take, List.length_drop, HN.out]; omega
          rw [hlS] at hrd
          have e1 : ((j + dd + 1 : Nat) : Int) = (j : Int) + dd + 1 := by omega
          have HMv : Hid (∀ W, NR w p b a n c xs top d L A K (some j) W → NR w p b a n c xs top d L A K (some (j + dd + 1)) (W.setCell ⟨p, 1, none⟩ (.int .i64 ((j : Int) + dd + 1)))) := fun W g => by
            have m := g.rd.move (j + dd + 1) hjd
            rw [e1] at m
            exact g.went m
          clear hlS
          dsimp only at hrd
          generalize strOfNums ((xs.drop j).take dd) = S at *
          by_cases hSc : S = lineC
          · have HE : Hid (∀ q, Post (.returned (.tuple #[])) ((wr.drewN q).setCell ⟨p, 1, none⟩ (.int .i64 ((j : Int) + dd + 1)))) := fun q => by
              have hr := hrd.1 hSc
              exact HFin.out L A K (some (j + dd + 1)) _ (by rw [hr]) (fun _ => by rw [hr]) hL (HMv.out _ (HG1.out q))
            subst hSc
            unfold lineC at HC
            clear hk c2 HLk HS HFin hrd hszS HBad
            go_wp2
            go_quiet (fail)
            go_wp2
            go_quiet ((go_at_call 81; refine (HC.out _ (HG1.out _).rd).mono ?_; rintro e w1 ⟨rfl, rfl⟩; exact ⟨rfl, _, rfl⟩))
            go_wp2
            go_end0
            exact HE.out _
          · have hrd2 := hrd.2 hSc
            have HRd := hide hrd2
            clear hrd hrd2
            have hS1 : (S.toList == [99]) = false := bytes_c hSc
            have HCt := hide (fun k W => count0_any { d with a7 := A, n7 := L.length, c7 := K } k W)
            unfold CV.v at HCt
            dsimp only at HCt
            clear hk c2 HS hSc
            go_wp2
            go_quiet (fail)
            go_wp2
            go_quiet ((go_at_call 81; refine (HC.out _ (HG1.out _).rd).mono ?_; rintro e w1 ⟨rfl, rfl⟩; exact ⟨rfl, _, rfl⟩))
            go_upto_region 6 with fail
            generalize hW : (wr.drewN _).setCell ⟨p, 1, none⟩ (.int .i64 ((j : Int) + dd + 1)) = W1
            have G1 : Hid (NR w p b a n c xs top d L A K (some (j + dd + 1)) W1) := by rw [← hW]; exact HMv.out _ (HG1.out _)
            clear hW HMv HG1 HC HG c0 c1 c3 f1 f3
            go_wp2
            go_loop [7] (fun i => ∃ k : Nat, i = .int .i64 k ∧ k ≤ S.size ∧ Hid (NoBl S 0 k)) (fun i => S.size - (intOf i).toNat)
            case atStart => exact ⟨0, rfl, Nat.zero_le _, bl_start S⟩
            case round =>
              obtain ⟨k, rfl, hk, HB⟩ := hrel
              by_cases hq : k < S.size ∧ ∃ hk' : k < S.size, ¬ ((S[k]'hk').toNat : Int) = 32
              · obtain ⟨hk1, hk2, hbl⟩ := hq
                have hb2 : ((S[k].toNat : Int) == 32) = false := by rw [beq_eq_false_iff_ne]; exact hbl
                have hb3 : ((S[k].toNat : Int) != 32) = true := by rw [bne, hb2]; rfl
                have hkI : (k : Int) < (S.size : Int) := by omega
                have HB' := hide (bl_next HB.out hk1 hbl)
                clear hbl
                go_wp2
                go_round
                case rel => exact ⟨k + 1, by go_num, by omega, HB'.out⟩
                case measure => simp [intOf]; omega
              · have HBl : Hid (Bl S k) := by
                  by_cases hk1 : k < S.size
                  · refine bl_hit HB.out hk1 ?_
                    by_cases hz : ((S[k]'hk1).toNat : Int) = 32
                    · exact hz
                    · exact absurd ⟨hk1, hk1, hz⟩ hq
                  · obtain rfl : k = S.size := by omega
                    exact bl_end HB.out
                have hq2 : k < S.size → ∀ hk' : k < S.size, ((S[k]'hk').toNat : Int) = 32 := fun hk1 hk' => by
                  by_cases hz : ((S[k]'hk').toNat : Int) = 32
                  · exact hz
                  · exact absurd ⟨hk1, hk', hz⟩ hq
                clear hq HB
                obtain ⟨ka, hka, c0, c1, c2, c3⟩ := G1.out.rd.cells
                have f3 := G1.out.rd.free 3
                clear hka c0 c1 c2
                obtain ⟨y0, y1, y2, y3, y4, y5, y6, y7⟩ := G1.out.box.cells
                dsimp only at y0 y1 y2 y3 y4 y5 y6 y7
                have HNo : Hid (symO S = none → R.2 = none) := fun e => by
                  have := HRd.out.1
                  rw [e] at this
                  have hr : R = (L ++ [noSym], none) := this
                  rw [hr]
                have hkS : (k : Int) ≤ (S.size : Int) := by omega
                by_cases hk2 : k < 2
                · have hn := hide (HNo.out (symO_short HBl.out hk2))
                  have HE : Hid (∀ q, Post (.returned (.tuple #[])) ((W1.drewN q).setCell ⟨p, 3, none⟩ (.int .i64 2))) := fun q => HBad.out hn.out _ ⟨_, G1.out.below (Drew.below ⟨q, rfl⟩)⟩
                  have hk2I : (k : Int) < 2 := by omega
                  clear y0 y1 y2 y3 y4 y5 y6 y7 HRd HNo hn HFin HBad HCt HLk
                  by_cases hks : k = S.size
                  · subst hks
                    go_wp2
                    go_quiet (fail)
                    go_wp2
                    go_end0
                    exact HE.out _
                  · have hkI : (k : Int) < (S.size : Int) := by omega
                    have hkn : k < S.size := by omega
                    have h32 := hq2 hkn hkn
                    have h32b : ((S[k].toNat : Int) == 32) = true := by rw [h32]; rfl
                    have h32c : ((S[k].toNat : Int) != 32) = false := by rw [bne, h32b]; rfl
                    clear hq2 h32
                    go_wp2
                    go_quiet (fail)
                    go_wp2
                    go_end0
                    exact HE.out _
                · have hk2I : (2 : Int) ≤ (k : Int) := by omega
                  by_cases hks : k = S.size
                  · subst hks
                    have hd2 : decide ((S.size : Int) < 2) = false := decide_eq_false (by omega)
                    have hlt2 : ¬ (S.size : Int) < 2 := by omega
                    have hn := hide (HNo.out (symO_full HBl.out))
                    have HE : Hid (∀ q, Post (.returned (.tuple #[])) ((W1.drewN q).setCell ⟨p, 3, none⟩ (.int .i64 2))) := fun q => HBad.out hn.out _ ⟨_, G1.out.below (Drew.below ⟨q, rfl⟩)⟩
                    clear y0 y1 y2 y3 y4 y5 y6 y7 HRd HNo hn HFin HBad HCt HLk
                    go_wp2
                    go_quiet (fail)
                    go_wp2
                    go_end0
                    exact HE.out _
                  · have hkn : k < S.size := by omega
                    have hkI : (k : Int) < (S.size : Int) := by omega
                    have hp0 : 0 < S.size := by omega
                    have h32 := hq2 hkn hkn
                    have h32b : ((S[k].toNat : Int) == 32) = true := by rw [h32]; rfl
                    have h32c : ((S[k].toNat : Int) != 32) = false := by rw [bne, h32b]; rfl
                    have hsy := symO_line HBl.out (by omega) hkn hp0
                    have hkse : ((k : Int) == (S.size : Int)) = false := by rw [beq_eq_false_iff_ne]; omega
                    have hd2 : decide ((k : Int) < 2) = false := decide_eq_false (by omega)
                    have hlt2 : ¬ (k : Int) < 2 := by omega
                    clear hq2 h32
                    have hCase : ∃ kb : Bool, isKind S[0] = kb := ⟨_, rfl⟩
                    obtain ⟨kb, hkb⟩ := hCase
                    have hV : ∀ V : Int, V = (if (S[0].toNat : Int) = 105 then (d.n1 : Int) else if (S[0].toNat : Int) = 108 then d.n2 else if (S[0].toNat : Int) = 111 then d.n3 else if (S[0].toNat : Int) = 98 then d.n4 else if (S[0].toNat : Int) = 99 then d.n5 else -1) → decide (V < 0) = !kb := fun V hv => by
                      cases kb with
                      | true => rw [decide_eq_false (by rw [hv]; exact kind_pos { d with a7 := A, n7 := L.length, c7 := K } S[0] hkb)]; rfl
                      | false => rw [decide_eq_true (by rw [hv, kind_neg { d with a7 := A, n7 := L.length, c7 := K } S[0] hkb]; decide)]; rfl
                    have HCk := hide (fun W => HCt.out (S[0].toNat : Int) W)
                    have hV2 := hV _ rfl
                    clear hV
                    generalize (if (S[0].toNat : Int) = 105 then (d.n1 : Int) else if (S[0].toNat : Int) = 108 then d.n2 else if (S[0].toNat : Int) = 111 then d.n3 else if (S[0].toNat : Int) = 98 then d.n4 else if (S[0].toNat : Int) = 99 then d.n5 else -1) = V at HCk hV2
                    have HGb : Hid (∀ q w1, Below (W1.drewN q).heap.size (W1.drewN q) w1 → NR w p b a n c xs top d L A K (some (j + dd + 1)) w1) := fun q w1 hb => (G1.out.below (Drew.below ⟨q, rfl⟩)).below hb
                    go_upto_region 9 with fail
                    go_cut [79] from 10 to 111 (fun v wx => v = .bool (!kb) ∧ Hid (NR w p b a n c xs top d L A K (some (j + dd + 1)) wx))
                    case first =>
                      rename_i J K2 hJ hK
                      have hMK : ∀ a w, J a w → K2 a w := fun a w h => hK a w (Met.intro h)
                      clear hK
                      go_light
                      clear HNo HRd HBad HFin HLk HCt hsy hkb G1 c3 f3 HN hsm hL hj hjn hjd hszS
                      have y8d : W1.drew.cell? ⟨b, 0, none⟩ = some (.int .i64 d.m) ∧ W1.drew.cell? ⟨b, 1, none⟩ = some (.slice d.a1 d.n1 d.c1) ∧ W1.drew.cell? ⟨b, 2, none⟩ = some (.slice d.a2 d.n2 d.c2) ∧ W1.drew.cell? ⟨b, 3, none⟩ = some (.slice d.a3 d.n3 d.c3) ∧ W1.drew.cell? ⟨b, 4, none⟩ = some (.slice d.a4 d.n4 d.c4) ∧ W1.drew.cell? ⟨b, 5, none⟩ = some (.slice d.a5 d.n5 d.c5) ∧ W1.drew.cell? ⟨b, 6, none⟩ = some (.slice d.a6 d.n6 d.c6) ∧ W1.drew.cell? ⟨b, 7, none⟩ = some (.slice A L.length K) := ⟨y0, y1, y2, y3, y4, y5, y6, y7⟩
                      clear y0 y1 y2 y3 y4 y5 y6 y7
                      go_region_held3 (fun w' => w'.cell? ⟨b, 0, none⟩ = some (.int .i64 d.m) ∧ w'.cell? ⟨b, 1, none⟩ = some (.slice d.a1 d.n1 d.c1) ∧ w'.cell? ⟨b, 2, none⟩ = some (.slice d.a2 d.n2 d.c2) ∧ w'.cell? ⟨b, 3, none⟩ = some (.slice d.a3 d.n3 d.c3) ∧ w'.cell? ⟨b, 4, none⟩ = some (.slice d.a4 d.n4 d.c4) ∧ w'.cell? ⟨b, 5, none⟩ = some (.slice d.a5 d.n5 d.c5) ∧ w'.cell? ⟨b, 6, none⟩ = some (.slice d.a6 d.n6 d.c6) ∧ w'.cell? ⟨b, 7, none⟩ = some (.slice A L.length K)) (first | with_reducible exact y8d | with_reducible exact y8e) (first | (go_at_call 82; refine (HCk.out _).mono ?_; rintro e w2 ⟨rfl, hb2⟩; have G2 := hide (HGb.out _ w2 hb2); have y8e := G2.out.box.cells; dsimp only at y8e; clear hb2))
                      all_goals refine hMK _ _ (hJ _ _ ?_)
                      all_goals ((repeat apply Exists.intro); refine ⟨?_, rfl⟩)
                      all_goals exact ⟨by first | rfl | rw [hV2], G2⟩
                    case rest =>
                      obtain ⟨hvv, G2⟩ := hcut
                      subst hvv
                      clear G1 HGb HCk c3 f3 y0 y1 y2 y3 y4 y5 y6 y7 hV2
                      obtain ⟨kq, hkq, z0, z1, z2, z3⟩ := G2.out.rd.cells
                      have g3 := G2.out.rd.free 3
                      clear hkq z0 z1 z2
                      rename World => wq
                      cases kb with
                      | false =>
                        have hn := hide (HNo.out (by rw [hsy, hkb, if_neg (by simp)]))
                        have HE : Hid (∀ w1, (∃ s, NR w p b a n c xs top d L A K s w1) → Post (.returned (.tuple #[])) (w1.setCell ⟨p, 3, none⟩ (.int .i64 2))) := fun w1 g => HBad.out hn.out _ g
                        clear HRd HNo hn HFin HBad HLk hsy hkb
                        go_wp2
                        go_end0
                        exact HE.out _ ⟨_, G2.out⟩
                      | true =>
                        have HNum := hide (fun W => refNumber_any (S.extract 1 k) 2147483647 W (by rw [ByteArray.size_extract]; omega) (by decide) (by decide))
                        rw [hkb] at hsy
                        clear hkb
                        generalize hNE : numE (S.extract 1 k).data.toList 2147483647 = E at HNum hsy
                        generalize hNV : numV (S.extract 1 k).data.toList 2147483647 = NV at HNum hsy
                        clear hNE hNV
                        by_cases hE : E = 0
                        · subst hE
                          rw [if_pos ⟨rfl, rfl⟩] at hsy
                          have HSy := hide hsy
                          have hrs := HRd.out
                          rw [hsy] at hrs
                          rw [if_pos (show (some ((S[0].toNat : Int), NV, S.extract (k + 1) S.size)).isSome = true from rfl)] at hrs
                          have HRs := hide hrs
                          clear hsy HRd HNo HBad hrs
                          obtain ⟨l, hl⟩ : ∃ l, l = L.length := ⟨_, rfl⟩
                          have HLl := hide hl
                          go_upto_region 14 with (first | (go_at_call 83; refine (HNum.out _).mono ?_; rintro e w3 ⟨rfl, hw3⟩; have G3 : Hid (NR w p b a n c xs top d L A K (some (j + dd + 1)) w3) := (by rw [hw3]; exact G2); clear hw3))
                          have hd7 : w3.drew.cell? ⟨b, 7, none⟩ = some (.slice A l K) := by rw [hl]; exact G3.out.box.cells.2.2.2.2.2.2.2
                          have hd7a : ∀ o, (w3.alloc o).drew.cell? ⟨b, 7, none⟩ = some (.slice A l K) := fun o => by rw [hl]; exact ((G3.out.below (below_alloc w3 o)).box.cells).2.2.2.2.2.2.2
                          have HO7 : Hid (∀ o, (w3.alloc o).drew.ownsRow w.heap.size 77 3 (.slice A l K) l (cellsS L)) := fun o => by rw [hl]; exact (G3.out.below (below_alloc w3 o)).own
                          have HSz : Hid (∀ o, w.heap.size ≤ (w3.alloc o).drew.heap.size) := fun o => (G3.out.below (below_alloc w3 o)).two.size
                          have HPu : Hid (∀ o w4 A4 K4, (w3.drew.alloc o).grownBy w4 (Value.slice A l K).ownBlock → w4.ownsRow w.heap.size 77 3 (.slice A4 (l + 1) K4) (l + 1) (cellsS L ++ [.int .u8 (S[0].toNat : Int), .int .i64 NV, .string (S.extract (k + 1) S.size)]) → NR w p b a n c xs top d (L ++ [((S[0].toNat : Int), NV, S.extract (k + 1) S.size)]) A4 K4 (some (j + dd + 1)) (w4.setCell ⟨b, 7, none⟩ (.slice A4 (l + 1) K4)) ∧ Box w4 b { d with a7 := A, n7 := l, c7 := K }) := fun o w4 A4 K4 hg ho => by
                            rw [hl] at hg ho ⊢
                            exact NR.push (W := w3.drew) (G3.out.below (Drew.below ⟨1, rfl⟩)) ((S[0].toNat : Int), NV, S.extract (k + 1) S.size) (o := o) hg ho
                          have HX : Hid (l + 1 ≤ maxLen) := by show l + 1 ≤ maxLen; unfold maxLen; omega
                          have HY : Hid ((l + 1) * 32 ≤ 140737488355328) := by show (l + 1) * 32 ≤ 140737488355328; omega
                          have HOne : Hid (∀ u ∈ [Value.int .u8 (S[0].toNat : Int), .int .i64 NV, .string (S.extract (k + 1) S.size)], u.oneCell' = true) := fun u hu => by simp at hu; rcases hu with rfl | rfl | rfl <;> rfl
                          have hk1I : (0 : Int) ≤ (k : Int) + 1 := by omega
                          have hk1J : (k : Int) + 1 ≤ (S.size : Int) := by omega
                          have hwr : IntKind.i64.wrap ((k : Int) + 1) = (k : Int) + 1 := by rw [IntKind.wrap_i64]; omega
                          have htn : ((k : Int) + 1).toNat = k + 1 := by omega
                          clear z3 g3 HNum G2 HN hl
                          refine wp_region_held_drew (S := fun _ => True) (by kernel_rfl) trivial (fun hHeld => ?_)
                          refine wpAnyH_take (i := 0) (oi := { dst := some 95, op := Op.move (Operand.tmp 1), type := 75, pos := "text.go:111", after := #[], guard := none }) (v := ?_) rfl (by kernel_rfl) (by kernel_rfl) (by kernel_rfl) (fun _ _ _ h => h) (Or.inl ⟨by rfl, ?_⟩) (by assumption) ?_
                          rotate_left
                          · (intro w0 hSw; (try dsimp only at hSw); go_simp; try with_reducible rfl)
                          try simp only [Act.put, List.setIfInBounds_toArray, List.set_cons_zero, List.set_cons_succ]
                          refine wpAnyH_take (i := 1) (oi := { dst := some 96, op := Op.move (Operand.tmp 1), type := 75, pos := "text.go:111", after := #[], guard := none }) (v := ?_) rfl (by kernel_rfl) (by kernel_rfl) (by kernel_rfl) (fun _ _ _ h => h) (Or.inl ⟨by rfl, ?_⟩) (by assumption) ?_
                          rotate_left
                          · (intro w0 hSw; (try dsimp only at hSw); go_simp; try with_reducible rfl)
                          try simp only [Act.put, List.setIfInBounds_toArray, List.set_cons_zero, List.set_cons_succ]
                          refine wpAnyH_take (i := 2) (oi := { dst := some 97, op := Op.nilCheck (Operand.tmp 96), type := 0, pos := "text.go:111", after := #[{ on := 1, ground := Ground.data }], guard := none }) (v := ?_) rfl (by kernel_rfl) (by kernel_rfl) (by kernel_rfl) (fun _ _ _ h => h) (Or.inl ⟨by rfl, ?_⟩) (by assumption) ?_
                          rotate_left
                          · (intro w0 hSw; (try dsimp only at hSw); go_simp; try with_reducible rfl)
                          try simp only [Act.put, List.setIfInBounds_toArray, List.set_cons_zero, List.set_cons_succ]
                          refine wpAnyH_take (i := 3) (oi := { dst := some 98, op := Op.fieldAddr 29 (Operand.tmp 97) 7, type := 0, pos := "text.go:111", after := #[{ on := 2, ground := Ground.data }], guard := none }) (v := ?_) rfl (by kernel_rfl) (by kernel_rfl) (by kernel_rfl) (fun _ _ _ h => h) (Or.inl ⟨by rfl, ?_⟩) (by assumption) ?_
                          rotate_left
                          · (intro w0 hSw; (try dsimp only at hSw); go_simp; try with_reducible rfl)
                          try simp only [Act.put, List.setIfInBounds_toArray, List.set_cons_zero, List.set_cons_succ]
                          refine wpAnyH_take (i := 5) (oi := { dst := some 100, op := Op.move (Operand.tmp 4), type := 9, pos := "text.go:111", after := #[], guard := none }) (v := ?_) rfl (by kernel_rfl) (by kernel_rfl) (by kernel_rfl) (fun _ _ _ h => h) (Or.inl ⟨by rfl, ?_⟩) (by assumption) ?_
                          rotate_left
                          · (intro w0 hSw; (try dsimp only at hSw); go_simp; try with_reducible rfl)
                          try simp only [Act.put, List.setIfInBounds_toArray, List.set_cons_zero, List.set_cons_succ]
                          refine wpAnyH_take (i := 6) (oi := { dst := some 101, op := Op.index 9 (Operand.tmp 100) (Operand.const (Value.int IntKind.i64 0)), type := 5, pos := "text.go:111", after := #[{ on := 5, ground := Ground.data }], guard := none }) (v := ?_) rfl (by kernel_rfl) (by kernel_rfl) (by kernel_rfl) (fun _ _ _ h => h) (Or.inl ⟨by rfl, ?_⟩) (by assumption) ?_
                          rotate_left
                          · (intro w0 hSw; (try dsimp only at hSw); go_simp; try with_reducible rfl)
                          try simp only [Act.put, List.setIfInBounds_toArray, List.set_cons_zero, List.set_cons_succ]
                          refine wpAnyH_take (i := 7) (oi := { dst := some 102, op := Op.move (Operand.tmp 8), type := 3, pos := "text.go:111", after := #[], guard := none }) (v := ?_) rfl (by kernel_rfl) (by kernel_rfl) (by kernel_rfl) (fun _ _ _ h => h) (Or.inl ⟨by rfl, ?_⟩) (by assumption) ?_
                          rotate_left
                          · (intro w0 hSw; (try dsimp only at hSw); go_simp; try with_reducible rfl)
                          try simp only [Act.put, List.setIfInBounds_toArray, List.set_cons_zero, List.set_cons_succ]
                          refine wpAnyH_take (i := 8) (oi := { dst := some 103, op := Op.move (Operand.tmp 4), type := 9, pos := "text.go:111", after := #[], guard := none }) (v := ?_) rfl (by kernel_rfl) (by kernel_rfl) (by kernel_rfl) (fun _ _ _ h => h) (Or.inl ⟨by rfl, ?_⟩) (by assumption) ?_
                          rotate_left
                          · (intro w0 hSw; (try dsimp only at hSw); go_simp; try with_reducible rfl)
                          try simp only [Act.put, List.setIfInBounds_toArray, List.set_cons_zero, List.set_cons_succ]
                          refine wpAnyH_take (i := 9) (oi := { dst := some 104, op := Op.move (Operand.tmp 7), type := 3, pos := "text.go:111", after := #[], guard := none }) (v := ?_) rfl (by kernel_rfl) (by kernel_rfl) (by kernel_rfl) (fun _ _ _ h => h) (Or.inl ⟨by rfl, ?_⟩) (by assumption) ?_
                          rotate_left
                          · (intro w0 hSw; (try dsimp only at hSw); go_simp; try with_reducible rfl)
                          try simp only [Act.put, List.setIfInBounds_toArray, List.set_cons_zero, List.set_cons_succ]
                          refine wpAnyH_take (i := 10) (oi := { dst := some 105, op := Op.binOp BinOp.add 3 (Operand.tmp 104) (Operand.const (Value.int IntKind.i64 1)) 3, type := 3, pos := "text.go:111", after := #[{ on := 9, ground := Ground.data }], guard := none }) (v := ?_) rfl (by kernel_rfl) (by kernel_rfl) (by kernel_rfl) (fun _ _ _ h => h) (Or.inl ⟨by rfl, ?_⟩) (by assumption) ?_
                          rotate_left
                          · (intro w0 hSw; (try dsimp only at hSw); go_simp; try with_reducible rfl)
                          try simp only [Act.put, List.setIfInBounds_toArray, List.set_cons_zero, List.set_cons_succ]
                          refine wpAnyH_take (i := 11) (oi := { dst := some 106, op := Op.slice 9 (Operand.tmp 103) (some (Operand.tmp 105)) none none, type := 9, pos := "text.go:111", after := #[{ on := 8, ground := Ground.data }, { on := 10, ground := Ground.data }], guard := none }) (v := ?_) rfl (by kernel_rfl) (by kernel_rfl) (by kernel_rfl) (fun _ _ _ h => h) (Or.inl ⟨by rfl, ?_⟩) (by assumption) ?_
                          rotate_left
                          · (intro w0 hSw; (try dsimp only at hSw); go_simp; try with_reducible rfl)
                          try simp only [Act.put, List.setIfInBounds_toArray, List.set_cons_zero, List.set_cons_succ]
                          refine wpAnyH_take (i := 12) (oi := { dst := some 107, op := Op.build 77 #[(0, Operand.tmp 101), (1, Operand.tmp 102), (2, Operand.tmp 106)], type := 77, pos := "text.go:111", after := #[{ on := 6, ground := Ground.data }, { on := 7, ground := Ground.data }, { on := 11, ground := Ground.data }], guard := none }) (v := ?_) rfl (by kernel_rfl) (by kernel_rfl) (by kernel_rfl) (fun _ _ _ h => h) (Or.inl ⟨by rfl, ?_⟩) (by assumption) ?_
                          rotate_left
                          · (intro w0 hSw; (try dsimp only at hSw); go_simp; try with_reducible rfl)
                          try simp only [Act.put, List.setIfInBounds_toArray, List.set_cons_zero, List.set_cons_succ]
                          refine wpAnyH_ready (rs := [4, 13]) (by kernel_rfl) (by simp) ?_
                          refine AllReadyH.cons (o := { dst := some 99, op := Op.load 27 (Operand.tmp 98), type := 27, pos := "text.go:111", after := #[{ on := 3, ground := Ground.data }], guard := none }) rfl (fun KZ hKZ => ?_) ?_
                          · skip
                            go_simp
                            refine hKZ.out _ _ ?_ (fun hHeld => ?_)
                            · exact trivial
                            clear hKZ KZ
                            try simp only [Act.put, List.setIfInBounds_toArray, List.set_cons_zero, List.set_cons_succ]
                            refine wpAnyH_ready (rs := [13]) (by kernel_rfl) (by simp) ?_
                            refine AllReadyH.cons (o := { dst := some 108, op := Op.buildSlice 27 1 #[(0, Operand.tmp 107)], type := 27, pos := "text.go:111", after := #[{ on := 12, ground := Ground.data }], guard := none }) rfl (fun KZ hKZ => ?_) ?_
                            · skip
                              go_simp
                              refine hKZ.out _ _ ?_ (fun hHeld => ?_)
                              · exact trivial
                              clear hKZ KZ
                              try simp only [Act.put, List.setIfInBounds_toArray, List.set_cons_zero, List.set_cons_succ]
                              refine wpAnyH_ready (rs := [14]) (by kernel_rfl) (by simp) ?_
                              refine AllReadyH.cons (o := { dst := some 109, op := Op.call { callee := Callee.builtin Builtin.append, args := #[Operand.tmp 99, Operand.tmp 108], argTypes := #[27, 27] }, type := 27, pos := "text.go:111", after := #[{ on := 4, ground := Ground.data }, { on := 13, ground := Ground.data }], guard := none }) rfl (fun KZ hKZ => ?_) ?_
                              · skip
                                (refine step_append_wr (.tmp 99) (.tmp 108) 27 w.heap.size 77 i7 (.agg #[.int .u8 0, .int .i64 0, .string ⟨#[]⟩]) 3 32 Tryz.underlying27 hi7 hv0 hv1 hv2 rfl (Nat.succ_pos 2) (.slice A l K) l (cellsS L) (some ⟨w3.heap.size, 0, none⟩) 1 1 [.int .u8 (S[0].toNat : Int), .int .i64 NV, .string (S.extract (k + 1) S.size)] rfl (fun e => by cases e) HOne.out HX.out HY.out (by simp [Act.eval]) (by simp [Act.eval]) (HO7.out _) ((rowC_three (t := 77) (w := w3) rfl rfl).below (Drew.below ⟨1, rfl⟩)) (HSz.out _) ?_; intro v4 w4 ho hg; obtain ⟨A4, K4, rfl⟩ := own_is ho; obtain ⟨hr4, hbx⟩ := HPu.out _ w4 A4 K4 hg ho; have HR4 := hide hr4; have hq4 := hbx.cells.2.2.2.2.2.2.2; have hf4 := box_frozen hbx 7; clear ho hg hbx hr4)
                                refine hKZ.out _ _ ?_ (fun hHeld => ?_)
                                · exact trivial
                                clear hKZ KZ
                                try simp only [Act.put, List.setIfInBounds_toArray, List.set_cons_zero, List.set_cons_succ]
                                refine wpAnyH_take (i := 15) (oi := { dst := some 110, op := Op.nilCheck (Operand.tmp 95), type := 0, pos := "text.go:111", after := #[{ on := 0, ground := Ground.data }, { on := 0, ground := Ground.phase }, { on := 1, ground := Ground.phase }, { on := 2, ground := Ground.phase }, { on := 3, ground := Ground.phase }, { on := 4, ground := Ground.phase }, { on := 5, ground := Ground.phase }, { on := 6, ground := Ground.phase }, { on := 7, ground := Ground.phase }, { on := 8, ground := Ground.phase }, { on := 9, ground := Ground.phase }, { on := 10, ground := Ground.phase }, { on := 11, ground := Ground.phase }, { on := 12, ground := Ground.phase }, { on := 13, ground := Ground.phase }, { on := 14, ground := Ground.phase }], guard := none }) (v := ?_) rfl (by kernel_rfl) (by kernel_rfl) (by kernel_rfl) (fun _ _ _ h => h) (Or.inl ⟨by rfl, ?_⟩) (by assumption) ?_
                                rotate_left
                                · (intro w0 hSw; (try dsimp only at hSw); go_simp; try with_reducible rfl)
                                try simp only [Act.put, List.setIfInBounds_toArray, List.set_cons_zero, List.set_cons_succ]
                                refine wpAnyH_take (i := 16) (oi := { dst := some 111, op := Op.fieldAddr 29 (Operand.tmp 110) 7, type := 0, pos := "text.go:111", after := #[{ on := 15, ground := Ground.data }, { on := 0, ground := Ground.phase }, { on := 1, ground := Ground.phase }, { on := 2, ground := Ground.phase }, { on := 3, ground := Ground.phase }, { on := 4, ground := Ground.phase }, { on := 5, ground := Ground.phase }, { on := 6, ground := Ground.phase }, { on := 7, ground := Ground.phase }, { on := 8, ground := Ground.phase }, { on := 9, ground := Ground.phase }, { on := 10, ground := Ground.phase }, { on := 11, ground := Ground.phase }, { on := 12, ground := Ground.phase }, { on := 13, ground := Ground.phase }, { on := 14, ground := Ground.phase }], guard := none }) (v := ?_) rfl (by kernel_rfl) (by kernel_rfl) (by kernel_rfl) (fun _ _ _ h => h) (Or.inl ⟨by rfl, ?_⟩) (by assumption) ?_
                                rotate_left
                                · (intro w0 hSw; (try dsimp only at hSw); go_simp; try with_reducible rfl)
                                try simp only [Act.put, List.setIfInBounds_toArray, List.set_cons_zero, List.set_cons_succ]
                                refine wpAnyH_ready (rs := [17]) (by kernel_rfl) (by simp) ?_
                                refine AllReadyH.cons (o := { dst := none, op := Op.store 27 (Operand.tmp 111) (Operand.tmp 109), type := 0, pos := "text.go:111", after := #[{ on := 16, ground := Ground.data }, { on := 14, ground := Ground.data }, { on := 14, ground := Ground.chain }, { on := 0, ground := Ground.phase }, { on := 1, ground := Ground.phase }, { on := 2, ground := Ground.phase }, { on := 3, ground := Ground.phase }, { on := 4, ground := Ground.phase }, { on := 5, ground := Ground.phase }, { on := 6, ground := Ground.phase }, { on := 7, ground := Ground.phase }, { on := 8, ground := Ground.phase }, { on := 9, ground := Ground.phase }, { on := 10, ground := Ground.phase }, { on := 11, ground := Ground.phase }, { on := 12, ground := Ground.phase }, { on := 13, ground := Ground.phase }, { on := 14, ground := Ground.phase }], guard := none }) rfl (fun KZ hKZ => ?_) ?_
                                · skip
                                  go_simp
                                  refine hKZ.out _ _ ?_ (fun hHeld => ?_)
                                  · exact trivial
                                  clear hKZ KZ
                                  try simp only [Act.put, List.setIfInBounds_toArray, List.set_cons_zero, List.set_cons_succ]
                                  refine wpAnyH_done (by kernel_rfl) ?_ _
                                  clear hq4 hf4 hHeld hd7 hd7a HO7 HSz HPu HX HY HOne hi7 hv0 hv1 hv2 G3
                                  go_wp2
                                  go_roundg (remN xs (some (j + dd + 1)))
                                  case measure => exact HRs.out.2.1
                                  case rel => exact ⟨L ++ [((S[0].toNat : Int), NV, S.extract (k + 1) S.size)], A4, K4, some (j + dd + 1), rfl, by rw [List.length_append]; have := HRs.out.2.2 _ rfl (HLk.out j rfl); simp; omega, fun q hq => by rw [List.length_append]; exact HRs.out.2.2 q hq (HLk.out j rfl), HRs.out.1, HR4.out⟩
                                exact AllReadyH.nil
                              exact AllReadyH.nil
                            exact AllReadyH.nil
                          refine AllReadyH.cons (o := { dst := some 108, op := Op.buildSlice 27 1 #[(0, Operand.tmp 107)], type := 27, pos := "text.go:111", after := #[{ on := 12, ground := Ground.data }], guard := none }) rfl (fun KZ hKZ => ?_) ?_
                          · skip
                            go_simp
                            refine hKZ.out _ _ ?_ (fun hHeld => ?_)
                            · exact trivial
                            clear hKZ KZ
                            try simp only [Act.put, List.setIfInBounds_toArray, List.set_cons_zero, List.set_cons_succ]
                            refine wpAnyH_ready (rs := [4]) (by kernel_rfl) (by simp) ?_
                            refine AllReadyH.cons (o := { dst := some 99, op := Op.load 27 (Operand.tmp 98), type := 27, pos := "text.go:111", after := #[{ on := 3, ground := Ground.data }], guard := none }) rfl (fun KZ hKZ => ?_) ?_
                            · skip
                              go_simp
                              refine hKZ.out _ _ ?_ (fun hHeld => ?_)
                              · exact trivial
                              clear hKZ KZ
                              try simp only [Act.put, List.setIfInBounds_toArray, List.set_cons_zero, List.set_cons_succ]
                              refine wpAnyH_ready (rs := [14]) (by kernel_rfl) (by simp) ?_
                              refine AllReadyH.cons (o := { dst := some 109, op := Op.call { callee := Callee.builtin Builtin.append, args := #[Operand.tmp 99, Operand.tmp 108], argTypes := #[27, 27] }, type := 27, pos := "text.go:111", after := #[{ on := 4, ground := Ground.data }, { on := 13, ground := Ground.data }], guard := none }) rfl (fun KZ hKZ => ?_) ?_
                              · skip
                                (refine step_append_wr (.tmp 99) (.tmp 108) 27 w.heap.size 77 i7 (.agg #[.int .u8 0, .int .i64 0, .string ⟨#[]⟩]) 3 32 Tryz.underlying27 hi7 hv0 hv1 hv2 rfl (Nat.succ_pos 2) (.slice A l K) l (cellsS L) (some ⟨w3.heap.size, 0, none⟩) 1 1 [.int .u8 (S[0].toNat : Int), .int .i64 NV, .string (S.extract (k + 1) S.size)] rfl (fun e => by cases e) HOne.out HX.out HY.out (by simp [Act.eval]) (by simp [Act.eval]) (HO7.out _) ((rowC_three (t := 77) (w := w3) rfl rfl).below (Drew.below ⟨1, rfl⟩)) (HSz.out _) ?_; intro v4 w4 ho hg; obtain ⟨A4, K4, rfl⟩ := own_is ho; obtain ⟨hr4, hbx⟩ := HPu.out _ w4 A4 K4 hg ho; have HR4 := hide hr4; have hq4 := hbx.cells.2.2.2.2.2.2.2; have hf4 := box_frozen hbx 7; clear ho hg hbx hr4)
                                refine hKZ.out _ _ ?_ (fun hHeld => ?_)
                                · exact trivial
                                clear hKZ KZ
                                try simp only [Act.put, List.setIfInBounds_toArray, List.set_cons_zero, List.set_cons_succ]
                                refine wpAnyH_take (i := 15) (oi := { dst := some 110, op := Op.nilCheck (Operand.tmp 95), type := 0, pos := "text.go:111", after := #[{ on := 0, ground := Ground.data }, { on := 0, ground := Ground.phase }, { on := 1, ground := Ground.phase }, { on := 2, ground := Ground.phase }, { on := 3, ground := Ground.phase }, { on := 4, ground := Ground.phase }, { on := 5, ground := Ground.phase }, { on := 6, ground := Ground.phase }, { on := 7, ground := Ground.phase }, { on := 8, ground := Ground.phase }, { on := 9, ground := Ground.phase }, { on := 10, ground := Ground.phase }, { on := 11, ground := Ground.phase }, { on := 12, ground := Ground.phase }, { on := 13, ground := Ground.phase }, { on := 14, ground := Ground.phase }], guard := none }) (v := ?_) rfl (by kernel_rfl) (by kernel_rfl) (by kernel_rfl) (fun _ _ _ h => h) (Or.inl ⟨by rfl, ?_⟩) (by assumption) ?_
                                rotate_left
                                · (intro w0 hSw; (try dsimp only at hSw); go_simp; try with_reducible rfl)
                                try simp only [Act.put, List.setIfInBounds_toArray, List.set_cons_zero, List.set_cons_succ]
                                refine wpAnyH_take (i := 16) (oi := { dst := some 111, op := Op.fieldAddr 29 (Operand.tmp 110) 7, type := 0, pos := "text.go:111", after := #[{ on := 15, ground := Ground.data }, { on := 0, ground := Ground.phase }, { on := 1, ground := Ground.phase }, { on := 2, ground := Ground.phase }, { on := 3, ground := Ground.phase }, { on := 4, ground := Ground.phase }, { on := 5, ground := Ground.phase }, { on := 6, ground := Ground.phase }, { on := 7, ground := Ground.phase }, { on := 8, ground := Ground.phase }, { on := 9, ground := Ground.phase }, { on := 10, ground := Ground.phase }, { on := 11, ground := Ground.phase }, { on := 12, ground := Ground.phase }, { on := 13, ground := Ground.phase }, { on := 14, ground := Ground.phase }], guard := none }) (v := ?_) rfl (by kernel_rfl) (by kernel_rfl) (by kernel_rfl) (fun _ _ _ h => h) (Or.inl ⟨by rfl, ?_⟩) (by assumption) ?_
                                rotate_left
                                · (intro w0 hSw; (try dsimp only at hSw); go_simp; try with_reducible rfl)
                                try simp only [Act.put, List.setIfInBounds_toArray, List.set_cons_zero, List.set_cons_succ]
                                refine wpAnyH_ready (rs := [17]) (by kernel_rfl) (by simp) ?_
                                refine AllReadyH.cons (o := { dst := none, op := Op.store 27 (Operand.tmp 111) (Operand.tmp 109), type := 0, pos := "text.go:111", after := #[{ on := 16, ground := Ground.data }, { on := 14, ground := Ground.data }, { on := 14, ground := Ground.chain }, { on := 0, ground := Ground.phase }, { on := 1, ground := Ground.phase }, { on := 2, ground := Ground.phase }, { on := 3, ground := Ground.phase }, { on := 4, ground := Ground.phase }, { on := 5, ground := Ground.phase }, { on := 6, ground := Ground.phase }, { on := 7, ground := Ground.phase }, { on := 8, ground := Ground.phase }, { on := 9, ground := Ground.phase }, { on := 10, ground := Ground.phase }, { on := 11, ground := Ground.phase }, { on := 12, ground := Ground.phase }, { on := 13, ground := Ground.phase }, { on := 14, ground := Ground.phase }], guard := none }) rfl (fun KZ hKZ => ?_) ?_
                                · skip
                                  go_simp
                                  refine hKZ.out _ _ ?_ (fun hHeld => ?_)
                                  · exact trivial
                                  clear hKZ KZ
                                  try simp only [Act.put, List.setIfInBounds_toArray, List.set_cons_zero, List.set_cons_succ]
                                  refine wpAnyH_done (by kernel_rfl) ?_ _
                                  clear hq4 hf4 hHeld hd7 hd7a HO7 HSz HPu HX HY HOne hi7 hv0 hv1 hv2 G3
                                  go_wp2
                                  go_roundg (remN xs (some (j + dd + 1)))
                                  case measure => exact HRs.out.2.1
                                  case rel => exact ⟨L ++ [((S[0].toNat : Int), NV, S.extract (k + 1) S.size)], A4, K4, some (j + dd + 1), rfl, by rw [List.length_append]; have := HRs.out.2.2 _ rfl (HLk.out j rfl); simp; omega, fun q hq => by rw [List.length_append]; exact HRs.out.2.2 q hq (HLk.out j rfl), HRs.out.1, HR4.out⟩
                                exact AllReadyH.nil
                              exact AllReadyH.nil
                            exact AllReadyH.nil
                          exact AllReadyH.nil
                        · have hn := hide (HNo.out (by rw [hsy, if_neg (fun q => hE q.2)]))
                          have HE : Hid (∀ w1, (∃ s, NR w p b a n c xs top d L A K s w1) → Post (.returned (.tuple #[])) (w1.setCell ⟨p, 3, none⟩ (.int .i64 2))) := fun w1 g => HBad.out hn.out _ g
                          have hE1 : (E == 0) = false := by rw [beq_eq_false_iff_ne]; exact hE
                          have hE2 : (E != 0) = true := by rw [bne, hE1]; rfl
                          clear HRd HNo hn HFin HBad HLk hsy hE z3 g3
                          go_wp2_with (first | (go_at_call 83; refine (HNum.out _).mono ?_; rintro e w3 ⟨rfl, hw3⟩; have G3 : Hid (NR w p b a n c xs top d L A K (some (j + dd + 1)) w3) := (by rw [hw3]; exact G2); clear hw3; obtain ⟨kb, hkb, z0, z1, z2, z3⟩ := G3.out.rd.cells; have g3 := G3.out.rd.free 3; clear hkb z0 z1 z2))
                          go_end0
                          exact HE.out _ ⟨_, G3.out⟩
        · have HC := hide (fun W (hW : RdR p a n c xs top (some j) W) => refLine_miss a n c j xs W hW.text hW.len (by omega) hj hm)
          have hlS : lineS xs (some j) = (⟨#[]⟩, none) := lineS_no (lineO_miss hm)
          rw [hlS] at hrd
          have hr2 : R.2 = none := by
            have hc : ¬ (⟨#[]⟩ : ByteArray) = lineC := by intro e; have := congrArg ByteArray.size e; revert this; decide
            have := (hrd.2 hc).1
            rw [symO_emp] at this
            have hr : R = (L ++ [noSym], none) := this
            rw [hr]
          have HE : Hid (∀ q, Post (.returned (.tuple #[])) ((wr.drewN q).setCell ⟨p, 3, none⟩ (.int .i64 2))) := fun q => HBad.out hr2 _ ⟨_, HG1.out q⟩
          clear hk c2 HLk HS HFin hrd hlS hm hr2
          go_wp2
          go_quiet (fail)
          go_wp2
          go_quiet ((go_at_call 81; refine (HC.out _ (HG1.out _).rd).mono ?_; rintro e w1 ⟨rfl, rfl⟩; exact ⟨rfl, _, rfl⟩))
          go_wp2
          go_end0
          exact HE.out _
      · have hjn : j = n := by omega
        subst hjn
        have HE : Hid (∀ W q, W = wr.drewN q → Post (.returned (.tuple #[])) W) := fun W q e => by
          rw [e]
          have hr := nst_end HS.out (by rw [HN.out]; exact Nat.le_refl _)
          exact HFin.out L A K (some j) _ (by rw [hr]) (fun _ => by rw [hr]) hL (HG1.out q)
        clear hk c2 HLk HS HFin f1 f3
        go_wp2
        go_quiet (fail)
        go_wp2
        go_end0
        exact HE.out _ _ rfl
end Go.Proofs.YtikjbbebfjleaaaGreatDoor
