/-
  THE WALKS of the keeper: newKeeper, rarest.
-/
import Derived.Test.YtcbgnmkipbhncaaRightOnes
import Derived.Test.YtcbgnmkipbhncaaCubeSet
namespace Go.Proofs.Ytcbgnmkipbhncaa
open Go.RowKit Go.Maps
set_option linter.unusedSectionVars false
variable [Inhabited El]

/-- An element of a map, told as it stands. -/
def rawElem : Value → Option (DataW Value × List MemPlace) := fun v => some (.held v, [])
def lookG (D : DataW Value) (n : Int) : DataW Value := D.atKey (.int .i64 n) (.held (.slice none 0 0))
theorem zeroInt (w : World) : (zeroValue 3).run Try.prog w = .ok (.int .i64 0) w := by kernel_rfl
theorem zeroLists (w : World) : (zeroValue 33).run Try.prog w = .ok (.slice none 0 0) w := by kernel_rfl

theorem look_raw {w : World} {b n : Nat} {D : DataW Value} (h : w.ownsMap Try.prog 3 rawElem b n D) {m : Int} (hm : (Lit.int .i64 m).wf = true) :
    ∃ v, (Instr.lookup 66 (.map (some b)) (.int .i64 m) false).run Try.prog w = .ok v w ∧ lookG D m = .held v := by
  obtain ⟨v, ps, hrun, hv⟩ := h.lookup keyI Try.underlying66 (zeroLists w) (zd := .held (.slice none 0 0)) (zp := []) rfl (keyI_of hm)
  refine ⟨v, hrun, ?_⟩
  unfold rawElem at hv
  simp only [Option.some.injEq, Prod.mk.injEq] at hv
  exact hv.1.symm

/-- The keeper at kb: how often each sign is there (cb), and what lies under which one (ub): under n the lists G n, in the slice gv n. wA: the world in which the lists were told. -/
structure Keeper (w : World) (kb cb ub B nU : Nat) (wA : World) (D : DataW Value) (gv : Int → Value) (G : Int → List El) : Prop where
  c0 : w.cell? ⟨kb, 0, none⟩ = some (.map (some cb))
  c1 : w.cell? ⟨kb, 1, none⟩ = some (.map (some ub))
  cnt : ∃ (nC : Nat) (DC : DataW Unit), w.ownsMap Try.prog 3 (plainElem Try.prog 3) cb nC DC
  und : w.ownsMap Try.prog 3 rawElem ub nU D
  look : ∀ n, lookG D n = .held (gv n)
  own : ∀ n, w.ownsRow B 22 1 (gv n) (G n).length ((G n).map El.v)
  apart : ∀ m n, m ≠ n → ∀ g, (gv m).ownBlock = some g → (gv n).ownBlock ≠ some g
  kbB : kb < B
  cbB : cb < B
  ubB : ub < B
  cu : cb ≠ ub
  ku : kb ≠ ub
  big : B ≤ w.heap.size
  oks : ∀ n, ∀ e ∈ G n, ElOk wA e
  below : Below wA.heap.size wA w
  wAB : wA.heap.size ≤ kb ∧ wA.heap.size ≤ cb ∧ wA.heap.size ≤ ub

theorem Keeper.kept {w w' : World} {kb cb ub B nU : Nat} {wA : World} {D : DataW Value} {gv : Int → Value} {G : Int → List El} (h : Keeper w kb cb ub B nU wA D gv G) {row : Option Nat} (hg : w.grownBy w' row) (h1 : some kb ≠ row) (h2 : some cb ≠ row) (h3 : some ub ≠ row) (h4 : ∀ n, (gv n).ownBlock = none ∨ (gv n).ownBlock ≠ row) (h5 : ∀ k, row = some k → wA.heap.size ≤ k) : Keeper w' kb cb ub B nU wA D gv G := by
  obtain ⟨nC, DC, hc⟩ := h.cnt
  exact { h with c0 := hg.cell h.c0 h1, c1 := hg.cell h.c1 h1, cnt := ⟨nC, DC, hc.kept hg h2⟩, und := h.und.kept hg h3, own := fun n => (h.own n).kept hg (h4 n), big := Nat.le_trans h.big hg.size, below := h.below.grown hg h.below.size h5 }
theorem Keeper.under {w w' : World} {kb cb ub B nU : Nat} {wA : World} {D : DataW Value} {gv : Int → Value} {G : Int → List El} (h : Keeper w kb cb ub B nU wA D gv G) (hb : Below w.heap.size w w') : Keeper w' kb cb ub B nU wA D gv G :=
  h.kept (row := none) ⟨hb.os, hb.tape, hb.output, hb.size, fun k hk _ => hb.block k hk⟩ (by simp) (by simp) (by simp) (fun n => by cases (gv n).ownBlock <;> simp) (fun k hk => by cases hk)

structure NkMid (w0 : World) (q : Nat) (wr : World) : Prop where
  below : Below w0.heap.size w0 wr
  c0 : wr.cell? ⟨w0.heap.size + 2, 0, none⟩ = some (.map (some w0.heap.size))
  c1 : wr.cell? ⟨w0.heap.size + 2, 1, none⟩ = some (.map (some (w0.heap.size + 1)))
  cnt : ∃ (DC : DataW Unit), wr.ownsMap Try.prog 3 (plainElem Try.prog 3) w0.heap.size q DC
  und : wr.ownsMap Try.prog 3 rawElem (w0.heap.size + 1) 0 (.map [])
  big : w0.heap.size + 3 ≤ wr.heap.size
theorem NkMid.kept {w0 wr w' : World} {q : Nat} (h : NkMid w0 q wr) (hb : Below wr.heap.size wr w') : NkMid w0 q w' := by
  obtain ⟨DC, hc⟩ := h.cnt
  have hg : wr.grownBy w' none := ⟨hb.os, hb.tape, hb.output, hb.size, fun k hk _ => hb.block k hk⟩
  exact ⟨h.below.trans (hb.mono h.below.size), hg.cell h.c0 (by simp), hg.cell h.c1 (by simp), ⟨DC, hc.kept hg (by simp)⟩, h.und.kept hg (by simp), Nat.le_trans h.big hb.size⟩
theorem NkMid.step {w0 wr : World} {q : Nat} (h : NkMid w0 q wr) (hq : q < 100000000) {n : Int} (hn : (Lit.int .i64 n).wf = true) :
    ∃ c, (Instr.lookup 65 (.map (some w0.heap.size)) (.int .i64 n) false).run Try.prog wr = .ok (.int .i64 c) wr ∧ ∀ d : Int, (Lit.int .i64 d).wf = true → ∃ w', (Instr.mapUpdate 65 (.map (some w0.heap.size)) (.int .i64 n) (.int .i64 d)).run Try.prog wr = .ok () w' ∧ NkMid w0 (q + 1) w' := by
  obtain ⟨DC, hc⟩ := h.cnt
  obtain ⟨c, hrun, _, _⟩ := hc.lookup_int keyI Try.underlying65 Try.underlying3 (zeroInt wr) (keyI_of hn)
  refine ⟨c, hrun, fun d hd => ?_⟩
  obtain ⟨w', hr, ho, hg⟩ := hc.update keyI Try.underlying65 (by unfold maxLen; omega) (keyI_of hn) (plainElem_int Try.underlying3 hd)
  exact ⟨w', hr, h.below.grown hg h.below.size (fun k hk => by cases hk; exact Nat.le_refl _), hg.cell h.c0 (by simp), hg.cell h.c1 (by simp), ⟨_, ho⟩, h.und.kept hg (by simp), Nat.le_trans h.big hg.size⟩

theorem cellsE_row {w : World} {g : Nat} {es : List El} (h : RowE w (some ⟨g, 0, none⟩) es) (i : Nat) (hi : i < es.length) : w.cell? ⟨g, i * 2, none⟩ = some (.int .i64 (atP es i).place) ∧ w.cell? ⟨g, i * 2 + 1, none⟩ = some (atP es i).v ∧ g < w.heap.size := by
  rcases h with ⟨e, _⟩ | ⟨x, e, hx⟩
  · cases e
  · cases e
    have h1 := hx _ _ (cellsE_at es i hi).1
    have h2 := hx _ _ (cellsE_at es i hi).2
    rw [add_plain, Nat.zero_add] at h1 h2
    exact ⟨h1, h2, World.block_lt_of_cell? w _ h1⟩

set_option maxRecDepth 100000 in
set_option maxHeartbeats 1000000 in
theorem newKeeper_any (a : Option Addr) (n c : Nat) (es : List El) (w : World) (hr : RowE w a es) (hx : es.length = n) (hn : n ≤ 1000) (ha : 0 < n → ∃ g, a = some ⟨g, 0, none⟩) (hok : ∀ e ∈ es, ElOk w e ∧ e.xs.length ≤ 1000 ∧ WfL e.xs) :
    Calls Try.prog 42 #[.slice a n c] w fun e w' => e = .returned (.pointer (some ⟨w.heap.size + 2, 0, none⟩)) ∧ ∃ q, NkMid w q w' := by
  have HR := hide hr
  have HX := hide hx
  have HK := hide hok
  have HA := hide ha
  have hm1 := fun W => @run_makeMap Try.prog 65 W
  have hm2 := fun W => @run_makeMap Try.prog 66 W
  clear hr hx hok ha
  go_enter Try.func42, Try.ntmps42
  go_wp2
  go_loopw [14] (fun i wr => ∃ (k q : Nat), i = .int .i64 k ∧ k ≤ n ∧ q ≤ k * 1000 ∧ Hid (NkMid w q wr)) (fun i _ => n - (intOf i).toNat)
  case atStart =>
    have g1 : w.grownBy (w.alloc (.map #[] 0)) none := World.grownBy_alloc _ _ _
    have g2 : (w.alloc (.map #[] 0)).grownBy ((w.alloc (.map #[] 0)).alloc (.map #[] 0)) none := World.grownBy_alloc _ _ _
    have g3 : ((w.alloc (.map #[] 0)).alloc (.map #[] 0)).grownBy (((w.alloc (.map #[] 0)).alloc (.map #[] 0)).alloc (.cells #[.map (some w.heap.size), .map (some (w.heap.size + 1))] 68)) none := World.grownBy_alloc _ _ _
    have o1 := ((World.ownsMap_made w Try.prog 3 (plainElem (H := Unit) Try.prog 3)).kept g2 (by simp)).kept g3 (by simp)
    have o2 := (World.ownsMap_made (w.alloc (.map #[] 0)) Try.prog 3 rawElem).kept g3 (by simp)
    have es : (w.alloc (.map #[] 0)).heap.size = w.heap.size + 1 := by simp
    rw [es] at o2
    have es2 : ((w.alloc (.map #[] 0)).alloc (.map #[] 0)).heap.size = w.heap.size + 2 := by simp
    have hcl := fun j => cell_of_row _ _ j #[.map (some w.heap.size), .map (some (w.heap.size + 1))] 68 (0, 0) (heap_alloc_new ((w.alloc (.map #[] 0)).alloc (.map #[] 0)) (.cells #[.map (some w.heap.size), .map (some (w.heap.size + 1))] 68))
    rw [es2] at hcl
    exact ⟨0, 0, rfl, Nat.zero_le _, Nat.zero_le _, (((Below.refl _ _).grown g1 (Nat.le_refl _) (fun k hk => by cases hk)).grown g2 (by simp) (fun k hk => by cases hk)).grown g3 (by simp; omega) (fun k hk => by cases hk), hcl 0, hcl 1, ⟨_, o1⟩, o2, by simp⟩
  case round =>
    obtain ⟨k, q, rfl, hk, hq, HM⟩ := hrel
    rename World => wo
    by_cases hlt : k < n
    · obtain ⟨g, rfl⟩ := HA.out (by omega)
      obtain ⟨hp1, hp2, hgl⟩ := cellsE_row HR.out k (by rw [HX.out]; exact hlt)
      have hek := HK.out _ (atP_mem es k (by rw [HX.out]; exact hlt))
      obtain ⟨x, HXX⟩ : ∃ x, Hid (x = atP es k) := ⟨_, rfl⟩
      rw [← HXX.out] at hp1 hp2 hek
      obtain ⟨pl, xa, xc, xs⟩ := x
      obtain ⟨hek1, hlen, hwf⟩ := hek
      dsimp only at hlen hwf
      have hp1 : wo.cell? ⟨g, k * 2, none⟩ = some (.int .i64 pl) := (HM.out.below.cell (p := ⟨g, k * 2, none⟩) hgl).trans hp1
      have hp2 : wo.cell? ⟨g, k * 2 + 1, none⟩ = some (.slice xa xs.length xc) := (HM.out.below.cell (p := ⟨g, k * 2 + 1, none⟩) hgl).trans hp2
      obtain ⟨ln, HLN⟩ : ∃ ln, Hid (ln = xs.length) := ⟨_, rfl⟩
      rw [← HLN.out] at hp2 hlen
      have HE := hide hek1
      have HW := hide hwf
      clear hek1 hwf
      go_wp2
      go_loopw [21] (fun i wx => ∃ (j q2 : Nat), i = .int .i64 j ∧ j ≤ ln ∧ q2 ≤ k * 1000 + j ∧ Hid (NkMid w q2 wx)) (fun i _ => ln - (intOf i).toNat)
      case atStart =>
        have hb : Below wo.heap.size wo (wo.alloc (.cells #[.int .i64 pl, .slice xa ln xc] 53)) := (Below.refl _ _).grown (World.grownBy_alloc _ _ none) (Nat.le_refl _) (fun k hk => by cases hk)
        exact ⟨0, q, rfl, Nat.zero_le _, by omega, HM.out.kept hb⟩
      case round =>
        obtain ⟨j, q2, rfl, hj, hq2, HM2⟩ := hrel
        by_cases hjl : j < ln
        · obtain ⟨b, off, hab, hbw, hcell⟩ := HE.out.1.addr (by show 0 < xs.length; rw [← HLN.out]; omega)
          dsimp only at hab hcell
          subst hab
          have hc := (HM2.out.below.cell (p := ⟨b, off + j, none⟩) hbw).trans (hcell j (by rw [← HLN.out]; exact hjl))
          rw [atP_getD] at hc
          have hy := HW.out _ (atP_mem xs j (by rw [← HLN.out]; exact hjl))
          obtain ⟨y, HY⟩ : ∃ y, Hid (y = atP xs j) := ⟨_, rfl⟩
          rw [← HY.out] at hc hy
          obtain ⟨cn, hl1, hup⟩ := HM2.out.step (by omega) hy
          obtain ⟨w5, hu1, hmid⟩ := hup (wrap64 (cn + 1)) (wrap64_wf _)
          have hc0 := HM2.out.c0
          have HMid := hide hmid
          clear hcell hup hmid hy
          go_wp2
          go_roundw
          case rel => exact ⟨j + 1, q2 + 1, by go_num, by omega, by omega, HMid.out⟩
          case measure => simp [intOf]; omega
        · obtain rfl : j = ln := by omega
          go_wp2
          go_roundw
          case rel => exact ⟨k + 1, q2, by go_num, by omega, by omega, HM2.out⟩
          case measure => simp [intOf]; omega
    · obtain rfl : k = n := by omega
      go_wp2
      go_ret
      exact ⟨rfl, q, HM.out⟩
end Go.Proofs.Ytcbgnmkipbhncaa
