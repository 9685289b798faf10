/-
  THE WALKS of the reference's renamed and all.
-/
import Derived.Test.YtppaifckiaaffaaNormLats
import Derived.Test.YtppaifckiaaffaaAigBox
import Derived.Test.YtppaifckiaaffaaPlaces
namespace Go.Proofs.Ytppaifckiaaffaa
open Go.RowKit

set_option maxRecDepth 100000 in
set_option maxHeartbeats 1000000 in
theorem renamed_any (g n : Nat) (rs : List Int) (l : Int) (w : World) (h : Ren w g n rs) (hl : LitIn n l) :
    Calls Try.prog 51 #[.slice (some ⟨g, 0, none⟩) n n, .int .i64 l] w fun e w' => e = .returned (.int .i64 (renL rs l)) ∧ w' = w := by
  obtain ⟨h0, h1, hv⟩ := hl
  have hc := h.row (varN l) (by rw [h.len]; exact hv)
  have hs := h.small _ (atP_mem rs (varN l) (by rw [h.len]; exact hv))
  have hq := tdiv_two h0
  have hm := tmod_2 h0
  have hn := h.le
  have HR : Hid (renL rs l = 2 * atP rs (varN l) + l % 2) := rfl
  rw [HR.out]
  generalize varN l = v at hq hc hs hv HR ⊢
  generalize atP rs v = x at hc hs HR ⊢
  have hb : 0 ≤ l % 2 ∧ l % 2 ≤ 1 := by omega
  generalize l % 2 = y at hm hb HR ⊢
  obtain ⟨s0, s1⟩ := hs
  obtain ⟨b0, b1⟩ := hb
  clear h HR
  go_enter Try.func51, Try.ntmps51
  go_wp2
  go_ret
  exact ⟨by go_num, rfl⟩

theorem rowC_one {w W : World} {v : Value} {t : TypeId} {b : Nat} (hW : W = w.alloc (.cells #[v] t)) (hb : b = w.heap.size) : RowC W (some ⟨b, 0, none⟩) [v] := by
  subst hW
  subst hb
  refine .inr ⟨_, rfl, fun j u hu => ?_⟩
  rw [add_plain, Nat.zero_add, cell_of_row _ _ j #[v] t (0, 0) (heap_alloc_new w _)]
  simpa using hu

/-- A slice while it is appended to. -/
structure Ap (w0 : World) (e : TypeId) (size : Nat) (v : Value) (k : Nat) (cs : List Value) (wr : World) : Prop where
  own : wr.ownsRow w0.heap.size e size v k cs
  below : Below w0.heap.size w0 wr
theorem Ap.step {w0 wr w1 : World} {e : TypeId} {size k m : Nat} {v v1 : Value} {cs ds : List Value} {o : Obj} (h : Ap w0 e size v k cs wr) (hg : (wr.alloc o).grownBy w1 v.ownBlock) (hown : w1.ownsRow w0.heap.size e size v1 m ds) : Ap w0 e size v1 m ds w1 :=
  ⟨hown, (belowThen h.below (below_alloc wr o)).grown hg (by have := h.below.size; simp; omega) (fun k hk => (h.own.lt k hk).1)⟩

set_option maxRecDepth 100000 in
set_option maxHeartbeats 1000000 in
theorem all_any (g n : Nat) (rs : List Int) (la : Option Addr) (m lc : Nat) (xs : List Int) (w : World) (h : Ren w g n rs) (hr : RowK .i64 w la xs) (hx : xs.length = m) (hm : m ≤ 10000) (hin : ∀ l ∈ xs, LitIn n l) :
    Calls Try.prog 50 #[.slice (some ⟨g, 0, none⟩) n n, .slice la m lc] w fun e w' => ∃ v, e = .returned v ∧ NewInts w (xs.map (renL rs)) v w' := by
  obtain ⟨i0, hi, hz0, hz1, hz2⟩ := info_parts infoInt
  have HH := hide h
  have HR := hide hr
  have HX := hide hx
  have HI := hide hin
  have hw0 : w.heap.size ≤ w.heap.size := Nat.le_refl _
  generalize hP : (fun (e : Ending) (w' : World) => ∃ v, e = .returned v ∧ NewInts w (xs.map (renL rs)) v w') = Post
  have HP := hide hP
  clear h hr hx hin hP
  go_enter Try.func50, Try.ntmps50
  go_wp2
  go_loopw [5, 6] (fun o i wr => ∃ (k : Nat), i = .int .i64 k ∧ k ≤ m ∧ Hid (Ap w 3 1 o k (((xs.take k).map (renL rs)).map (Value.int .i64)) wr)) (fun _ i _ => m - (intOf i).toNat)
  case atStart => exact ⟨0, rfl, Nat.zero_le _, ⟨World.ownsRow_nil _ _ _ _, Below.refl _ _⟩⟩
  case round =>
    obtain ⟨k, rfl, hk, HF⟩ := hrel
    by_cases hlt : k < m
    · obtain ⟨b, off, rfl, hbw, hcell⟩ := HR.out.addr (by rw [HX.out]; omega)
      have hc0 := (HF.out.below.cell (p := ⟨b, off + k, none⟩) hbw).trans (hcell k (by rw [HX.out]; exact hlt))
      rw [atP_getD] at hc0
      have hli := hide (HI.out _ (atP_mem xs k (by rw [HX.out]; exact hlt)))
      have HS : Hid (((xs.take (k + 1)).map (renL rs)).map (Value.int .i64) = ((xs.take k).map (renL rs)).map (Value.int .i64) ++ [.int .i64 (renL rs (atP xs k))]) := by
        show _ = _
        rw [take_snocP xs k (by rw [HX.out]; exact hlt)]; simp
      generalize atP xs k = x at hc0 hli HS
      have HG := hide (renamed_any g n rs x wr (HH.out.below HF.out.below) hli.out)
      generalize renL rs x = y at HG HS
      obtain ⟨va, vc, hvf⟩ := own_form HF.out.own
      subst hvf
      clear hcell
      go_wp2_with (first | (go_at_call 51; refine HG.out.mono ?_; rintro e w3 ⟨rfl, hw3⟩; obtain rfl := hw3.symm) | (at_builtin; refine wpList_append_rowC _ rfl (.tmp 13) (.tmp 20) 22 rfl w.heap.size 3 i0 (.int .i64 0) 1 8 Try.underlying22 hi hz0 hz1 hz2 rfl (by decide) (.slice va k vc) k (((xs.take k).map (renL rs)).map (Value.int .i64)) rfl (HF.out.own.alloc _) (some ⟨wr.heap.size, 0, none⟩) 1 1 [.int .i64 y] rfl rfl (rowC_one rfl rfl) (fun e => by cases e) (fun u hu => by simp at hu; subst hu; rfl) (by unfold maxLen; omega) (by omega) (by have := HF.out.below.size; simp; omega) ?_; intro v4 w4 hown4 hg4; rw [← HS.out] at hown4; have HSt := hide (HF.out.step hg4 hown4); clear hown4 hg4))
      go_roundw
      case rel => exact ⟨k + 1, by go_num, by omega, HSt.out⟩
      case measure => simp [intOf]; omega
    · obtain rfl : k = m := by omega
      have hfin : Hid (∀ v, Ap w 3 1 v k (((xs.take k).map (renL rs)).map (Value.int .i64)) wr → Post (.returned v) wr) := fun v hv => by
        rw [← HP.out]
        refine ⟨v, rfl, ?_, hv.below⟩
        have := hv.own
        rw [show xs.take k = xs by rw [← HX.out, List.take_length]] at this
        rw [List.length_map, HX.out]
        exact this
      go_wp2
      exact hfin.out _ HF.out
end Go.Proofs.Ytppaifckiaaffaa
