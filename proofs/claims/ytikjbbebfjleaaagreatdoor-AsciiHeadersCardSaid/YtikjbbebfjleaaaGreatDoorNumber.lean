/-
  THE WALKS of layer 1: Number (scan's), alive.
-/
import Derived.Test.YtikjbbebfjleaaaGreatDoorJ0
import Derived.Test.YtikjbbebfjleaaaGreatDoorShelfA
namespace Go.Proofs.YtikjbbebfjleaaaGreatDoor
open Go.RowKit

/-- WHAT THE WALKS ASK OF THE WORLD: strconv.ErrRange holds some value of an interface's type. -/
def Env (w : World) : Prop := ∃ ev, w.cell? ⟨2, 0, none⟩ = some ev ∧ (ev = .nilIface ∨ ∃ te pe, ev = .iface te pe)

theorem Env.below {w w' : World} (h : Env w) (hb : Below w.heap.size w w') : Env w' := by
  obtain ⟨ev, hv, hev⟩ := h
  have hG : 2 < w.heap.size := Lib.lt_of_cell hv
  exact ⟨ev, (hb.cell (show (⟨2, 0, none⟩ : Addr).block < w.heap.size from hG)).trans hv, hev⟩

theorem numV_no {l : List UInt8} {most : Int} (h : isDec l = false) : numV l most = 0 := by simp [numV, h]
theorem numE_no {l : List UInt8} {most : Int} (h : isDec l = false) : numE l most = 2 := by simp [numE, h]
theorem numV_big {l : List UInt8} {most : Int} (h : ¬ (val 0 l : Int) ≤ most) : numV l most = 0 := by simp [numV, h]
theorem numE_big {l : List UInt8} {most : Int} (hd : isDec l = true) (h : ¬ (val 0 l : Int) ≤ most) : numE l most = 3 := by simp [numE, h, hd]
theorem numV_ok {l : List UInt8} {most : Int} (hd : isDec l = true) (h : (val 0 l : Int) ≤ most) : numV l most = val 0 l := by simp [numV, h, hd]
theorem numE_ok {l : List UInt8} {most : Int} (hd : isDec l = true) (h : (val 0 l : Int) ≤ most) : numE l most = 0 := by simp [numE, h, hd]

set_option maxHeartbeats 400000 in
theorem number_any (s : ByteArray) (most : Int) (w : World) (hs : s.size ≤ 281474976710656) (hm : most ≤ 9223372036854775807) (hE : Env w) :
    Calls Tryz.prog 85 #[.string s, .int .i64 most] w fun e w' => e = .returned (.tuple #[.int .i64 (numV s.data.toList most), .int .i64 (numE s.data.toList most)]) ∧ Below w.heap.size w w' := by
  have hs' : s.size ≤ maxLen := by unfold maxLen; omega
  obtain ⟨ev, hv, hev⟩ := hE
  have HV := hide hv
  have HEV := hide hev
  clear hv hev
  cases hd : isDec s.data.toList with
  | false =>
    rw [numV_no hd, numE_no hd]
    go_enter Tryz.func85, Tryz.ntmps85
    go_wp2_with (go_at_call 117; refine (isDecimal_any _ _ hs').mono ?_; rintro e w' ⟨rfl, rfl⟩)
    go_ret2
    exact ⟨rfl, Below.refl _ _⟩
  | true =>
    have ha := atoi_dec _ hd
    by_cases hb : val 0 s.data.toList < 9223372036854775808
    · rw [if_pos hb] at ha
      have HA := hide ha
      clear ha
      by_cases hle : (val 0 s.data.toList : Int) ≤ most
      · rw [numV_ok hd hle, numE_ok hd hle]
        generalize val 0 s.data.toList = v at hb hle HA ⊢
        go_enter Tryz.func85, Tryz.ntmps85
        go_wp2_with (first | (go_at_call 117; refine (isDecimal_any _ _ hs').mono ?_; rintro e w' ⟨rfl, rfl⟩) | (go_at_call 118; refine (Tryz.strconv_Atoi_ok s (by omega) v HA.out _).mono ?_; rintro e w' ⟨rfl, hw⟩))
        go_ret2
        refine ⟨rfl, ?_⟩
        rcases hw with rfl | ⟨t, rfl⟩
        · exact Below.refl _ _
        · exact Lib.bytesWorld_below _ _ _
      · rw [numV_big hle, numE_big hd hle]
        generalize val 0 s.data.toList = v at hb hle HA ⊢
        go_enter Tryz.func85, Tryz.ntmps85
        go_wp2_with (first | (go_at_call 117; refine (isDecimal_any _ _ hs').mono ?_; rintro e w' ⟨rfl, rfl⟩) | (go_at_call 118; refine (Tryz.strconv_Atoi_ok s (by omega) v HA.out _).mono ?_; rintro e w' ⟨rfl, hw⟩))
        go_ret2
        refine ⟨rfl, ?_⟩
        rcases hw with rfl | ⟨t, rfl⟩
        · exact Below.refl _ _
        · exact Lib.bytesWorld_below _ _ _
    · rw [if_neg hb] at ha
      have HA := hide ha
      clear ha
      have hle : ¬ (val 0 s.data.toList : Int) ≤ most := by omega
      rw [numV_big hle, numE_big hd hle]
      clear hle hb
      go_enter Tryz.func85, Tryz.ntmps85
      go_wp2_with (first | (go_at_call 117; refine (isDecimal_any _ _ hs').mono ?_; rintro e w' ⟨rfl, rfl⟩) | (go_at_call 118; refine (Tryz.strconv_Atoi_range s hs HA.out ev _ HV.out HEV.out).mono ?_; rintro e w' ⟨N, rfl, -, -, hbel⟩))
      go_ret2
      exact ⟨rfl, hbel⟩

theorem number_07 (w : World) (hE : Env w) :
    Calls Tryz.prog 85 #[.string ⟨#[48, 55]⟩, .int .i64 9] w fun e w' => e = .returned (.tuple #[.int .i64 0, .int .i64 2]) ∧ Below w.heap.size w w' := by
  have h := number_any ⟨#[48, 55]⟩ 9 w (by decide) (by decide) hE
  have e1 : numV (⟨#[48, 55]⟩ : ByteArray).data.toList 9 = 0 := by decide
  have e2 : numE (⟨#[48, 55]⟩ : ByteArray).data.toList 9 = 2 := by decide
  rw [e1, e2] at h
  exact h

theorem number_7 (w : World) (hE : Env w) :
    Calls Tryz.prog 85 #[.string ⟨#[55]⟩, .int .i64 9] w fun e w' => e = .returned (.tuple #[.int .i64 7, .int .i64 0]) ∧ Below w.heap.size w w' := by
  have h := number_any ⟨#[55]⟩ 9 w (by decide) (by decide) hE
  have e1 : numV (⟨#[55]⟩ : ByteArray).data.toList 9 = 7 := by decide
  have e2 : numE (⟨#[55]⟩ : ByteArray).data.toList 9 = 0 := by decide
  rw [e1, e2] at h
  exact h

end Go.Proofs.YtikjbbebfjleaaaGreatDoor
