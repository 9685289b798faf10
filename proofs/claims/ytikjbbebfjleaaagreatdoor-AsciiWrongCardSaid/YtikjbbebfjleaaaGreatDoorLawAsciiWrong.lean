/-
  THE LAW AsciiWrong, walked.
-/
import Derived.Test.YtikjbbebfjleaaaGreatDoorRd3
import Derived.Test.YtikjbbebfjleaaaGreatDoorAigRefSame
import Derived.Test.YtikjbbebfjleaaaGreatDoorJ45
namespace Go.Proofs.YtikjbbebfjleaaaGreatDoor
open Go.RowKit

/-- The texts that are none, and why. -/
def wrongS : List ByteArray := [⟨#[]⟩, ⟨#[97, 97, 103]⟩, ⟨#[97, 97, 103, 32, 48, 32, 48, 32, 48, 32, 48]⟩, ⟨#[97, 97, 103, 32, 48, 32, 48, 32, 48, 32, 48, 32, 48]⟩, ⟨#[97, 105, 103, 32, 48, 32, 48, 32, 48, 32, 48, 32, 48, 10]⟩, ⟨#[97, 97, 103, 32, 48, 32, 48, 32, 48, 32, 48, 32, 48, 32, 10]⟩, ⟨#[97, 97, 103, 32, 32, 48, 32, 48, 32, 48, 32, 48, 32, 48, 10]⟩, ⟨#[97, 97, 103, 32, 48, 48, 32, 48, 32, 48, 32, 48, 32, 48, 10]⟩, ⟨#[97, 97, 103, 32, 49, 32, 49, 32, 48, 32, 48, 32, 48, 10]⟩, ⟨#[97, 97, 103, 32, 49, 32, 49, 32, 48, 32, 48, 32, 48, 10, 51, 10]⟩, ⟨#[97, 97, 103, 32, 49, 32, 49, 32, 48, 32, 48, 32, 48, 10, 48, 10]⟩, ⟨#[97, 97, 103, 32, 49, 32, 49, 32, 48, 32, 48, 32, 48, 10, 52, 10]⟩, ⟨#[97, 97, 103, 32, 49, 32, 49, 32, 48, 32, 48, 32, 48, 10, 50, 32, 10]⟩, ⟨#[97, 97, 103, 32, 49, 32, 49, 32, 48, 32, 48, 32, 48, 10, 50]⟩, ⟨#[97, 97, 103, 32, 49, 32, 48, 32, 49, 32, 48, 32, 48, 10, 50, 32, 50, 32, 52, 10]⟩, ⟨#[97, 97, 103, 32, 49, 32, 48, 32, 49, 32, 48, 32, 48, 10, 50, 32, 50, 32, 51, 10]⟩, ⟨#[97, 97, 103, 32, 50, 32, 50, 32, 48, 32, 48, 32, 48, 10, 50, 10, 50, 10]⟩, ⟨#[97, 97, 103, 32, 50, 32, 49, 32, 48, 32, 49, 32, 48, 10, 50, 10, 52, 10]⟩, ⟨#[97, 97, 103, 32, 49, 32, 48, 32, 48, 32, 48, 32, 49, 10, 50, 32, 50, 32, 49, 10]⟩, ⟨#[97, 97, 103, 32, 50, 32, 49, 32, 48, 32, 48, 32, 49, 10, 50, 10, 52, 32, 50, 10]⟩, ⟨#[97, 97, 103, 32, 48, 32, 48, 32, 48, 32, 48, 32, 48, 32, 48, 32, 48, 32, 49, 10]⟩, ⟨#[97, 97, 103, 32, 48, 32, 48, 32, 48, 32, 48, 32, 48, 32, 48, 32, 48, 32, 48, 32, 49, 10]⟩, ⟨#[97, 97, 103, 32, 48, 32, 48, 32, 48, 32, 48, 32, 48, 32, 48, 32, 48, 32, 48, 32, 48, 32, 48, 10]⟩, ⟨#[97, 97, 103, 32, 53, 48, 48, 49, 32, 48, 32, 48, 32, 48, 32, 48, 10]⟩, ⟨#[97, 97, 103, 32, 54, 53, 32, 54, 53, 32, 48, 32, 48, 32, 48, 10]⟩, ⟨#[97, 97, 103, 32, 49, 32, 49, 32, 48, 32, 48, 32, 48, 10, 50, 10, 105, 48, 10]⟩, ⟨#[97, 97, 103, 32, 49, 32, 49, 32, 48, 32, 48, 32, 48, 10, 50, 10, 105, 48, 32, 10]⟩, ⟨#[97, 97, 103, 32, 49, 32, 49, 32, 48, 32, 48, 32, 48, 10, 50, 10, 105, 49, 32, 97, 10]⟩, ⟨#[97, 97, 103, 32, 49, 32, 49, 32, 48, 32, 48, 32, 48, 10, 50, 10, 120, 48, 32, 97, 10]⟩, ⟨#[97, 97, 103, 32, 50, 32, 50, 32, 48, 32, 48, 32, 48, 10, 50, 10, 52, 10, 105, 48, 32, 97, 10, 105, 48, 32, 98, 10]⟩, ⟨#[97, 97, 103, 32, 49, 32, 49, 32, 48, 32, 48, 32, 48, 10, 50, 10, 105, 48, 48, 32, 97, 10]⟩, ⟨#[97, 97, 103, 32, 48, 32, 48, 32, 48, 32, 48, 32, 48, 10, 99]⟩, ⟨#[97, 97, 103, 32, 48, 32, 48, 32, 48, 32, 48, 32, 48, 10, 10]⟩, ⟨#[97, 97, 103, 32, 49, 32, 48, 32, 49, 32, 48, 32, 48, 10, 50, 32, 50, 32, 48, 32, 48, 10]⟩]
def wrongN : List Int := [2, 2, 2, 2, 2, 2, 2, 2, 2, 2, 2, 2, 2, 2, 2, 2, 10, 8, 9, 2, 2, 2, 2, 3, 3, 2, 2, 2, 2, 10, 2, 2, 2, 2]
theorem wrong_all : ∀ k, k < 34 → gramA.readE (numsOf (wrongS.getD k ⟨#[]⟩)) = wrongN.getD k 0 ∧ wrongN.getD k 0 ≠ 0 ∧ (wrongS.getD k ⟨#[]⟩).size ≤ 100 := by decide +kernel

/-- The two lists, laid one behind the other. -/
theorem two_lists (w : World) (k : Nat) (hk : k < 34) :
    ((w.alloc (.cells (wrongS.map Value.string).toArray 9)).alloc (.cells (wrongN.map (Value.int .i64)).toArray 3)).cell? ⟨w.heap.size, k, none⟩ = some (.string (wrongS.getD k ⟨#[]⟩)) ∧
    ((w.alloc (.cells (wrongS.map Value.string).toArray 9)).alloc (.cells (wrongN.map (Value.int .i64)).toArray 3)).cell? ⟨w.heap.size + 1, k, none⟩ = some (.int .i64 (wrongN.getD k 0)) := by
  have h1 : k < wrongS.length := hk
  have h2 : k < wrongN.length := hk
  have c1 := cells_at w (wrongS.map Value.string) 9 k (.string (wrongS.getD k ⟨#[]⟩)) (by rw [List.getElem?_map, List.getElem?_eq_getElem h1, List.getD_eq_getElem?_getD, List.getElem?_eq_getElem h1]; rfl)
  refine ⟨((below_alloc _ _).cell (block_lt_of_cell c1)).trans c1, ?_⟩
  have s1 : (w.alloc (.cells (wrongS.map Value.string).toArray 9)).heap.size = w.heap.size + 1 := by simp
  have c2 := cells_at (w.alloc (.cells (wrongS.map Value.string).toArray 9)) (wrongN.map (Value.int .i64)) 3 k (.int .i64 (wrongN.getD k 0)) (by rw [List.getElem?_map, List.getElem?_eq_getElem h2, List.getD_eq_getElem?_getD, List.getElem?_eq_getElem h2]; rfl)
  rw [s1] at c2
  exact c2

set_option maxRecDepth 100000 in
set_option maxHeartbeats 4000000 in
theorem asciiWrong_any (n : Int) (w : World) (hn0 : -9223372036854775808 ≤ n) (hn1 : n ≤ 9223372036854775807) (hE : Env w) (hM : EnvM w) :
    Calls Tryz.prog 6 #[.int .i64 n] w fun e w' => e = .returned (.bool true) ∧ Below w.heap.size w w' := by
  have HAl := hide (alive5_any w hE hM)
  by_cases hin : 0 ≤ n ∧ n < 34
  · obtain ⟨k, rfl⟩ := Int.eq_ofNat_of_zero_le hin.1
    have hk : k < 34 := by omega
    obtain ⟨hp1, hp2, hp3⟩ := wrong_all k hk
    have HX : Hid (∀ W : World, ∃ W3, (W.alloc (.cells (wrongS.map Value.string).toArray 9)).alloc (.cells (wrongN.map (Value.int .i64)).toArray 3) = W3 ∧ W3.cell? ⟨W.heap.size, k, none⟩ = some (.string (wrongS.getD k ⟨#[]⟩)) ∧ W3.cell? ⟨W.heap.size + 1, k, none⟩ = some (.int .i64 (wrongN.getD k 0)) ∧ Below W.heap.size W W3) := fun W => ⟨_, rfl, (two_lists W k hk).1, (two_lists W k hk).2, belowThen (below_alloc W _) (below_alloc _ _)⟩
    generalize wrongS.getD k ⟨#[]⟩ = S at *
    generalize wrongN.getD k 0 = E at *
    have HTx : Hid (∀ W, Below w.heap.size w W → ∃ W4 cp b3, (convert 9 22 (.string S)).run Tryz.prog W = .ok (.slice (some ⟨b3, 0, none⟩) S.size cp) W4 ∧ Txt W4 (some ⟨b3, 0, none⟩) S.size cp (numsOf S) ∧ Below W.heap.size W W4) := fun W hb => ⟨_, _, _, Lib.run_convert_string_bytes (P := Tryz.prog) W 9 22 5 S Tryz.underlying9 Tryz.underlying22 Tryz.underlying5, (txt_str (hE.below hb) (hM.below hb) S (by omega)).1, (txt_str (hE.below hb) (hM.below hb) S (by omega)).2⟩
    have HRd := hide (fun W a c (h : Txt W a S.size c (numsOf S)) => asciiRead_any a S.size c (numsOf S) W h)
    unfold ReadPost Gram.read at HRd
    rw [hp1, if_neg hp2] at HRd
    have HNum := hide (fun n W => num5_any n W)
    have hEE : (E == E) = true := by simp
    simp only [wrongS, wrongN, List.map_cons, List.map_nil] at HX
    clear hE hM hp1 hp2 hp3
    go_enter Tryz.func6, Tryz.ntmps6
    go_upto_region 4 with (first | (go_at_call 11; refine HAl.out.mono ?_; rintro e w1 ⟨rfl, hb1⟩; obtain ⟨W3, hW3, c1, c2, hb3⟩ := HX.out w1; have HB3 := hide (belowThen hb1 hb3); have HW3 := hide hW3; clear hb1 hb3 hW3 HX HAl))
    rw [HW3.out]
    clear HW3
    obtain ⟨W4, cp, b3, hcv, htx, hb4⟩ := HTx.out W3 HB3.out
    have HTx4 := hide htx
    have HB4 := hide (belowThen HB3.out hb4)
    have e2 := (hb4.cell (block_lt_of_cell c2)).trans c2
    clear htx hb4 HTx
    have hkk : (k : Int) < 34 := hin.2
    go_upto_region 7 with (first | (go_at_call 12; refine (HRd.out W4 _ _ HTx4.out).mono ?_; rintro e w5 ⟨d, rfl, hd, rd, ab, hb5⟩; have e5 := (hb5.cell (block_lt_of_cell e2)).trans e2; have HB5 := hide (belowThen HB4.out hb5); have HD := hide (And.intro hd rd); clear hd rd ab hb5; unfold CV.v))
    have hba := below_alloc w5 (.cells #[.int .i64 d.m, .slice d.a1 d.n1 d.c1, .slice d.a2 d.n2 d.c2, .slice d.a3 d.n3 d.c3, .slice d.a4 d.n4 d.c4, .slice d.a5 d.n5 d.c5, .slice d.a6 d.n6 d.c6, .slice d.a7 d.n7 d.c7] 29)
    have e6 := (hba.cell (block_lt_of_cell e5)).trans e5
    have HB6 := hide (belowThen HB5.out hba)
    have B6 := hide (box_new w5 d)
    have HD6 := hide (HD.out.1.below hba)
    have HSm := hide (fun W (hb : Below (w5.alloc (.cells #[.int .i64 d.m, .slice d.a1 d.n1 d.c1, .slice d.a2 d.n2 d.c2, .slice d.a3 d.n3 d.c3, .slice d.a4 d.n4 d.c4, .slice d.a5 d.n5 d.c5, .slice d.a6 d.n6 d.c6, .slice d.a7 d.n7 d.c7] 29)).heap.size (w5.alloc (.cells #[.int .i64 d.m, .slice d.a1 d.n1 d.c1, .slice d.a2 d.n2 d.c2, .slice d.a3 d.n3 d.c3, .slice d.a4 d.n4 d.c4, .slice d.a5 d.n5 d.c5, .slice d.a6 d.n6 d.c6, .slice d.a7 d.n7 d.c7] 29)) W) => refSame_any d cvN noCirc noCirc W (HD6.out.below hb) (holdsN W) HD.out.2 ⟨by decide, by decide, by decide, by decide, by decide, by decide, by decide⟩)
    rw [show sameB noCirc noCirc = true by decide] at HSm
    unfold cvN CV.v at HSm
    generalize w5.alloc (.cells #[.int .i64 d.m, .slice d.a1 d.n1 d.c1, .slice d.a2 d.n2 d.c2, .slice d.a3 d.n3 d.c3, .slice d.a4 d.n4 d.c4, .slice d.a5 d.n5 d.c5, .slice d.a6 d.n6 d.c6, .slice d.a7 d.n7 d.c7] 29) = W6 at *
    clear c1 c2 e2 e5 hcv HB3 HB4 HB5 HTx4 HRd hba HD HD6
    have e6d : W6.drew.cell? ⟨w1.heap.size + 1, k, none⟩ = some (.int .i64 E) := e6
    obtain ⟨q0, q1, q2, q3, q4, q5, q6, q7⟩ := B6.out.cells
    go_region_with (first | (go_at_call 14; refine (HNum.out _ _).mono ?_; rintro e w7 ⟨rfl, rfl⟩) | (go_at_call 15; refine (HSm.out _ (by first | exact Drew.below ⟨1, rfl⟩ | exact Below.refl _ _)).mono ?_; rintro e w8 ⟨rfl, hb8⟩))
    all_goals go_wp2
    all_goals go_ret
    all_goals first | exact ⟨rfl, belowThen HB6.out (belowThen (Drew.below ⟨1, rfl⟩) hb8)⟩ | exact ⟨rfl, belowThen HB6.out hb8⟩
  · have HX : Hid (∀ W : World, Below W.heap.size W ((W.alloc (.cells (wrongS.map Value.string).toArray 9)).alloc (.cells (wrongN.map (Value.int .i64)).toArray 3))) := fun W => belowThen (below_alloc W _) (below_alloc _ _)
    simp only [wrongS, wrongN, List.map_cons, List.map_nil] at HX
    clear hE hM
    by_cases h0 : n < 0
    · go_enter Tryz.func6, Tryz.ntmps6
      go_wp2_with (first | (go_at_call 11; refine HAl.out.mono ?_; rintro e w1 ⟨rfl, hb1⟩; have HB1 := hide (belowThen hb1 (HX.out w1)); clear hb1 HX HAl))
      go_ret
      exact ⟨rfl, HB1.out⟩
    · have h1 : 34 ≤ n := by omega
      go_enter Tryz.func6, Tryz.ntmps6
      go_wp2_with (first | (go_at_call 11; refine HAl.out.mono ?_; rintro e w1 ⟨rfl, hb1⟩; have HB1 := hide (belowThen hb1 (HX.out w1)); clear hb1 HX HAl))
      go_ret
      exact ⟨rfl, HB1.out⟩
end Go.Proofs.YtikjbbebfjleaaaGreatDoor
