/-
  THE LAW BinaryWrong, walked.
-/
import Derived.Test.YtikjbbebfjleaaaGreatDoorRdBinR
import Derived.Test.YtikjbbebfjleaaaGreatDoorAigRefSame
import Derived.Test.YtikjbbebfjleaaaGreatDoorJ45
namespace Go.Proofs.YtikjbbebfjleaaaGreatDoor
open Go.RowKit

/-- The bytes that are none. -/
def wrongB : List ByteArray := [⟨#[]⟩, ⟨#[97, 105, 103, 32, 49, 32, 48, 32, 48, 32, 48, 32, 48, 10]⟩, ⟨#[97, 105, 103, 32, 50, 32, 49, 32, 48, 32, 48, 32, 48, 10]⟩, ⟨#[97, 105, 103, 32, 49, 32, 48, 32, 48, 32, 48, 32, 49, 10]⟩, ⟨#[97, 105, 103, 32, 49, 32, 48, 32, 48, 32, 48, 32, 49, 10, 0, 0]⟩, ⟨#[97, 105, 103, 32, 49, 32, 48, 32, 48, 32, 48, 32, 49, 10, 3, 0]⟩, ⟨#[97, 105, 103, 32, 49, 32, 48, 32, 48, 32, 48, 32, 49, 10, 2, 1]⟩, ⟨#[97, 105, 103, 32, 49, 32, 48, 32, 48, 32, 48, 32, 49, 10, 2]⟩, ⟨#[97, 105, 103, 32, 49, 32, 48, 32, 48, 32, 48, 32, 49, 10, 130]⟩, ⟨#[97, 105, 103, 32, 49, 32, 48, 32, 48, 32, 48, 32, 49, 10, 255, 255, 255, 255, 255, 1, 0]⟩, ⟨#[97, 105, 103, 32, 49, 32, 48, 32, 49, 32, 48, 32, 48, 10, 48, 32, 49, 32, 48, 10]⟩, ⟨#[97, 105, 103, 32, 49, 32, 48, 32, 49, 32, 48, 32, 48, 10, 52, 10]⟩, ⟨#[97, 105, 103, 32, 49, 32, 48, 32, 49, 32, 48, 32, 48, 10, 50, 32, 51, 10]⟩, ⟨#[97, 105, 103, 32, 49, 32, 48, 32, 49, 32, 48, 32, 48, 10]⟩, ⟨#[97, 105, 103, 32, 49, 32, 49, 32, 48, 32, 49, 32, 48, 10]⟩, ⟨#[97, 105, 103, 32, 48, 32, 48, 32, 48, 32, 48, 32, 48, 10, 120]⟩, ⟨#[97, 97, 103, 32, 48, 32, 48, 32, 48, 32, 48, 32, 48, 10]⟩]
theorem wrongB_all : ∀ k, k < 17 → gramB.readE (numsOf (wrongB.getD k ⟨#[]⟩)) = 2 ∧ (wrongB.getD k ⟨#[]⟩).size ≤ 100 := by decide +kernel

set_option maxRecDepth 100000 in
set_option maxHeartbeats 4000000 in
theorem binaryWrong_any (n : Int) (w : World) (hn0 : -9223372036854775808 ≤ n) (hn1 : n ≤ 9223372036854775807) (hE : Env w) (hM : EnvM w) :
    Calls Tryz.prog 9 #[.int .i64 n] w fun e w' => e = .returned (.bool true) ∧ Below w.heap.size w w' := by
  have HAl := hide (alive6_any w hE hM)
  by_cases hin : 0 ≤ n ∧ n < 17
  · obtain ⟨k, rfl⟩ := Int.eq_ofNat_of_zero_le hin.1
    have hk : k < 17 := by omega
    obtain ⟨hp1, hp3⟩ := wrongB_all k hk
    have h1 : k < wrongB.length := hk
    have HX : Hid (∀ W : World, ∃ W3, W.alloc (.cells (wrongB.map Value.string).toArray 9) = W3 ∧ W3.cell? ⟨W.heap.size, k, none⟩ = some (.string (wrongB.getD k ⟨#[]⟩)) ∧ Below W.heap.size W W3) := fun W => ⟨_, rfl, cells_at W (wrongB.map Value.string) 9 k (.string (wrongB.getD k ⟨#[]⟩)) (by rw [List.getElem?_map, List.getElem?_eq_getElem h1, List.getD_eq_getElem?_getD, List.getElem?_eq_getElem h1]; rfl), below_alloc W _⟩
    clear h1
    generalize wrongB.getD k ⟨#[]⟩ = S at *
    have HTx : Hid (∀ W, Below w.heap.size w W → ∃ W4 cp b3, (convert 9 22 (.string S)).run Tryz.prog W = .ok (.slice (some ⟨b3, 0, none⟩) S.size cp) W4 ∧ Txt W4 (some ⟨b3, 0, none⟩) S.size cp (numsOf S) ∧ Below W.heap.size W W4) := fun W hb => ⟨_, _, _, Lib.run_convert_string_bytes (P := Tryz.prog) W 9 22 5 S Tryz.underlying9 Tryz.underlying22 Tryz.underlying5, (txt_str (hE.below hb) (hM.below hb) S (by omega)).1, (txt_str (hE.below hb) (hM.below hb) S (by omega)).2⟩
    have HRd := hide (fun W a c (h : Txt W a S.size c (numsOf S)) => binaryRead_any a S.size c (numsOf S) W h)
    unfold ReadPost Gram.read at HRd
    rw [hp1, if_neg (by decide)] at HRd
    have HNum := hide (fun n W => num6_any n W)
    simp only [wrongB, List.map_cons, List.map_nil] at HX
    clear hE hM hp1 hp3
    go_enter Tryz.func9, Tryz.ntmps9
    go_upto_region 3 with (first | (go_at_call 20; refine HAl.out.mono ?_; rintro e w1 ⟨rfl, hb1⟩; obtain ⟨W3, hW3, c1, hb3⟩ := HX.out w1; have HB3 := hide (belowThen hb1 hb3); have HW3 := hide hW3; clear hb1 hb3 hW3 HX HAl))
    rw [HW3.out]
    clear HW3
    obtain ⟨W4, cp, b3, hcv, htx, hb4⟩ := HTx.out W3 HB3.out
    have HTx4 := hide htx
    have HB4 := hide (belowThen HB3.out hb4)
    clear htx hb4 HTx
    have hkk : (k : Int) < 17 := hin.2
    go_upto_region 6 with (first | (go_at_call 21; refine (HRd.out W4 _ _ HTx4.out).mono ?_; rintro e w5 ⟨d, rfl, hd, rd, ab, hb5⟩; have HB5 := hide (belowThen HB4.out hb5); have HD := hide (And.intro hd rd); clear hd rd ab hb5; unfold CV.v))
    have hba := below_alloc w5 (.cells #[.int .i64 d.m, .slice d.a1 d.n1 d.c1, .slice d.a2 d.n2 d.c2, .slice d.a3 d.n3 d.c3, .slice d.a4 d.n4 d.c4, .slice d.a5 d.n5 d.c5, .slice d.a6 d.n6 d.c6, .slice d.a7 d.n7 d.c7] 29)
    have HB6 := hide (belowThen HB5.out hba)
    have B6 := hide (box_new w5 d)
    have HD6 := hide (HD.out.1.below hba)
    have HSm := hide (refSame_any d cvN noCirc noCirc (w5.alloc (.cells #[.int .i64 d.m, .slice d.a1 d.n1 d.c1, .slice d.a2 d.n2 d.c2, .slice d.a3 d.n3 d.c3, .slice d.a4 d.n4 d.c4, .slice d.a5 d.n5 d.c5, .slice d.a6 d.n6 d.c6, .slice d.a7 d.n7 d.c7] 29)) HD6.out (holdsN _) HD.out.2 ⟨by decide, by decide, by decide, by decide, by decide, by decide, by decide⟩)
    rw [show sameB noCirc noCirc = true by decide] at HSm
    unfold cvN CV.v at HSm
    generalize w5.alloc (.cells #[.int .i64 d.m, .slice d.a1 d.n1 d.c1, .slice d.a2 d.n2 d.c2, .slice d.a3 d.n3 d.c3, .slice d.a4 d.n4 d.c4, .slice d.a5 d.n5 d.c5, .slice d.a6 d.n6 d.c6, .slice d.a7 d.n7 d.c7] 29) = W6 at *
    clear c1 hcv HB3 HB4 HB5 HTx4 HRd hba HD HD6
    obtain ⟨q0, q1, q2, q3, q4, q5, q6, q7⟩ := B6.out.cells
    go_wp2_with (first | (go_at_call 25; refine (HNum.out _ _).mono ?_; rintro e w7 ⟨rfl, rfl⟩) | (go_at_call 15; refine HSm.out.mono ?_; rintro e w8 ⟨rfl, hb8⟩))
    go_ret
    exact ⟨rfl, belowThen HB6.out hb8⟩
  · have HX : Hid (∀ W : World, Below W.heap.size W (W.alloc (.cells (wrongB.map Value.string).toArray 9))) := fun W => below_alloc W _
    simp only [wrongB, List.map_cons, List.map_nil] at HX
    clear hE hM
    by_cases h0 : n < 0
    · go_enter Tryz.func9, Tryz.ntmps9
      go_wp2_with (first | (go_at_call 20; refine HAl.out.mono ?_; rintro e w1 ⟨rfl, hb1⟩; have HB1 := hide (belowThen hb1 (HX.out w1)); clear hb1 HX HAl))
      go_ret
      exact ⟨rfl, HB1.out⟩
    · have h1 : 17 ≤ n := by omega
      go_enter Tryz.func9, Tryz.ntmps9
      go_wp2_with (first | (go_at_call 20; refine HAl.out.mono ?_; rintro e w1 ⟨rfl, hb1⟩; have HB1 := hide (belowThen hb1 (HX.out w1)); clear hb1 HX HAl))
      go_ret
      exact ⟨rfl, HB1.out⟩
end Go.Proofs.YtikjbbebfjleaaaGreatDoor
