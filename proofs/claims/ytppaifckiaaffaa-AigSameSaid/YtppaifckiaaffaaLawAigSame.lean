/-
  THE WALK of the law AigSame.
-/
import Derived.Test.YtppaifckiaaffaaAigTwo
import Derived.Test.YtppaifckiaaffaaAigSameC
namespace Go.Proofs.Ytppaifckiaaffaa
open Go.RowKit

set_option maxRecDepth 100000 in
set_option maxHeartbeats 4000000 in
theorem aigSame_any (c d : CV) (A B : Circ) (w : World) (h : Came w c A) (k : Came w d B) :
    Calls Try.prog 6 #[c.v, d.v] w fun e w' => e = .returned (.bool true) ∧ Below w.heap.size w w' := by
  have HT0 := hide (two8_new h.holds k.holds)
  have HC := hide (And.intro h k)
  have hcv : c.v = .agg #[.int .i64 c.m, .slice c.a1 c.n1 c.c1, .slice c.a2 c.n2 c.c2, .slice c.a3 c.n3 c.c3, .slice c.a4 c.n4 c.c4, .slice c.a5 c.n5 c.c5, .slice c.a6 c.n6 c.c6, .slice c.a7 c.n7 c.c7] := rfl
  have hdv : d.v = .agg #[.int .i64 d.m, .slice d.a1 d.n1 d.c1, .slice d.a2 d.n2 d.c2, .slice d.a3 d.n3 d.c3, .slice d.a4 d.n4 d.c4, .slice d.a5 d.n5 d.c5, .slice d.a6 d.n6 d.c6, .slice d.a7 d.n7 d.c7] := rfl
  have HBA := hide (fun W (hb : Below w.heap.size w W) => big_any c A W (h.below hb))
  have HBB := hide (fun W (hb : Below w.heap.size w W) => big_any d B W (k.below hb))
  have HAl := hide (fun W => alive_any W)
  rw [hcv] at HBA ⊢
  rw [hdv] at HBB ⊢
  have HCV := hide (And.intro hcv hdv)
  clear h k hcv hdv
  go_enter Try.func6, Try.ntmps6
  go_wp2_with fail
  refine (HAl.out _).mono ?_
  rintro e w1 ⟨rfl, hb1⟩
  have T1 := hide (HT0.out.then hb1)
  clear hb1 HAl HT0
  obtain ⟨p0, p1, p2, p3, p4, p5, p6, p7, r0, r1, r2, r3, r4, r5, r6, r7⟩ := two8_cells T1.out
  go_wp2_with fail
  refine (HBA.out _ T1.out.below).mono ?_
  rintro e w2 ⟨rfl, hb2⟩
  have T2 := hide (T1.out.then hb2)
  clear hb2 HBA T1 p0 p1 p2 p3 p4 p5 p6 p7 r0 r1 r2 r3 r4 r5 r6 r7
  obtain ⟨p0, p1, p2, p3, p4, p5, p6, p7, r0, r1, r2, r3, r4, r5, r6, r7⟩ := two8_cells T2.out
  cases hba : A.bigB with
  | true =>
    go_wp2
    go_ret
    exact ⟨rfl, T2.out.below⟩
  | false =>
    have HRA := hide (read_of HC.out.1 hba)
    clear hba
    go_wp2_with fail
    refine (HBB.out _ T2.out.below).mono ?_
    rintro e w3 ⟨rfl, hb3⟩
    have T3 := hide (T2.out.then hb3)
    clear hb3 HBB T2 p0 p1 p2 p3 p4 p5 p6 p7 r0 r1 r2 r3 r4 r5 r6 r7
    obtain ⟨p0, p1, p2, p3, p4, p5, p6, p7, r0, r1, r2, r3, r4, r5, r6, r7⟩ := two8_cells T3.out
    cases hbb : B.bigB with
    | true =>
      go_wp2
      go_ret
      exact ⟨rfl, T3.out.below⟩
    | false =>
      have HRB := hide (read_of HC.out.2 hbb)
      clear hbb
      have HS1 := hide (fun W (t : Two8 w w.heap.size (w.heap.size + 1) c d A B W) => same_circ c d A B W t.h t.k HRA.out HRB.out)
      have HS2 := hide (fun W (t : Two8 w w.heap.size (w.heap.size + 1) c d A B W) => same_circ c c A A W t.h t.h HRA.out HRA.out)
      have HS3 := hide (fun W (t : Two8 w w.heap.size (w.heap.size + 1) c d A B W) => refSame_any c d A B W t.h t.k HRA.out HRB.out)
      have eAA : sameB A A = true := same_yes rfl rfl rfl rfl rfl rfl rfl rfl
      rw [eAA] at HS2
      rw [HCV.out.1, HCV.out.2] at HS1 HS3
      rw [HCV.out.1] at HS2
      generalize sameB A B = sb at HS1 HS3
      have TD : Hid (∀ q, Two8 w w.heap.size (w.heap.size + 1) c d A B (w3.drewN q)) := fun q => T3.out.then (Drew.below ⟨q, rfl⟩)
      have hsb : (sb == sb) = true := by simp
      clear eAA HC HRA HRB
      go_wp2
      go_region_held3 (fun w' => w'.cell? ⟨w.heap.size, 0, none⟩ = some (.int .i64 c.m) ∧ w'.cell? ⟨w.heap.size, 1, none⟩ = some (.slice c.a1 c.n1 c.c1) ∧ w'.cell? ⟨w.heap.size, 2, none⟩ = some (.slice c.a2 c.n2 c.c2) ∧ w'.cell? ⟨w.heap.size, 3, none⟩ = some (.slice c.a3 c.n3 c.c3) ∧ w'.cell? ⟨w.heap.size, 4, none⟩ = some (.slice c.a4 c.n4 c.c4) ∧ w'.cell? ⟨w.heap.size, 5, none⟩ = some (.slice c.a5 c.n5 c.c5) ∧ w'.cell? ⟨w.heap.size, 6, none⟩ = some (.slice c.a6 c.n6 c.c6) ∧ w'.cell? ⟨w.heap.size, 7, none⟩ = some (.slice c.a7 c.n7 c.c7) ∧ w'.cell? ⟨w.heap.size + 1, 0, none⟩ = some (.int .i64 d.m) ∧ w'.cell? ⟨w.heap.size + 1, 1, none⟩ = some (.slice d.a1 d.n1 d.c1) ∧ w'.cell? ⟨w.heap.size + 1, 2, none⟩ = some (.slice d.a2 d.n2 d.c2) ∧ w'.cell? ⟨w.heap.size + 1, 3, none⟩ = some (.slice d.a3 d.n3 d.c3) ∧ w'.cell? ⟨w.heap.size + 1, 4, none⟩ = some (.slice d.a4 d.n4 d.c4) ∧ w'.cell? ⟨w.heap.size + 1, 5, none⟩ = some (.slice d.a5 d.n5 d.c5) ∧ w'.cell? ⟨w.heap.size + 1, 6, none⟩ = some (.slice d.a6 d.n6 d.c6) ∧ w'.cell? ⟨w.heap.size + 1, 7, none⟩ = some (.slice d.a7 d.n7 d.c7)) (first | go_keep | exact two8_cells t6 | exact two8_cells t7 | exact two8_cells t8) (first | (go_at_call_of 28 (Value.agg #[Value.int .i64 d.m, Value.slice d.a1 d.n1 d.c1, Value.slice d.a2 d.n2 d.c2, Value.slice d.a3 d.n3 d.c3, Value.slice d.a4 d.n4 d.c4, Value.slice d.a5 d.n5 d.c5, Value.slice d.a6 d.n6 d.c6, Value.slice d.a7 d.n7 d.c7]); refine (HS1.out _ (TD.out _)).mono ?_; rintro e w6 ⟨rfl, hb6⟩; have t6 := (TD.out _).then hb6) | (go_at_call 20; refine (HS3.out _ t6).mono ?_; rintro e w7 ⟨rfl, hb7⟩; have t7 := t6.then hb7) | (go_at_call 28; refine (HS2.out _ t7).mono ?_; rintro e w8 ⟨rfl, hb8⟩; have t8 := t7.then hb8))
      all_goals go_wp2
      all_goals go_ret
      all_goals exact ⟨rfl, t8.below⟩
end Go.Proofs.Ytppaifckiaaffaa
