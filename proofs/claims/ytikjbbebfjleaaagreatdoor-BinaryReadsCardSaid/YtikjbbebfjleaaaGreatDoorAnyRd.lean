/-
  OF EITHER FORM: bytes.HasPrefix, binary.Any and the reference's ReadAny.
-/
import Derived.Test.YtikjbbebfjleaaaGreatDoorRdBinR
import Derived.Test.YtikjbbebfjleaaaGreatDoorRefRdB
import Derived.Lib.SmallJoins
namespace Go.Proofs.YtikjbbebfjleaaaGreatDoor
open Go.RowKit

/-- Do these bytes begin as text does? -/
def begA (xs : List Int) : Bool := Lib.hasPrefix (strOfNums xs).data.toList [97, 97, 103]
def anyG (xs : List Int) : Gram := if begA xs = true then gramA else gramB
theorem begA_take (xs : List Int) : begA xs = decide (strOfNums (xs.take 3) = strOfNums [97, 97, 103]) := by
  have e : begA xs = true ↔ strOfNums (xs.take 3) = strOfNums [97, 97, 103] := by
    unfold begA Lib.hasPrefix
    rw [List.isPrefixOf_iff_prefix, List.prefix_iff_eq_take]
    have h1 : (strOfNums (xs.take 3)).data.toList = (strOfNums xs).data.toList.take 3 := by
      rw [strOfNums_data, strOfNums_data, List.map_take]
    have h2 : (strOfNums [97, 97, 103]).data.toList = [97, 97, 103] := rfl
    constructor
    · intro h
      apply ByteArray.ext
      apply Array.toList_inj.1
      rw [h1, h2]
      exact h.symm
    · intro h
      have h3 := congrArg (fun b : ByteArray => b.data.toList) h
      (try dsimp only at h3)
      rw [h1, h2] at h3
      exact h3.symm
  cases hb : begA xs with
  | true => exact (decide_eq_true (e.1 hb)).symm
  | false => exact (decide_eq_false (fun h => by rw [e.2 h] at hb; cases hb)).symm
theorem begA_short {xs : List Int} (h : xs.length < 3) : begA xs = false := by
  rw [begA_take]
  apply decide_eq_false
  intro e
  have h1 := congrArg ByteArray.size e
  rw [strOfNums_size, strOfNums_size, List.length_take] at h1
  have : ([97, 97, 103] : List Int).length = 3 := rfl
  omega

set_option maxRecDepth 100000 in
set_option maxHeartbeats 1000000 in
theorem bytesEqual_any (a b : Option Addr) (n c m d : Nat) (xs ys : List Int) (w : World) (hx : Row8 w a xs) (hy : Row8 w b ys) (h1 : n = xs.length) (h2 : m = ys.length) :
    Calls Tryz.prog 89 #[.slice a n c, .slice b m d] w fun e w' => e = .returned (.bool (decide (strOfNums xs = strOfNums ys))) ∧ w' = w := by
  have c1 := run_str (P := Tryz.prog) w 22 5 9 Tryz.underlying22 Tryz.underlying5 Tryz.underlying9 a xs hx n c h1
  have c2 := run_str (P := Tryz.prog) w 22 5 9 Tryz.underlying22 Tryz.underlying5 Tryz.underlying9 b ys hy m d h2
  clear h1 h2 hx hy
  by_cases he : strOfNums xs = strOfNums ys
  · rw [decide_eq_true he]
    rw [he] at c1
    have e1 : ((strOfNums ys).toList == (strOfNums ys).toList) = true := by simp
    generalize strOfNums ys = s at *
    clear he
    go_enter Tryz.func89, Tryz.ntmps89
    go_wp2
    go_ret
    exact ⟨rfl, rfl⟩
  · rw [decide_eq_false he]
    have e1 : ((strOfNums xs).toList == (strOfNums ys).toList) = false := bytes_ne he
    generalize strOfNums ys = s at *
    generalize strOfNums xs = t at *
    clear he
    go_enter Tryz.func89, Tryz.ntmps89
    go_wp2
    go_ret
    exact ⟨rfl, rfl⟩

set_option maxRecDepth 100000 in
set_option maxHeartbeats 1000000 in
theorem bytesHas_any (a : Option Addr) (n c q : Nat) (xs : List Int) (w : World) (hx : Row8 w a xs) (hy : Row8 w (some ⟨q, 0, none⟩) [97, 97, 103]) (hl : xs.length = n) (hn : n ≤ c) (hc : c ≤ 9223372036854775807) :
    Calls Tryz.prog 56 #[.slice a n c, .slice (some ⟨q, 0, none⟩) 3 3] w fun e w' => e = .returned (.bool (begA xs)) ∧ w' = w := by
  by_cases h3 : n < 3
  · rw [begA_short (by omega)]
    have hi : (n : Int) < 3 := by omega
    have hi2 : ¬ (3 : Int) ≤ (n : Int) := by omega
    clear hx hy
    go_enter Tryz.func56, Tryz.ntmps56
    go_wp2
    go_ret
    exact ⟨rfl, rfl⟩
  · have hi : (3 : Int) ≤ (n : Int) := by omega
    have hc3 : 3 ≤ c := by omega
    have hc3I : (3 : Int) ≤ (c : Int) := by omega
    obtain ⟨b, off, rfl, hcell⟩ := hx.addr (by omega)
    have hx3 : Row8 w (some ⟨b, off, none⟩) (xs.take 3) := by
      refine .inr ⟨_, rfl, fun i hi => ?_⟩
      rw [List.length_take] at hi
      rw [add_plain, hcell i (by omega), List.getD_eq_getElem?_getD, List.getD_eq_getElem?_getD, List.getElem?_take_of_lt (by omega)]
    have HE := hide (fun cc => bytesEqual_any (some ⟨b, off, none⟩) (some ⟨q, 0, none⟩) 3 cc 3 3 (xs.take 3) [97, 97, 103] w hx3 hy (by rw [List.length_take]; omega) rfl)
    rw [← begA_take] at HE
    generalize begA xs = B at *
    clear hx hx3 hy hcell hl
    go_enter Tryz.func56, Tryz.ntmps56
    go_wp2_with (go_at_call 89; refine (HE.out _).mono ?_; rintro e w1 ⟨rfl, rfl⟩)
    go_ret
    exact ⟨rfl, rfl⟩

theorem aag_new (w : World) : Row8 (w.alloc (.cells #[.int .u8 97, .int .u8 97, .int .u8 103] 5 (3, 4))) (some ⟨w.heap.size, 0, none⟩) [97, 97, 103] := row8_new w [97, 97, 103] 5 (3, 4)

set_option maxRecDepth 100000 in
set_option maxHeartbeats 2000000 in
theorem binaryAny_any (a : Option Addr) (n c : Nat) (xs : List Int) (w : World) (h : Txt w a n c xs) :
    Calls Tryz.prog 23 #[.slice a n c] w (ReadPost (anyG xs) xs w) := by
  have hw1 : Below w.heap.size w ((w.alloc (.cells #[.int .i64 0, .slice none 0 0, .slice none 0 0, .slice none 0 0, .slice none 0 0, .slice none 0 0, .slice none 0 0, .slice none 0 0] 29)).alloc (.cells #[.int .u8 97, .int .u8 97, .int .u8 103] 5 (3, 4))) := belowThen (below_alloc w _) (below_alloc _ _)
  have hq := bytesHas_any a n c (w.alloc (.cells #[.int .i64 0, .slice none 0 0, .slice none 0 0, .slice none 0 0, .slice none 0 0, .slice none 0 0, .slice none 0 0, .slice none 0 0] 29)).heap.size xs ((w.alloc (.cells #[.int .i64 0, .slice none 0 0, .slice none 0 0, .slice none 0 0, .slice none 0 0, .slice none 0 0, .slice none 0 0, .slice none 0 0] 29)).alloc (.cells #[.int .u8 97, .int .u8 97, .int .u8 103] 5 (3, 4))) (h.row.below hw1) (aag_new (w.alloc (.cells #[.int .i64 0, .slice none 0 0, .slice none 0 0, .slice none 0 0, .slice none 0 0, .slice none 0 0, .slice none 0 0, .slice none 0 0] 29))) h.len h.cap h.capm
  rw [show (w.alloc (.cells #[.int .i64 0, .slice none 0 0, .slice none 0 0, .slice none 0 0, .slice none 0 0, .slice none 0 0, .slice none 0 0, .slice none 0 0] 29)).heap.size = w.heap.size + 1 by simp] at hq
  have HP := hide hq
  have BX : Hid (Box ((w.alloc (.cells #[.int .i64 0, .slice none 0 0, .slice none 0 0, .slice none 0 0, .slice none 0 0, .slice none 0 0, .slice none 0 0, .slice none 0 0] 29)).alloc (.cells #[.int .u8 97, .int .u8 97, .int .u8 103] 5 (3, 4))) w.heap.size cvN) := (boxN w).below (below_alloc _ _)
  have hcv : (convert 22 22 (.slice (some ⟨w.heap.size + 1, 0, none⟩) 3 3)).run Tryz.prog ((w.alloc (.cells #[.int .i64 0, .slice none 0 0, .slice none 0 0, .slice none 0 0, .slice none 0 0, .slice none 0 0, .slice none 0 0, .slice none 0 0] 29)).alloc (.cells #[.int .u8 97, .int .u8 97, .int .u8 103] 5)) = .ok (.slice (some ⟨w.heap.size + 1, 0, none⟩) 3 3) ((w.alloc (.cells #[.int .i64 0, .slice none 0 0, .slice none 0 0, .slice none 0 0, .slice none 0 0, .slice none 0 0, .slice none 0 0, .slice none 0 0] 29)).alloc (.cells #[.int .u8 97, .int .u8 97, .int .u8 103] 5 (3, 4))) := Go.Joins.run_convert_bytes_const_at (P := Tryz.prog) (w.alloc (.cells #[.int .i64 0, .slice none 0 0, .slice none 0 0, .slice none 0 0, .slice none 0 0, .slice none 0 0, .slice none 0 0, .slice none 0 0] 29)) 22 5 #[.int .u8 97, .int .u8 97, .int .u8 103] 3 3 (w.heap.size + 1) (by simp) Tryz.underlying22 Tryz.underlying5
  have HW := hide hw1
  cases hP : begA xs
  · have hG : anyG xs = gramB := by unfold anyG; rw [hP]; rfl
    rw [hG]
    rw [hP] at HP
    have HR := hide (binaryRead_any a n c xs ((w.alloc (.cells #[.int .i64 0, .slice none 0 0, .slice none 0 0, .slice none 0 0, .slice none 0 0, .slice none 0 0, .slice none 0 0, .slice none 0 0] 29)).alloc (.cells #[.int .u8 97, .int .u8 97, .int .u8 103] 5 (3, 4))) (h.below HW.out))
    unfold ReadPost at *
    generalize gramB.readE xs = E at *
    generalize gramB.read xs = C at *
    clear hG hP h hq hw1
    go_enter Tryz.func23, Tryz.ntmps23
    go_wp2_with (first | (go_at_call 56; refine HP.out.mono ?_; rintro e w1 ⟨rfl, hw1⟩; subst hw1) | (go_at_call 21; refine HR.out.mono ?_; rintro e w2 ⟨d, rfl, hd, rd, ab, hb⟩; have HD := hide (And.intro hd (And.intro rd ab)); have HV := hide (belowThen HW.out hb); have B1 := hide (BX.out.below hb); clear hd rd ab hb; unfold CV.v; obtain ⟨q0, q1, q2, q3, q4, q5, q6, q7⟩ := B1.out.cells; simp only [cvN] at q0 q1 q2 q3 q4 q5 q6 q7; have f0 := box_frozen B1.out 0; have f1 := box_frozen B1.out 1; have f2 := box_frozen B1.out 2; have f3 := box_frozen B1.out 3; have f4 := box_frozen B1.out 4; have f5 := box_frozen B1.out 5; have f6 := box_frozen B1.out 6; have f7 := box_frozen B1.out 7))
    have hb := hide (box_put d B1.out)
    have t6 := two_put w2 w.heap.size d
    have hbel : Hid (Below w.heap.size w (putBox w2 w.heap.size d)) := t6.below HV.out (Nat.le_refl _) (Nat.le_refl _) (Nat.le_refl _)
    have hab0 := HD.out.2.2.mono (C := w.heap.size) (by simp; try omega)
    have hd7 := hide (HD.out.1.two HD.out.2.2 t6 (by simp; try omega))
    have hab := hide hab0
    clear q0 q1 q2 q3 q4 q5 q6 q7 f0 f1 f2 f3 f4 f5 f6 f7 t6 hab0
    show bodyPost _ _ _ _ _ (putBox w2 w.heap.size d)
    generalize putBox w2 w.heap.size d = Wf at *
    obtain ⟨r0, r1, r2, r3, r4, r5, r6, r7⟩ := hb.out.cells
    refine bodyPost_ret (v := .tuple #[.agg #[.int .i64 d.m, .slice d.a1 d.n1 d.c1, .slice d.a2 d.n2 d.c2, .slice d.a3 d.n3 d.c3, .slice d.a4 d.n4 d.c4, .slice d.a5 d.n5 d.c5, .slice d.a6 d.n6 d.c6, .slice d.a7 d.n7 d.c7], .int .i64 E]) (by simp [results, Tryz.results23, go_sem, *]) rfl ?_
    exact ⟨d, rfl, hd7.out, HD.out.2.1, hab.out, hbel.out⟩
  · have hG : anyG xs = gramA := by unfold anyG; rw [hP]; rfl
    rw [hG]
    rw [hP] at HP
    have HR := hide (asciiRead_any a n c xs ((w.alloc (.cells #[.int .i64 0, .slice none 0 0, .slice none 0 0, .slice none 0 0, .slice none 0 0, .slice none 0 0, .slice none 0 0, .slice none 0 0] 29)).alloc (.cells #[.int .u8 97, .int .u8 97, .int .u8 103] 5 (3, 4))) (h.below HW.out))
    unfold ReadPost at *
    generalize gramA.readE xs = E at *
    generalize gramA.read xs = C at *
    clear hG hP h hq hw1
    go_enter Tryz.func23, Tryz.ntmps23
    go_wp2_with (first | (go_at_call 56; refine HP.out.mono ?_; rintro e w1 ⟨rfl, hw1⟩; subst hw1) | (go_at_call 12; refine HR.out.mono ?_; rintro e w2 ⟨d, rfl, hd, rd, ab, hb⟩; have HD := hide (And.intro hd (And.intro rd ab)); have HV := hide (belowThen HW.out hb); have B1 := hide (BX.out.below hb); clear hd rd ab hb; unfold CV.v; obtain ⟨q0, q1, q2, q3, q4, q5, q6, q7⟩ := B1.out.cells; simp only [cvN] at q0 q1 q2 q3 q4 q5 q6 q7; have f0 := box_frozen B1.out 0; have f1 := box_frozen B1.out 1; have f2 := box_frozen B1.out 2; have f3 := box_frozen B1.out 3; have f4 := box_frozen B1.out 4; have f5 := box_frozen B1.out 5; have f6 := box_frozen B1.out 6; have f7 := box_frozen B1.out 7))
    have hb := hide (box_put d B1.out)
    have t6 := two_put w2 w.heap.size d
    have hbel : Hid (Below w.heap.size w (putBox w2 w.heap.size d)) := t6.below HV.out (Nat.le_refl _) (Nat.le_refl _) (Nat.le_refl _)
    have hab0 := HD.out.2.2.mono (C := w.heap.size) (by simp; try omega)
    have hd7 := hide (HD.out.1.two HD.out.2.2 t6 (by simp; try omega))
    have hab := hide hab0
    clear q0 q1 q2 q3 q4 q5 q6 q7 f0 f1 f2 f3 f4 f5 f6 f7 t6 hab0
    show bodyPost _ _ _ _ _ (putBox w2 w.heap.size d)
    generalize putBox w2 w.heap.size d = Wf at *
    obtain ⟨r0, r1, r2, r3, r4, r5, r6, r7⟩ := hb.out.cells
    refine bodyPost_ret (v := .tuple #[.agg #[.int .i64 d.m, .slice d.a1 d.n1 d.c1, .slice d.a2 d.n2 d.c2, .slice d.a3 d.n3 d.c3, .slice d.a4 d.n4 d.c4, .slice d.a5 d.n5 d.c5, .slice d.a6 d.n6 d.c6, .slice d.a7 d.n7 d.c7], .int .i64 E]) (by simp [results, Tryz.results23, go_sem, *]) rfl ?_
    exact ⟨d, rfl, hd7.out, HD.out.2.1, hab.out, hbel.out⟩

set_option maxRecDepth 100000 in
set_option maxHeartbeats 2000000 in
theorem readAny_any (a : Option Addr) (n c : Nat) (xs : List Int) (w : World) (h : Txt w a n c xs) :
    Calls Tryz.prog 24 #[.slice a n c] w (ReadPost (anyG xs) xs w) := by
  have hw1 : Below w.heap.size w (w.alloc (.cells #[.int .i64 0, .slice none 0 0, .slice none 0 0, .slice none 0 0, .slice none 0 0, .slice none 0 0, .slice none 0 0, .slice none 0 0] 29)) := below_alloc w _
  have HP := hide (refBegins_any (strOfNums xs) ⟨#[97, 97, 103]⟩ (w.alloc (.cells #[.int .i64 0, .slice none 0 0, .slice none 0 0, .slice none 0 0, .slice none 0 0, .slice none 0 0, .slice none 0 0, .slice none 0 0] 29)))
  rw [show Lib.hasPrefix (strOfNums xs).data.toList (⟨#[97, 97, 103]⟩ : ByteArray).data.toList = begA xs from rfl] at HP
  have hcv := run_str (P := Tryz.prog) (w.alloc (.cells #[.int .i64 0, .slice none 0 0, .slice none 0 0, .slice none 0 0, .slice none 0 0, .slice none 0 0, .slice none 0 0, .slice none 0 0] 29)) 22 5 9 Tryz.underlying22 Tryz.underlying5 Tryz.underlying9 a xs (h.row.below hw1) n c h.len.symm
  have BX : Hid (Box (w.alloc (.cells #[.int .i64 0, .slice none 0 0, .slice none 0 0, .slice none 0 0, .slice none 0 0, .slice none 0 0, .slice none 0 0, .slice none 0 0] 29)) w.heap.size cvN) := boxN w
  have HW := hide hw1
  cases hP : begA xs
  · have hG : anyG xs = gramB := by unfold anyG; rw [hP]; rfl
    rw [hG]
    rw [hP] at HP
    have HR := hide (readBinary_any a n c xs (w.alloc (.cells #[.int .i64 0, .slice none 0 0, .slice none 0 0, .slice none 0 0, .slice none 0 0, .slice none 0 0, .slice none 0 0, .slice none 0 0] 29)) (h.below HW.out))
    unfold ReadPost at *
    generalize gramB.readE xs = E at *
    generalize gramB.read xs = C at *
    clear hG hP h hw1
    generalize strOfNums xs = SX at *
    go_enter Tryz.func24, Tryz.ntmps24
    go_wp2_with (first | (go_at_call 57; refine HP.out.mono ?_; rintro e w1 ⟨rfl, hw1⟩; subst hw1) | (go_at_call 22; refine HR.out.mono ?_; rintro e w2 ⟨d, rfl, hd, rd, ab, hb⟩; have HD := hide (And.intro hd (And.intro rd ab)); have HV := hide (belowThen HW.out hb); have B1 := hide (BX.out.below hb); clear hd rd ab hb; unfold CV.v; obtain ⟨q0, q1, q2, q3, q4, q5, q6, q7⟩ := B1.out.cells; simp only [cvN] at q0 q1 q2 q3 q4 q5 q6 q7; have f0 := box_frozen B1.out 0; have f1 := box_frozen B1.out 1; have f2 := box_frozen B1.out 2; have f3 := box_frozen B1.out 3; have f4 := box_frozen B1.out 4; have f5 := box_frozen B1.out 5; have f6 := box_frozen B1.out 6; have f7 := box_frozen B1.out 7))
    have hb := hide (box_put d B1.out)
    have t6 := two_put w2 w.heap.size d
    have hbel : Hid (Below w.heap.size w (putBox w2 w.heap.size d)) := t6.below HV.out (Nat.le_refl _) (Nat.le_refl _) (Nat.le_refl _)
    have hab0 := HD.out.2.2.mono (C := w.heap.size) (by simp; try omega)
    have hd7 := hide (HD.out.1.two HD.out.2.2 t6 (by simp; try omega))
    have hab := hide hab0
    clear q0 q1 q2 q3 q4 q5 q6 q7 f0 f1 f2 f3 f4 f5 f6 f7 t6 hab0
    show bodyPost _ _ _ _ _ (putBox w2 w.heap.size d)
    generalize putBox w2 w.heap.size d = Wf at *
    obtain ⟨r0, r1, r2, r3, r4, r5, r6, r7⟩ := hb.out.cells
    refine bodyPost_ret (v := .tuple #[.agg #[.int .i64 d.m, .slice d.a1 d.n1 d.c1, .slice d.a2 d.n2 d.c2, .slice d.a3 d.n3 d.c3, .slice d.a4 d.n4 d.c4, .slice d.a5 d.n5 d.c5, .slice d.a6 d.n6 d.c6, .slice d.a7 d.n7 d.c7], .int .i64 E]) (by simp [results, Tryz.results24, go_sem, *]) rfl ?_
    exact ⟨d, rfl, hd7.out, HD.out.2.1, hab.out, hbel.out⟩
  · have hG : anyG xs = gramA := by unfold anyG; rw [hP]; rfl
    rw [hG]
    rw [hP] at HP
    have HR := hide (readAscii_any a n c xs (w.alloc (.cells #[.int .i64 0, .slice none 0 0, .slice none 0 0, .slice none 0 0, .slice none 0 0, .slice none 0 0, .slice none 0 0, .slice none 0 0] 29)) (h.below HW.out))
    unfold ReadPost at *
    generalize gramA.readE xs = E at *
    generalize gramA.read xs = C at *
    clear hG hP h hw1
    generalize strOfNums xs = SX at *
    go_enter Tryz.func24, Tryz.ntmps24
    go_wp2_with (first | (go_at_call 57; refine HP.out.mono ?_; rintro e w1 ⟨rfl, hw1⟩; subst hw1) | (go_at_call 13; refine HR.out.mono ?_; rintro e w2 ⟨d, rfl, hd, rd, ab, hb⟩; have HD := hide (And.intro hd (And.intro rd ab)); have HV := hide (belowThen HW.out hb); have B1 := hide (BX.out.below hb); clear hd rd ab hb; unfold CV.v; obtain ⟨q0, q1, q2, q3, q4, q5, q6, q7⟩ := B1.out.cells; simp only [cvN] at q0 q1 q2 q3 q4 q5 q6 q7; have f0 := box_frozen B1.out 0; have f1 := box_frozen B1.out 1; have f2 := box_frozen B1.out 2; have f3 := box_frozen B1.out 3; have f4 := box_frozen B1.out 4; have f5 := box_frozen B1.out 5; have f6 := box_frozen B1.out 6; have f7 := box_frozen B1.out 7))
    have hb := hide (box_put d B1.out)
    have t6 := two_put w2 w.heap.size d
    have hbel : Hid (Below w.heap.size w (putBox w2 w.heap.size d)) := t6.below HV.out (Nat.le_refl _) (Nat.le_refl _) (Nat.le_refl _)
    have hab0 := HD.out.2.2.mono (C := w.heap.size) (by simp; try omega)
    have hd7 := hide (HD.out.1.two HD.out.2.2 t6 (by simp; try omega))
    have hab := hide hab0
    clear q0 q1 q2 q3 q4 q5 q6 q7 f0 f1 f2 f3 f4 f5 f6 f7 t6 hab0
    show bodyPost _ _ _ _ _ (putBox w2 w.heap.size d)
    generalize putBox w2 w.heap.size d = Wf at *
    obtain ⟨r0, r1, r2, r3, r4, r5, r6, r7⟩ := hb.out.cells
    refine bodyPost_ret (v := .tuple #[.agg #[.int .i64 d.m, .slice d.a1 d.n1 d.c1, .slice d.a2 d.n2 d.c2, .slice d.a3 d.n3 d.c3, .slice d.a4 d.n4 d.c4, .slice d.a5 d.n5 d.c5, .slice d.a6 d.n6 d.c6, .slice d.a7 d.n7 d.c7], .int .i64 E]) (by simp [results, Tryz.results24, go_sem, *]) rfl ?_
    exact ⟨d, rfl, hd7.out, HD.out.2.1, hab.out, hbel.out⟩

end Go.Proofs.YtikjbbebfjleaaaGreatDoor
