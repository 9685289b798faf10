/-
  THE WALK of the reference's Ascii: the text of a circuit that is right.
  THE LAW AsciiComments, walked.
-/
import Derived.Test.YtimpddokepbabaaGreatDoorRefTxt
import Derived.Test.YtimpddokepbabaaGreatDoorJ51
import Derived.Test.YtimpddokepbabaaGreatDoorTxtStr
import Derived.Test.YtimpddokepbabaaGreatDoorJ46
import Derived.Test.YtimpddokepbabaaGreatDoorRd3
import Derived.Test.YtimpddokepbabaaGreatDoorAigRefSame
namespace Go.Proofs.YtimpddokepbabaaGreatDoor
open Go.RowKit

def asc0 (C : Circ) : List UInt8 := hdrT [97, 97, 103] C ++ portT C.ins
def asc1 (C : Circ) : List UInt8 := asc0 C ++ C.lats.flatMap (fun x => rowT (latN x)) ++ (portT C.outs ++ (portT C.bads ++ portT C.cons))
theorem asc_all (C : Circ) : asc1 C ++ C.ands.flatMap (fun x => rowT (andN x)) ++ C.names.flatMap symT = asciiT C := by
  unfold asc1 asc0 asciiT latsT portsT andsT namesT
  simp only [List.append_assoc]
theorem lats_step (P : List UInt8) (L : List Tri) (k : Nat) (h : k < L.length) : bytesA (P ++ (L.take k).flatMap (fun x => rowT (latN x))) ++ bytesA (digs (atP L k).1) ++ ⟨#[32]⟩ ++ bytesA (digs (atP L k).2.1) ++ bytesA (resetT (atP L k).2.2) = bytesA (P ++ (L.take (k + 1)).flatMap (fun x => rowT (latN x))) := by
  simp only [byte32, app_bytes]
  apply bytesA_ext
  rw [take_snocP _ _ h, List.flatMap_append]
  simp only [List.flatMap_cons, List.flatMap_nil, List.append_nil]
  rw [lat_text]
  simp
theorem ands_step (P : List UInt8) (L : List Tri) (k : Nat) (h : k < L.length) : bytesA (P ++ (L.take k).flatMap (fun x => rowT (andN x))) ++ bytesA (digs (atP L k).1) ++ ⟨#[32]⟩ ++ bytesA (digs (atP L k).2.1) ++ ⟨#[32]⟩ ++ bytesA (digs (atP L k).2.2) ++ ⟨#[10]⟩ = bytesA (P ++ (L.take (k + 1)).flatMap (fun x => rowT (andN x))) := by
  simp only [byte32, byte10, app_bytes]
  apply bytesA_ext
  rw [take_snocP _ _ h, List.flatMap_append]
  simp [andN, rowT, joinT]
theorem reset_size (r : Int) : (bytesA (resetT r)).size ≤ 21 := by
  rw [bytesA_size]
  have h1 : (digs r).length = (bytesA (digs r)).size := (bytesA_size _).symm
  have h2 := digs_size r
  unfold resetT
  split
  · simp
  · rw [List.length_cons, List.length_append, List.length_singleton]; omega
theorem take_flat (f : Tri → List UInt8) (L : List Tri) (k : Nat) : ((L.take k).flatMap f).length ≤ (L.flatMap f).length := by
  conv => rhs; rw [← List.take_append_drop k L, List.flatMap_append, List.length_append]
  omega
theorem asc_sizes {C : Circ} (h : Wr C) : (asc0 C).length ≤ 1000 ∧ (C.lats.flatMap (fun x => rowT (latN x))).length ≤ 80000 ∧ (portsT C).length ≤ 1344 ∧ (C.ands.flatMap (fun x => rowT (andN x))).length ≤ 80000 ∧ (C.names.flatMap symT).length ≤ 80000 := by
  have ha := asciiT_le h
  have h0 := hdrT_le h [97, 97, 103]
  have h1 := portT_le (l := C.ins) (fun n hn => by have := h.ins n hn; have := h.top; omega)
  have h2 := portsT_le h
  have g1 := h.small.ins
  unfold asciiT latsT andsT namesT at ha
  simp only [List.length_append] at ha
  unfold asc0
  rw [List.length_append]
  have e3 : ([97, 97, 103] : List UInt8).length = 3 := rfl
  rw [e3] at h0
  exact ⟨by omega, by omega, h2, by omega, by omega⟩

set_option maxRecDepth 100000 in
set_option maxHeartbeats 1000000 in
theorem refAscii_bad (c : CV) (C : Circ) (w : World) (h : Holds w c C) (hm63 : I64 c.m) (h1 : c.n1 ≤ 281474976710656) (h2 : c.n2 ≤ 281474976710656) (h3 : c.n3 ≤ 281474976710656) (h4 : c.n4 ≤ 281474976710656) (h5 : c.n5 ≤ 281474976710656) (h6 : c.n6 ≤ 281474976710656) (h7 : c.n7 ≤ 281474976710656) (hN : NamesFit C) (hE : C.checkI ≠ 0) :
    Calls Tryz.prog 19 #[c.v] w fun e w' => e = .returned (.tuple #[.slice none 0 0, .int .i64 C.checkI]) ∧ Below w.heap.size w w' := by
  have HB := hide (And.intro (below_alloc w (.cells #[.int .i64 c.m, .slice c.a1 c.n1 c.c1, .slice c.a2 c.n2 c.c2, .slice c.a3 c.n3 c.c3, .slice c.a4 c.n4 c.c4, .slice c.a5 c.n5 c.c5, .slice c.a6 c.n6 c.c6, .slice c.a7 c.n7 c.c7] 29)) (box_new w c))
  have HC := hide (refCheck_any c C _ (h.below HB.out.1) hm63 h1 h2 h3 h4 h5 h6 h7 hN)
  generalize C.checkI = E at *
  have hE1 : (E == 0) = false := by rw [beq_eq_false_iff_ne]; exact hE
  have hE2 : (E != 0) = true := by rw [bne, hE1]; rfl
  clear h hE hN
  unfold CV.v at HC ⊢
  go_enter Tryz.func19, Tryz.ntmps19
  obtain ⟨p0, p1, p2, p3, p4, p5, p6, p7⟩ := HB.out.2.cells
  go_wp2_with (first | (go_at_call 30; refine HC.out.mono ?_; rintro e w1 ⟨rfl, hb1⟩; have HB1 := hide (belowThen HB.out.1 hb1); clear hb1))
  go_ret2
  exact ⟨rfl, HB1.out⟩

set_option maxRecDepth 100000 in
set_option maxHeartbeats 4000000 in
theorem refAscii_good (c : CV) (C : Circ) (w : World) (h : Holds w c C) (hg : C.checkI = 0) :
    Calls Tryz.prog 19 #[c.v] w fun e w' => ∃ g cap, e = .returned (.tuple #[.slice (some ⟨g, 0, none⟩) (asciiT C).length cap, .int .i64 0]) ∧ Row8 w' (some ⟨g, 0, none⟩) (numsU (asciiT C)) ∧ (asciiT C).length ≤ cap ∧ cap ≤ 9223372036854775807 ∧ Below w.heap.size w w' := by
  have hW := wr_of hg
  have hs := hW.small
  have s1 := hs.ins
  have s2 := hs.lats
  have s3 := hs.outs
  have s4 := hs.bads
  have s5 := hs.cons
  have s6 := hs.ands
  have s7 := hs.names
  have sm := hs.max
  have sm0 := hW.max
  rw [h.l1] at s1
  rw [h.l2] at s2
  rw [h.l3] at s3
  rw [h.l4] at s4
  rw [h.l5] at s5
  rw [h.l6] at s6
  rw [h.l7] at s7
  have hN : NamesFit C := fun y hy => by have := (hW.names y hy).2.2; omega
  have HB := hide (And.intro (below_alloc w (.cells #[.int .i64 c.m, .slice c.a1 c.n1 c.c1, .slice c.a2 c.n2 c.c2, .slice c.a3 c.n3 c.c3, .slice c.a4 c.n4 c.c4, .slice c.a5 c.n5 c.c5, .slice c.a6 c.n6 c.c6, .slice c.a7 c.n7 c.c7] 29)) (box_new w c))
  have HC := hide (refCheck_any c C _ (h.below HB.out.1) ⟨by rw [h.m]; omega, by rw [h.m]; omega⟩ (by omega) (by omega) (by omega) (by omega) (by omega) (by omega) (by omega) hN)
  rw [hg] at HC
  have hsz := asc_sizes hW
  have HH := hide h
  have HWr := hide hW
  have HTop : Hid (C.top ≤ 10001) := hW.top
  have HHd := hide (fun W (hb : Below w.heap.size w W) => headerT_any [97, 97, 103] (by decide) c C W (h.below hb) hW.max (by omega) (by omega) (by omega) (by omega) (by omega) (by omega) (by omega))
  have R1 := hide (fun W (hb : Below w.heap.size w W) => rowsT_any c.a1 c.n1 c.c1 C.ins W (h.r1.below hb) h.l1 (by omega) (fun x hx => by have := hW.ins x hx; have := hW.top; omega))
  have R3 := hide (fun W (hb : Below w.heap.size w W) => rowsT_any c.a3 c.n3 c.c3 C.outs W (h.r3.below hb) h.l3 (by omega) (fun x hx => by have := hW.outs x hx; have := hW.top; omega))
  have R4 := hide (fun W (hb : Below w.heap.size w W) => rowsT_any c.a4 c.n4 c.c4 C.bads W (h.r4.below hb) h.l4 (by omega) (fun x hx => by have := hW.bads x hx; have := hW.top; omega))
  have R5 := hide (fun W (hb : Below w.heap.size w W) => rowsT_any c.a5 c.n5 c.c5 C.cons W (h.r5.below hb) h.l5 (by omega) (fun x hx => by have := hW.cons x hx; have := hW.top; omega))
  have R7 := hide (fun W (hb : Below w.heap.size w W) => symbolsT_any c.a7 c.n7 c.c7 C.names W (h.r7.below hb) h.l7 (by omega) hW.names)
  have HZlats : Hid (∀ k, (bytesA (asc0 C ++ (C.lats.take k).flatMap (fun x => rowT (latN x)))).size ≤ 200000) := fun k => by
    show (bytesA _).size ≤ 200000
    rw [bytesA_size, List.length_append]
    have := take_flat (fun x => rowT (latN x)) C.lats k
    omega
  have hp1 : (asc1 C).length ≤ 90000 := by
    unfold asc1
    have := hsz.2.2.1
    unfold portsT at this
    rw [List.length_append, List.length_append]
    omega
  have HZands : Hid (∀ k, (bytesA (asc1 C ++ (C.ands.take k).flatMap (fun x => rowT (andN x)))).size ≤ 200000) := fun k => by
    show (bytesA _).size ≤ 200000
    rw [bytesA_size, List.length_append]
    have := take_flat (fun x => rowT (andN x)) C.ands k
    omega
  have HE0 : Hid (bytesA (hdrT [97, 97, 103] C) ++ bytesA (portT C.ins) = bytesA (asc0 C)) := app_bytes _ _
  have HE1 : Hid (bytesA (asc0 C ++ (C.lats.take c.n2).flatMap (fun x => rowT (latN x))) ++ bytesA (portT C.outs) ++ bytesA (portT C.bads) ++ bytesA (portT C.cons) = bytesA (asc1 C)) := by
    show _ = _
    rw [← h.l2, List.take_length]
    simp only [app_bytes]
    apply bytesA_ext
    unfold asc1
    simp
  have HE2 : Hid (bytesA (asc1 C ++ (C.ands.take c.n6).flatMap (fun x => rowT (andN x))) ++ bytesA (C.names.flatMap symT) = bytesA (asciiT C)) := by
    show _ = _
    rw [← h.l6, List.take_length, app_bytes, asc_all]
  have hz1 : (bytesA (hdrT [97, 97, 103] C)).size ≤ 1000 := by
    rw [bytesA_size]; have := hsz.1; unfold asc0 at this; rw [List.length_append] at this; omega
  have hz2 : (bytesA (portT C.ins)).size ≤ 1000 := by
    rw [bytesA_size]; have := hsz.1; unfold asc0 at this; rw [List.length_append] at this; omega
  have hpt := hsz.2.2.1
  unfold portsT at hpt
  rw [List.length_append, List.length_append] at hpt
  have hz3 : (bytesA (portT C.outs)).size ≤ 1344 := by rw [bytesA_size]; omega
  have hz4 : (bytesA (portT C.bads)).size ≤ 1344 := by rw [bytesA_size]; omega
  have hz5 : (bytesA (portT C.cons)).size ≤ 1344 := by rw [bytesA_size]; omega
  have hz7 : (bytesA (C.names.flatMap symT)).size ≤ 80000 := by rw [bytesA_size]; exact hsz.2.2.2.2
  have hza : (bytesA (asciiT C)).size = (asciiT C).length := bytesA_size _
  have hzl := asciiT_le hW
  have HFin : Hid (∀ W S, S = bytesA (asciiT C) → Below w.heap.size w W → ∃ g cap, Ending.returned (.tuple #[.slice (some ⟨W.heap.size, 0, none⟩) S.size (grownCap W S.size 0 5), .int .i64 0]) = Ending.returned (.tuple #[.slice (some ⟨g, 0, none⟩) (asciiT C).length cap, .int .i64 0]) ∧ Row8 (Lib.bytesWorld W 5 S) (some ⟨g, 0, none⟩) (numsU (asciiT C)) ∧ (asciiT C).length ≤ cap ∧ cap ≤ 9223372036854775807 ∧ Below w.heap.size w (Lib.bytesWorld W 5 S)) := fun W S e hb => by
    subst e
    refine ⟨W.heap.size, grownCap W (bytesA (asciiT C)).size 0 5, by rw [hza], ?_, ?_, grownCap_le_maxLen W _ 0 _ (by unfold maxLen; omega), belowThen hb ⟨rfl, rfl, rfl, by rw [Lib.bytesWorld_size]; omega, fun k hk => Lib.bytesWorld_at_old W _ _ k hk⟩⟩
    · refine .inr ⟨_, rfl, fun i hi => ?_⟩
      have hi' : i < (bytesA (asciiT C)).size := by rw [hza]; rw [numsU_len] at hi; exact hi
      rw [add_plain, Nat.zero_add, Lib.bytesWorld_cell W _ _ i hi']
      exact congrArg (fun z => some (Value.int .u8 z)) (numsOf_get (bytesA (asciiT C)) i hi').symm
    · have := grownCap_ge W (bytesA (asciiT C)).size 0 5
      omega
  have hconv := fun (W : World) (S : ByteArray) => Lib.run_convert_string_bytes (P := Tryz.prog) W 9 22 5 S Tryz.underlying9 Tryz.underlying22 Tryz.underlying5
  have HConv := hide hconv
  generalize hP : (fun (e : Ending) (w' : World) => ∃ g cap, e = .returned (.tuple #[.slice (some ⟨g, 0, none⟩) (asciiT C).length cap, .int .i64 0]) ∧ Row8 w' (some ⟨g, 0, none⟩) (numsU (asciiT C)) ∧ (asciiT C).length ≤ cap ∧ cap ≤ 9223372036854775807 ∧ Below w.heap.size w w') = Post
  have HPo : Hid (∀ W S, S = bytesA (asciiT C) → Below w.heap.size w W → Post (.returned (.tuple #[.slice (some ⟨W.heap.size, 0, none⟩) S.size (grownCap W S.size 0 5), .int .i64 0])) (Lib.bytesWorld W 5 S)) := fun W S e hb => by
    rw [← hP]; exact HFin.out W S e hb
  clear hP HFin h hW hs hN hsz hpt hp1 hconv hza hzl hg
  unfold CV.v at HC HHd ⊢
  go_enter Tryz.func19, Tryz.ntmps19
  obtain ⟨p0, p1, p2, p3, p4, p5, p6, p7⟩ := HB.out.2.cells
  go_upto_region 4 with (first | (go_at_call 30; refine HC.out.mono ?_; rintro e w1 ⟨rfl, hb1⟩; have HB1 := hide (And.intro (belowThen HB.out.1 hb1) (HB.out.2.below hb1)); clear hb1))
  clear p0 p1 p2 p3 p4 p5 p6 p7 HB HC
  generalize bytesA (hdrT [97, 97, 103] C) = EH at *
  generalize bytesA (portT C.ins) = EI at *
  have hzs : ¬ 9223372036854775807 < EH.size + EI.size := by omega
  clear hz1 hz2
  have y8d : w1.drew.cell? ⟨w.heap.size, 0, none⟩ = some (.int .i64 c.m) ∧ w1.drew.cell? ⟨w.heap.size, 1, none⟩ = some (.slice c.a1 c.n1 c.c1) ∧ w1.drew.cell? ⟨w.heap.size, 2, none⟩ = some (.slice c.a2 c.n2 c.c2) ∧ w1.drew.cell? ⟨w.heap.size, 3, none⟩ = some (.slice c.a3 c.n3 c.c3) ∧ w1.drew.cell? ⟨w.heap.size, 4, none⟩ = some (.slice c.a4 c.n4 c.c4) ∧ w1.drew.cell? ⟨w.heap.size, 5, none⟩ = some (.slice c.a5 c.n5 c.c5) ∧ w1.drew.cell? ⟨w.heap.size, 6, none⟩ = some (.slice c.a6 c.n6 c.c6) ∧ w1.drew.cell? ⟨w.heap.size, 7, none⟩ = some (.slice c.a7 c.n7 c.c7) := HB1.out.2.cells
  have HBd : Hid (Below w.heap.size w w1.drew) := below_drew HB1.out.1
  go_region_held3 (fun w' => w'.cell? ⟨w.heap.size, 0, none⟩ = some (.int .i64 c.m) ∧ w'.cell? ⟨w.heap.size, 1, none⟩ = some (.slice c.a1 c.n1 c.c1) ∧ w'.cell? ⟨w.heap.size, 2, none⟩ = some (.slice c.a2 c.n2 c.c2) ∧ w'.cell? ⟨w.heap.size, 3, none⟩ = some (.slice c.a3 c.n3 c.c3) ∧ w'.cell? ⟨w.heap.size, 4, none⟩ = some (.slice c.a4 c.n4 c.c4) ∧ w'.cell? ⟨w.heap.size, 5, none⟩ = some (.slice c.a5 c.n5 c.c5) ∧ w'.cell? ⟨w.heap.size, 6, none⟩ = some (.slice c.a6 c.n6 c.c6) ∧ w'.cell? ⟨w.heap.size, 7, none⟩ = some (.slice c.a7 c.n7 c.c7)) (first | with_reducible exact y8d | with_reducible exact y8e) (first | (go_at_call 47; refine (HHd.out _ HBd.out).mono ?_; rintro e w2 ⟨rfl, hb2⟩; have HB2 := hide (And.intro (HBd.out.trans (hb2.mono HBd.out.size)) (HB1.out.2.below (belowThen (Drew.below ⟨1, rfl⟩) hb2))); have y8e := HB2.out.2.cells; clear hb2) | (go_at_call 48; refine (R1.out _ HB2.out.1).mono ?_; rintro e w3 ⟨rfl, hw3⟩; obtain rfl := hw3.symm))
  all_goals
    rw [HE0.out]
    go_wp2
    go_loopw [5, 6, 7] (fun s i _ wr => ∃ k : Nat, i = .int .i64 k ∧ k ≤ c.n2 ∧ s = .string (bytesA (asc0 C ++ (C.lats.take k).flatMap (fun x => rowT (latN x)))) ∧ Hid (Below w.heap.size w wr ∧ Box wr w.heap.size c)) (fun _ i _ _ => c.n2 - (intOf i).toNat)
    case atStart => exact ⟨0, rfl, Nat.zero_le _, by rw [List.take_zero, List.flatMap_nil, List.append_nil], HB2.out⟩
    case round =>
      obtain ⟨k, rfl, hk, rfl, HW⟩ := hrel
      clear HB2
      obtain ⟨q0, q1, q2, q3, q4, q5, q6, q7⟩ := HW.out.2.cells
      by_cases hlt : k < c.n2
      · obtain ⟨bb, off, ha, hbw, hcell⟩ := HH.out.r2.addr (by rw [cellsT_len, HH.out.l2]; omega)
        have hkL : k < C.lats.length := by rw [HH.out.l2]; exact hlt
        have hat := cellsT_at C.lats k hkL
        have hc0 := (HW.out.1.cell (p := ⟨bb, off + k * 3, none⟩) hbw).trans (hcell _ _ hat.1)
        have hc1 := (HW.out.1.cell (p := ⟨bb, off + k * 3 + 1, none⟩) hbw).trans (hcell _ _ hat.2.1)
        have hc2 := (HW.out.1.cell (p := ⟨bb, off + k * 3 + 2, none⟩) hbw).trans (hcell _ _ hat.2.2)
        have hx := HWr.out.lats _ (atP_mem C.lats k hkL)
        have HSk := hide (lats_step (asc0 C) C.lats k hkL)
        have hzA : (bytesA (asc0 C ++ (C.lats.take k).flatMap (fun x => rowT (latN x)))).size ≤ 200000 := HZlats.out k
        have htop := HTop.out
        generalize atP C.lats k = x at *
        obtain ⟨x0, x1, x2⟩ := x
        dsimp only at hc0 hc1 hc2 hx HSk
        have hd0 := digs_size x0
        have hd1 := digs_size x1
        have hd2 := reset_size x2
        have D0 := hide (fun W => digits_any x0 W hx.1.1 (by omega))
        have D1 := hide (fun W => digits_any x1 W hx.2.1.1 (by omega))
        have D2 := hide (fun W => resetT_any x2 W hx.2.2.1 (by omega))
        generalize bytesA (asc0 C ++ (C.lats.take k).flatMap (fun x => rowT (latN x))) = A at *
        generalize bytesA (digs x0) = E0 at *
        generalize bytesA (digs x1) = E1 at *
        generalize bytesA (resetT x2) = E2 at *
        have hk0 : (0 : Int) ≤ (k : Int) := by omega
        have hk1 : (k : Int) < (c.n2 : Int) := by omega
        rw [ha] at q2
        clear hcell hat hx htop
        go_upto_region 9 with fail
        have hb3 := heap_alloc_new wr (.cells #[.int .i64 x0, .int .i64 x1, .int .i64 x2] 73)
        have hbl := below_alloc wr (.cells #[.int .i64 x0, .int .i64 x1, .int .i64 x2] 73)
        generalize hW9 : wr.alloc (.cells #[.int .i64 x0, .int .i64 x1, .int .i64 x2] 73) = W9 at *
        clear hW9
        obtain ⟨z0, z1, z2⟩ := three_cells hb3
        have HBl := hide (fun q => belowThen HW.out.1 (belowThen hbl (Drew.below (w := W9) ⟨q, rfl⟩)))
        have HBx := hide (fun q => (HW.out.2.below hbl).below (Drew.below (w := W9) ⟨q, rfl⟩))
        clear hb3 hbl hc0 hc1 hc2 q0 q1 q2 q3 q4 q5 q6 q7
        go_quiet ((first | (go_at_call_of 26 (Value.int .i64 x0); refine (D0.out _).mono ?_; rintro e w1 ⟨rfl, rfl⟩; exact ⟨rfl, _, rfl⟩) | (go_at_call_of 26 (Value.int .i64 x1); refine (D1.out _).mono ?_; rintro e w1 ⟨rfl, rfl⟩; exact ⟨rfl, _, rfl⟩) | (go_at_call 49; refine (D2.out _).mono ?_; rintro e w1 ⟨rfl, rfl⟩; exact ⟨rfl, _, rfl⟩)))
        go_wp2
        go_roundw
        case rel => exact ⟨k + 1, by go_num, by omega, congrArg Value.string HSk.out, HBl.out _, HBx.out _⟩
        case measure => simp [intOf]; omega
      · obtain rfl : k = c.n2 := by omega
        have hzL := HZlats.out c.n2
        have hzM : (bytesA (asc0 C ++ (C.lats.take c.n2).flatMap (fun x => rowT (latN x)))).size ≤ 200000 := hzL
        have HBq : Hid (∀ q, Below w.heap.size w (wr.drewN q)) := fun q => belowThen HW.out.1 (Drew.below ⟨q, rfl⟩)
        have HXq : Hid (∀ q, Below w.heap.size w (wr.drewN q) ∧ Box (wr.drewN q) w.heap.size c) := fun q => ⟨HBq.out q, HW.out.2.below (Drew.below ⟨q, rfl⟩)⟩
        clear hlt hk hzL
        go_upto_region 10 with fail
        generalize hA : bytesA (asc0 C ++ (C.lats.take c.n2).flatMap (fun x => rowT (latN x))) = A at *
        generalize bytesA (portT C.outs) = E3 at *
        generalize bytesA (portT C.bads) = E4 at *
        generalize bytesA (portT C.cons) = E5 at *
        go_quiet ((first | (go_at_call_of 48 (Value.slice c.a3 c.n3 c.c3); refine (R3.out _ (HBq.out _)).mono ?_; rintro e w1 ⟨rfl, rfl⟩; exact ⟨rfl, _, rfl⟩) | (go_at_call_of 48 (Value.slice c.a4 c.n4 c.c4); refine (R4.out _ (HBq.out _)).mono ?_; rintro e w1 ⟨rfl, rfl⟩; exact ⟨rfl, _, rfl⟩) | (go_at_call_of 48 (Value.slice c.a5 c.n5 c.c5); refine (R5.out _ (HBq.out _)).mono ?_; rintro e w1 ⟨rfl, rfl⟩; exact ⟨rfl, _, rfl⟩)))
        rw [HE1.out]
        have HB3 := hide (HXq.out nq)
        generalize wr.drewN nq = wm at *
        clear q0 q1 q2 q3 q4 q5 q6 q7 HW HBq HXq
        go_wp2
        go_loopw [5, 8, 9] (fun s i _ wr => ∃ k : Nat, i = .int .i64 k ∧ k ≤ c.n6 ∧ s = .string (bytesA (asc1 C ++ (C.ands.take k).flatMap (fun x => rowT (andN x)))) ∧ Hid (Below w.heap.size w wr ∧ Box wr w.heap.size c)) (fun _ i _ _ => c.n6 - (intOf i).toNat)
        case atStart => exact ⟨0, rfl, Nat.zero_le _, by rw [List.take_zero, List.flatMap_nil, List.append_nil], HB3.out⟩
        case round =>
          obtain ⟨k, rfl, hk, rfl, HW⟩ := hrel
          clear HB3
          obtain ⟨q0, q1, q2, q3, q4, q5, q6, q7⟩ := HW.out.2.cells
          by_cases hlt : k < c.n6
          · obtain ⟨bb, off, ha, hbw, hcell⟩ := HH.out.r6.addr (by rw [cellsT_len, HH.out.l6]; omega)
            have hkL : k < C.ands.length := by rw [HH.out.l6]; exact hlt
            have hat := cellsT_at C.ands k hkL
            have hc0 := (HW.out.1.cell (p := ⟨bb, off + k * 3, none⟩) hbw).trans (hcell _ _ hat.1)
            have hc1 := (HW.out.1.cell (p := ⟨bb, off + k * 3 + 1, none⟩) hbw).trans (hcell _ _ hat.2.1)
            have hc2 := (HW.out.1.cell (p := ⟨bb, off + k * 3 + 2, none⟩) hbw).trans (hcell _ _ hat.2.2)
            have hx := HWr.out.ands _ (atP_mem C.ands k hkL)
            have HSk := hide (ands_step (asc1 C) C.ands k hkL)
            have hzA : (bytesA (asc1 C ++ (C.ands.take k).flatMap (fun x => rowT (andN x)))).size ≤ 200000 := HZands.out k
            have htop := HTop.out
            generalize atP C.ands k = x at *
            obtain ⟨x0, x1, x2⟩ := x
            dsimp only at hc0 hc1 hc2 hx HSk
            have hd0 := digs_size x0
            have hd1 := digs_size x1
            have hd2 := digs_size x2
            have D0 := hide (fun W => digits_any x0 W hx.1.1 (by omega))
            have D1 := hide (fun W => digits_any x1 W hx.2.1.1 (by omega))
            have D2 := hide (fun W => digits_any x2 W hx.2.2.1 (by omega))
            generalize bytesA (asc1 C ++ (C.ands.take k).flatMap (fun x => rowT (andN x))) = A at *
            generalize bytesA (digs x0) = E0 at *
            generalize bytesA (digs x1) = E1 at *
            generalize bytesA (digs x2) = E2 at *
            have hk0 : (0 : Int) ≤ (k : Int) := by omega
            have hk1 : (k : Int) < (c.n6 : Int) := by omega
            rw [ha] at q6
            clear hcell hat hx htop
            go_upto_region 15 with fail
            have hb3 := heap_alloc_new wr (.cells #[.int .i64 x0, .int .i64 x1, .int .i64 x2] 53)
            have hbl := below_alloc wr (.cells #[.int .i64 x0, .int .i64 x1, .int .i64 x2] 53)
            generalize hW9 : wr.alloc (.cells #[.int .i64 x0, .int .i64 x1, .int .i64 x2] 53) = W9 at *
            clear hW9
            obtain ⟨z0, z1, z2⟩ := three_cells hb3
            have HBl := hide (fun q => belowThen HW.out.1 (belowThen hbl (Drew.below (w := W9) ⟨q, rfl⟩)))
            have HBx := hide (fun q => (HW.out.2.below hbl).below (Drew.below (w := W9) ⟨q, rfl⟩))
            clear hb3 hbl hc0 hc1 hc2 q0 q1 q2 q3 q4 q5 q6 q7
            go_quiet ((first | (go_at_call_of 26 (Value.int .i64 x0); refine (D0.out _).mono ?_; rintro e w1 ⟨rfl, rfl⟩; exact ⟨rfl, _, rfl⟩) | (go_at_call_of 26 (Value.int .i64 x1); refine (D1.out _).mono ?_; rintro e w1 ⟨rfl, rfl⟩; exact ⟨rfl, _, rfl⟩) | (go_at_call_of 26 (Value.int .i64 x2); refine (D2.out _).mono ?_; rintro e w1 ⟨rfl, rfl⟩; exact ⟨rfl, _, rfl⟩)))
            go_wp2
            go_roundw
            case rel => exact ⟨k + 1, by go_num, by omega, congrArg Value.string HSk.out, HBl.out _, HBx.out _⟩
            case measure => simp [intOf]; omega
          · obtain rfl : k = c.n6 := by omega
            have hzL : (bytesA (asc1 C ++ (C.ands.take c.n6).flatMap (fun x => rowT (andN x)))).size ≤ 200000 := HZands.out c.n6
            clear hlt hk
            generalize bytesA (asc1 C ++ (C.ands.take c.n6).flatMap (fun x => rowT (andN x))) = A at *
            generalize bytesA (C.names.flatMap symT) = E7 at *
            go_wp2_with (first | (go_at_call 50; refine (R7.out _ HW.out.1).mono ?_; rintro e w5 ⟨rfl, hb5⟩; have HB5 := hide (HW.out.1.trans (hb5.mono HW.out.1.size)); have hcv := HConv.out w5 (A ++ E7); clear hb5))
            first | exact HPo.out _ _ HE2.out HB5.out | (have hh := HPo.out _ _ HE2.out HB5.out; rw [ByteArray.size_append] at hh; exact hh)
end Go.Proofs.YtimpddokepbabaaGreatDoor

namespace Go.Proofs.YtimpddokepbabaaGreatDoor
open Go.RowKit

/-- Bytes again out of the numbers that they are. -/
theorem numsU_of {ms : List Int} (h : Bytes8 ms) : ∃ t : List UInt8, ms = numsU t := by
  refine ⟨ms.map (fun n => UInt8.ofNat n.toNat), ?_⟩
  unfold numsU
  rw [List.map_map]
  conv => lhs; rw [← List.map_id ms]
  refine List.map_congr_left fun n hn => ?_
  have := h n hn
  show n = ((UInt8.ofNat n.toNat).toNat : Int)
  rw [UInt8.toNat_ofNat', Nat.mod_eq_of_lt (by omega)]
  omega
theorem infoU8C : (Tryz.prog.info? 5).map (fun i => (i.zero, i.size, i.bytes)) = some (some (.int .u8 0), 1, 1) := by kernel_rfl
theorem bytes_of_row {w : World} {a : Option Addr} {len cap : Nat} {zs : List Int} (h : IsRow .u8 w a len cap zs) : Bytes8 (zs.take len) := fun n hn => by
  exact bounds_u8 (h.row.2.1 n hn)
theorem own_alloc {w : World} {B : Nat} {e : TypeId} {size n : Nat} {v : Value} {xs : List Value} (o : Obj) (h : w.ownsRow B e size v n xs) : (w.alloc o).ownsRow B e size v n xs :=
  own_block h (fun g hv => (World.grownBy_alloc w o none).block g (h.lt g hv).2 (by simp))

theorem two_new (w3 : World) : Row8 (w3.alloc (.cells #[.int .u8 99, .int .u8 10] 5)) (some ⟨w3.heap.size, 0, none⟩) [99, 10] := row8_new w3 [99, 10] _ _

set_option maxRecDepth 100000 in
set_option maxHeartbeats 4000000 in
theorem asciiComments_any (c : CV) (a : Option Addr) (len cap : Nat) (zs : List Int) (C : Circ) (w : World) (hc : CameS w c C) (hr : IsRow .u8 w a len cap zs) (hE : Env w) (hM : EnvM w) :
    Calls Tryz.prog 5 #[c.v, .slice a len cap] w fun e w' => e = .returned (.bool true) ∧ Below w.heap.size w w' := by
  obtain ⟨i0, hi, hz0, hz1, hz2⟩ := info_parts infoU8C
  have hb := bytes_of_row hr
  obtain ⟨hrow, -, ha, hx, hcp, hm⟩ := hr.row
  clear hr
  generalize zs.take len = ms at hrow hb hx
  have HAl := hide (fun W (hb : Below w.heap.size w W) => alive5_any W (hE.below hb) (hM.below hb))
  have HB0 := hide (And.intro (box_new w c) (below_alloc w (.cells #[.int .i64 c.m, .slice c.a1 c.n1 c.c1, .slice c.a2 c.n2 c.c2, .slice c.a3 c.n3 c.c3, .slice c.a4 c.n4 c.c4, .slice c.a5 c.n5 c.c5, .slice c.a6 c.n6 c.c6, .slice c.a7 c.n7 c.c7] 29)))
  have hcv : c.v = .agg #[.int .i64 c.m, .slice c.a1 c.n1 c.c1, .slice c.a2 c.n2 c.c2, .slice c.a3 c.n3 c.c3, .slice c.a4 c.n4 c.c4, .slice c.a5 c.n5 c.c5, .slice c.a6 c.n6 c.c6, .slice c.a7 c.n7 c.c7] := rfl
  by_cases hg : C.checkI = 0
  · have HAs := hide (fun W (hb : Below w.heap.size w W) => refAscii_good c C W (hc.came.holds.below hb) hg)
    have hW := wr_of hg
    have hT0 := asciiT_le hW
    have hs := hW.small
    have HH := hide hc.came.holds
    have HRw := hide hrow
    obtain ⟨t, rfl⟩ := numsU_of hb
    have HBk := hide (fun (hl : t.length ≤ 500) (hL : (asciiT C).length ≤ 4000) => ascii_back C hg (99 :: 10 :: t) (.inr ⟨t, rfl⟩) (by rw [List.length_append, List.length_cons, List.length_cons]; omega))
    have HRd : Hid (Read c) := by
      have h := hc.came.holds
      have s1 := hs.ins
      have s2 := hs.lats
      have s3 := hs.outs
      have s4 := hs.bads
      have s5 := hs.cons
      have s6 := hs.ands
      have s7 := hs.names
      rw [h.l1] at s1
      rw [h.l2] at s2
      rw [h.l3] at s3
      rw [h.l4] at s4
      rw [h.l5] at s5
      rw [h.l6] at s6
      rw [h.l7] at s7
      exact (⟨by omega, by omega, by omega, by omega, by omega, by omega, by omega⟩ : Read c)
    have HNum := hide (fun n W => num5_any n W)
    rw [numsU_len] at hx
    have HTl : Hid ((numsU (asciiT C)).length = (asciiT C).length) := numsU_len _
    have HNT : Hid (∀ n, (asciiT C).length = n → n ≤ 80000) := fun n h => by omega
    rw [hcv] at HAs ⊢
    clear hc hs hW hg hb hrow hT0
    go_enter Tryz.func5, Tryz.ntmps5
    go_wp2_with fail
    refine (HAl.out _ HB0.out.2).mono ?_
    rintro e w1 ⟨rfl, hb1⟩
    have T1 := hide (And.intro (HB0.out.1.below hb1) (belowThen HB0.out.2 hb1))
    clear hb1 HAl HB0
    obtain ⟨p0, p1, p2, p3, p4, p5, p6, p7⟩ := T1.out.1.cells
    go_wp2_with fail
    refine (HAs.out _ T1.out.2).mono ?_
    rintro e w2 ⟨g, cp, rfl, hrow2, hc2, hcm2, hb2⟩
    have T2 := hide (And.intro (T1.out.1.below hb2) (belowThen T1.out.2 hb2))
    have HR2 := hide hrow2
    clear hb2 HAs T1 p0 p1 p2 p3 p4 p5 p6 p7 hrow2
    obtain ⟨N, HN⟩ : ∃ N, Hid (N = (asciiT C).length) := ⟨_, rfl⟩
    rw [← HN.out] at hc2 ⊢
    have hN0 := HNT.out N HN.out.symm
    have hHTl := HTl.out
    rw [← HN.out] at hHTl
    by_cases h5 : 500 < len
    · go_wp2
      go_ret
      exact ⟨rfl, T2.out.2⟩
    by_cases h4 : 4000 < N
    · go_wp2
      go_ret
      exact ⟨rfl, T2.out.2⟩
    have HTlN := hide hHTl
    have HX' : Hid ((numsU t).length = len) := (numsU_len t).trans hx
    clear hHTl
    go_wp2_with (first | (at_builtin; refine wpList_append_row _ rfl (.const (.slice none 0 0)) (.tmp 34) 22 rfl .u8 w2.heap.size 5 i0 (.int .u8 0) 1 Tryz.underlying22 hi hz0 hz1 hz2 rfl _ 0 [] rfl (World.ownsRow_nil _ _ _ _) (some ⟨g, 0, none⟩) N cp (numsU (asciiT C)) rfl HTlN.out HR2.out (fun e => by cases e) (by unfold maxLen; omega) (by omega) (Nat.le_refl _) ?_; intro v3 w3 hown3 hg3; have hb3 : Below w2.heap.size w2 w3 := (Below.refl _ _).grown hg3 (Nat.le_refl _) (fun k hk => by cases hk)) | (at_builtin; refine wpList_append_row _ rfl (.tmp 35) (.tmp 36) 22 rfl .u8 w2.heap.size 5 i0 (.int .u8 0) 1 Tryz.underlying22 hi hz0 hz1 hz2 rfl _ _ _ rfl (own_alloc _ hown3) (some ⟨w3.heap.size, 0, none⟩) 2 2 [99, 10] rfl rfl (two_new w3) (fun e => by cases e) (by unfold maxLen; omega) (by omega) (Nat.le_trans hb3.size (below_alloc w3 _).size) ?_; intro v4 w4 hown4 hg4; have hb4 : Below w2.heap.size w2 w4 := (belowThen hb3 (below_alloc w3 _)).grown hg4 (Nat.le_trans hb3.size (below_alloc w3 _).size) (fun k hk => (hown3.lt k hk).1)) | (at_builtin; refine wpList_append_row _ rfl (.tmp 37) (.tmp 38) 22 rfl .u8 w2.heap.size 5 i0 (.int .u8 0) 1 Tryz.underlying22 hi hz0 hz1 hz2 rfl _ _ _ rfl hown4 a len cap (numsU t) rfl HX'.out (HRw.out.below (T2.out.2.trans (hb4.mono T2.out.2.size))) ha (by unfold maxLen; omega) (by omega) hb4.size ?_; intro v5 w5 hown5 hg5; have HB5 := hide (belowThen T2.out.2 (hb4.grown hg5 hb4.size (fun k hk => (hown4.lt k hk).1)))))
    have e5 : ([] : List Value) ++ (numsU (asciiT C)).map (Value.int .u8) ++ ([99, 10] : List Int).map (Value.int .u8) ++ (numsU t).map (Value.int .u8) = (numsU (asciiT C ++ 99 :: 10 :: t)).map (Value.int .u8) := by simp [numsU]
    rw [e5, show 0 + N + 2 + len = N + 2 + len by omega] at hown5
    obtain ⟨a5, cap5, rfl, hrow5, hnc5, hl5, hcp5, hcm5⟩ := row_of_own hown5
    have HC5 := hide (T2.out.1.below (hb4.grown hg5 hb4.size (fun k hk => (hown4.lt k hk).1)))
    have HBk2 := HBk.out (by omega) (by rw [← HN.out]; omega)
    have HRd5 := hide (asciiRead_any a5 (N + 2 + len) cap5 _ w5 ⟨hrow5, hl5, hnc5, hcp5, hcm5, numsU_bytes _, by omega, hE.below HB5.out, hM.below HB5.out⟩)
    unfold ReadPost at HRd5
    rw [HBk2.1, HBk2.2] at HRd5
    clear e5 hown5 hrow5 hnc5 hl5 hcp5 hcm5 HBk2 HBk hown3 hown4 hg3 hg4 hg5 hb3 hb4 HNT HR2 HRw
    go_wp2_with fail
    refine HRd5.out.mono ?_
    rintro e w6 ⟨d, rfl, hd, rd, ab, hb6⟩
    unfold CV.v
    have HB6 := hide (belowThen HB5.out hb6)
    have HC6 := hide (HC5.out.below hb6)
    have HD := hide (And.intro hd rd)
    clear hd rd ab hb6 HRd5 HC5 HB5
    go_upto_region 6 with fail
    have hba := below_alloc w6 (.cells #[.int .i64 d.m, .slice d.a1 d.n1 d.c1, .slice d.a2 d.n2 d.c2, .slice d.a3 d.n3 d.c3, .slice d.a4 d.n4 d.c4, .slice d.a5 d.n5 d.c5, .slice d.a6 d.n6 d.c6, .slice d.a7 d.n7 d.c7] 29)
    have HB7 := hide (belowThen HB6.out hba)
    have B7 := hide (box_new w6 d)
    have C7 := hide (HC6.out.below hba)
    have HD7 := hide (HD.out.1.below hba)
    have HSm := hide (fun W (hb : Below (w6.alloc (.cells #[.int .i64 d.m, .slice d.a1 d.n1 d.c1, .slice d.a2 d.n2 d.c2, .slice d.a3 d.n3 d.c3, .slice d.a4 d.n4 d.c4, .slice d.a5 d.n5 d.c5, .slice d.a6 d.n6 d.c6, .slice d.a7 d.n7 d.c7] 29)).heap.size (w6.alloc (.cells #[.int .i64 d.m, .slice d.a1 d.n1 d.c1, .slice d.a2 d.n2 d.c2, .slice d.a3 d.n3 d.c3, .slice d.a4 d.n4 d.c4, .slice d.a5 d.n5 d.c5, .slice d.a6 d.n6 d.c6, .slice d.a7 d.n7 d.c7] 29)) W) => refSame_any d c C C W (HD7.out.below hb) (HH.out.below (belowThen HB7.out hb)) HD.out.2 HRd.out)
    rw [show sameB C C = true by unfold sameB; simp] at HSm
    unfold CV.v at HSm
    generalize w6.alloc (.cells #[.int .i64 d.m, .slice d.a1 d.n1 d.c1, .slice d.a2 d.n2 d.c2, .slice d.a3 d.n3 d.c3, .slice d.a4 d.n4 d.c4, .slice d.a5 d.n5 d.c5, .slice d.a6 d.n6 d.c6, .slice d.a7 d.n7 d.c7] 29) = W7 at *
    clear hba HD HD7 HC6
    obtain ⟨p0, p1, p2, p3, p4, p5, p6, p7⟩ := C7.out.cells
    obtain ⟨q0, q1, q2, q3, q4, q5, q6, q7⟩ := B7.out.cells
    go_wp2_with (first | (go_at_call 14; refine (HNum.out _ _).mono ?_; rintro e w7 ⟨rfl, rfl⟩) | (go_at_call 15; refine (HSm.out _ (by first | exact Drew.below ⟨1, rfl⟩ | exact Below.refl _ _)).mono ?_; rintro e w8 ⟨rfl, hb8⟩))
    go_ret
    first | exact ⟨rfl, belowThen HB7.out (belowThen (Drew.below ⟨1, rfl⟩) hb8)⟩ | exact ⟨rfl, belowThen HB7.out hb8⟩
  · have HAs := hide (fun W (hb : Below w.heap.size w W) => refAscii_bad c C W (hc.came.holds.below hb) hc.came.m hc.n1 hc.n2 hc.n3 hc.n4 hc.n5 hc.n6 hc.n7 hc.names hg)
    generalize C.checkI = E at *
    have hE1 : (E == 0) = false := by rw [beq_eq_false_iff_ne]; exact hg
    have hE2 : (E != 0) = true := by rw [bne, hE1]; rfl
    rw [hcv] at HAs ⊢
    clear hc hg hb hrow hcv hE hM
    go_enter Tryz.func5, Tryz.ntmps5
    go_wp2_with fail
    refine (HAl.out _ HB0.out.2).mono ?_
    rintro e w1 ⟨rfl, hb1⟩
    have T1 := hide (And.intro (HB0.out.1.below hb1) (belowThen HB0.out.2 hb1))
    clear hb1 HAl HB0
    obtain ⟨p0, p1, p2, p3, p4, p5, p6, p7⟩ := T1.out.1.cells
    go_wp2_with fail
    refine (HAs.out _ T1.out.2).mono ?_
    rintro e w2 ⟨rfl, hb2⟩
    have HB2 := hide (belowThen T1.out.2 hb2)
    clear hb2 HAs T1 p0 p1 p2 p3 p4 p5 p6 p7
    go_wp2
    go_ret
    exact ⟨rfl, HB2.out⟩
end Go.Proofs.YtimpddokepbabaaGreatDoor
