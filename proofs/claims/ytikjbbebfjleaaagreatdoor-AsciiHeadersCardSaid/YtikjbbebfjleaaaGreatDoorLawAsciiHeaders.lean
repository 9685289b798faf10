/-
  THE LAW AsciiHeaders, walked.
-/
import Derived.Test.YtikjbbebfjleaaaGreatDoorRd3
import Derived.Test.YtikjbbebfjleaaaGreatDoorRefHead
namespace Go.Proofs.YtikjbbebfjleaaaGreatDoor
open Go.RowKit

set_option maxRecDepth 100000 in
set_option maxHeartbeats 1000000 in
theorem asciiHeaders_any (s : ByteArray) (w : World) (hs : s.size ≤ 281474976710656) (hE : Env w) (hM : EnvM w) :
    Calls Tryz.prog 4 #[.string s] w fun e w' => e = .returned (.bool true) ∧ Below w.heap.size w w' := by
  have HAl := hide (alive5_any w hE hM)
  by_cases hbig : 300 < s.size
  · clear hE hM
    go_enter Tryz.func4, Tryz.ntmps4
    go_wp2_with (first | (go_at_call 11; refine HAl.out.mono ?_; rintro e w1 ⟨rfl, hb1⟩))
    go_ret
    exact ⟨rfl, hb1⟩
  · have H1 := hide (fun W (hb : Below w.heap.size w W) => headerA_any s W (by omega) (hE.below hb) (hM.below hb))
    have H2 := hide (fun W => refHeader_any s W (by omega))
    have HNum := hide (fun n W => num5_any n W)
    have hlen : (hdrL s).length ≤ 9 := by
      unfold hdrL
      split
      · rw [hdr9_len]; exact Nat.le_refl _
      · exact Nat.zero_le _
    generalize hdrE s = E at *
    generalize hdrL s = L at *
    have hEE : (E == E) = true := by simp
    have HLn := hide hlen
    clear hE hM hlen
    go_enter Tryz.func4, Tryz.ntmps4
    go_wp2_with (first | (go_at_call 11; refine HAl.out.mono ?_; rintro e w1 ⟨rfl, hb1⟩; have HB1 := hide hb1; clear hb1) | (go_at_call 16; refine (H1.out _ HB1.out).mono ?_; rintro e w2 ⟨v2, rfl, ho2, hb2⟩; have HB2 := hide (belowThen HB1.out hb2); have O2 := hide ho2; clear ho2 hb2) | (go_at_call 17; refine (H2.out _).mono ?_; rintro e w3 ⟨v3, rfl, ho3, hb3⟩; have HB3 := hide (belowThen HB2.out hb3); obtain ⟨a2, c2, rfl, r2, -⟩ := row_of_own (own_below O2.out hb3); obtain ⟨a3, c3, rfl, r3, -⟩ := row_of_own ho3; have HSm := hide (same_any a2 a3 L.length c2 L.length c3 L L w3 r2 rfl r3 rfl (by have := HLn.out; omega) (by have := HLn.out; omega)); rw [decide_eq_true rfl] at HSm; clear r2 r3 ho3 hb3 O2; generalize L.length = ln at *) | (go_at_call 14; refine (HNum.out _ _).mono ?_; rintro e w7 ⟨rfl, rfl⟩) | (go_at_call 18; refine HSm.out.mono ?_; rintro e w8 ⟨rfl, hw8⟩))
    go_ret
    exact ⟨rfl, belowThen HB3.out hw8.below⟩
end Go.Proofs.YtikjbbebfjleaaaGreatDoor
